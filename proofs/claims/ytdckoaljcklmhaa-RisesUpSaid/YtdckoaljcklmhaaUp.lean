/-
  A market, two bytes and a number of 16 bits in one struct that came in.
-/
import Derived.Test.YtdckoaljcklmhaaMarkO
import Derived.Test.YtdckoaljcklmhaaLift
namespace Go.Proofs.Ytdckoaljcklmhaa
open Go.ChangeShapes Go.WideShapes Go.ChangeAt Go.RowKit Go.Joins Go.Deep
set_option linter.unusedVariables false

section
variable {H : Type} {enc : TypeId × Value → H} {P : Program} {w : World} {base : Nat} {held : Bool} {r : Reach} {b0 : Nat} {t ti tl : TypeId} {g0 g1 g2 g3 f0 f1 f2 : Field} {v : Value} {d : DataW H} {ps : List MemPlace}
theorem arg_up (ht : P.underlying t = some (.struct #[g0, g1, g2, g3])) (hC6 : P.cellsOf t = 6) (o0 : g0.offset = 0) (o1 : g1.offset = 3) (o2 : g2.offset = 4) (o3 : g3.offset = 5)
    (c1 : P.cellsOf g1.type = 1) (c2 : P.cellsOf g2.type = 1) (c3 : P.cellsOf g3.type = 1) (u1 : P.underlying g1.type = some (.int .u8)) (u2 : P.underlying g2.type = some (.int .u8)) (u3 : P.underlying g3.type = some (.int .u16))
    (hs : P.underlying g0.type = some (.struct #[f0, f1, f2])) (hone : oneCellFields P #[f0, f1, f2] = true) (hC : P.cellsOf g0.type = 3) (k0 : P.underlying f0.type = some (.slice ti)) (k1 : P.underlying f1.type = some (.slice tl)) (k2 : P.underlying f2.type = some (.slice ti))
    (kl : P.underlying tl = some (.slice ti)) (hcl : P.cellsOf tl = 1) (ki : P.underlying ti = some (.int .i64)) (hci : P.cellsOf ti = 1) (hval : Value.okWide P w r b0 t v) (h : DataW.Trod enc P w base (fun _ => true) held t v d ps) :
    ∃ (u : Mk) (a b y : Nat), v = .agg #[.slice u.r.A u.r.n u.r.c, .slice u.A u.n u.c, .slice u.o.A u.o.n u.o.c, .int .u8 a, .int .u8 b, .int .u16 y] ∧ u.Ok w ∧ a < 256 ∧ b < 256 ∧ y < 65536 := by
  obtain ⟨cs, rfl, hsz⟩ := okWide_struct ht hval
  obtain ⟨fuel, hf⟩ := h
  obtain ⟨xs, n, _, _, _, hlen, hfl⟩ := DataW.trod_struct ht hf
  rw [hC6] at hsz
  obtain ⟨l, rfl⟩ : ∃ l : List Value, cs = l.toArray := ⟨cs.toList, by simp⟩
  rw [List.size_toArray] at hsz
  match l, hsz with
  | [v0, v1, v2, v3, v4, v5], _ =>
    match xs, hlen with
    | [x0, x1, x2, x3], _ =>
      have h0 := hfl 0 g0 rfl
      have h1 := hfl 1 g1 rfl
      have h2 := hfl 2 g2 rfl
      have h3 := hfl 3 g3 rfl
      rw [o0, hC] at h0
      rw [o1, c1] at h1
      rw [o2, c2] at h2
      rw [o3, c3] at h3
      obtain ⟨u, hu, hok⟩ := open_mk hs hone hC k0 k1 k2 kl hcl ki hci (show DataW.trod enc P w base (fun _ => true) held n g0.type [v0, v1, v2] = some x0 from h0)
      obtain ⟨a, rfl, ha⟩ := open_kc u1 (show DataW.trod enc P w base (fun _ => true) held n g1.type [v3] = some x1 from h1)
      obtain ⟨b, rfl, hb⟩ := open_kc u2 (show DataW.trod enc P w base (fun _ => true) held n g2.type [v4] = some x2 from h2)
      obtain ⟨y, rfl, hy⟩ := open_kc u3 (show DataW.trod enc P w base (fun _ => true) held n g3.type [v5] = some x3 from h3)
      obtain ⟨a', rfl, ha'⟩ := fit_u8 ha
      obtain ⟨b', rfl, hb'⟩ := fit_u8 hb
      obtain ⟨y', rfl, hy'⟩ := fit_u16 hy
      simp [Mk.cells] at hu
      obtain ⟨rfl, rfl, rfl⟩ := hu
      exact ⟨u, a', b', y', rfl, hok, ha', hb', hy'⟩
end
end Go.Proofs.Ytdckoaljcklmhaa
