/-
  Proved: salesroomlaw05.MarketsBytes answers true, for any market, in whatever memory. No conditions.
-/
import Derived.Test.YtoogldllcgbmdaaRows
import Derived.Test.YtoogldllcgbmdaaLift
import Derived.Test.YtoogldllcgbmdaaAlive5
namespace Go.Proofs.Ytoogldllcgbmdaa.marketsBytes
open Go.ChangeShapes Go.WideShapes Go.ChangeAt Go.RowKit
set_option linter.unusedVariables false

def cost (u : Ls) : Nat := 1 + 4 * u.n
theorem cost_take {l : List Ls} {j : Nat} (hj : j < l.length) : ((l.take (j + 1)).map cost).sum = ((l.take j).map cost).sum + cost l[j] := by
  rw [List.take_succ_eq_append_getElem hj, List.map_append, List.sum_append]
  simp

set_option maxRecDepth 100000 in
set_option maxHeartbeats 2000000 in
theorem walk (x : Mk) (w : World) (h : x.Ok w) :
    Calls Try.prog 9 #[x.v] w fun e w' => e = .returned (.bool true) ∧ Below w.heap.size w w' := by
  obtain ⟨β, hβ⟩ : ∃ β, x.may = β := ⟨_, rfl⟩
  have hv : x.v = .agg #[.slice x.r.A x.r.n x.r.c, .slice x.A x.n x.c, .slice x.o.A x.o.n x.o.c] := rfl
  have HV := Lib.hid hv
  rw [hv]
  clear hv
  have hbox := InBox.new w x
  have hBW : Below w.heap.size w (w.alloc (.cells #[.slice x.r.A x.r.n x.r.c, .slice x.A x.n x.c, .slice x.o.A x.o.n x.o.c] 25)) := (Below.refl _ w).alloc (Nat.le_refl _) _
  have hc := mputC x _ (h.below hBW)
  rw [HV.out] at hc
  cases β
  · have herr : x.err = 1 := by rw [Mk.err, hβ]; rfl
    rw [herr] at hc
    clear hβ herr
    go_enter Try.func9, Try.ntmps9
    go_wp2_with fail
    refine hc.mono ?_
    rintro e w1 ⟨A1, n1, c1, rfl, ho1, hb1⟩
    have hB := hBW.trans (hb1.mono hBW.size)
    clear hc ho1
    go_wp2_with fail
    refine (alive5_any w1).mono ?_
    rintro e w2 ⟨rfl, hb2⟩
    have hB2 := hB.trans (hb2.mono hB.size)
    go_wp2
    go_ret
    exact ⟨rfl, hB2⟩
  · have herr : x.err = 0 := by rw [Mk.err, hβ]; rfl
    have hbs : x.bytes = putM x.r.zs (Ls.all x.b) x.o.zs := by rw [Mk.bytes, if_pos hβ]
    have hlen := putM_len (show mayM x.r.zs (Ls.all x.b) x.o.zs = true from hβ)
    obtain ⟨l1, l2, l3, l4, l5, l6, l7, l8⟩ := mk_len h hβ
    have lo8 : x.o.n ≤ 8 := by omega
    have hbl : x.b.length = x.n := h.len
    have hsum : ((Ls.all x.b).map fun l => 1 + 4 * l.length).sum = (x.b.map cost).sum := by
      rw [Ls.all, List.map_map]
      congr 1
      refine List.map_congr_left fun u hu => ?_
      show 1 + 4 * u.zs.length = cost u
      rw [cost, (h.bs u hu).len]
    rw [hsum, h.r.len, h.o.len] at hlen
    rw [herr, hbs] at hc
    have HL := Lib.hid hlen
    have HBL := Lib.hid hbl
    have H6 := Lib.hid l6
    have hls := h.lss
    clear hβ herr hbs hlen hbl l5 l6 l7 l8 hsum
    go_enter Try.func9, Try.ntmps9
    go_wp2_with fail
    refine hc.mono ?_
    rintro e w1 ⟨A1, n1, c1, rfl, ho1, hb1⟩
    have hB := hBW.trans (hb1.mono hBW.size)
    have hbox1 := hbox.below hb1
    have hn1 := ho1.len
    rw [cu8_len, HL.out] at hn1
    have HN1 := Lib.hid hn1
    have ⟨c0, c1', c2', clt⟩ := hbox1
    clear hc ho1 hn1 hbox hb1 hBW
    have s1 : IntKind.i64.wrap (3 + 4 * (x.r.n : Int) + 4 * (x.o.n : Int)) = 3 + 4 * (x.r.n : Int) + 4 * (x.o.n : Int) := by rw [IntKind.wrap_i64]; omega
    go_wp2_with fail
    go_loop [5, 6] (fun t i => ∃ j : Nat, j ≤ x.n ∧ i = .int .i64 j ∧ ∃ T : Int, t = .int .i64 T ∧ (0 ≤ T ∧ T ≤ 400) ∧ Hid (∃ s : Nat, s ≤ 33 * j ∧ T = 3 + 4 * (x.r.n : Int) + 4 * (x.o.n : Int) + (s : Int) ∧ ((x.b.take j).map cost).sum = s)) (fun _ i => x.n - (intOf i).toNat)
    case atStart => exact ⟨0, Nat.zero_le _, rfl, _, rfl, by omega, Lib.hid ⟨0, Nat.zero_le _, by omega, rfl⟩⟩
    case round =>
      obtain ⟨j, hj, rfl, T, rfl, hT, hsum⟩ := hrel
      by_cases hlt : j < x.n
      · obtain ⟨p, q, u, hA, hu, hp, hcl, hk⟩ := hls.get hlt
        have hcell : w1.cell? ⟨p, q + j, none⟩ = some (.slice u.A u.n u.c) := (hB.cell (p := ⟨p, q + j, none⟩) hp).trans hcl
        have hun := H6.out u (List.mem_of_getElem? hu)
        rw [hA] at c1'
        have hjl : j < x.b.length := by rw [HBL.out]; exact hlt
        have hst := cost_take hjl
        rw [List.getElem?_eq_getElem hjl] at hu
        rw [Option.some.inj hu] at hst
        have hun8 : u.n ≤ 8 := by omega
        have hnext : Hid (∃ s : Nat, s ≤ 33 * (j + 1) ∧ T + 1 + 4 * (u.n : Int) = 3 + 4 * (x.r.n : Int) + 4 * (x.o.n : Int) + (s : Int) ∧ ((x.b.take (j + 1)).map cost).sum = s) := Lib.hid (by
          obtain ⟨s, g1, g2, g3⟩ := hsum.out
          exact ⟨s + (1 + 4 * u.n), by omega, by omega, by rw [hst, g3]; rfl⟩)
        have hT2 : T + 1 + 4 * (u.n : Int) ≤ 400 := by
          obtain ⟨s, g1, g2, g3⟩ := hnext.out
          omega
        have s3 : IntKind.i64.wrap (T + 1 + 4 * (u.n : Int)) = T + 1 + 4 * (u.n : Int) := by rw [IntKind.wrap_i64]; omega
        clear hu hcl hk hst hjl hA
        go_wp2
        go_round
        case rel => exact ⟨j + 1, by omega, by go_num, _, rfl, by omega, hnext⟩
        case measure => simp [intOf]; omega
      · obtain rfl : j = x.n := by omega
        have hfin : (n1 : Int) = T := by
          obtain ⟨s, g1, g2, g3⟩ := hsum.out
          rw [List.take_of_length_le (by rw [HBL.out]; exact Nat.le_refl _)] at g3
          have h1 := HN1.out
          rw [g3] at h1
          omega
        subst hfin
        go_wp2_with fail
        refine (alive5_any w1).mono ?_
        rintro e w2 ⟨rfl, hb2⟩
        have hB2 := hB.trans (hb2.mono hB.size)
        go_wp2
        go_ret
        exact ⟨by simp, hB2⟩

theorem own : ownKnob Try.prog.godebug = none := by kernel_rfl
theorem laidOut : laidOutB Try.prog = true := by kernel_rfl

set_option maxRecDepth 100000 in
theorem lifted (os : Os) (started : os.Started) (H : Type) (enc : TypeId × Value → H) :
    ReturnsInHanded {} Try.checked os 9 .any (Rows.marketsBytesSpec.pre6 enc Try.prog Try.f9 Rows.marketsBytesRow.domain false) (Rows.marketsBytesSpec.post enc Try.prog Try.f9 false true false false) := by
  refine returnsInHanded_of_change (C := Try.checked) own started (by kernel_rfl) Try.func9
    (ChangeSpec.witness6 (enc := enc) (C := Try.checked) false ⟨#[], #[.agg #[.slice none 0 0, .slice none 0 0, .slice none 0 0]], []⟩ 8 (by kernel_rfl) (by kernel_rfl) (by kernel_rfl) (by kernel_rfl)) ?_
  intro W base args ds gs before hval0 hW hcnd _
  have hval : ∀ (j : Nat) t v, Try.f9.params[j]? = some t → args[j]? = some v → Value.okWide Try.prog W .any base t v := hval0
  have hW' := hW
  obtain ⟨p, q, hA0, hV, rfl, hfz, hnd⟩ := hW
  have hA : DataW.TrodAll enc Try.prog W 0 (fun _ => true) true Try.f9.params.toList args.toList ds p := hA0
  rw [Try.params9] at hA hval
  obtain ⟨v0, vs0, d0, ds0, p0, q0, hargs, rfl, rfl, h0, r0⟩ := trodAll_cons hA
  obtain ⟨rfl, rfl, rfl⟩ := trodAll_nil r0
  obtain rfl : args = #[v0] := by cases args; simp_all
  obtain ⟨u0, rfl, k0⟩ := arg_mk Try.underlying25 (by kernel_rfl) (by kernel_rfl) Try.underlying22 Try.underlying23 Try.underlying22 Try.underlying22 (by kernel_rfl) Try.underlying3 (by kernel_rfl) (hval 0 25 v0 rfl rfl) h0
  have hwalk : Calls Try.prog 9 #[u0.v] W fun e w' => e = .returned (.bool true) ∧ Below W.heap.size W w' := walk u0 W k0
  refine hwalk.mono fun e W' ⟨he, hg⟩ => ?_
  subst he
  exact ⟨_, rfl, law_post laidOut (by kernel_rfl) hW' rfl rfl (by kernel_rfl) Try.underlying4 hg⟩

theorem over : Rows.marketsBytesRow.holds Try.pinned (OpenSpec.ofChange Rows.marketsBytesSpec) :=
  OpenClaim.holds_of_wide 9 Try.f9 rfl rfl rfl rfl rfl rfl rfl ⟨rfl, rfl, rfl, rfl, rfl⟩ rfl rfl rfl rfl rfl (by kernel_rfl) Try.func9 (by kernel_rfl)
    (of_decide_eq_true (by kernel_rfl)) (by unfold Func.isWrapper; first | (rw [if_pos (by decide +kernel)]; kernel_rfl) | (rw [if_neg (by decide +kernel)]; exact ⟨rfl, rfl⟩))
    (fun os started H enc _ => lifted os started H enc)

theorem proved : Rows.MarketsBytesSaid :=
  over

end Go.Proofs.Ytoogldllcgbmdaa.marketsBytes
