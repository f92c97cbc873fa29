/-
  What GraphsOf needs besides: a twin of lists, as one fact; a Graph that came in, and how much it is.
-/
import Derived.Test.YtjjaajmjcdihoaaGreatDoorGrN
import Derived.Test.YtjjaajmjcdihoaaGreatDoorPcs
import Derived.Test.YtjjaajmjcdihoaaGreatDoorLeftM
import Derived.Test.YtjjaajmjcdihoaaGreatDoorSizes2
namespace Go.Proofs.YtjjaajmjcdihoaaGreatDoor
open Go.ChangeShapes Go.WideShapes Go.ChangeAt Go.RowKit Go.Joins Go.Deep
set_option linter.unusedVariables false

theorem left_gr (y x : Gr) (w : World) (B : Nat) (h : TwnL w B y) (hx : x.Ok w) (hg : y.g = x.g) (hn : y.n = x.n) (h1 : x.n ≤ 1000000) (h2 : ∀ u ∈ x.t, u.n ≤ 1000000000) :
    Calls Tryz.prog 26 #[y.v, x.v] w fun e w' => e = .returned (.bool true) ∧ Below w.heap.size w w' := by
  obtain ⟨m, ho, hm⟩ := h.own
  unfold Gr.v
  rw [← hn]
  exact leftintlists_any y.A y.n y.c y.t m x.A x.c x.t w B ho hm h.each (by rw [hn]; exact hx.lss) hg (by rw [hn]; exact h1) h2
theorem left_ls (y x : Ls) (w : World) (B : Nat) (h : Twn w B y) (hx : x.Ok w) (hz : y.zs = x.zs) (hn : y.n = x.n) (h1 : x.n ≤ 1000000000) :
    Calls Tryz.prog 11 #[y.v, x.v] w fun e w' => e = .returned (.bool true) ∧ Below w.heap.size w w' := by
  have ho := h.own
  rw [hz, hn] at ho
  unfold Ls.v
  rw [hn]
  exact leftints_any y.A x.n y.c x.zs x.A x.c w B ho hx.rd h1
theorem pcL_twn {w : World} {lo hi N : Nat} {x : Gr} (h : TwnL w lo x) (hh : lo ≤ hi) (hr : (∀ u ∈ x.t, ∀ g, Blk u g → g < hi) ∧ ∀ g, 0 < x.c → x.A = some ⟨g, 0, none⟩ → g < hi) (hk : N + x.n + 1 < 1000000000) (hn : ∀ u ∈ x.t, u.n ≤ 1000000000) : (pcL x.A x.n x.c x.t N).Ok w lo hi :=
  pcL_ok h.lists (fun u hu => (h.each u hu).own') h.apt hh hr.2 hr.1 h.ok.len hk hn
theorem pcI_twn {w : World} {lo hi k : Nat} {u : Ls} (h : Twn w lo u) (hh : lo ≤ hi) (hr : ∀ g, Blk u g → g < hi) (hk : k < 1000000000) (hn : u.n ≤ 1000000000) : (pcI u k).Ok w lo hi := by
  obtain ⟨ys, hy⟩ := h.own'
  exact pcI_ok hy hh (fun g hc hA => hr g ⟨hc, hA⟩) hk hn
theorem pcI_own {w : World} {lo hi k : Nat} {u : Ls} (h : OwnI w lo u) (hh : lo ≤ hi) (hr : ∀ g, Blk u g → g < hi) (hk : k < 1000000000) (hn : u.n ≤ 1000000000) : (pcI u k).Ok w lo hi :=
  pcI_ok h.own hh (fun g hc hA => hr g ⟨hc, hA⟩) hk hn
/-- How much is in what has these lists. -/
theorem twin_small {x y : Gr} {w w' : World} (hg : y.g = x.g) (hy : y.Ok w) (hx : x.Ok w') {M : Nat} (h : ∀ u ∈ x.t, u.n ≤ M) : ∀ u ∈ y.t, u.n ≤ M := by
  intro u hu
  have h4 : u.zs ∈ x.g := by rw [← hg]; exact List.mem_map_of_mem hu
  obtain ⟨v, hv, he⟩ := List.mem_map.1 h4
  rw [← (hy.lss.ok u hu).len, ← he, (hx.lss.ok v hv).len]
  exact h v hv
theorem turned_small {g : List (List Int)} {m : Int} {w : World} {B : Nat} {A : Option Addr} {n c : Nat} {t : List Ls} (h : Outs w B A n c t) (hq : Ls.all t = turnedE g m) : n ≤ 8 ∧ ∀ u ∈ t, u.n ≤ 8 := by
  have h2 : (turnedE g m).length ≤ 8 ∧ ∀ l ∈ turnedE g m, l.length ≤ 8 := by
    unfold turnedE
    by_cases hc : checkG g m = true
    · rw [if_pos hc]
      obtain ⟨q1, q2, q3, _⟩ := checkG_iff.1 hc
      refine ⟨by rw [turnedG_len]; omega, fun l hl => ?_⟩
      obtain ⟨k, _, rfl⟩ := List.mem_map.1 hl
      have := upto_len g.length fun i => decide ((k : Int) ∈ g.getD i [])
      rw [rowT]; omega
    · rw [if_neg hc]; simp
  rw [← hq] at h2
  refine ⟨by rw [← h.len]; simpa [Ls.all] using h2.1, fun u hu => ?_⟩
  rw [← (h.each u hu).len]
  exact h2.2 u.zs (List.mem_map_of_mem hu)
theorem near_small {g : List (List Int)} {m : Int} {s : List Int} : (nearE g m s).length ≤ 8 := by
  unfold nearE
  by_cases hc : nearOk g m s = true
  · rw [if_pos hc]
    rw [nearOk, Bool.and_eq_true] at hc
    obtain ⟨q1, q2, q3, _⟩ := checkG_iff.1 hc.1
    have := upto_len m.toNat fun k => s.any fun i => decide ((k : Int) ∈ g.getD i.toNat [])
    rw [nearG]; omega
  · rw [if_neg hc]; simp

section
variable {H : Type} {enc : TypeId × Value → H} {P : Program} {w : World} {base : Nat} {held : Bool} {r : Reach} {b0 : Nat} {t ti tl : TypeId} {f0 f1 : Field} {v : Value} {d : DataW H} {ps : List MemPlace}
theorem open_gr_b {m : Nat} {cs : List Value} {y : DataW H × List MemPlace} (hs : P.underlying t = some (.struct #[f0, f1])) (hone : oneCellFields P #[f0, f1] = true) (hC : P.cellsOf t = 2) (k0 : P.underlying f0.type = some (.slice tl)) (k1 : P.underlying f1.type = some (.int .i64))
    (kl : P.underlying tl = some (.slice ti)) (hcl : P.cellsOf tl = 1) (ki : P.underlying ti = some (.int .i64)) (hci : P.cellsOf ti = 1) (h : DataW.trod enc P w base (fun _ => true) held m t cs = some y) :
    ∃ (x : Gr) (m : Int), cs = [x.v, .int .i64 m] ∧ x.Ok w ∧ -9223372036854775808 ≤ m ∧ m ≤ 9223372036854775807 ∧ sizeL x.t ≤ Rows.uptoBulk y.1 := by
  obtain ⟨y0, y1, n, rfl, hl, h0, h1⟩ := trod_struct2 hs h
  obtain ⟨o0, z0⟩ := hone_of hone 0 f0 rfl
  obtain ⟨o1, z1⟩ := hone_of hone 1 f1 rfl
  rw [hC] at hl
  match cs, hl with
  | [c0, c1], _ =>
    rw [o0, z0] at h0
    rw [o1, z1] at h1
    obtain ⟨A, k, c, l, e1, b1, b2, b3, b4, _, _, b6⟩ := open_recs_b (fun u : Ls => [u.v]) (Ls.Ok w) (fun u => u.n + 1) k0 hcl (by omega) (fun m cs' y hy => open_i64s_b kl ki hci hy) (show DataW.trod enc P w base (fun _ => true) held n f0.type [c0] = some y0 from h0)
    obtain ⟨m, rfl, hm⟩ := open_kc k1 (show DataW.trod enc P w base (fun _ => true) held n f1.type [c1] = some y1 from h1)
    have hb := bounds_i64 hm
    simp only [List.cons.injEq, and_true] at e1
    subst e1
    refine ⟨⟨A, k, c, l⟩, m, rfl, ⟨⟨b1, b2⟩, b3, b4⟩, hb.1, hb.2, ?_⟩
    simp only [Rows.uptoBulk, Rows.uptoBulkAll, sizeL]
    omega
theorem arg_gr_b (hs : P.underlying t = some (.struct #[f0, f1])) (hone : oneCellFields P #[f0, f1] = true) (hC : P.cellsOf t = 2) (k0 : P.underlying f0.type = some (.slice tl)) (k1 : P.underlying f1.type = some (.int .i64))
    (kl : P.underlying tl = some (.slice ti)) (hcl : P.cellsOf tl = 1) (ki : P.underlying ti = some (.int .i64)) (hci : P.cellsOf ti = 1) (hval : Value.okWide P w r b0 t v) (h : DataW.Trod enc P w base (fun _ => true) held t v d ps) :
    ∃ (x : Gr) (m : Int), v = .agg #[x.v, .int .i64 m] ∧ x.Ok w ∧ -9223372036854775808 ≤ m ∧ m ≤ 9223372036854775807 ∧ sizeL x.t ≤ Rows.uptoBulk d := by
  obtain ⟨cs, rfl, hsz⟩ := okWide_struct hs hval
  obtain ⟨fuel, hf⟩ := h
  obtain ⟨x, m, hu, hok, h1, h2, h3⟩ := open_gr_b hs hone hC k0 k1 kl hcl ki hci hf
  obtain ⟨c0, c1, rfl⟩ := array2 (hsz.trans hC)
  refine ⟨x, m, ?_, hok, h1, h2, h3⟩
  simp [Value.cells] at hu
  rw [hu.1, hu.2]
end
end Go.Proofs.YtjjaajmjcdihoaaGreatDoor
