/-
  Proved: at the end all who must have can, each what it would have; from the reserves on it is come to step by step
-/
import Derived.Test.YtdckoaljcklmhaaRows
import Derived.Test.YtdckoaljcklmhaaLift
import Derived.Test.YtdckoaljcklmhaaAlive13
import Derived.Test.YtdckoaljcklmhaaZeros
import Derived.Test.YtdckoaljcklmhaaRiN
import Derived.Test.YtdckoaljcklmhaaReg2
import Derived.Test.YtdckoaljcklmhaaMkS
import Derived.Test.YtdckoaljcklmhaaDeEach
import Derived.Deep.LoopGhost
namespace Go.Proofs.Ytdckoaljcklmhaa.risesEnd
open Go.ChangeShapes Go.WideShapes Go.ChangeAt Go.RowKit
set_option linter.unusedVariables false

theorem info6_int : (Try.prog.info? 3).map (fun i => (i.zero, i.size, i.bytes)) = some (some (.int .i64 0), 1, 8) := by kernel_rfl
theorem infoI_ints : (Try.prog.info? 22).map (fun i => (i.zero, i.size, i.bytes)) = some (some (.slice none 0 0), 1, 24) := by kernel_rfl
theorem own_num {w : World} {B : Nat} {A : Option Addr} {n c i : Nat} {zs : List Int} {z : Int} (h : OwnI w B ⟨A, n, c, zs⟩) (hi : zs[i]? = some z) (hin : i < n) : ∃ g, A = some ⟨g, 0, none⟩ ∧ g < w.heap.size ∧ w.cell? ⟨g, i, none⟩ = some (.int .i64 z) := by
  have hle := h.own.le
  simp only at hle
  obtain ⟨g, hA, _, hg⟩ := h.own.lt (show 0 < c by omega)
  simp only at hA
  subst hA
  have h1 := h.own.cell (j := i) hin
  rw [show ci64 zs = zs.map iV from rfl, List.getElem?_map, hi] at h1
  exact ⟨g, rfl, hg, h1⟩
theorem box_cells {w : World} {B g : Nat} {v0 v1 v2 : Value} (h : Own w B 25 (some ⟨g, 0, none⟩) 3 3 [v0, v1, v2]) : w.cell? ⟨g, 0, none⟩ = some v0 ∧ w.cell? ⟨g, 1, none⟩ = some v1 ∧ w.cell? ⟨g, 2, none⟩ = some v2 := ⟨h.cell (j := 0) (by omega), h.cell (j := 1) (by omega), h.cell (j := 2) (by omega)⟩
theorem all_set (b : List Ls) (i : Nat) (u : Ls) : Ls.all (b.set i u) = (Ls.all b).set i u.zs := by rw [Ls.all, Ls.all, List.map_set]
theorem getD_of {l : List Int} {k : Nat} {z : Int} (h : l[k]? = some z) : l.getD k 0 = z := by rw [List.getD_eq_getElem?_getD, h]; rfl
theorem own_at {w : World} {B : Nat} {e : TypeId} {A : Option Addr} {n c i : Nat} {xs : List Value} {v : Value} (h : Own w B e A n c xs) (hi : xs[i]? = some v) (hin : i < n) : ∃ g, A = some ⟨g, 0, none⟩ ∧ g < w.heap.size ∧ w.cell? ⟨g, i, none⟩ = some v := by
  have hle := h.le
  obtain ⟨g, rfl, _, hg⟩ := h.lt (show 0 < c by omega)
  exact ⟨g, rfl, hg, (h.cell hin).trans hi⟩
theorem ls_num {w : World} {A : Option Addr} {n c i : Nat} {zs : List Int} {z : Int} (h : Ls.Ok w ⟨A, n, c, zs⟩) (hi : zs[i]? = some z) (hin : i < n) : ∃ g o, A = some ⟨g, o, none⟩ ∧ g < w.heap.size ∧ w.cell? ⟨g, o + i, none⟩ = some (.int .i64 z) := by
  obtain ⟨p, q, hA, hp, t0, ht0, hc⟩ := h.rd.get (show i < n from hin)
  simp only at hA ht0
  rw [ci64, List.getElem?_map, hi] at ht0
  obtain rfl : iV z = t0 := Option.some.inj ht0
  exact ⟨p, q, hA, hp, hc⟩
theorem low_of {w : World} {B : Nat} {u : Ls} (h : OwnI w B u) : u.c = 0 ∨ ∃ g, g < w.heap.size ∧ u.A = some ⟨g, 0, none⟩ := by
  by_cases h0 : u.c = 0
  · exact .inl h0
  · obtain ⟨g, hA, _, hg⟩ := h.own.lt (by omega)
    exact .inr ⟨g, hg, hA⟩
theorem keep_low {w w' : World} {B N : Nat} {u : Ls} {e : TypeId} {Am : Option Addr} {nm cm : Nat} {ys : List Value} (h : OwnI w B u) (hlow : u.c = 0 ∨ ∃ g, g < N ∧ u.A = some ⟨g, 0, none⟩) (hmu : Own w N e Am nm cm ys) (hfr : ∀ k, k < w.heap.size → ((nm = 0 ∧ cm = 0) ∨ Am ≠ some ⟨k, 0, none⟩) → w'.heap[k]? = w.heap[k]?) : OwnI w' B u := by
  refine ⟨?_, h.fit⟩
  rcases hlow with h0 | ⟨g, hg, hA⟩
  · have hle := h.own.le
    exact ⟨h.own.1, .inl ⟨by omega, h0⟩⟩
  · refine h.own.keep fun g' hA' _ _ hlt => ?_
    rw [hA] at hA'
    cases hA'
    refine hfr g hlt ?_
    rcases hmu.2 with h0 | ⟨g2, cur, hA2, hN, _⟩
    · exact .inl h0
    · refine .inr fun e => ?_
      rw [hA2] at e
      cases e
      omega
/-- Is anything dearer, of the first ones? -/
def upB (p q : List Int) (j : Nat) : Bool := (List.range j).any fun i => decide (p.getD i 0 < q.getD i 0)
theorem upB_succ (p q : List Int) (j : Nat) : upB p q (j + 1) = (upB p q j || decide (p.getD j 0 < q.getD j 0)) := by
  rw [upB, List.range_succ, List.any_append, upB]; simp
theorem step_upB {L : List (List Int)} {p : List Int} (hrow : RowsM p L) : upB p (stepL L p) p.length = stepF L p := by
  cases h : fewS L p with
  | none =>
    rw [(stepL_none h).1, (stepL_none h).2, upB, List.any_eq_false]
    intro i _; simp
  | some S =>
    obtain ⟨c, hc, hlt⟩ := (step_up hrow h).2
    rw [(stepL_some h).2, upB, List.any_eq_true]
    exact ⟨c, List.mem_range.2 hc, decide_eq_true hlt⟩
theorem rows_len {r p : List Int} {L : List (List Int)} (h : RowsM r L) (hl : p.length = r.length) : RowsM p L := fun l hm => by rw [hl]; exact h l hm
theorem may_step {x : Mk} {p : List Int} (h : x.may = true) (h1 : LeP x.r.zs p) (h2 : LeP p (leastL x.r.zs (Ls.all x.b))) : mayS x p = true ∧ mayA x.r.zs (Ls.all x.b) x.o.zs p = true ∧ ∀ z ∈ p, 0 ≤ z ∧ z ≤ 1000000 := by
  obtain ⟨q1, ⟨_, _, _⟩, q3, _⟩ := (mayM_iff _ _ _).1 h
  obtain ⟨k1, k2, _, k4⟩ := (mayB_iff _ _).1 q1
  have hr := may_rows h
  have hm := least_most (z := 1000000) hr (fun z hz => (k4 z hz).2) fun l hl z hz => by
    have := q3 l hl
    rw [bidB, Bool.or_eq_true, decide_eq_true_eq] at this
    rcases this with e | e
    · rw [e] at hz; cases hz
    · exact ((mayB_iff _ _).1 e).2.2.2 z hz |>.2
  have hb : ∀ c, c < p.length → x.r.zs.getD c 0 ≤ p.getD c 0 ∧ 0 ≤ p.getD c 0 ∧ p.getD c 0 ≤ 1000000 := fun c hc => by
    have a1 := h1.2 c (by rw [h1.1]; exact hc)
    have a2 := h2.2 c hc
    have hc2 : c < (leastL x.r.zs (Ls.all x.b)).length := by rw [← h2.1]; exact hc
    have hc3 : c < x.r.zs.length := by rw [h1.1]; exact hc
    have a3 : (leastL x.r.zs (Ls.all x.b)).getD c 0 ≤ 1000000 := by
      rw [List.getD_eq_getElem?_getD, List.getElem?_eq_getElem hc2]; exact hm _ (List.getElem_mem hc2)
    have a4 : 0 ≤ x.r.zs.getD c 0 := by
      rw [List.getD_eq_getElem?_getD, List.getElem?_eq_getElem hc3]; exact (k4 _ (List.getElem_mem hc3)).1
    omega
  have hz : ∀ z ∈ p, 0 ≤ z ∧ z ≤ 1000000 := fun z hz => by
    obtain ⟨c, hc, rfl⟩ := List.getElem_of_mem hz
    have := hb c hc
    rw [List.getD_eq_getElem?_getD (l := p), List.getElem?_eq_getElem hc, Option.getD_some] at this
    omega
  refine ⟨mayS_iff.2 ⟨h, h1.1.symm, fun c hc => ?_⟩, mayA_iff.2 ⟨h, h1.1.symm, mayPr_iff.2 ⟨by have := h1.1; omega, by have := h1.1; omega, fun z hq => ?_⟩⟩, hz⟩
  · have := hb c hc; omega
  · have := hz z hq; omega
theorem graph_mix (L : List (List Int)) (p : List Int) : mixG (fun b => if gainD (L.getD b []) p = 0 then [] else itemsD (L.getD b []) p) (fun b => itemsD (L.getD b []) p) L.length L.length = graphP L p := by
  rw [mixG_all]
  refine List.ext_getElem? fun i => ?_
  rw [List.getElem?_map, graphP, List.getElem?_map]
  by_cases hi : i < L.length
  · rw [List.getElem?_range hi, List.getElem?_eq_getElem hi, Option.map_some, Option.map_some, List.getD_eq_getElem?_getD, List.getElem?_eq_getElem hi]; rfl
  · rw [List.getElem?_eq_none (by simp; omega), List.getElem?_eq_none (by omega)]; rfl
theorem no_few {L : List (List Int)} {p : List Int} (hrow : RowsM p L) (hm : p.length ≤ 8) (hn : L.length ≤ 8) (h : stepF L p = false) : fewF (graphP L p) p.length (mustP L p) = false ∧ nearErr (graphP L p) p.length (mustP L p) = 0 ∧ fewE (graphP L p) p.length (mustP L p) = [] := by
  have hf : fewS L p = none := by
    cases h4 : fewS L p with
    | none => rfl
    | some S => rw [stepF, h4] at h; cases h
  have hok : nearOk (graphP L p) p.length (mustP L p) = true := by
    rw [nearOk, graph_check hrow hm hn, Bool.true_and]
    exact decide_eq_true must_rises
  have hf2 : fewP (graphP L p) p.length (mustP L p) = none := hf
  exact ⟨(few_no hok hf2).1, by rw [nearErr, if_pos hok], (few_no hok hf2).2⟩

set_option maxRecDepth 100000 in
set_option maxHeartbeats 1000000 in
theorem walk (x : Mk) (w : World) (h : x.Ok w) :
    Calls Try.prog 3 #[x.v] w fun e w' => e = .returned (.bool true) ∧ Below w.heap.size w w' := by
  have hx := h
  have hB := Below.refl w.heap.size w
  have hxv : x.v = .agg #[.slice x.r.A x.r.n x.r.c, .slice x.A x.n x.c, .slice x.o.A x.o.n x.o.c] := rfl
  have Vx := Lib.hid hxv
  rw [hxv]
  have HBL : Hid ((Ls.all x.b).length = x.n) := Lib.hid (by rw [Ls.all, List.length_map, hx.len])
  have HRL : Hid (x.r.zs.length = x.r.n) := Lib.hid hx.r.len
  have btop := Nat.le_trans hx.cap hx.top
  have rtop := Nat.le_trans hx.r.cap hx.r.top
  unfold maxLen at btop rtop
  obtain ⟨B, hB0⟩ : ∃ B, x.may = B := ⟨_, rfl⟩
  clear hxv h
  go_enter Try.func3, Try.ntmps3
  have bx := InBox.new w x
  have hbx : Below w.heap.size w (w.alloc (.cells #[.slice x.r.A x.r.n x.r.c, .slice x.A x.n x.c, .slice x.o.A x.o.n x.o.c] 25)) := (Below.refl _ w).alloc (Nat.le_refl _) _
  replace hx := hx.below hbx
  replace hB := hB.trans (hbx.mono hB.size)
  clear hbx
  cases B
  · have HM0 := Lib.hid hB0
    have E1 := Lib.hid (show leastE x = [] ∧ x.err = 1 by simp [leastE, Mk.err, hB0])
    clear hB0
    have ex0 := bx.c0
    have ex1 := bx.c1
    have ex2 := bx.c2
    have hc := pleastC x (w.alloc (.cells #[.slice x.r.A x.r.n x.r.c, .slice x.A x.n x.c, .slice x.o.A x.o.n x.o.c] 25)) hx
    rw [Vx.out, E1.out.1, E1.out.2] at hc
    go_wp2_with fail
    clear ex0 ex1 ex2
    generalize w.alloc (.cells #[.slice x.r.A x.r.n x.r.c, .slice x.A x.n x.c, .slice x.o.A x.o.n x.o.c] 25) = W1 at *
    refine hc.mono ?_
    rintro e v2 ⟨A1, n1, c1, rfl, h1, hb⟩
    clear hc
    replace hx := hx.below hb
    replace bx := bx.below hb
    replace hB := hB.trans (hb.mono hB.size)
    clear hb
    clear h1
    have ex0 := bx.c0
    have ex1 := bx.c1
    have ex2 := bx.c2
    have hc := mcheckC x v2 hx
    rw [Vx.out, HM0.out] at hc
    go_wp2_with fail
    clear ex0 ex1 ex2
    refine hc.mono ?_
    rintro e v3 ⟨rfl, hb⟩
    clear hc
    replace hx := hx.below hb
    replace bx := bx.below hb
    replace hB := hB.trans (hb.mono hB.size)
    clear hb
    clear hx bx
    have hc := alive13_any v3
    go_wp2_with fail
    refine hc.mono ?_
    rintro e v4 ⟨rfl, hb⟩
    clear hc
    replace hB := hB.trans (hb.mono hB.size)
    clear hb
    go_wp2
    go_ret
    exact ⟨rfl, hB⟩
  · have HM := Lib.hid hB0
    obtain ⟨hM8, hM1, hn1, hn8⟩ : x.r.n ≤ 8 ∧ 1 ≤ x.r.n ∧ 1 ≤ x.n ∧ x.n ≤ 8 := ⟨(mk_len hx hB0).1, (mk_len hx hB0).2.1, (mk_len hx hB0).2.2.1, (mk_len hx hB0).2.2.2.1⟩
    have HRZ : Hid (∀ z ∈ x.r.zs, 0 ≤ z ∧ z ≤ 1000000) := Lib.hid (mk_len hx hB0).2.2.2.2.2.2.1
    have HBZ : Hid (∀ u ∈ x.b, ∀ z ∈ u.zs, 0 ≤ z ∧ z ≤ 1000000) := Lib.hid (mk_len hx hB0).2.2.2.2.2.2.2
    have HRO := Lib.hid (may_rows hB0)
    obtain ⟨ll, hll⟩ : ∃ a, leastL x.r.zs (Ls.all x.b) = a := ⟨_, rfl⟩
    have HLL := Lib.hid hll
    have LLN : Hid (ll.length = x.r.n) := Lib.hid (by rw [← hll, leastL_len, HRL.out])
    have EL : Hid (leastE x = ll) := Lib.hid (by rw [leastE, if_pos hB0, hll])
    have EE : Hid (x.err = 0) := Lib.hid (by rw [Mk.err, if_pos hB0])
    clear hB0 hll
    have ex0 := bx.c0
    have ex1 := bx.c1
    have ex2 := bx.c2
    have hc := pleastC x (w.alloc (.cells #[.slice x.r.A x.r.n x.r.c, .slice x.A x.n x.c, .slice x.o.A x.o.n x.o.c] 25)) hx
    rw [Vx.out, EL.out, EE.out] at hc
    go_wp2_with fail
    clear ex0 ex1 ex2
    generalize w.alloc (.cells #[.slice x.r.A x.r.n x.r.c, .slice x.A x.n x.c, .slice x.o.A x.o.n x.o.c] 25) = W1 at *
    refine hc.mono ?_
    rintro e v2 ⟨A1, n1, c1, rfl, h1, hb⟩
    clear hc
    replace hx := hx.below hb
    replace bx := bx.below hb
    replace hB := hB.trans (hb.mono hB.size)
    clear hb
    obtain rfl : n1 = x.r.n := by have h5 := h1.len; simp only at h5; rw [LLN.out] at h5; exact h5.symm
    obtain ⟨i0, hi0, hz0, hz1, hz2⟩ := info_parts info6_int
    obtain ⟨i1, hi1', hy0, hy1, hy2⟩ := info_parts infoI_ints
    have hrd := hx.r.rd
    have hxV := hx
    have h1V := h1
    have bxV := bx
    have hB0 := hB
    have HLST := Lib.hid (least_is HRO.out)
    have gl : ((x.r.n : Int) != (x.r.n : Int)) = false := by simp
    have gl2 : (x.r.n != x.r.n) = false := by simp
    have ex0 := bx.c0
    have ex1 := bx.c1
    have ex2 := bx.c2
    have hc := twinints_any x.r.A x.r.n x.r.c x.r.zs v2 hrd (by omega)
    go_wp2_with fail
    clear ex0 ex1 ex2
    refine hc.mono ?_
    rintro e v3 ⟨A5, c5, rfl, hT5, hb⟩
    clear hc
    have hbV := hb
    replace hx := hx.below hb
    replace h1 := h1.below hb
    replace bx := bx.below hb
    replace hB := hB.trans (hb.mono hB.size)
    clear hb
    have hp0 : Ls.Ok v3 ⟨A5, x.r.n, c5, x.r.zs⟩ := by
      refine Twn.ok (B := v2.heap.size) ⟨hT5, hxV.r.fit⟩
    clear hT5 hx h1 bx hrd
    go_wp2_with fail
    go_loopg [5] (sumP ll - sumP x.r.zs).toNat (fun f v wr => ∃ (A : Option Addr) (c : Nat) (p : List Int), v = .slice A x.r.n c ∧ Ls.Ok wr ⟨A, x.r.n, c, p⟩ ∧ Hid (LeP x.r.zs p ∧ LeP p ll ∧ (sumP ll - sumP p).toNat ≤ f) ∧ Below v2.heap.size v2 wr)
    case atStart => exact ⟨A5, c5, x.r.zs, rfl, hp0, Lib.hid ⟨LeP.refl _, by rw [← HLL.out]; exact HLST.out.le, Nat.le_refl _⟩, hbV⟩
    case round =>
      clear hp0 hbV
      obtain ⟨A, c, p, rfl, hp, hinv, hbV⟩ := hrel
      obtain ⟨w9, hw9⟩ : ∃ w9, w9 = wr := ⟨_, rfl⟩
      subst hw9
      obtain ⟨k1, k2, k3⟩ := hinv.out
      rw [← HLL.out] at k2
      obtain ⟨ms, ma, mz⟩ := may_step HM.out k1 k2
      have hrowp : RowsM p (Ls.all x.b) := rows_len HRO.out k1.1.symm
      have hpl : p.length = x.r.n := by rw [← k1.1, HRL.out]
      obtain ⟨q, hq⟩ : ∃ q, stepL (Ls.all x.b) p = q := ⟨_, rfl⟩
      obtain ⟨β, hβ⟩ : ∃ β, stepF (Ls.all x.b) p = β := ⟨_, rfl⟩
      have hql : q.length = x.r.n := by rw [← hq, stepL_len, hpl]
      have hqll : LeP q ll := by rw [← hq, ← HLL.out]; exact stepL_le hrowp k2 HLST.out.hall
      have hpq : LeP p q := by
        cases h4 : fewS (Ls.all x.b) p with
        | none => rw [← hq, (stepL_none h4).1]; exact LeP.refl _
        | some S => rw [← hq]; exact (step_up hrowp h4).1
      have hup := step_upB hrowp
      rw [hq, hβ, hpl] at hup
      have hdec : β = true → (sumP ll - sumP q).toNat < gk := fun hb1 => by
        cases h4 : fewS (Ls.all x.b) p with
        | none => rw [(stepL_none h4).2] at hβ; rw [← hβ] at hb1; cases hb1
        | some S =>
          have h5 := step_sum hrowp h4
          rw [hq] at h5
          have h6 := sumP_le hqll
          omega
      have hend : β = false → p = ll ∧ stepF (Ls.all x.b) p = false := fun hb1 => by
        rw [hb1] at hβ
        exact ⟨(stepL_end HRO.out (by rw [HRL.out]; exact hM8) (by rw [HBL.out]; exact hn8) k1 k2 hβ).trans HLL.out, hβ⟩
      have ES : Hid (stepE x p = q) := Lib.hid (by rw [stepE, if_pos ms, hq])
      have EF : Hid (stepB x p = β) := Lib.hid (by rw [stepB, ms, Bool.true_and, hβ])
      have ER : Hid (stepErr x p = 0) := Lib.hid (by rw [stepErr, if_pos ms])
      have HQ := Lib.hid (And.intro hqll hpq)
      have HUP := Lib.hid hup
      have HDEC := Lib.hid hdec
      have HEND := Lib.hid hend
      have HMA := Lib.hid ma
      have HPL := Lib.hid hpl
      have HQL := Lib.hid hql
      have HRP := Lib.hid hrowp
      have HK1 := Lib.hid k1
      clear hinv k1 k2 k3 ms ma mz hrowp hq hβ hqll hpq hup hdec hend hpl hql
      have hx := hxV.below hbV
      have h1 := h1V.below hbV
      have bx := bxV.below hbV
      have hB := hB0.trans (hbV.mono hB0.size)
      have ex0 := bx.c0
      have ex1 := bx.c1
      have ex2 := bx.c2
      have hc := pstepC x ⟨A, x.r.n, c, p⟩ w9 hx hp
      rw [ES.out, EF.out, ER.out, Vx.out, show Ls.v ⟨A, x.r.n, c, p⟩ = .slice A x.r.n c from rfl] at hc
      go_wp2_with fail
      clear ex0 ex1 ex2
      refine hc.mono ?_
      rintro e v4 ⟨A6, n6, c6, rfl, h6, hb⟩
      clear hc
      have hbk := hb
      replace hx := hx.below hb
      replace h1 := h1.below hb
      replace hp := hp.below hb
      replace bx := bx.below hb
      replace hB := hB.trans (hb.mono hB.size)
      clear hb
      replace hbV := hbV.trans (hbk.mono hbV.size)
      clear hbk
      obtain rfl : n6 = x.r.n := by have h5 := h6.len; simp only at h5; rw [HQL.out] at h5; exact h5.symm
      go_wp2_with fail
      go_loopw [9, 10] (fun u v wr => ∃ (j : Nat) (ub : Bool), j ≤ x.r.n ∧ v = .int .i64 j ∧ u = .bool ub ∧ Hid (ub = upB p q j) ∧ Below v4.heap.size v4 wr) (fun _ v _ => x.r.n - (intOf v).toNat)
      case atStart => exact ⟨0, false, Nat.zero_le _, rfl, rfl, Lib.hid rfl, Below.refl _ _⟩
      case round =>
        obtain ⟨j, ub, hj, rfl, rfl, hub, hbel⟩ := hrel
        by_cases hlt : j < x.r.n
        · have hlt' : (j : Int) < x.r.n := by omega
          have hj0 : (0 : Int) ≤ j := by omega
          obtain ⟨zp, hzp⟩ : ∃ z, p[j]? = some z := ⟨_, List.getElem?_eq_getElem (by rw [HPL.out]; exact hlt)⟩
          obtain ⟨zq, hzq⟩ : ∃ z, q[j]? = some z := ⟨_, List.getElem?_eq_getElem (by rw [HQL.out]; exact hlt)⟩
          obtain ⟨zl, hzl⟩ : ∃ z, ll[j]? = some z := ⟨_, List.getElem?_eq_getElem (by rw [LLN.out]; exact hlt)⟩
          have hle1 := HQ.out.2.2 j (by rw [HPL.out]; exact hlt)
          have hle2 := HQ.out.1.2 j (by rw [HQL.out]; exact hlt)
          have hus := upB_succ p q j
          rw [getD_of hzp, getD_of hzq] at hle1 hus
          rw [getD_of hzq, getD_of hzl] at hle2
          rw [← hub.out] at hus
          have HUS := Lib.hid hus
          obtain ⟨g3, o3, rfl, hg3, hc3⟩ := ls_num hp hzp hlt
          obtain ⟨g6, rfl, hg6, hc6⟩ := own_num h6 hzq hlt
          obtain ⟨g1, rfl, hg1, hc1⟩ := own_num h1 hzl hlt
          have ga : decide (zq < zp) = false := decide_eq_false (by omega)
          have gb : decide (zl < zq) = false := decide_eq_false (by omega)
          obtain ⟨δ, hδ⟩ : ∃ δ, decide (zp < zq) = δ := ⟨_, rfl⟩
          rw [hδ] at HUS
          have hS : ∀ w', Below v4.heap.size v4 w' → w'.cell? ⟨g6, j, none⟩ = some (.int .i64 zq) ∧ w'.cell? ⟨g3, o3 + j, none⟩ = some (.int .i64 zp) ∧ w'.cell? ⟨g1, j, none⟩ = some (.int .i64 zl) := fun w' hb => ⟨(hb.cell (p := ⟨g6, j, none⟩) hg6).trans hc6, (hb.cell (p := ⟨g3, o3 + j, none⟩) hg3).trans hc3, (hb.cell (p := ⟨g1, j, none⟩) hg1).trans hc1⟩
          clear hzp hzq hzl hus hle1 hle2 hc1 hc3 hc6
          go_wp2_with fail
          refine wp_region_ord (S := fun w' => w'.cell? ⟨g6, j, none⟩ = some (.int .i64 zq) ∧ w'.cell? ⟨g3, o3 + j, none⟩ = some (.int .i64 zp) ∧ w'.cell? ⟨g1, j, none⟩ = some (.int .i64 zl)) [(0, true), (1, true), (2, true), (3, true), (4, true), (5, true), (6, true), (7, true), (8, true), (9, true), (10, true), (11, true), (12, true), (13, true), (14, true), (15, true), (16, true), (17, true), (18, true), (19, true)] default (by kernel_rfl) (by kernel_rfl) (by kernel_rfl) (hS _ hbel.drew) ?_
          simp only [getOrd, nth]
          repeat (first | (refine ordS (by rfl) ?_; simp only [Act.put, List.setIfInBounds_toArray, List.set_cons_zero, List.set_cons_succ]) | (refine ordN (by rfl) ?_; simp only [Act.put, List.setIfInBounds_toArray, List.set_cons_zero, List.set_cons_succ]) | (refine ordQ (v := ?_) (by rfl) (fun _ hSw => ?_) ?_; rotate_left; (focus ((have hS1 := hSw.1); (have hS2 := hSw.2.1); (have hS3 := hSw.2.2); clear hSw; go_simp; (first | done | with_reducible rfl))); simp only [Act.put, List.setIfInBounds_toArray, List.set_cons_zero, List.set_cons_succ]))
          refine ordE ?_
          replace hbel := hbel.drew
          obtain ⟨wq, hwq⟩ : ∃ wq, wq = wr.drew := ⟨_, rfl⟩
          rw [← hwq] at hbel ⊢
          clear hwq
          cases ub
          · have HN : Hid (δ = upB p q (j + 1)) := Lib.hid (by rw [HUS.out]; rfl)
            go_wp2_with fail
            refine wp_region_ord (S := fun w' => w'.cell? ⟨g6, j, none⟩ = some (.int .i64 zq) ∧ w'.cell? ⟨g3, o3 + j, none⟩ = some (.int .i64 zp) ∧ w'.cell? ⟨g1, j, none⟩ = some (.int .i64 zl)) [(0, true), (1, true), (2, true), (3, true), (4, true), (5, true), (6, true), (7, true), (8, true), (9, true), (10, true), (11, true), (12, true)] default (by kernel_rfl) (by kernel_rfl) (by kernel_rfl) (hS _ hbel.drew) ?_
            simp only [getOrd, nth]
            repeat (first | (refine ordS (by rfl) ?_; simp only [Act.put, List.setIfInBounds_toArray, List.set_cons_zero, List.set_cons_succ]) | (refine ordN (by rfl) ?_; simp only [Act.put, List.setIfInBounds_toArray, List.set_cons_zero, List.set_cons_succ]) | (refine ordQ (v := ?_) (by rfl) (fun _ hSw => ?_) ?_; rotate_left; (focus ((have hS1 := hSw.1); (have hS2 := hSw.2.1); (have hS3 := hSw.2.2); clear hSw; go_simp; (first | done | with_reducible rfl))); simp only [Act.put, List.setIfInBounds_toArray, List.set_cons_zero, List.set_cons_succ]))
            refine ordE ?_
            have hbe := hbel.drew
            clear hS hbel hub HUS
            go_wp2
            go_roundw
            case rel => exact ⟨j + 1, δ, by omega, by go_num, by first | rfl | rw [hδ], HN, hbe⟩
            case measure => simp [intOf]; omega
          · have HN : Hid (true = upB p q (j + 1)) := Lib.hid (by rw [HUS.out]; rfl)
            clear hδ
            go_wp2_with fail
            refine wp_region_ord (S := fun w' => w'.cell? ⟨g6, j, none⟩ = some (.int .i64 zq) ∧ w'.cell? ⟨g3, o3 + j, none⟩ = some (.int .i64 zp) ∧ w'.cell? ⟨g1, j, none⟩ = some (.int .i64 zl)) [(0, true), (1, true), (2, true), (3, true), (4, true), (5, true), (6, true), (7, true), (8, true), (9, true), (10, true), (11, true), (12, true)] default (by kernel_rfl) (by kernel_rfl) (by kernel_rfl) (hS _ hbel.drew) ?_
            simp only [getOrd, nth]
            repeat (first | (refine ordS (by rfl) ?_; simp only [Act.put, List.setIfInBounds_toArray, List.set_cons_zero, List.set_cons_succ]) | (refine ordN (by rfl) ?_; simp only [Act.put, List.setIfInBounds_toArray, List.set_cons_zero, List.set_cons_succ]) | (refine ordQ (v := ?_) (by rfl) (fun _ hSw => ?_) ?_; rotate_left; (focus ((have hS1 := hSw.1); (have hS2 := hSw.2.1); (have hS3 := hSw.2.2); clear hSw; go_simp; (first | done | with_reducible rfl))); simp only [Act.put, List.setIfInBounds_toArray, List.set_cons_zero, List.set_cons_succ]))
            refine ordE ?_
            have hbe := hbel.drew
            clear hS hbel hub HUS
            go_wp2
            go_roundw
            case rel => exact ⟨j + 1, true, by omega, by go_num, rfl, HN, hbe⟩
            case measure => simp [intOf]; omega
        · obtain rfl : j = x.r.n := by omega
          rw [HUP.out] at hub
          obtain rfl : ub = β := hub.out
          clear hub
          obtain ⟨w8, hw8⟩ : ∃ w8, w8 = wr := ⟨_, rfl⟩
          subst hw8
          have gbb : (ub != ub) = false := by simp
          replace hx := hx.below hbel
          replace h1 := h1.below hbel
          replace hp := hp.below hbel
          replace h6 := h6.below hbel
          replace bx := bx.below hbel
          replace hB := hB.trans (hbel.mono hB.size)
          replace hbV := hbV.trans (hbel.mono hbV.size)
          clear hbel
          cases ub
          · clear HDEC
            obtain ⟨hpe, hst⟩ := HEND.out rfl
            clear HEND
            subst hpe
            obtain ⟨e1, e2, e3⟩ := all_here HMA.out
            have E1 := Lib.hid e1
            have E2 := Lib.hid e2
            have E3 := Lib.hid e3
            obtain ⟨f1, f2, f3⟩ := no_few HRP.out (by rw [HPL.out]; exact hM8) (by rw [HBL.out]; exact hn8) hst
            rw [HPL.out] at f1 f2 f3
            have F1 := Lib.hid f1
            have F2 := Lib.hid f2
            have F3 := Lib.hid f3
            clear e1 e2 e3 f1 f2 f3 hst h6
            have hp8 := hp
            have h18 := h1
            have hB8 := hB
            have ex0 := bx.c0
            have ex1 := bx.c1
            have ex2 := bx.c2
            have hc := pallDC x ⟨A, x.r.n, c, p⟩ w8 hx hp
            rw [Vx.out, show Ls.v ⟨A, x.r.n, c, p⟩ = .slice A x.r.n c from rfl, E1.out, E2.out, E3.out] at hc
            go_wp2_with fail
            clear ex0 ex1 ex2
            refine hc.mono ?_
            rintro e v5 ⟨A7, n7, c7, A8, n8, c8, ta, rfl, hta, hga, hoa, hb⟩
            clear hc
            have hbW := hb
            replace hx := hx.below hb
            replace h1 := h1.below hb
            replace hp := hp.below hb
            replace bx := bx.below hb
            replace hB := hB.trans (hb.mono hB.size)
            clear hb
            obtain rfl : n7 = x.n := by
              have h5 := hta.len
              have h6 := congrArg List.length hga
              rw [Ls.all, List.length_map, List.length_map, HBL.out] at h6
              omega
            obtain rfl : n8 = x.n := by
              have h5 := hoa.len
              rw [List.length_map, List.length_map, HBL.out] at h5
              omega
            have gk1 : ((x.n : Int) != (x.n : Int)) = false := by simp
            have gk2 : (x.n != x.n) = false := by simp
            have hga0 : Hid (Ls.all ta = mixG (fun b => if gainD ((Ls.all x.b).getD b []) p = 0 then [] else itemsD ((Ls.all x.b).getD b []) p) (fun b => itemsD ((Ls.all x.b).getD b []) p) x.n 0) := Lib.hid (by
              rw [mixG_zero, hga]
              refine List.ext_getElem? fun i => ?_
              rw [List.getElem?_map, List.getElem?_map]
              by_cases hi : i < x.n
              · rw [List.getElem?_range hi, List.getElem?_eq_getElem (by rw [HBL.out]; exact hi), Option.map_some, Option.map_some, List.getD_eq_getElem?_getD, List.getElem?_eq_getElem (by rw [HBL.out]; exact hi)]; rfl
              · rw [List.getElem?_eq_none (by rw [HBL.out]; omega), List.getElem?_eq_none (by simp; omega)]; rfl)
            clear hga
            obtain ⟨mf, hmf⟩ : ∃ mf : Nat → Bool, (fun b => decide (gainD ((Ls.all x.b).getD b []) p ≠ 0)) = mf := ⟨_, rfl⟩
            have HMF := Lib.hid hmf
            clear hmf
            have hown7 := hta.own
            have hrows7 : ∀ u ∈ ta, OwnI v5 w8.heap.size u := hta.each
            have hsz8 : w8.heap.size ≤ v5.heap.size := hbW.size
            have hlow7 : ∀ u ∈ ta, u.c = 0 ∨ ∃ g, g < v5.heap.size ∧ u.A = some ⟨g, 0, none⟩ := fun u hu => low_of (hrows7 u hu)
            have hbVA : Below w8.heap.size v5 v5 := Below.refl _ _
            clear hta
            go_wp2_with fail
            go_loopw [14, 15] (fun u v wr => ∃ (i nm cm : Nat) (Am : Option Addr) (tt : List Ls), i ≤ x.n ∧ v = .int .i64 i ∧ u = .slice Am nm cm ∧ nm ≤ i ∧ OwnI wr v5.heap.size ⟨Am, nm, cm, upto i mf⟩ ∧ Own wr w8.heap.size 22 A7 x.n c7 (tt.map Ls.v) ∧ Hid (∀ u ∈ tt, OwnI wr w8.heap.size u) ∧ Hid (∀ u ∈ tt, u.c = 0 ∨ ∃ g, g < v5.heap.size ∧ u.A = some ⟨g, 0, none⟩) ∧ Hid (Ls.all tt = mixG (fun b => if gainD ((Ls.all x.b).getD b []) p = 0 then [] else itemsD ((Ls.all x.b).getD b []) p) (fun b => itemsD ((Ls.all x.b).getD b []) p) x.n i) ∧ Own wr w8.heap.size 4 A8 x.n c8 (((Ls.all x.b).map fun b => decide (gainD b p = 0)).map Value.bool) ∧ Below w8.heap.size v5 wr) (fun _ v _ => x.n - (intOf v).toNat)
            case atStart => exact ⟨0, 0, 0, none, ta, Nat.zero_le _, rfl, rfl, Nat.zero_le _, OwnI.nil _ _, hown7, Lib.hid hrows7, Lib.hid hlow7, hga0, hoa, hbVA⟩
            case round =>
              clear hown7 hrows7 hlow7 hga0 hoa hbVA
              obtain ⟨i, nm, cm, Am, tt, hi, rfl, rfl, hnm, hmu, hown, hrows, hlow, hall, hoa, hbA⟩ := hrel
              by_cases hin : i < x.n
              · have hin' : (i : Int) < x.n := by omega
                have hi0' : (0 : Int) ≤ i := by omega
                obtain ⟨ζ, hζ⟩ : ∃ ζ, decide (gainD ((Ls.all x.b).getD i []) p = 0) = ζ := ⟨_, rfl⟩
                have hbl : i < (Ls.all x.b).length := by rw [HBL.out]; exact hin
                obtain ⟨g8, rfl, hg8, hc8⟩ := own_at hoa (i := i) (v := .bool ζ) (by
                  rw [List.getElem?_map, List.getElem?_map, List.getElem?_eq_getElem hbl, ← hζ, List.getD_eq_getElem?_getD, List.getElem?_eq_getElem hbl]; rfl) hin
                have hus := upto_succ i mf
                have hms := mixG_set (fun b => if gainD ((Ls.all x.b).getD b []) p = 0 then [] else itemsD ((Ls.all x.b).getD b []) p) (fun b => itemsD ((Ls.all x.b).getD b []) p) x.n i
                have htl : tt.length = x.n := by have h5 := hown.len; rwa [List.length_map] at h5
                obtain ⟨wo, rfl⟩ : ∃ wo, wo = wr := ⟨_, rfl⟩
                have hszA : w8.heap.size ≤ wo.heap.size := Nat.le_trans hsz8 hbA.size
                cases ζ
                · have hg0 : gainD ((Ls.all x.b).getD i []) p ≠ 0 := of_decide_eq_false hζ
                  have HUS : Hid (upto (i + 1) mf = upto i mf ++ [(i : Int)]) := Lib.hid (by rw [hus, if_pos (by rw [← HMF.out]; exact decide_eq_true hg0)])
                  have HMS : Hid (Ls.all tt = mixG (fun b => if gainD ((Ls.all x.b).getD b []) p = 0 then [] else itemsD ((Ls.all x.b).getD b []) p) (fun b => itemsD ((Ls.all x.b).getD b []) p) x.n (i + 1)) := Lib.hid (by
                    rw [← hms]
                    show Ls.all tt = (mixG _ _ x.n i).set i (if gainD ((Ls.all x.b).getD i []) p = 0 then [] else itemsD ((Ls.all x.b).getD i []) p)
                    rw [if_neg hg0, ← hall.out]
                    refine List.ext_getElem? fun j => ?_
                    rw [List.getElem?_set]
                    by_cases e : i = j
                    · subst e
                      have h5 : (Ls.all tt)[i]? = some (itemsD ((Ls.all x.b).getD i []) p) := by
                        rw [hall.out, mixG, List.getElem?_map, List.getElem?_range hin, Option.map_some, if_neg (by omega)]
                      rw [if_pos rfl, if_pos (by rw [Ls.all, List.length_map]; omega), h5]
                    · rw [if_neg e])
                  clear hζ hus hms hg0 hall
                  have hszm : v5.heap.size ≤ wo.heap.size := hbA.size
                  go_wp2_with (at_builtin; go_must (refine wpList_app1 wo rfl _ _ 22 rfl 3 i0 _ 8 Try.underlying22 hi0 hz0 hz1 hz2 rfl v5.heap.size Am nm cm _ rfl hmu.own 1 rfl rfl ?d1 ?d2 ?d3 ?_))
                  case d1 => simp only [maxLen]; omega
                  case d2 => omega
                  try case d3 => exact hszm
                  intro A9 c9 w5 hown5 hbel5 hfr5 _
                  have hmu5 : OwnI w5 v5.heap.size ⟨A9, nm + 1, c9, upto (i + 1) mf⟩ := by
                    rw [HUS.out]
                    refine ⟨?_, fun z hz => ?_⟩
                    · show Own w5 v5.heap.size _ A9 (nm + 1) c9 (ci64 (_ ++ [(i : Int)]))
                      rw [ci64_app]; exact hown5
                    · rcases List.mem_append.1 hz with hz | hz
                      · exact hmu.fit z hz
                      · rw [List.mem_singleton.1 hz]; omega
                  have hb5 := hbA.trans (hbel5.mono hsz8)
                  have hownw := hown.other hmu.own (by decide) hfr5
                  have hoaw := hoa.other hmu.own (by decide) hfr5
                  have hrowsw : Hid (∀ u ∈ tt, OwnI w5 w8.heap.size u) := Lib.hid fun u hu => keep_low (hrows.out u hu) (hlow.out u hu) hmu.own hfr5
                  clear hown5 hbel5 hfr5 hmu hown hrows hoa hbA
                  go_wp2
                  go_roundw
                  case rel => exact ⟨i + 1, nm + 1, c9, A9, tt, by omega, by go_num, rfl, by omega, hmu5, hownw, hrowsw, hlow, HMS, hoaw, hb5⟩
                  case measure => simp [intOf]; omega
                · have hg0 : gainD ((Ls.all x.b).getD i []) p = 0 := of_decide_eq_true hζ
                  have HUS : Hid (upto (i + 1) mf = upto i mf) := Lib.hid (by rw [hus, if_neg (by rw [← HMF.out]; show ¬ decide _ = true; rw [decide_eq_true_eq]; exact fun h => h hg0), List.append_nil])
                  have HMS : Hid (Ls.all (tt.set i Ls.nil) = mixG (fun b => if gainD ((Ls.all x.b).getD b []) p = 0 then [] else itemsD ((Ls.all x.b).getD b []) p) (fun b => itemsD ((Ls.all x.b).getD b []) p) x.n (i + 1)) := Lib.hid (by
                    rw [all_set, hall.out, ← hms]
                    show (mixG _ _ x.n i).set i [] = (mixG _ _ x.n i).set i (if gainD ((Ls.all x.b).getD i []) p = 0 then [] else itemsD ((Ls.all x.b).getD i []) p)
                    rw [if_pos hg0])
                  have hle := hown.le
                  obtain ⟨g7, rfl, hB77, hg7⟩ := hown.lt (show 0 < c7 by omega)
                  have hc70 : 0 < c7 := by omega
                  have hcell : ∃ v0, wo.cell? ⟨g7, i, none⟩ = some v0 := by
                    have h5 := hown.cell (j := i) hin
                    rw [List.getElem?_eq_getElem (by rw [List.length_map]; omega)] at h5
                    exact ⟨_, h5⟩
                  obtain ⟨v0, hcell⟩ := hcell
                  have hfree := hown.free hc70 i
                  have hown2 : Own (wo.setCell ⟨g7, i, none⟩ (.slice none 0 0)) w8.heap.size 22 (some ⟨g7, 0, none⟩) x.n c7 ((tt.set i Ls.nil).map Ls.v) := by
                    rw [List.map_set]; exact hown.set hc70 i (.slice none 0 0)
                  have hrows2 : Hid (∀ u ∈ tt.set i Ls.nil, OwnI (wo.setCell ⟨g7, i, none⟩ (.slice none 0 0)) w8.heap.size u) := Lib.hid fun u hu => by
                    rcases List.mem_or_eq_of_mem_set hu with hu | rfl
                    · exact (hrows.out u hu).setO hown hc70 (by decide) i _
                    · exact OwnI.nil _ _
                  have hlow2 : Hid (∀ u ∈ tt.set i Ls.nil, u.c = 0 ∨ ∃ g, g < v5.heap.size ∧ u.A = some ⟨g, 0, none⟩) := Lib.hid fun u hu => by
                    rcases List.mem_or_eq_of_mem_set hu with hu | rfl
                    · exact hlow.out u hu
                    · exact .inl rfl
                  have hoa2 := hoa.setO hown hc70 (by decide) i (.slice none 0 0)
                  have hmu2 := hmu.setO hown hc70 (by decide) i (.slice none 0 0)
                  rw [← HUS.out] at hmu2
                  have hb2 := hbA.setCell (p := ⟨g7, i, none⟩) hB77 (.slice none 0 0)
                  clear hζ hus hms hg0 hall hown hrows hlow hoa hmu hbA hle
                  go_wp2
                  go_roundw
                  case rel => exact ⟨i + 1, nm, cm, Am, _, by omega, by go_num, rfl, by omega, hmu2, hown2, hrows2, hlow2, HMS, hoa2, hb2⟩
                  case measure => simp [intOf]; omega
              · obtain rfl : i = x.n := by omega
                have hgo : Gr.Ok wr ⟨A7, x.n, c7, tt⟩ := own_lists hown fun u hu => (hrows.out u hu).ok
                have HGG : Hid (Gr.g ⟨A7, x.n, c7, tt⟩ = graphP (Ls.all x.b) p) := Lib.hid (by
                  show Ls.all tt = _
                  rw [hall.out, ← HBL.out, graph_mix])
                have HMU : Hid (upto x.n mf = mustP (Ls.all x.b) p) := Lib.hid (by rw [mustP, HBL.out, ← HMF.out])
                have hc := pfewC ⟨A7, x.n, c7, tt⟩ (x.r.n : Int) ⟨Am, nm, cm, _⟩ wr hgo hmu.ok (by omega) (by omega)
                rw [HGG.out] at hc
                simp only at hc
                rw [HMU.out, F1.out, F2.out, show Gr.v ⟨A7, x.n, c7, tt⟩ = .slice A7 x.n c7 from rfl, show ∀ l, Ls.v ⟨Am, nm, cm, l⟩ = .slice Am nm cm from fun _ => rfl] at hc
                have hpA := hp8.below (hbW.trans hbA)
                have h1A := h18.below (hbW.trans hbA)
                clear hown hrows hlow hall hoa hmu hgo HGG HMU
                go_wp2_with fail
                refine hc.mono ?_
                rintro e v11 ⟨A9, n9, c9, rfl, h9, hb⟩
                clear hc h9
                have hb11 := (hbA).trans (hb.mono (Nat.le_trans hsz8 hbA.size))
                have hc := sameints_b ⟨A, x.r.n, c, p⟩ ⟨A1, x.r.n, c1, p⟩ v11 (hpA.below hb) (h1A.below hb).ok
                rw [show ((p : List Int) == p) = true by simp, show Ls.v ⟨A, x.r.n, c, p⟩ = .slice A x.r.n c from rfl] at hc
                clear hb hbA hpA h1A
                go_wp2_with fail
                refine hc.mono ?_
                rintro e v12 ⟨rfl, hb⟩
                clear hc
                have hb12 := hb11.trans (hb.mono (Nat.le_trans hsz8 hb11.size))
                clear hb hb11
                have hc := alive13_any v12
                go_wp2_with fail
                refine hc.mono ?_
                rintro e v13 ⟨rfl, hb⟩
                have hb13 := hb12.trans (hb.mono (Nat.le_trans hsz8 hb12.size))
                have hBB := hB8.trans ((hbW.trans hb13).mono hB8.size)
                go_wp2
                go_ret
                exact ⟨rfl, hBB⟩
          · have hdd := HDEC.out rfl
            clear HDEC HEND
            have hinv2 : Hid (LeP x.r.zs q ∧ LeP q ll ∧ (sumP ll - sumP q).toNat ≤ (sumP ll - sumP q).toNat) := Lib.hid ⟨HK1.out.trans HQ.out.2, HQ.out.1, Nat.le_refl _⟩
            have hok6 := h6.ok
            clear h6 hp h1 hx bx
            go_wp2
            go_roundg (sumP ll - sumP q).toNat
            case measure => exact hdd
            case rel => exact ⟨A6, c6, q, rfl, hok6, hinv2, hbV⟩

theorem own : ownKnob Try.prog.godebug = none := by kernel_rfl
theorem laidOut : laidOutB Try.prog = true := by kernel_rfl

set_option maxRecDepth 100000 in
theorem lifted (os : Os) (started : os.Started) (H : Type) (enc : TypeId × Value → H) :
    ReturnsInHanded {} Try.checked os 3 .any (Rows.risesEndSpec.pre6 enc Try.prog Try.f3 Rows.risesEndRow.domain false) (Rows.risesEndSpec.post enc Try.prog Try.f3 false true false false) := by
  refine returnsInHanded_of_change (C := Try.checked) own started (by kernel_rfl) Try.func3
    (ChangeSpec.witness6 (enc := enc) (C := Try.checked) false ⟨#[], #[.agg #[.slice none 0 0, .slice none 0 0, .slice none 0 0]], []⟩ 8 (by kernel_rfl) (by kernel_rfl) (by kernel_rfl) (by kernel_rfl)) ?_
  intro W base args ds gs before hval0 hW hcnd _
  have hval : ∀ (j : Nat) t v, Try.f3.params[j]? = some t → args[j]? = some v → Value.okWide Try.prog W .any base t v := hval0
  have hW' := hW
  obtain ⟨p, q, hA0, hV, rfl, hfz, hnd⟩ := hW
  have hA : DataW.TrodAll enc Try.prog W 0 (fun _ => true) true Try.f3.params.toList args.toList ds p := hA0
  rw [Try.params3] at hA hval
  obtain ⟨v0, vs0, d0, ds0, p0, q0, hargs, rfl, rfl, h0, r0⟩ := trodAll_cons hA
  obtain ⟨rfl, rfl, rfl⟩ := trodAll_nil r0
  obtain rfl : args = #[v0] := by cases args; simp_all
  obtain ⟨u0, rfl, k0⟩ := arg_mk Try.underlying25 (by kernel_rfl) (by kernel_rfl) Try.underlying22 Try.underlying23 Try.underlying22 Try.underlying22 (by kernel_rfl) Try.underlying3 (by kernel_rfl) (hval 0 25 v0 rfl rfl) h0
  have hwalk : Calls Try.prog 3 #[u0.v] W fun e w' => e = .returned (.bool true) ∧ Below W.heap.size W w' := walk u0 W k0
  refine hwalk.mono fun e W' ⟨he, hg⟩ => ?_
  subst he
  exact ⟨_, rfl, law_post laidOut (by kernel_rfl) hW' rfl rfl (by kernel_rfl) Try.underlying4 hg⟩

theorem over : Rows.risesEndRow.holds Try.pinned (OpenSpec.ofChange Rows.risesEndSpec) :=
  OpenClaim.holds_of_wide 3 Try.f3 rfl rfl rfl rfl rfl rfl rfl ⟨rfl, rfl, rfl, rfl, rfl⟩ rfl rfl rfl rfl rfl (by kernel_rfl) Try.func3 (by kernel_rfl)
    (of_decide_eq_true (by kernel_rfl)) (by unfold Func.isWrapper; first | (rw [if_pos (by decide +kernel)]; kernel_rfl) | (rw [if_neg (by decide +kernel)]; exact ⟨rfl, rfl⟩))
    (fun os started H enc _ => lifted os started H enc)

theorem proved : Rows.RisesEndSaid :=
  over

end Go.Proofs.Ytdckoaljcklmhaa.risesEnd
