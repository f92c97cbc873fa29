/-
  Walk of package graphs: Near.
-/
import Derived.Test.YtdiklmfaehmmjaaGrWh
namespace Go.Proofs.Ytdiklmfaehmmjaa
open Go.RowKit Go.Shelf
set_option linter.unusedVariables false
attribute [local go_sem] Oper.semAt_some

theorem lss_own {w : World} {B : Nat} {A : Option Addr} {n c : Nat} {t : List Ls} (own : Own w B 25 A n c (t.map Ls.v)) (h : ∀ v ∈ t, v.Ok w) : Gr.Ok w ⟨A, n, c, t⟩ := ⟨⟨outs_at own, h⟩, own.le, own.cap⟩
theorem mem_pairs {g : List (List Int)} {k : Int} {n : Nat} (hn : n ≤ g.length) : k ∈ (pairsTo g n).map (·.2) ↔ ∃ i, i < n ∧ k ∈ g.getD i [] := by
  simp only [pairsTo, List.mem_map, List.mem_flatMap, List.mem_range]
  constructor
  · rintro ⟨y, ⟨i, hi, z, hz, rfl⟩, rfl⟩; exact ⟨i, hi, hz⟩
  · rintro ⟨i, hi, hk⟩; exact ⟨(i, k), ⟨i, hi, k, hk, rfl⟩, rfl⟩
theorem upto_more {m n : Nat} {p : Nat → Bool} (hmn : m ≤ n) (h : ∀ i, m ≤ i → i < n → p i = false) : upto n p = upto m p := by
  refine rise_ext (upto_rises n _).2 (upto_rises m _).2 fun x => ?_
  rw [mem_upto, mem_upto]
  constructor
  · rintro ⟨i, h1, h2, rfl⟩
    refine ⟨i, ?_, h2, rfl⟩
    rcases Nat.lt_or_ge i m with h3 | h3
    · exact h3
    · rw [h i h3 h1] at h2; cases h2
  · rintro ⟨i, h1, h2, rfl⟩; exact ⟨i, by omega, h2, rfl⟩
/-- What is near, by the pairs that were gone through. -/
theorem near_pairs {g gy : List (List Int)} {m k : Nat} {zs : List Int} (hk : k ≤ 8) (hm : m = k) (hgy : gy = zs.map (fun i => g.getD i.toNat [])) (hr : ∀ l ∈ gy, Rises k l) :
    upto 8 (fun j => decide ((j : Int) ∈ (pairsTo gy gy.length).map (·.2))) = nearG g m zs := by
  subst hm
  rw [upto_more hk, nearG]
  · refine upto_congr fun j hj => ?_
    rw [Bool.eq_iff_iff, decide_eq_true_eq, mem_pairs (Nat.le_refl _), List.any_eq_true]
    constructor
    · rintro ⟨i, hi, hj2⟩
      have hiz : i < zs.length := by rw [hgy, List.length_map] at hi; exact hi
      refine ⟨zs[i], List.getElem_mem hiz, decide_eq_true ?_⟩
      rw [hgy, List.getD_eq_getElem?_getD, List.getElem?_map, List.getElem?_eq_getElem hiz] at hj2
      exact hj2
    · rintro ⟨z, hz, hd⟩
      obtain ⟨i, hi, rfl⟩ := List.getElem_of_mem hz
      refine ⟨i, by rw [hgy, List.length_map]; exact hi, ?_⟩
      rw [hgy, List.getD_eq_getElem?_getD, List.getElem?_map, List.getElem?_eq_getElem hi]
      exact of_decide_eq_true hd
  · intro j h1 h2
    refine decide_eq_false fun hm => ?_
    obtain ⟨i, hi, hj2⟩ := (mem_pairs (Nat.le_refl _)).1 hm
    have := (hr _ (getD_mem hi)).1 _ hj2
    omega

set_option maxRecDepth 100000 in
set_option maxHeartbeats 1000000 in
theorem gnearC : NearC 15 := by
  intro x m u w hx hu h1 h2
  have HL := Lib.hid hu.len
  have HG := Lib.hid hx.glen
  have tx := Nat.le_trans hx.cap hx.top
  have tu := Nat.le_trans hu.cap hu.top
  unfold maxLen at tx
  refine (callsIn_wide (n := 3)).1 ?_
  refine callsIn_of_wp_marks Try.func15 rfl trivial ?_ rfl
  have hck := gcheckC x m w hx h1 h2
  unfold Gr.v at hck ⊢
  unfold Ls.v
  simp only [Try.ntmps15, List.size_toArray, List.length_cons, List.length_nil, Nat.reduceAdd, Nat.reduceSub, Array.replicate_succ, Array.replicate_zero, List.push_toArray, List.append_toArray, List.nil_append, List.cons_append]
  refine wpIn_wide.2 ?_
  go_wp2_with fail
  obtain ⟨γ, hγ⟩ : ∃ γ, checkG x.g m = γ := ⟨_, rfl⟩
  have HC := Lib.hid hγ
  rw [hγ] at hck
  clear hγ
  refine hck.mono ?_
  rintro e w2 ⟨rfl, hb2⟩
  clear hck
  cases γ
  · go_wp2
    refine postM_ret (results_tmp2 rfl _ _ _) rfl ?_
    refine ⟨none, 0, 0, by simp [nearErr, nearOk, HC.out], ?_, hb2⟩
    simp only [nearE, nearOk, HC.out, Bool.false_and, Bool.false_eq_true, if_false]
    exact OwnI.nil _ _
  obtain ⟨r1, r2, r3, r4⟩ := checkG_iff.1 HC.out
  obtain ⟨k, rfl⟩ : ∃ k : Nat, m = k := ⟨m.toNat, by omega⟩
  have hk8 : k ≤ 8 := by omega
  have hx8 : x.n ≤ 8 := by rw [← HG.out]; exact r3
  have HR := Lib.hid r4
  clear r1 r2 r3 r4
  have hrs := grises_any u.A u.n u.c u.zs x.n w2 (hu.below hb2).rd tu
  obtain ⟨δ, hδ⟩ : ∃ δ, riseB u.zs x.n = δ := ⟨_, rfl⟩
  have HD := Lib.hid hδ
  rw [hδ] at hrs
  clear hδ
  go_wp2_with fail
  refine hrs.mono ?_
  rintro e w' ⟨rfl, rfl⟩
  clear hrs
  cases δ
  · go_wp2
    refine postM_ret (results_tmp2 rfl _ _ _) rfl ?_
    have hnk : nearOk x.g k u.zs = false := by rw [nearOk, HC.out, HG.out, HD.out]; rfl
    refine ⟨none, 0, 0, by simp [nearErr, hnk], ?_, hb2⟩
    simp only [nearE, hnk, Bool.false_eq_true, if_false]
    exact OwnI.nil _ _
  have hnk : nearOk x.g k u.zs = true := by rw [nearOk, HC.out, HG.out, HD.out]; rfl
  have HK := Lib.hid hnk
  have hrise : Rises x.n u.zs := of_decide_eq_true HD.out
  clear hnk
  unfold maxLen at tu
  go_wp2_with fail
  have bS := SetAt.new w' 51
  have hB3 := hb2.alloc hb2.size (.cells #[.bool false, .bool false, .bool false, .bool false, .bool false, .bool false, .bool false, .bool false] 51)
  have hsw := hb2.size
  obtain ⟨sb, hsb⟩ : ∃ sb, sb = w'.heap.size := ⟨_, rfl⟩
  rw [← hsb] at bS hsw ⊢
  generalize w'.alloc (.cells #[.bool false, .bool false, .bool false, .bool false, .bool false, .bool false, .bool false, .bool false] 51) = w3 at bS hB3 ⊢
  clear hsb hb2
  have hof := gof_any x u w3 (hx.below hB3) (hu.below hB3) hrise hx8
  unfold Gr.v Ls.v at hof
  have hsb3 := bS.lt
  refine hof.mono ?_
  rintro e w4 ⟨A, n, c, rfl, t, own4, hokt, hall, hb4⟩
  clear hof
  replace bS := bS.below hb4
  have hs34 := hb4.size
  have hB4 := hB3.trans (hb4.mono hB3.size)
  go_wp2_with fail
  have hpr := pairs_any ⟨A, n, c, t⟩ w4
  unfold Gr.v at hpr
  refine hpr.mono ?_
  rintro e w' ⟨rfl, rfl⟩
  clear hpr
  have bP := Boxed.new w4 22 (.slice A n c)
  have hB5 := hB4.alloc hB4.size (.cells #[.slice A n c] 22)
  have bS5 := bS.cel (cel_alloc w4 (.cells #[.slice A n c] 22))
  have own5 := own4.alloc (.cells #[.slice A n c] 22)
  obtain ⟨pb, hpb⟩ : ∃ pb, pb = w4.heap.size := ⟨_, rfl⟩
  rw [← hpb] at bP ⊢
  generalize w4.alloc (.cells #[.slice A n c] 22) = w5 at bP hB5 bS5 own5 ⊢
  obtain ⟨s3, hs3⟩ : ∃ s3, s3 = w3.heap.size := ⟨_, rfl⟩
  rw [← hs3] at own5 hsb3
  clear hpb own4 bS hB4 hs3 hs34 hB3
  go_wp2
  have hriseY : ∀ l ∈ Gr.g ⟨A, n, c, t⟩, Rises k l := by
    intro l hl
    rw [show Gr.g ⟨A, n, c, t⟩ = _ from hall] at hl
    obtain ⟨z, hz, rfl⟩ := List.mem_map.1 hl
    have h3 := hrise.1 z hz
    exact HR.out _ (getD_mem (by rw [HG.out]; omega))
  have HY := Lib.hid hriseY
  have hokB : ∀ W, Below w.heap.size w W → ∀ v ∈ t, v.Ok W := by
    intro W hW v hv
    exact (hx.lss.ok v (hokt v hv)).below hW
  refine (wpIn_wide (n := 3)).1 ?_
  refine wpIn_rangeFunc_ownG rfl (by omega) (gf := 32) (lb := #[.pointer (some ⟨pb, 0, none⟩)]) rfl trivial (enters_of Try.func32 (by kernel_rfl) rfl)
    (pairs_stops 2 (by omega) pb ⟨A, n, c, t⟩ w5 bP.lt bP.cell (lss_own own5 (hokB _ hB5))) (fun h k a => k (h a)) (keepsK_b (fun a b h k => Gr.Ok.cel k h) w5) (Below.refl _ _) (fun _ => rfl)
    (fun pre W => (SetAt W sb 51 (fun k => decide ((k : Int) ∈ (pre.map (·.1)).map (·.2))) ∧ Own W s3 25 A n c (t.map Ls.v)) ∧ Below w.heap.size w W)
    (fun _ _ _ => False)
    (OwnFrom.and (ownFrom_cel _ fun s A B hc h => by obtain ⟨a, b⟩ := h; exact ⟨a.cel hc, b.cel hc⟩) (ownFrom_below (Nat.le_refl _) hB5.size))
    (fun _ _ _ _ _ hs _ _ => hs)
    ⟨⟨bS5, own5⟩, hB5⟩
    (fun y => { tmps := #[.slice x.A x.n x.c, .int .i64 (k : Int), .slice u.A u.n u.c, undef, undef, undef, .slice none 0 0, .int .i64 0, .pointer (some ⟨sb, 0, none⟩), undef, .int .i64 y.1.2, .slice x.A x.n x.c, .int .i64 (k : Int), .bool true, .bool false, .bool false, .slice u.A u.n u.c, .slice x.A x.n x.c, .int .i64 (x.n : Int), .bool true, .bool false, .bool false, .slice x.A x.n x.c, .slice u.A u.n u.c, .slice A n c, .func (.func 32) #[] #[.pointer (some ⟨pb, 0, none⟩)], .int .i64 (y.1.1 : Int), .int .i64 y.1.2, undef, undef, undef, undef], defers := [] }) ?assign ?body ?done ?stop
  case assign =>
    intro l y W K hK
    simp only [encPair, List.zip_toArray, List.zip_cons_cons, List.zip_nil_right, List.foldl_toArray', List.foldl_cons, List.foldl_nil, List.size_toArray, List.setIfInBounds_toArray, List.set_cons_succ, List.set_cons_zero]
    gi_wp2
    exact hK
  case body =>
    rintro l pre ⟨⟨i, z⟩, hi, hz⟩ W ⟨⟨aS, own⟩, hB⟩ hlen
    dsimp only at hi hz ⊢
    have hzr : 0 ≤ z ∧ z < k := by
      exact (hriseY _ (getD_mem hi)).1 z hz
    obtain ⟨j, rfl⟩ : ∃ j : Nat, z = j := ⟨z.toNat, by omega⟩
    have hj8 : j < 8 := by omega
    have hj8' : (j : Int) < 8 := by omega
    have c3 := aS.cell hj8
    have f3 := aS.frozen j
    have hB5 := hB.setCell (p := ⟨sb, j, none⟩) hsw (.bool true)
    have own2 := own.keep (w' := W.setCell ⟨sb, j, none⟩ (.bool true)) fun g _ _ hg _ => heap_setCell_other W ⟨sb, j, none⟩ g (.bool true) (by show g ≠ sb; omega)
    have hok2 := lss_own own2 (hokB _ hB5)
    gi_wp2
    refine ⟨(KeepsOthers.setCell _ _ _).from _, fun _ => hok2, ⟨?_, own2⟩, hB5⟩
    refine aS.set hj8 fun a ha => ?_
    rw [List.map_append, List.map_append]
    by_cases he : a = j
    · rw [if_pos he, he]
      exact decide_eq_true (by simp)
    · rw [if_neg he]
      refine decide_eq_decide.2 ?_
      rw [List.mem_append]
      simp
      omega
  case done =>
    rintro D ys W hD hys ⟨⟨aS, own⟩, hB⟩ hK
    rw [hys] at aS
    have hgl : (Gr.g ⟨A, n, c, t⟩).length = n := (lss_own own (hokB _ hB)).glen
    have HN : Hid (upto 8 (fun j => decide ((j : Int) ∈ (pairsTo (Gr.g ⟨A, n, c, t⟩) n).map (·.2))) = nearG x.g k u.zs) := Lib.hid (by
      have h4 := near_pairs (g := x.g) (gy := Gr.g ⟨A, n, c, t⟩) (m := k) (zs := u.zs) hk8 rfl hall HY.out
      rw [hgl] at h4
      exact h4)
    obtain ⟨f, hf⟩ : ∃ f : Nat → Bool, (fun j : Nat => decide ((j : Int) ∈ (pairsTo (Gr.g ⟨A, n, c, t⟩) n).map (·.2))) = f := ⟨_, rfl⟩
    rw [hf] at aS HN
    clear hf hys
    have c0 := aS.cell (k := 0) (by omega)
    have c1 := aS.cell (k := 1) (by omega)
    have c2 := aS.cell (k := 2) (by omega)
    have c3 := aS.cell (k := 3) (by omega)
    have c4 := aS.cell (k := 4) (by omega)
    have c5 := aS.cell (k := 5) (by omega)
    have c6 := aS.cell (k := 6) (by omega)
    have c7 := aS.cell (k := 7) (by omega)
    have hsl := gset_list W (f 0) (f 1) (f 2) (f 3) (f 4) (f 5) (f 6) (f 7)
    rw [upto_congr (q := f) (m := 8) fun i hi => by
      match i, hi with
      | 0, _ => rfl
      | 1, _ => rfl
      | 2, _ => rfl
      | 3, _ => rfl
      | 4, _ => rfl
      | 5, _ => rfl
      | 6, _ => rfl
      | 7, _ => rfl
      | i + 8, h => omega, HN.out] at hsl
    go_wp2_with fail
    refine hsl.mono ?_
    rintro e w6 ⟨A6, n6, c6', rfl, hO6, hb6⟩
    clear hsl c0 c1 c2 c3 c4 c5 c6 c7
    have hK6 : w6.heap[D]? = some (.deferred (some [])) := (hb6.block D (Array.getElem?_eq_some_iff.1 hK).1).trans hK
    have hB6 := hB.trans (hb6.mono hB.size)
    go_wp2
    have hc := cel_putObj (w := w6) (l := D) (.deferred none) hK6 rfl
    refine postM_mark hK6 (results_tmp2 rfl _ _ _) rfl ?_
    refine ⟨A6, n6, c6', by simp [nearErr, HK.out], ?_, hB6.trans (belowK_b (w := w) (Nat.le_refl _) _ D _ _ (Nat.le_trans hB5.size hD) hK6 rfl rfl)⟩
    rw [nearE, if_pos HK.out]
    exact (hO6.cel hc).mono hB.size
  case stop =>
    rintro D c pre W hD hsp h _
    exact h.elim
end Go.Proofs.Ytdiklmfaehmmjaa
