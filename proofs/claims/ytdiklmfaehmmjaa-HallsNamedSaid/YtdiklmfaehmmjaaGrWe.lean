/-
  Walk of package graphs: Fits.
-/
import Derived.Test.YtdiklmfaehmmjaaGrWa
import Derived.Test.YtdiklmfaehmmjaaGrWb
import Derived.Test.YtdiklmfaehmmjaaGrWc
namespace Go.Proofs.Ytdiklmfaehmmjaa
open Go.RowKit Go.Shelf
set_option linter.unusedVariables false
attribute [local go_sem] Oper.semAt_some

/-- So far it fits. -/
def GoodTo (g : List (List Int)) (l : List (Nat × Int)) : Prop := (∀ y ∈ l, y.2 ∈ g.getD y.1 []) ∧ (l.map (·.2)).Pairwise (· ≠ ·)
theorem goodTo_snoc {g : List (List Int)} {l : List (Nat × Int)} {y : Nat × Int} : GoodTo g (l ++ [y]) ↔ GoodTo g l ∧ y.2 ∈ g.getD y.1 [] ∧ y.2 ∉ l.map (·.2) := by
  rw [GoodTo, GoodTo, List.map_append, List.pairwise_append]
  constructor
  · rintro ⟨h1, h2, _, h4⟩
    refine ⟨⟨fun z hz => h1 z (by simp [hz]), h2⟩, h1 y (by simp), fun hm => h4 _ hm y.2 (by simp) rfl⟩
  · rintro ⟨⟨h1, h2⟩, h3, h4⟩
    refine ⟨fun z hz => ?_, h2, by simp, fun a ha b hb => ?_⟩
    · rcases List.mem_append.1 hz with hz | hz
      · exact h1 z hz
      · rw [List.mem_singleton.1 hz]; exact h3
    · have hb' : b = y.2 := by simpa using hb
      subst hb'
      intro e
      exact h4 (e ▸ ha)
theorem goodTo_pre {g : List (List Int)} {l l' : List (Nat × Int)} (h : l <+: l') (hg : GoodTo g l') : GoodTo g l := by
  obtain ⟨r, rfl⟩ := h
  refine ⟨fun y hy => hg.1 y (by simp [hy]), ?_⟩
  have := hg.2
  rw [List.map_append] at this
  exact (List.pairwise_append.1 this).1
theorem mem_hadTo {zs : List Int} {k : Nat} (hk : k ≤ zs.length) {z : Int} (hz : z ≠ -1) : z ∈ (hadTo zs k).map (·.2) ↔ z ∈ zs.take k := by
  induction k with
  | zero => simp [hadTo_zero]
  | succ k ih =>
    have hg : zs.getD k (-1) = zs[k] := by rw [List.getD_eq_getElem?_getD, List.getElem?_eq_getElem (by omega)]; rfl
    rw [List.take_succ_eq_append_getElem (by omega), List.mem_append, List.mem_singleton, ← ih (by omega)]
    by_cases h : zs[k] = -1
    · rw [hadTo_none (by rw [hg]; exact h), h]
      simp [hz]
    · rw [hadTo_some (by rw [hg]; exact h), List.map_append, List.mem_append, hg]
      simp
theorem goodTo_all {g : List (List Int)} {zs : List Int} {k : Nat} (hk : k ≤ zs.length) : GoodTo g (hadTo zs k) ↔ ∀ i, i < k → okAt g zs i = true := by
  induction k with
  | zero => simp [hadTo_zero, GoodTo]
  | succ k ih =>
    have hs : (∀ i, i < k + 1 → okAt g zs i = true) ↔ (∀ i, i < k → okAt g zs i = true) ∧ okAt g zs k = true := by
      constructor
      · intro h; exact ⟨fun i hi => h i (by omega), h k (by omega)⟩
      · rintro ⟨h1, h2⟩ i hi
        rcases Nat.lt_succ_iff_lt_or_eq.1 hi with hi | rfl
        · exact h1 i hi
        · exact h2
    rw [hs, ← ih (by omega)]
    by_cases h : zs.getD k (-1) = -1
    · rw [hadTo_none h]
      simp [okAt, h, -List.getD_eq_getElem?_getD]
    · rw [hadTo_some h, goodTo_snoc]
      show _ ∧ zs.getD k (-1) ∈ g.getD k [] ∧ zs.getD k (-1) ∉ _ ↔ _
      rw [mem_hadTo (by omega) h]
      simp [okAt, h, -List.getD_eq_getElem?_getD]
theorem goodTo_fits {g : List (List Int)} {m : Int} {zs : List Int} (hc : checkG g m = true) (hl : zs.length = g.length) : fitsG g m zs = true ↔ GoodTo g (hadTo zs zs.length) := by
  rw [goodTo_all (Nat.le_refl _), fitsG_iff]
  exact ⟨fun h => h.2.2, fun h => ⟨hc, hl, h⟩⟩

set_option maxRecDepth 100000 in
set_option maxHeartbeats 1000000 in
theorem gfitsC : FitsC 48 := by
  intro x m u w hx hu h1 h2
  have HL := Lib.hid hu.len
  have HG := Lib.hid hx.glen
  have tx := Nat.le_trans hx.cap hx.top
  have tu := Nat.le_trans hu.cap hu.top
  unfold maxLen at tx tu
  obtain ⟨β, hβ⟩ : ∃ β, fitsG x.g m u.zs = β := ⟨_, rfl⟩
  have HB := Lib.hid hβ
  rw [hβ]
  clear hβ
  refine (callsIn_wide (n := 3)).1 ?_
  refine callsIn_of_wp_marks Try.func48 rfl trivial ?_ rfl
  unfold Gr.v Ls.v
  simp only [Try.ntmps48, List.size_toArray, List.length_cons, List.length_nil, Nat.reduceAdd, Nat.reduceSub, Array.replicate_succ, Array.replicate_zero, List.push_toArray, List.append_toArray, List.nil_append, List.cons_append]
  refine wpIn_wide.2 ?_
  go_wp2_with fail
  have bG : Boxed ((w.alloc (.cells #[.slice x.A x.n x.c] 22)).alloc (.cells #[.bool false] 4)) w.heap.size 22 (.slice x.A x.n x.c) := (Boxed.new w _ _).alloc _
  have bR := Boxed.new (w.alloc (.cells #[.slice x.A x.n x.c] 22)) 4 (.bool false)
  rw [World.size_alloc] at bR
  have hB1 : Below w.heap.size w ((w.alloc (.cells #[.slice x.A x.n x.c] 22)).alloc (.cells #[.bool false] 4)) := ((Below.refl _ w).alloc (Nat.le_refl _) _).alloc (by simp) _
  generalize (w.alloc (.cells #[.slice x.A x.n x.c] 22)).alloc (.cells #[.bool false] 4) = w1 at bG bR hB1 ⊢
  have hck := gcheckC x m w1 (hx.below hB1) h1 h2
  unfold Gr.v at hck
  obtain ⟨γ, hγ⟩ : ∃ γ, checkG x.g m = γ := ⟨_, rfl⟩
  have HC := Lib.hid hγ
  rw [hγ] at hck
  clear hγ
  refine hck.mono ?_
  rintro e w2 ⟨rfl, hb2⟩
  replace bG := boxed_below bG hb2
  replace bR := boxed_below bR hb2
  replace hB1 := hB1.trans (hb2.mono hB1.size)
  clear hck hb2
  cases γ
  · have HF : Hid (β = false) := Lib.hid (by rw [← HB.out, fitsG, HC.out]; rfl)
    have c1 := bG.cell
    have c2 := bR.cell
    have f2 := bR.frozen
    go_wp2
    have hc3 := (bR.set (.bool false)).cell
    refine postM_ret (v := .bool false) (by simp only [results, Try.f48]; go_simp) rfl ?_
    exact ⟨ret_bool HF.out.symm, hB1.setCell (p := ⟨w.heap.size + 1, 0, none⟩) (by simp) _⟩
  rcases Decidable.em (¬ u.n = x.n) with hl | hl
  · have HF : Hid (β = false) := Lib.hid (by rw [← HB.out, fitsG, decide_eq_false (show ¬ u.zs.length = x.g.length by rw [HL.out, HG.out]; exact hl)]; simp)
    have c1 := bG.cell
    have c2 := bR.cell
    have f2 := bR.frozen
    have g1 : ((u.n : Int) == (x.n : Int)) = false := by rw [beq_eq_false_iff_ne]; omega
    go_wp2
    have hc3 := (bR.set (.bool false)).cell
    refine postM_ret (v := .bool false) (by simp only [results, Try.f48]; go_simp) rfl ?_
    exact ⟨ret_bool HF.out.symm, hB1.setCell (p := ⟨w.heap.size + 1, 0, none⟩) (by simp) _⟩
  replace hl := Decidable.not_not.1 hl
  have g1 : ((u.n : Int) == (x.n : Int)) = true := by rw [hl]; simp
  have HN := Lib.hid hl
  clear hl
  have c1 := bG.cell
  go_wp2_with fail
  have HS := bR.lt
  replace bG := boxed_below bG ((Below.refl _ w2).alloc (Nat.le_refl _) (.cells #[.bool false, .bool false, .bool false, .bool false, .bool false, .bool false, .bool false, .bool false] 51))
  replace bR := boxed_below bR ((Below.refl _ w2).alloc (Nat.le_refl _) (.cells #[.bool false, .bool false, .bool false, .bool false, .bool false, .bool false, .bool false, .bool false] 51))
  have bS := SetAt.new w2 51
  have hB2 := hB1.alloc hB1.size (.cells #[.bool false, .bool false, .bool false, .bool false, .bool false, .bool false, .bool false, .bool false] 51)
  clear c1
  generalize w2.alloc (.cells #[.bool false, .bool false, .bool false, .bool false, .bool false, .bool false, .bool false, .bool false] 51) = w3 at bG bR bS hB2 ⊢
  have hhad := had_any u w3
  unfold Ls.v at hhad
  refine hhad.mono ?_
  rintro e w' ⟨rfl, rfl⟩
  clear hhad
  go_wp2
  refine (wpIn_wide (n := 3)).1 ?_
  have hB4 := hB2.alloc hB2.size (.cells #[.slice u.A u.n u.c] 25)
  have bH := Boxed.new w3 25 (.slice u.A u.n u.c)
  replace bG : Boxed _ _ _ _ := bG.alloc (.cells #[.slice u.A u.n u.c] 25)
  replace bR : Boxed _ _ _ _ := bR.alloc (.cells #[.slice u.A u.n u.c] 25)
  replace bS := bS.cel (cel_alloc w3 (.cells #[.slice u.A u.n u.c] 25))
  generalize w3.alloc (.cells #[.slice u.A u.n u.c] 25) = w4 at bG bR bS bH hB4 ⊢
  have hu1 := hu.below hB4
  refine wpIn_rangeFunc_ownG rfl (by omega) (gf := 39) (lb := #[.pointer (some ⟨w3.heap.size, 0, none⟩)]) rfl trivial (enters_of Try.func39 (by kernel_rfl) rfl)
    (had_stops 2 (by omega) w3.heap.size u w4 bH.lt bH.cell hu1) (fun h k a => k (h a)) (keepsK_b (fun a b h k => Ls.Ok.cel k h) w4) (Below.refl _ _) (fun _ => rfl)
    (fun pre W => (Boxed W w.heap.size 22 (.slice x.A x.n x.c) ∧ Boxed W (w.heap.size + 1) 4 (.bool false) ∧ SetAt W w2.heap.size 51 (fun k => decide ((k : Int) ∈ (pre.map (·.1)).map (·.2))) ∧ GoodTo x.g (pre.map (·.1))) ∧ Below w.heap.size w W)
    (fun c pre W => (c = .ret ∧ Boxed W (w.heap.size + 1) 4 (.bool false) ∧ ¬ GoodTo x.g (pre.map (·.1))) ∧ Below w.heap.size w W)
    (OwnFrom.and (ownFrom_cel _ fun s A B hc h => ⟨boxed_cel h.1 hc, boxed_cel h.2.1 hc, h.2.2.1.cel hc, h.2.2.2⟩) (ownFrom_below (Nat.le_refl _) hB4.size))
    (fun c => OwnFrom.and (ownFrom_cel _ fun s A B hc h => by obtain ⟨a, b, d⟩ := h; exact ⟨a, boxed_cel b hc, d⟩) (ownFrom_below (Nat.le_refl _) hB4.size))
    ⟨⟨bG, bR, bS, by simp [GoodTo]⟩, hB4⟩
    (fun y => { tmps := #[.slice x.A x.n x.c, .int .i64 m, .slice u.A u.n u.c, .pointer (some ⟨w.heap.size, 0, none⟩), undef, undef, .pointer (some ⟨w.heap.size + 1, 0, none⟩), .pointer (some ⟨w2.heap.size, 0, none⟩), .int .i64 (y.1.1 : Int), .int .i64 y.1.2, .slice x.A x.n x.c, .int .i64 m, .bool true, .bool false, .bool false, .slice u.A u.n u.c, .int .i64 (u.n : Int), .slice x.A x.n x.c, .int .i64 (x.n : Int), .bool false, .bool false, .slice u.A u.n u.c, .func (.func 39) #[] #[.pointer (some ⟨w3.heap.size, 0, none⟩)], .int .i64 (y.1.1 : Int), .int .i64 y.1.2, undef, undef, undef, undef, undef, undef, undef, undef, undef, undef, undef, undef, undef, undef], defers := [] }) ?assign ?body ?done ?stop
  case assign =>
    intro l y W K hK
    simp only [encHad, List.zip_toArray, List.zip_cons_cons, List.zip_nil_right, List.foldl_toArray', List.foldl_cons, List.foldl_nil, List.size_toArray, List.setIfInBounds_toArray, List.set_cons_succ, List.set_cons_zero]
    gi_wp2
    exact hK
  case body =>
    rintro l pre ⟨⟨i, z⟩, hi, hz, hz1⟩ W ⟨⟨aG, aR, aS, hgood⟩, hB⟩ hlen
    dsimp only at hi hz hz1 ⊢
    have hxW := hx.below hB
    have hin : i < x.n := by rw [← HN.out, ← HL.out]; exact hi
    obtain ⟨p, q, v, hA, _, hg, hp, hcl, hk⟩ := hxW.get hin
    unfold Ls.v at hcl
    have c1 := aG.cell
    rw [hA] at c1
    have c2 := aR.cell
    have f2 := aR.frozen
    have hi1 : (i : Int) < x.n := by omega
    have hct := gcontains_any v.A v.n v.c v.zs z W hk.rd (Nat.le_trans hk.cap hk.top)
    have HSN : Hid (GoodTo x.g ((pre ++ [(⟨(i, z), hi, hz, hz1⟩ : HadOf u.zs)]).map (·.1)) ↔ GoodTo x.g (pre.map (·.1)) ∧ z ∈ v.zs ∧ z ∉ (pre.map (·.1)).map (·.2)) := Lib.hid (by
      rw [List.map_append, ← hg]; exact goodTo_snoc)
    rcases Decidable.em (z ∉ v.zs) with hm | hm
    · rw [decide_eq_false hm] at hct
      have HBad := Lib.hid (fun h => hm (HSN.out.1 h).2.1)
      gi_wp2_with (refine ⟨trivial, ?_⟩; refine (CallsIn.inRound l (callsIn_wide.2 hct)).mono ?_; rintro e w' ⟨rfl, rfl⟩)
      exact ⟨(KeepsOthers.setCell _ _ _).from _, ⟨rfl, aR.set _, HBad.out⟩, hB.setCell (p := ⟨w.heap.size + 1, 0, none⟩) (by simp) _⟩
    replace hm := Decidable.not_not.1 hm
    rw [decide_eq_true hm] at hct
    have hr8 : 0 ≤ z ∧ z < 8 := by
      obtain ⟨r1, r2, r3, r4⟩ := checkG_iff.1 HC.out
      have r5 := (r4 v.zs (by rw [← hg]; exact getD_mem (by rw [HG.out]; exact hin))).1 z hm
      omega
    obtain ⟨k, rfl⟩ : ∃ k : Nat, z = k := ⟨z.toNat, by omega⟩
    have hk8 : k < 8 := by omega
    have hk8' : (k : Int) < 8 := by omega
    have c3 := aS.cell hk8
    have f3 := aS.frozen k
    rcases Decidable.em ((k : Int) ∈ (pre.map (·.1)).map (·.2)) with hin2 | hin2
    · rw [decide_eq_true hin2] at c3
      have HBad := Lib.hid (fun h => (HSN.out.1 h).2.2 hin2)
      clear hm hin2
      gi_wp2_with (refine ⟨trivial, ?_⟩; refine (CallsIn.inRound l (callsIn_wide.2 hct)).mono ?_; rintro e w' ⟨rfl, rfl⟩)
      exact ⟨(KeepsOthers.setCell _ _ _).from _, ⟨rfl, aR.set _, HBad.out⟩, hB.setCell (p := ⟨w.heap.size + 1, 0, none⟩) (by simp) _⟩
    · rw [decide_eq_false hin2] at c3
      have HGood := Lib.hid (HSN.out.2 ⟨hgood, hm, hin2⟩)
      clear hm hin2
      gi_wp2_with (refine ⟨trivial, ?_⟩; refine (CallsIn.inRound l (callsIn_wide.2 hct)).mono ?_; rintro e w' ⟨rfl, rfl⟩)
      have hB5 := hB.setCell (p := ⟨w2.heap.size, k, none⟩) (by show w.heap.size ≤ w2.heap.size; omega) (.bool true)
      refine ⟨(KeepsOthers.setCell _ _ _).from _, fun _ => hu.below hB5, ⟨?_, ?_, ?_, HGood.out⟩, hB5⟩
      · exact boxed_keep aG (heap_setCell_other _ _ _ _ (by show w.heap.size ≠ w2.heap.size; omega))
      · exact boxed_keep aR (heap_setCell_other _ _ _ _ (by show w.heap.size + 1 ≠ w2.heap.size; omega))
      · refine aS.set hk8 fun j hj => ?_
        rw [List.map_append, List.map_append]
        by_cases he : j = k
        · rw [if_pos he, he]
          exact decide_eq_true (by simp)
        · rw [if_neg he]
          refine decide_eq_decide.2 ?_
          rw [List.mem_append]
          simp
          omega
  case done =>
    rintro D ys W hD hys ⟨⟨aG, aR, aS, hgood⟩, hB⟩ hK
    have HF : Hid (true = β) := Lib.hid (by
      rw [hys, ← HL.out] at hgood
      rw [← HB.out]
      exact ((goodTo_fits HC.out (by rw [HL.out, HG.out]; exact HN.out)).2 hgood).symm)
    have c2 := aR.cell
    have f2 := aR.frozen
    go_wp2
    have hK2 := (KeepsOthers.setCell W ⟨w.heap.size + 1, 0, none⟩ (.bool true)).same D _ hK rfl
    have hc5 := (boxed_cel (aR.set (.bool true)) (cel_putObj (.deferred none) hK2 rfl)).cell
    have hB5 := hB.setCell (p := ⟨w.heap.size + 1, 0, none⟩) (by simp) (.bool true)
    refine postM_mark (v := .bool true) hK2 (by simp only [results, Try.f48]; go_simp) rfl ?_
    exact ⟨ret_bool HF.out, hB5.trans (belowK_b (w := w) (Nat.le_refl _) _ D _ _ (Nat.le_trans hB4.size hD) hK2 rfl rfl)⟩
  case stop =>
    rintro D c pre W hD hsp ⟨⟨rfl, aR, hbad⟩, hB⟩ hK
    have HF : Hid (false = β) := Lib.hid (by
      rw [← HB.out]
      refine (Bool.eq_false_iff.2 fun h => hbad (goodTo_pre hsp ?_)).symm
      rw [← HL.out]
      exact (goodTo_fits HC.out (by rw [HL.out, HG.out]; exact HN.out)).1 h)
    gi_wp2
    have hc5 := (boxed_cel aR (cel_putObj (.deferred none) hK rfl)).cell
    refine postM_mark (v := .bool false) hK (by simp only [results, Try.f48]; go_simp) rfl ?_
    exact ⟨ret_bool HF.out, hB.trans (belowK_b (w := w) (Nat.le_refl _) _ D _ _ (Nat.le_trans hB4.size hD) hK rfl rfl)⟩
end Go.Proofs.Ytdiklmfaehmmjaa
