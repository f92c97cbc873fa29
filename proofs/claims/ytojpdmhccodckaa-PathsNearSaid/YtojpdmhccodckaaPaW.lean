/-
  The contracts of package paths, of the landed code.
-/
import Derived.Test.YtojpdmhccodckaaPaWf
import Derived.Test.YtojpdmhccodckaaReg2
namespace Go.Proofs.Ytojpdmhccodckaa
open Go.RowKit
set_option linter.unusedVariables false

theorem tuple_int {a b : Int} {xs : Array Value} {x y : Value} (h : a = b) : Ending.returned (.tuple #[x, y, .int .i64 a]) = .returned (.tuple #[x, y, .int .i64 b]) := by rw [h]

set_option maxRecDepth 100000 in
set_option maxHeartbeats 1000000 in
theorem pmoreC : MoreC 9 := by
  intro x m u z w hx hu hm1 hm2 hz1 hz2
  obtain ⟨A, n, c, zs⟩ := u
  have hmay := pmay_any x m ⟨A, n, c, zs⟩ z w hx hu hm1 hm2
  obtain ⟨β, hβ⟩ : ∃ β, mayP x.g m zs z = β := ⟨_, rfl⟩
  have HM := Lib.hid hβ
  simp only at hmay
  rw [hβ] at hmay
  have hxv : x.v = .slice x.A x.n x.c := rfl
  have HXV := Lib.hid hxv
  rw [hxv] at hmay ⊢
  unfold Ls.v at hmay ⊢
  simp only at hmay ⊢
  clear hβ hxv
  go_enter Try.func9, Try.ntmps9
  go_wp2_with fail
  refine hmay.mono ?_
  rintro e w1 ⟨rfl, hb1⟩
  clear hmay
  cases β
  · have hbad := Lib.hid (path_bad HM.out)
    go_wp2
    go_ret3
    refine ⟨none, 0, 0, by rw [hbad.out.1, hbad.out.2.1]; rfl, ?_, hb1⟩
    rw [hbad.out.2.2.1]
    exact OwnI.nil _ _
  obtain ⟨M, rfl, hM8, hg8, hzl, i, rfl, hif⟩ := may_nat HM.out
  have HOK := Lib.hid (path_ok HM.out)
  have HG := Lib.hid hx.glen
  have HZ := Lib.hid (show zs.length = n from hu.len)
  rw [hx.glen] at hg8 hif
  have HZL : Hid (n = x.n) := Lib.hid (by rw [← HZ.out, hzl, HG.out])
  clear hzl
  have hbeg := pbegin_any (i : Int) w1 hz1 hz2
  go_wp2_with fail
  refine hbeg.mono ?_
  rintro e w2 ⟨A2, c2, rfl, hO2, hb2⟩
  clear hbeg
  have hB2 := hb1.trans (hb2.mono hb1.size)
  have hO2' := hO2.mono hb1.size
  have bS := SrAt.new w2 43 (-1) A2 1 c2
  have hal : Below w2.heap.size w2 (w2.alloc (.cells #[.int .i64 (-1), .int .i64 (-1), .int .i64 (-1), .int .i64 (-1), .int .i64 (-1), .int .i64 (-1), .int .i64 (-1), .int .i64 (-1), .slice A2 1 c2] 43)) := (Below.refl _ w2).alloc (Nat.le_refl _) _
  have hO3 := hO2'.below hal
  have hB3 := hB2.trans (hal.mono hB2.size)
  have hb := hB2.size
  have hrun := prun_any x M A n c zs i false w2.heap.size A2 c2 w (w2.alloc (.cells #[.int .i64 (-1), .int .i64 (-1), .int .i64 (-1), .int .i64 (-1), .int .i64 (-1), .int .i64 (-1), .int .i64 (-1), .int .i64 (-1), .slice A2 1 c2] 43)) hx hu HM.out hB3 hb bS hO3
  rw [HXV.out, show (!false) = true from rfl] at hrun
  obtain ⟨S, hS⟩ : ∃ S, searchP x.g M zs i false = S := ⟨_, rfl⟩
  have HS := Lib.hid (show moreS x.g M zs i = S from hS)
  rw [hS] at hrun
  clear hO2 hO2' hO3 hal hb1 hb2 hS
  go_wp2_with fail
  obtain ⟨sb, hsb⟩ : ∃ sb, sb = w2.heap.size := ⟨_, rfl⟩
  rw [← hsb] at hrun bS hb ⊢
  generalize w2.alloc (.cells #[.int .i64 (-1), .int .i64 (-1), .int .i64 (-1), .int .i64 (-1), .int .i64 (-1), .int .i64 (-1), .int .i64 (-1), .int .i64 (-1), .slice A2 1 c2] 43) = w3 at *
  clear hsb
  refine hrun.mono ?_
  rintro e w4 ⟨A4, c4, rfl, aS, own, hB4⟩
  clear hrun bS hB3
  by_cases hf : S.f = -1
  · have hk : (S.f == -1) = true := by rw [hf]; rfl
    have hbad : Hid (pathErr x.g M zs i = 0 ∧ moreB x.g M zs i = false ∧ moreL x.g M zs i = []) := Lib.hid (by
      obtain ⟨h1, h2, h3, _⟩ := HOK.out
      refine ⟨h1, h2.trans ?_, h3.trans ?_⟩
      · rw [foundP, HS.out]; exact decide_eq_false (fun h => h hf)
      · rw [moreP, HS.out, if_pos hf])
    clear hf
    go_wp2
    go_ret3
    refine ⟨none, 0, 0, by rw [hbad.out.1, hbad.out.2.1]; rfl, ?_, hB4⟩
    rw [hbad.out.2.2]
    exact OwnI.nil _ _
  · have hk : (S.f == -1) = false := by rw [beq_eq_false_iff_ne]; exact hf
    have hgood : Hid (pathErr x.g M zs i = 0 ∧ moreB x.g M zs i = true ∧ moreL x.g M zs i = augP S.by_ (M + 2) S.f zs) := Lib.hid (by
      obtain ⟨h1, h2, h3, _⟩ := HOK.out
      refine ⟨h1, h2.trans ?_, h3.trans ?_⟩
      · rw [foundP, HS.out]; exact decide_eq_true hf
      · rw [moreP, HS.out, if_neg hf])
    have hn0 : 0 < n := by rw [HZL.out]; omega
    have hn8 : n ≤ 8 := by rw [HZL.out]; exact hg8
    have hcore : Core x.g M zs i false S := by
      have := (done_of (on := false) HM.out).core
      rwa [show searchP x.g M zs i false = S from HS.out] at this
    have hal := palong_any A n c zs sb A4 _ c4 w4 (hu.below hB4) hn0 hn8 hM8 (may_fits HM.out) (mayP_iff.1 HM.out).2.2 hcore hf aS
    obtain ⟨k, hk2⟩ : ∃ k, S.f = k := ⟨_, rfl⟩
    obtain ⟨R, hR⟩ : ∃ R, augP S.by_ (M + 2) S.f zs = R := ⟨_, rfl⟩
    rw [hR] at hal hgood
    rw [hk2] at hal hk ⊢
    clear hf hk2 hR hcore aS
    go_wp2_with fail
    refine hal.mono ?_
    rintro e w5 ⟨A5, c5, rfl, hO5, hb5⟩
    clear hal
    have hO5' := hO5.mono hB4.size
    have hB5 := hB4.trans (hb5.mono hB4.size)
    clear hO5 hb5
    go_wp2
    go_ret3
    refine ⟨A5, n, c5, by rw [hgood.out.1, hgood.out.2.1]; rfl, ?_, hB5⟩
    rw [hgood.out.2.2]
    exact hO5'
set_option maxRecDepth 100000 in
set_option maxHeartbeats 1000000 in
theorem preachC : ReachC 14 := by
  intro x m u z w hx hu hm1 hm2 hz1 hz2
  obtain ⟨A, n, c, zs⟩ := u
  have hmay := pmay_any x m ⟨A, n, c, zs⟩ z w hx hu hm1 hm2
  obtain ⟨β, hβ⟩ : ∃ β, mayP x.g m zs z = β := ⟨_, rfl⟩
  have HM := Lib.hid hβ
  simp only at hmay
  rw [hβ] at hmay
  have hxv : x.v = .slice x.A x.n x.c := rfl
  have HXV := Lib.hid hxv
  rw [hxv] at hmay ⊢
  unfold Ls.v at hmay ⊢
  simp only at hmay ⊢
  clear hβ hxv
  go_enter Try.func14, Try.ntmps14
  go_wp2_with fail
  refine hmay.mono ?_
  rintro e w1 ⟨rfl, hb1⟩
  clear hmay
  cases β
  · have hbad := Lib.hid (path_bad HM.out)
    go_wp2
    go_ret3
    refine ⟨none, 0, 0, none, 0, 0, by rw [hbad.out.1]; rfl, ?_, ?_, ?_, hb1⟩
    · rw [hbad.out.2.2.2.1]; exact OwnI.nil _ _
    · rw [hbad.out.2.2.2.2]; exact OwnI.nil _ _
    · refine List.pairwise_cons.2 ⟨fun b hb g hg => ?_, List.pairwise_singleton _ _⟩
      exact absurd hg.1 (by simp)
  obtain ⟨M, rfl, hM8, hg8, hzl, i, rfl, hif⟩ := may_nat HM.out
  have HOK := Lib.hid (path_ok HM.out)
  clear hzl
  have hbeg := pbegin_any (i : Int) w1 hz1 hz2
  go_wp2_with fail
  refine hbeg.mono ?_
  rintro e w2 ⟨A2, c2, rfl, hO2, hb2⟩
  clear hbeg
  have hB2 := hb1.trans (hb2.mono hb1.size)
  have hO2' := hO2.mono hb1.size
  have bS := SrAt.new w2 43 (-1) A2 1 c2
  have hal : Below w2.heap.size w2 (w2.alloc (.cells #[.int .i64 (-1), .int .i64 (-1), .int .i64 (-1), .int .i64 (-1), .int .i64 (-1), .int .i64 (-1), .int .i64 (-1), .int .i64 (-1), .slice A2 1 c2] 43)) := (Below.refl _ w2).alloc (Nat.le_refl _) _
  have hO3 := hO2'.below hal
  have hB3 := hB2.trans (hal.mono hB2.size)
  have hb := hB2.size
  have hrun := prun_any x M A n c zs i true w2.heap.size A2 c2 w (w2.alloc (.cells #[.int .i64 (-1), .int .i64 (-1), .int .i64 (-1), .int .i64 (-1), .int .i64 (-1), .int .i64 (-1), .int .i64 (-1), .int .i64 (-1), .slice A2 1 c2] 43)) hx hu HM.out hB3 hb bS hO3
  rw [HXV.out, show (!true) = false from rfl] at hrun
  obtain ⟨S, hS⟩ : ∃ S, searchP x.g M zs i true = S := ⟨_, rfl⟩
  have HS := Lib.hid (show reachS x.g M zs i = S from hS)
  rw [hS] at hrun
  clear hO2 hO2' hO3 hal hb1 hb2 hS
  go_wp2_with fail
  obtain ⟨sb, hsb⟩ : ∃ sb, sb = w2.heap.size := ⟨_, rfl⟩
  rw [← hsb] at hrun bS hb ⊢
  generalize w2.alloc (.cells #[.int .i64 (-1), .int .i64 (-1), .int .i64 (-1), .int .i64 (-1), .int .i64 (-1), .int .i64 (-1), .int .i64 (-1), .int .i64 (-1), .slice A2 1 c2] 43) = w3 at *
  clear hsb
  refine hrun.mono ?_
  rintro e w4 ⟨A4, c4, rfl, aS, own, hB4⟩
  clear hrun bS hB3
  have hcore : Core x.g M zs i true S := by
    have := (done_of (on := true) HM.out).core
    rwa [show searchP x.g M zs i true = S from HS.out] at this
  have hq0 : 0 < S.q.length := (List.getElem?_eq_some_iff.1 hcore.head).1
  have hq9 := q_len hcore
  have hle := own.le
  obtain ⟨g4, rfl, hg4w, hg4r⟩ := own.lt (by omega)
  have hsort := psort_any w.heap.size g4 S.q.length c4 S.q w4 own hq0 (by omega)
  have HWO : Hid (S.q.mergeSort (fun x y => decide (x ≤ y)) = whoL x.g M zs i) := Lib.hid (by
    rw [sorted_who hcore.nodup hcore.rng, HOK.out.2.2.2.1, whoP, HS.out])
  have HWA : Hid (upto 8 (fun k => decide (S.by_.getD k (-1) ≠ -1)) = whatL x.g M zs i) := Lib.hid (by
    rw [what_upto hcore.len hM8, HOK.out.2.2.2.2, whatP, HS.out]; rfl)
  have hne : sb ≠ g4 := by
    intro he
    obtain ⟨cur, h1, _⟩ := aS
    obtain ⟨g', cur', hA, _, hh, _⟩ := own.2.resolve_left (by omega)
    cases hA
    rw [← he, h1] at hh
    exact absurd (Obj.cells.inj (Option.some.inj hh)).2.1 (by decide)
  have hqf : Hid (∀ z ∈ whoL x.g M zs i, -9223372036854775808 ≤ z ∧ z ≤ 9223372036854775807) := Lib.hid (by
    rw [← HWO.out]
    intro z hz
    have := hcore.rng z ((List.mergeSort_perm _ _).mem_iff.1 hz)
    rw [hx.glen] at this
    have := hx.cap
    have := hx.top
    unfold maxLen at this
    omega)
  have HPE := Lib.hid HOK.out.1
  rw [HWO.out] at hsort
  have aW := aS.waits
  have ha := HWA.out
  obtain ⟨WO, hWO⟩ : ∃ l, whoL x.g M zs i = l := ⟨_, rfl⟩
  obtain ⟨WA, hWA⟩ : ∃ l, whatL x.g M zs i = l := ⟨_, rfl⟩
  obtain ⟨E, hE⟩ : ∃ l, pathErr x.g M zs i = l := ⟨_, rfl⟩
  rw [hWO] at hsort hqf
  rw [hWA] at ha
  have HW1 := Lib.hid hWO
  have HW2 := Lib.hid hWA
  clear hcore hWO hWA hE HWO HWA own
  obtain ⟨k, hk⟩ : ∃ k, S.q.length = k := ⟨_, rfl⟩
  rw [hk] at hsort aW aS hq0 hq9 hle
  clear hk
  obtain ⟨F, hF⟩ : ∃ F : Nat → Int, (fun k => S.by_.getD k (-1)) = F := ⟨_, rfl⟩
  rw [hF] at aS
  have HA : Hid (upto 8 (fun k => decide (F k ≠ -1)) = WA) := Lib.hid (by rw [← hF]; exact ha)
  clear ha hF
  go_wp2_with fail
  refine hsort.mono ?_
  rintro e w5 ⟨rfl, own5, hgr⟩
  clear hsort aW
  have hB5 := hB4.grown hgr hB4.size (fun j hj => by cases hj; exact hg4w)
  have aS5 := aS.keep (hgr.block sb aS.lt (fun h => hne (Option.some.inj h)))
  have hg5 : g4 < w5.heap.size := Nat.lt_of_lt_of_le hg4r hgr.size
  clear hgr aS hB4 hg4r
  have hS : ∀ w', Below w5.heap.size w5 w' → w'.cell? ⟨sb, 8, none⟩ = some (.slice (some ⟨g4, 0, none⟩) k c4) := fun w' hb => (aS5.below hb).waits
  go_wp2_with fail
  refine wp_region_ord (S := fun w' => w'.cell? ⟨sb, 8, none⟩ = some (.slice (some ⟨g4, 0, none⟩) k c4)) [(0, true), (1, true), (2, false), (3, true), (4, true), (5, true)] default (by kernel_rfl) (by kernel_rfl) (by kernel_rfl) (hS _ ((Below.refl _ w5).drew)) ?_
  simp only [getOrd, nth]
  obtain ⟨r0, hu0⟩ : ∃ r0, r0 = w5.drew := ⟨_, rfl⟩
  have b0 : Below w5.heap.size w5 r0 := by rw [hu0]; exact (Below.refl _ w5).drew
  rw [← hu0]
  clear hu0
  repeat (first | (refine ordS (by rfl) ?_; simp only [Act.put, List.setIfInBounds_toArray, List.set_cons_zero, List.set_cons_succ]) | (refine ordN (by rfl) ?_; simp only [Act.put, List.setIfInBounds_toArray, List.set_cons_zero, List.set_cons_succ]) | (refine ordQ (v := ?_) (by rfl) (fun _ hSw => ?_) ?_; rotate_left; (focus (go_simp; (first | done | with_reducible rfl))); simp only [Act.put, List.setIfInBounds_toArray, List.set_cons_zero, List.set_cons_succ]))
  refine ordD (by rfl) ?_
  intro K hK
  go_simp
  have hc := pcame_any F sb _ k c4 r0 (aS5.below b0)
  rw [HA.out] at hc
  refine hc.mono ?_
  rintro e r1 ⟨A6, n6, c6, rfl, hO6, hb6⟩
  have b1 : Below w5.heap.size w5 r1 := b0.trans (hb6.mono b0.size)
  go_wp2_with fail
  refine hK _ _ (hS _ b1) ?_
  clear hK K hc
  try simp only [Act.put, List.setIfInBounds_toArray, List.set_cons_zero, List.set_cons_succ]
  repeat (first | (refine ordS (by rfl) ?_; simp only [Act.put, List.setIfInBounds_toArray, List.set_cons_zero, List.set_cons_succ]) | (refine ordN (by rfl) ?_; simp only [Act.put, List.setIfInBounds_toArray, List.set_cons_zero, List.set_cons_succ]) | (refine ordQ (v := ?_) (by rfl) (fun _ hSw => ?_) ?_; rotate_left; (focus (go_simp; (first | done | with_reducible rfl))); simp only [Act.put, List.setIfInBounds_toArray, List.set_cons_zero, List.set_cons_succ]))
  refine ordE ?_
  have hO7 := hO6.mono b0.size
  have own7 := own5.below b1
  have hB7 := hB5.trans (b1.mono hB5.size)
  have hs0 := b0.size
  clear hS own5 b1 b0 aS5
  go_wp2
  go_ret3
  refine ⟨some ⟨g4, 0, none⟩, k, c4, A6, n6, c6, by rw [HPE.out]; rfl, by rw [HW1.out]; exact ⟨own7, hqf.out⟩, by rw [HW2.out]; exact hO7.mono hB5.size, ?_, hB7⟩
  refine List.pairwise_cons.2 ⟨fun b hb g hg hg2 => ?_, List.pairwise_singleton _ _⟩
  rw [List.mem_singleton.1 hb] at hg2
  have h1 := (hO7.blk hg2).1
  have h2 : (some ⟨g4, 0, none⟩ : Option Addr) = some ⟨g, 0, none⟩ := hg.2
  cases h2
  omega
end Go.Proofs.Ytojpdmhccodckaa
