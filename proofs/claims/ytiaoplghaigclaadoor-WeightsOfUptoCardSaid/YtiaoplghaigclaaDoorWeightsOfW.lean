/-
  The walk of WeightsOf: it answers true, for any gains that are not too much, any items.
-/
import Derived.Test.YtiaoplghaigclaaDoorWeW
import Derived.Test.YtiaoplghaigclaaDoorWeL
import Derived.Test.YtiaoplghaigclaaDoorGrT
import Derived.Test.YtiaoplghaigclaaDoorRef10c
import Derived.Test.YtiaoplghaigclaaDoorPcs
namespace Go.Proofs.YtiaoplghaigclaaDoor.weightsOf
open Go.RowKit
set_option linter.unusedVariables false

/-- Two lists of ints of one call. -/
def pcW (u v : Ls) (k l : Nat) : Pc := ⟨[], [u.held k, v.held l], []⟩
theorem pcW_own {w : World} {lo hi k l : Nat} {u v : Ls} (h1 : OwnI w lo u) (h2 : OwnI w lo v) (ha : AptL [u, v]) (hh : lo ≤ hi) (g1 : ∀ g, Blk u g → g < hi) (g2 : ∀ g, Blk v g → g < hi) (hk : k < 1000000000 ∧ l < 1000000000) (hn : u.n ≤ 1000000000 ∧ v.n ≤ 1000000000) : (pcW u v k l).Ok w lo hi where
  le := hh
  ob := fun x hx => by simp [pcW] at hx
  oi := fun x hx => by
    simp only [pcW, List.mem_cons, List.not_mem_nil, or_false] at hx
    rcases hx with rfl | rfl
    · exact ⟨_, h1.own⟩
    · exact ⟨_, h2.own⟩
  ol := fun x hx => by simp [pcW] at hx
  sb := List.Pairwise.nil
  si := sep_of_apt (l := [u, v]) rfl ha
  sl := List.Pairwise.nil
  lt := fun x hx => by
    simp only [pcW, List.not_mem_nil, or_false, false_or, List.mem_cons] at hx
    rcases hx with rfl | rfl
    · exact ⟨fun g hg => g1 g hg, hk.1, hn.1⟩
    · exact ⟨fun g hg => g2 g hg, hk.2, hn.2⟩
theorem bid_len8 {g : List (List Int)} {m : Int} : (bidE g m).length ≤ 8 ∧ (ofE g m).length ≤ 8 := by
  by_cases h : mayW g m = true
  · obtain ⟨h1, h2, h3, _⟩ := mayW_iff.1 h
    rw [bidE, ofE, if_pos h, if_pos h]
    simp only [List.length_map, List.length_range]
    omega
  · rw [bidE, ofE, if_neg h, if_neg h]; simp
set_option maxRecDepth 100000 in
set_option maxHeartbeats 4000000 in
theorem walk (x : Gr) (m : Int) (w : World) (h : x.Ok w) (hm1 : -9223372036854775808 ≤ m) (hm2 : m ≤ 9223372036854775807) (hz : sizeL x.t ≤ 1048576) :
    Calls Tryd.prog 3 #[.agg #[x.v, .int .i64 m]] w fun e w' => e = .returned (.bool true) ∧ Below w.heap.size w w' := by
  have hx := h
  have hB := Below.refl w.heap.size w
  have hxv : x.v = .slice x.A x.n x.c := rfl
  have Vx := Lib.hid hxv
  rw [hxv]
  obtain ⟨Z, hZ⟩ : ∃ Z, sizeL x.t = Z := ⟨_, rfl⟩
  have HZ := Lib.hid hZ
  clear hxv h
  go_enter Tryd.func3, Tryd.ntmps3
  have bg := WBox.new w x m
  have hbx : Below w.heap.size w (w.alloc (.cells #[.slice x.A x.n x.c, .int .i64 m] 24)) := (Below.refl _ w).alloc (Nat.le_refl _) _
  have sz1 := Lib.hid hbx.size
  replace hx := hx.below hbx
  replace hB := hB.trans (hbx.mono hB.size)
  clear hbx
  have eg0 := bg.c0
  have eg1 := bg.c1
  have hc := (intlistssize_all x.A x.n x.c x.t (w.alloc (.cells #[.slice x.A x.n x.c, .int .i64 m] 24)) hx.lss hx.cap hx.top hz).mono (R' := fun e w' => e = .returned (.int .i64 (Z : Nat)) ∧ Below (w.alloc (.cells #[.slice x.A x.n x.c, .int .i64 m] 24)).heap.size (w.alloc (.cells #[.slice x.A x.n x.c, .int .i64 m] 24)) w') fun e w' ⟨he, hw⟩ => ⟨by rw [he, HZ.out], by rw [← hw]; exact Below.refl _ _⟩
  go_wp2_with fail
  clear eg0 eg1
  generalize w.alloc (.cells #[.slice x.A x.n x.c, .int .i64 m] 24) = W1 at *
  refine hc.mono ?_
  rintro e v2 ⟨rfl, hb⟩
  clear hc
  have sz2 := Lib.hid hb.size
  replace hx := hx.below hb
  replace bg := bg.below hb
  replace hB := hB.trans (hb.mono hB.size)
  clear hb
  by_cases q1 : 3000 < Z
  · have g1 : decide (3000 < (Z : Int)) = true := decide_eq_true (by omega)
    have g1' : decide (3000 < Z) = true := decide_eq_true q1
    clear hZ
    have eg0 := bg.c0
    have eg1 := bg.c1
    go_wp2
    go_ret
    exact ⟨rfl, hB⟩
  have g1 : decide (3000 < (Z : Int)) = false := decide_eq_false (by omega)
  have g1' : decide (3000 < Z) = false := decide_eq_false q1
  have hs := sizeL_sum x.t
  have hlen := hx.len
  have hxn : x.n ≤ 3000 := by omega
  have hsm : ∀ u ∈ x.t, u.n ≤ 3000 := fun u hu => by have := size_mem hu; omega
  have HSM := Lib.hid hsm
  have H9 : Hid (∀ u ∈ x.t, u.n ≤ 1000000000) := Lib.hid (fun u hu => by have := hsm u hu; omega)
  obtain ⟨BE, hBE⟩ : ∃ E, bestE x.g m = E := ⟨_, rfl⟩
  obtain ⟨E, hE⟩ : ∃ E, wErr x.g m = E := ⟨_, rfl⟩
  obtain ⟨ML, hML⟩ : ∃ T, bidE x.g m = T := ⟨_, rfl⟩
  obtain ⟨OL, hOL⟩ : ∃ T, ofE x.g m = T := ⟨_, rfl⟩
  have HBE := Lib.hid hBE
  have HE := Lib.hid hE
  have HML := Lib.hid hML
  have HOL := Lib.hid hOL
  have hl1 : ML.length ≤ 8 := by rw [← hML]; exact bid_len8.1
  have hl2 : OL.length ≤ 8 := by rw [← hOL]; exact bid_len8.2
  clear q1 hs hlen hsm hBE hE hML hOL hZ
  have eg0 := bg.c0
  have eg1 := bg.c1
  have hc := twin_gr x v2 hx (by omega) H9.out
  rw [Vx.out] at hc
  go_wp2_with fail
  clear eg0 eg1
  refine hc.mono ?_
  rintro e v3 ⟨y, rfl, hy, hyg, hyn, hb⟩
  clear hc
  have sz3 := Lib.hid hb.size
  replace hx := hx.below hb
  replace bg := bg.below hb
  replace hB := hB.trans (hb.mono hB.size)
  clear hb
  have rgY := Lib.hid hy.rng
  have vy : y.v = .slice y.A y.n y.c := rfl
  have Vy := Lib.hid vy
  rw [vy]
  have HYG := Lib.hid hyg
  have HYN := Lib.hid hyn
  clear vy hyg hyn
  have eg0 := bg.c0
  have eg1 := bg.c1
  have hc := pbestC y m v3 hy.ok hm1 hm2
  rw [Vy.out, HYG.out, HBE.out, HE.out] at hc
  go_wp2_with fail
  clear eg0 eg1
  refine hc.mono ?_
  rintro e v4 ⟨rfl, hb⟩
  clear hc
  have sz4 := Lib.hid hb.size
  replace hx := hx.below hb
  replace hy := hy.below hb
  replace bg := bg.below hb
  replace hB := hB.trans (hb.mono hB.size)
  clear hb
  have eg0 := bg.c0
  have eg1 := bg.c1
  have hc := rbestC x m v4 hx hm1 hm2
  rw [Vx.out, HBE.out, HE.out] at hc
  go_wp2_with fail
  clear eg0 eg1
  refine hc.mono ?_
  rintro e v5 ⟨rfl, hb⟩
  clear hc
  have sz5 := Lib.hid hb.size
  replace hx := hx.below hb
  replace hy := hy.below hb
  replace bg := bg.below hb
  replace hB := hB.trans (hb.mono hB.size)
  clear hb
  have eg0 := bg.c0
  have eg1 := bg.c1
  have hc := pprovedC y m v5 hy.ok hm1 hm2
  rw [Vy.out, HYG.out, HE.out, HML.out, HOL.out] at hc
  go_wp2_with fail
  clear eg0 eg1
  refine hc.mono ?_
  rintro e v6 ⟨A1, n1, c1, A1p, n1p, c1p, rfl, ha1, ha1p, hapt, hb⟩
  clear hc
  have sz6 := Lib.hid hb.size
  replace hx := hx.below hb
  replace hy := hy.below hb
  replace bg := bg.below hb
  replace hB := hB.trans (hb.mono hB.size)
  clear hb
  have HAP := Lib.hid hapt
  clear hapt
  have rgA : Hid (∀ g, Blk ⟨A1, n1, c1, ML⟩ g → g < v6.heap.size) := Lib.hid (fun g hg => (ha1.blk hg).2)
  have rgB : Hid (∀ g, Blk ⟨A1p, n1p, c1p, OL⟩ g → g < v6.heap.size) := Lib.hid (fun g hg => (ha1p.blk hg).2)
  have hn1 : n1 = ML.length := ha1.len.symm
  have hn1p : n1p = OL.length := ha1p.len.symm
  subst hn1
  subst hn1p
  have eg0 := bg.c0
  have eg1 := bg.c1
  have hc := rprovedC x m v6 hx hm1 hm2
  rw [Vx.out, HE.out, HML.out, HOL.out] at hc
  go_wp2_with fail
  clear eg0 eg1
  refine hc.mono ?_
  rintro e v7 ⟨A2, n2, c2, A2p, n2p, c2p, rfl, ha2, ha2p, hapt, hb⟩
  clear hc
  have sz7 := Lib.hid hb.size
  replace hx := hx.below hb
  replace hy := hy.below hb
  replace ha1 := ha1.below hb
  replace ha1p := ha1p.below hb
  replace bg := bg.below hb
  replace hB := hB.trans (hb.mono hB.size)
  clear hb
  clear hapt
  have hn2 : n2 = ML.length := ha2.len.symm
  have hn2p : n2p = OL.length := ha2p.len.symm
  subst hn2
  subst hn2p
  have eg0 := bg.c0
  have eg1 := bg.c1
  have hc := sameints_b ⟨A1, ML.length, c1, ML⟩ ⟨A2, ML.length, c2, ML⟩ v7 ha1.ok ha2.ok
  rw [show (ML == ML) = true by simp] at hc
  go_wp2_with fail
  clear eg0 eg1
  refine hc.mono ?_
  rintro e v8 ⟨rfl, hb⟩
  clear hc
  have sz8 := Lib.hid hb.size
  replace hx := hx.below hb
  replace hy := hy.below hb
  replace ha1 := ha1.below hb
  replace ha1p := ha1p.below hb
  replace ha2 := ha2.below hb
  replace ha2p := ha2p.below hb
  replace bg := bg.below hb
  replace hB := hB.trans (hb.mono hB.size)
  clear hb
  have eg0 := bg.c0
  have eg1 := bg.c1
  have hc := sameints_b ⟨A1p, OL.length, c1p, OL⟩ ⟨A2p, OL.length, c2p, OL⟩ v8 ha1p.ok ha2p.ok
  rw [show (OL == OL) = true by simp] at hc
  go_wp2_with fail
  clear eg0 eg1
  refine hc.mono ?_
  rintro e v9 ⟨rfl, hb⟩
  clear hc
  have sz9 := Lib.hid hb.size
  replace hx := hx.below hb
  replace hy := hy.below hb
  replace ha1 := ha1.below hb
  replace ha1p := ha1p.below hb
  replace ha2 := ha2.below hb
  replace ha2p := ha2p.below hb
  replace bg := bg.below hb
  replace hB := hB.trans (hb.mono hB.size)
  clear hb
  have eg0 := bg.c0
  have eg1 := bg.c1
  have hc := left_gr y x v9 _ hy hx HYG.out HYN.out (by omega) H9.out
  rw [Vy.out, Vx.out] at hc
  go_wp2_with fail
  clear eg0 eg1
  refine hc.mono ?_
  rintro e v10 ⟨rfl, hb⟩
  clear hc
  have sz10 := Lib.hid hb.size
  replace hx := hx.below hb
  replace hy := hy.below hb
  replace ha1 := ha1.below hb
  replace ha1p := ha1p.below hb
  replace ha2 := ha2.below hb
  replace ha2p := ha2p.below hb
  replace bg := bg.below hb
  replace hB := hB.trans (hb.mono hB.size)
  clear hb
  have szR := Lib.hid (Nat.le_refl 0)
  have hyn3 : y.n ≤ 3000 := by rw [HYN.out]; exact hxn
  have YSM := Lib.hid (twin_small HYG.out hy.ok hx H9.out)
  have hk0 := Bkn.new 45 tHs v10
  have hbk : Below v10.heap.size v10 (v10.alloc (.cells #[.int .i64 0, .slice none 0 0, .slice none 0 0, .slice none 0 0, .slice none 0 0, .slice none 0 0, .slice none 0 0, .slice none 0 0, .slice none 0 0, .slice none 0 0] 45)) := (Below.refl _ v10).alloc (Nat.le_refl _) _
  clear hx ha2 ha2p bg
  go_wp2_with fail
  generalize v10.alloc (.cells #[.int .i64 0, .slice none 0 0, .slice none 0 0, .slice none 0 0, .slice none 0 0, .slice none 0 0, .slice none 0 0, .slice none 0 0, .slice none 0 0, .slice none 0 0] 45) = s0 at hk0 hbk ⊢
  obtain ⟨kb, hkb⟩ : ∃ kb, kb = v10.heap.size := ⟨_, rfl⟩
  rw [← hkb] at hk0 hbk ⊢
  have HKB := Lib.hid hkb
  clear hkb
  have hyK : ∀ w', Below kb v10 w' → TwnL w' v2.heap.size y := fun w' h => hy.below (HKB.out ▸ h)
  have haK : ∀ w', Below kb v10 w' → OwnI w' v5.heap.size ⟨A1, ML.length, c1, ML⟩ := fun w' h => ha1.below (HKB.out ▸ h)
  have hapK : ∀ w', Below kb v10 w' → OwnI w' v5.heap.size ⟨A1p, OL.length, c1p, OL⟩ := fun w' h => ha1p.below (HKB.out ▸ h)
  have hyA : ∀ p q, 0 < y.n → y.A = some ⟨p, q, none⟩ → p < kb := fun p q h0 hA => by
    obtain ⟨g, h1, _, h2⟩ := hy.lists.lt (by have := hy.lists.le; omega)
    rw [h1] at hA; cases hA; rw [HKB.out]; exact h2
  have hyl : y.t.length = y.n := hy.ok.len
  clear hy ha1 ha1p
  refine (toldIntLists kb 0 noTabs noLists y.A y.n y.c y.t s0 hk0 (outs_at (hyK _ hbk).lists) hyA (by unfold maxLen; omega) (by omega) (by show 0 + _ ≤ _; omega) (by show 0 ≤ _; omega)).mono ?_
  rintro e s1 ⟨rfl, T1', st1, hk1, hb1, _⟩
  have hK1 := hbk.trans hb1
  go_wp2_with fail
  refine (toldInts kb _ T1' _ ⟨A1, ML.length, c1, ML⟩ s1 hk1 (by omega) (by show ([] ++ told 0 y.t).length ≤ _; rw [List.nil_append, told_len]; omega)).mono ?_
  rintro e s2 ⟨rfl, T2', st2, hk2, hb2, _⟩
  have hK2 := hK1.trans hb2
  rw [more_more] at hk2
  go_wp2_with fail
  refine (toldInts kb _ T2' _ ⟨A1p, OL.length, c1p, OL⟩ s2 hk2 (by omega) (by show ([] ++ (told 0 y.t ++ [_])).length ≤ _; rw [List.nil_append, List.length_append, told_len]; simp; omega)).mono ?_
  rintro e s3 ⟨rfl, T3', st3, hk3, hb3, _⟩
  have hK3 := hK2.trans hb3
  rw [more_more] at hk3
  go_wp2_with fail
  have hps : Pcs s3 kb v2.heap.size [pcL y.A y.n y.c y.t 0, pcW ⟨A1, ML.length, c1, ML⟩ ⟨A1p, OL.length, c1p, OL⟩ (0 + y.n + 1 + 1) (0 + y.n + 1 + 1 + 1)] := by
    have k1 := HKB.out
    have z1 := sz1.out
    have z2 := sz2.out
    have z3 := sz3.out
    have z4 := sz4.out
    have z5 := sz5.out
    have z6 := sz6.out
    have z7 := sz7.out
    have z8 := sz8.out
    have z9 := sz9.out
    have z10 := sz10.out
    have zR := szR.out
    exact .cons (pcL_twn (hyK _ hK3) (hi := v3.heap.size) (by omega) rgY.out (by omega) YSM.out) (lo2 := v5.heap.size) (by omega)
      (.cons (pcW_own (haK _ hK3) (hapK _ hK3) HAP.out (hi := v6.heap.size) (by omega) rgA.out rgB.out (by omega) (by simp only; omega)) (lo2 := kb) (by omega) (.nil (Nat.le_refl _)))
  refine (apart_pcs kb _ w.heap.size v2.heap.size T3' _ _ _ _ s3 hk3 ((st1.trans st2).trans st3) ?eb ?ei ?el hps ?hB ?hl).mono ?_
  case eb => simp [PcsB, pcW, pcL]
  case ei => simp [PcsI, pcW, pcL]
  case el => simp [PcsL, pcW, pcL]
  case hB =>
    have z1 := sz1.out
    have z2 := sz2.out
    have z3 := sz3.out
    have z4 := sz4.out
    have z5 := sz5.out
    have z6 := sz6.out
    have z7 := sz7.out
    have z8 := sz8.out
    have z9 := sz9.out
    have z10 := sz10.out
    have zR := szR.out
    omega
  case hl =>
    have h1 : (told 0 y.t).length = y.n := by rw [told_len, hyl]
    simp only [List.length_append, List.length_cons, List.length_nil, told_len, hyl]
    omega
  rintro e s6 ⟨rfl, hb6⟩
  have hBk := hB.trans (hK3.mono (by rw [HKB.out]; exact hB.size))
  go_wp2
  go_ret
  exact ⟨rfl, hBk.trans hb6⟩
end Go.Proofs.YtiaoplghaigclaaDoor.weightsOf
