/-
  Proved: salesroomlaw11.FirstsOf answers true, for any gains, any items and any order, where what came in is of bulk at most 1048576, in whatever memory (the listed package-level variables read as the program's text lays them; none of them is used). No other conditions.
-/
import Derived.Test.YtecgakfblhiiaaaDoorFiW
import Derived.Test.YtecgakfblhiiaaaDoorWeL
import Derived.Test.YtecgakfblhiiaaaDoorGrT
import Derived.Test.YtecgakfblhiiaaaDoorRef11b
import Derived.Test.YtecgakfblhiiaaaDoorPcs
import Derived.Test.YtecgakfblhiiaaaDoorRows
import Derived.Test.YtecgakfblhiiaaaDoorCards
import Derived.Test.YtecgakfblhiiaaaDoorTie
import Derived.LaidMore
import Derived.Stop.Joined
import Derived.SevenTiedAt
import Derived.Deep.DeepHandedRow
import Derived.Deep.DeepWitnessRowRef
namespace Go.Proofs.YtecgakfblhiiaaaDoor.firstsOf
open Go.RowKit
set_option linter.unusedVariables false

theorem first_len8 {g : List (List Int)} {m : Int} {o : List Int} : (firstE g m o).length ≤ 8 := by
  by_cases h : mayF g m o = true
  · have h1 := (mayW_iff.1 (mayF_iff.1 h).1).2.2.1
    rw [firstE, if_pos h]; simpa using h1
  · rw [firstE, if_neg h]; simp
set_option maxRecDepth 100000 in
set_option maxHeartbeats 4000000 in
theorem walk (x : Gr) (m : Int) (u1 : Ls) (w : World) (h : x.Ok w) (hm1 : -9223372036854775808 ≤ m) (hm2 : m ≤ 9223372036854775807) (h1' : u1.Ok w) (hz : sizeL x.t ≤ 1048576) :
    Calls Tryd.prog 3 #[.agg #[x.v, .int .i64 m], u1.v] w fun e w' => e = .returned (.bool true) ∧ Below w.heap.size w w' := by
  have hx := h
  have h1 := h1'
  have hB := Below.refl w.heap.size w
  have hxv : x.v = .slice x.A x.n x.c := rfl
  have h1v : u1.v = .slice u1.A u1.n u1.c := rfl
  have Vx := Lib.hid hxv
  have V1 := Lib.hid h1v
  rw [hxv, h1v]
  have t1 := Nat.le_trans h1.cap h1.top
  unfold maxLen at t1
  obtain ⟨Z, hZ⟩ : ∃ Z, sizeL x.t = Z := ⟨_, rfl⟩
  have HZ := Lib.hid hZ
  clear hxv h1v h h1'
  go_enter Tryd.func3, Tryd.ntmps3
  have bg := WBox.new w x m
  have hbx : Below w.heap.size w (w.alloc (.cells #[.slice x.A x.n x.c, .int .i64 m] 24)) := (Below.refl _ w).alloc (Nat.le_refl _) _
  have sz1 := Lib.hid hbx.size
  replace hx := hx.below hbx
  replace h1 := h1.below hbx
  replace hB := hB.trans (hbx.mono hB.size)
  clear hbx
  have eg0 := bg.c0
  have eg1 := bg.c1
  have hc := (intlistssize_all x.A x.n x.c x.t (w.alloc (.cells #[.slice x.A x.n x.c, .int .i64 m] 24)) hx.lss hx.cap hx.top hz).mono (R' := fun e w' => e = .returned (.int .i64 (Z : Nat)) ∧ Below (w.alloc (.cells #[.slice x.A x.n x.c, .int .i64 m] 24)).heap.size (w.alloc (.cells #[.slice x.A x.n x.c, .int .i64 m] 24)) w') fun e w' ⟨he, hw⟩ => ⟨by rw [he, HZ.out], by rw [← hw]; exact Below.refl _ _⟩
  go_wp2_with fail
  clear eg0 eg1
  generalize w.alloc (.cells #[.slice x.A x.n x.c, .int .i64 m] 24) = W1 at *
  refine hc.mono ?_
  rintro e v2 ⟨rfl, hb⟩
  clear hc
  have sz2 := Lib.hid hb.size
  replace hx := hx.below hb
  replace h1 := h1.below hb
  replace bg := bg.below hb
  replace hB := hB.trans (hb.mono hB.size)
  clear hb
  by_cases q1 : 3000 < Z
  · have g1 : decide (3000 < (Z : Int)) = true := decide_eq_true (by omega)
    have g1' : decide (3000 < Z) = true := decide_eq_true q1
    clear hZ
    have eg0 := bg.c0
    have eg1 := bg.c1
    go_wp2
    go_ret
    exact ⟨rfl, hB⟩
  have g1 : decide (3000 < (Z : Int)) = false := decide_eq_false (by omega)
  have g1' : decide (3000 < Z) = false := decide_eq_false q1
  by_cases q2 : 300 < u1.n
  · have g2 : decide (300 < (u1.n : Int)) = true := decide_eq_true (by omega)
    have g2' : decide (300 < u1.n) = true := decide_eq_true q2
    clear hZ
    have eg0 := bg.c0
    have eg1 := bg.c1
    go_wp2
    go_ret
    exact ⟨rfl, hB⟩
  have g2 : decide (300 < (u1.n : Int)) = false := decide_eq_false (by omega)
  have g2' : decide (300 < u1.n) = false := decide_eq_false q2
  have hu1 : u1.n ≤ 300 := by omega
  have hs := sizeL_sum x.t
  have hlen := hx.len
  have hxn : x.n ≤ 3000 := by omega
  have hsm : ∀ u ∈ x.t, u.n ≤ 3000 := fun u hu => by have := size_mem hu; omega
  have HSM := Lib.hid hsm
  have H9 : Hid (∀ u ∈ x.t, u.n ≤ 1000000000) := Lib.hid (fun u hu => by have := hsm u hu; omega)
  obtain ⟨E, hE⟩ : ∃ E, fErr x.g m u1.zs = E := ⟨_, rfl⟩
  obtain ⟨ML, hML⟩ : ∃ T, firstE x.g m u1.zs = T := ⟨_, rfl⟩
  have HE := Lib.hid hE
  have HML := Lib.hid hML
  have hl1 : ML.length ≤ 8 := by rw [← hML]; exact first_len8
  clear q1 q2 hs hlen hsm hE hML hZ
  have eg0 := bg.c0
  have eg1 := bg.c1
  have hc := twin_gr x v2 hx (by omega) H9.out
  rw [Vx.out] at hc
  go_wp2_with fail
  clear eg0 eg1
  refine hc.mono ?_
  rintro e v3 ⟨y, rfl, hy, hyg, hyn, hb⟩
  clear hc
  have sz3 := Lib.hid hb.size
  replace hx := hx.below hb
  replace h1 := h1.below hb
  replace bg := bg.below hb
  replace hB := hB.trans (hb.mono hB.size)
  clear hb
  have rgY := Lib.hid hy.rng
  have vy : y.v = .slice y.A y.n y.c := rfl
  have Vy := Lib.hid vy
  rw [vy]
  have HYG := Lib.hid hyg
  have HYN := Lib.hid hyn
  clear vy hyg hyn
  have eg0 := bg.c0
  have eg1 := bg.c1
  have hc := twin_ls u1 v3 h1 (by omega)
  rw [V1.out] at hc
  go_wp2_with fail
  clear eg0 eg1
  refine hc.mono ?_
  rintro e v4 ⟨t, rfl, ht, htz, htn, hb⟩
  clear hc
  have sz4 := Lib.hid hb.size
  replace hx := hx.below hb
  replace h1 := h1.below hb
  replace hy := hy.below hb
  replace bg := bg.below hb
  replace hB := hB.trans (hb.mono hB.size)
  clear hb
  have rgT : Hid (∀ g, Blk t g → g < v4.heap.size) := Lib.hid (fun g hg => (ht.blk hg).2)
  have vt : t.v = .slice t.A t.n t.c := rfl
  have Vt := Lib.hid vt
  rw [vt]
  have HTZ := Lib.hid htz
  have HTN := Lib.hid htn
  clear vt htz htn
  have eg0 := bg.c0
  have eg1 := bg.c1
  have hc := pfirstC y m t v4 hy.ok hm1 hm2 ht.ok
  rw [Vy.out, Vt.out, HYG.out, HTZ.out, HE.out, HML.out] at hc
  go_wp2_with fail
  clear eg0 eg1
  refine hc.mono ?_
  rintro e v5 ⟨A1, n1, c1, rfl, ha1, hb⟩
  clear hc
  have sz5 := Lib.hid hb.size
  replace hx := hx.below hb
  replace h1 := h1.below hb
  replace hy := hy.below hb
  replace ht := ht.below hb
  replace bg := bg.below hb
  replace hB := hB.trans (hb.mono hB.size)
  clear hb
  have rgA : Hid (∀ g, Blk ⟨A1, n1, c1, ML⟩ g → g < v5.heap.size) := Lib.hid (fun g hg => (ha1.blk hg).2)
  have hn1 : n1 = ML.length := ha1.len.symm
  subst hn1
  have eg0 := bg.c0
  have eg1 := bg.c1
  have hc := rfirstC x m u1 v5 hx hm1 hm2 h1
  rw [Vx.out, V1.out, HE.out, HML.out] at hc
  go_wp2_with fail
  clear eg0 eg1
  refine hc.mono ?_
  rintro e v6 ⟨A2, n2, c2, rfl, ha2, hb⟩
  clear hc
  have sz6 := Lib.hid hb.size
  replace hx := hx.below hb
  replace h1 := h1.below hb
  replace hy := hy.below hb
  replace ht := ht.below hb
  replace ha1 := ha1.below hb
  replace bg := bg.below hb
  replace hB := hB.trans (hb.mono hB.size)
  clear hb
  have hn2 : n2 = ML.length := ha2.len.symm
  subst hn2
  have eg0 := bg.c0
  have eg1 := bg.c1
  have hc := sameints_b ⟨A1, ML.length, c1, ML⟩ ⟨A2, ML.length, c2, ML⟩ v6 ha1.ok ha2.ok
  rw [show (ML == ML) = true by simp] at hc
  go_wp2_with fail
  clear eg0 eg1
  refine hc.mono ?_
  rintro e v7 ⟨rfl, hb⟩
  clear hc
  have sz7 := Lib.hid hb.size
  replace hx := hx.below hb
  replace h1 := h1.below hb
  replace hy := hy.below hb
  replace ht := ht.below hb
  replace ha1 := ha1.below hb
  replace ha2 := ha2.below hb
  replace bg := bg.below hb
  replace hB := hB.trans (hb.mono hB.size)
  clear hb
  have eg0 := bg.c0
  have eg1 := bg.c1
  have hc := left_gr y x v7 _ hy hx HYG.out HYN.out (by omega) H9.out
  rw [Vy.out, Vx.out] at hc
  go_wp2_with fail
  clear eg0 eg1
  refine hc.mono ?_
  rintro e v8 ⟨rfl, hb⟩
  clear hc
  have sz8 := Lib.hid hb.size
  replace hx := hx.below hb
  replace h1 := h1.below hb
  replace hy := hy.below hb
  replace ht := ht.below hb
  replace ha1 := ha1.below hb
  replace ha2 := ha2.below hb
  replace bg := bg.below hb
  replace hB := hB.trans (hb.mono hB.size)
  clear hb
  have eg0 := bg.c0
  have eg1 := bg.c1
  have hc := left_ls t u1 v8 _ ht h1 HTZ.out HTN.out (by omega)
  rw [Vt.out, V1.out] at hc
  go_wp2_with fail
  clear eg0 eg1
  refine hc.mono ?_
  rintro e v9 ⟨rfl, hb⟩
  clear hc
  have sz9 := Lib.hid hb.size
  replace hx := hx.below hb
  replace h1 := h1.below hb
  replace hy := hy.below hb
  replace ht := ht.below hb
  replace ha1 := ha1.below hb
  replace ha2 := ha2.below hb
  replace bg := bg.below hb
  replace hB := hB.trans (hb.mono hB.size)
  clear hb
  have szR := Lib.hid (Nat.le_refl 0)
  have hyn3 : y.n ≤ 3000 := by rw [HYN.out]; exact hxn
  have htn3 : t.n ≤ 300 := by rw [HTN.out]; omega
  have YSM := Lib.hid (twin_small HYG.out hy.ok hx H9.out)
  have hk0 := Bkn.new 44 tHs v9
  have hbk : Below v9.heap.size v9 (v9.alloc (.cells #[.int .i64 0, .slice none 0 0, .slice none 0 0, .slice none 0 0, .slice none 0 0, .slice none 0 0, .slice none 0 0, .slice none 0 0, .slice none 0 0, .slice none 0 0] 44)) := (Below.refl _ v9).alloc (Nat.le_refl _) _
  clear hx h1 ha2 bg
  go_wp2_with fail
  generalize v9.alloc (.cells #[.int .i64 0, .slice none 0 0, .slice none 0 0, .slice none 0 0, .slice none 0 0, .slice none 0 0, .slice none 0 0, .slice none 0 0, .slice none 0 0, .slice none 0 0] 44) = s0 at hk0 hbk ⊢
  obtain ⟨kb, hkb⟩ : ∃ kb, kb = v9.heap.size := ⟨_, rfl⟩
  rw [← hkb] at hk0 hbk ⊢
  have HKB := Lib.hid hkb
  clear hkb
  have hyK : ∀ w', Below kb v9 w' → TwnL w' v2.heap.size y := fun w' h => hy.below (HKB.out ▸ h)
  have htK : ∀ w', Below kb v9 w' → Twn w' v3.heap.size t := fun w' h => ht.below (HKB.out ▸ h)
  have haK : ∀ w', Below kb v9 w' → OwnI w' v4.heap.size ⟨A1, ML.length, c1, ML⟩ := fun w' h => ha1.below (HKB.out ▸ h)
  have hyA : ∀ p q, 0 < y.n → y.A = some ⟨p, q, none⟩ → p < kb := fun p q h0 hA => by
    obtain ⟨g, h1, _, h2⟩ := hy.lists.lt (by have := hy.lists.le; omega)
    rw [h1] at hA; cases hA; rw [HKB.out]; exact h2
  have hyl : y.t.length = y.n := hy.ok.len
  clear hy ht ha1
  refine (toldIntLists kb 0 noTabs noLists y.A y.n y.c y.t s0 hk0 (outs_at (hyK _ hbk).lists) hyA (by unfold maxLen; omega) (by omega) (by show 0 + _ ≤ _; omega) (by show 0 ≤ _; omega)).mono ?_
  rintro e s1 ⟨rfl, T1', st1, hk1, hb1, _⟩
  have hK1 := hbk.trans hb1
  go_wp2_with fail
  refine (toldInts kb _ T1' _ t s1 hk1 (by omega) (by show ([] ++ told 0 y.t).length ≤ _; rw [List.nil_append, told_len]; omega)).mono ?_
  rintro e s2 ⟨rfl, T2', st2, hk2, hb2, _⟩
  have hK2 := hK1.trans hb2
  rw [more_more] at hk2
  go_wp2_with fail
  refine (toldInts kb _ T2' _ ⟨A1, ML.length, c1, ML⟩ s2 hk2 (by omega) (by show ([] ++ (told 0 y.t ++ [_])).length ≤ _; rw [List.nil_append, List.length_append, told_len]; simp; omega)).mono ?_
  rintro e s3 ⟨rfl, T3', st3, hk3, hb3, _⟩
  have hK3 := hK2.trans hb3
  rw [more_more] at hk3
  go_wp2_with fail
  have hps : Pcs s3 kb v2.heap.size [pcL y.A y.n y.c y.t 0, pcI t (0 + y.n + 1 + 1), pcI ⟨A1, ML.length, c1, ML⟩ (0 + y.n + 1 + 1 + 1)] := by
    have k1 := HKB.out
    have z1 := sz1.out
    have z2 := sz2.out
    have z3 := sz3.out
    have z4 := sz4.out
    have z5 := sz5.out
    have z6 := sz6.out
    have z7 := sz7.out
    have z8 := sz8.out
    have z9 := sz9.out
    have zR := szR.out
    exact .cons (pcL_twn (hyK _ hK3) (hi := v3.heap.size) (by omega) rgY.out (by omega) YSM.out) (lo2 := v3.heap.size) (by omega)
      (.cons (pcI_twn (htK _ hK3) (hi := v4.heap.size) (by omega) rgT.out (by omega) (by omega)) (lo2 := v4.heap.size) (by omega)
      (.cons (pcI_own (haK _ hK3) (hi := v5.heap.size) (by omega) rgA.out (by omega) (by simp only; omega)) (lo2 := kb) (by omega) (.nil (Nat.le_refl _))))
  refine (apart_pcs kb _ w.heap.size v2.heap.size T3' _ _ _ _ s3 hk3 ((st1.trans st2).trans st3) ?eb ?ei ?el hps ?hB ?hl).mono ?_
  case eb => simp [PcsB, pcI, pcL]
  case ei => simp [PcsI, pcI, pcL]
  case el => simp [PcsL, pcI, pcL]
  case hB =>
    have z1 := sz1.out
    have z2 := sz2.out
    have z3 := sz3.out
    have z4 := sz4.out
    have z5 := sz5.out
    have z6 := sz6.out
    have z7 := sz7.out
    have z8 := sz8.out
    have z9 := sz9.out
    have zR := szR.out
    omega
  case hl =>
    have h1 : (told 0 y.t).length = y.n := by rw [told_len, hyl]
    simp only [List.length_append, List.length_cons, List.length_nil, told_len, hyl]
    omega
  rintro e s6 ⟨rfl, hb6⟩
  have hBk := hB.trans (hK3.mono (by rw [HKB.out]; exact hB.size))
  go_wp2
  go_ret
  exact ⟨rfl, hBk.trans hb6⟩
end Go.Proofs.YtecgakfblhiiaaaDoor.firstsOf

namespace Go.Proofs.YtecgakfblhiiaaaDoor.firstsOf
open Go.ChangeShapes Go.WideShapes Go.ChangeAt Go.RowKit
set_option linter.unusedVariables false


theorem own : ownKnob Tryd.prog.godebug = none := by kernel_rfl
theorem laidOut : laidOutB Tryd.prog = true := by kernel_rfl

/-- The door's own heap meets the condition. -/
theorem door_met (os : Os) (args : Array Value) : laidMetH Tryd.prog Rows.firstsOfUptoRow.laid ((World.doorLaid Tryd.prog 400 os).forCall (fun _ _ => 0) ⟨#[], args, []⟩).memory :=
  laidMetH_of_parts3 (fuel := 8) (laidMet_of_run' 8 (by kernel_rfl) (by kernel_rfl)) (by kernel_rfl) (by kernel_rfl)
theorem reads (os : Os) {H : Type} (enc : TypeId × Value → H) : ∃ places, DataW.whole enc Tryd.prog ((World.doorLaid Tryd.prog 400 os).forCall (fun _ _ => 0) ⟨#[], #[.agg #[.slice none 0 0, .int .i64 0], .slice none 0 0], []⟩).memory Tryd.f3.params.toList Rows.firstsOfSpec.vars false #[Value.agg #[.slice none 0 0, .int .i64 0], .slice none 0 0].toList 8 = some ([.agg [.nil, .lit (.int .i64 0)], .nil], [], places) :=
  ⟨[], by kernel_rfl⟩

set_option maxRecDepth 100000 in
theorem contract (H : Type) (enc : TypeId × Value → H) (W : World) (base : Nat) (args : Array Value) (ds gs : List (DataW H)) (before : List MemPlace)
    (hval0 : ∀ (j : Nat) t v, Tryd.f3.params[j]? = some t → args[j]? = some v → Value.okWide Tryd.prog W .any base t v)
    (hW : DataW.Whole enc Tryd.prog Tryd.f3.params.toList Rows.firstsOfSpec.vars false W args.toList ds gs before) (hk : Rows.uptoSmall H (ds ++ gs) = true) :
    Calls Tryd.prog 3 args W fun e W' => ∃ v, e = .returned v ∧ Rows.firstsOfSpec.post enc Tryd.prog Tryd.f3 false true false false W args v W' := by
  have hval : ∀ (j : Nat) t v, Tryd.f3.params[j]? = some t → args[j]? = some v → Value.okWide Tryd.prog W .any base t v := hval0
  have hb : Rows.uptoBulkAll (ds ++ gs) ≤ 1048576 := of_decide_eq_true hk
  have hW' := hW
  obtain ⟨p, q, hA0, hV, rfl, hfz, hnd⟩ := hW
  have hA : DataW.TrodAll enc Tryd.prog W 0 (fun _ => true) true Tryd.f3.params.toList args.toList ds p := hA0
  rw [Tryd.params3] at hA hval
  obtain ⟨v0, vs0, d0, ds0, p0, q0, hargs, rfl, rfl, h0, r0⟩ := trodAll_cons hA
  obtain ⟨v1, vs1, d1, ds1, p1, q1, rfl, rfl, rfl, h1, r1⟩ := trodAll_cons r0
  obtain ⟨rfl, rfl, rfl⟩ := trodAll_nil r1
  obtain rfl : args = #[v0, v1] := by cases args; simp_all
  obtain ⟨u0, m0, rfl, k0, a0, b0, z0⟩ := arg_gr_b Tryd.underlying24 (by kernel_rfl) (by kernel_rfl) Tryd.underlying22 Tryd.underlying3 Tryd.underlying25 (by kernel_rfl) Tryd.underlying3 (by kernel_rfl) (hval 0 24 v0 rfl rfl) h0
  obtain ⟨A1, n1, c1, l1, rfl, a1, b1, e1, g1⟩ := arg_i64s Tryd.underlying25 Tryd.underlying3 (by kernel_rfl) (hval 1 25 v1 rfl rfl) h1
  have hsz : sizeL u0.t ≤ 1048576 := by
    simp only [List.cons_append, Rows.uptoBulkAll] at hb
    omega
  have hwalk : Calls Tryd.prog 3 #[.agg #[u0.v, .int .i64 m0], .slice A1 n1 c1] W fun e w' => e = .returned (.bool true) ∧ Below W.heap.size W w' := walk u0 m0 ⟨A1, n1, c1, l1⟩ W k0 a0 b0 ⟨a1, b1, e1, g1⟩ hsz
  refine hwalk.mono fun e W' ⟨he, hg⟩ => ?_
  subst he
  exact ⟨_, rfl, law_post laidOut (by kernel_rfl) hW' rfl rfl (by kernel_rfl) Tryd.underlying4 hg⟩

set_option maxRecDepth 100000 in
theorem lifted (os : Os) (started : os.Started) (H : Type) (enc : TypeId × Value → H) (F : Stop.Interp) :
    ReturnsInHanded {} Tryd.checked os 3 .any ((Rows.OpenSpec.upto Rows.firstsOfSpec).preRow enc Tryd.prog Tryd.f3 Rows.firstsOfUptoRow.domain false Rows.firstsOfUptoRow.laid)
      (((Rows.OpenSpec.upto Rows.firstsOfSpec).at F).post enc Tryd.prog Tryd.f3 false true false false) := by
  obtain ⟨places, hx⟩ := reads os enc
  refine returnsInHanded_of_row (C := Tryd.checked) (s := Rows.OpenSpec.upto Rows.firstsOfSpec) own started (by kernel_rfl) Tryd.func3
    (witness_row_atRef (enc := enc) (C := Tryd.checked) false (World.doorLaid Tryd.prog 400 os) #[.agg #[.slice none 0 0, .int .i64 0], .slice none 0 0] rfl (by kernel_rfl) (by kernel_rfl) (by kernel_rfl)
      (OpenSpec.preRow_of_cond 8 hx (by kernel_rfl) (fun k hk => by cases hk; kernel_rfl) (by kernel_rfl) (door_met os _))) ?_
  intro W base args ds gs before hval hW _ hcond _ hL _ _
  exact contract H enc W base args ds gs before hval hW (hcond _ rfl)

theorem over : Rows.FirstsOfUptoSaid :=
  OpenClaim.holds_of_cond 3 Tryd.f3 rfl rfl rfl rfl rfl rfl rfl ⟨rfl, rfl, rfl, rfl, rfl⟩ rfl rfl rfl rfl rfl (by kernel_rfl) Tryd.func3 (by kernel_rfl)
    (of_decide_eq_true (by kernel_rfl)) (by unfold Func.isWrapper; first | (rw [if_pos (by decide +kernel)]; kernel_rfl) | (rw [if_neg (by decide +kernel)]; exact ⟨rfl, rfl⟩))
    (fun os started H enc _ F => by rw [OpenClaim.pre_eq_preRow]; exact lifted os started H enc F)

theorem proved : Rows.FirstsOfUptoCardSaid :=
  Claim7.holds_tied_plain_at .later [] _ _ _ _ over (fun _ h => by cases h) (by kernel_rfl) (fun _ h => by cases h) firstsOfUpto_row_tie rfl ⟨rfl, rfl⟩ (by kernel_rfl) rfl
    (fun f fn hf hfn => by
      obtain rfl : f = 3 := Option.some.inj ((show Tryd.prog.funcNamed Rows.firstsOfUptoRow.func = some 3 by kernel_rfl).symm.trans hf) |>.symm
      obtain rfl : fn = Tryd.f3 := (Option.some.inj (Tryd.func3.symm.trans hfn)).symm
      exact ⟨by kernel_rfl, fun j t ht => by
        rw [Tryd.params3] at ht
        have hm : t ∈ [24, 25] := by simpa using Array.mem_of_getElem? ht
        have hall : ([24, 25].all fun u => !Tryd.prog.wantsStandIn u) = true := by kernel_rfl
        exact (show Tryd.prog.wantsStandIn t = false by simpa using List.all_eq_true.1 hall t hm)⟩)
    (by kernel_rfl)
end Go.Proofs.YtecgakfblhiiaaaDoor.firstsOf
