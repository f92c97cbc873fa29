/-
  Proved: salesroomlaw12.DemandsOf answers true, for any bid and any prices, in whatever memory (the listed package-level variables read as the program's text lays them; none of them is used). No other conditions.
-/
import Derived.Test.YtjjaajmjcdihoaaDoorDeW
import Derived.Test.YtjjaajmjcdihoaaDoorGrT
import Derived.Test.YtjjaajmjcdihoaaDoorRef12b
import Derived.Test.YtjjaajmjcdihoaaDoorPcs
import Derived.Test.YtjjaajmjcdihoaaDoorRows
import Derived.Test.YtjjaajmjcdihoaaDoorLift
import Derived.Test.YtjjaajmjcdihoaaDoorCards
import Derived.Test.YtjjaajmjcdihoaaDoorTie
import Derived.LaidMore
import Derived.Stop.Joined
import Derived.SevenTiedAt
namespace Go.Proofs.YtjjaajmjcdihoaaDoor.demandsOf
open Go.RowKit
set_option linter.unusedVariables false

theorem itemsE_len {b p : List Int} : (itemsE b p).length ≤ b.length := by
  unfold itemsE
  split
  · exact itemsD_len
  · simp
set_option maxRecDepth 100000 in
set_option maxHeartbeats 4000000 in
theorem walk (u0 u1 : Ls) (w : World) (h0' : u0.Ok w) (h1' : u1.Ok w) :
    Calls Tryd.prog 3 #[u0.v, u1.v] w fun e w' => e = .returned (.bool true) ∧ Below w.heap.size w w' := by
  have h0 := h0'
  have h1 := h1'
  have hB := Below.refl w.heap.size w
  have h0v : u0.v = .slice u0.A u0.n u0.c := rfl
  have h1v : u1.v = .slice u1.A u1.n u1.c := rfl
  have V0 := Lib.hid h0v
  have V1 := Lib.hid h1v
  rw [h0v, h1v]
  have t0' := Nat.le_trans h0.cap h0.top
  have t1' := Nat.le_trans h1.cap h1.top
  unfold maxLen at t0' t1'
  have HL0 := Lib.hid h0.len
  clear h0v h1v h0' h1'
  go_enter Tryd.func3, Tryd.ntmps3
  by_cases q1 : 300 < u0.n
  · have g1 : decide (300 < (u0.n : Int)) = true := decide_eq_true (by omega)
    have g1' : decide (300 < u0.n) = true := decide_eq_true q1
    go_wp2
    go_ret
    exact ⟨rfl, hB⟩
  have g1 : decide (300 < (u0.n : Int)) = false := decide_eq_false (by omega)
  have g1' : decide (300 < u0.n) = false := decide_eq_false q1
  by_cases q2 : 300 < u1.n
  · have g2 : decide (300 < (u1.n : Int)) = true := decide_eq_true (by omega)
    have g2' : decide (300 < u1.n) = true := decide_eq_true q2
    go_wp2
    go_ret
    exact ⟨rfl, hB⟩
  have g2 : decide (300 < (u1.n : Int)) = false := decide_eq_false (by omega)
  have g2' : decide (300 < u1.n) = false := decide_eq_false q2
  have hu0 : u0.n ≤ 300 := by omega
  have hu1 : u1.n ≤ 300 := by omega
  obtain ⟨E, hE⟩ : ∃ E, dErr u0.zs u1.zs = E := ⟨_, rfl⟩
  obtain ⟨G, hG⟩ : ∃ E, gainE u0.zs u1.zs = E := ⟨_, rfl⟩
  obtain ⟨NB, hNB⟩ : ∃ E, noneE u0.zs u1.zs = E := ⟨_, rfl⟩
  obtain ⟨ML, hML⟩ : ∃ T, itemsE u0.zs u1.zs = T := ⟨_, rfl⟩
  have HE := Lib.hid hE
  have HG := Lib.hid hG
  have HNB := Lib.hid hNB
  have HML := Lib.hid hML
  have hl1 : ML.length ≤ 300 := by rw [← hML]; exact Nat.le_trans itemsE_len (by rw [HL0.out]; exact hu0)
  have gnb : (NB != NB) = false := by simp
  clear q1 q2 hE hG hNB hML
  have hc := twin_ls u0 w h0 (by omega)
  rw [V0.out] at hc
  go_wp2_with fail
  refine hc.mono ?_
  rintro e v1 ⟨t, rfl, ht, htz, htn, hb⟩
  clear hc
  have sz1 := Lib.hid hb.size
  replace h0 := h0.below hb
  replace h1 := h1.below hb
  replace hB := hB.trans (hb.mono hB.size)
  clear hb
  have rgt : Hid (∀ g, Blk t g → g < v1.heap.size) := Lib.hid (fun g hg => (ht.blk hg).2)
  have vt : t.v = .slice t.A t.n t.c := rfl
  have Vt := Lib.hid vt
  rw [vt]
  have HtZ := Lib.hid htz
  have HtN := Lib.hid htn
  clear vt htz htn
  have hc := twin_ls u1 v1 h1 (by omega)
  rw [V1.out] at hc
  go_wp2_with fail
  refine hc.mono ?_
  rintro e v2 ⟨s, rfl, hs, hsz, hsn, hb⟩
  clear hc
  have sz2 := Lib.hid hb.size
  replace h0 := h0.below hb
  replace h1 := h1.below hb
  replace ht := ht.below hb
  replace hB := hB.trans (hb.mono hB.size)
  clear hb
  have rgs : Hid (∀ g, Blk s g → g < v2.heap.size) := Lib.hid (fun g hg => (hs.blk hg).2)
  have vs : s.v = .slice s.A s.n s.c := rfl
  have Vs := Lib.hid vs
  rw [vs]
  have HsZ := Lib.hid hsz
  have HsN := Lib.hid hsn
  clear vs hsz hsn
  have hc := pofC t s v2 ht.ok hs.ok
  rw [Vt.out, Vs.out, HtZ.out, HsZ.out, HNB.out, HG.out, HE.out, HML.out] at hc
  go_wp2_with fail
  refine hc.mono ?_
  rintro e v3 ⟨A1, n1, c1, rfl, ha1, hb⟩
  clear hc
  have sz3 := Lib.hid hb.size
  replace h0 := h0.below hb
  replace h1 := h1.below hb
  replace ht := ht.below hb
  replace hs := hs.below hb
  replace hB := hB.trans (hb.mono hB.size)
  clear hb
  have rgA : Hid (∀ g, Blk ⟨A1, n1, c1, ML⟩ g → g < v3.heap.size) := Lib.hid (fun g hg => (ha1.blk hg).2)
  have hn1 : n1 = ML.length := ha1.len.symm
  subst hn1
  have hc := rofC u0 u1 v3 h0 h1
  rw [V0.out, V1.out, HNB.out, HG.out, HE.out, HML.out] at hc
  go_wp2_with fail
  refine hc.mono ?_
  rintro e v4 ⟨A2, n2, c2, rfl, ha2, hb⟩
  clear hc
  have sz4 := Lib.hid hb.size
  replace h0 := h0.below hb
  replace h1 := h1.below hb
  replace ht := ht.below hb
  replace hs := hs.below hb
  replace ha1 := ha1.below hb
  replace hB := hB.trans (hb.mono hB.size)
  clear hb
  have hn2 : n2 = ML.length := ha2.len.symm
  subst hn2
  have hc := sameints_b ⟨A1, ML.length, c1, ML⟩ ⟨A2, ML.length, c2, ML⟩ v4 ha1.ok ha2.ok
  rw [show (ML == ML) = true by simp] at hc
  go_wp2_with fail
  refine hc.mono ?_
  rintro e v5 ⟨rfl, hb⟩
  clear hc
  have sz5 := Lib.hid hb.size
  replace h0 := h0.below hb
  replace h1 := h1.below hb
  replace ht := ht.below hb
  replace hs := hs.below hb
  replace ha1 := ha1.below hb
  replace ha2 := ha2.below hb
  replace hB := hB.trans (hb.mono hB.size)
  clear hb
  have hc := left_ls t u0 v5 _ ht h0 HtZ.out HtN.out (by omega)
  rw [Vt.out, V0.out] at hc
  go_wp2_with fail
  refine hc.mono ?_
  rintro e v6 ⟨rfl, hb⟩
  clear hc
  have sz6 := Lib.hid hb.size
  replace h0 := h0.below hb
  replace h1 := h1.below hb
  replace ht := ht.below hb
  replace hs := hs.below hb
  replace ha1 := ha1.below hb
  replace ha2 := ha2.below hb
  replace hB := hB.trans (hb.mono hB.size)
  clear hb
  have hc := left_ls s u1 v6 _ hs h1 HsZ.out HsN.out (by omega)
  rw [Vs.out, V1.out] at hc
  go_wp2_with fail
  refine hc.mono ?_
  rintro e v7 ⟨rfl, hb⟩
  clear hc
  have sz7 := Lib.hid hb.size
  replace h0 := h0.below hb
  replace h1 := h1.below hb
  replace ht := ht.below hb
  replace hs := hs.below hb
  replace ha1 := ha1.below hb
  replace ha2 := ha2.below hb
  replace hB := hB.trans (hb.mono hB.size)
  clear hb
  have szR := Lib.hid (Nat.le_refl 0)
  have htn3 : t.n ≤ 300 := by rw [HtN.out]; omega
  have hsn3 : s.n ≤ 300 := by rw [HsN.out]; omega
  have hk0 := Bkn.new 38 tHs v7
  have hbk : Below v7.heap.size v7 (v7.alloc (.cells #[.int .i64 0, .slice none 0 0, .slice none 0 0, .slice none 0 0, .slice none 0 0, .slice none 0 0, .slice none 0 0, .slice none 0 0, .slice none 0 0, .slice none 0 0] 38)) := (Below.refl _ v7).alloc (Nat.le_refl _) _
  clear h0 h1 ha2
  go_wp2_with fail
  generalize v7.alloc (.cells #[.int .i64 0, .slice none 0 0, .slice none 0 0, .slice none 0 0, .slice none 0 0, .slice none 0 0, .slice none 0 0, .slice none 0 0, .slice none 0 0, .slice none 0 0] 38) = s0 at hk0 hbk ⊢
  obtain ⟨kb, hkb⟩ : ∃ kb, kb = v7.heap.size := ⟨_, rfl⟩
  rw [← hkb] at hk0 hbk ⊢
  have HKB := Lib.hid hkb
  clear hkb
  have htK : ∀ w', Below kb v7 w' → Twn w' w.heap.size t := fun w' h => ht.below (HKB.out ▸ h)
  have hsK : ∀ w', Below kb v7 w' → Twn w' v1.heap.size s := fun w' h => hs.below (HKB.out ▸ h)
  have haK : ∀ w', Below kb v7 w' → OwnI w' v2.heap.size ⟨A1, ML.length, c1, ML⟩ := fun w' h => ha1.below (HKB.out ▸ h)
  clear ht hs ha1
  refine (toldInts kb 0 noTabs noLists t s0 hk0 (by omega) (by show 0 ≤ _; omega)).mono ?_
  rintro e s1 ⟨rfl, T1', st1, hk1, hb1, _⟩
  have hK1 := hbk.trans hb1
  go_wp2_with fail
  refine (toldInts kb _ T1' _ s s1 hk1 (by omega) (by show ([] ++ [_]).length ≤ _; simp)).mono ?_
  rintro e s2 ⟨rfl, T2', st2, hk2, hb2, _⟩
  have hK2 := hK1.trans hb2
  rw [more_more] at hk2
  go_wp2_with fail
  refine (toldInts kb _ T2' _ ⟨A1, ML.length, c1, ML⟩ s2 hk2 (by omega) (by show ([] ++ ([_] ++ [_])).length ≤ _; simp)).mono ?_
  rintro e s3 ⟨rfl, T3', st3, hk3, hb3, _⟩
  have hK3 := hK2.trans hb3
  rw [more_more] at hk3
  go_wp2_with fail
  have hps : Pcs s3 kb w.heap.size [pcI t (0 + 1), pcI s (0 + 1 + 1), pcI ⟨A1, ML.length, c1, ML⟩ (0 + 1 + 1 + 1)] := by
    have k1 := HKB.out
    have z1 := sz1.out
    have z2 := sz2.out
    have z3 := sz3.out
    have z4 := sz4.out
    have z5 := sz5.out
    have z6 := sz6.out
    have z7 := sz7.out
    have zR := szR.out
    exact .cons (pcI_twn (htK _ hK3) (hi := v1.heap.size) (by omega) rgt.out (by omega) (by omega)) (lo2 := v1.heap.size) (by omega)
      (.cons (pcI_twn (hsK _ hK3) (hi := v2.heap.size) (by omega) rgs.out (by omega) (by omega)) (lo2 := v2.heap.size) (by omega)
      (.cons (pcI_own (haK _ hK3) (hi := v3.heap.size) (by omega) rgA.out (by omega) (by simp only; omega)) (lo2 := kb) (by omega) (.nil (Nat.le_refl _))))
  refine (apart_pcs kb _ w.heap.size w.heap.size T3' _ _ _ _ s3 hk3 ((st1.trans st2).trans st3) ?eb ?ei ?el hps ?hB ?hl).mono ?_
  case eb => simp [PcsB, pcI]
  case ei => simp [PcsI, pcI]
  case el => simp [PcsL, pcI]
  case hB =>
    have z1 := sz1.out
    have z2 := sz2.out
    have z3 := sz3.out
    have z4 := sz4.out
    have z5 := sz5.out
    have z6 := sz6.out
    have z7 := sz7.out
    have zR := szR.out
    omega
  case hl => simp
  rintro e s6 ⟨rfl, hb6⟩
  have hBk := hB.trans (hK3.mono (by rw [HKB.out]; exact hB.size))
  go_wp2
  go_ret
  exact ⟨rfl, hBk.trans hb6⟩
end Go.Proofs.YtjjaajmjcdihoaaDoor.demandsOf

namespace Go.Proofs.YtjjaajmjcdihoaaDoor.demandsOf
open Go.ChangeShapes Go.WideShapes Go.ChangeAt Go.RowKit
set_option linter.unusedVariables false

theorem own : ownKnob Tryd.prog.godebug = none := by kernel_rfl
theorem laidOut : laidOutB Tryd.prog = true := by kernel_rfl

/-- The door's own heap meets the condition. -/
theorem door_met (os : Os) (args : Array Value) : laidMetH Tryd.prog Rows.demandsOfRow.laid ((World.doorLaid Tryd.prog 400 os).forCall (fun _ _ => 0) ⟨#[], args, []⟩).memory :=
  laidMetH_of_parts3 (fuel := 8) (laidMet_of_run' 8 (by kernel_rfl) (by kernel_rfl)) (by kernel_rfl) (by kernel_rfl)

set_option maxRecDepth 100000 in
theorem lifted (os : Os) (started : os.Started) (H : Type) (enc : TypeId × Value → H) :
    ReturnsInHanded {} Tryd.checked os 3 .any (fun w args => (Rows.demandsOfSpec.pre enc Tryd.prog Tryd.f3 [] false w args ∧ laidMetH Tryd.prog Rows.demandsOfRow.laid w) ∧ sizedMet enc Tryd.prog Tryd.f3 (OpenSpec.ofChange Rows.demandsOfSpec) false w args)
      (Rows.demandsOfSpec.post enc Tryd.prog Tryd.f3 false true false false) := by
  refine returnsInHanded_of_change_and (C := Tryd.checked) (X := fun w _ => laidMetH Tryd.prog Rows.demandsOfRow.laid w) (fun _ _ _ hh h => h.of_heap hh) own started (by kernel_rfl) Tryd.func3
    (ChangeSpec.witness_shaped (enc := enc) (C := Tryd.checked) (os := os) (X := fun w _ => laidMetH Tryd.prog Rows.demandsOfRow.laid w) false (World.doorLaid Tryd.prog 400 os) #[.slice none 0 0, .slice none 0 0] 8 rfl (World.shaped_of_RefB (by kernel_rfl) (by kernel_rfl)) (by kernel_rfl) (by kernel_rfl) (by kernel_rfl) (door_met os _)) ?_
  intro W base args ds gs before hval0 hW _ _ hL _
  have hval : ∀ (j : Nat) t v, Tryd.f3.params[j]? = some t → args[j]? = some v → Value.okWide Tryd.prog W .any base t v := hval0
  have hW' := hW
  obtain ⟨p, q, hA0, hV, rfl, hfz, hnd⟩ := hW
  have hA : DataW.TrodAll enc Tryd.prog W 0 (fun _ => true) true Tryd.f3.params.toList args.toList ds p := hA0
  rw [Tryd.params3] at hA hval
  obtain ⟨v0, vs0, d0, ds0, p0, q0, hargs, rfl, rfl, h0, r0⟩ := trodAll_cons hA
  obtain ⟨v1, vs1, d1, ds1, p1, q1, rfl, rfl, rfl, h1, r1⟩ := trodAll_cons r0
  obtain ⟨rfl, rfl, rfl⟩ := trodAll_nil r1
  obtain rfl : args = #[v0, v1] := by cases args; simp_all
  obtain ⟨A0, n0, c0, l0, rfl, a0, b0, e0, g0⟩ := arg_i64s Tryd.underlying22 Tryd.underlying3 (by kernel_rfl) (hval 0 22 v0 rfl rfl) h0
  obtain ⟨A1, n1, c1, l1, rfl, a1, b1, e1, g1⟩ := arg_i64s Tryd.underlying22 Tryd.underlying3 (by kernel_rfl) (hval 1 22 v1 rfl rfl) h1
  have hwalk : Calls Tryd.prog 3 #[.slice A0 n0 c0, .slice A1 n1 c1] W fun e w' => e = .returned (.bool true) ∧ Below W.heap.size W w' := walk ⟨A0, n0, c0, l0⟩ ⟨A1, n1, c1, l1⟩ W ⟨a0, b0, e0, g0⟩ ⟨a1, b1, e1, g1⟩
  refine hwalk.mono fun e W' ⟨he, hg⟩ => ?_
  subst he
  exact ⟨_, rfl, law_post laidOut (by kernel_rfl) hW' rfl rfl (by kernel_rfl) Tryd.underlying4 hg⟩

theorem over : Rows.demandsOfRow.holds Tryd.pinned (OpenSpec.ofChange Rows.demandsOfSpec) :=
  OpenClaim.holds_of_wide 3 Tryd.f3 rfl rfl rfl rfl rfl rfl rfl ⟨rfl, rfl, rfl, rfl, rfl⟩ rfl rfl rfl rfl rfl (by kernel_rfl) Tryd.func3 (by kernel_rfl)
    (of_decide_eq_true (by kernel_rfl)) (by unfold Func.isWrapper; first | (rw [if_pos (by decide +kernel)]; kernel_rfl) | (rw [if_neg (by decide +kernel)]; exact ⟨rfl, rfl⟩))
    (fun os started H enc _ => lifted os started H enc)

theorem proved : Rows.DemandsOfCardSaid :=
  Claim7.holds_tied_plain_at .later [] _ _ _ _
    over (fun _ h => by cases h) (by kernel_rfl) (fun _ h => by cases h) demandsOf_row_tie rfl ⟨rfl, rfl⟩ (by kernel_rfl) rfl
    (fun f fn hf hfn => by
      obtain rfl : f = 3 := Option.some.inj ((show Tryd.prog.funcNamed Rows.demandsOfRow.func = some 3 by kernel_rfl).symm.trans hf) |>.symm
      obtain rfl : fn = Tryd.f3 := (Option.some.inj (Tryd.func3.symm.trans hfn)).symm
      exact ⟨by kernel_rfl, fun j t ht => by
        rw [Tryd.params3] at ht
        have hm : t ∈ [22] := by simpa using Array.mem_of_getElem? ht
        have hall : ([22].all fun u => !Tryd.prog.wantsStandIn u) = true := by kernel_rfl
        exact (show Tryd.prog.wantsStandIn t = false by simpa using List.all_eq_true.1 hall t hm)⟩)
    (by kernel_rfl)
end Go.Proofs.YtjjaajmjcdihoaaDoor.demandsOf
