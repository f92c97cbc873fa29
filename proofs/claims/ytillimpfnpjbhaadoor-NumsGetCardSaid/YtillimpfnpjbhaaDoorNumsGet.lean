/-
  Proved: salesroomlaw01.NumsGet answers true, for any bytes and any count, in whatever memory (the listed package-level variables read as the program's text lays them; none of them is used). No other conditions.
-/
import Derived.Test.YtillimpfnpjbhaaDoorRows
import Derived.Test.YtillimpfnpjbhaaDoorRef01b
import Derived.Test.YtillimpfnpjbhaaDoorBookT
import Derived.Test.YtillimpfnpjbhaaDoorLift
import Derived.Test.YtillimpfnpjbhaaDoorCards
import Derived.Test.YtillimpfnpjbhaaDoorTie
import Derived.LaidMore
import Derived.Stop.Joined
import Derived.SevenTiedAt
namespace Go.Proofs.YtillimpfnpjbhaaDoor.numsGet
open Go.ChangeShapes Go.WideShapes Go.ChangeAt Go.RowKit
set_option linter.unusedVariables false

theorem get_both (bs : List UInt8) (k : Int) :
    ∃ V E : Int, (∀ (A : Option Addr) (c : Nat) (w : World), Rd w A bs.length (cu8 bs) → bs.length ≤ c → c ≤ maxLen → Calls Tryd.prog 19 #[.slice A bs.length c, .int .i64 k] w fun e w' => e = .returned (.tuple #[.int .u64 V, .int .i64 E]) ∧ w = w') ∧
      (∀ (A : Option Addr) (c : Nat) (w : World), Rd w A bs.length (cu8 bs) → bs.length ≤ c → c ≤ maxLen → Calls Tryd.prog 20 #[.slice A bs.length c, .int .i64 k] w fun e w' => e = .returned (.tuple #[.int .u64 V, .int .i64 E]) ∧ w = w') := by
  by_cases h : k < 1 ∨ 8 < k
  · exact ⟨0, 1, fun A c w _ _ _ => get_arg A _ c k w h, fun A c w _ _ _ => refget_arg A _ c k w h⟩
  · obtain ⟨m, rfl⟩ : ∃ m : Nat, k = m := ⟨k.toNat, by omega⟩
    by_cases h2 : bs.length < m
    · exact ⟨0, 5, fun A c w _ _ _ => get_short A _ c m w (by omega) (by omega) h2, fun A c w _ _ _ => refget_short A _ c m w (by omega) (by omega) h2⟩
    · exact ⟨getN (bs.take m), 0, fun A c w hr h1 h3 => get_ok A _ c bs m w hr h1 h3 (by omega) (by omega) (by omega), fun A c w hr h1 h3 => refget_ok A _ c bs m w hr h1 h3 (by omega) (by omega) (by omega)⟩

theorem list_both (bs : List UInt8) :
    ∃ (k : Nat) (T E : Int) (zs : List Int), k ≤ 255 ∧ (∀ (A : Option Addr) (c : Nat) (w : World), Rd w A bs.length (cu8 bs) → bs.length ≤ c → c ≤ maxLen → Calls Tryd.prog 21 #[.slice A bs.length c] w fun e w' => ∃ A' c', e = .returned (.tuple #[.slice A' k c', .int .i64 T, .int .i64 E]) ∧ Own w' w.heap.size 3 A' k c' (ci64 zs) ∧ Below w.heap.size w w') ∧
      (∀ (A : Option Addr) (c : Nat) (w : World), Rd w A bs.length (cu8 bs) → bs.length ≤ c → c ≤ maxLen → Calls Tryd.prog 22 #[.slice A bs.length c] w fun e w' => ∃ A' c', e = .returned (.tuple #[.slice A' k c', .int .i64 T, .int .i64 E]) ∧ Own w' w.heap.size 3 A' k c' (ci64 zs) ∧ Below w.heap.size w w') := by
  by_cases h : bs.length < 1 + 4 * getN (bs.take 1)
  · refine ⟨0, 0, 5, [], by omega, fun A c w hr h1 h3 => (getlist_fail A _ c bs w hr h1 h3 h).mono ?_, fun A c w hr h1 h3 => (refgetlist_fail A _ c bs w hr h1 h3 h).mono ?_⟩ <;>
      (rintro e w' ⟨rfl, rfl⟩; exact ⟨none, 0, rfl, Own.none_ _ _ _ _, Below.refl _ _⟩)
  · have hk := getN_take1 bs
    exact ⟨getN (bs.take 1), _, 0, _, by omega, fun A c w hr h1 h3 => getlist_ok A _ c bs w hr h1 h3 (by omega) _ rfl (by omega), fun A c w hr h1 h3 => refgetlist_ok A _ c bs w hr h1 h3 (by omega) _ rfl (by omega)⟩

theorem bytes_both (bs : List UInt8) :
    ∃ (k : Nat) (T E : Int) (zs : List UInt8), k ≤ 65535 ∧ (∀ (A : Option Addr) (c : Nat) (w : World), Rd w A bs.length (cu8 bs) → bs.length ≤ c → c ≤ maxLen → Calls Tryd.prog 23 #[.slice A bs.length c] w fun e w' => ∃ A' c', e = .returned (.tuple #[.slice A' k c', .int .i64 T, .int .i64 E]) ∧ Own w' w.heap.size 5 A' k c' (cu8 zs) ∧ Below w.heap.size w w') ∧
      (∀ (A : Option Addr) (c : Nat) (w : World), Rd w A bs.length (cu8 bs) → bs.length ≤ c → c ≤ maxLen → Calls Tryd.prog 24 #[.slice A bs.length c] w fun e w' => ∃ A' c', e = .returned (.tuple #[.slice A' k c', .int .i64 T, .int .i64 E]) ∧ Own w' w.heap.size 5 A' k c' (cu8 zs) ∧ Below w.heap.size w w') := by
  by_cases h : bs.length < 2 + getN (bs.take 2)
  · refine ⟨0, 0, 5, [], by omega, fun A c w hr h1 h3 => (getbytes_fail A _ c bs w hr h1 h3 h).mono ?_, fun A c w hr h1 h3 => (refgetbytes_fail A _ c bs w hr h1 h3 h).mono ?_⟩ <;>
      (rintro e w' ⟨rfl, rfl⟩; exact ⟨none, 0, rfl, Own.none_ _ _ _ _, Below.refl _ _⟩)
  · have hk := getN_take2 bs
    exact ⟨getN (bs.take 2), _, 0, _, by omega, fun A c w hr h1 h3 => getbytes_ok A _ c bs w hr h1 h3 (by omega) _ rfl (by omega), fun A c w hr h1 h3 => refgetbytes_ok A _ c bs w hr h1 h3 (by omega) _ rfl (by omega)⟩

set_option maxRecDepth 100000 in
set_option maxHeartbeats 4000000 in
theorem walk (A : Option Addr) (n c : Nat) (bs : List UInt8) (z : Int) (hz1 : -9223372036854775808 ≤ z) (hz2 : z ≤ 9223372036854775807) (w : World) (hr : Rd w A n (cu8 bs)) (hc2 : c ≤ maxLen) (hc : n ≤ c) :
    Calls Tryd.prog 4 #[.slice A n c, .int .i64 z] w fun e w' => e = .returned (.bool true) ∧ Below w.heap.size w w' := by
  have hl : bs.length = n := by have h := hr.len; rw [cu8_len] at h; exact h
  have hcm := hc2
  unfold maxLen at hc2
  by_cases hn : n ≤ 70000
  · have h1 : decide (70000 < n) = false := by simp; omega
    obtain ⟨V, E, g1, g2⟩ := get_both bs z
    obtain ⟨k1, T1, E1, zs1, hk1, g3, g4⟩ := list_both bs
    obtain ⟨k2, T2, E2, zs2, hk2, g5, g6⟩ := bytes_both bs
    rw [hl] at g1 g2 g3 g4 g5 g6
    have HL := Lib.hid hl
    have G1 := Lib.hid g1
    have G2 := Lib.hid g2
    have G3 := Lib.hid g3
    have G4 := Lib.hid g4
    have G5 := Lib.hid g5
    have G6 := Lib.hid g6
    clear hl g1 g2 g3 g4 g5 g6
    go_enter Tryd.func4, Tryd.ntmps4
    go_wp2_with fail
    refine (twinbytes_any A n c bs w hr (by omega)).mono ?_
    rintro e w1 ⟨A1, c1, rfl, ho1, hb1⟩
    have hr1 := hr.below hb1
    have rg1 := Lib.hid ho1.range
    have kc1 := ho1.le
    have kc1m := ho1.cap
    clear hr
    go_wp2_with fail
    refine (G1.out A1 c1 w1 (own_twin HL.out ho1).rd (by omega) kc1m).mono ?_
    rintro e w2 ⟨rfl, rfl⟩
    go_wp2_with fail
    refine (G2.out A c w1 hr1 hc hcm).mono ?_
    rintro e w2 ⟨rfl, rfl⟩
    go_wp2_with fail
    refine (G3.out A1 c1 w1 (own_twin HL.out ho1).rd (by omega) kc1m).mono ?_
    rintro e w2 ⟨A2, c2, rfl, ho2, hb2⟩
    have hr2 := hr1.below hb2
    have ho12 := ho1.below hb2
    have rg2 := Lib.hid ho2.range
    have hB2 := hb1.trans (hb2.mono hb1.size)
    have sz2 := hb2.size
    clear hr1 ho1 hb2
    go_wp2_with fail
    refine (G4.out A c w2 hr2 hc hcm).mono ?_
    rintro e w3 ⟨A3, c3, rfl, ho3, hb3⟩
    have hr3 := hr2.below hb3
    have ho13 := ho12.below hb3
    have ho23 := ho2.below hb3
    have hB3 := hB2.trans (hb3.mono hB2.size)
    have sz3 := hb3.size
    clear hr2 ho12 ho2 hb3
    go_wp2_with fail
    refine (G5.out A1 c1 w3 (own_twin HL.out ho13).rd (by omega) kc1m).mono ?_
    rintro e w4 ⟨A4, c4, rfl, ho4, hb4⟩
    have hr4 := hr3.below hb4
    have ho14 := ho13.below hb4
    have ho24 := ho23.below hb4
    have ho34 := ho3.below hb4
    have rg4 := Lib.hid ho4.range
    have hB4 := hB3.trans (hb4.mono hB3.size)
    have sz4 := hb4.size
    clear hr3 ho13 ho23 ho3 hb4
    go_wp2_with fail
    refine (G6.out A c w4 hr4 hc hcm).mono ?_
    rintro e w5 ⟨A5, c5, rfl, ho5, hb5⟩
    have hr5 := hr4.below hb5
    have ho15 := ho14.below hb5
    have ho25 := ho24.below hb5
    have ho35 := ho34.below hb5
    have ho45 := ho4.below hb5
    have hB5 := hB4.trans (hb5.mono hB4.size)
    have sz5 := hb5.size
    clear hr4 ho14 ho24 ho34 ho4 hb5
    go_wp2_with fail
    refine (sameints_eq A2 k1 c2 zs1 A3 c3 w5 ho25.rd ho35.rd (by simp only [maxLen]; omega)).mono ?_
    rintro e w6 ⟨rfl, hb6⟩
    have hr6 := hr5.below hb6
    have ho16 := ho15.below hb6
    have ho26 := ho25.below hb6
    have ho46 := ho45.below hb6
    have ho56 := ho5.below hb6
    have hB6 := hB5.trans (hb6.mono hB5.size)
    have sz6 := hb6.size
    clear hr5 ho15 ho25 ho35 ho45 ho5 hb6
    go_wp2_with fail
    refine (samebytes_eqB A4 k2 c4 zs2 A5 c5 w6 ho46.rd ho56.rd (by simp only [maxLen]; omega)).mono ?_
    rintro e w7 ⟨rfl, hb7⟩
    have hr7 := hr6.below hb7
    have ho17 := ho16.below hb7
    have ho27 := ho26.below hb7
    have ho47 := ho46.below hb7
    have hB7 := hB6.trans (hb7.mono hB6.size)
    have sz7 := hb7.size
    clear hr6 ho16 ho26 ho46 ho56 hb7
    go_wp2_with fail
    refine (leftbytes_any A1 n c1 bs A c w7 _ ho17 hr7 (by omega)).mono ?_
    rintro e w8 ⟨rfl, hb8⟩
    have ho18 := own_twin HL.out (ho17.below hb8)
    have ho28 := ho27.below hb8
    have ho48 := ho47.below hb8
    have hB8 := hB7.trans (hb8.mono hB7.size)
    have sz8 := hb8.size
    clear hr7 ho17 ho27 ho47 hb8
    go_wp2_with fail
    have hB9 := hB8.alloc hB8.size (.cells #[.int .i64 0, .slice none 0 0, .slice none 0 0, .slice none 0 0, .slice none 0 0, .slice none 0 0, .slice none 0 0, .slice none 0 0, .slice none 0 0, .slice none 0 0] 44)
    refine (toldByte_any w8.heap.size 0 _ _ [] [] A1 n c1 _ (Bk.new _ _ _ w8) (by omega) (by simp)).mono ?_
    rintro e w9 ⟨rfl, v1, hk9, hb9⟩
    go_wp2_with fail
    refine (toldInt_any w8.heap.size (0 + 1) _ _ _ _ A2 k1 c2 _ hk9 (by omega) (by simp)).mono ?_
    rintro e w10 ⟨rfl, v2, hk10, hb10⟩
    have hb10 := hb9.trans hb10
    go_wp2_with fail
    refine (toldByte_any w8.heap.size (0 + 1 + 1) _ _ _ _ A4 k2 c4 _ hk10 (by omega) (by simp)).mono ?_
    rintro e w11 ⟨rfl, v3, hk11, hb11⟩
    have hb11 := hb10.trans hb11
    have oa := ho18.book hb11
    have ob := ho28.book hb11
    have oc := ho48.book hb11
    have q1 := hb1.size
    have pw : w.heap.size ≤ w8.heap.size := hB8.size
    clear ho18 ho28 ho48 hk9 hk10 hb9 hb10
    go_wp2_with fail
    refine (apart_any w8.heap.size _ w.heap.size _ _ _ _ w11 hk11 ?_ ?_ ?_ ?_ ?_ ?_ (by simp) (by simp) pw).mono ?_
    · intro h hm
      simp only [List.nil_append, List.cons_append, List.mem_cons, List.not_mem_nil, or_false] at hm
      rcases hm with rfl | rfl
      · exact ⟨_, oa⟩
      · exact ⟨_, oc.mono (by omega)⟩
    · intro h hm
      simp only [List.nil_append, List.mem_cons, List.not_mem_nil, or_false] at hm
      subst hm
      exact ⟨_, ob.mono (by omega)⟩
    · intro h hm g hg
      simp only [List.nil_append, List.cons_append, List.mem_cons, List.not_mem_nil, or_false] at hm
      rcases hm with rfl | rfl | rfl
      · have := rg1.out g hg.1 hg.2
        omega
      · have := rg4.out g hg.1 hg.2
        omega
      · have := rg2.out g hg.1 hg.2
        omega
    · show Sep [⟨A1, n, c1, none, 0, 0, 0 + 1⟩, ⟨A4, k2, c4, none, 0, 0, 0 + 1 + 1 + 1⟩, ⟨A2, k1, c2, none, 0, 0, 0 + 1 + 1⟩]
      refine List.Pairwise.cons ?_ (List.Pairwise.cons ?_ (List.Pairwise.cons (by simp) List.Pairwise.nil))
      · intro h hm g hg hg2
        simp only [List.mem_cons, List.not_mem_nil, or_false] at hm
        have a1 := rg1.out g hg.1 hg.2
        rcases hm with rfl | rfl
        · have a2 := rg4.out g hg2.1 hg2.2
          omega
        · have a2 := rg2.out g hg2.1 hg2.2
          omega
      · intro h hm g hg hg2
        simp only [List.mem_cons, List.not_mem_nil, or_false] at hm
        have a1 := rg4.out g hg.1 hg.2
        subst hm
        have a2 := rg2.out g hg2.1 hg2.2
        omega
    · intro h hm
      simp only [List.nil_append, List.cons_append, List.mem_cons, List.not_mem_nil, or_false] at hm
      rcases hm with rfl | rfl | rfl <;> (show _ < 1000; simp)
    · intro h hm
      simp only [List.nil_append, List.cons_append, List.mem_cons, List.not_mem_nil, or_false] at hm
      rcases hm with rfl | rfl | rfl
      · show n ≤ 1000000000; omega
      · show k2 ≤ 1000000000; omega
      · show k1 ≤ 1000000000; omega
    · rintro e w12 ⟨rfl, hb12⟩
      go_wp2
      go_ret
      exact ⟨rfl, (hB9.trans (hb11.mono pw)).trans hb12⟩
  · have h1 : decide (70000 < n) = true := by simp; omega
    go_enter Tryd.func4, Tryd.ntmps4
    go_wp2
    go_ret
    exact ⟨rfl, Below.refl _ _⟩
theorem own : ownKnob Tryd.prog.godebug = none := by kernel_rfl
theorem laidOut : laidOutB Tryd.prog = true := by kernel_rfl

/-- The door's own heap meets the condition. -/
theorem door_met (os : Os) (args : Array Value) : laidMetH Tryd.prog Rows.numsGetRow.laid ((World.doorLaid Tryd.prog 400 os).forCall (fun _ _ => 0) ⟨#[], args, []⟩).memory :=
  laidMetH_of_parts3 (fuel := 8) (laidMet_of_run' 8 (by kernel_rfl) (by kernel_rfl)) (by kernel_rfl) (by kernel_rfl)

set_option maxRecDepth 100000 in
theorem lifted (os : Os) (started : os.Started) (H : Type) (enc : TypeId × Value → H) :
    ReturnsInHanded {} Tryd.checked os 4 .any (fun w args => (Rows.numsGetSpec.pre enc Tryd.prog Tryd.f4 [] false w args ∧ laidMetH Tryd.prog Rows.numsGetRow.laid w) ∧ sizedMet enc Tryd.prog Tryd.f4 (OpenSpec.ofChange Rows.numsGetSpec) false w args)
      (Rows.numsGetSpec.post enc Tryd.prog Tryd.f4 false true false false) := by
  refine returnsInHanded_of_change_and (C := Tryd.checked) (X := fun w _ => laidMetH Tryd.prog Rows.numsGetRow.laid w) (fun _ _ _ hh h => h.of_heap hh) own started (by kernel_rfl) Tryd.func4
    (ChangeSpec.witness_shaped (enc := enc) (C := Tryd.checked) (os := os) (X := fun w _ => laidMetH Tryd.prog Rows.numsGetRow.laid w) false (World.doorLaid Tryd.prog 400 os) #[.slice none 0 0, .int .i64 0] 8 rfl (World.shaped_of_RefB (by kernel_rfl) (by kernel_rfl)) (by kernel_rfl) (by kernel_rfl) (by kernel_rfl) (door_met os _)) ?_
  intro W base args ds gs before hval0 hW _ _ hL _
  have hval : ∀ (j : Nat) t v, Tryd.f4.params[j]? = some t → args[j]? = some v → Value.okWide Tryd.prog W .any base t v := hval0
  have hW' := hW
  obtain ⟨p, q, hA0, hV, rfl, hfz, hnd⟩ := hW
  have hA : DataW.TrodAll enc Tryd.prog W 0 (fun _ => true) true Tryd.f4.params.toList args.toList ds p := hA0
  rw [Tryd.params4] at hA hval
  obtain ⟨v0, vs0, d0, ds0, p0, q0, hargs, rfl, rfl, h0, r0⟩ := trodAll_cons hA
  obtain ⟨v1, vs1, d1, ds1, p1, q1, rfl, rfl, rfl, h1, r1⟩ := trodAll_cons r0
  obtain ⟨rfl, rfl, rfl⟩ := trodAll_nil r1
  obtain rfl : args = #[v0, v1] := by cases args; simp_all
  obtain ⟨A0, n0, c0, l0, rfl, a0, b0, e0⟩ := arg_u8s Tryd.underlying22 Tryd.underlying5 (by kernel_rfl) (hval 0 22 v0 rfl rfl) h0
  obtain ⟨x1, rfl, rfl, rfl, w1⟩ := open_int Tryd.underlying3 (hval 1 3 v1 rfl rfl) h1
  have y1 := bounds_i64 w1
  have hwalk : Calls Tryd.prog 4 #[.slice A0 n0 c0, .int .i64 x1] W fun e w' => e = .returned (.bool true) ∧ Below W.heap.size W w' := walk A0 n0 c0 l0 x1 y1.1 y1.2 W a0 e0 b0
  refine hwalk.mono fun e W' ⟨he, hg⟩ => ?_
  subst he
  exact ⟨_, rfl, law_post laidOut (by kernel_rfl) hW' rfl rfl (by kernel_rfl) Tryd.underlying4 hg⟩

theorem over : Rows.numsGetRow.holds Tryd.pinned (OpenSpec.ofChange Rows.numsGetSpec) :=
  OpenClaim.holds_of_wide 4 Tryd.f4 rfl rfl rfl rfl rfl rfl rfl ⟨rfl, rfl, rfl, rfl, rfl⟩ rfl rfl rfl rfl rfl (by kernel_rfl) Tryd.func4 (by kernel_rfl)
    (of_decide_eq_true (by kernel_rfl)) (by unfold Func.isWrapper; first | (rw [if_pos (by decide +kernel)]; kernel_rfl) | (rw [if_neg (by decide +kernel)]; exact ⟨rfl, rfl⟩))
    (fun os started H enc _ => lifted os started H enc)

theorem proved : Rows.NumsGetCardSaid :=
  Claim7.holds_tied_plain_at .later [] [.data, .data, .data] true Rows.numsGetCard.stood.harness false
    over (fun _ h => by cases h) (by kernel_rfl) (fun _ h => by cases h) numsGet_row_tie rfl ⟨rfl, rfl⟩ (by kernel_rfl) rfl
    (fun f fn hf hfn => by
      obtain rfl : f = 4 := Option.some.inj ((show Tryd.prog.funcNamed Rows.numsGetRow.func = some 4 by kernel_rfl).symm.trans hf) |>.symm
      obtain rfl : fn = Tryd.f4 := (Option.some.inj (Tryd.func4.symm.trans hfn)).symm
      exact ⟨by kernel_rfl, fun j t ht => by
        rw [Tryd.params4] at ht
        have hm : t ∈ [22, 3] := by simpa using Array.mem_of_getElem? ht
        have hall : ([22, 3].all fun u => !Tryd.prog.wantsStandIn u) = true := by kernel_rfl
        exact (show Tryd.prog.wantsStandIn t = false by simpa using List.all_eq_true.1 hall t hm)⟩)
    (by kernel_rfl)
end Go.Proofs.YtillimpfnpjbhaaDoor.numsGet
