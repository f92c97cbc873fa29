/-
  Proved: salesroomlaw04.VectorsWorth answers true, for any bid and reserves of 32 bits and any item, in whatever memory. No conditions.
-/
import Derived.Test.YtbcfncdmkgoidaaRows
import Derived.Test.YtbcfncdmkgoidaaVecW
import Derived.Test.YtbcfncdmkgoidaaRef04w
import Derived.Test.YtbcfncdmkgoidaaVecArgs
import Derived.Test.YtbcfncdmkgoidaaLift
namespace Go.Proofs.Ytbcfncdmkgoidaa.vectorsWorth
open Go.ChangeShapes Go.WideShapes Go.ChangeAt Go.RowKit
set_option linter.unusedVariables false

theorem infow_int : (Try.prog.info? 3).map (fun i => (i.zero, i.size, i.bytes)) = some (some (.int .i64 0), 1, 8) := by kernel_rfl

set_option maxRecDepth 100000 in
set_option maxHeartbeats 1000000 in
theorem walk_out (A : Option Addr) (n c : Nat) (A1 : Option Addr) (m c1 : Nat) (z : Int) (w : World) (hc2 : c ≤ maxLen) (hc : n ≤ c) (hc12 : c1 ≤ maxLen) (hc1 : m ≤ c1) (hn : 600 < n ∨ 600 < m) :
    Calls Try.prog 3 #[.slice A n c, .slice A1 m c1, .int .i64 z] w fun e w' => e = .returned (.bool true) ∧ Below w.heap.size w w' := by
  unfold maxLen at hc2 hc12
  by_cases h : 600 < n
  · have h1 : decide (600 < n) = true := by simpa using h
    go_enter Try.func3, Try.ntmps3
    go_wp2
    go_ret
    exact ⟨rfl, Below.refl _ _⟩
  · have h1 : decide (600 < n) = false := by simpa using h
    have h2 : decide (600 < m) = true := by simp; omega
    go_enter Try.func3, Try.ntmps3
    go_wp2
    go_ret
    exact ⟨rfl, Below.refl _ _⟩

set_option maxRecDepth 100000 in
set_option maxHeartbeats 1000000 in
theorem walk_in (A : Option Addr) (n c : Nat) (xs : List Int) (A1 : Option Addr) (m c1 : Nat) (ys : List Int) (z : Int) (w : World) (hr : Rd w A n (xs.map (Value.int .i32))) (hr1 : Rd w A1 m (ys.map (Value.int .i32))) (hbxs : ∀ u ∈ xs, -2147483648 ≤ u ∧ u ≤ 2147483647) (hbys : ∀ u ∈ ys, -2147483648 ≤ u ∧ u ≤ 2147483647)
    (hc2 : c ≤ maxLen) (hc : n ≤ c) (hc12 : c1 ≤ maxLen) (hc1 : m ≤ c1) (hn : n ≤ 600) (hm : m ≤ 600) :
    Calls Try.prog 3 #[.slice A n c, .slice A1 m c1, .int .i64 z] w fun e w' => e = .returned (.bool true) ∧ Below w.heap.size w w' := by
  obtain ⟨i0, hi0, hz0, hz1, hz2⟩ := info_parts infow_int
  have hl : xs.length = n := by have h := hr.len; rw [List.length_map] at h; exact h
  have hl1 : ys.length = m := by have h := hr1.len; rw [List.length_map] at h; exact h
  unfold maxLen at hc2 hc12
  have h1 : decide (600 < n) = false := by simp; omega
  have h2 : decide (600 < m) = false := by simp; omega
  have HLxs := Lib.hid hl
  have HLys := Lib.hid hl1
  clear hl hl1
  have wx : ∀ u ∈ xs, -1000000000000 ≤ u ∧ u ≤ 1000000000000 := fun u hu => by have := hbxs u hu; omega
  have wy : ∀ u ∈ ys, -1000000000000 ≤ u ∧ u ≤ 1000000000000 := fun u hu => by have := hbys u hu; omega
  have WX := Lib.hid wx
  have WY := Lib.hid wy
  clear wx wy
  go_enter Try.func3, Try.ntmps3
  go_wp2_with fail
  go_loopw [7, 9] (fun v i wr => ∃ (j : Nat) (A' : Option Addr) (c' : Nat), j ≤ n ∧ i = .int .i64 j ∧ v = .slice A' j c' ∧ Own wr w.heap.size 3 A' j c' (ci64 (xs.take j)) ∧ Below w.heap.size w wr) (fun _ i _ => n - (intOf i).toNat)
  case atStart => exact ⟨0, none, 0, Nat.zero_le _, rfl, rfl, Own.none_ _ _ _ _, Below.refl _ _⟩
  case round =>
    obtain ⟨j, A', c', hj, rfl, rfl, hown, hB⟩ := hrel
    by_cases hlt : j < n
    · have hjl : j < xs.length := by rw [HLxs.out]; exact hlt
      obtain ⟨b, o, rfl, hbw, u, hu, hc1⟩ := hr.get hlt
      rw [List.getElem?_map, List.getElem?_eq_getElem hjl] at hu
      cases hu
      have hcw : wr.cell? ⟨b, o + j, none⟩ = some (.int .i32 xs[j]) := by rw [hB.cell (p := ⟨b, o + j, none⟩) hbw]; exact hc1
      have hbd := hbxs _ (List.getElem_mem hjl)
      have hT := List.take_succ_eq_append_getElem hjl
      generalize xs[j] = x at hcw hbd hT
      have HT := Lib.hid hT
      clear hT hc1
      go_wp2_with (at_builtin; go_must (refine wpList_app1 _ rfl _ _ 23 rfl 3 i0 _ 8 Try.underlying23 hi0 hz0 hz1 hz2 rfl w.heap.size A' j c' _ rfl hown 1 rfl rfl ?c3 ?c4 ?c5 ?_))
      case c3 => simp only [maxLen]; omega
      case c4 => omega
      case c5 => exact hB.size
      intro A2 c2 w2 hown2 hb2 _ _
      have hown3 : Own w2 w.heap.size 3 A2 (j + 1) c2 (ci64 (xs.take (j + 1))) := by
        rw [HT.out, ci64_app]
        exact hown2
      have hB2 := hB.trans hb2
      clear hown hown2 hB hb2 hcw
      go_wp2
      go_roundw
      case rel => exact ⟨j + 1, A2, c2, by omega, by go_num, rfl, hown3, hB2⟩
      case measure => simp [intOf]; omega
    · obtain rfl : n = j := by omega
      rw [List.take_of_length_le (by rw [HLxs.out]; exact Nat.le_refl _)] at hown
      have oa := hown
      have BA := hB
      have r1 := hr1.below hB
      obtain ⟨wa, rfl⟩ : ∃ wa, wa = wr := ⟨_, rfl⟩
      clear hown hB
      go_wp2_with fail
      go_loopw [8, 10] (fun v i wr => ∃ (j : Nat) (A' : Option Addr) (c' : Nat), j ≤ m ∧ i = .int .i64 j ∧ v = .slice A' j c' ∧ Own wr wa.heap.size 3 A' j c' (ci64 (ys.take j)) ∧ Below wa.heap.size wa wr) (fun _ i _ => m - (intOf i).toNat)
      case atStart => exact ⟨0, none, 0, Nat.zero_le _, rfl, rfl, Own.none_ _ _ _ _, Below.refl _ _⟩
      case round =>
        obtain ⟨j, A', c', hj, rfl, rfl, hown, hB⟩ := hrel
        by_cases hlt : j < m
        · have hjl : j < ys.length := by rw [HLys.out]; exact hlt
          obtain ⟨b, o, rfl, hbw, u, hu, hc1⟩ := r1.get hlt
          rw [List.getElem?_map, List.getElem?_eq_getElem hjl] at hu
          cases hu
          have hcw : wr.cell? ⟨b, o + j, none⟩ = some (.int .i32 ys[j]) := by rw [hB.cell (p := ⟨b, o + j, none⟩) hbw]; exact hc1
          have hbd := hbys _ (List.getElem_mem hjl)
          have hT := List.take_succ_eq_append_getElem hjl
          generalize ys[j] = x at hcw hbd hT
          have HT := Lib.hid hT
          clear hT hc1
          go_wp2_with (at_builtin; go_must (refine wpList_app1 _ rfl _ _ 23 rfl 3 i0 _ 8 Try.underlying23 hi0 hz0 hz1 hz2 rfl wa.heap.size A' j c' _ rfl hown 1 rfl rfl ?c3 ?c4 ?c5 ?_))
          case c3 => simp only [maxLen]; omega
          case c4 => omega
          case c5 => exact hB.size
          intro A2 c2 w2 hown2 hb2 _ _
          have hown3 : Own w2 wa.heap.size 3 A2 (j + 1) c2 (ci64 (ys.take (j + 1))) := by
            rw [HT.out, ci64_app]
            exact hown2
          have hB2 := hB.trans hb2
          clear hown hown2 hB hb2 hcw
          go_wp2
          go_roundw
          case rel => exact ⟨j + 1, A2, c2, by omega, by go_num, rfl, hown3, hB2⟩
          case measure => simp [intOf]; omega
        · obtain rfl : m = j := by omega
          rw [List.take_of_length_le (by rw [HLys.out]; exact Nat.le_refl _)] at hown
          have oa2 := oa.below hB
          have ob := hown
          have BB := BA.trans (hB.mono BA.size)
          clear hown hB oa BA
          have ra := Lib.hid oa2.rd
          have rb := Lib.hid ob.rd
          obtain ⟨wb, rfl⟩ : ∃ wb, wb = wr := ⟨_, rfl⟩
          have HBB := Lib.hid BB
          have szb := BB.size
          clear oa2 ob BB
          go_wp2_with fail
          go_loopw [11] (fun i wr => ∃ k : Int, -1 ≤ k ∧ k ≤ (n : Int) + 1 ∧ i = .int .i64 k ∧ Below wb.heap.size wb wr) (fun i _ => ((n : Int) + 1 - intOf i).toNat)
          case atStart => exact ⟨-1, by omega, by omega, rfl, Below.refl _ _⟩
          case round =>
            obtain ⟨k, hk1, hk2, rfl, hB⟩ := hrel
            by_cases hle : k ≤ (n : Int)
            · have q1 : decide (k ≤ (n : Int)) = true := by simpa using hle
              obtain ⟨V, hV⟩ : ∃ V, worth xs ys k = V := ⟨_, rfl⟩
              have HV := Lib.hid hV
              clear hV
              go_wp2_with fail
              refine (vworth_any _ _ _ xs _ _ _ ys k wr (ra.out.below hB) (rb.out.below hB) WX.out WY.out (by omega) (by omega)).mono ?_
              rw [HV.out]
              rintro e w5 ⟨rfl, b5⟩
              have B5 := hB.trans (b5.mono hB.size)
              clear hB b5
              go_wp2_with fail
              refine (rworth_any _ _ _ xs _ _ _ ys k w5 (ra.out.below B5) (rb.out.below B5) WX.out WY.out (by omega) (by omega)).mono ?_
              rw [HV.out]
              rintro e w6 ⟨rfl, b6⟩
              have B6 := B5.trans (b6.mono B5.size)
              clear B5 b6
              have v1 : IntKind.i64.wrap (k + 1) = k + 1 := by rw [IntKind.wrap_i64]; omega
              go_wp2
              go_roundw
              case rel => exact ⟨k + 1, by omega, by omega, rfl, B6⟩
              case measure => simp [intOf]; omega
            · have q1 : decide (k ≤ (n : Int)) = false := by simpa using hle
              obtain ⟨V, hV⟩ : ∃ V, worth xs ys z = V := ⟨_, rfl⟩
              have HV := Lib.hid hV
              clear hV
              go_wp2_with fail
              refine (vworth_any _ _ _ xs _ _ _ ys z wr (ra.out.below hB) (rb.out.below hB) WX.out WY.out (by omega) (by omega)).mono ?_
              rw [HV.out]
              rintro e w5 ⟨rfl, b5⟩
              have B5 := hB.trans (b5.mono hB.size)
              clear hB b5
              go_wp2_with fail
              refine (rworth_any _ _ _ xs _ _ _ ys z w5 (ra.out.below B5) (rb.out.below B5) WX.out WY.out (by omega) (by omega)).mono ?_
              rw [HV.out]
              rintro e w6 ⟨rfl, b6⟩
              have B6 := B5.trans (b6.mono B5.size)
              clear B5 b6
              go_wp2
              go_ret
              exact ⟨rfl, HBB.out.trans (B6.mono szb)⟩

theorem walk (A : Option Addr) (n c : Nat) (xs : List Int) (A1 : Option Addr) (m c1 : Nat) (ys : List Int) (z : Int) (w : World) (hr : Rd w A n (xs.map (Value.int .i32))) (hr1 : Rd w A1 m (ys.map (Value.int .i32))) (hbxs : ∀ u ∈ xs, -2147483648 ≤ u ∧ u ≤ 2147483647) (hbys : ∀ u ∈ ys, -2147483648 ≤ u ∧ u ≤ 2147483647)
    (hc2 : c ≤ maxLen) (hc : n ≤ c) (hc12 : c1 ≤ maxLen) (hc1 : m ≤ c1) :
    Calls Try.prog 3 #[.slice A n c, .slice A1 m c1, .int .i64 z] w fun e w' => e = .returned (.bool true) ∧ Below w.heap.size w w' := by
  by_cases h : n ≤ 600 ∧ m ≤ 600
  · exact walk_in A n c xs A1 m c1 ys z w hr hr1 hbxs hbys hc2 hc hc12 hc1 h.1 h.2
  · exact walk_out A n c A1 m c1 z w hc2 hc hc12 hc1 (by omega)

theorem own : ownKnob Try.prog.godebug = none := by kernel_rfl
theorem laidOut : laidOutB Try.prog = true := by kernel_rfl

set_option maxRecDepth 100000 in
theorem lifted (os : Os) (started : os.Started) (H : Type) (enc : TypeId × Value → H) :
    ReturnsInHanded {} Try.checked os 3 .any (Rows.vectorsWorthSpec.pre6 enc Try.prog Try.f3 Rows.vectorsWorthRow.domain false) (Rows.vectorsWorthSpec.post enc Try.prog Try.f3 false true false false) := by
  refine returnsInHanded_of_change (C := Try.checked) own started (by kernel_rfl) Try.func3
    (ChangeSpec.witness6 (enc := enc) (C := Try.checked) false ⟨#[], #[.slice none 0 0, .slice none 0 0, .int .i64 0], []⟩ 8 (by kernel_rfl) (by kernel_rfl) (by kernel_rfl) (by kernel_rfl)) ?_
  intro W base args ds gs before hval0 hW hcnd _
  have hval : ∀ (j : Nat) t v, Try.f3.params[j]? = some t → args[j]? = some v → Value.okWide Try.prog W .any base t v := hval0
  have hW' := hW
  obtain ⟨p, q, hA0, hV, rfl, hfz, hnd⟩ := hW
  have hA : DataW.TrodAll enc Try.prog W 0 (fun _ => true) true Try.f3.params.toList args.toList ds p := hA0
  rw [Try.params3] at hA hval
  obtain ⟨v0, vs0, d0, ds0, p0, q0, hargs, rfl, rfl, h0, r0⟩ := trodAll_cons hA
  obtain ⟨v1, vs1, d1, ds1, p1, q1, rfl, rfl, rfl, h1, r1⟩ := trodAll_cons r0
  obtain ⟨v2, vs2, d2, ds2, p2, q2, rfl, rfl, rfl, h2, r2⟩ := trodAll_cons r1
  obtain ⟨rfl, rfl, rfl⟩ := trodAll_nil r2
  obtain rfl : args = #[v0, v1, v2] := by cases args; simp_all
  obtain ⟨A0, n0, c0, l0, rfl, a0, b0, e0, f0⟩ := arg_ks Try.underlying22 Try.underlying21 (by kernel_rfl) (hval 0 22 v0 rfl rfl) h0
  have g0 : ∀ u ∈ l0, -2147483648 ≤ u ∧ u ≤ 2147483647 := fun u hu => bounds_i32 (f0 u hu)
  obtain ⟨A1, n1, c1, l1, rfl, a1, b1, e1, f1⟩ := arg_ks Try.underlying22 Try.underlying21 (by kernel_rfl) (hval 1 22 v1 rfl rfl) h1
  have g1 : ∀ u ∈ l1, -2147483648 ≤ u ∧ u ≤ 2147483647 := fun u hu => bounds_i32 (f1 u hu)
  obtain ⟨x2, rfl, rfl, rfl, w2⟩ := open_int Try.underlying3 (hval 2 3 v2 rfl rfl) h2
  have y2 := bounds_i64 w2
  have hwalk : Calls Try.prog 3 #[.slice A0 n0 c0, .slice A1 n1 c1, .int .i64 x2] W fun e w' => e = .returned (.bool true) ∧ Below W.heap.size W w' := walk A0 n0 c0 l0 A1 n1 c1 l1 x2 W a0 a1 g0 g1 e0 b0 e1 b1
  refine hwalk.mono fun e W' ⟨he, hg⟩ => ?_
  subst he
  exact ⟨_, rfl, law_post laidOut (by kernel_rfl) hW' rfl rfl (by kernel_rfl) Try.underlying4 hg⟩

theorem over : Rows.vectorsWorthRow.holds Try.pinned (OpenSpec.ofChange Rows.vectorsWorthSpec) :=
  OpenClaim.holds_of_wide 3 Try.f3 rfl rfl rfl rfl rfl rfl rfl ⟨rfl, rfl, rfl, rfl, rfl⟩ rfl rfl rfl rfl rfl (by kernel_rfl) Try.func3 (by kernel_rfl)
    (of_decide_eq_true (by kernel_rfl)) (by unfold Func.isWrapper; first | (rw [if_pos (by decide +kernel)]; kernel_rfl) | (rw [if_neg (by decide +kernel)]; exact ⟨rfl, rfl⟩))
    (fun os started H enc _ => lifted os started H enc)

theorem proved : Rows.VectorsWorthSaid :=
  over

end Go.Proofs.Ytbcfncdmkgoidaa.vectorsWorth
