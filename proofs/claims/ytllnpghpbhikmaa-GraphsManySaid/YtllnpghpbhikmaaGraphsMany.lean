/-
  Proved: salesroomlaw06.GraphsMany answers true, for any list of numbers, in whatever memory. No conditions.
-/
import Derived.Test.YtllnpghpbhikmaaRows
import Derived.Test.YtllnpghpbhikmaaLift
import Derived.Test.YtllnpghpbhikmaaAlive6
namespace Go.Proofs.Ytllnpghpbhikmaa.graphsMany
open Go.ChangeShapes Go.WideShapes Go.ChangeAt Go.RowKit
set_option linter.unusedVariables false

theorem info6_int : (Try.prog.info? 3).map (fun i => (i.zero, i.size, i.bytes)) = some (some (.int .i64 0), 1, 8) := by kernel_rfl
theorem many_snoc (a : List Int) (z : Int) : manyG (a ++ [z]) = manyG a + (if z ≠ -1 then 1 else 0) := by
  rw [manyG, manyG, List.countP_append]
  by_cases h : z = -1 <;> simp [h]

set_option maxRecDepth 100000 in
set_option maxHeartbeats 2000000 in
theorem walk (u : Ls) (w : World) (h : u.Ok w) :
    Calls Try.prog 6 #[u.v] w fun e w' => e = .returned (.bool true) ∧ Below w.heap.size w w' := by
  have hul := h.len
  have htop := Nat.le_trans h.cap h.top
  unfold maxLen at htop
  obtain ⟨M, hM⟩ : ∃ M, manyG u.zs = M := ⟨_, rfl⟩
  have HM := Lib.hid hM
  have hmany := gmanyC u
  rw [hM] at hmany
  have hr := h.rd
  obtain ⟨A, n, c, zs⟩ := u
  simp only at hul hr htop HM
  have HUL := Lib.hid hul
  unfold Ls.v at hmany ⊢
  simp only at hmany
  clear hM hul
  by_cases hn : 500 < n
  · have h1 : decide (500 < n) = true := decide_eq_true hn
    have h1' : decide (500 < (n : Int)) = true := decide_eq_true (by omega)
    go_enter Try.func6, Try.ntmps6
    go_wp2_with fail
    refine (alive6_any w).mono ?_
    rintro e w2 ⟨rfl, hb2⟩
    go_wp2
    go_ret
    exact ⟨rfl, hb2⟩
  have h1 : decide (500 < n) = false := decide_eq_false hn
  have h1' : decide (500 < (n : Int)) = false := decide_eq_false (by omega)
  obtain ⟨i0, hi0, hz0, hz1, hz2⟩ := info_parts info6_int
  go_enter Try.func6, Try.ntmps6
  go_wp2_with fail
  go_loopw [3, 4, 5] (fun v o i wr => ∃ (j k : Nat) (A' : Option Addr) (c' : Nat) (l : List Int), j ≤ n ∧ k ≤ j ∧ v = .int .i64 k ∧ i = .int .i64 j ∧ o = .slice A' j c' ∧ Own wr w.heap.size 3 A' j c' (ci64 l) ∧ Hid (k = manyG (zs.take j) ∧ manyG l = k ∧ ∀ z ∈ l, z = 5 ∨ z = -1) ∧ Below w.heap.size w wr) (fun _ _ i _ => n - (intOf i).toNat)
  case atStart => exact ⟨0, 0, none, 0, [], Nat.zero_le _, Nat.le_refl _, rfl, rfl, rfl, Own.none_ _ _ _ _, Lib.hid ⟨by simp [manyG], by simp [manyG], by simp⟩, Below.refl _ _⟩
  case round =>
    obtain ⟨j, k, A', c', l, hj, hkj, rfl, rfl, rfl, hown, hk, hbel⟩ := hrel
    by_cases hlt : j < n
    · obtain ⟨p, q, rfl, hp, u0, hu0, hc0⟩ := hr.get hlt
      have hjl : j < zs.length := by rw [HUL.out]; exact hlt
      rw [ci64_get _ _ hjl] at hu0
      obtain rfl : iV zs[j] = u0 := Option.some.inj hu0
      unfold iV at hc0
      have hcw : wr.cell? ⟨p, q + j, none⟩ = some (.int .i64 zs[j]) := (hbel.cell (p := ⟨p, q + j, none⟩) hp).trans hc0
      have hst := manyG_take hjl
      generalize zs[j] = z at hcw hst
      have hwo := hbel.size
      clear hu0 hc0 hjl
      by_cases hz : z = -1
      · have g1 : (z != -1) = false := by rw [hz]; rfl
        have HN := Lib.hid (show k = manyG (zs.take (j + 1)) ∧ manyG (l ++ [-1]) = k ∧ ∀ z ∈ l ++ [-1], z = 5 ∨ z = -1 by
          rw [if_neg (by simp [hz])] at hst
          refine ⟨by rw [hst, hk.out.1]; rfl, by rw [many_snoc, hk.out.2.1]; simp, fun y hy => ?_⟩
          rcases List.mem_append.1 hy with hy | hy
          · exact hk.out.2.2 y hy
          · exact .inr (List.mem_singleton.1 hy))
        clear hst hz hk
        go_wp2_with (at_builtin; go_must (refine wpList_app1 wr rfl _ _ 33 rfl 3 i0 _ 8 Try.underlying33 hi0 hz0 hz1 hz2 rfl w.heap.size A' j c' _ rfl hown 1 rfl rfl ?c3 ?c4 ?c5 ?_))
        case c3 => simp only [maxLen]; omega
        case c4 => omega
        case c5 => exact hwo
        intro A3 c3 w3 hown3 hbel3 hfr3 hat3
        have hown4 : Own w3 w.heap.size 3 A3 (j + 1) c3 (ci64 (l ++ [-1])) := by
          rw [ci64_snoc6]
          exact hown3
        have hbk3 := hbel.trans hbel3
        clear hown3 hbel3 hfr3 hat3 hown hcw
        go_wp2
        go_roundw
        case rel => exact ⟨j + 1, k, A3, c3, _, by omega, by omega, rfl, by go_num, rfl, hown4, HN, hbk3⟩
        case measure => simp [intOf]; omega
      · have g1 : (z != -1) = true := by rw [bne_iff_ne]; exact hz
        have HN := Lib.hid (show k + 1 = manyG (zs.take (j + 1)) ∧ manyG (l ++ [5]) = k + 1 ∧ ∀ z ∈ l ++ [5], z = 5 ∨ z = -1 by
          rw [if_pos hz] at hst
          refine ⟨by rw [hst, hk.out.1], by rw [many_snoc, hk.out.2.1]; simp, fun y hy => ?_⟩
          rcases List.mem_append.1 hy with hy | hy
          · exact hk.out.2.2 y hy
          · exact .inl (List.mem_singleton.1 hy))
        clear hst hz hk
        go_wp2_with (at_builtin; go_must (refine wpList_app1 wr rfl _ _ 33 rfl 3 i0 _ 8 Try.underlying33 hi0 hz0 hz1 hz2 rfl w.heap.size A' j c' _ rfl hown 1 rfl rfl ?d3 ?d4 ?d5 ?_))
        case d3 => simp only [maxLen]; omega
        case d4 => omega
        case d5 => exact hwo
        intro A3 c3 w3 hown3 hbel3 hfr3 hat3
        have hown4 : Own w3 w.heap.size 3 A3 (j + 1) c3 (ci64 (l ++ [5])) := by
          rw [ci64_snoc6]
          exact hown3
        have hbk3 := hbel.trans hbel3
        clear hown3 hbel3 hfr3 hat3 hown hcw
        go_wp2
        go_roundw
        case rel => exact ⟨j + 1, k + 1, A3, c3, _, by omega, by omega, by go_num, by go_num, rfl, hown4, HN, hbk3⟩
        case measure => simp [intOf]; omega
    · obtain rfl : j = n := by omega
      obtain rfl : k = M := by
        have h3 := hk.out.1
        rw [List.take_of_length_le (by rw [HUL.out]; exact Nat.le_refl _), HM.out] at h3
        exact h3
      have hu2 : OwnI wr w.heap.size ⟨A', j, c', l⟩ := ⟨hown, fun z hz => by rcases hk.out.2.2 z hz with h | h <;> omega⟩
      have HK := Lib.hid hk.out.2.1
      clear hown hk
      go_wp2_with fail
      refine (alive6_any wr).mono ?_
      rintro e w2 ⟨rfl, hb2⟩
      have hB2 := hbel.trans (hb2.mono hbel.size)
      have hu3 := hu2.below hb2
      have hc := hmany w2 (h.below hB2)
      go_wp2_with fail
      refine hc.mono ?_
      rintro e w3 ⟨rfl, hb3⟩
      have hB3 := hB2.trans (hb3.mono hB2.size)
      have hc2 := gmanyC ⟨A', j, c', l⟩ w3 (hu3.below hb3).ok
      unfold Ls.v at hc2
      simp only [HK.out] at hc2
      clear hc
      go_wp2_with fail
      refine hc2.mono ?_
      rintro e w4 ⟨rfl, hb4⟩
      have hB4 := hB3.trans (hb4.mono hB3.size)
      go_wp2
      go_ret
      exact ⟨rfl, hB4⟩

theorem own : ownKnob Try.prog.godebug = none := by kernel_rfl
theorem laidOut : laidOutB Try.prog = true := by kernel_rfl

set_option maxRecDepth 100000 in
theorem lifted (os : Os) (started : os.Started) (H : Type) (enc : TypeId × Value → H) :
    ReturnsInHanded {} Try.checked os 6 .any (Rows.graphsManySpec.pre6 enc Try.prog Try.f6 Rows.graphsManyRow.domain false) (Rows.graphsManySpec.post enc Try.prog Try.f6 false true false false) := by
  refine returnsInHanded_of_change (C := Try.checked) own started (by kernel_rfl) Try.func6
    (ChangeSpec.witness6 (enc := enc) (C := Try.checked) false ⟨#[], #[.slice none 0 0], []⟩ 8 (by kernel_rfl) (by kernel_rfl) (by kernel_rfl) (by kernel_rfl)) ?_
  intro W base args ds gs before hval0 hW hcnd _
  have hval : ∀ (j : Nat) t v, Try.f6.params[j]? = some t → args[j]? = some v → Value.okWide Try.prog W .any base t v := hval0
  have hW' := hW
  obtain ⟨p, q, hA0, hV, rfl, hfz, hnd⟩ := hW
  have hA : DataW.TrodAll enc Try.prog W 0 (fun _ => true) true Try.f6.params.toList args.toList ds p := hA0
  rw [Try.params6] at hA hval
  obtain ⟨v0, vs0, d0, ds0, p0, q0, hargs, rfl, rfl, h0, r0⟩ := trodAll_cons hA
  obtain ⟨rfl, rfl, rfl⟩ := trodAll_nil r0
  obtain rfl : args = #[v0] := by cases args; simp_all
  obtain ⟨A0, n0, c0, l0, rfl, a0, b0, e0, g0⟩ := arg_i64s Try.underlying33 Try.underlying3 (by kernel_rfl) (hval 0 33 v0 rfl rfl) h0
  have hwalk : Calls Try.prog 6 #[.slice A0 n0 c0] W fun e w' => e = .returned (.bool true) ∧ Below W.heap.size W w' := walk ⟨A0, n0, c0, l0⟩ W ⟨a0, b0, e0, g0⟩
  refine hwalk.mono fun e W' ⟨he, hg⟩ => ?_
  subst he
  exact ⟨_, rfl, law_post laidOut (by kernel_rfl) hW' rfl rfl (by kernel_rfl) Try.underlying4 hg⟩

theorem over : Rows.graphsManyRow.holds Try.pinned (OpenSpec.ofChange Rows.graphsManySpec) :=
  OpenClaim.holds_of_wide 6 Try.f6 rfl rfl rfl rfl rfl rfl rfl ⟨rfl, rfl, rfl, rfl, rfl⟩ rfl rfl rfl rfl rfl (by kernel_rfl) Try.func6 (by kernel_rfl)
    (of_decide_eq_true (by kernel_rfl)) (by unfold Func.isWrapper; first | (rw [if_pos (by decide +kernel)]; kernel_rfl) | (rw [if_neg (by decide +kernel)]; exact ⟨rfl, rfl⟩))
    (fun os started H enc _ => lifted os started H enc)

theorem proved : Rows.GraphsManySaid :=
  over

end Go.Proofs.Ytllnpghpbhikmaa.graphsMany
