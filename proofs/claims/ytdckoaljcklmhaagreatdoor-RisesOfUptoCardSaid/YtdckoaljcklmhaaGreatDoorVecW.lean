/-
  Walks of package vectors.
-/
import Derived.Test.YtdckoaljcklmhaaGreatDoorProg
import Derived.Test.YtdckoaljcklmhaaGreatDoorKit
import Derived.Test.YtdckoaljcklmhaaGreatDoorGrD
import Derived.BigQuiet
import Derived.Deep.QuietTactic
import Derived.Deep.DeepMust
import Derived.Test.YtdckoaljcklmhaaGreatDoorMark
import Derived.WalkMore
namespace Go.Proofs.YtdckoaljcklmhaaGreatDoor
open Go.RowKit
set_option linter.unusedVariables false

theorem info_int : (Tryz.prog.info? 3).map (fun i => (i.zero, i.size, i.bytes)) = some (some (.int .i64 0), 1, 8) := by kernel_rfl

end Go.Proofs.YtdckoaljcklmhaaGreatDoor


namespace Go.Proofs.YtdckoaljcklmhaaGreatDoor
open Go.RowKit
set_option linter.unusedVariables false

end Go.Proofs.YtdckoaljcklmhaaGreatDoor


namespace Go.Proofs.YtdckoaljcklmhaaGreatDoor
open Go.RowKit
set_option linter.unusedVariables false
end Go.Proofs.YtdckoaljcklmhaaGreatDoor


namespace Go.Proofs.YtdckoaljcklmhaaGreatDoor
open Go.RowKit
set_option linter.unusedVariables false
end Go.Proofs.YtdckoaljcklmhaaGreatDoor


namespace Go.Proofs.YtdckoaljcklmhaaGreatDoor
open Go.RowKit
set_option linter.unusedVariables false

/-- What allMayBe says. -/
theorem every_any (A : Option Addr) (n c : Nat) (zs : List Int) (w : World) (hr : Rd w A n (ci64 zs)) (hn : n ≤ 100) :
    Calls Tryz.prog 94 #[.slice A n c] w fun e w' => e = .returned (.bool (decide (∀ z ∈ zs, 0 ≤ z ∧ z ≤ 1000000))) ∧ w = w' := by
  have hl : zs.length = n := by have h := hr.len; rw [ci64_len] at h; exact h
  have HL := Lib.hid hl
  clear hl
  go_enter Tryz.func94, Tryz.ntmps94
  go_wp2
  go_step3
  go_wp2
  go_step3
  go_wp2
  go_loop [3, 8] (fun v i => ∃ j : Nat, j ≤ n ∧ i = .int .i64 j ∧ v = .bool true ∧ ∀ z ∈ zs.take j, 0 ≤ z ∧ z ≤ 1000000) (fun _ i => n - (intOf i).toNat)
  case atStart => exact ⟨0, Nat.zero_le _, rfl, rfl, fun z hz => by simp at hz⟩
  case round =>
    obtain ⟨j, hj, rfl, rfl, hok⟩ := hrel
    have HOK := Lib.hid hok
    clear hok
    by_cases hlt : j < n
    · have hjl : j < zs.length := by rw [HL.out]; exact hlt
      obtain ⟨b, o, rfl, _, u, hu, hc⟩ := hr.get hlt
      rw [ci64_get _ _ hjl] at hu
      cases hu
      unfold iV at hc
      have hmem := List.getElem_mem hjl
      have hT := List.take_succ_eq_append_getElem hjl
      by_cases hz : 0 ≤ zs[j] ∧ zs[j] ≤ 1000000
      · have HN : Hid (∀ z ∈ zs.take (j + 1), 0 ≤ z ∧ z ≤ 1000000) := Lib.hid (by
          rw [hT]
          intro z hz'
          rcases List.mem_append.1 hz' with h | h
          · exact HOK.out z h
          · rw [List.mem_singleton.1 h]; exact hz)
        generalize zs[j] = x at hc hz
        have t1 : decide (x < 0) = false := by simp; omega
        have t2 : decide (1000000 < x) = false := by simp; omega
        clear hmem hT hz
        go_wp2
        go_round
        case rel => exact ⟨j + 1, by omega, by go_num, rfl, HN.out⟩
        case measure => simp [intOf]; omega
      · have hfin : decide (∀ z ∈ zs, 0 ≤ z ∧ z ≤ 1000000) = false := by
          rw [decide_eq_false_iff_not]
          intro h
          exact hz (h _ hmem)
        have HF := Lib.hid hfin
        generalize zs[j] = x at hc hz
        clear hmem hT hfin
        by_cases hz0 : x < 0
        · go_wp2
          (first | go_ret | (rw [Exit.noGoto_ret]; go_ret))
          exact ⟨ret_bool HF.out.symm, rfl⟩
        · have t1 : decide (x < 0) = false := by simp; omega
          have t2 : decide (1000000 < x) = true := by simp; omega
          go_wp2
          (first | go_ret | (rw [Exit.noGoto_ret]; go_ret))
          exact ⟨ret_bool HF.out.symm, rfl⟩
    · obtain rfl : j = n := by omega
      have hfin : decide (∀ z ∈ zs, 0 ≤ z ∧ z ≤ 1000000) = true := by
        rw [decide_eq_true_eq]
        have h := HOK.out
        rw [List.take_of_length_le (by rw [HL.out]; exact Nat.le_refl _)] at h
        exact h
      have HF := Lib.hid hfin
      clear hfin
      go_wp2
      (first | go_ret | (rw [Exit.noGoto_ret]; go_ret))
      exact ⟨ret_bool HF.out.symm, rfl⟩

/-- Whether so many items may be. -/
theorem sold_any (items : Int) (β : Bool) (hb : decide (1 ≤ items ∧ items ≤ 8) = β) (w : World) :
    Calls Tryz.prog 93 #[.int .i64 items] w fun e w' => e = .returned (.bool β) ∧ w = w' := by
  subst hb
  by_cases h1 : 1 ≤ items
  · by_cases h2 : items ≤ 8
    · have e1 : decide (1 ≤ items ∧ items ≤ 8) = true := decide_eq_true ⟨h1, h2⟩
      rw [e1]
      clear e1
      go_enter Tryz.func93, Tryz.ntmps93
      go_wp2
      go_ret
      exact ⟨rfl, rfl⟩
    · have e1 : decide (1 ≤ items ∧ items ≤ 8) = false := decide_eq_false fun h => h2 h.2
      rw [e1]
      clear e1
      go_enter Tryz.func93, Tryz.ntmps93
      go_wp2
      go_ret
      exact ⟨rfl, rfl⟩
  · have e1 : decide (1 ≤ items ∧ items ≤ 8) = false := decide_eq_false fun h => h1 h.1
    rw [e1]
    clear e1
    go_enter Tryz.func93, Tryz.ntmps93
    go_wp2
    go_ret
    exact ⟨rfl, rfl⟩

set_option maxRecDepth 100000 in
set_option maxHeartbeats 1000000 in
theorem check_any (A : Option Addr) (n c : Nat) (zs : List Int) (items : Int) (w : World) (hr : Rd w A n (ci64 zs)) :
    Calls Tryz.prog 61 #[.slice A n c, .int .i64 items] w fun e w' => e = .returned (.bool (mayB zs items)) ∧ Below w.heap.size w w' := by
  have hl : zs.length = n := by have h := hr.len; rw [ci64_len] at h; exact h
  by_cases h1 : 1 ≤ items ∧ items ≤ 8
  · have hs : decide (1 ≤ items ∧ items ≤ 8) = true := decide_eq_true h1
    by_cases h3 : (n : Int) = items
    · subst h3
      have e1 : mayB zs n = decide (∀ z ∈ zs, 0 ≤ z ∧ z ≤ 1000000) := by
        unfold mayB
        rw [decide_eq_decide]
        exact ⟨fun h => h.2.2.2, fun h => ⟨h1.1, h1.2, by rw [hl], h⟩⟩
      rw [e1]
      clear e1 hl
      go_enter Tryz.func61, Tryz.ntmps61
      go_wp2_with fail
      refine (sold_any n true hs w).mono ?_
      rintro e w1 ⟨rfl, rfl⟩
      go_wp2_with fail
      refine (every_any A n c zs w hr (by omega)).mono ?_
      rintro e w1 ⟨rfl, rfl⟩
      obtain ⟨β, hβ⟩ : ∃ β, decide (∀ z ∈ zs, 0 ≤ z ∧ z ≤ 1000000) = β := ⟨_, rfl⟩
      have HB := Lib.hid hβ
      rw [hβ]
      clear hβ
      go_wp2
      go_ret
      exact ⟨ret_bool HB.out.symm, Below.refl _ _⟩
    · have e1 := mayB_out (bid := zs) (items := items) (.inr (.inr (by rw [hl]; exact h3)))
      rw [e1]
      have t3 : ((n : Int) == items) = false := by rw [beq_eq_false_iff_ne]; exact h3
      clear e1 hl hr
      go_enter Tryz.func61, Tryz.ntmps61
      go_wp2_with fail
      refine (sold_any items true hs w).mono ?_
      rintro e w1 ⟨rfl, rfl⟩
      go_wp2
      go_ret
      exact ⟨rfl, Below.refl _ _⟩
  · have e1 := mayB_out (bid := zs) (items := items) (by omega)
    have hs : decide (1 ≤ items ∧ items ≤ 8) = false := decide_eq_false h1
    rw [e1]
    clear e1 hl hr
    go_enter Tryz.func61, Tryz.ntmps61
    go_wp2_with fail
    refine (sold_any items false hs w).mono ?_
    rintro e w1 ⟨rfl, rfl⟩
    go_wp2
    go_ret
    exact ⟨rfl, Below.refl _ _⟩

theorem check_of (A : Option Addr) (n c : Nat) (zs : List Int) (items : Int) (w : World) (hr : Rd w A n (ci64 zs)) (β : Bool) (hb : mayB zs items = β) :
    Calls Tryz.prog 61 #[.slice A n c, .int .i64 items] w fun e w' => e = .returned (.bool β) ∧ Below w.heap.size w w' := by
  subst hb
  exact check_any A n c zs items w hr
end Go.Proofs.YtdckoaljcklmhaaGreatDoor

