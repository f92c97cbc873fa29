/-
  Walks of the document's answers of layer 4: Check, Put, Get.
-/
import Derived.Test.YtdckoaljcklmhaaGreatDoorProg
import Derived.Test.YtdckoaljcklmhaaGreatDoorKit
import Derived.Test.YtdckoaljcklmhaaGreatDoorMark
import Derived.Test.YtdckoaljcklmhaaGreatDoorRef01p
import Derived.BigQuiet
import Derived.WalkMore
import Derived.Deep.QuietTactic
import Derived.Deep.DeepMust
namespace Go.Proofs.YtdckoaljcklmhaaGreatDoor
open Go.RowKit
set_option linter.unusedVariables false

set_option maxRecDepth 100000 in
set_option maxHeartbeats 1000000 in
theorem rcheck_any (A : Option Addr) (n c : Nat) (zs : List Int) (items : Int) (w : World) (hr : Rd w A n (ci64 zs)) :
    Calls Tryz.prog 67 #[.slice A n c, .int .i64 items] w fun e w' => e = .returned (.bool (mayB zs items)) ∧ Below w.heap.size w w' := by
  have hl : zs.length = n := by have h := hr.len; rw [ci64_len] at h; exact h
  by_cases h1 : 1 ≤ items
  · by_cases h2 : items ≤ 8
    · by_cases h3 : (n : Int) = items
      · subst h3
        have t1 : decide ((n : Int) < 1) = false := by simp; omega
        have t2 : decide (8 < (n : Int)) = false := by simp; omega
        have t2' : decide (8 < n) = false := by simp; omega
        have HL := Lib.hid hl
        clear hl
        go_enter Tryz.func67, Tryz.ntmps67
        go_wp2
        go_loopw [5] (fun i wr => ∃ j : Nat, j ≤ n ∧ i = .int .i64 j ∧ (∀ z ∈ zs.take j, 0 ≤ z ∧ z ≤ 1000000) ∧ ∃ q, wr = w.drewN q) (fun i _ => n - (intOf i).toNat)
        case atStart => exact ⟨0, Nat.zero_le _, rfl, fun z hz => by simp at hz, 0, rfl⟩
        case round =>
          obtain ⟨j, hj, rfl, hok, q, rfl⟩ := hrel
          have HOK := Lib.hid hok
          clear hok
          by_cases hlt : j < n
          · have hjl : j < zs.length := by rw [HL.out]; exact hlt
            obtain ⟨b, o, rfl, _, u, hu, hc⟩ := hr.get hlt
            rw [ci64_get _ _ hjl] at hu
            cases hu
            unfold iV at hc
            have hmem := List.getElem_mem hjl
            have hT := List.take_succ_eq_append_getElem hjl
            by_cases hz : 0 ≤ zs[j] ∧ zs[j] ≤ 1000000
            · have HN : Hid (∀ z ∈ zs.take (j + 1), 0 ≤ z ∧ z ≤ 1000000) := Lib.hid (by
                rw [hT]
                intro z hz'
                rcases List.mem_append.1 hz' with h | h
                · exact HOK.out z h
                · rw [List.mem_singleton.1 h]; exact hz)
              generalize zs[j] = x at hc hz
              have u1 : decide (x < 0) = false := by simp; omega
              have u2 : decide (1000000 < x) = false := by simp; omega
              clear hmem hT hz
              go_wp2
              first
                | (go_roundw
                   case rel => exact ⟨j + 1, by omega, by go_num, HN.out, _, rfl⟩
                   case measure => simp [intOf]; omega)
                | (go_quiet (fail)
                   go_wp2
                   go_roundw
                   case rel => exact ⟨j + 1, by omega, by go_num, HN.out, _, rfl⟩
                   case measure => simp [intOf]; omega)
            · have HF := Lib.hid (mayB_bad (bid := zs) (items := (n : Int)) hmem (by omega))
              generalize zs[j] = x at hc hz
              clear hmem hT
              by_cases hz0 : x < 0
              · have u1 : decide (x < 0) = true := by simpa using hz0
                go_wp2
                first
                  | (go_ret
                     exact ⟨ret_bool HF.out.symm, belowN (Below.refl _ _) _⟩)
                  | (go_quiet (fail)
                     go_wp2
                     go_ret
                     exact ⟨ret_bool HF.out.symm, belowN (Below.refl _ _) _⟩)
              · have u1 : decide (x < 0) = false := by simp; omega
                have u2 : decide (1000000 < x) = true := by simp; omega
                go_wp2
                first
                  | (go_ret
                     exact ⟨ret_bool HF.out.symm, belowN (Below.refl _ _) _⟩)
                  | (go_quiet (fail)
                     go_wp2
                     go_ret
                     exact ⟨ret_bool HF.out.symm, belowN (Below.refl _ _) _⟩)
          · obtain rfl : j = n := by omega
            have hall := HOK.out
            rw [List.take_of_length_le (by rw [HL.out]; exact Nat.le_refl _)] at hall
            have HF := Lib.hid (mayB_in (bid := zs) h1 h2 (by rw [HL.out]) hall)
            clear hall
            go_wp2
            go_ret
            exact ⟨ret_bool HF.out.symm, belowN (Below.refl _ _) _⟩
      · have e1 := mayB_out (bid := zs) (items := items) (.inr (.inr (by rw [hl]; exact h3)))
        rw [e1]
        have t1 : decide (items < 1) = false := by simp; omega
        have t2 : decide (8 < items) = false := by simp; omega
        have t3 : ((n : Int) != items) = true := by rw [bne_iff_ne]; exact h3
        clear e1 hl hr
        go_enter Tryz.func67, Tryz.ntmps67
        go_wp2
        go_ret
        exact ⟨rfl, Below.refl _ _⟩
    · have e1 := mayB_out (bid := zs) (items := items) (.inr (.inl (by omega)))
      rw [e1]
      have t1 : decide (items < 1) = false := by simp; omega
      have t2 : decide (8 < items) = true := by simp; omega
      clear e1 hl hr
      go_enter Tryz.func67, Tryz.ntmps67
      go_wp2
      go_ret
      exact ⟨rfl, Below.refl _ _⟩
  · have e1 := mayB_out (bid := zs) (items := items) (.inl (by omega))
    rw [e1]
    have t1 : decide (items < 1) = true := by simp; omega
    clear e1 hl hr
    go_enter Tryz.func67, Tryz.ntmps67
    go_wp2
    go_ret
    exact ⟨rfl, Below.refl _ _⟩

theorem rcheck_of (A : Option Addr) (n c : Nat) (zs : List Int) (items : Int) (w : World) (hr : Rd w A n (ci64 zs)) (β : Bool) (hb : mayB zs items = β) :
    Calls Tryz.prog 67 #[.slice A n c, .int .i64 items] w fun e w' => e = .returned (.bool β) ∧ Below w.heap.size w w' := by
  subst hb
  exact rcheck_any A n c zs items w hr
end Go.Proofs.YtdckoaljcklmhaaGreatDoor

