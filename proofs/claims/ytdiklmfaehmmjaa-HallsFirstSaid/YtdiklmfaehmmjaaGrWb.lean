/-
  Walks of package graphs: slices.Contains.
-/
import Derived.Test.YtdiklmfaehmmjaaGrO
import Derived.Test.YtdiklmfaehmmjaaReg
namespace Go.Proofs.Ytdiklmfaehmmjaa
open Go.RowKit
set_option linter.unusedVariables false

set_option maxRecDepth 100000 in
set_option maxHeartbeats 1000000 in
theorem gindex_any (A : Option Addr) (n c : Nat) (zs : List Int) (k : Int) (w : World) (hr : Rd w A n (ci64 zs)) (hn : n ≤ maxLen) :
    Calls Try.prog 38 #[.slice A n c, .int .i64 k] w fun e w' => ∃ r : Int, e = .returned (.int .i64 r) ∧ decide (0 ≤ r) = decide (k ∈ zs) ∧ w' = w := by
  have hl : zs.length = n := by have h := hr.len; rw [ci64_len] at h; exact h
  have HL := Lib.hid hl
  unfold maxLen at hn
  clear hl
  go_enter Try.func38, Try.ntmps38
  go_wp2_with fail
  go_loopw [8] (fun i wr => ∃ j : Nat, j ≤ n ∧ i = .int .i64 j ∧ Hid (k ∉ zs.take j) ∧ wr = w) (fun i _ => n - (intOf i).toNat)
  case atStart => exact ⟨0, Nat.zero_le _, rfl, Lib.hid (by simp), rfl⟩
  case round =>
    obtain ⟨j, hj, rfl, hno, rfl⟩ := hrel
    by_cases hlt : j < n
    · obtain ⟨p, q, rfl, hp, u0, hu0, hc0⟩ := hr.get hlt
      have hjl : j < zs.length := by rw [HL.out]; exact hlt
      rw [ci64_get _ _ hjl] at hu0
      obtain rfl : iV zs[j] = u0 := Option.some.inj hu0
      unfold iV at hc0
      have hi1 : (j : Int) < n := by omega
      have hmem : zs[j] ∈ zs := List.getElem_mem hjl
      have htk : zs.take (j + 1) = zs.take j ++ [zs[j]] := List.take_succ_eq_append_getElem hjl
      generalize zs[j] = z at hc0 hmem htk
      by_cases hz : k = z
      · have hz1 : (k == z) = true := by rw [hz]; simp
        have HM := Lib.hid (show decide (0 ≤ (j : Int)) = decide (k ∈ zs) by rw [decide_eq_true (show k ∈ zs from hz ▸ hmem)]; exact decide_eq_true (by omega))
        clear hu0 hz htk hmem
        go_wp2
        go_ret
        exact ⟨_, rfl, HM.out, rfl⟩
      · have hz1 : (k == z) = false := by rw [beq_eq_false_iff_ne]; exact hz
        have HN := Lib.hid (show k ∉ zs.take (j + 1) by
          rw [htk]
          intro hm
          rcases List.mem_append.1 hm with hm | hm
          · exact hno.out hm
          · exact hz (List.mem_singleton.1 hm))
        clear hu0 hz htk hmem
        go_wp2
        go_roundw
        case rel => exact ⟨j + 1, by omega, by go_num, HN, trivial⟩
        case measure => simp [intOf]; omega
    · obtain rfl : j = n := by omega
      have HM := Lib.hid (show decide (0 ≤ (-1 : Int)) = decide (k ∈ zs) from (decide_eq_false (by omega)).trans (decide_eq_false (by
        have h := hno.out
        rwa [List.take_of_length_le (by rw [HL.out]; exact Nat.le_refl _)] at h)).symm)
      go_wp2
      go_ret
      exact ⟨_, rfl, HM.out, rfl⟩

set_option maxRecDepth 100000 in
set_option maxHeartbeats 1000000 in
theorem gcontains_any (A : Option Addr) (n c : Nat) (zs : List Int) (k : Int) (w : World) (hr : Rd w A n (ci64 zs)) (hn : n ≤ maxLen) :
    Calls Try.prog 30 #[.slice A n c, .int .i64 k] w fun e w' => e = .returned (.bool (decide (k ∈ zs))) ∧ w' = w := by
  go_enter Try.func30, Try.ntmps30
  have hck := gindex_any A n c zs k w hr hn
  go_wp2_with fail
  refine hck.mono ?_
  rintro e w2 ⟨r, rfl, hr2, rfl⟩
  have HR := Lib.hid hr2
  clear hck hr2 hr
  go_wp2
  go_ret
  exact ⟨ret_bool HR.out, rfl⟩
end Go.Proofs.Ytdiklmfaehmmjaa
