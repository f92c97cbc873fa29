/-
  Walks of package graphs: what rises, Check.
-/
import Derived.Test.YtdiklmfaehmmjaaGrO
import Derived.Test.YtdiklmfaehmmjaaReg
namespace Go.Proofs.Ytdiklmfaehmmjaa
open Go.RowKit
set_option linter.unusedVariables false

/-- The one ahead of the j-th; none: -1. -/
def lastG (zs : List Int) (j : Nat) : Int := if h : 0 < j then zs.getD (j - 1) 0 else -1
theorem lastG_succ {zs : List Int} {j : Nat} (hj : j < zs.length) : lastG zs (j + 1) = zs[j] := by
  rw [lastG, dif_pos (by omega), Nat.add_sub_cancel, List.getD_eq_getElem?_getD, List.getElem?_eq_getElem hj]; rfl
theorem lastG_zero (zs : List Int) : lastG zs 0 = -1 := rfl
theorem rise_go {k : Int} {zs : List Int} {j : Nat} (hj : j < zs.length) (h : Rises k (zs.take j)) (h1 : ¬ zs[j] ≤ lastG zs j) (h2 : ¬ k ≤ zs[j]) : Rises k (zs.take (j + 1)) := by
  by_cases h0 : 0 < j
  · have e : lastG zs j = zs[j - 1] := by
      rw [lastG, dif_pos h0, List.getD_eq_getElem?_getD, List.getElem?_eq_getElem (by omega)]; rfl
    have hm : zs[j - 1] ∈ zs.take j := by
      rw [List.mem_take_iff_getElem]
      exact ⟨j - 1, by omega, rfl⟩
    have := h.1 _ hm
    exact rise_step hj h (by omega) (by omega) fun _ => by omega
  · obtain rfl : j = 0 := by omega
    rw [lastG_zero] at h1
    exact rise_step hj h (by omega) (by omega) fun hh => absurd hh h0
theorem rise_no {k : Int} {zs : List Int} {j : Nat} (hj : j < zs.length) (h : zs[j] ≤ lastG zs j ∨ k ≤ zs[j]) : riseB zs k = false := by
  rcases h with h | h
  · by_cases h0 : 0 < j
    · have e : lastG zs j = zs[j - 1] := by
        rw [lastG, dif_pos h0, List.getD_eq_getElem?_getD, List.getElem?_eq_getElem (by omega)]; rfl
      exact rise_bad hj (.inr (.inr ⟨h0, by omega⟩))
    · obtain rfl : j = 0 := by omega
      rw [lastG_zero] at h
      exact rise_bad hj (.inl (by omega))
  · exact rise_bad hj (.inr (.inl h))

set_option maxRecDepth 100000 in
set_option maxHeartbeats 1000000 in
theorem grises_any (A : Option Addr) (n c : Nat) (zs : List Int) (k : Int) (w : World) (hr : Rd w A n (ci64 zs)) (hn : n ≤ maxLen) :
    Calls Try.prog 22 #[.slice A n c, .int .i64 k] w fun e w' => e = .returned (.bool (riseB zs k)) ∧ w' = w := by
  have hl : zs.length = n := by have h := hr.len; rw [ci64_len] at h; exact h
  have HL := Lib.hid hl
  unfold maxLen at hn
  clear hl
  go_enter Try.func22, Try.ntmps22
  go_wp2_with fail
  go_loopw [5, 10] (fun y i wr => ∃ j : Nat, j ≤ n ∧ i = .int .i64 j ∧ (∃ v : Int, y = .int .i64 v ∧ Hid (v = lastG zs j)) ∧ Hid (Rises k (zs.take j)) ∧ wr = w) (fun _ i _ => n - (intOf i).toNat)
  case atStart => exact ⟨0, Nat.zero_le _, rfl, ⟨-1, rfl, Lib.hid rfl⟩, Lib.hid (by rw [List.take_zero]; exact rises_nil k), rfl⟩
  case round =>
    obtain ⟨j, hj, rfl, ⟨v, rfl, hv⟩, hno, rfl⟩ := hrel
    by_cases hlt : j < n
    · obtain ⟨p, q, rfl, hp, u0, hu0, hc0⟩ := hr.get hlt
      have hjl : j < zs.length := by rw [HL.out]; exact hlt
      rw [ci64_get _ _ hjl] at hu0
      obtain rfl : iV zs[j] = u0 := Option.some.inj hu0
      unfold iV at hc0
      have hi1 : (j : Int) < n := by omega
      obtain ⟨z, hz⟩ : ∃ z, zs[j] = z := ⟨_, rfl⟩
      rw [hz] at hc0
      have HZ := Lib.hid hz
      clear hu0 hz
      by_cases h1 : z ≤ v
      · have g1 : decide (z ≤ v) = true := decide_eq_true h1
        have HB := Lib.hid (show riseB zs k = false from rise_no hjl (.inl (by rw [HZ.out, ← hv.out]; exact h1)))
        clear HZ h1 hjl hv
        go_wp2
        go_ret
        exact ⟨ret_bool HB.out.symm, rfl⟩
      · have g1 : decide (z ≤ v) = false := decide_eq_false h1
        by_cases h2 : k ≤ z
        · have g2 : decide (k ≤ z) = true := decide_eq_true h2
          have HB := Lib.hid (show riseB zs k = false from rise_no hjl (.inr (by rw [HZ.out]; exact h2)))
          clear HZ h1 h2 hjl hv
          go_wp2
          go_ret
          exact ⟨ret_bool HB.out.symm, rfl⟩
        · have g2 : decide (k ≤ z) = false := decide_eq_false h2
          have HR := Lib.hid (And.intro (rise_go hjl hno.out (by rw [HZ.out, ← hv.out]; exact h1) (by rw [HZ.out]; exact h2)) (show z = lastG zs (j + 1) by rw [lastG_succ hjl, HZ.out]))
          clear HZ h1 h2 hjl hv
          go_wp2
          go_roundw
          case rel => exact ⟨j + 1, by omega, by go_num, ⟨z, rfl, Lib.hid HR.out.2⟩, Lib.hid HR.out.1, trivial⟩
          case measure => simp [intOf]; omega
    · obtain rfl : j = n := by omega
      have HM := Lib.hid (rise_all (Nat.le_of_eq HL.out) hno.out)
      go_wp2
      go_ret
      exact ⟨ret_bool HM.out.symm, rfl⟩

set_option maxRecDepth 100000 in
set_option maxHeartbeats 1000000 in
theorem gcheckC : CheckGC 21 := by
  intro x m w h h1 h2
  have hgl := h.glen
  have hlen := h.len
  have tn := Nat.le_trans h.cap h.top
  unfold maxLen at tn
  obtain ⟨B, hB⟩ : ∃ B, checkG x.g m = B := ⟨_, rfl⟩
  have HB := Lib.hid hB
  have HG := Lib.hid hgl
  rw [hB]
  clear hB hgl
  unfold Gr.v
  go_enter Try.func21, Try.ntmps21
  by_cases q1 : m < 0
  · have g1 : decide (m < 0) = true := decide_eq_true q1
    have HF : Hid (B = false) := Lib.hid (by
      rw [← HB.out, checkG, decide_eq_false (by omega)]; rfl)
    clear q1
    go_wp2
    go_ret
    exact ⟨ret_bool HF.out.symm, Below.refl _ _⟩
  have g1 : decide (m < 0) = false := decide_eq_false q1
  by_cases q2 : 8 < m
  · have g2 : decide (8 < m) = true := decide_eq_true q2
    have HF : Hid (B = false) := Lib.hid (by
      rw [← HB.out, checkG, decide_eq_false (show ¬ m ≤ 8 by omega)]; simp)
    clear q1 q2
    go_wp2
    go_ret
    exact ⟨ret_bool HF.out.symm, Below.refl _ _⟩
  have g2 : decide (8 < m) = false := decide_eq_false q2
  by_cases q3 : 8 < x.n
  · have g3 : decide (8 < (x.n : Int)) = true := decide_eq_true (by omega)
    have g3' : decide (8 < x.n) = true := decide_eq_true q3
    have HF : Hid (B = false) := Lib.hid (by
      rw [← HB.out, checkG, decide_eq_false (show ¬ x.g.length ≤ 8 by rw [HG.out]; omega)]; simp)
    clear q1 q2 q3
    go_wp2
    go_ret
    exact ⟨ret_bool HF.out.symm, Below.refl _ _⟩
  have g3 : decide (8 < (x.n : Int)) = false := decide_eq_false (by omega)
  have g3' : decide (8 < x.n) = false := decide_eq_false q3
  have HQ := Lib.hid (And.intro q1 (And.intro q2 q3))
  clear q1 q2 q3
  go_wp2_with fail
  go_loopw [20] (fun i wr => ∃ j : Nat, j ≤ x.n ∧ i = .int .i64 j ∧ Hid (∀ l ∈ x.g.take j, Rises m l) ∧ Below w.heap.size w wr) (fun i _ => x.n - (intOf i).toNat)
  case atStart => exact ⟨0, Nat.zero_le _, rfl, Lib.hid (by simp), Below.refl _ _⟩
  case round =>
    obtain ⟨j, hj, rfl, hok, hb⟩ := hrel
    by_cases hlt : j < x.n
    · obtain ⟨p, q, u, hA, hu, hg, hp, hcl, hk⟩ := h.get hlt
      have hcell : wr.cell? ⟨p, q + j, none⟩ = some (.slice u.A u.n u.c) := (hb.cell (p := ⟨p, q + j, none⟩) hp).trans hcl
      have hjl : j < x.g.length := by rw [HG.out]; exact hlt
      have hmem : u.zs ∈ x.g := by rw [← hg]; exact getD_mem hjl
      have htk : x.g.take (j + 1) = x.g.take j ++ [u.zs] := by
        rw [List.take_succ_eq_append_getElem hjl, ← hg, List.getD_eq_getElem?_getD, List.getElem?_eq_getElem hjl]; rfl
      have HM := Lib.hid hmem
      have HT := Lib.hid htk
      obtain ⟨β, hβ⟩ : ∃ β, riseB u.zs m = β := ⟨_, rfl⟩
      have HBE := Lib.hid hβ
      have hcap := Nat.le_trans hk.cap hk.top
      have hck := grises_any u.A u.n u.c u.zs m wr (hk.rd.below hb) hcap
      rw [hβ] at hck
      rw [hA]
      have HA := Lib.hid hA
      clear hβ hmem htk hjl hu hg hcl hk hcap
      go_wp2_with fail
      refine hck.mono ?_
      rintro e w2 ⟨rfl, rfl⟩
      have hB2 := hb
      clear hck hcell
      cases β
      · have HF : Hid (B = false) := Lib.hid (by
          rw [← HB.out]
          by_cases hc : checkG x.g m = true
          · have h3 := (checkG_iff.1 hc).2.2.2 _ HM.out
            rw [riseB, decide_eq_true h3] at HBE
            exact absurd HBE.out (by simp)
          · simpa using hc)
        go_wp2
        go_ret
        exact ⟨ret_bool HF.out.symm, hB2⟩
      · have HN := Lib.hid (show ∀ l ∈ x.g.take (j + 1), Rises m l by
          rw [HT.out]
          intro l hl
          rcases List.mem_append.1 hl with hl | hl
          · exact hok.out l hl
          · rw [List.mem_singleton.1 hl]; exact of_decide_eq_true HBE.out)
        rw [← HA.out]
        go_wp2
        go_roundw
        case rel => exact ⟨j + 1, by omega, by go_num, HN, hB2⟩
        case measure => simp [intOf]; omega
    · obtain rfl : j = x.n := by omega
      have HF : Hid (B = true) := Lib.hid (by
        rw [← HB.out]
        have h3 := hok.out
        rw [List.take_of_length_le (by rw [HG.out]; exact Nat.le_refl _)] at h3
        obtain ⟨q1, q2, q3⟩ := HQ.out
        exact checkG_iff.2 ⟨by omega, by omega, by rw [HG.out]; omega, h3⟩)
      go_wp2
      go_ret
      exact ⟨ret_bool HF.out.symm, hb⟩
end Go.Proofs.Ytdiklmfaehmmjaa
