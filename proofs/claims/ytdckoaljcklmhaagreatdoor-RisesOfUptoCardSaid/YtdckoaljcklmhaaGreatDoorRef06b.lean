/-
  Walks of the document: Turned.
-/
import Derived.Test.YtdckoaljcklmhaaGreatDoorGrO
import Derived.Test.YtdckoaljcklmhaaGreatDoorReg2
namespace Go.Proofs.YtdckoaljcklmhaaGreatDoor
open Go.RowKit
set_option linter.unusedVariables false

set_option maxRecDepth 100000 in
set_option maxHeartbeats 400000 in
theorem rhas_any (A : Option Addr) (n c : Nat) (zs : List Int) (k : Int) (w : World) (hr : Rd w A n (ci64 zs)) (hn : n ≤ maxLen) :
    Calls Tryz.prog 72 #[.slice A n c, .int .i64 k] w fun e w' => e = .returned (.bool (decide (k ∈ zs))) ∧ w = w' := by
  have hl : zs.length = n := by have h := hr.len; rw [ci64_len] at h; exact h
  have HL := Lib.hid hl
  unfold maxLen at hn
  clear hl
  go_enter Tryz.func72, Tryz.ntmps72
  go_wp2_with fail
  go_loop [5] (fun i => ∃ j : Nat, j ≤ n ∧ i = .int .i64 j ∧ Hid (k ∉ zs.take j)) (fun i => n - (intOf i).toNat)
  case atStart => exact ⟨0, Nat.zero_le _, rfl, Lib.hid (by simp)⟩
  case round =>
    obtain ⟨j, hj, rfl, hno⟩ := hrel
    by_cases hlt : j < n
    · obtain ⟨p, q, rfl, hp, u0, hu0, hc0⟩ := hr.get hlt
      have hjl : j < zs.length := by rw [HL.out]; exact hlt
      rw [ci64_get _ _ hjl] at hu0
      obtain rfl : iV zs[j] = u0 := Option.some.inj hu0
      unfold iV at hc0
      have hmem : zs[j] ∈ zs := List.getElem_mem hjl
      have htk : zs.take (j + 1) = zs.take j ++ [zs[j]] := List.take_succ_eq_append_getElem hjl
      generalize zs[j] = z at hc0 hmem htk
      by_cases hz : z = k
      · have hz1 : (z == k) = true := by rw [hz]; simp
        have HM := Lib.hid (show decide (k ∈ zs) = true from decide_eq_true (hz ▸ hmem))
        clear hu0 hz htk hmem
        go_wp2
        go_ret
        exact ⟨ret_bool HM.out.symm, rfl⟩
      · have hz1 : (z == k) = false := by rw [beq_eq_false_iff_ne]; exact hz
        have HN := Lib.hid (show k ∉ zs.take (j + 1) by
          rw [htk]
          intro hm
          rcases List.mem_append.1 hm with hm | hm
          · exact hno.out hm
          · exact hz (List.mem_singleton.1 hm).symm)
        clear hu0 hz htk hmem
        go_wp2
        go_round
        case rel => exact ⟨j + 1, by omega, by go_num, HN⟩
        case measure => simp [intOf]; omega
    · obtain rfl : j = n := by omega
      have HM := Lib.hid (show decide (k ∈ zs) = false from decide_eq_false (by
        have h := hno.out
        rwa [List.take_of_length_le (by rw [HL.out]; exact Nat.le_refl _)] at h))
      go_wp2
      go_ret
      exact ⟨ret_bool HM.out.symm, rfl⟩

set_option maxRecDepth 100000 in
set_option maxHeartbeats 1000000 in
theorem rrises_any (A : Option Addr) (n c : Nat) (zs : List Int) (k : Int) (w : World) (hr : Rd w A n (ci64 zs)) (hn : n ≤ maxLen) :
    Calls Tryz.prog 71 #[.slice A n c, .int .i64 k] w fun e w' => e = .returned (.bool (riseB zs k)) ∧ Below w.heap.size w w' := by
  have hl : zs.length = n := by have h := hr.len; rw [ci64_len] at h; exact h
  have HL := Lib.hid hl
  unfold maxLen at hn
  clear hl
  go_enter Tryz.func71, Tryz.ntmps71
  go_wp2_with fail
  go_loopw [5] (fun i wr => ∃ j : Nat, j ≤ n ∧ i = .int .i64 j ∧ Hid (Rises k (zs.take j)) ∧ Below w.heap.size w wr) (fun i _ => n - (intOf i).toNat)
  case atStart => exact ⟨0, Nat.zero_le _, rfl, Lib.hid (by rw [List.take_zero]; exact rises_nil k), Below.refl _ _⟩
  case round =>
    obtain ⟨j, hj, rfl, hno, hB⟩ := hrel
    by_cases hlt : j < n
    · obtain ⟨p, q, rfl, hp, u0, hu0, hc0⟩ := hr.get hlt
      have hjl : j < zs.length := by rw [HL.out]; exact hlt
      rw [ci64_get _ _ hjl] at hu0
      obtain rfl : iV zs[j] = u0 := Option.some.inj hu0
      unfold iV at hc0
      have hcw : wr.cell? ⟨p, q + j, none⟩ = some (.int .i64 zs[j]) := (hB.cell (p := ⟨p, q + j, none⟩) hp).trans hc0
      have hi1 : (j : Int) < n := by omega
      have hi0 : (0 : Int) ≤ j := by omega
      obtain ⟨z, hz⟩ : ∃ z, zs[j] = z := ⟨_, rfl⟩
      rw [hz] at hcw
      have HZ := Lib.hid hz
      clear hu0 hc0 hz
      by_cases h1 : z < 0
      · have g1 : decide (z < 0) = true := decide_eq_true h1
        have HB := Lib.hid (show riseB zs k = false from rise_bad hjl (.inl (by rw [HZ.out]; exact h1)))
        clear HZ h1 hjl
        go_wp2_with fail
        refine wp_region_ord (S := fun w' => w'.cell? ⟨p, q + j, none⟩ = some (.int .i64 z)) [(0, true), (1, true), (2, true), (3, true), (4, true), (5, true), (6, true), (7, true), (8, true), (9, true), (10, true), (11, true), (12, true), (13, true), (14, true), (15, true), (16, true), (17, true), (18, true), (19, true), (20, true), (21, true), (22, true), (23, true), (24, true), (25, true), (26, true), (27, true), (28, true)] default (by kernel_rfl) (by kernel_rfl) (by kernel_rfl) hcw ?_
        simp only [getOrd, nth]
        repeat (first | (refine ordS (by rfl) ?_; simp only [Act.put, List.setIfInBounds_toArray, List.set_cons_zero, List.set_cons_succ]) | (refine ordN (by rfl) ?_; simp only [Act.put, List.setIfInBounds_toArray, List.set_cons_zero, List.set_cons_succ]) | (refine ordQ (v := ?_) (by rfl) (fun _ hSw => ?_) ?_; rotate_left; (focus ((have hS1 := hSw); clear hSw; go_simp; (first | done | with_reducible rfl))); simp only [Act.put, List.setIfInBounds_toArray, List.set_cons_zero, List.set_cons_succ]))
        refine ordE ?_
        have hB2 := hB.drew
        go_wp2
        go_ret
        exact ⟨ret_bool HB.out.symm, hB2⟩
      · have g1 : decide (z < 0) = false := decide_eq_false h1
        by_cases h2 : k ≤ z
        · have g2 : decide (k ≤ z) = true := decide_eq_true h2
          have HB := Lib.hid (show riseB zs k = false from rise_bad hjl (.inr (.inl (by rw [HZ.out]; exact h2))))
          clear HZ h1 h2 hjl
          go_wp2_with fail
          refine wp_region_ord (S := fun w' => w'.cell? ⟨p, q + j, none⟩ = some (.int .i64 z)) [(0, true), (1, true), (2, true), (3, true), (4, true), (5, true), (6, true), (7, true), (8, true), (9, true), (10, true), (11, true), (12, true), (13, true), (14, true), (15, true), (16, true), (17, true), (18, true), (19, true), (20, true), (21, true), (22, true), (23, true), (24, true), (25, true), (26, true), (27, true), (28, true)] default (by kernel_rfl) (by kernel_rfl) (by kernel_rfl) hcw ?_
          simp only [getOrd, nth]
          repeat (first | (refine ordS (by rfl) ?_; simp only [Act.put, List.setIfInBounds_toArray, List.set_cons_zero, List.set_cons_succ]) | (refine ordN (by rfl) ?_; simp only [Act.put, List.setIfInBounds_toArray, List.set_cons_zero, List.set_cons_succ]) | (refine ordQ (v := ?_) (by rfl) (fun _ hSw => ?_) ?_; rotate_left; (focus ((have hS1 := hSw); clear hSw; go_simp; (first | done | with_reducible rfl))); simp only [Act.put, List.setIfInBounds_toArray, List.set_cons_zero, List.set_cons_succ]))
          refine ordE ?_
          have hB2 := hB.drew
          go_wp2
          go_ret
          exact ⟨ret_bool HB.out.symm, hB2⟩
        · have g2 : decide (k ≤ z) = false := decide_eq_false h2
          by_cases h3 : 0 < j
          · obtain ⟨i, hij⟩ : ∃ i, j = i + 1 := ⟨j - 1, by omega⟩
            have g3 : decide (0 < (j : Int)) = true := decide_eq_true (by omega)
            have g3n : decide (0 < j) = true := decide_eq_true h3
            have s1 : IntKind.i64.wrap ((j : Int) - 1) = (i : Int) := by rw [IntKind.wrap_i64]; omega
            have HIJ := Lib.hid hij
            have hil : i < zs.length := by omega
            obtain ⟨p', q', hA', _, u1, hu1, hc1⟩ := hr.get (show i < n by omega)
            cases hA'
            rw [ci64_get _ _ hil] at hu1
            obtain rfl : iV zs[i] = u1 := Option.some.inj hu1
            unfold iV at hc1
            have hcy : wr.cell? ⟨p, q + i, none⟩ = some (.int .i64 zs[i]) := (hB.cell (p := ⟨p, q + i, none⟩) hp).trans hc1
            have hi2 : (i : Int) < n := by omega
            have hi3 : (0 : Int) ≤ i := by omega
            clear hij
            obtain ⟨y, hy⟩ : ∃ y, zs[i] = y := ⟨_, rfl⟩
            rw [hy] at hcy
            have HY := Lib.hid hy
            clear hu1 hc1 hy
            by_cases h4 : z ≤ y
            · have g4 : decide (z ≤ y) = true := decide_eq_true h4
              have HB := Lib.hid (show riseB zs k = false from rise_bad hjl (.inr (.inr ⟨h3, by have e : j - 1 = i := (by have := HIJ.out; omega); simp only [e]; rw [HZ.out, HY.out]; exact h4⟩)))
              clear HZ HY h1 h2 h3 h4 hjl hil
              go_wp2_with fail
              refine wp_region_ord (S := fun w' => w'.cell? ⟨p, q + i, none⟩ = some (.int .i64 y) ∧ w'.cell? ⟨p, q + j, none⟩ = some (.int .i64 z)) [(0, true), (1, true), (2, true), (3, true), (4, true), (5, true), (6, true), (7, true), (8, true), (9, true), (10, true), (11, true), (12, true), (13, true), (14, true), (15, true), (16, true), (17, true), (18, true), (19, true), (20, true), (21, true), (22, true), (23, true), (24, true), (25, true), (26, true), (27, true), (28, true)] default (by kernel_rfl) (by kernel_rfl) (by kernel_rfl) ⟨hcy, hcw⟩ ?_
              simp only [getOrd, nth]
              repeat (first | (refine ordS (by rfl) ?_; simp only [Act.put, List.setIfInBounds_toArray, List.set_cons_zero, List.set_cons_succ]) | (refine ordN (by rfl) ?_; simp only [Act.put, List.setIfInBounds_toArray, List.set_cons_zero, List.set_cons_succ]) | (refine ordQ (v := ?_) (by rfl) (fun _ hSw => ?_) ?_; rotate_left; (focus ((have hS1 := hSw.1); (have hS2 := hSw.2); clear hSw; go_simp; (first | done | with_reducible rfl))); simp only [Act.put, List.setIfInBounds_toArray, List.set_cons_zero, List.set_cons_succ]))
              refine ordE ?_
              have hB2 := hB.drew
              go_wp2
              go_ret
              exact ⟨ret_bool HB.out.symm, hB2⟩
            · have g4 : decide (z ≤ y) = false := decide_eq_false h4
              have HR := Lib.hid (rise_step hjl hno.out (by rw [HZ.out]; omega) (by rw [HZ.out]; omega) (fun _ => by have e : j - 1 = i := (by have := HIJ.out; omega); simp only [e]; rw [HZ.out, HY.out]; omega))
              clear HZ HY h1 h2 h3 h4 hjl hil
              go_wp2_with fail
              refine wp_region_ord (S := fun w' => w'.cell? ⟨p, q + i, none⟩ = some (.int .i64 y) ∧ w'.cell? ⟨p, q + j, none⟩ = some (.int .i64 z)) [(0, true), (1, true), (2, true), (3, true), (4, true), (5, true), (6, true), (7, true), (8, true), (9, true), (10, true), (11, true), (12, true), (13, true), (14, true), (15, true), (16, true), (17, true), (18, true), (19, true), (20, true), (21, true), (22, true), (23, true), (24, true), (25, true), (26, true), (27, true), (28, true)] default (by kernel_rfl) (by kernel_rfl) (by kernel_rfl) ⟨hcy, hcw⟩ ?_
              simp only [getOrd, nth]
              repeat (first | (refine ordS (by rfl) ?_; simp only [Act.put, List.setIfInBounds_toArray, List.set_cons_zero, List.set_cons_succ]) | (refine ordN (by rfl) ?_; simp only [Act.put, List.setIfInBounds_toArray, List.set_cons_zero, List.set_cons_succ]) | (refine ordQ (v := ?_) (by rfl) (fun _ hSw => ?_) ?_; rotate_left; (focus ((have hS1 := hSw.1); (have hS2 := hSw.2); clear hSw; go_simp; (first | done | with_reducible rfl))); simp only [Act.put, List.setIfInBounds_toArray, List.set_cons_zero, List.set_cons_succ]))
              refine ordE ?_
              have hB2 := hB.drew
              go_wp2
              go_roundw
              case rel => exact ⟨j + 1, by omega, by go_num, HR, hB2⟩
              case measure => simp [intOf]; omega
          · obtain rfl : j = 0 := by omega
            have HR := Lib.hid (rise_step hjl hno.out (by rw [HZ.out]; omega) (by rw [HZ.out]; omega) (fun h => absurd h h3))
            rw [Nat.add_zero] at hcw
            have hi4 : (0 : Int) < n := by omega
            clear HZ h1 h2 h3 hjl
            go_wp2_with fail
            refine wp_region_ord (S := fun w' => w'.cell? ⟨p, q, none⟩ = some (.int .i64 z)) [(0, true), (1, true), (2, true), (3, true), (4, true), (5, true), (6, true), (7, true), (8, true), (9, true), (10, true), (11, true), (12, true), (13, true), (14, true), (15, true), (16, true), (17, true), (18, true), (19, true), (20, true), (21, true), (22, true), (23, true), (24, true), (25, true), (26, true), (27, true), (28, true)] default (by kernel_rfl) (by kernel_rfl) (by kernel_rfl) hcw ?_
            simp only [getOrd, nth]
            repeat (first | (refine ordS (by rfl) ?_; simp only [Act.put, List.setIfInBounds_toArray, List.set_cons_zero, List.set_cons_succ]) | (refine ordN (by rfl) ?_; simp only [Act.put, List.setIfInBounds_toArray, List.set_cons_zero, List.set_cons_succ]) | (refine ordQ (v := ?_) (by rfl) (fun _ hSw => ?_) ?_; rotate_left; (focus ((have hS1 := hSw); clear hSw; go_simp; (first | done | with_reducible rfl))); simp only [Act.put, List.setIfInBounds_toArray, List.set_cons_zero, List.set_cons_succ]))
            refine ordE ?_
            have hB2 := hB.drew
            go_wp2
            go_roundw
            case rel => exact ⟨0 + 1, by omega, by go_num, HR, hB2⟩
            case measure => simp [intOf]; omega
    · obtain rfl : j = n := by omega
      have HM := Lib.hid (rise_all (Nat.le_of_eq HL.out) hno.out)
      go_wp2
      go_ret
      exact ⟨ret_bool HM.out.symm, hB⟩

set_option maxRecDepth 100000 in
set_option maxHeartbeats 1000000 in
theorem rcheckG : CheckGC 70 := by
  intro x m w h h1 h2
  have hgl := h.glen
  have hlen := h.len
  have tn := Nat.le_trans h.cap h.top
  unfold maxLen at tn
  obtain ⟨B, hB⟩ : ∃ B, checkG x.g m = B := ⟨_, rfl⟩
  have HB := Lib.hid hB
  have HG := Lib.hid hgl
  rw [hB]
  clear hB hgl
  unfold Gr.v
  go_enter Tryz.func70, Tryz.ntmps70
  by_cases q1 : m < 0
  · have g1 : decide (m < 0) = true := decide_eq_true q1
    have HF : Hid (B = false) := Lib.hid (by
      rw [← HB.out, checkG, decide_eq_false (by omega)]; rfl)
    clear q1
    go_wp2
    go_ret
    exact ⟨ret_bool HF.out.symm, Below.refl _ _⟩
  have g1 : decide (m < 0) = false := decide_eq_false q1
  by_cases q2 : 8 < m
  · have g2 : decide (8 < m) = true := decide_eq_true q2
    have HF : Hid (B = false) := Lib.hid (by
      rw [← HB.out, checkG, decide_eq_false (show ¬ m ≤ 8 by omega)]; simp)
    clear q1 q2
    go_wp2
    go_ret
    exact ⟨ret_bool HF.out.symm, Below.refl _ _⟩
  have g2 : decide (8 < m) = false := decide_eq_false q2
  by_cases q3 : 8 < x.n
  · have g3 : decide (8 < (x.n : Int)) = true := decide_eq_true (by omega)
    have g3' : decide (8 < x.n) = true := decide_eq_true q3
    have HF : Hid (B = false) := Lib.hid (by
      rw [← HB.out, checkG, decide_eq_false (show ¬ x.g.length ≤ 8 by rw [HG.out]; omega)]; simp)
    clear q1 q2 q3
    go_wp2
    go_ret
    exact ⟨ret_bool HF.out.symm, Below.refl _ _⟩
  have g3 : decide (8 < (x.n : Int)) = false := decide_eq_false (by omega)
  have g3' : decide (8 < x.n) = false := decide_eq_false q3
  have HQ := Lib.hid (And.intro q1 (And.intro q2 q3))
  clear q1 q2 q3
  go_wp2_with fail
  go_loopw [5] (fun i wr => ∃ j : Nat, j ≤ x.n ∧ i = .int .i64 j ∧ Hid (∀ l ∈ x.g.take j, Rises m l) ∧ Below w.heap.size w wr) (fun i _ => x.n - (intOf i).toNat)
  case atStart => exact ⟨0, Nat.zero_le _, rfl, Lib.hid (by simp), Below.refl _ _⟩
  case round =>
    obtain ⟨j, hj, rfl, hok, hb⟩ := hrel
    by_cases hlt : j < x.n
    · obtain ⟨p, q, u, hA, hu, hg, hp, hcl, hk⟩ := h.get hlt
      have hcell : wr.cell? ⟨p, q + j, none⟩ = some (.slice u.A u.n u.c) := (hb.cell (p := ⟨p, q + j, none⟩) hp).trans hcl
      have hjl : j < x.g.length := by rw [HG.out]; exact hlt
      have hmem : u.zs ∈ x.g := by rw [← hg]; exact getD_mem hjl
      have htk : x.g.take (j + 1) = x.g.take j ++ [u.zs] := by
        rw [List.take_succ_eq_append_getElem hjl, ← hg, List.getD_eq_getElem?_getD, List.getElem?_eq_getElem hjl]; rfl
      have HM := Lib.hid hmem
      have HT := Lib.hid htk
      obtain ⟨β, hβ⟩ : ∃ β, riseB u.zs m = β := ⟨_, rfl⟩
      have HBE := Lib.hid hβ
      have hcap := Nat.le_trans hk.cap hk.top
      have hck := rrises_any u.A u.n u.c u.zs m wr (hk.rd.below hb) hcap
      rw [hβ] at hck
      rw [hA]
      have HA := Lib.hid hA
      clear hβ hmem htk hjl hu hg hcl hk hcap
      go_wp2_with fail
      refine hck.mono ?_
      rintro e w2 ⟨rfl, hb2⟩
      have hB2 := hb.trans (hb2.mono hb.size)
      clear hck hb2 hcell
      cases β
      · have HF : Hid (B = false) := Lib.hid (by
          rw [← HB.out]
          by_cases hc : checkG x.g m = true
          · have h3 := (checkG_iff.1 hc).2.2.2 _ HM.out
            rw [riseB, decide_eq_true h3] at HBE
            exact absurd HBE.out (by simp)
          · simpa using hc)
        go_wp2
        go_ret
        exact ⟨ret_bool HF.out.symm, hB2⟩
      · have HN := Lib.hid (show ∀ l ∈ x.g.take (j + 1), Rises m l by
          rw [HT.out]
          intro l hl
          rcases List.mem_append.1 hl with hl | hl
          · exact hok.out l hl
          · rw [List.mem_singleton.1 hl]; exact of_decide_eq_true HBE.out)
        rw [← HA.out]
        go_wp2
        go_roundw
        case rel => exact ⟨j + 1, by omega, by go_num, HN, hB2⟩
        case measure => simp [intOf]; omega
    · obtain rfl : j = x.n := by omega
      have HF : Hid (B = true) := Lib.hid (by
        rw [← HB.out]
        have h3 := hok.out
        rw [List.take_of_length_le (by rw [HG.out]; exact Nat.le_refl _)] at h3
        obtain ⟨q1, q2, q3⟩ := HQ.out
        exact checkG_iff.2 ⟨by omega, by omega, by rw [HG.out]; omega, h3⟩)
      go_wp2
      go_ret
      exact ⟨ret_bool HF.out.symm, hb⟩

end Go.Proofs.YtdckoaljcklmhaaGreatDoor


namespace Go.Proofs.YtdckoaljcklmhaaGreatDoor
open Go.RowKit
set_option linter.unusedVariables false
end Go.Proofs.YtdckoaljcklmhaaGreatDoor

