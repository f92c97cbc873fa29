/-
  Proved: salesroomlaw04.VectorsCheck answers true, for any bid and any number of items, in whatever memory. No conditions.
-/
import Derived.Test.YtbcfncdmkgoidaaRows
import Derived.Test.YtbcfncdmkgoidaaAlive4
import Derived.Test.YtbcfncdmkgoidaaLift
import Derived.Test.YtbcfncdmkgoidaaReg
namespace Go.Proofs.Ytbcfncdmkgoidaa.vectorsCheck
open Go.ChangeShapes Go.WideShapes Go.ChangeAt Go.RowKit
set_option linter.unusedVariables false

set_option maxRecDepth 100000 in
set_option maxHeartbeats 1000000 in
theorem walk_out (A : Option Addr) (n c : Nat) (z : Int) (w : World) (hc2 : c ≤ maxLen) (hc : n ≤ c) (hn : 600 < n) :
    Calls Try.prog 5 #[.slice A n c, .int .i64 z] w fun e w' => e = .returned (.bool true) ∧ Below w.heap.size w w' := by
  unfold maxLen at hc2
  have h1 : decide (600 < n) = true := by simpa using hn
  go_enter Try.func5, Try.ntmps5
  go_wp2_with fail
  refine (alive4_any w).mono ?_
  rintro e w2 ⟨rfl, b2⟩
  go_wp2_with fail
  refine (alive4_any w2).mono ?_
  rintro e w3 ⟨rfl, b3⟩
  go_wp2
  go_ret
  exact ⟨rfl, b2.trans (b3.mono b2.size)⟩

/-- Whether all numbers may be. -/
def okAll (zs : List Int) : Bool := decide (∀ z ∈ zs, 0 ≤ z ∧ z ≤ 1000000)
theorem okAll_snoc (l : List Int) (x : Int) : okAll (l ++ [x]) = (okAll l && decide (0 ≤ x ∧ x ≤ 1000000)) := by
  rw [Bool.eq_iff_iff]
  simp only [okAll, Bool.and_eq_true, decide_eq_true_eq]
  constructor
  · intro h
    exact ⟨fun z hz => h z (List.mem_append_left _ hz), h x (List.mem_append_right _ (List.mem_singleton.2 rfl))⟩
  · rintro ⟨h1, h2⟩ z hz
    rcases List.mem_append.1 hz with h | h
    · exact h1 z h
    · rw [List.mem_singleton.1 h]; exact h2
def b0 (n : Nat) (z : Int) : Bool := decide ((n : Int) = z ∧ 1 ≤ z ∧ z ≤ 8)
theorem all_may (zs : List Int) (n : Nat) (hn : zs.length = n) (z : Int) : (b0 n z && okAll zs) = mayB zs z := by
  rw [Bool.eq_iff_iff]
  simp only [b0, okAll, mayB, Bool.and_eq_true, decide_eq_true_eq]
  subst hn
  constructor
  · rintro ⟨⟨h1, h2, h3⟩, h4⟩
    exact ⟨h2, h3, h1, h4⟩
  · rintro ⟨h1, h2, h3, h4⟩
    exact ⟨⟨h3, h1, h2⟩, h4⟩

set_option maxRecDepth 100000 in
set_option maxHeartbeats 1000000 in
theorem walk_in (A : Option Addr) (n c : Nat) (zs : List Int) (z : Int) (w : World) (hr : Rd w A n (ci64 zs)) (hc2 : c ≤ maxLen) (hc : n ≤ c) (hn : n ≤ 600) :
    Calls Try.prog 5 #[.slice A n c, .int .i64 z] w fun e w' => e = .returned (.bool true) ∧ Below w.heap.size w w' := by
  have hl : zs.length = n := by have h := hr.len; rw [ci64_len] at h; exact h
  have hcm := hc2
  unfold maxLen at hc2
  have h1 : decide (600 < n) = false := by simp; omega
  have HLEN := Lib.hid hl
  clear hl
  obtain ⟨β, hβ⟩ : ∃ β, b0 n z = β := ⟨_, rfl⟩
  have HBE := Lib.hid hβ
  have hparts : (((n : Int) == z) = false ∧ β = false) ∨ ((n : Int) == z) = true ∧ (decide (1 ≤ z) = false ∧ β = false ∨ decide (1 ≤ z) = true ∧ (decide (z ≤ 8) = false ∧ β = false ∨ decide (z ≤ 8) = true ∧ β = true)) := by
    rw [← hβ]
    unfold b0
    by_cases k1 : (n : Int) = z
    · by_cases k2 : 1 ≤ z
      · by_cases k3 : z ≤ 8
        · exact .inr ⟨by rw [beq_iff_eq]; exact k1, .inr ⟨decide_eq_true k2, .inr ⟨decide_eq_true k3, decide_eq_true ⟨k1, k2, k3⟩⟩⟩⟩
        · exact .inr ⟨by rw [beq_iff_eq]; exact k1, .inr ⟨decide_eq_true k2, .inl ⟨decide_eq_false k3, decide_eq_false fun h => k3 h.2.2⟩⟩⟩
      · exact .inr ⟨by rw [beq_iff_eq]; exact k1, .inl ⟨decide_eq_false k2, decide_eq_false fun h => k2 h.2.1⟩⟩
    · exact .inl ⟨by rw [beq_eq_false_iff_ne]; exact k1, decide_eq_false fun h => k1 h.1⟩
  clear hβ
  go_enter Try.func5, Try.ntmps5
  go_wp2_with fail
  refine (alive4_any w).mono ?_
  rintro e w1 ⟨rfl, b1⟩
  have r1 := hr.below b1
  have s1 := b1.size
  have HB1 := Lib.hid b1
  clear hr b1
  rcases hparts with ⟨p1, rfl⟩ | ⟨p1, ⟨p2, rfl⟩ | ⟨p2, ⟨p3, rfl⟩ | ⟨p3, rfl⟩⟩⟩
  · go_wp2_with fail
    go_loopw [5, 6] (fun v i wr => ∃ j : Nat, j ≤ n ∧ i = .int .i64 j ∧ v = .bool (false && okAll (zs.take j)) ∧ Below w1.heap.size w1 wr) (fun _ i _ => n - (intOf i).toNat)
    case atStart => exact ⟨0, Nat.zero_le _, rfl, by simp [okAll], Below.refl _ _⟩
    case round =>
      obtain ⟨j, hj, rfl, rfl, hB⟩ := hrel
      obtain ⟨α, hα⟩ : ∃ α, (false && okAll (zs.take j)) = α := ⟨_, rfl⟩
      rw [hα]
      by_cases hlt : j < n
      · have hjl : j < zs.length := by rw [HLEN.out]; exact hlt
        obtain ⟨b, o, rfl, hbw0, u, hu, hc1⟩ := (r1.below hB).get hlt
        have hbw : b < wr.heap.size := hbw0
        have hrd0 := (r1.below hB).cut_at (lo := j) (hi := j + 1) (by omega) (by omega)
        rw [ci64_get _ _ hjl] at hu
        cases hu
        have hT := List.take_succ_eq_append_getElem hjl
        have hcut : ((ci64 zs).drop j).take (j + 1 - j) = ci64 [zs[j]] := by
          rw [show j + 1 - j = 1 by omega, List.drop_eq_getElem_cons (by rw [ci64_len]; exact hjl)]
          simp [ci64]
        rw [hcut, show j + 1 - j = 1 by omega] at hrd0
        unfold iV at hc1
        have hA2 : (false && okAll (zs.take (j + 1))) = (α && decide (0 ≤ zs[j] ∧ zs[j] ≤ 1000000)) := by rw [hT, okAll_snoc, ← hα]; simp
        generalize zs[j] = x at hc1 hrd0 hA2
        have HA := Lib.hid hA2
        have hne : ¬ c = j := by omega
        have hne2 : (c == j) = false := by rw [beq_eq_false_iff_ne]; omega
        have g1 : (0 : Int) ≤ (j : Int) := by omega
        have g2 : (j : Int) ≤ (j : Int) + 1 := by omega
        have g3 : (j : Int) + 1 ≤ (c : Int) := by omega
        have v1 : IntKind.i64.wrap ((j : Int) + 1) = (j : Int) + 1 := by rw [IntKind.wrap_i64]; omega
        have hrd := hrd0
        have HAL := Lib.hid hα
        clear hA2 hT hcut hrd0 hα
        cases α
        · by_cases hx0 : 0 ≤ x
          · by_cases hx1 : x ≤ 1000000
            · have HQ : mayB [x] 1 = true := mayB_in (by omega) (by omega) rfl (by intro z hz; rw [List.mem_singleton.1 hz]; omega)
              have HQ1 := Lib.hid HQ
              clear HQ
              have HD := Lib.hid (decide_eq_true (by omega) : decide (0 ≤ x ∧ x ≤ 1000000) = true)
              have u1 : decide (0 ≤ x) = true := by simp; omega
              have u2 : decide (x ≤ 1000000) = true := by simp; omega
              go_wp2_with fail
              refine wp_region_ord (S := fun w' => w'.cell? ⟨b, o + j, none⟩ = some (.int .i64 x)) [(0, true), (1, true), (2, true), (3, true), (4, true), (6, true), (7, true), (8, true), (9, true), (10, true), (5, false), (11, true), (12, true), (13, true), (14, true), (15, true), (16, true), (17, true), (18, true)] default (by kernel_rfl) (by kernel_rfl) (by kernel_rfl) hc1 ?_
              simp only [getOrd, nth]
              repeat (first | (refine ordS (by rfl) ?_; simp only [Act.put, List.setIfInBounds_toArray, List.set_cons_zero, List.set_cons_succ]) | (refine ordN (by rfl) ?_; simp only [Act.put, List.setIfInBounds_toArray, List.set_cons_zero, List.set_cons_succ]) | (refine ordQ (v := ?_) (by rfl) (fun _ hSw => ?_) ?_; rotate_left; (focus (go_simp; (first | done | with_reducible rfl))); simp only [Act.put, List.setIfInBounds_toArray, List.set_cons_zero, List.set_cons_succ]))
              refine ordD (by rfl) ?_
              intro K hK
              go_simp
              refine (check_of _ 1 _ [x] 1 _ hrd.drew true HQ1.out).mono ?_
              rintro e w3 ⟨rfl, b3⟩
              have hc3 : w3.cell? ⟨b, o + j, none⟩ = some (.int .i64 x) := by rw [b3.cell (p := ⟨b, o + j, none⟩) (by show b < (wr).heap.size; have := hB.size; omega)]; exact hc1
              have hB3 := hB.drew.trans (b3.mono (by have := hB.size; exact this))
              clear b3 hrd
              go_wp2_with fail
              refine hK _ _ hc3 ?_
              clear hK K
              try simp only [Act.put, List.setIfInBounds_toArray, List.set_cons_zero, List.set_cons_succ]
              repeat (first | (refine ordS (by rfl) ?_; simp only [Act.put, List.setIfInBounds_toArray, List.set_cons_zero, List.set_cons_succ]) | (refine ordN (by rfl) ?_; simp only [Act.put, List.setIfInBounds_toArray, List.set_cons_zero, List.set_cons_succ]) | (refine ordQ (v := ?_) (by rfl) (fun _ hSw => ?_) ?_; rotate_left; (focus (go_simp; (first | done | with_reducible rfl))); simp only [Act.put, List.setIfInBounds_toArray, List.set_cons_zero, List.set_cons_succ]))
              refine ordE ?_
              have HB3 := Lib.hid hB3
              clear hc3 hB3 hB hc1
              go_wp2
              go_roundw
              case rel => exact ⟨j + 1, by omega, by go_num, by rw [HA.out, HD.out]; rfl, HB3.out⟩
              case measure => simp [intOf]; omega
            · have HQ : mayB [x] 1 = false := mayB_bad (List.mem_singleton.2 rfl) (by omega)
              have HQ1 := Lib.hid HQ
              clear HQ
              have HD := Lib.hid (decide_eq_false (by omega) : decide (0 ≤ x ∧ x ≤ 1000000) = false)
              have u1 : decide (0 ≤ x) = true := by simp; omega
              have u2 : decide (x ≤ 1000000) = false := by simp; omega
              go_wp2_with fail
              refine wp_region_ord (S := fun w' => w'.cell? ⟨b, o + j, none⟩ = some (.int .i64 x)) [(0, true), (1, true), (2, true), (3, true), (4, true), (6, true), (7, true), (8, true), (9, true), (10, true), (5, false), (11, true), (12, true), (13, true), (14, true), (15, true), (16, true), (17, true), (18, true)] default (by kernel_rfl) (by kernel_rfl) (by kernel_rfl) hc1 ?_
              simp only [getOrd, nth]
              repeat (first | (refine ordS (by rfl) ?_; simp only [Act.put, List.setIfInBounds_toArray, List.set_cons_zero, List.set_cons_succ]) | (refine ordN (by rfl) ?_; simp only [Act.put, List.setIfInBounds_toArray, List.set_cons_zero, List.set_cons_succ]) | (refine ordQ (v := ?_) (by rfl) (fun _ hSw => ?_) ?_; rotate_left; (focus (go_simp; (first | done | with_reducible rfl))); simp only [Act.put, List.setIfInBounds_toArray, List.set_cons_zero, List.set_cons_succ]))
              refine ordD (by rfl) ?_
              intro K hK
              go_simp
              refine (check_of _ 1 _ [x] 1 _ hrd.drew false HQ1.out).mono ?_
              rintro e w3 ⟨rfl, b3⟩
              have hc3 : w3.cell? ⟨b, o + j, none⟩ = some (.int .i64 x) := by rw [b3.cell (p := ⟨b, o + j, none⟩) (by show b < (wr).heap.size; have := hB.size; omega)]; exact hc1
              have hB3 := hB.drew.trans (b3.mono (by have := hB.size; exact this))
              clear b3 hrd
              go_wp2_with fail
              refine hK _ _ hc3 ?_
              clear hK K
              try simp only [Act.put, List.setIfInBounds_toArray, List.set_cons_zero, List.set_cons_succ]
              repeat (first | (refine ordS (by rfl) ?_; simp only [Act.put, List.setIfInBounds_toArray, List.set_cons_zero, List.set_cons_succ]) | (refine ordN (by rfl) ?_; simp only [Act.put, List.setIfInBounds_toArray, List.set_cons_zero, List.set_cons_succ]) | (refine ordQ (v := ?_) (by rfl) (fun _ hSw => ?_) ?_; rotate_left; (focus (go_simp; (first | done | with_reducible rfl))); simp only [Act.put, List.setIfInBounds_toArray, List.set_cons_zero, List.set_cons_succ]))
              refine ordE ?_
              have HB3 := Lib.hid hB3
              clear hc3 hB3 hB hc1
              go_wp2
              go_roundw
              case rel => exact ⟨j + 1, by omega, by go_num, by rw [HA.out, HD.out]; rfl, HB3.out⟩
              case measure => simp [intOf]; omega
          · have HQ : mayB [x] 1 = false := mayB_bad (List.mem_singleton.2 rfl) (by omega)
            have HQ1 := Lib.hid HQ
            clear HQ
            have HD := Lib.hid (decide_eq_false (by omega) : decide (0 ≤ x ∧ x ≤ 1000000) = false)
            have u1 : decide (0 ≤ x) = false := by simp; omega
            go_wp2_with fail
            refine wp_region_ord (S := fun w' => w'.cell? ⟨b, o + j, none⟩ = some (.int .i64 x)) [(0, true), (1, true), (2, true), (3, true), (4, true), (6, true), (7, true), (8, true), (9, true), (10, true), (5, false), (11, true), (12, true), (13, true), (14, true), (15, true), (16, true), (17, true), (18, true)] default (by kernel_rfl) (by kernel_rfl) (by kernel_rfl) hc1 ?_
            simp only [getOrd, nth]
            repeat (first | (refine ordS (by rfl) ?_; simp only [Act.put, List.setIfInBounds_toArray, List.set_cons_zero, List.set_cons_succ]) | (refine ordN (by rfl) ?_; simp only [Act.put, List.setIfInBounds_toArray, List.set_cons_zero, List.set_cons_succ]) | (refine ordQ (v := ?_) (by rfl) (fun _ hSw => ?_) ?_; rotate_left; (focus (go_simp; (first | done | with_reducible rfl))); simp only [Act.put, List.setIfInBounds_toArray, List.set_cons_zero, List.set_cons_succ]))
            refine ordD (by rfl) ?_
            intro K hK
            go_simp
            refine (check_of _ 1 _ [x] 1 _ hrd.drew false HQ1.out).mono ?_
            rintro e w3 ⟨rfl, b3⟩
            have hc3 : w3.cell? ⟨b, o + j, none⟩ = some (.int .i64 x) := by rw [b3.cell (p := ⟨b, o + j, none⟩) (by show b < (wr).heap.size; have := hB.size; omega)]; exact hc1
            have hB3 := hB.drew.trans (b3.mono (by have := hB.size; exact this))
            clear b3 hrd
            go_wp2_with fail
            refine hK _ _ hc3 ?_
            clear hK K
            try simp only [Act.put, List.setIfInBounds_toArray, List.set_cons_zero, List.set_cons_succ]
            repeat (first | (refine ordS (by rfl) ?_; simp only [Act.put, List.setIfInBounds_toArray, List.set_cons_zero, List.set_cons_succ]) | (refine ordN (by rfl) ?_; simp only [Act.put, List.setIfInBounds_toArray, List.set_cons_zero, List.set_cons_succ]) | (refine ordQ (v := ?_) (by rfl) (fun _ hSw => ?_) ?_; rotate_left; (focus (go_simp; (first | done | with_reducible rfl))); simp only [Act.put, List.setIfInBounds_toArray, List.set_cons_zero, List.set_cons_succ]))
            refine ordE ?_
            have HB3 := Lib.hid hB3
            clear hc3 hB3 hB hc1
            go_wp2
            go_roundw
            case rel => exact ⟨j + 1, by omega, by go_num, by rw [HA.out, HD.out]; rfl, HB3.out⟩
            case measure => simp [intOf]; omega
        · exact absurd HAL.out (by simp)
      · obtain rfl : j = n := by omega
        obtain ⟨γ, hγ⟩ : ∃ γ, mayB zs z = γ := ⟨_, rfl⟩
        have hag : α = γ := by rw [← hα, List.take_of_length_le (by rw [HLEN.out]; exact Nat.le_refl _), ← hγ, ← all_may zs j HLEN.out, HBE.out]
        subst hag
        have HG := Lib.hid hγ
        have rz := r1.below hB
        clear hα hγ
        go_wp2_with fail
        refine (check_of A j c zs z wr rz α HG.out).mono ?_
        rintro e w4 ⟨rfl, b4⟩
        have HF := Lib.hid (HB1.out.trans ((hB.trans (b4.mono hB.size)).mono s1))
        clear b4 hB rz
        go_wp2
        go_ret
        exact ⟨ret_bool (by simp), HF.out⟩
    
  · go_wp2_with fail
    go_loopw [5, 6] (fun v i wr => ∃ j : Nat, j ≤ n ∧ i = .int .i64 j ∧ v = .bool (false && okAll (zs.take j)) ∧ Below w1.heap.size w1 wr) (fun _ i _ => n - (intOf i).toNat)
    case atStart => exact ⟨0, Nat.zero_le _, rfl, by simp [okAll], Below.refl _ _⟩
    case round =>
      obtain ⟨j, hj, rfl, rfl, hB⟩ := hrel
      obtain ⟨α, hα⟩ : ∃ α, (false && okAll (zs.take j)) = α := ⟨_, rfl⟩
      rw [hα]
      by_cases hlt : j < n
      · have hjl : j < zs.length := by rw [HLEN.out]; exact hlt
        obtain ⟨b, o, rfl, hbw0, u, hu, hc1⟩ := (r1.below hB).get hlt
        have hbw : b < wr.heap.size := hbw0
        have hrd0 := (r1.below hB).cut_at (lo := j) (hi := j + 1) (by omega) (by omega)
        rw [ci64_get _ _ hjl] at hu
        cases hu
        have hT := List.take_succ_eq_append_getElem hjl
        have hcut : ((ci64 zs).drop j).take (j + 1 - j) = ci64 [zs[j]] := by
          rw [show j + 1 - j = 1 by omega, List.drop_eq_getElem_cons (by rw [ci64_len]; exact hjl)]
          simp [ci64]
        rw [hcut, show j + 1 - j = 1 by omega] at hrd0
        unfold iV at hc1
        have hA2 : (false && okAll (zs.take (j + 1))) = (α && decide (0 ≤ zs[j] ∧ zs[j] ≤ 1000000)) := by rw [hT, okAll_snoc, ← hα]; simp
        generalize zs[j] = x at hc1 hrd0 hA2
        have HA := Lib.hid hA2
        have hne : ¬ c = j := by omega
        have hne2 : (c == j) = false := by rw [beq_eq_false_iff_ne]; omega
        have g1 : (0 : Int) ≤ (j : Int) := by omega
        have g2 : (j : Int) ≤ (j : Int) + 1 := by omega
        have g3 : (j : Int) + 1 ≤ (c : Int) := by omega
        have v1 : IntKind.i64.wrap ((j : Int) + 1) = (j : Int) + 1 := by rw [IntKind.wrap_i64]; omega
        have hrd := hrd0
        have HAL := Lib.hid hα
        clear hA2 hT hcut hrd0 hα
        cases α
        · by_cases hx0 : 0 ≤ x
          · by_cases hx1 : x ≤ 1000000
            · have HQ : mayB [x] 1 = true := mayB_in (by omega) (by omega) rfl (by intro z hz; rw [List.mem_singleton.1 hz]; omega)
              have HQ1 := Lib.hid HQ
              clear HQ
              have HD := Lib.hid (decide_eq_true (by omega) : decide (0 ≤ x ∧ x ≤ 1000000) = true)
              have u1 : decide (0 ≤ x) = true := by simp; omega
              have u2 : decide (x ≤ 1000000) = true := by simp; omega
              go_wp2_with fail
              refine wp_region_ord (S := fun w' => w'.cell? ⟨b, o + j, none⟩ = some (.int .i64 x)) [(0, true), (1, true), (2, true), (3, true), (4, true), (6, true), (7, true), (8, true), (9, true), (10, true), (5, false), (11, true), (12, true), (13, true), (14, true), (15, true), (16, true), (17, true), (18, true)] default (by kernel_rfl) (by kernel_rfl) (by kernel_rfl) hc1 ?_
              simp only [getOrd, nth]
              repeat (first | (refine ordS (by rfl) ?_; simp only [Act.put, List.setIfInBounds_toArray, List.set_cons_zero, List.set_cons_succ]) | (refine ordN (by rfl) ?_; simp only [Act.put, List.setIfInBounds_toArray, List.set_cons_zero, List.set_cons_succ]) | (refine ordQ (v := ?_) (by rfl) (fun _ hSw => ?_) ?_; rotate_left; (focus (go_simp; (first | done | with_reducible rfl))); simp only [Act.put, List.setIfInBounds_toArray, List.set_cons_zero, List.set_cons_succ]))
              refine ordD (by rfl) ?_
              intro K hK
              go_simp
              refine (check_of _ 1 _ [x] 1 _ hrd.drew true HQ1.out).mono ?_
              rintro e w3 ⟨rfl, b3⟩
              have hc3 : w3.cell? ⟨b, o + j, none⟩ = some (.int .i64 x) := by rw [b3.cell (p := ⟨b, o + j, none⟩) (by show b < (wr).heap.size; have := hB.size; omega)]; exact hc1
              have hB3 := hB.drew.trans (b3.mono (by have := hB.size; exact this))
              clear b3 hrd
              go_wp2_with fail
              refine hK _ _ hc3 ?_
              clear hK K
              try simp only [Act.put, List.setIfInBounds_toArray, List.set_cons_zero, List.set_cons_succ]
              repeat (first | (refine ordS (by rfl) ?_; simp only [Act.put, List.setIfInBounds_toArray, List.set_cons_zero, List.set_cons_succ]) | (refine ordN (by rfl) ?_; simp only [Act.put, List.setIfInBounds_toArray, List.set_cons_zero, List.set_cons_succ]) | (refine ordQ (v := ?_) (by rfl) (fun _ hSw => ?_) ?_; rotate_left; (focus (go_simp; (first | done | with_reducible rfl))); simp only [Act.put, List.setIfInBounds_toArray, List.set_cons_zero, List.set_cons_succ]))
              refine ordE ?_
              have HB3 := Lib.hid hB3
              clear hc3 hB3 hB hc1
              go_wp2
              go_roundw
              case rel => exact ⟨j + 1, by omega, by go_num, by rw [HA.out, HD.out]; rfl, HB3.out⟩
              case measure => simp [intOf]; omega
            · have HQ : mayB [x] 1 = false := mayB_bad (List.mem_singleton.2 rfl) (by omega)
              have HQ1 := Lib.hid HQ
              clear HQ
              have HD := Lib.hid (decide_eq_false (by omega) : decide (0 ≤ x ∧ x ≤ 1000000) = false)
              have u1 : decide (0 ≤ x) = true := by simp; omega
              have u2 : decide (x ≤ 1000000) = false := by simp; omega
              go_wp2_with fail
              refine wp_region_ord (S := fun w' => w'.cell? ⟨b, o + j, none⟩ = some (.int .i64 x)) [(0, true), (1, true), (2, true), (3, true), (4, true), (6, true), (7, true), (8, true), (9, true), (10, true), (5, false), (11, true), (12, true), (13, true), (14, true), (15, true), (16, true), (17, true), (18, true)] default (by kernel_rfl) (by kernel_rfl) (by kernel_rfl) hc1 ?_
              simp only [getOrd, nth]
              repeat (first | (refine ordS (by rfl) ?_; simp only [Act.put, List.setIfInBounds_toArray, List.set_cons_zero, List.set_cons_succ]) | (refine ordN (by rfl) ?_; simp only [Act.put, List.setIfInBounds_toArray, List.set_cons_zero, List.set_cons_succ]) | (refine ordQ (v := ?_) (by rfl) (fun _ hSw => ?_) ?_; rotate_left; (focus (go_simp; (first | done | with_reducible rfl))); simp only [Act.put, List.setIfInBounds_toArray, List.set_cons_zero, List.set_cons_succ]))
              refine ordD (by rfl) ?_
              intro K hK
              go_simp
              refine (check_of _ 1 _ [x] 1 _ hrd.drew false HQ1.out).mono ?_
              rintro e w3 ⟨rfl, b3⟩
              have hc3 : w3.cell? ⟨b, o + j, none⟩ = some (.int .i64 x) := by rw [b3.cell (p := ⟨b, o + j, none⟩) (by show b < (wr).heap.size; have := hB.size; omega)]; exact hc1
              have hB3 := hB.drew.trans (b3.mono (by have := hB.size; exact this))
              clear b3 hrd
              go_wp2_with fail
              refine hK _ _ hc3 ?_
              clear hK K
              try simp only [Act.put, List.setIfInBounds_toArray, List.set_cons_zero, List.set_cons_succ]
              repeat (first | (refine ordS (by rfl) ?_; simp only [Act.put, List.setIfInBounds_toArray, List.set_cons_zero, List.set_cons_succ]) | (refine ordN (by rfl) ?_; simp only [Act.put, List.setIfInBounds_toArray, List.set_cons_zero, List.set_cons_succ]) | (refine ordQ (v := ?_) (by rfl) (fun _ hSw => ?_) ?_; rotate_left; (focus (go_simp; (first | done | with_reducible rfl))); simp only [Act.put, List.setIfInBounds_toArray, List.set_cons_zero, List.set_cons_succ]))
              refine ordE ?_
              have HB3 := Lib.hid hB3
              clear hc3 hB3 hB hc1
              go_wp2
              go_roundw
              case rel => exact ⟨j + 1, by omega, by go_num, by rw [HA.out, HD.out]; rfl, HB3.out⟩
              case measure => simp [intOf]; omega
          · have HQ : mayB [x] 1 = false := mayB_bad (List.mem_singleton.2 rfl) (by omega)
            have HQ1 := Lib.hid HQ
            clear HQ
            have HD := Lib.hid (decide_eq_false (by omega) : decide (0 ≤ x ∧ x ≤ 1000000) = false)
            have u1 : decide (0 ≤ x) = false := by simp; omega
            go_wp2_with fail
            refine wp_region_ord (S := fun w' => w'.cell? ⟨b, o + j, none⟩ = some (.int .i64 x)) [(0, true), (1, true), (2, true), (3, true), (4, true), (6, true), (7, true), (8, true), (9, true), (10, true), (5, false), (11, true), (12, true), (13, true), (14, true), (15, true), (16, true), (17, true), (18, true)] default (by kernel_rfl) (by kernel_rfl) (by kernel_rfl) hc1 ?_
            simp only [getOrd, nth]
            repeat (first | (refine ordS (by rfl) ?_; simp only [Act.put, List.setIfInBounds_toArray, List.set_cons_zero, List.set_cons_succ]) | (refine ordN (by rfl) ?_; simp only [Act.put, List.setIfInBounds_toArray, List.set_cons_zero, List.set_cons_succ]) | (refine ordQ (v := ?_) (by rfl) (fun _ hSw => ?_) ?_; rotate_left; (focus (go_simp; (first | done | with_reducible rfl))); simp only [Act.put, List.setIfInBounds_toArray, List.set_cons_zero, List.set_cons_succ]))
            refine ordD (by rfl) ?_
            intro K hK
            go_simp
            refine (check_of _ 1 _ [x] 1 _ hrd.drew false HQ1.out).mono ?_
            rintro e w3 ⟨rfl, b3⟩
            have hc3 : w3.cell? ⟨b, o + j, none⟩ = some (.int .i64 x) := by rw [b3.cell (p := ⟨b, o + j, none⟩) (by show b < (wr).heap.size; have := hB.size; omega)]; exact hc1
            have hB3 := hB.drew.trans (b3.mono (by have := hB.size; exact this))
            clear b3 hrd
            go_wp2_with fail
            refine hK _ _ hc3 ?_
            clear hK K
            try simp only [Act.put, List.setIfInBounds_toArray, List.set_cons_zero, List.set_cons_succ]
            repeat (first | (refine ordS (by rfl) ?_; simp only [Act.put, List.setIfInBounds_toArray, List.set_cons_zero, List.set_cons_succ]) | (refine ordN (by rfl) ?_; simp only [Act.put, List.setIfInBounds_toArray, List.set_cons_zero, List.set_cons_succ]) | (refine ordQ (v := ?_) (by rfl) (fun _ hSw => ?_) ?_; rotate_left; (focus (go_simp; (first | done | with_reducible rfl))); simp only [Act.put, List.setIfInBounds_toArray, List.set_cons_zero, List.set_cons_succ]))
            refine ordE ?_
            have HB3 := Lib.hid hB3
            clear hc3 hB3 hB hc1
            go_wp2
            go_roundw
            case rel => exact ⟨j + 1, by omega, by go_num, by rw [HA.out, HD.out]; rfl, HB3.out⟩
            case measure => simp [intOf]; omega
        · exact absurd HAL.out (by simp)
      · obtain rfl : j = n := by omega
        obtain ⟨γ, hγ⟩ : ∃ γ, mayB zs z = γ := ⟨_, rfl⟩
        have hag : α = γ := by rw [← hα, List.take_of_length_le (by rw [HLEN.out]; exact Nat.le_refl _), ← hγ, ← all_may zs j HLEN.out, HBE.out]
        subst hag
        have HG := Lib.hid hγ
        have rz := r1.below hB
        clear hα hγ
        go_wp2_with fail
        refine (check_of A j c zs z wr rz α HG.out).mono ?_
        rintro e w4 ⟨rfl, b4⟩
        have HF := Lib.hid (HB1.out.trans ((hB.trans (b4.mono hB.size)).mono s1))
        clear b4 hB rz
        go_wp2
        go_ret
        exact ⟨ret_bool (by simp), HF.out⟩
    
  · go_wp2_with fail
    go_loopw [5, 6] (fun v i wr => ∃ j : Nat, j ≤ n ∧ i = .int .i64 j ∧ v = .bool (false && okAll (zs.take j)) ∧ Below w1.heap.size w1 wr) (fun _ i _ => n - (intOf i).toNat)
    case atStart => exact ⟨0, Nat.zero_le _, rfl, by simp [okAll], Below.refl _ _⟩
    case round =>
      obtain ⟨j, hj, rfl, rfl, hB⟩ := hrel
      obtain ⟨α, hα⟩ : ∃ α, (false && okAll (zs.take j)) = α := ⟨_, rfl⟩
      rw [hα]
      by_cases hlt : j < n
      · have hjl : j < zs.length := by rw [HLEN.out]; exact hlt
        obtain ⟨b, o, rfl, hbw0, u, hu, hc1⟩ := (r1.below hB).get hlt
        have hbw : b < wr.heap.size := hbw0
        have hrd0 := (r1.below hB).cut_at (lo := j) (hi := j + 1) (by omega) (by omega)
        rw [ci64_get _ _ hjl] at hu
        cases hu
        have hT := List.take_succ_eq_append_getElem hjl
        have hcut : ((ci64 zs).drop j).take (j + 1 - j) = ci64 [zs[j]] := by
          rw [show j + 1 - j = 1 by omega, List.drop_eq_getElem_cons (by rw [ci64_len]; exact hjl)]
          simp [ci64]
        rw [hcut, show j + 1 - j = 1 by omega] at hrd0
        unfold iV at hc1
        have hA2 : (false && okAll (zs.take (j + 1))) = (α && decide (0 ≤ zs[j] ∧ zs[j] ≤ 1000000)) := by rw [hT, okAll_snoc, ← hα]; simp
        generalize zs[j] = x at hc1 hrd0 hA2
        have HA := Lib.hid hA2
        have hne : ¬ c = j := by omega
        have hne2 : (c == j) = false := by rw [beq_eq_false_iff_ne]; omega
        have g1 : (0 : Int) ≤ (j : Int) := by omega
        have g2 : (j : Int) ≤ (j : Int) + 1 := by omega
        have g3 : (j : Int) + 1 ≤ (c : Int) := by omega
        have v1 : IntKind.i64.wrap ((j : Int) + 1) = (j : Int) + 1 := by rw [IntKind.wrap_i64]; omega
        have hrd := hrd0
        have HAL := Lib.hid hα
        clear hA2 hT hcut hrd0 hα
        cases α
        · by_cases hx0 : 0 ≤ x
          · by_cases hx1 : x ≤ 1000000
            · have HQ : mayB [x] 1 = true := mayB_in (by omega) (by omega) rfl (by intro z hz; rw [List.mem_singleton.1 hz]; omega)
              have HQ1 := Lib.hid HQ
              clear HQ
              have HD := Lib.hid (decide_eq_true (by omega) : decide (0 ≤ x ∧ x ≤ 1000000) = true)
              have u1 : decide (0 ≤ x) = true := by simp; omega
              have u2 : decide (x ≤ 1000000) = true := by simp; omega
              go_wp2_with fail
              refine wp_region_ord (S := fun w' => w'.cell? ⟨b, o + j, none⟩ = some (.int .i64 x)) [(0, true), (1, true), (2, true), (3, true), (4, true), (6, true), (7, true), (8, true), (9, true), (10, true), (5, false), (11, true), (12, true), (13, true), (14, true), (15, true), (16, true), (17, true), (18, true)] default (by kernel_rfl) (by kernel_rfl) (by kernel_rfl) hc1 ?_
              simp only [getOrd, nth]
              repeat (first | (refine ordS (by rfl) ?_; simp only [Act.put, List.setIfInBounds_toArray, List.set_cons_zero, List.set_cons_succ]) | (refine ordN (by rfl) ?_; simp only [Act.put, List.setIfInBounds_toArray, List.set_cons_zero, List.set_cons_succ]) | (refine ordQ (v := ?_) (by rfl) (fun _ hSw => ?_) ?_; rotate_left; (focus (go_simp; (first | done | with_reducible rfl))); simp only [Act.put, List.setIfInBounds_toArray, List.set_cons_zero, List.set_cons_succ]))
              refine ordD (by rfl) ?_
              intro K hK
              go_simp
              refine (check_of _ 1 _ [x] 1 _ hrd.drew true HQ1.out).mono ?_
              rintro e w3 ⟨rfl, b3⟩
              have hc3 : w3.cell? ⟨b, o + j, none⟩ = some (.int .i64 x) := by rw [b3.cell (p := ⟨b, o + j, none⟩) (by show b < (wr).heap.size; have := hB.size; omega)]; exact hc1
              have hB3 := hB.drew.trans (b3.mono (by have := hB.size; exact this))
              clear b3 hrd
              go_wp2_with fail
              refine hK _ _ hc3 ?_
              clear hK K
              try simp only [Act.put, List.setIfInBounds_toArray, List.set_cons_zero, List.set_cons_succ]
              repeat (first | (refine ordS (by rfl) ?_; simp only [Act.put, List.setIfInBounds_toArray, List.set_cons_zero, List.set_cons_succ]) | (refine ordN (by rfl) ?_; simp only [Act.put, List.setIfInBounds_toArray, List.set_cons_zero, List.set_cons_succ]) | (refine ordQ (v := ?_) (by rfl) (fun _ hSw => ?_) ?_; rotate_left; (focus (go_simp; (first | done | with_reducible rfl))); simp only [Act.put, List.setIfInBounds_toArray, List.set_cons_zero, List.set_cons_succ]))
              refine ordE ?_
              have HB3 := Lib.hid hB3
              clear hc3 hB3 hB hc1
              go_wp2
              go_roundw
              case rel => exact ⟨j + 1, by omega, by go_num, by rw [HA.out, HD.out]; rfl, HB3.out⟩
              case measure => simp [intOf]; omega
            · have HQ : mayB [x] 1 = false := mayB_bad (List.mem_singleton.2 rfl) (by omega)
              have HQ1 := Lib.hid HQ
              clear HQ
              have HD := Lib.hid (decide_eq_false (by omega) : decide (0 ≤ x ∧ x ≤ 1000000) = false)
              have u1 : decide (0 ≤ x) = true := by simp; omega
              have u2 : decide (x ≤ 1000000) = false := by simp; omega
              go_wp2_with fail
              refine wp_region_ord (S := fun w' => w'.cell? ⟨b, o + j, none⟩ = some (.int .i64 x)) [(0, true), (1, true), (2, true), (3, true), (4, true), (6, true), (7, true), (8, true), (9, true), (10, true), (5, false), (11, true), (12, true), (13, true), (14, true), (15, true), (16, true), (17, true), (18, true)] default (by kernel_rfl) (by kernel_rfl) (by kernel_rfl) hc1 ?_
              simp only [getOrd, nth]
              repeat (first | (refine ordS (by rfl) ?_; simp only [Act.put, List.setIfInBounds_toArray, List.set_cons_zero, List.set_cons_succ]) | (refine ordN (by rfl) ?_; simp only [Act.put, List.setIfInBounds_toArray, List.set_cons_zero, List.set_cons_succ]) | (refine ordQ (v := ?_) (by rfl) (fun _ hSw => ?_) ?_; rotate_left; (focus (go_simp; (first | done | with_reducible rfl))); simp only [Act.put, List.setIfInBounds_toArray, List.set_cons_zero, List.set_cons_succ]))
              refine ordD (by rfl) ?_
              intro K hK
              go_simp
              refine (check_of _ 1 _ [x] 1 _ hrd.drew false HQ1.out).mono ?_
              rintro e w3 ⟨rfl, b3⟩
              have hc3 : w3.cell? ⟨b, o + j, none⟩ = some (.int .i64 x) := by rw [b3.cell (p := ⟨b, o + j, none⟩) (by show b < (wr).heap.size; have := hB.size; omega)]; exact hc1
              have hB3 := hB.drew.trans (b3.mono (by have := hB.size; exact this))
              clear b3 hrd
              go_wp2_with fail
              refine hK _ _ hc3 ?_
              clear hK K
              try simp only [Act.put, List.setIfInBounds_toArray, List.set_cons_zero, List.set_cons_succ]
              repeat (first | (refine ordS (by rfl) ?_; simp only [Act.put, List.setIfInBounds_toArray, List.set_cons_zero, List.set_cons_succ]) | (refine ordN (by rfl) ?_; simp only [Act.put, List.setIfInBounds_toArray, List.set_cons_zero, List.set_cons_succ]) | (refine ordQ (v := ?_) (by rfl) (fun _ hSw => ?_) ?_; rotate_left; (focus (go_simp; (first | done | with_reducible rfl))); simp only [Act.put, List.setIfInBounds_toArray, List.set_cons_zero, List.set_cons_succ]))
              refine ordE ?_
              have HB3 := Lib.hid hB3
              clear hc3 hB3 hB hc1
              go_wp2
              go_roundw
              case rel => exact ⟨j + 1, by omega, by go_num, by rw [HA.out, HD.out]; rfl, HB3.out⟩
              case measure => simp [intOf]; omega
          · have HQ : mayB [x] 1 = false := mayB_bad (List.mem_singleton.2 rfl) (by omega)
            have HQ1 := Lib.hid HQ
            clear HQ
            have HD := Lib.hid (decide_eq_false (by omega) : decide (0 ≤ x ∧ x ≤ 1000000) = false)
            have u1 : decide (0 ≤ x) = false := by simp; omega
            go_wp2_with fail
            refine wp_region_ord (S := fun w' => w'.cell? ⟨b, o + j, none⟩ = some (.int .i64 x)) [(0, true), (1, true), (2, true), (3, true), (4, true), (6, true), (7, true), (8, true), (9, true), (10, true), (5, false), (11, true), (12, true), (13, true), (14, true), (15, true), (16, true), (17, true), (18, true)] default (by kernel_rfl) (by kernel_rfl) (by kernel_rfl) hc1 ?_
            simp only [getOrd, nth]
            repeat (first | (refine ordS (by rfl) ?_; simp only [Act.put, List.setIfInBounds_toArray, List.set_cons_zero, List.set_cons_succ]) | (refine ordN (by rfl) ?_; simp only [Act.put, List.setIfInBounds_toArray, List.set_cons_zero, List.set_cons_succ]) | (refine ordQ (v := ?_) (by rfl) (fun _ hSw => ?_) ?_; rotate_left; (focus (go_simp; (first | done | with_reducible rfl))); simp only [Act.put, List.setIfInBounds_toArray, List.set_cons_zero, List.set_cons_succ]))
            refine ordD (by rfl) ?_
            intro K hK
            go_simp
            refine (check_of _ 1 _ [x] 1 _ hrd.drew false HQ1.out).mono ?_
            rintro e w3 ⟨rfl, b3⟩
            have hc3 : w3.cell? ⟨b, o + j, none⟩ = some (.int .i64 x) := by rw [b3.cell (p := ⟨b, o + j, none⟩) (by show b < (wr).heap.size; have := hB.size; omega)]; exact hc1
            have hB3 := hB.drew.trans (b3.mono (by have := hB.size; exact this))
            clear b3 hrd
            go_wp2_with fail
            refine hK _ _ hc3 ?_
            clear hK K
            try simp only [Act.put, List.setIfInBounds_toArray, List.set_cons_zero, List.set_cons_succ]
            repeat (first | (refine ordS (by rfl) ?_; simp only [Act.put, List.setIfInBounds_toArray, List.set_cons_zero, List.set_cons_succ]) | (refine ordN (by rfl) ?_; simp only [Act.put, List.setIfInBounds_toArray, List.set_cons_zero, List.set_cons_succ]) | (refine ordQ (v := ?_) (by rfl) (fun _ hSw => ?_) ?_; rotate_left; (focus (go_simp; (first | done | with_reducible rfl))); simp only [Act.put, List.setIfInBounds_toArray, List.set_cons_zero, List.set_cons_succ]))
            refine ordE ?_
            have HB3 := Lib.hid hB3
            clear hc3 hB3 hB hc1
            go_wp2
            go_roundw
            case rel => exact ⟨j + 1, by omega, by go_num, by rw [HA.out, HD.out]; rfl, HB3.out⟩
            case measure => simp [intOf]; omega
        · exact absurd HAL.out (by simp)
      · obtain rfl : j = n := by omega
        obtain ⟨γ, hγ⟩ : ∃ γ, mayB zs z = γ := ⟨_, rfl⟩
        have hag : α = γ := by rw [← hα, List.take_of_length_le (by rw [HLEN.out]; exact Nat.le_refl _), ← hγ, ← all_may zs j HLEN.out, HBE.out]
        subst hag
        have HG := Lib.hid hγ
        have rz := r1.below hB
        clear hα hγ
        go_wp2_with fail
        refine (check_of A j c zs z wr rz α HG.out).mono ?_
        rintro e w4 ⟨rfl, b4⟩
        have HF := Lib.hid (HB1.out.trans ((hB.trans (b4.mono hB.size)).mono s1))
        clear b4 hB rz
        go_wp2
        go_ret
        exact ⟨ret_bool (by simp), HF.out⟩
    
  · go_wp2_with fail
    go_loopw [5, 6] (fun v i wr => ∃ j : Nat, j ≤ n ∧ i = .int .i64 j ∧ v = .bool (true && okAll (zs.take j)) ∧ Below w1.heap.size w1 wr) (fun _ i _ => n - (intOf i).toNat)
    case atStart => exact ⟨0, Nat.zero_le _, rfl, by simp [okAll], Below.refl _ _⟩
    case round =>
      obtain ⟨j, hj, rfl, rfl, hB⟩ := hrel
      obtain ⟨α, hα⟩ : ∃ α, (true && okAll (zs.take j)) = α := ⟨_, rfl⟩
      rw [hα]
      by_cases hlt : j < n
      · have hjl : j < zs.length := by rw [HLEN.out]; exact hlt
        obtain ⟨b, o, rfl, hbw0, u, hu, hc1⟩ := (r1.below hB).get hlt
        have hbw : b < wr.heap.size := hbw0
        have hrd0 := (r1.below hB).cut_at (lo := j) (hi := j + 1) (by omega) (by omega)
        rw [ci64_get _ _ hjl] at hu
        cases hu
        have hT := List.take_succ_eq_append_getElem hjl
        have hcut : ((ci64 zs).drop j).take (j + 1 - j) = ci64 [zs[j]] := by
          rw [show j + 1 - j = 1 by omega, List.drop_eq_getElem_cons (by rw [ci64_len]; exact hjl)]
          simp [ci64]
        rw [hcut, show j + 1 - j = 1 by omega] at hrd0
        unfold iV at hc1
        have hA2 : (true && okAll (zs.take (j + 1))) = (α && decide (0 ≤ zs[j] ∧ zs[j] ≤ 1000000)) := by rw [hT, okAll_snoc, ← hα]; simp
        generalize zs[j] = x at hc1 hrd0 hA2
        have HA := Lib.hid hA2
        have hne : ¬ c = j := by omega
        have hne2 : (c == j) = false := by rw [beq_eq_false_iff_ne]; omega
        have g1 : (0 : Int) ≤ (j : Int) := by omega
        have g2 : (j : Int) ≤ (j : Int) + 1 := by omega
        have g3 : (j : Int) + 1 ≤ (c : Int) := by omega
        have v1 : IntKind.i64.wrap ((j : Int) + 1) = (j : Int) + 1 := by rw [IntKind.wrap_i64]; omega
        have hrd := hrd0
        have HAL := Lib.hid hα
        clear hA2 hT hcut hrd0 hα
        cases α
        · by_cases hx0 : 0 ≤ x
          · by_cases hx1 : x ≤ 1000000
            · have HQ : mayB [x] 1 = true := mayB_in (by omega) (by omega) rfl (by intro z hz; rw [List.mem_singleton.1 hz]; omega)
              have HQ1 := Lib.hid HQ
              clear HQ
              have HD := Lib.hid (decide_eq_true (by omega) : decide (0 ≤ x ∧ x ≤ 1000000) = true)
              have u1 : decide (0 ≤ x) = true := by simp; omega
              have u2 : decide (x ≤ 1000000) = true := by simp; omega
              go_wp2_with fail
              refine wp_region_ord (S := fun w' => w'.cell? ⟨b, o + j, none⟩ = some (.int .i64 x)) [(0, true), (1, true), (2, true), (3, true), (4, true), (6, true), (7, true), (8, true), (9, true), (10, true), (5, false), (11, true), (12, true), (13, true), (14, true), (15, true), (16, true), (17, true), (18, true)] default (by kernel_rfl) (by kernel_rfl) (by kernel_rfl) hc1 ?_
              simp only [getOrd, nth]
              repeat (first | (refine ordS (by rfl) ?_; simp only [Act.put, List.setIfInBounds_toArray, List.set_cons_zero, List.set_cons_succ]) | (refine ordN (by rfl) ?_; simp only [Act.put, List.setIfInBounds_toArray, List.set_cons_zero, List.set_cons_succ]) | (refine ordQ (v := ?_) (by rfl) (fun _ hSw => ?_) ?_; rotate_left; (focus (go_simp; (first | done | with_reducible rfl))); simp only [Act.put, List.setIfInBounds_toArray, List.set_cons_zero, List.set_cons_succ]))
              refine ordD (by rfl) ?_
              intro K hK
              go_simp
              refine (check_of _ 1 _ [x] 1 _ hrd.drew true HQ1.out).mono ?_
              rintro e w3 ⟨rfl, b3⟩
              have hc3 : w3.cell? ⟨b, o + j, none⟩ = some (.int .i64 x) := by rw [b3.cell (p := ⟨b, o + j, none⟩) (by show b < (wr).heap.size; have := hB.size; omega)]; exact hc1
              have hB3 := hB.drew.trans (b3.mono (by have := hB.size; exact this))
              clear b3 hrd
              go_wp2_with fail
              refine hK _ _ hc3 ?_
              clear hK K
              try simp only [Act.put, List.setIfInBounds_toArray, List.set_cons_zero, List.set_cons_succ]
              repeat (first | (refine ordS (by rfl) ?_; simp only [Act.put, List.setIfInBounds_toArray, List.set_cons_zero, List.set_cons_succ]) | (refine ordN (by rfl) ?_; simp only [Act.put, List.setIfInBounds_toArray, List.set_cons_zero, List.set_cons_succ]) | (refine ordQ (v := ?_) (by rfl) (fun _ hSw => ?_) ?_; rotate_left; (focus (go_simp; (first | done | with_reducible rfl))); simp only [Act.put, List.setIfInBounds_toArray, List.set_cons_zero, List.set_cons_succ]))
              refine ordE ?_
              have HB3 := Lib.hid hB3
              clear hc3 hB3 hB hc1
              go_wp2
              go_roundw
              case rel => exact ⟨j + 1, by omega, by go_num, by rw [HA.out, HD.out]; rfl, HB3.out⟩
              case measure => simp [intOf]; omega
            · have HQ : mayB [x] 1 = false := mayB_bad (List.mem_singleton.2 rfl) (by omega)
              have HQ1 := Lib.hid HQ
              clear HQ
              have HD := Lib.hid (decide_eq_false (by omega) : decide (0 ≤ x ∧ x ≤ 1000000) = false)
              have u1 : decide (0 ≤ x) = true := by simp; omega
              have u2 : decide (x ≤ 1000000) = false := by simp; omega
              go_wp2_with fail
              refine wp_region_ord (S := fun w' => w'.cell? ⟨b, o + j, none⟩ = some (.int .i64 x)) [(0, true), (1, true), (2, true), (3, true), (4, true), (6, true), (7, true), (8, true), (9, true), (10, true), (5, false), (11, true), (12, true), (13, true), (14, true), (15, true), (16, true), (17, true), (18, true)] default (by kernel_rfl) (by kernel_rfl) (by kernel_rfl) hc1 ?_
              simp only [getOrd, nth]
              repeat (first | (refine ordS (by rfl) ?_; simp only [Act.put, List.setIfInBounds_toArray, List.set_cons_zero, List.set_cons_succ]) | (refine ordN (by rfl) ?_; simp only [Act.put, List.setIfInBounds_toArray, List.set_cons_zero, List.set_cons_succ]) | (refine ordQ (v := ?_) (by rfl) (fun _ hSw => ?_) ?_; rotate_left; (focus (go_simp; (first | done | with_reducible rfl))); simp only [Act.put, List.setIfInBounds_toArray, List.set_cons_zero, List.set_cons_succ]))
              refine ordD (by rfl) ?_
              intro K hK
              go_simp
              refine (check_of _ 1 _ [x] 1 _ hrd.drew false HQ1.out).mono ?_
              rintro e w3 ⟨rfl, b3⟩
              have hc3 : w3.cell? ⟨b, o + j, none⟩ = some (.int .i64 x) := by rw [b3.cell (p := ⟨b, o + j, none⟩) (by show b < (wr).heap.size; have := hB.size; omega)]; exact hc1
              have hB3 := hB.drew.trans (b3.mono (by have := hB.size; exact this))
              clear b3 hrd
              go_wp2_with fail
              refine hK _ _ hc3 ?_
              clear hK K
              try simp only [Act.put, List.setIfInBounds_toArray, List.set_cons_zero, List.set_cons_succ]
              repeat (first | (refine ordS (by rfl) ?_; simp only [Act.put, List.setIfInBounds_toArray, List.set_cons_zero, List.set_cons_succ]) | (refine ordN (by rfl) ?_; simp only [Act.put, List.setIfInBounds_toArray, List.set_cons_zero, List.set_cons_succ]) | (refine ordQ (v := ?_) (by rfl) (fun _ hSw => ?_) ?_; rotate_left; (focus (go_simp; (first | done | with_reducible rfl))); simp only [Act.put, List.setIfInBounds_toArray, List.set_cons_zero, List.set_cons_succ]))
              refine ordE ?_
              have HB3 := Lib.hid hB3
              clear hc3 hB3 hB hc1
              go_wp2
              go_roundw
              case rel => exact ⟨j + 1, by omega, by go_num, by rw [HA.out, HD.out]; rfl, HB3.out⟩
              case measure => simp [intOf]; omega
          · have HQ : mayB [x] 1 = false := mayB_bad (List.mem_singleton.2 rfl) (by omega)
            have HQ1 := Lib.hid HQ
            clear HQ
            have HD := Lib.hid (decide_eq_false (by omega) : decide (0 ≤ x ∧ x ≤ 1000000) = false)
            have u1 : decide (0 ≤ x) = false := by simp; omega
            go_wp2_with fail
            refine wp_region_ord (S := fun w' => w'.cell? ⟨b, o + j, none⟩ = some (.int .i64 x)) [(0, true), (1, true), (2, true), (3, true), (4, true), (6, true), (7, true), (8, true), (9, true), (10, true), (5, false), (11, true), (12, true), (13, true), (14, true), (15, true), (16, true), (17, true), (18, true)] default (by kernel_rfl) (by kernel_rfl) (by kernel_rfl) hc1 ?_
            simp only [getOrd, nth]
            repeat (first | (refine ordS (by rfl) ?_; simp only [Act.put, List.setIfInBounds_toArray, List.set_cons_zero, List.set_cons_succ]) | (refine ordN (by rfl) ?_; simp only [Act.put, List.setIfInBounds_toArray, List.set_cons_zero, List.set_cons_succ]) | (refine ordQ (v := ?_) (by rfl) (fun _ hSw => ?_) ?_; rotate_left; (focus (go_simp; (first | done | with_reducible rfl))); simp only [Act.put, List.setIfInBounds_toArray, List.set_cons_zero, List.set_cons_succ]))
            refine ordD (by rfl) ?_
            intro K hK
            go_simp
            refine (check_of _ 1 _ [x] 1 _ hrd.drew false HQ1.out).mono ?_
            rintro e w3 ⟨rfl, b3⟩
            have hc3 : w3.cell? ⟨b, o + j, none⟩ = some (.int .i64 x) := by rw [b3.cell (p := ⟨b, o + j, none⟩) (by show b < (wr).heap.size; have := hB.size; omega)]; exact hc1
            have hB3 := hB.drew.trans (b3.mono (by have := hB.size; exact this))
            clear b3 hrd
            go_wp2_with fail
            refine hK _ _ hc3 ?_
            clear hK K
            try simp only [Act.put, List.setIfInBounds_toArray, List.set_cons_zero, List.set_cons_succ]
            repeat (first | (refine ordS (by rfl) ?_; simp only [Act.put, List.setIfInBounds_toArray, List.set_cons_zero, List.set_cons_succ]) | (refine ordN (by rfl) ?_; simp only [Act.put, List.setIfInBounds_toArray, List.set_cons_zero, List.set_cons_succ]) | (refine ordQ (v := ?_) (by rfl) (fun _ hSw => ?_) ?_; rotate_left; (focus (go_simp; (first | done | with_reducible rfl))); simp only [Act.put, List.setIfInBounds_toArray, List.set_cons_zero, List.set_cons_succ]))
            refine ordE ?_
            have HB3 := Lib.hid hB3
            clear hc3 hB3 hB hc1
            go_wp2
            go_roundw
            case rel => exact ⟨j + 1, by omega, by go_num, by rw [HA.out, HD.out]; rfl, HB3.out⟩
            case measure => simp [intOf]; omega
        · by_cases hx0 : 0 ≤ x
          · by_cases hx1 : x ≤ 1000000
            · have HQ : mayB [x] 1 = true := mayB_in (by omega) (by omega) rfl (by intro z hz; rw [List.mem_singleton.1 hz]; omega)
              have HQ1 := Lib.hid HQ
              clear HQ
              have HD := Lib.hid (decide_eq_true (by omega) : decide (0 ≤ x ∧ x ≤ 1000000) = true)
              have u1 : decide (0 ≤ x) = true := by simp; omega
              have u2 : decide (x ≤ 1000000) = true := by simp; omega
              go_wp2_with fail
              refine (check_of _ 1 _ [x] 1 _ hrd true HQ1.out).mono ?_
              rintro e w2 ⟨rfl, b2⟩
              have hB2 := hB.trans (b2.mono hB.size)
              have hc2' : w2.cell? ⟨b, o + j, none⟩ = some (.int .i64 x) := by rw [b2.cell (p := ⟨b, o + j, none⟩) hbw]; exact hc1
              have hrd2 := hrd.below b2
              have sz2 := b2.size
              clear hB hc1 hrd b2
              go_wp2_with fail
              refine wp_region_ord (S := fun w' => w'.cell? ⟨b, o + j, none⟩ = some (.int .i64 x)) [(0, true), (1, true), (2, true), (3, true), (4, true), (6, true), (7, true), (8, true), (9, true), (10, true), (5, false), (11, true), (12, true), (13, true), (14, true), (15, true), (16, true), (17, true), (18, true)] default (by kernel_rfl) (by kernel_rfl) (by kernel_rfl) hc2' ?_
              simp only [getOrd, nth]
              repeat (first | (refine ordS (by rfl) ?_; simp only [Act.put, List.setIfInBounds_toArray, List.set_cons_zero, List.set_cons_succ]) | (refine ordN (by rfl) ?_; simp only [Act.put, List.setIfInBounds_toArray, List.set_cons_zero, List.set_cons_succ]) | (refine ordQ (v := ?_) (by rfl) (fun _ hSw => ?_) ?_; rotate_left; (focus (go_simp; (first | done | with_reducible rfl))); simp only [Act.put, List.setIfInBounds_toArray, List.set_cons_zero, List.set_cons_succ]))
              refine ordD (by rfl) ?_
              intro K hK
              go_simp
              refine (check_of _ 1 _ [x] 1 _ hrd2.drew true HQ1.out).mono ?_
              rintro e w3 ⟨rfl, b3⟩
              have hc3 : w3.cell? ⟨b, o + j, none⟩ = some (.int .i64 x) := by rw [b3.cell (p := ⟨b, o + j, none⟩) (by show b < (w2).heap.size; have := hB2.size; omega)]; exact hc2'
              have hB3 := hB2.drew.trans (b3.mono (by have := hB2.size; exact this))
              clear b3 hrd2
              go_wp2_with fail
              refine hK _ _ hc3 ?_
              clear hK K
              try simp only [Act.put, List.setIfInBounds_toArray, List.set_cons_zero, List.set_cons_succ]
              repeat (first | (refine ordS (by rfl) ?_; simp only [Act.put, List.setIfInBounds_toArray, List.set_cons_zero, List.set_cons_succ]) | (refine ordN (by rfl) ?_; simp only [Act.put, List.setIfInBounds_toArray, List.set_cons_zero, List.set_cons_succ]) | (refine ordQ (v := ?_) (by rfl) (fun _ hSw => ?_) ?_; rotate_left; (focus (go_simp; (first | done | with_reducible rfl))); simp only [Act.put, List.setIfInBounds_toArray, List.set_cons_zero, List.set_cons_succ]))
              refine ordE ?_
              have HB3 := Lib.hid hB3
              clear hc3 hB3 hB2 hc2'
              go_wp2
              go_roundw
              case rel => exact ⟨j + 1, by omega, by go_num, by rw [HA.out, HD.out]; rfl, HB3.out⟩
              case measure => simp [intOf]; omega
            · have HQ : mayB [x] 1 = false := mayB_bad (List.mem_singleton.2 rfl) (by omega)
              have HQ1 := Lib.hid HQ
              clear HQ
              have HD := Lib.hid (decide_eq_false (by omega) : decide (0 ≤ x ∧ x ≤ 1000000) = false)
              have u1 : decide (0 ≤ x) = true := by simp; omega
              have u2 : decide (x ≤ 1000000) = false := by simp; omega
              go_wp2_with fail
              refine (check_of _ 1 _ [x] 1 _ hrd false HQ1.out).mono ?_
              rintro e w2 ⟨rfl, b2⟩
              have hB2 := hB.trans (b2.mono hB.size)
              have hc2' : w2.cell? ⟨b, o + j, none⟩ = some (.int .i64 x) := by rw [b2.cell (p := ⟨b, o + j, none⟩) hbw]; exact hc1
              have hrd2 := hrd.below b2
              have sz2 := b2.size
              clear hB hc1 hrd b2
              go_wp2_with fail
              refine wp_region_ord (S := fun w' => w'.cell? ⟨b, o + j, none⟩ = some (.int .i64 x)) [(0, true), (1, true), (2, true), (3, true), (4, true), (6, true), (7, true), (8, true), (9, true), (10, true), (5, false), (11, true), (12, true), (13, true), (14, true), (15, true), (16, true), (17, true), (18, true)] default (by kernel_rfl) (by kernel_rfl) (by kernel_rfl) hc2' ?_
              simp only [getOrd, nth]
              repeat (first | (refine ordS (by rfl) ?_; simp only [Act.put, List.setIfInBounds_toArray, List.set_cons_zero, List.set_cons_succ]) | (refine ordN (by rfl) ?_; simp only [Act.put, List.setIfInBounds_toArray, List.set_cons_zero, List.set_cons_succ]) | (refine ordQ (v := ?_) (by rfl) (fun _ hSw => ?_) ?_; rotate_left; (focus (go_simp; (first | done | with_reducible rfl))); simp only [Act.put, List.setIfInBounds_toArray, List.set_cons_zero, List.set_cons_succ]))
              refine ordD (by rfl) ?_
              intro K hK
              go_simp
              refine (check_of _ 1 _ [x] 1 _ hrd2.drew false HQ1.out).mono ?_
              rintro e w3 ⟨rfl, b3⟩
              have hc3 : w3.cell? ⟨b, o + j, none⟩ = some (.int .i64 x) := by rw [b3.cell (p := ⟨b, o + j, none⟩) (by show b < (w2).heap.size; have := hB2.size; omega)]; exact hc2'
              have hB3 := hB2.drew.trans (b3.mono (by have := hB2.size; exact this))
              clear b3 hrd2
              go_wp2_with fail
              refine hK _ _ hc3 ?_
              clear hK K
              try simp only [Act.put, List.setIfInBounds_toArray, List.set_cons_zero, List.set_cons_succ]
              repeat (first | (refine ordS (by rfl) ?_; simp only [Act.put, List.setIfInBounds_toArray, List.set_cons_zero, List.set_cons_succ]) | (refine ordN (by rfl) ?_; simp only [Act.put, List.setIfInBounds_toArray, List.set_cons_zero, List.set_cons_succ]) | (refine ordQ (v := ?_) (by rfl) (fun _ hSw => ?_) ?_; rotate_left; (focus (go_simp; (first | done | with_reducible rfl))); simp only [Act.put, List.setIfInBounds_toArray, List.set_cons_zero, List.set_cons_succ]))
              refine ordE ?_
              have HB3 := Lib.hid hB3
              clear hc3 hB3 hB2 hc2'
              go_wp2
              go_roundw
              case rel => exact ⟨j + 1, by omega, by go_num, by rw [HA.out, HD.out]; rfl, HB3.out⟩
              case measure => simp [intOf]; omega
          · have HQ : mayB [x] 1 = false := mayB_bad (List.mem_singleton.2 rfl) (by omega)
            have HQ1 := Lib.hid HQ
            clear HQ
            have HD := Lib.hid (decide_eq_false (by omega) : decide (0 ≤ x ∧ x ≤ 1000000) = false)
            have u1 : decide (0 ≤ x) = false := by simp; omega
            go_wp2_with fail
            refine (check_of _ 1 _ [x] 1 _ hrd false HQ1.out).mono ?_
            rintro e w2 ⟨rfl, b2⟩
            have hB2 := hB.trans (b2.mono hB.size)
            have hc2' : w2.cell? ⟨b, o + j, none⟩ = some (.int .i64 x) := by rw [b2.cell (p := ⟨b, o + j, none⟩) hbw]; exact hc1
            have hrd2 := hrd.below b2
            have sz2 := b2.size
            clear hB hc1 hrd b2
            go_wp2_with fail
            refine wp_region_ord (S := fun w' => w'.cell? ⟨b, o + j, none⟩ = some (.int .i64 x)) [(0, true), (1, true), (2, true), (3, true), (4, true), (6, true), (7, true), (8, true), (9, true), (10, true), (5, false), (11, true), (12, true), (13, true), (14, true), (15, true), (16, true), (17, true), (18, true)] default (by kernel_rfl) (by kernel_rfl) (by kernel_rfl) hc2' ?_
            simp only [getOrd, nth]
            repeat (first | (refine ordS (by rfl) ?_; simp only [Act.put, List.setIfInBounds_toArray, List.set_cons_zero, List.set_cons_succ]) | (refine ordN (by rfl) ?_; simp only [Act.put, List.setIfInBounds_toArray, List.set_cons_zero, List.set_cons_succ]) | (refine ordQ (v := ?_) (by rfl) (fun _ hSw => ?_) ?_; rotate_left; (focus (go_simp; (first | done | with_reducible rfl))); simp only [Act.put, List.setIfInBounds_toArray, List.set_cons_zero, List.set_cons_succ]))
            refine ordD (by rfl) ?_
            intro K hK
            go_simp
            refine (check_of _ 1 _ [x] 1 _ hrd2.drew false HQ1.out).mono ?_
            rintro e w3 ⟨rfl, b3⟩
            have hc3 : w3.cell? ⟨b, o + j, none⟩ = some (.int .i64 x) := by rw [b3.cell (p := ⟨b, o + j, none⟩) (by show b < (w2).heap.size; have := hB2.size; omega)]; exact hc2'
            have hB3 := hB2.drew.trans (b3.mono (by have := hB2.size; exact this))
            clear b3 hrd2
            go_wp2_with fail
            refine hK _ _ hc3 ?_
            clear hK K
            try simp only [Act.put, List.setIfInBounds_toArray, List.set_cons_zero, List.set_cons_succ]
            repeat (first | (refine ordS (by rfl) ?_; simp only [Act.put, List.setIfInBounds_toArray, List.set_cons_zero, List.set_cons_succ]) | (refine ordN (by rfl) ?_; simp only [Act.put, List.setIfInBounds_toArray, List.set_cons_zero, List.set_cons_succ]) | (refine ordQ (v := ?_) (by rfl) (fun _ hSw => ?_) ?_; rotate_left; (focus (go_simp; (first | done | with_reducible rfl))); simp only [Act.put, List.setIfInBounds_toArray, List.set_cons_zero, List.set_cons_succ]))
            refine ordE ?_
            have HB3 := Lib.hid hB3
            clear hc3 hB3 hB2 hc2'
            go_wp2
            go_roundw
            case rel => exact ⟨j + 1, by omega, by go_num, by rw [HA.out, HD.out]; rfl, HB3.out⟩
            case measure => simp [intOf]; omega
      · obtain rfl : j = n := by omega
        obtain ⟨γ, hγ⟩ : ∃ γ, mayB zs z = γ := ⟨_, rfl⟩
        have hag : α = γ := by rw [← hα, List.take_of_length_le (by rw [HLEN.out]; exact Nat.le_refl _), ← hγ, ← all_may zs j HLEN.out, HBE.out]
        subst hag
        have HG := Lib.hid hγ
        have rz := r1.below hB
        clear hα hγ
        go_wp2_with fail
        refine (check_of A j c zs z wr rz α HG.out).mono ?_
        rintro e w4 ⟨rfl, b4⟩
        have HF := Lib.hid (HB1.out.trans ((hB.trans (b4.mono hB.size)).mono s1))
        clear b4 hB rz
        go_wp2
        go_ret
        exact ⟨ret_bool (by simp), HF.out⟩
    

theorem walk (A : Option Addr) (n c : Nat) (zs : List Int) (z : Int) (hz1 : -9223372036854775808 ≤ z) (hz2 : z ≤ 9223372036854775807) (w : World) (hr : Rd w A n (ci64 zs)) (hc2 : c ≤ maxLen) (hc : n ≤ c) :
    Calls Try.prog 5 #[.slice A n c, .int .i64 z] w fun e w' => e = .returned (.bool true) ∧ Below w.heap.size w w' := by
  by_cases h : n ≤ 600
  · exact walk_in A n c zs z w hr hc2 hc h
  · exact walk_out A n c z w hc2 hc (by omega)

theorem own : ownKnob Try.prog.godebug = none := by kernel_rfl
theorem laidOut : laidOutB Try.prog = true := by kernel_rfl

set_option maxRecDepth 100000 in
theorem lifted (os : Os) (started : os.Started) (H : Type) (enc : TypeId × Value → H) :
    ReturnsInHanded {} Try.checked os 5 .any (Rows.vectorsCheckSpec.pre6 enc Try.prog Try.f5 Rows.vectorsCheckRow.domain false) (Rows.vectorsCheckSpec.post enc Try.prog Try.f5 false true false false) := by
  refine returnsInHanded_of_change (C := Try.checked) own started (by kernel_rfl) Try.func5
    (ChangeSpec.witness6 (enc := enc) (C := Try.checked) false ⟨#[], #[.slice none 0 0, .int .i64 0], []⟩ 8 (by kernel_rfl) (by kernel_rfl) (by kernel_rfl) (by kernel_rfl)) ?_
  intro W base args ds gs before hval0 hW hcnd _
  have hval : ∀ (j : Nat) t v, Try.f5.params[j]? = some t → args[j]? = some v → Value.okWide Try.prog W .any base t v := hval0
  have hW' := hW
  obtain ⟨p, q, hA0, hV, rfl, hfz, hnd⟩ := hW
  have hA : DataW.TrodAll enc Try.prog W 0 (fun _ => true) true Try.f5.params.toList args.toList ds p := hA0
  rw [Try.params5] at hA hval
  obtain ⟨v0, vs0, d0, ds0, p0, q0, hargs, rfl, rfl, h0, r0⟩ := trodAll_cons hA
  obtain ⟨v1, vs1, d1, ds1, p1, q1, rfl, rfl, rfl, h1, r1⟩ := trodAll_cons r0
  obtain ⟨rfl, rfl, rfl⟩ := trodAll_nil r1
  obtain rfl : args = #[v0, v1] := by cases args; simp_all
  obtain ⟨A0, n0, c0, l0, rfl, a0, b0, e0, g0⟩ := arg_i64s Try.underlying23 Try.underlying3 (by kernel_rfl) (hval 0 23 v0 rfl rfl) h0
  obtain ⟨x1, rfl, rfl, rfl, w1⟩ := open_int Try.underlying3 (hval 1 3 v1 rfl rfl) h1
  have y1 := bounds_i64 w1
  have hwalk : Calls Try.prog 5 #[.slice A0 n0 c0, .int .i64 x1] W fun e w' => e = .returned (.bool true) ∧ Below W.heap.size W w' := walk A0 n0 c0 l0 x1 y1.1 y1.2 W a0 e0 b0
  refine hwalk.mono fun e W' ⟨he, hg⟩ => ?_
  subst he
  exact ⟨_, rfl, law_post laidOut (by kernel_rfl) hW' rfl rfl (by kernel_rfl) Try.underlying4 hg⟩

theorem over : Rows.vectorsCheckRow.holds Try.pinned (OpenSpec.ofChange Rows.vectorsCheckSpec) :=
  OpenClaim.holds_of_wide 5 Try.f5 rfl rfl rfl rfl rfl rfl rfl ⟨rfl, rfl, rfl, rfl, rfl⟩ rfl rfl rfl rfl rfl (by kernel_rfl) Try.func5 (by kernel_rfl)
    (of_decide_eq_true (by kernel_rfl)) (by unfold Func.isWrapper; first | (rw [if_pos (by decide +kernel)]; kernel_rfl) | (rw [if_neg (by decide +kernel)]; exact ⟨rfl, rfl⟩))
    (fun os started H enc _ => lifted os started H enc)

theorem proved : Rows.VectorsCheckSaid :=
  over

end Go.Proofs.Ytbcfncdmkgoidaa.vectorsCheck
