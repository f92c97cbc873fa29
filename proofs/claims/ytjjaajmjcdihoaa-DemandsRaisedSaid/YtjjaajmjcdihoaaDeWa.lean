/-
  Walks of package demands: the least and the greatest of a list, whether prices may be, a list turned in its place.
-/
import Derived.Test.YtjjaajmjcdihoaaDeT
import Derived.Test.YtjjaajmjcdihoaaDeO
import Derived.Test.YtjjaajmjcdihoaaVecW
import Derived.Test.YtjjaajmjcdihoaaReg2
import Derived.Lib.MinMax
namespace Go.Proofs.Ytjjaajmjcdihoaa
open Go.RowKit
set_option linter.unusedVariables false

set_option maxRecDepth 100000 in
set_option maxHeartbeats 1000000 in
theorem dmin_any (l : Ls) (w : World) (hl : l.Ok w) (h0 : 0 < l.n) :
    Calls Try.prog 21 #[.slice l.A l.n l.c] w fun e w' => ∃ z : Int, e = .returned (.int .i64 z) ∧ (∀ a, a ≤ z ↔ ∀ y ∈ l.zs, a ≤ y) ∧ w' = w := by
  have tl := Nat.le_trans hl.cap hl.top
  have HL := Lib.hid hl.len
  have lrd := hl.rd
  obtain ⟨lA, ln, lc, lz⟩ := l
  simp only at lrd tl HL h0 ⊢
  unfold maxLen at tl
  have first := lrd.get (k := 0) h0
  obtain ⟨p, q, rfl, hp, u0, hu0, hc0⟩ := first
  have hj0 : 0 < lz.length := by rw [HL.out]; exact h0
  rw [ci64_get _ _ hj0] at hu0
  obtain rfl : iV lz[0] = u0 := Option.some.inj hu0
  unfold iV at hc0
  have HF : Hid (∀ a, a ≤ lz[0] ↔ ∀ y ∈ lz.take 1, a ≤ y) := Lib.hid (by
    rw [List.take_succ_eq_append_getElem hj0]; simp)
  have hz0 : (0 : Int) < ln := by omega
  have g1 : ¬ (ln : Int) < 1 := by omega
  rw [Nat.add_zero] at hc0
  generalize lz[0] = z0 at *
  clear hu0 hj0
  go_enter Try.func21, Try.ntmps21
  go_wp2
  go_loopw [3, 4] (fun m i wr => ∃ (j : Nat) (b : Int), 1 ≤ j ∧ j ≤ ln ∧ i = .int .i64 j ∧ m = .int .i64 b ∧ Hid (∀ a, a ≤ b ↔ ∀ y ∈ lz.take j, a ≤ y) ∧ wr = w) (fun _ i _ => ln - (intOf i).toNat)
  case atStart => exact ⟨1, z0, Nat.le_refl _, h0, rfl, rfl, HF, rfl⟩
  case round =>
    clear hc0 hp HF
    obtain ⟨j, b, hj1, hj, rfl, rfl, hb, rfl⟩ := hrel
    by_cases hlt : j < ln
    · obtain ⟨p2, q2, hA2, hp2, u0, hu0, hc0⟩ := lrd.get hlt
      cases hA2
      have hjl : j < lz.length := by rw [HL.out]; exact hlt
      rw [ci64_get _ _ hjl] at hu0
      obtain rfl : iV lz[j] = u0 := Option.some.inj hu0
      unfold iV at hc0
      have HN : Hid (∀ a, a ≤ min b lz[j] ↔ ∀ y ∈ lz.take (j + 1), a ≤ y) := Lib.hid (fun a => by
        rw [List.take_succ_eq_append_getElem hjl, Int.le_min, hb.out a]
        simp only [List.mem_append, List.mem_singleton]
        exact ⟨fun h y hy => hy.elim (h.1 y) (fun e => e ▸ h.2), fun h => ⟨fun y hy => h y (.inl hy), h _ (.inr rfl)⟩⟩)
      have hi1 : (j : Int) < ln := by omega
      generalize lz[j] = z at *
      clear hu0 hjl hb
      go_wp2
      go_roundw
      case rel => exact ⟨j + 1, _, by omega, by omega, by go_num, rfl, HN, trivial⟩
      case measure => simp [intOf]; omega
    · obtain rfl : j = ln := by omega
      have HN : Hid (∀ a, a ≤ b ↔ ∀ y ∈ lz, a ≤ y) := Lib.hid (by
        have h := hb.out
        rwa [List.take_of_length_le (by rw [HL.out]; exact Nat.le_refl _)] at h)
      clear hb
      go_wp2
      go_ret
      exact ⟨b, rfl, HN.out, rfl⟩

set_option maxRecDepth 100000 in
set_option maxHeartbeats 1000000 in
theorem dmax_any (l : Ls) (w : World) (hl : l.Ok w) (h0 : 0 < l.n) :
    Calls Try.prog 22 #[.slice l.A l.n l.c] w fun e w' => ∃ z : Int, e = .returned (.int .i64 z) ∧ (∀ a, z ≤ a ↔ ∀ y ∈ l.zs, y ≤ a) ∧ w' = w := by
  have tl := Nat.le_trans hl.cap hl.top
  have HL := Lib.hid hl.len
  have lrd := hl.rd
  obtain ⟨lA, ln, lc, lz⟩ := l
  simp only at lrd tl HL h0 ⊢
  unfold maxLen at tl
  have first := lrd.get (k := 0) h0
  obtain ⟨p, q, rfl, hp, u0, hu0, hc0⟩ := first
  have hj0 : 0 < lz.length := by rw [HL.out]; exact h0
  rw [ci64_get _ _ hj0] at hu0
  obtain rfl : iV lz[0] = u0 := Option.some.inj hu0
  unfold iV at hc0
  have HF : Hid (∀ a, lz[0] ≤ a ↔ ∀ y ∈ lz.take 1, y ≤ a) := Lib.hid (by
    rw [List.take_succ_eq_append_getElem hj0]; simp)
  have hz0 : (0 : Int) < ln := by omega
  have g1 : ¬ (ln : Int) < 1 := by omega
  rw [Nat.add_zero] at hc0
  generalize lz[0] = z0 at *
  clear hu0 hj0
  go_enter Try.func22, Try.ntmps22
  go_wp2
  go_loopw [3, 4] (fun m i wr => ∃ (j : Nat) (b : Int), 1 ≤ j ∧ j ≤ ln ∧ i = .int .i64 j ∧ m = .int .i64 b ∧ Hid (∀ a, b ≤ a ↔ ∀ y ∈ lz.take j, y ≤ a) ∧ wr = w) (fun _ i _ => ln - (intOf i).toNat)
  case atStart => exact ⟨1, z0, Nat.le_refl _, h0, rfl, rfl, HF, rfl⟩
  case round =>
    clear hc0 hp HF
    obtain ⟨j, b, hj1, hj, rfl, rfl, hb, rfl⟩ := hrel
    by_cases hlt : j < ln
    · obtain ⟨p2, q2, hA2, hp2, u0, hu0, hc0⟩ := lrd.get hlt
      cases hA2
      have hjl : j < lz.length := by rw [HL.out]; exact hlt
      rw [ci64_get _ _ hjl] at hu0
      obtain rfl : iV lz[j] = u0 := Option.some.inj hu0
      unfold iV at hc0
      have HN : Hid (∀ a, max b lz[j] ≤ a ↔ ∀ y ∈ lz.take (j + 1), y ≤ a) := Lib.hid (fun a => by
        rw [List.take_succ_eq_append_getElem hjl, Int.max_le, hb.out a]
        simp only [List.mem_append, List.mem_singleton]
        exact ⟨fun h y hy => hy.elim (h.1 y) (fun e => e ▸ h.2), fun h => ⟨fun y hy => h y (.inl hy), h _ (.inr rfl)⟩⟩)
      have hi1 : (j : Int) < ln := by omega
      generalize lz[j] = z at *
      clear hu0 hjl hb
      go_wp2
      go_roundw
      case rel => exact ⟨j + 1, _, by omega, by omega, by go_num, rfl, HN, trivial⟩
      case measure => simp [intOf]; omega
    · obtain rfl : j = ln := by omega
      have HN : Hid (∀ a, b ≤ a ↔ ∀ y ∈ lz, y ≤ a) := Lib.hid (by
        have h := hb.out
        rwa [List.take_of_length_le (by rw [HL.out]; exact Nat.le_refl _)] at h)
      clear hb
      go_wp2
      go_ret
      exact ⟨b, rfl, HN.out, rfl⟩

theorem mayPr_of {p : List Int} {a b : Int} (ha : ∀ x, x ≤ a ↔ ∀ y ∈ p, x ≤ y) (hb : ∀ x, b ≤ x ↔ ∀ y ∈ p, y ≤ x) (h1 : 1 ≤ p.length) (h2 : p.length ≤ 8) : mayPr p = (decide (0 ≤ a) && decide (b ≤ 2000000)) := by
  rw [Bool.eq_iff_iff, mayPr_iff, Bool.and_eq_true, decide_eq_true_eq, decide_eq_true_eq, ha, hb]
  exact ⟨fun h => ⟨fun y hy => (h.2.2 y hy).1, fun y hy => (h.2.2 y hy).2⟩, fun h => ⟨h1, h2, fun y hy => ⟨h.1 y hy, h.2 y hy⟩⟩⟩
theorem mayPr_len {p : List Int} (h : ¬ (1 ≤ p.length ∧ p.length ≤ 8)) : mayPr p = false := by
  rw [Bool.eq_false_iff, Ne, mayPr_iff]; exact fun k => h ⟨k.1, k.2.1⟩

set_option maxRecDepth 100000 in
set_option maxHeartbeats 1000000 in
theorem dmay_any (l : Ls) (w : World) (hl : l.Ok w) :
    Calls Try.prog 15 #[.slice l.A l.n l.c] w fun e w' => e = .returned (.bool (mayPr l.zs)) ∧ w' = w := by
  have tl := Nat.le_trans hl.cap hl.top
  have HL := Lib.hid hl.len
  unfold maxLen at tl
  by_cases h1 : 1 ≤ l.n ∧ l.n ≤ 8
  · obtain ⟨h1, h2⟩ := h1
    have hmin := dmin_any l w hl h1
    have hmax := dmax_any l w hl h1
    have HM : Hid (∀ a b, (∀ x, x ≤ a ↔ ∀ y ∈ l.zs, x ≤ y) → (∀ x, b ≤ x ↔ ∀ y ∈ l.zs, y ≤ x) → mayPr l.zs = (decide (0 ≤ a) && decide (b ≤ 2000000))) := Lib.hid fun a b ha hb => mayPr_of ha hb (by rw [HL.out]; exact h1) (by rw [HL.out]; exact h2)
    have g1 : ¬ (l.n : Int) < 1 := by omega
    have g2 : ¬ (8 : Int) < l.n := by omega
    go_enter Try.func15, Try.ntmps15
    go_wp2_with fail
    refine hmin.mono ?_
    rintro e w2 ⟨a, rfl, ha, rfl⟩
    have HA := Lib.hid ha
    clear ha hmin
    by_cases h3 : 0 ≤ a
    · have g3 : ¬ a < 0 := by omega
      go_wp2_with fail
      refine hmax.mono ?_
      rintro e w3 ⟨b, rfl, hb, rfl⟩
      have HR := Lib.hid (HM.out a b HA.out hb)
      clear hb hmax
      go_wp2
      go_ret
      refine ⟨ret_bool ?_, rfl⟩
      rw [HR.out]
      simp [h3]
    · have HR : Hid (mayPr l.zs = false) := Lib.hid (by
        rw [Bool.eq_false_iff, Ne, mayPr_iff]
        exact fun h => h3 ((HA.out 0).2 fun y hy => (h.2.2 y hy).1))
      have g3 : a < 0 := by omega
      clear hmax HM
      go_wp2
      go_ret
      exact ⟨ret_bool HR.out.symm, rfl⟩
  · have HR : Hid (mayPr l.zs = false) := Lib.hid (mayPr_len (by rw [HL.out]; exact h1))
    go_enter Try.func15, Try.ntmps15
    by_cases h2 : 1 ≤ l.n
    · have g1 : ¬ (l.n : Int) < 1 := by omega
      have g2 : (8 : Int) < l.n := by omega
      go_wp2
      go_ret
      exact ⟨ret_bool HR.out.symm, rfl⟩
    · have g1 : (l.n : Int) < 1 := by omega
      go_wp2
      go_ret
      exact ⟨ret_bool HR.out.symm, rfl⟩
end Go.Proofs.Ytjjaajmjcdihoaa
