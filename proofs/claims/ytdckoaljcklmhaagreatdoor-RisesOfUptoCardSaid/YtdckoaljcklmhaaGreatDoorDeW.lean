/-
  Package demands: its walks, Of (pofC) and All (pallDC).
-/
import Derived.Test.YtdckoaljcklmhaaGreatDoorDeD
import Derived.Test.YtdckoaljcklmhaaGreatDoorDeO
import Derived.Test.YtdckoaljcklmhaaGreatDoorVecW
import Derived.Test.YtdckoaljcklmhaaGreatDoorReg2
import Derived.Lib.MinMax
import Derived.Defers
import Derived.DefersIn
import Derived.Shelf.RegionOpenPlain
import Derived.RangeFuncBound
import Derived.RangeFuncCalls
import Derived.RangeFuncLeaves
import Derived.Shelf.Abstract
import Derived.WalkKit
import Derived.OwnWalkIn
import Derived.TacticsInMore
import Derived.LoopNIn
import Derived.LoopIn
import Derived.Test.YtdckoaljcklmhaaGreatDoorSeqR
import Derived.Test.YtdckoaljcklmhaaGreatDoorMarkWb
namespace Go.Proofs.YtdckoaljcklmhaaGreatDoor
set_option linter.unusedVariables false

def gapB (b p : List Int) (k : Nat) : Int := gapD b p (b.length - 1 - k)
def gB (b p : List Int) (m : Nat) : Int := topN (gapB b p) m
def iB (b p : List Int) (m : Nat) : List Int := ((List.range m).filter fun k => decide (gapB b p k = gB b p m)).map fun k => ((b.length - 1 - k : Nat) : Int)
section
variable {b p : List Int} {m : Nat}
theorem gB_succ : gB b p (m + 1) = max (gB b p m) (gapB b p m) := rfl
theorem gB_nonneg : 0 ≤ gB b p m := top_nonneg _ _
theorem iB_gt (h : gB b p m < gapB b p m) : gB b p (m + 1) = gapB b p m ∧ iB b p (m + 1) = [((b.length - 1 - m : Nat) : Int)] := by
  have h1 : gB b p (m + 1) = gapB b p m := by rw [gB_succ]; exact Int.max_eq_right (by omega)
  refine ⟨h1, ?_⟩
  rw [iB, h1, List.range_succ, List.filter_append]
  have h2 : (List.range m).filter (fun k => decide (gapB b p k = gapB b p m)) = [] := by
    refine List.filter_eq_nil_iff.2 fun k hk => ?_
    have h3 : gapB b p k ≤ gB b p m := top_ge (List.mem_range.1 hk)
    simp only [decide_eq_true_eq]; omega
  rw [h2]; simp
theorem iB_eq (h : gapB b p m = gB b p m) : gB b p (m + 1) = gB b p m ∧ iB b p (m + 1) = iB b p m ++ [((b.length - 1 - m : Nat) : Int)] := by
  have h1 : gB b p (m + 1) = gB b p m := by rw [gB_succ]; exact Int.max_eq_left (by omega)
  refine ⟨h1, ?_⟩
  rw [iB, h1, List.range_succ, List.filter_append, List.map_append]
  simp [iB, h]
theorem iB_lt (h : gapB b p m < gB b p m) : gB b p (m + 1) = gB b p m ∧ iB b p (m + 1) = iB b p m := by
  have h1 : gB b p (m + 1) = gB b p m := by rw [gB_succ]; exact Int.max_eq_left (by omega)
  refine ⟨h1, ?_⟩
  have h2 : ¬ gapB b p m = gB b p m := by omega
  rw [iB, h1, List.range_succ, List.filter_append, List.map_append]
  simp [iB, h2]
theorem gB_all : gB b p b.length = gainD b p := by
  refine Int.le_antisymm (top_le gain_nonneg fun k hk => gap_le (by omega)) (gain_le gB_nonneg fun k hk => ?_)
  have h : gapB b p (b.length - 1 - k) ≤ gB b p b.length := top_ge (by omega)
  rwa [gapB, show b.length - 1 - (b.length - 1 - k) = k by omega] at h
theorem range_back : ∀ n : Nat, (List.range n).map (fun k => n - 1 - k) = (List.range n).reverse
  | 0 => rfl
  | n + 1 => by
    rw [List.range_succ, List.reverse_append, List.reverse_singleton, List.singleton_append, ← range_back n, ← List.range_succ, List.range_succ_eq_map, List.map_cons, List.map_map]
    congr 1
    refine List.map_congr_left fun k hk => ?_
    show n + 1 - 1 - (k + 1) = n - 1 - k
    omega
theorem iB_all : (iB b p b.length).reverse = itemsD b p := by
  have h1 : (itemsN b p).reverse = ((List.range b.length).filter fun k => decide (gapB b p k = gB b p b.length)).map fun k => b.length - 1 - k := by
    rw [itemsN, ← List.filter_reverse, ← range_back, List.filter_map, gB_all]
    rfl
  rw [iB, itemsD, ← List.map_reverse]
  rw [← List.reverse_reverse (itemsN b p), h1, List.map_reverse, List.map_reverse, List.map_map]
  rfl
end
/-- k of a list's first and last ones exchanged. -/
def TurnedTo (xs ys : List Int) (k : Nat) : Prop := ys.length = xs.length ∧ ∀ i, i < xs.length → ys[i]? = if i < k ∨ xs.length - k ≤ i then xs[xs.length - 1 - i]? else xs[i]?
theorem TurnedTo.zero (xs : List Int) : TurnedTo xs xs 0 := ⟨rfl, fun i hi => by rw [if_neg (by omega)]⟩
theorem TurnedTo.done {xs ys : List Int} {k : Nat} (h : TurnedTo xs ys k) (hk : xs.length ≤ 2 * k + 1) : ys = xs.reverse := by
  refine List.ext_getElem? fun i => ?_
  by_cases hi : i < xs.length
  · rw [h.2 i hi, List.getElem?_reverse hi]
    split
    · rfl
    · rw [show xs.length - 1 - i = i by omega]
  · rw [List.getElem?_eq_none (by rw [h.1]; omega), List.getElem?_eq_none (by rw [List.length_reverse]; omega)]
theorem TurnedTo.step {xs ys : List Int} {k j : Nat} (h : TurnedTo xs ys k) (hj : j = xs.length - 1 - k) (hk : k < j) {a c : Int} (ha : ys[k]? = some a) (hc : ys[j]? = some c) : TurnedTo xs ((ys.set k c).set j a) (k + 1) := by
  have h1 := h.2 k (by omega)
  have h2 := h.2 j (by omega)
  rw [if_neg (by omega), ha] at h1
  rw [if_neg (by omega), hc] at h2
  refine ⟨by rw [List.length_set, List.length_set]; exact h.1, fun i hi => ?_⟩
  rw [List.getElem?_set, List.length_set, h.1]
  by_cases e1 : j = i
  · rw [if_pos e1, if_pos (by omega), if_pos (by omega), h1]
    congr 1; omega
  · rw [if_neg e1, List.getElem?_set, h.1]
    by_cases e2 : k = i
    · rw [if_pos e2, if_pos (by omega), if_pos (by omega), h2]
      congr 1; omega
    · rw [if_neg e2, h.2 i hi]
      by_cases e3 : i < k ∨ xs.length - k ≤ i
      · rw [if_pos e3, if_pos (by omega)]
      · rw [if_neg e3, if_neg (by omega)]
theorem TurnedTo.swapped {xs ys : List Int} {k j : Nat} (h : TurnedTo xs ys k) (hj : j = xs.length - 1 - k) (hk : k < j) {a c : Int} (ha : ys[k]? = some a) (hc : ys[j]? = some c) : TurnedTo xs ((ys.set j a).set k c) (k + 1) := by
  have := h.step hj hk ha hc
  rwa [List.set_comm _ _ (by omega)] at this
end Go.Proofs.YtdckoaljcklmhaaGreatDoor


namespace Go.Proofs.YtdckoaljcklmhaaGreatDoor
open Go.RowKit
set_option linter.unusedVariables false

set_option maxRecDepth 100000 in
set_option maxHeartbeats 1000000 in
theorem dmin_any (l : Ls) (w : World) (hl : l.Ok w) (h0 : 0 < l.n) :
    Calls Tryz.prog 125 #[.slice l.A l.n l.c] w fun e w' => ∃ z : Int, e = .returned (.int .i64 z) ∧ (∀ a, a ≤ z ↔ ∀ y ∈ l.zs, a ≤ y) ∧ w' = w := by
  have tl := Nat.le_trans hl.cap hl.top
  have HL := Lib.hid hl.len
  have lrd := hl.rd
  obtain ⟨lA, ln, lc, lz⟩ := l
  simp only at lrd tl HL h0 ⊢
  unfold maxLen at tl
  have first := lrd.get (k := 0) h0
  obtain ⟨p, q, rfl, hp, u0, hu0, hc0⟩ := first
  have hj0 : 0 < lz.length := by rw [HL.out]; exact h0
  rw [ci64_get _ _ hj0] at hu0
  obtain rfl : iV lz[0] = u0 := Option.some.inj hu0
  unfold iV at hc0
  have HF : Hid (∀ a, a ≤ lz[0] ↔ ∀ y ∈ lz.take 1, a ≤ y) := Lib.hid (by
    rw [List.take_succ_eq_append_getElem hj0]; simp)
  have hz0 : (0 : Int) < ln := by omega
  have g1 : ¬ (ln : Int) < 1 := by omega
  rw [Nat.add_zero] at hc0
  generalize lz[0] = z0 at *
  clear hu0 hj0
  go_enter Tryz.func125, Tryz.ntmps125
  go_wp2
  go_loopw [3, 4] (fun m i wr => ∃ (j : Nat) (b : Int), 1 ≤ j ∧ j ≤ ln ∧ i = .int .i64 j ∧ m = .int .i64 b ∧ Hid (∀ a, a ≤ b ↔ ∀ y ∈ lz.take j, a ≤ y) ∧ wr = w) (fun _ i _ => ln - (intOf i).toNat)
  case atStart => exact ⟨1, z0, Nat.le_refl _, h0, rfl, rfl, HF, rfl⟩
  case round =>
    clear hc0 hp HF
    obtain ⟨j, b, hj1, hj, rfl, rfl, hb, rfl⟩ := hrel
    by_cases hlt : j < ln
    · obtain ⟨p2, q2, hA2, hp2, u0, hu0, hc0⟩ := lrd.get hlt
      cases hA2
      have hjl : j < lz.length := by rw [HL.out]; exact hlt
      rw [ci64_get _ _ hjl] at hu0
      obtain rfl : iV lz[j] = u0 := Option.some.inj hu0
      unfold iV at hc0
      have HN : Hid (∀ a, a ≤ min b lz[j] ↔ ∀ y ∈ lz.take (j + 1), a ≤ y) := Lib.hid (fun a => by
        rw [List.take_succ_eq_append_getElem hjl, Int.le_min, hb.out a]
        simp only [List.mem_append, List.mem_singleton]
        exact ⟨fun h y hy => hy.elim (h.1 y) (fun e => e ▸ h.2), fun h => ⟨fun y hy => h y (.inl hy), h _ (.inr rfl)⟩⟩)
      have hi1 : (j : Int) < ln := by omega
      generalize lz[j] = z at *
      clear hu0 hjl hb
      go_wp2
      go_roundw
      case rel => exact ⟨j + 1, _, by omega, by omega, by go_num, rfl, HN, trivial⟩
      case measure => simp [intOf]; omega
    · obtain rfl : j = ln := by omega
      have HN : Hid (∀ a, a ≤ b ↔ ∀ y ∈ lz, a ≤ y) := Lib.hid (by
        have h := hb.out
        rwa [List.take_of_length_le (by rw [HL.out]; exact Nat.le_refl _)] at h)
      clear hb
      go_wp2
      go_ret
      exact ⟨b, rfl, HN.out, rfl⟩

set_option maxRecDepth 100000 in
set_option maxHeartbeats 1000000 in
theorem dmax_any (l : Ls) (w : World) (hl : l.Ok w) (h0 : 0 < l.n) :
    Calls Tryz.prog 126 #[.slice l.A l.n l.c] w fun e w' => ∃ z : Int, e = .returned (.int .i64 z) ∧ (∀ a, z ≤ a ↔ ∀ y ∈ l.zs, y ≤ a) ∧ w' = w := by
  have tl := Nat.le_trans hl.cap hl.top
  have HL := Lib.hid hl.len
  have lrd := hl.rd
  obtain ⟨lA, ln, lc, lz⟩ := l
  simp only at lrd tl HL h0 ⊢
  unfold maxLen at tl
  have first := lrd.get (k := 0) h0
  obtain ⟨p, q, rfl, hp, u0, hu0, hc0⟩ := first
  have hj0 : 0 < lz.length := by rw [HL.out]; exact h0
  rw [ci64_get _ _ hj0] at hu0
  obtain rfl : iV lz[0] = u0 := Option.some.inj hu0
  unfold iV at hc0
  have HF : Hid (∀ a, lz[0] ≤ a ↔ ∀ y ∈ lz.take 1, y ≤ a) := Lib.hid (by
    rw [List.take_succ_eq_append_getElem hj0]; simp)
  have hz0 : (0 : Int) < ln := by omega
  have g1 : ¬ (ln : Int) < 1 := by omega
  rw [Nat.add_zero] at hc0
  generalize lz[0] = z0 at *
  clear hu0 hj0
  go_enter Tryz.func126, Tryz.ntmps126
  go_wp2
  go_loopw [3, 4] (fun m i wr => ∃ (j : Nat) (b : Int), 1 ≤ j ∧ j ≤ ln ∧ i = .int .i64 j ∧ m = .int .i64 b ∧ Hid (∀ a, b ≤ a ↔ ∀ y ∈ lz.take j, y ≤ a) ∧ wr = w) (fun _ i _ => ln - (intOf i).toNat)
  case atStart => exact ⟨1, z0, Nat.le_refl _, h0, rfl, rfl, HF, rfl⟩
  case round =>
    clear hc0 hp HF
    obtain ⟨j, b, hj1, hj, rfl, rfl, hb, rfl⟩ := hrel
    by_cases hlt : j < ln
    · obtain ⟨p2, q2, hA2, hp2, u0, hu0, hc0⟩ := lrd.get hlt
      cases hA2
      have hjl : j < lz.length := by rw [HL.out]; exact hlt
      rw [ci64_get _ _ hjl] at hu0
      obtain rfl : iV lz[j] = u0 := Option.some.inj hu0
      unfold iV at hc0
      have HN : Hid (∀ a, max b lz[j] ≤ a ↔ ∀ y ∈ lz.take (j + 1), y ≤ a) := Lib.hid (fun a => by
        rw [List.take_succ_eq_append_getElem hjl, Int.max_le, hb.out a]
        simp only [List.mem_append, List.mem_singleton]
        exact ⟨fun h y hy => hy.elim (h.1 y) (fun e => e ▸ h.2), fun h => ⟨fun y hy => h y (.inl hy), h _ (.inr rfl)⟩⟩)
      have hi1 : (j : Int) < ln := by omega
      generalize lz[j] = z at *
      clear hu0 hjl hb
      go_wp2
      go_roundw
      case rel => exact ⟨j + 1, _, by omega, by omega, by go_num, rfl, HN, trivial⟩
      case measure => simp [intOf]; omega
    · obtain rfl : j = ln := by omega
      have HN : Hid (∀ a, b ≤ a ↔ ∀ y ∈ lz, y ≤ a) := Lib.hid (by
        have h := hb.out
        rwa [List.take_of_length_le (by rw [HL.out]; exact Nat.le_refl _)] at h)
      clear hb
      go_wp2
      go_ret
      exact ⟨b, rfl, HN.out, rfl⟩

theorem mayPr_of {p : List Int} {a b : Int} (ha : ∀ x, x ≤ a ↔ ∀ y ∈ p, x ≤ y) (hb : ∀ x, b ≤ x ↔ ∀ y ∈ p, y ≤ x) (h1 : 1 ≤ p.length) (h2 : p.length ≤ 8) : mayPr p = (decide (0 ≤ a) && decide (b ≤ 2000000)) := by
  rw [Bool.eq_iff_iff, mayPr_iff, Bool.and_eq_true, decide_eq_true_eq, decide_eq_true_eq, ha, hb]
  exact ⟨fun h => ⟨fun y hy => (h.2.2 y hy).1, fun y hy => (h.2.2 y hy).2⟩, fun h => ⟨h1, h2, fun y hy => ⟨h.1 y hy, h.2 y hy⟩⟩⟩
theorem mayPr_len {p : List Int} (h : ¬ (1 ≤ p.length ∧ p.length ≤ 8)) : mayPr p = false := by
  rw [Bool.eq_false_iff, Ne, mayPr_iff]; exact fun k => h ⟨k.1, k.2.1⟩

set_option maxRecDepth 100000 in
set_option maxHeartbeats 1000000 in
theorem dmay_any (l : Ls) (w : World) (hl : l.Ok w) :
    Calls Tryz.prog 109 #[.slice l.A l.n l.c] w fun e w' => e = .returned (.bool (mayPr l.zs)) ∧ w' = w := by
  have tl := Nat.le_trans hl.cap hl.top
  have HL := Lib.hid hl.len
  unfold maxLen at tl
  by_cases h1 : 1 ≤ l.n ∧ l.n ≤ 8
  · obtain ⟨h1, h2⟩ := h1
    have hmin := dmin_any l w hl h1
    have hmax := dmax_any l w hl h1
    have HM : Hid (∀ a b, (∀ x, x ≤ a ↔ ∀ y ∈ l.zs, x ≤ y) → (∀ x, b ≤ x ↔ ∀ y ∈ l.zs, y ≤ x) → mayPr l.zs = (decide (0 ≤ a) && decide (b ≤ 2000000))) := Lib.hid fun a b ha hb => mayPr_of ha hb (by rw [HL.out]; exact h1) (by rw [HL.out]; exact h2)
    have g1 : ¬ (l.n : Int) < 1 := by omega
    have g2 : ¬ (8 : Int) < l.n := by omega
    go_enter Tryz.func109, Tryz.ntmps109
    go_wp2_with fail
    refine hmin.mono ?_
    rintro e w2 ⟨a, rfl, ha, rfl⟩
    have HA := Lib.hid ha
    clear ha hmin
    by_cases h3 : 0 ≤ a
    · have g3 : ¬ a < 0 := by omega
      go_wp2_with fail
      refine hmax.mono ?_
      rintro e w3 ⟨b, rfl, hb, rfl⟩
      have HR := Lib.hid (HM.out a b HA.out hb)
      clear hb hmax
      go_wp2
      go_ret
      refine ⟨ret_bool ?_, rfl⟩
      rw [HR.out]
      simp [h3]
    · have HR : Hid (mayPr l.zs = false) := Lib.hid (by
        rw [Bool.eq_false_iff, Ne, mayPr_iff]
        exact fun h => h3 ((HA.out 0).2 fun y hy => (h.2.2 y hy).1))
      have g3 : a < 0 := by omega
      clear hmax HM
      go_wp2
      go_ret
      exact ⟨ret_bool HR.out.symm, rfl⟩
  · have HR : Hid (mayPr l.zs = false) := Lib.hid (mayPr_len (by rw [HL.out]; exact h1))
    go_enter Tryz.func109, Tryz.ntmps109
    by_cases h2 : 1 ≤ l.n
    · have g1 : ¬ (l.n : Int) < 1 := by omega
      have g2 : (8 : Int) < l.n := by omega
      go_wp2
      go_ret
      exact ⟨ret_bool HR.out.symm, rfl⟩
    · have g1 : (l.n : Int) < 1 := by omega
      go_wp2
      go_ret
      exact ⟨ret_bool HR.out.symm, rfl⟩
end Go.Proofs.YtdckoaljcklmhaaGreatDoor


namespace Go.Proofs.YtdckoaljcklmhaaGreatDoor
open Go.RowKit Go.Shelf
set_option linter.unusedVariables false
attribute [local go_sem] Oper.semAt_some

theorem ci64_setD (ys : List Int) (k : Nat) (a : Int) : (ci64 ys).set k (.int .i64 a) = ci64 (ys.set k a) := by
  unfold ci64; rw [List.map_set]; rfl
set_option maxRecDepth 100000 in
set_option maxHeartbeats 1000000 in
theorem dreverse_any (B : Nat) (A : Option Addr) (n c : Nat) (zs : List Int) (w : World) (own : Own w B 3 A n c (ci64 zs)) :
    Calls Tryz.prog 134 #[.slice A n c] w fun e w' => e = .returned (.tuple #[]) ∧ Own w' B 3 A n c (ci64 zs.reverse) ∧ w.heap.size ≤ w'.heap.size ∧
      (∀ k, ((n = 0 ∧ c = 0) ∨ A ≠ some ⟨k, 0, none⟩) → w'.heap[k]? = w.heap[k]?) ∧ Below B w w' := by
  have tn := Nat.le_trans own.le own.cap
  unfold maxLen at tn
  have HL : Hid (zs.length = n) := Lib.hid (by have := own.len; rwa [ci64_len] at this)
  have s0 : IntKind.i64.wrap ((n : Int) - 1) = (n : Int) - 1 := by rw [IntKind.wrap_i64]; omega
  have mixed : Tryz.prog.follows .mixedOrders = true := by kernel_rfl
  go_enter Tryz.func134, Tryz.ntmps134
  go_wp2_with fail
  go_loopw [2, 3] (fun i j wr => ∃ (k : Nat) (ys : List Int), k ≤ n ∧ i = .int .i64 k ∧ j = .int .i64 ((n : Int) - 1 - k) ∧ Hid (TurnedTo zs ys k) ∧ Own wr B 3 A n c (ci64 ys) ∧ w.heap.size ≤ wr.heap.size ∧
      (∀ k, ((n = 0 ∧ c = 0) ∨ A ≠ some ⟨k, 0, none⟩) → wr.heap[k]? = w.heap[k]?) ∧ Below B w wr) (fun i _ _ => n - (intOf i).toNat)
  case atStart => exact ⟨0, zs, Nat.zero_le _, rfl, by first | rfl | (rw [s0]; rfl) | simp, Lib.hid (TurnedTo.zero zs), own, Nat.le_refl _, fun _ _ => rfl, Below.refl _ _⟩
  case round =>
    obtain ⟨k, ys, hk, rfl, rfl, ht, ho, hsz, hfr, hbl⟩ := hrel
    clear own s0
    by_cases hlt : (k : Int) < (n : Int) - 1 - k
    · obtain ⟨j, hj⟩ : ∃ j : Nat, j = n - 1 - k := ⟨_, rfl⟩
      have hjz : (n : Int) - 1 - k = j := by omega
      have hkj : k < j := by omega
      have hjn : j < n := by omega
      have hkn : k < n := by omega
      have hc := ho.le
      obtain ⟨g, rfl, hBg, hgs⟩ := ho.lt (by omega)
      have hyl : ys.length = n := by have := ho.len; rwa [ci64_len] at this
      obtain ⟨a, ha⟩ : ∃ a, ys[k]? = some a := ⟨_, List.getElem?_eq_getElem (by omega)⟩
      obtain ⟨d, hd⟩ : ∃ d, ys[j]? = some d := ⟨_, List.getElem?_eq_getElem (by omega)⟩
      have ck : wr.cell? ⟨g, k, none⟩ = some (.int .i64 a) := by
        rw [ho.cell hkn, ci64, List.getElem?_map, ha]; rfl
      have cj : wr.cell? ⟨g, j, none⟩ = some (.int .i64 d) := by
        rw [ho.cell hjn, ci64, List.getElem?_map, hd]; rfl
      have fk := ho.free (by omega) k
      have fj := ho.free (by omega) j
      have HT : Hid (TurnedTo zs ((ys.set k d).set j a) (k + 1) ∧ TurnedTo zs ((ys.set j a).set k d) (k + 1)) := Lib.hid ⟨ht.out.step (by rw [HL.out]; exact hj) hkj ha hd, ht.out.swapped (by rw [HL.out]; exact hj) hkj ha hd⟩
      have hkj' : (k : Int) < (j : Int) := by omega
      have hkn' : (k : Int) < (n : Int) := by omega
      have hjn' : (j : Int) < (n : Int) := by omega
      have HJ := Lib.hid hjz
      have HO := Lib.hid ho
      have HF := Lib.hid hfr
      rw [hjz]
      clear ha hd hyl ht hjz hj ho hlt hfr
      go_wp2_with fail
      go_region_o
      go_wp2
      go_roundw
      case rel =>
        have o1 := (HO.out.set (by omega) k (.int .i64 d)).set (by omega) j (.int .i64 a)
        rw [ci64_setD, ci64_setD] at o1
        have b1 := (hbl.setCell (p := ⟨g, k, none⟩) hBg (.int .i64 d)).setCell (p := ⟨g, j, none⟩) hBg (.int .i64 a)
        refine ⟨k + 1, _, by omega, by go_num, ?_, Lib.hid HT.out.1, o1, b1.size, fun i hi => ?_, b1.drew⟩
        · have := HJ.out
          congr 1; omega
        · have hne : i ≠ g := fun e => (hi.resolve_left (by omega)) (by rw [e])
          refine Eq.trans ?_ (HF.out i hi)
          exact (heap_setCell_other _ ⟨g, j, none⟩ i _ hne).trans (heap_setCell_other _ ⟨g, k, none⟩ i _ hne)
      case measure => simp [intOf]; omega
    · have HR : Hid (ys = zs.reverse) := Lib.hid (ht.out.done (by rw [HL.out]; omega))
      have hno : ¬ (k : Int) < (n : Int) - 1 - k := hlt
      clear ht
      go_wp2
      go_end0
      rw [← HR.out]
      exact ⟨rfl, ho, hsz, hfr, hbl⟩

/-! What goes through a list from its last one on. -/
abbrev BackOf (zs : List Int) := { x : Nat × Int // x.1 < zs.length ∧ zs.getD x.1 0 = x.2 }
def encBack {zs : List Int} (x : BackOf zs) : Array Value := #[.int .i64 (x.1.1 : Int), .int .i64 x.1.2]
def backL (zs : List Int) (m : Nat) : List (Nat × Int) := (List.range m).map fun k => (zs.length - 1 - k, zs.getD (zs.length - 1 - k) 0)
theorem backL_succ (zs : List Int) (m : Nat) : backL zs (m + 1) = backL zs m ++ [(zs.length - 1 - m, zs.getD (zs.length - 1 - m) 0)] := by
  rw [backL, List.range_succ, List.map_append]; rfl
theorem backL_len (zs : List Int) (m : Nat) : (backL zs m).length = m := by simp [backL]
set_option maxHeartbeats 1000000 in
theorem dback_any (u : Ls) (w : World) : Calls Tryz.prog 135 #[.slice u.A u.n u.c] w fun e w' => e = .returned (.func (.func 142) #[] #[.pointer (some ⟨w.heap.size, 0, none⟩)]) ∧ w' = w.alloc (.cells #[.slice u.A u.n u.c] 22) := by
  go_enter Tryz.func135, Tryz.ntmps135
  go_wp2
  go_ret
  exact ⟨rfl, rfl⟩
set_option maxRecDepth 100000 in
set_option maxHeartbeats 1000000 in
theorem dback1_seq (u : Ls) (pb : Nat) (w : World) :
    SeqE Tryz.prog 142 #[.pointer (some ⟨pb, 0, none⟩)] (encBack (zs := u.zs)) (fun _ _ _ => True) (fun W => Boxed W pb 22 (.slice u.A u.n u.c) ∧ u.Ok W) (fun ys => ys.map (·.1) = backL u.zs u.n) u.n w := by
  intro l J W hW hk hJ hY h0
  obtain ⟨hb, hu⟩ := hk
  have HL := Lib.hid hu.len
  have tn := Nat.le_trans hu.cap hu.top
  unfold maxLen at tn
  have s0 : IntKind.i64.wrap ((u.n : Int) - 1) = (u.n : Int) - 1 := by rw [IntKind.wrap_i64]; omega
  refine (callsIn_wide (n := 4)).1 ?_
  refine callsIn_of_wp Tryz.func142 rfl trivial ?_ rfl
  simp only [Tryz.ntmps142, List.size_toArray, List.length_cons, List.length_nil, Nat.reduceAdd, Nat.reduceSub, Array.replicate_succ, Array.replicate_zero, List.push_toArray, List.append_toArray, List.nil_append, List.cons_append]
  have hcb := hb.cell
  gi_wp2
  gi_loopw [3] (fun i wr => ∃ (k : Nat) (pre : List (BackOf u.zs)), k ≤ u.n ∧ i = .int .i64 ((u.n : Int) - 1 - k) ∧ Hid (pre.map (·.1) = backL u.zs k) ∧ J pre wr ∧ Boxed wr pb 22 (.slice u.A u.n u.c) ∧ u.Ok wr) (fun i _ => match i with | .int _ z => (z + 1).toNat | _ => 0)
  case atStart => exact ⟨0, [], Nat.zero_le _, by simp, Lib.hid rfl, h0, hb, hu⟩
  case round =>
    clear hcb hb hu h0 s0
    obtain ⟨k, pre, hk, rfl, hpre, hJs, hbw, huw⟩ := hrel
    have hcb := hbw.cell
    by_cases hlt : k < u.n
    · obtain ⟨j, hj⟩ : ∃ j : Nat, j = u.n - 1 - k := ⟨_, rfl⟩
      have hjn : j < u.n := by omega
      have hjz : (u.n : Int) - 1 - k = j := by omega
      rw [hjz]
      obtain ⟨p, q, hA, hp, u0, hu0, hc0⟩ := huw.rd.get hjn
      have hjl : j < u.zs.length := by rw [HL.out]; exact hjn
      rw [ci64_get _ _ hjl] at hu0
      obtain rfl : iV u.zs[j] = u0 := Option.some.inj hu0
      unfold iV at hc0
      have hj1 : (j : Int) < u.n := by omega
      have hgd : u.zs.getD j 0 = u.zs[j] := by rw [List.getD_eq_getElem?_getD, List.getElem?_eq_getElem hjl]; rfl
      rw [← hgd] at hc0
      obtain ⟨z, hz⟩ : ∃ z, u.zs.getD j 0 = z := ⟨_, rfl⟩
      rw [hz] at hc0
      have HX : Hid (j < u.zs.length ∧ u.zs.getD j 0 = z) := Lib.hid ⟨hjl, hz⟩
      have hbk : backL u.zs (k + 1) = backL u.zs k ++ [(j, z)] := by rw [backL_succ, HL.out, ← hj, hz]
      have HP := Lib.hid (show (pre ++ [(⟨(j, z), HX.out⟩ : BackOf u.zs)]).map (·.1) = backL u.zs (k + 1) by
        rw [List.map_append, hpre.out, hbk]; rfl)
      have hlen : pre.length < u.n := by
        have h2 := backL_len u.zs k
        rw [← hpre.out, List.length_map] at h2
        omega
      obtain ⟨fn, tmps, assign, body, hy, hR⟩ := hY pre ⟨(j, z), HX.out⟩ wr wr hJs ⟨hbw, huw⟩ hlen (Cel.refl _) (Below.refl _ _) trivial
      unfold encBack at hy
      dsimp only at hy
      have s1 : IntKind.i64.wrap ((j : Int) - 1) = (j : Int) - 1 := by rw [IntKind.wrap_i64]; omega
      have HJ := Lib.hid (And.intro hj hjz)
      have HA := Lib.hid hA
      rw [hA] at hcb
      clear hu0 hgd hz hjl hA hjz hj hbk
      gi_wp2
      refine hR.mono ?_
      rintro e W3 ⟨rfl, hJ3, ⟨hb3, hu3⟩, -⟩
      have hcb3 := hb3.cell
      gi_wp2
      go_roundw
      case rel => exact ⟨k + 1, _, by omega, by have := HJ.out; first | (congr 1; omega) | (simp; omega), HP, hJ3, hb3, hu3⟩
      case measure =>
        show ((j : Int) - 1 + 1).toNat < ((j : Int) + 1).toNat
        omega
    · obtain rfl : k = u.n := by omega
      have hno : ¬ (0 : Int) ≤ (u.n : Int) - 1 - u.n := by omega
      gi_wp2
      go_end0
      exact ⟨⟨_, rfl⟩, pre, hpre.out, hJs⟩
end Go.Proofs.YtdckoaljcklmhaaGreatDoor


namespace Go.Proofs.YtdckoaljcklmhaaGreatDoor
open Go.RowKit Go.Shelf
set_option linter.unusedVariables false
attribute [local go_sem] Oper.semAt_some

/-- An element put behind what the call has made, in whatever round. -/
theorem wpListIn_app1 {F : Fence} {m : Nat} {P : Program} {ops : Array Oper} {rest : List Oper} {o : Oper} {a : Act} {Q : Exit → Act → World → Prop} {u : Value} {e1 : TypeId} {w : World} (hgd : o.guard = none) (s x : Operand) (t : TypeId)
    (ho : o.op = .call { callee := .builtin .append, args := #[s, x], argTypes := #[t, t] })
    (e : TypeId) (i : TypeInfo) (z : Value) (bytes : Nat) (ht : P.underlying t = some (.slice e)) (hi : P.info? e = some i) (hz : i.zero = some z)
    (hsize : i.size = 1) (hby : i.bytes = bytes) (hzs : z.cells.size = 1)
    (B : Nat) (A : Option Addr) (n c : Nat) (xs : List Value) (hs : a.eval s = .slice A n c) (hown : Own w B e A n c xs)
    (c' : Nat) (hx : a.eval x = .slice (some ⟨w.heap.size, 0, none⟩) 1 c') (h1 : u.oneCell' = true)
    (h63 : n + 1 ≤ maxLen) (hbytes : (n + 1) * bytes ≤ 140737488355328) (hB : B ≤ w.heap.size)
    (h : ∀ A2 c2 w', Own w' B e A2 (n + 1) c2 (xs ++ [u]) → Below B w w' → (∀ k, k < w.heap.size → ((n = 0 ∧ c = 0) ∨ A ≠ some ⟨k, 0, none⟩) → w'.heap[k]? = w.heap[k]?) →
      w.heap.size ≤ w'.heap.size → wpListIn F m P ops Q rest (a.put o.dst (.slice A2 (n + 1) c2)) w') : wpListIn F m P ops Q (o :: rest) a (w.alloc (.cells #[u] e1)) := by
  refine wpListIn_plain hgd fun K hK' => ?_
  obtain ⟨A2, c2, w', hrun, h2, h3, h4, h5⟩ := run_app (P := P) (w.alloc (.cells #[u] e1)) t o.type e i z bytes ht hi hz hsize hby hzs B A n c xs (hown.alloc _) (some ⟨w.heap.size, 0, none⟩) 1 c' [u]
    ⟨rfl, fun _ => ⟨w.heap.size, 0, rfl, fun j hj => by
      obtain rfl : j = 0 := by omega
      rw [cell_of_row _ _ _ _ _ _ (heap_alloc_new w _)]
      rfl⟩⟩ (by simpa using h1) h63 hbytes (by simp; omega)
  unfold Oper.wpIn
  refine ⟨?_, ?_⟩
  · simp [Oper.about, ho, resolve, Target.leads, Sem.run_pure]
  · rw [Oper.semAt_plain F _ _ (by rw [ho]; intro c hc'; cases hc')]
    simp [execOp, ho, resolve, invoke, builtin, hs, hx, hrun, Result.andThen]
    refine hK' _ _ (h A2 c2 w' h2 (((Below.refl B w).alloc hB _).trans h3) (fun k hk hne => ?_) ?_)
    · rw [h4 k (by simp; omega) hne]
      exact Below.heap_alloc w _ k hk
    · have := h3.size; simp at this; omega

set_option maxRecDepth 100000 in
set_option maxHeartbeats 1000000 in
theorem dmost1_any (m pb B : Nat) (A : Option Addr) (n c : Nat) (zs : List Int) (u : FrameMode) (w : World) (hb : Boxed w pb 22 (.slice A n c)) (own : Own w B 3 A n c (ci64 zs)) :
    CallsDIn Fence.wide m Tryz.prog 133 #[.pointer (some ⟨pb, 0, none⟩)] u w fun e u' w' => u' = u ∧ (e = .returned (.tuple #[]) ∧ Own w' B 3 A n c (ci64 zs.reverse) ∧ w.heap.size ≤ w'.heap.size ∧
      (∀ k, ((n = 0 ∧ c = 0) ∨ A ≠ some ⟨k, 0, none⟩) → w'.heap[k]? = w.heap[k]?) ∧ Below B w w') := by
  refine callsDIn_of_wp Tryz.func133 rfl trivial ?_ rfl
  simp only [Tryz.ntmps133, List.size_toArray, List.length_cons, List.length_nil, Nat.reduceAdd, Nat.reduceSub, Array.replicate_succ, Array.replicate_zero, List.push_toArray, List.append_toArray, List.nil_append, List.cons_append]
  refine wpIn_wide.2 ?_
  have hc := hb.cell
  have hrv := dreverse_any B A n c zs w own
  go_wp2_with fail
  refine hrv.mono ?_
  rintro e w' ⟨rfl, h⟩
  clear hrv
  go_wp2
  go_end0
  exact ⟨rfl, h⟩

theorem infoDe_int : (Tryz.prog.info? 3).map (fun i => (i.zero, i.size, i.bytes)) = some (some (.int .i64 0), 1, 8) := by kernel_rfl
/-- What is found so far. -/
def stepMD (p : List Int) (s : List Int × Int) (x : Nat × Int) : List Int × Int :=
  if s.2 < x.2 - p.getD x.1 0 then ([(x.1 : Int)], x.2 - p.getD x.1 0) else if x.2 - p.getD x.1 0 = s.2 then (s.1 ++ [(x.1 : Int)], s.2) else s
def stM (p : List Int) (l : List (Nat × Int)) : List Int × Int := l.foldl (stepMD p) ([], 0)
theorem stM_snoc (p : List Int) (l : List (Nat × Int)) (x : Nat × Int) : stM p (l ++ [x]) = stepMD p (stM p l) x := by
  rw [stM, List.foldl_append]; rfl
theorem stepM_len (p : List Int) (s : List Int × Int) (x : Nat × Int) : (stepMD p s x).1.length ≤ s.1.length + 1 := by
  rw [stepMD]
  split
  · simp
  · split
    · simp
    · simp
theorem stM_len (p : List Int) (l : List (Nat × Int)) : (stM p l).1.length ≤ l.length := by
  have h : ∀ (l : List (Nat × Int)) (s : List Int × Int), (l.foldl (stepMD p) s).1.length ≤ s.1.length + l.length := by
    intro l
    induction l with
    | nil => intro s; simp
    | cons x l ih =>
      intro s
      have h1 := ih (stepMD p s x)
      have h2 := stepM_len p s x
      rw [List.foldl_cons, List.length_cons]; omega
  have := h l ([], 0)
  rw [stM]; simpa using this
theorem stM_back (b p : List Int) : ∀ m, m ≤ b.length → stM p (backL b m) = (iB b p m, gB b p m)
  | 0, _ => rfl
  | m + 1, hm => by
    rw [backL_succ, stM_snoc, stM_back b p m (by omega), stepMD]
    have hg : b.getD (b.length - 1 - m) 0 - p.getD (b.length - 1 - m) 0 = gapB b p m := rfl
    simp only [hg]
    by_cases h1 : gB b p m < gapB b p m
    · rw [if_pos h1, (iB_gt h1).1, (iB_gt h1).2]
    · rw [if_neg h1]
      by_cases h2 : gapB b p m = gB b p m
      · rw [if_pos h2, (iB_eq h2).1, (iB_eq h2).2]
      · rw [if_neg h2, (iB_lt (by omega)).1, (iB_lt (by omega)).2]

theorem itemsD_fit {b p : List Int} (z : Int) (h : z ∈ itemsD b p) : 0 ≤ z ∧ z < b.length := by
  rw [itemsD, List.mem_map] at h
  obtain ⟨k, hk, rfl⟩ := h
  have := (mem_itemsN.1 hk).1
  omega
theorem others_appD {w w' : World} {B n c : Nat} {e : TypeId} {A : Option Addr} {xs : List Value} (h : Own w B e A n c xs) (hs : w.heap.size ≤ w'.heap.size) (hf : ∀ k, k < w.heap.size → ((n = 0 ∧ c = 0) ∨ A ≠ some ⟨k, 0, none⟩) → w'.heap[k]? = w.heap[k]?) : KeepsOthers w w' := by
  refine ⟨hs, fun k o hk ho => ?_⟩
  rw [hf k (Array.getElem?_eq_some_iff.1 hk).1 ?_]
  · exact hk
  · by_cases hc : c = 0
    · exact .inl ⟨by have := h.le; omega, hc⟩
    · right
      obtain ⟨g, cur, hA, hg, hh, r⟩ := h.2.resolve_left (by omega)
      intro he
      rw [hA] at he
      cases he
      rw [hh] at hk; cases hk; simp [Obj.isCells] at ho
theorem own_past {w : World} {B n c k : Nat} {e : TypeId} {A : Option Addr} {xs : List Value} (h : Own w B e A n c xs) (hk : k < B) : (n = 0 ∧ c = 0) ∨ A ≠ some ⟨k, 0, none⟩ := by
  by_cases hc : c = 0
  · exact .inl ⟨by have := h.le; omega, hc⟩
  · right
    obtain ⟨g, hA, hg, _⟩ := h.lt (by omega)
    intro he
    rw [hA] at he
    cases he
    omega
set_option maxRecDepth 100000 in
set_option maxHeartbeats 1000000 in
theorem dmost_any (b y : Ls) (w : World) (hb : b.Ok w) (hy : y.Ok w) (hm : mayD b.zs y.zs = true) :
    Calls Tryz.prog 122 #[.slice b.A b.n b.c, .slice y.A y.n y.c] w fun e w' => ∃ A n c, e = .returned (.tuple #[.slice A n c, .int .i64 (gainD b.zs y.zs)]) ∧ OwnI w' w.heap.size ⟨A, n, c, itemsD b.zs y.zs⟩ ∧ Below w.heap.size w w' := by
  have hmf : ∀ (fn : Fn) (first cap : Array Value) (w : World), (Instr.makeFunc fn first cap).run Tryz.prog w = .ok (.func fn first cap) w := fun _ _ _ _ => rfl
  obtain ⟨m1, m2, m3, m4, m5⟩ := mayD_len hm
  rw [hy.len] at m1 m2
  have HBL := Lib.hid hb.len
  have HYL := Lib.hid hy.len
  have hbn : b.n ≤ y.n := by
    rcases m3 with h | h
    · have := hb.len; rw [h] at this; simp at this; omega
    · have := hb.len; have := hy.len; omega
  have HM4 := Lib.hid m4
  have HM5 := Lib.hid m5
  clear m3 m4 m5
  obtain ⟨i0, hi0, hz0, hz1, hz2⟩ := info_parts infoDe_int
  refine (callsIn_wide (n := 3)).1 ?_
  refine callsIn_of_wp_marks Tryz.func122 rfl trivial ?_ rfl
  simp only [Tryz.ntmps122, List.size_toArray, List.length_cons, List.length_nil, Nat.reduceAdd, Nat.reduceSub, Array.replicate_succ, Array.replicate_zero, List.push_toArray, List.append_toArray, List.nil_append, List.cons_append]
  refine wpIn_wide.2 ?_
  go_wp2_with fail
  refine (dback_any b _).mono ?_
  rintro e w' ⟨rfl, rfl⟩
  go_wp2
  have hB1 : Below w.heap.size w ((((w.alloc (.cells #[.slice y.A y.n y.c] 22)).alloc (.cells #[.slice none 0 0] 22)).alloc (.cells #[.int .i64 0] 3)).alloc (.cells #[.slice b.A b.n b.c] 22)) := ((((Below.refl _ w).alloc (Nat.le_refl _) _).alloc (by simp) _).alloc (by simp; omega) _).alloc (by simp; omega) _
  have bY := (((Boxed.new w 22 (.slice y.A y.n y.c)).alloc (.cells #[.slice none 0 0] 22)).alloc (.cells #[.int .i64 0] 3)).alloc (.cells #[.slice b.A b.n b.c] 22)
  have bI := ((Boxed.new (w.alloc (.cells #[.slice y.A y.n y.c] 22)) 22 (.slice none 0 0)).alloc (.cells #[.int .i64 0] 3)).alloc (.cells #[.slice b.A b.n b.c] 22)
  have bG := (Boxed.new ((w.alloc (.cells #[.slice y.A y.n y.c] 22)).alloc (.cells #[.slice none 0 0] 22)) 3 (.int .i64 0)).alloc (.cells #[.slice b.A b.n b.c] 22)
  have bB := Boxed.new (((w.alloc (.cells #[.slice y.A y.n y.c] 22)).alloc (.cells #[.slice none 0 0] 22)).alloc (.cells #[.int .i64 0] 3)) 22 (.slice b.A b.n b.c)
  have hs1 : ((((w.alloc (.cells #[.slice y.A y.n y.c] 22)).alloc (.cells #[.slice none 0 0] 22)).alloc (.cells #[.int .i64 0] 3)).alloc (.cells #[.slice b.A b.n b.c] 22)).heap.size = w.heap.size + 4 := by simp
  simp only [World.size_alloc] at bI bG bB
  obtain ⟨yb, hyb⟩ : ∃ yb, yb = w.heap.size := ⟨_, rfl⟩
  obtain ⟨ib, hib⟩ : ∃ ib, ib = w.heap.size + 1 := ⟨_, rfl⟩
  obtain ⟨gb, hgb⟩ : ∃ gb, gb = w.heap.size + 1 + 1 := ⟨_, rfl⟩
  obtain ⟨bb, hbb⟩ : ∃ bb, bb = w.heap.size + 1 + 1 + 1 := ⟨_, rfl⟩
  obtain ⟨B0, hB0⟩ : ∃ B0, B0 = w.heap.size + 4 := ⟨_, rfl⟩
  rw [← hbb, ← hgb, ← hib, ← hyb]
  rw [← hib] at bI
  rw [← hgb] at bG
  rw [← hbb] at bB
  rw [← hyb] at bY
  rw [← hB0] at hs1
  have HN := Lib.hid (And.intro hyb (And.intro hib (And.intro hgb (And.intro hbb hB0))))
  generalize (((w.alloc (.cells #[.slice y.A y.n y.c] 22)).alloc (.cells #[.slice none 0 0] 22)).alloc (.cells #[.int .i64 0] 3)).alloc (.cells #[.slice b.A b.n b.c] 22) = w1 at hB1 bY bI bG bB hs1 ⊢
  clear hyb hib hgb hbb hB0
  refine (wpIn_wide (n := 3)).1 ?_
  refine range_seqE (n := 3) (by omega) (gf := 142) (lb := #[.pointer (some ⟨bb, 0, none⟩)]) rfl (enters_of Tryz.func142 (by kernel_rfl) rfl)
    (dback1_seq b bb w1) (Below.refl _ _) (fun _ => rfl) (fun _ _ _ _ _ h => h) (fun _ _ hc h => ⟨boxed_cel h.1 hc, h.2.cel hc⟩) ⟨bB, hb.below hB1⟩
    (fun pre W => ∃ A n c, Boxed W ib 22 (.slice A n c) ∧ Own W B0 3 A n c (ci64 (stM y.zs (pre.map (·.1))).1) ∧ Boxed W gb 3 (.int .i64 (stM y.zs (pre.map (·.1))).2) ∧ Boxed W yb 22 (.slice y.A y.n y.c) ∧ Below w.heap.size w W ∧ B0 ≤ W.heap.size)
    (fun s a c hc hbl h => by
      obtain ⟨A, n, k, h1, h2, h3, h4, h5, h6⟩ := h
      exact ⟨A, n, k, boxed_cel h1 hc, h2.cel hc, boxed_cel h3 hc, boxed_cel h4 hc, h5.trans (hbl.mono hB1.size), by have := hc.size; omega⟩)
    ⟨none, 0, 0, bI, Own.none_ _ _ _ _, bG, bY, hB1, by omega⟩
    (fun x a' _ => a' = { tmps := #[.slice b.A b.n b.c, .slice y.A y.n y.c, undef, .pointer (some ⟨yb, 0, none⟩), .pointer (some ⟨ib, 0, none⟩), .pointer (some ⟨gb, 0, none⟩), .int .i64 (x.1.1 : Int), .int .i64 x.1.2, undef, .func (.func 133) #[] #[.pointer (some ⟨ib, 0, none⟩)], .slice b.A b.n b.c, .func (.func 142) #[] #[.pointer (some ⟨bb, 0, none⟩)], .int .i64 (x.1.1 : Int), .int .i64 x.1.2, undef, undef, undef, undef, undef, undef, undef, undef, undef, undef, undef, undef, undef, undef, undef, undef, undef, undef, undef], defers := [] })
    (fun _ _ _ _ _ h => h) ?assign ?body ?done
  case assign =>
    intro l pre x B W K hI hE hV hK
    simp only [encBack, List.zip_toArray, List.zip_cons_cons, List.zip_nil_right, List.foldl_toArray', List.foldl_cons, List.foldl_nil, List.size_toArray, List.setIfInBounds_toArray, List.set_cons_succ, List.set_cons_zero]
    gi_wp2
    exact hK _ _ (Below.refl _ _) rfl
  case body =>
    rintro l pre ⟨⟨k, z⟩, hx1, hx2⟩ a' W0 W ⟨A, n, c, jI, jO, jG, jY, jB, hw0⟩ hlen hcel hbel - rfl ⟨kB, kO⟩
    dsimp only at hx1 hx2 ⊢
    have cI := boxed_cel jI hcel
    have oI := jO.cel hcel
    have cG := boxed_cel jG hcel
    have cY := boxed_cel jY hcel
    have hBW := jB.trans (hbel.mono hB1.size)
    have hyW := hy.below hBW
    have hszW : B0 ≤ W.heap.size := by have := hcel.size; have := hw0; omega
    clear jI jO jG jY jB hcel hbel hw0 W0 bY bI bG bB
    have hky : k < y.n := by rw [HBL.out] at hx1; omega
    have hky1 : (k : Int) < y.n := by omega
    obtain ⟨p, q, hA, hp, u0, hu0, hc0⟩ := hyW.rd.get hky
    have hjl : k < y.zs.length := by rw [HYL.out]; exact hky
    rw [ci64_get _ _ hjl] at hu0
    obtain rfl : iV y.zs[k] = u0 := Option.some.inj hu0
    unfold iV at hc0
    have hgd : y.zs.getD k 0 = y.zs[k] := by rw [List.getD_eq_getElem?_getD, List.getElem?_eq_getElem hjl]; rfl
    rw [← hgd] at hc0
    have hvr : 0 ≤ y.zs.getD k 0 ∧ y.zs.getD k 0 ≤ 2000000 := by rw [hgd]; exact HM5.out _ (List.getElem_mem hjl)
    have hzr : 0 ≤ z ∧ z ≤ 1000000 := by
      rw [List.getD_eq_getElem?_getD, List.getElem?_eq_getElem hx1] at hx2
      have hx2' : b.zs[k] = z := hx2
      rw [← hx2']; exact HM4.out _ (List.getElem_mem hx1)
    have HK : Hid (stM y.zs ((pre ++ [(⟨(k, z), hx1, hx2⟩ : BackOf b.zs)]).map (·.1)) = stepMD y.zs (stM y.zs (pre.map (·.1))) (k, z)) := Lib.hid (by
      rw [List.map_append]; exact stM_snoc _ _ _)
    have hl0 := stM_len y.zs (pre.map (·.1))
    rw [List.length_map] at hl0
    unfold stepMD at HK
    generalize stM y.zs (pre.map (·.1)) = st at oI cG HK hl0
    obtain ⟨I0, g0⟩ := st
    dsimp only at oI cG HK hl0
    obtain ⟨v, hv⟩ : ∃ v, y.zs.getD k 0 = v := ⟨_, rfl⟩
    rw [hv] at hc0 hvr HK
    have s1 : IntKind.i64.wrap (z - v) = z - v := by rw [IntKind.wrap_i64]; omega
    have cyW := cY.cell
    have cgW := cG.cell
    have ciW := cI.cell
    have fgW := cG.frozen
    have fiW := cI.frozen
    have HA := Lib.hid hA
    rw [hA] at cyW
    have hnl : n ≤ 8 := by have := oI.len; rw [ci64_len] at this; omega
    have hn1 : w.heap.size ≤ ib ∧ w.heap.size ≤ gb ∧ w.heap.size ≤ B0 ∧ ib < B0 ∧ gb < B0 ∧ yb < B0 ∧ bb < B0 := by have := HN.out; omega
    have hn2 : ib ≠ gb ∧ gb ≠ ib ∧ yb ≠ ib ∧ yb ≠ gb ∧ bb ≠ ib ∧ bb ≠ gb := by have := HN.out; omega
    have hne1 : ¬ ib = gb := hn2.1
    have hne2 : ¬ gb = ib := hn2.2.1
    have HN1 := Lib.hid hn1
    have HN2 := Lib.hid hn2
    have hWs : B0 ≤ W.heap.size := by omega
    have hlr : I0.length = n := by have := oI.len; rwa [ci64_len] at this
    have HL0 := Lib.hid hlr
    clear hu0 hgd hjl hA hv hn1 hn2 hlr hvr hzr
    by_cases h1 : g0 < z - v
    · have h2 : (z - v == z - v) = true := by simp
      have HS : Hid (stM y.zs ((pre ++ [(⟨(k, z), hx1, hx2⟩ : BackOf b.zs)]).map (·.1)) = ([(k : Int)], z - v)) := Lib.hid (by rw [HK.out, if_pos h1])
      clear HK
      gi_wp2_with (gi_at_builtin; go_must (refine wpListIn_app1 (w := (W.setCell ⟨ib, 0, none⟩ (.slice none 0 0)).setCell ⟨gb, 0, none⟩ (.int .i64 (z - v))) rfl _ _ 22 rfl 3 i0 _ 8 Tryz.underlying22 hi0 hz0 hz1 hz2 rfl B0 none 0 0 [] (by rfl) (Own.none_ _ _ _ _) _ (by simp; rfl) rfl (by decide) (by omega) (by simp; exact hWs) ?_))
      intro A2 c2 W3 own3 bel3 fr3 sz3
      have eI := boxed_keep (cI.set (.slice none 0 0)) (heap_setCell_other _ ⟨gb, 0, none⟩ ib (.int .i64 (z - v)) hne1)
      have eG := Boxed.set (.int .i64 (z - v)) (boxed_keep cG (heap_setCell_other W ⟨ib, 0, none⟩ gb (.slice none 0 0) hne2))
      have eY := boxed_keep (boxed_keep cY (heap_setCell_other W ⟨ib, 0, none⟩ yb (.slice none 0 0) HN2.out.2.2.1)) (heap_setCell_other _ ⟨gb, 0, none⟩ yb (.int .i64 (z - v)) HN2.out.2.2.2.1)
      have eB := boxed_keep (boxed_keep kB (heap_setCell_other W ⟨ib, 0, none⟩ bb (.slice none 0 0) HN2.out.2.2.2.2.1)) (heap_setCell_other _ ⟨gb, 0, none⟩ bb (.int .i64 (z - v)) HN2.out.2.2.2.2.2)
      have hB2 := (hBW.setCell (p := ⟨ib, 0, none⟩) HN1.out.1 (.slice none 0 0)).setCell (p := ⟨gb, 0, none⟩) HN1.out.2.1 (.int .i64 (z - v))
      have hk2 : KeepsOthers W ((W.setCell ⟨ib, 0, none⟩ (.slice none 0 0)).setCell ⟨gb, 0, none⟩ (.int .i64 (z - v))) := (KeepsOthers.setCell _ _ _).trans (KeepsOthers.setCell _ _ _)
      have hs2 : ((W.setCell ⟨ib, 0, none⟩ (.slice none 0 0)).setCell ⟨gb, 0, none⟩ (.int .i64 (z - v))).heap.size = W.heap.size := by simp
      generalize (W.setCell ⟨ib, 0, none⟩ (.slice none 0 0)).setCell ⟨gb, 0, none⟩ (.int .i64 (z - v)) = W2 at *
      have fr3 : ∀ k, k < W2.heap.size → W3.heap[k]? = W2.heap[k]? := fun k hk => by
        have := fr3 k (by omega)
        first | exact this | exact this (.inl ⟨rfl, rfl⟩)
      have sz3 : W2.heap.size ≤ W3.heap.size := by omega
      have hw3 : B0 ≤ W3.heap.size := by omega
      clear hs2
      have kI := boxed_keep eI (fr3 ib eI.lt)
      have kG := boxed_keep eG (fr3 gb eG.lt)
      have kY := boxed_keep eY (fr3 yb eY.lt)
      have kBb := boxed_keep eB (fr3 bb eB.lt)
      have hB3 := hB2.trans (bel3.mono HN1.out.2.2.1)
      have hk3 := hk2.trans (others_appD (Own.none_ W2 B0 3 none) sz3 fun k hk _ => fr3 k hk)
      have cI3 := kI.cell
      have fI3 := kI.frozen
      clear fr3 bel3 eI eG eY eB hB2 hk2 cI cG cY kB kO ciW cgW cyW fgW fiW
      gi_wp2
      have hB4 := hB3.setCell (p := ⟨ib, 0, none⟩) HN1.out.1 (.slice A2 (0 + 1) c2)
      refine ⟨hk3.trans (KeepsOthers.setCell _ _ _), ⟨A2, 0 + 1, c2, kI.set _, ?_, ?_, boxed_keep kY (heap_setCell_other _ ⟨ib, 0, none⟩ yb _ HN2.out.2.2.1), hB4, by rw [World.size_setCell]; exact hw3⟩, boxed_keep kBb (heap_setCell_other _ ⟨ib, 0, none⟩ bb _ HN2.out.2.2.2.2.1), hb.below hB4⟩
      · rw [HS.out]
        exact own3.keep fun g _ _ hg _ => heap_setCell_other _ ⟨ib, 0, none⟩ g _ (show g ≠ ib by have := HN1.out; omega)
      · rw [HS.out]
        exact boxed_keep kG (heap_setCell_other _ ⟨ib, 0, none⟩ gb _ hne2)
    · by_cases h2 : z - v = g0
      · have h3 : (z - v == g0) = true := by simp [h2]
        have HS : Hid (stM y.zs ((pre ++ [(⟨(k, z), hx1, hx2⟩ : BackOf b.zs)]).map (·.1)) = (I0 ++ [(k : Int)], g0)) := Lib.hid (by rw [HK.out, if_neg h1, if_pos h2])
        clear HK h2
        gi_wp2_with (gi_at_builtin; go_must (refine wpListIn_app1 (w := W) rfl _ _ 22 rfl 3 i0 _ 8 Tryz.underlying22 hi0 hz0 hz1 hz2 rfl B0 A n c (ci64 I0) (by rfl) oI _ (by rfl) rfl (by unfold maxLen; omega) (by omega) hWs ?_))
        intro A2 c2 W3 own3 bel3 fr3 sz3
        have kI := boxed_keep cI (fr3 ib cI.lt (own_past oI HN1.out.2.2.2.1))
        have kG := boxed_keep cG (fr3 gb cG.lt (own_past oI HN1.out.2.2.2.2.1))
        have kY := boxed_keep cY (fr3 yb cY.lt (own_past oI HN1.out.2.2.2.2.2.1))
        have kBb := boxed_keep kB (fr3 bb kB.lt (own_past oI HN1.out.2.2.2.2.2.2))
        have hB3 := hBW.trans (bel3.mono HN1.out.2.2.1)
        have hk3 := others_appD oI sz3 fr3
        have hw3 : B0 ≤ W3.heap.size := by omega
        have cI3 := kI.cell
        have fI3 := kI.frozen
        clear fr3 bel3 oI cI cG cY kB kO ciW cgW cyW fgW fiW
        gi_wp2
        have hB4 := hB3.setCell (p := ⟨ib, 0, none⟩) HN1.out.1 (.slice A2 (n + 1) c2)
        refine ⟨hk3.trans (KeepsOthers.setCell _ _ _), ⟨A2, n + 1, c2, kI.set _, ?_, ?_, boxed_keep kY (heap_setCell_other _ ⟨ib, 0, none⟩ yb _ HN2.out.2.2.1), hB4, by rw [World.size_setCell]; exact hw3⟩, boxed_keep kBb (heap_setCell_other _ ⟨ib, 0, none⟩ bb _ HN2.out.2.2.2.2.1), hb.below hB4⟩
        · rw [HS.out, ci64_snoc6]
          exact own3.keep fun g _ _ hg _ => heap_setCell_other _ ⟨ib, 0, none⟩ g _ (show g ≠ ib by have := HN1.out; omega)
        · rw [HS.out]
          exact boxed_keep kG (heap_setCell_other _ ⟨ib, 0, none⟩ gb _ hne2)
      · have h3 : (z - v == g0) = false := by simp [h2]
        have HS : Hid (stM y.zs ((pre ++ [(⟨(k, z), hx1, hx2⟩ : BackOf b.zs)]).map (·.1)) = (I0, g0)) := Lib.hid (by rw [HK.out, if_neg h1, if_neg h2])
        clear HK h2
        gi_wp2
        refine ⟨KeepsOthers.refl _, ⟨A, n, c, cI, ?_, ?_, cY, hBW, hszW⟩, kB, kO⟩
        · rw [HS.out]; exact oI
        · rw [HS.out]; exact cG
  case done =>
    rintro D ys W hD hys ⟨A, n, c, cI, oI, cG, cY, hB, hw0⟩ hK
    have hfin : stM y.zs (ys.map (·.1)) = (iB b.zs y.zs b.zs.length, gB b.zs y.zs b.zs.length) := by
      rw [hys, ← HBL.out, stM_back _ _ _ (Nat.le_refl _)]
    rw [hfin] at oI cG
    dsimp only at oI cG
    rw [gB_all] at cG
    have cgW := cG.cell
    have ciW := cI.cell
    have fgW := cG.frozen
    have fiW := cI.frozen
    have mixed : Tryz.prog.follows .mixedOrders = true := by kernel_rfl
    have hne : ib ≠ gb ∧ gb ≠ ib ∧ w.heap.size ≤ ib ∧ w.heap.size ≤ gb := by have := HN.out; omega
    have hne1 : ¬ ib = gb := hne.1
    have hne2 : ¬ gb = ib := hne.2.1
    go_wp2_with fail
    go_region_o
    go_wp2
    have hDn : D ≠ ib ∧ D ≠ gb ∧ w.heap.size ≤ D := by have := HN.out; omega
    have d5 : (((W.setCell ⟨ib, 0, none⟩ (.slice A n c)).setCell ⟨gb, 0, none⟩ (.int .i64 (gainD b.zs y.zs))).drew).heap[D]? = some (.deferred (some [])) :=
      (heap_setCell_other _ ⟨gb, 0, none⟩ D _ hDn.2.1).trans ((heap_setCell_other _ ⟨ib, 0, none⟩ D _ hDn.1).trans hK)
    have eI := boxed_keep (cI.set (.slice A n c)) (heap_setCell_other _ ⟨gb, 0, none⟩ ib (.int .i64 (gainD b.zs y.zs)) hne1)
    have eG := Boxed.set (.int .i64 (gainD b.zs y.zs)) (boxed_keep cG (heap_setCell_other W ⟨ib, 0, none⟩ gb (.slice A n c) hne2))
    have eO : Own ((W.setCell ⟨ib, 0, none⟩ (.slice A n c)).setCell ⟨gb, 0, none⟩ (.int .i64 (gainD b.zs y.zs))) B0 3 A n c (ci64 (iB b.zs y.zs b.zs.length)) :=
      (oI.keep fun g _ _ hg _ => heap_setCell_other _ ⟨ib, 0, none⟩ g _ (show g ≠ ib by have := HN.out; omega)).keep fun g _ _ hg _ => heap_setCell_other _ ⟨gb, 0, none⟩ g _ (show g ≠ gb by have := HN.out; omega)
    have hB5 := ((hB.setCell (p := ⟨ib, 0, none⟩) hne.2.2.1 (.slice A n c)).setCell (p := ⟨gb, 0, none⟩) hne.2.2.2 (.int .i64 (gainD b.zs y.zs))).drew
    have eI : Boxed (((W.setCell ⟨ib, 0, none⟩ (.slice A n c)).setCell ⟨gb, 0, none⟩ (.int .i64 (gainD b.zs y.zs))).drew) ib 22 (.slice A n c) := eI
    have eG : Boxed (((W.setCell ⟨ib, 0, none⟩ (.slice A n c)).setCell ⟨gb, 0, none⟩ (.int .i64 (gainD b.zs y.zs))).drew) gb 3 (.int .i64 (gainD b.zs y.zs)) := eG
    have eO := eO.drew
    generalize ((W.setCell ⟨ib, 0, none⟩ (.slice A n c)).setCell ⟨gb, 0, none⟩ (.int .i64 (gainD b.zs y.zs))).drew = W5 at d5 eI eG eO hB5 ⊢
    have hcp := cel_putObj (.deferred none) d5 rfl
    have hB6 := hB5.trans (below_put (o := .deferred none) (o' := .deferred none) (W := W5) hDn.2.2)
    have eI6 := boxed_cel eI hcp
    have eG6 := boxed_cel eG hcp
    have eO6 := eO.cel hcp
    refine ⟨by simp, .inl ⟨D, _, rfl, run_takeDeferred d5, ?_⟩⟩
    generalize W5.putObj D (.deferred none) = W6 at *
    refine ⟨by simp, .inr ⟨fun _ => by decide, _, _, 133, #[.pointer (some ⟨ib, 0, none⟩)], rfl, by simp [go_sem], fun _ _ => trivial, (dmost1_any _ ib B0 A n c _ .returning W6 eI6 eO6).mono ?_⟩⟩
    rintro e u' w7 ⟨rfl, rfl, own7, sz7, fr7, bl7⟩
    have c4 := (boxed_keep eI6 (fr7 ib (own_past eO6 (by have := HN.out; omega)))).cell
    have c5 := (boxed_keep eG6 (fr7 gb (own_past eO6 (by have := HN.out; omega)))).cell
    rw [iB_all] at own7
    have hwb : w.heap.size ≤ B0 := by have := HN.out; omega
    refine ⟨.tuple #[.slice A n c, .int .i64 (gainD b.zs y.zs)], ?_, A, n, c, rfl, ⟨own7.mono hwb, fun z hz => ?_⟩, hB6.trans (bl7.mono hwb)⟩
    · simp [results, Tryz.results122, go_sem, c4, c5]
    · have h9 := itemsD_fit z hz
      have := hb.len
      omega
end Go.Proofs.YtdckoaljcklmhaaGreatDoor


namespace Go.Proofs.YtdckoaljcklmhaaGreatDoor
open Go.RowKit Go.Shelf
set_option linter.unusedVariables false

set_option maxRecDepth 100000 in
set_option maxHeartbeats 1000000 in
theorem pofC : OfC 106 := by
  intro x y w hx hy
  unfold Ls.v
  have hXL := hx.len
  have hYL := hy.len
  have tx := Nat.le_trans hx.cap hx.top
  unfold maxLen at tx
  have hmay := dmay_any y w hy
  by_cases h1 : mayPr y.zs = true
  · rw [h1] at hmay
    by_cases h2 : x.zs = []
    · have hm : mayD x.zs y.zs = true := mayD_iff.2 ⟨h1, .inl h2⟩
      have hn0 : x.n = 0 := by rw [← hXL, h2]; rfl
      obtain ⟨e1, e2, e3, e4⟩ := de_ok hm
      have HE := Lib.hid (And.intro e1 (And.intro e2 (And.intro e3 e4)))
      have hmo := dmost_any x y w hx hy hm
      have g0 : ¬ (0 : Int) < (x.n : Int) := by omega
      clear hXL hYL h2 hn0 hm e1 e2 e3 e4 h1
      go_enter Tryz.func106, Tryz.ntmps106
      go_wp2_with fail
      refine hmay.mono ?_
      rintro e w2 ⟨rfl, rfl⟩
      go_wp2_with fail
      refine hmo.mono ?_
      rintro e w3 ⟨A, n, c, rfl, ho, hb⟩
      clear hmo hmay
      go_wp2
      refine bodyPost_ret (v := .tuple #[.slice A n c, .bool (gainD x.zs y.zs == 0), .int .i64 (gainD x.zs y.zs), .int .i64 0]) ?r1 rfl ?_
      case r1 => simp only [results, Tryz.results106]; go_simp
      refine ⟨A, n, c, ?_, ?_, hb⟩
      · rw [HE.out.1, HE.out.2.2.1, HE.out.2.2.2]; congr
      · rw [HE.out.2.1]; exact ho
    · have hn0 : 0 < x.n := by
        rw [← hXL]
        exact Nat.pos_of_ne_zero fun h => h2 (List.eq_nil_of_length_eq_zero h)
      have g0 : (0 : Int) < (x.n : Int) := by omega
      have hck := check_any x.A x.n x.c x.zs (y.n : Int) w hx.rd
      by_cases h3 : mayB x.zs (y.n : Int) = true
      · have hm : mayD x.zs y.zs = true := mayD_iff.2 ⟨h1, .inr (by rw [hYL]; exact h3)⟩
        obtain ⟨e1, e2, e3, e4⟩ := de_ok hm
        have HE := Lib.hid (And.intro e1 (And.intro e2 (And.intro e3 e4)))
        have HM := Lib.hid hm
        rw [h3] at hck
        clear hXL hYL h2 hn0 hm e1 e2 e3 e4 h1 h3
        go_enter Tryz.func106, Tryz.ntmps106
        go_wp2_with fail
        refine hmay.mono ?_
        rintro e w2 ⟨rfl, rfl⟩
        go_wp2_with fail
        refine hck.mono ?_
        rintro e w3 ⟨rfl, hb3⟩
        have hmo := dmost_any x y w3 (hx.below hb3) (hy.below hb3) HM.out
        clear hck hmay
        go_wp2_with fail
        refine hmo.mono ?_
        rintro e w4 ⟨A, n, c, rfl, ho, hb⟩
        clear hmo
        go_wp2
        refine bodyPost_ret (v := .tuple #[.slice A n c, .bool (gainD x.zs y.zs == 0), .int .i64 (gainD x.zs y.zs), .int .i64 0]) ?r2 rfl ?_
        case r2 => simp only [results, Tryz.results106]; go_simp
        refine ⟨A, n, c, ?_, ?_, hb3.trans (hb.mono hb3.size)⟩
        · rw [HE.out.1, HE.out.2.2.1, HE.out.2.2.2]; congr
        · rw [HE.out.2.1]; exact ho.mono hb3.size
      · have h3' : mayB x.zs (y.n : Int) = false := Bool.eq_false_iff.2 h3
        have hm : mayD x.zs y.zs = false := Bool.eq_false_iff.2 fun h => by
          rcases (mayD_iff.1 h).2 with h4 | h4
          · exact h2 h4
          · rw [hYL] at h4; exact h3 h4
        obtain ⟨e1, e2, e3, e4⟩ := de_bad hm
        have HE := Lib.hid (And.intro e1 (And.intro e2 (And.intro e3 e4)))
        rw [h3'] at hck
        clear hXL hYL h2 hn0 hm e1 e2 e3 e4 h1 h3 h3'
        go_enter Tryz.func106, Tryz.ntmps106
        go_wp2_with fail
        refine hmay.mono ?_
        rintro e w2 ⟨rfl, rfl⟩
        go_wp2_with fail
        refine hck.mono ?_
        rintro e w3 ⟨rfl, hb3⟩
        clear hck hmay
        go_wp2
        refine bodyPost_ret (v := .tuple #[.slice none 0 0, .bool false, .int .i64 0, .int .i64 1]) ?r3 rfl ?_
        case r3 => simp only [results, Tryz.results106]; go_simp
        refine ⟨none, 0, 0, ?_, ?_, hb3⟩
        · rw [HE.out.1, HE.out.2.2.1, HE.out.2.2.2]
        · rw [HE.out.2.1]; exact OwnI.nil _ _
  · have h1' : mayPr y.zs = false := Bool.eq_false_iff.2 h1
    have hm : mayD x.zs y.zs = false := Bool.eq_false_iff.2 fun h => h1 (mayD_iff.1 h).1
    obtain ⟨e1, e2, e3, e4⟩ := de_bad hm
    have HE := Lib.hid (And.intro e1 (And.intro e2 (And.intro e3 e4)))
    rw [h1'] at hmay
    clear hXL hYL hm e1 e2 e3 e4 h1 h1'
    go_enter Tryz.func106, Tryz.ntmps106
    go_wp2_with fail
    refine hmay.mono ?_
    rintro e w2 ⟨rfl, rfl⟩
    clear hmay
    go_wp2
    refine bodyPost_ret (v := .tuple #[.slice none 0 0, .bool false, .int .i64 0, .int .i64 1]) ?r4 rfl ?_
    case r4 => simp only [results, Tryz.results106]; go_simp
    refine ⟨none, 0, 0, ?_, ?_, Below.refl _ _⟩
    · rw [HE.out.1, HE.out.2.2.1, HE.out.2.2.2]
    · rw [HE.out.2.1]; exact OwnI.nil _ _
end Go.Proofs.YtdckoaljcklmhaaGreatDoor


namespace Go.Proofs.YtdckoaljcklmhaaGreatDoor
open Go.RowKit Go.Shelf
set_option linter.unusedVariables false
attribute [local go_sem] Oper.semAt_some

def encW (x : Ls × Int) : Array Value := #[.slice x.1.A x.1.n x.1.c, .int .i64 x.2]
def wantsL (g : List (List Int)) (p : List Int) : List (List Int × Int) := g.map fun l => (itemsD l p, gainD l p)
theorem wants_succ {g : List (List Int)} {p l : List Int} {k : Nat} (h : g[k]? = some l) : wantsL (g.take (k + 1)) p = wantsL (g.take k) p ++ [(itemsD l p, gainD l p)] := by
  obtain ⟨hk, he⟩ := List.getElem?_eq_some_iff.1 h
  rw [wantsL, List.take_succ_eq_append_getElem hk, List.map_append, he]; rfl
set_option maxHeartbeats 1000000 in
theorem deach_any (x : Gr) (y : Ls) (w : World) : Calls Tryz.prog 110 #[.slice x.A x.n x.c, .slice y.A y.n y.c] w fun e w' => e = .returned (.func (.func 127) #[] #[.pointer (some ⟨w.heap.size, 0, none⟩), .pointer (some ⟨w.heap.size + 1, 0, none⟩)]) ∧
    w' = (w.alloc (.cells #[.slice x.A x.n x.c] 23)).alloc (.cells #[.slice y.A y.n y.c] 22) := by
  go_enter Tryz.func110, Tryz.ntmps110
  go_wp2
  go_ret
  exact ⟨rfl, rfl⟩
set_option maxRecDepth 100000 in
set_option maxHeartbeats 1000000 in
theorem deach1_seq (x : Gr) (y : Ls) (b1 b2 : Nat) (w : World) (hm : ∀ l ∈ x.g, mayD l y.zs = true) :
    SeqE Tryz.prog 127 #[.pointer (some ⟨b1, 0, none⟩), .pointer (some ⟨b2, 0, none⟩)] encW (fun q B W => OwnI W B q.1)
      (fun W => Boxed W b1 23 (.slice x.A x.n x.c) ∧ Boxed W b2 22 (.slice y.A y.n y.c) ∧ x.Ok W ∧ y.Ok W) (fun ys => ys.map (fun q => (q.1.zs, q.2)) = wantsL x.g y.zs) x.n w := by
  intro l J W hW hk hJ hY h0
  obtain ⟨hb1, hb2, hx, hy⟩ := hk
  have HL := Lib.hid hx.glen
  have tn := Nat.le_trans hx.cap hx.top
  unfold maxLen at tn
  have HM := Lib.hid hm
  clear hm
  refine (callsIn_wide (n := 4)).1 ?_
  refine callsIn_of_wp Tryz.func127 rfl trivial ?_ rfl
  simp only [Tryz.ntmps127, List.size_toArray, List.length_cons, List.length_nil, Nat.reduceAdd, Nat.reduceSub, Array.replicate_succ, Array.replicate_zero, List.push_toArray, List.append_toArray, List.nil_append, List.cons_append]
  have hcb := hb1.cell
  gi_wp2
  gi_loopw [8] (fun i wr => ∃ (k : Nat) (pre : List (Ls × Int)), k ≤ x.n ∧ i = .int .i64 k ∧ Hid (pre.map (fun q => (q.1.zs, q.2)) = wantsL (x.g.take k) y.zs) ∧ J pre wr ∧ W.heap.size ≤ wr.heap.size ∧
    (Boxed wr b1 23 (.slice x.A x.n x.c) ∧ Boxed wr b2 22 (.slice y.A y.n y.c) ∧ x.Ok wr ∧ y.Ok wr)) (fun i _ => x.n - (intOf i).toNat)
  case atStart => exact ⟨0, [], Nat.zero_le _, rfl, Lib.hid rfl, h0, Nat.le_refl _, hb1, hb2, hx, hy⟩
  case round =>
    clear hcb hb1 hb2 hx hy h0
    obtain ⟨k, pre, hk, rfl, hpre, hJs, hsz, h1w, h2w, hxw, hyw⟩ := hrel
    have hcy := h2w.cell
    by_cases hlt : k < x.n
    · obtain ⟨p, q, u, hA, hu2, hgd, hp, hcl, hkk⟩ := hxw.get hlt
      unfold Ls.v at hcl
      have hi1 : (k : Int) < x.n := by omega
      have hkl : k < x.g.length := by rw [HL.out]; exact hlt
      have hgk : x.g[k]? = some u.zs := by
        rw [List.getElem?_eq_getElem hkl]
        rw [List.getD_eq_getElem?_getD, List.getElem?_eq_getElem hkl] at hgd
        exact congrArg some hgd
      have hmo := dmost_any u y wr hkk hyw (HM.out _ (List.mem_of_getElem? hgk))
      have hlen : pre.length < x.n := by
        have h2 := congrArg List.length hpre.out
        rw [List.length_map, wantsL, List.length_map, List.length_take] at h2
        omega
      have HG := Lib.hid hgk
      have HA := Lib.hid hA
      rw [hA]
      clear hA hu2 hgd hkl hgk
      gi_wp2_with fail
      refine ⟨trivial, (callsIn_wide.2 hmo).mono ?_⟩
      rintro e w3 ⟨A, n, c, rfl, ho, hbl⟩
      clear hmo
      have hc3 := cel_of_below hbl
      have hkw : Boxed w3 b1 23 (.slice x.A x.n x.c) ∧ Boxed w3 b2 22 (.slice y.A y.n y.c) ∧ x.Ok w3 ∧ y.Ok w3 := ⟨boxed_cel h1w hc3, boxed_cel h2w hc3, hxw.below hbl, hyw.below hbl⟩
      obtain ⟨fn, tmps, assign, body, hyy, hR⟩ := hY pre (⟨A, n, c, itemsD u.zs y.zs⟩, gainD u.zs y.zs) wr w3 hJs hkw hlen hc3 (hbl.mono hsz) ho
      unfold encW at hyy
      dsimp only at hyy
      have HP : Hid ((pre ++ [((⟨A, n, c, itemsD u.zs y.zs⟩ : Ls), gainD u.zs y.zs)]).map (fun q => (q.1.zs, q.2)) = wantsL (x.g.take (k + 1)) y.zs) := Lib.hid (by
        rw [List.map_append, hpre.out, wants_succ HG.out]; rfl)
      have hs3 := hbl.size
      clear hcl hcy h1w h2w hxw hyw hkk hJs hc3 hbl ho hpre
      gi_wp2
      refine hR.mono ?_
      rintro e W4 ⟨rfl, hJ4, hk4, hs4⟩
      gi_wp2
      rw [← HA.out]
      go_roundw
      case rel => exact ⟨k + 1, _, by omega, by go_num, HP, hJ4, by omega, hk4⟩
      case measure => simp [intOf]; omega
    · obtain rfl : k = x.n := by omega
      gi_wp2
      go_end0
      refine ⟨⟨_, rfl⟩, pre, ?_, hJs⟩
      rw [hpre.out, List.take_of_length_le (by rw [HL.out]; exact Nat.le_refl _)]

theorem infoDe_ints : (Tryz.prog.info? 22).map (fun i => (i.zero, i.size, i.bytes)) = some (some (.slice none 0 0), 1, 24) := by kernel_rfl
theorem infoDe_bool : (Tryz.prog.info? 4).map (fun i => (i.zero, i.size, i.bytes)) = some (some (.bool false), 1, 1) := by kernel_rfl
theorem allErr_bad {x : Mk} {p : List Int} (h : mayA x.r.zs (Ls.all x.b) x.o.zs p = false) : allErr x p = 1 ∧ allI x p = [] ∧ allN x p = [] := by simp [allErr, allI, allN, h]
theorem allErr_ok {x : Mk} {p : List Int} (h : mayA x.r.zs (Ls.all x.b) x.o.zs p = true) : allErr x p = 0 ∧ allI x p = (Ls.all x.b).map (fun b => itemsD b p) ∧ allN x p = (Ls.all x.b).map (fun b => decide (gainD b p = 0)) := by simp [allErr, allI, allN, h]
/-- The world in which a call of All begins. -/
def allW (w : World) (x : Mk) : World := ((w.alloc (.cells #[.slice x.r.A x.r.n x.r.c, .slice x.A x.n x.c, .slice x.o.A x.o.n x.o.c] 25)).alloc (.cells #[.slice none 0 0] 23)).alloc (.cells #[.slice none 0 0] 59)
theorem allW_facts (w : World) (x : Mk) : Below w.heap.size w (allW w x) ∧ InBox (allW w x) w.heap.size x ∧ Boxed (allW w x) (w.heap.size + 1) 23 (.slice none 0 0) ∧ Boxed (allW w x) (w.heap.size + 1 + 1) 59 (.slice none 0 0) := by
  have h1 := (InBox.new w x).below ((Below.refl _ _).alloc (Nat.le_refl _) (.cells #[.slice none 0 0] 23))
  have h2 := h1.below ((Below.refl _ _).alloc (Nat.le_refl _) (.cells #[.slice none 0 0] 59))
  have h3 := (Boxed.new (w.alloc (.cells #[.slice x.r.A x.r.n x.r.c, .slice x.A x.n x.c, .slice x.o.A x.o.n x.o.c] 25)) 23 (.slice none 0 0)).alloc (.cells #[.slice none 0 0] 59)
  have h4 := Boxed.new ((w.alloc (.cells #[.slice x.r.A x.r.n x.r.c, .slice x.A x.n x.c, .slice x.o.A x.o.n x.o.c] 25)).alloc (.cells #[.slice none 0 0] 23)) 59 (.slice none 0 0)
  simp only [World.size_alloc] at h3 h4
  exact ⟨(((Below.refl _ w).alloc (Nat.le_refl _) _).alloc (by simp) _).alloc (by simp; omega) _, h2, h3, h4⟩

set_option maxRecDepth 100000 in
set_option maxHeartbeats 1000000 in
theorem pallDC : AllDC 100 := by
  intro x y w hx hy
  have hYL := hy.len
  have tx := Nat.le_trans hy.cap hy.top
  have trx := Nat.le_trans hx.r.cap hx.r.top
  unfold maxLen at tx trx
  have hck := mcheckC x
  have hv : x.v = .agg #[.slice x.r.A x.r.n x.r.c, .slice x.A x.n x.c, .slice x.o.A x.o.n x.o.c] := rfl
  rw [hv] at hck ⊢
  unfold Ls.v
  obtain ⟨hBW, hbox, bI, bN⟩ := allW_facts w x
  have hxW := hx.below hBW
  have hyW := hy.below hBW
  have hck := hck _ hxW
  have hmay := dmay_any y
  refine (callsIn_wide (n := 3)).1 ?_
  refine callsIn_of_wp_marks Tryz.func100 rfl trivial ?_ rfl
  simp only [Tryz.ntmps100, List.size_toArray, List.length_cons, List.length_nil, Nat.reduceAdd, Nat.reduceSub, Array.replicate_succ, Array.replicate_zero, List.push_toArray, List.append_toArray, List.nil_append, List.cons_append]
  refine wpIn_wide.2 ?_
  by_cases h1 : x.may = true
  · rw [h1] at hck
    by_cases h2 : y.n = x.r.n
    · by_cases h3 : mayPr y.zs = true
      · have hm : mayA x.r.zs (Ls.all x.b) x.o.zs y.zs = true := mayA_iff.2 ⟨h1, by rw [hYL, hx.r.len]; exact h2, h3⟩
        obtain ⟨e1, e2, e3⟩ := allErr_ok hm
        have HE := Lib.hid (And.intro e1 (And.intro e2 e3))
        have g2 : ((y.n : Int) != (x.r.n : Int)) = false := by rw [h2]; simp
        have HR := Lib.hid h2
        have hx8 := (mk_len hx h1).2.2.2.1
        have HEach := Lib.hid (mayA_each hm)
        obtain ⟨i1, hi1, hy0, hy1, hy2⟩ := info_parts infoDe_ints
        obtain ⟨i2, hi2, hb0, hb1, hb2⟩ := info_parts infoDe_bool
        clear h1 hm e1 e2 e3 hYL h2
        unfold allW at hck hBW hbox bI bN
        go_wp2_with fail
        refine hck.mono ?_
        rintro e w2 ⟨rfl, hbl2⟩
        have cI := boxed_below bI hbl2
        have cN := boxed_below bN hbl2
        have cM := hbox.below hbl2
        have hB2 := hBW.trans (hbl2.mono hBW.size)
        have hx2 := hx.below hB2
        have hyb2 := hy.below hB2
        have cI1 := cI.cell
        have cI2 := cI.frozen
        have cN1 := cN.cell
        have cN2 := cN.frozen
        have cM0 := cM.c0
        have cM1 := cM.c1
        clear hck hbox bI bN hBW hbl2 hxW hyW
        have hmy := hmay w2 hyb2
        rw [h3] at hmy
        go_wp2_with fail
        refine hmy.mono ?_
        rintro e w3 ⟨rfl, rfl⟩
        clear hmy
        have hea := deach_any ⟨x.A, x.n, x.c, x.b⟩ y w3
        go_wp2_with fail
        refine hea.mono ?_
        rintro e w4 ⟨rfl, rfl⟩
        clear hea
        go_wp2
        have bX := (Boxed.new w3 23 (.slice x.A x.n x.c)).alloc (.cells #[.slice y.A y.n y.c] 22)
        have bY := Boxed.new (w3.alloc (.cells #[.slice x.A x.n x.c] 23)) 22 (.slice y.A y.n y.c)
        rw [World.size_alloc] at bY
        have hgr : Below w3.heap.size w3 ((w3.alloc (.cells #[.slice x.A x.n x.c] 23)).alloc (.cells #[.slice y.A y.n y.c] 22)) := ((Below.refl _ w3).alloc (Nat.le_refl _) _).alloc (by simp) _
        have hs4 : ((w3.alloc (.cells #[.slice x.A x.n x.c] 23)).alloc (.cells #[.slice y.A y.n y.c] 22)).heap.size = w3.heap.size + 2 := by simp
        have hlt3 := cN.lt
        have cI := boxed_below cI hgr
        have cN := boxed_below cN hgr
        have hB4 := hB2.trans (hgr.mono hB2.size)
        obtain ⟨ib, hib⟩ : ∃ ib, ib = w.heap.size + 1 := ⟨_, rfl⟩
        obtain ⟨nb, hnb⟩ : ∃ nb, nb = w.heap.size + 1 + 1 := ⟨_, rfl⟩
        obtain ⟨b1, hb1e⟩ : ∃ b1, b1 = w3.heap.size := ⟨_, rfl⟩
        obtain ⟨b2, hb2e⟩ : ∃ b2, b2 = w3.heap.size + 1 := ⟨_, rfl⟩
        obtain ⟨B0, hB0⟩ : ∃ B0, B0 = w3.heap.size + 2 := ⟨_, rfl⟩
        have HN : Hid (w.heap.size ≤ ib ∧ w.heap.size ≤ nb ∧ w.heap.size ≤ B0 ∧ ib < B0 ∧ nb < B0 ∧ b1 < B0 ∧ b2 < B0 ∧ ib ≠ nb ∧ nb ≠ ib ∧ b1 ≠ ib ∧ b1 ≠ nb ∧ b2 ≠ ib ∧ b2 ≠ nb) := Lib.hid (by omega)
        rw [← hb2e, ← hb1e, ← hnb, ← hib]
        rw [← hib] at cI
        rw [← hnb] at cN
        rw [← hb1e] at bX
        rw [← hb2e] at bY
        rw [← hB0] at hs4
        clear hib hnb hb1e hb2e hB0 hgr hlt3 cI1 cI2 cN1 cN2 cM0 cM1 cM hB2 hx2 hyb2
        generalize (w3.alloc (.cells #[.slice x.A x.n x.c] 23)).alloc (.cells #[.slice y.A y.n y.c] 22) = w4 at *
        have hx4 : Gr.Ok w4 ⟨x.A, x.n, x.c, x.b⟩ := ⟨⟨(hx.below hB4).b, fun u hu => (hx.below hB4).bs u hu⟩, hx.cap, hx.top⟩
        refine (wpIn_wide (n := 3)).1 ?_
        refine range_seqE (n := 3) (by omega) (gf := 127) (lb := #[.pointer (some ⟨b1, 0, none⟩), .pointer (some ⟨b2, 0, none⟩)]) rfl (enters_of Tryz.func127 (by kernel_rfl) rfl)
          (deach1_seq ⟨x.A, x.n, x.c, x.b⟩ y b1 b2 w4 HEach.out) (Below.refl _ _) (fun _ => rfl) (fun _ _ _ _ hc h => h.cel hc) (fun _ _ hc h => ⟨boxed_cel h.1 hc, boxed_cel h.2.1 hc, h.2.2.1.cel hc, h.2.2.2.cel hc⟩) ⟨bX, bY, hx4, hy.below hB4⟩
          (fun pre W => ∃ A n c A2 n2 c2 t, Boxed W ib 23 (.slice A n c) ∧ Outs W B0 A n c t ∧ Hid (Ls.all t = pre.map fun q => q.1.zs) ∧ Boxed W nb 59 (.slice A2 n2 c2) ∧ Own W B0 4 A2 n2 c2 (pre.map fun q => .bool (q.2 == 0)) ∧ Below w.heap.size w W ∧ B0 ≤ W.heap.size)
          (fun s a b hc hbl h => by
            obtain ⟨A, n, c, A2, n2, c2, t, k1, k2, k3, k4, k5, k6, k7⟩ := h
            exact ⟨A, n, c, A2, n2, c2, t, boxed_cel k1 hc, k2.cel hc, k3, boxed_cel k4 hc, k5.cel hc, k6.trans (hbl.mono hB4.size), by have := hc.size; omega⟩)
          ⟨none, 0, 0, none, 0, 0, [], cI, Outs.none_ _ _, Lib.hid rfl, cN, Own.none_ _ _ _ _, hB4, by omega⟩
          (fun q a' _ => a' = { tmps := #[.agg #[.slice x.r.A x.r.n x.r.c, .slice x.A x.n x.c, .slice x.o.A x.o.n x.o.c], .slice y.A y.n y.c, .pointer (some ⟨w.heap.size, 0, none⟩), undef, .pointer (some ⟨ib, 0, none⟩), .pointer (some ⟨nb, 0, none⟩), .int .i64 0, .slice q.1.A q.1.n q.1.c, .int .i64 q.2, .agg #[.slice x.r.A x.r.n x.r.c, .slice x.A x.n x.c, .slice x.o.A x.o.n x.o.c], .bool true, .bool false, .bool false, .slice y.A y.n y.c, .int .i64 y.n, .pointer (some ⟨w.heap.size, 0, none⟩), .slice x.r.A x.r.n x.r.c, .int .i64 x.r.n, .bool false, .bool false, .bool false, .slice y.A y.n y.c, .bool true, .bool false, .bool false, .pointer (some ⟨w.heap.size, 1, none⟩), .slice x.A x.n x.c, .slice y.A y.n y.c, .func (.func 127) #[] #[.pointer (some ⟨b1, 0, none⟩), .pointer (some ⟨b2, 0, none⟩)], .slice q.1.A q.1.n q.1.c, .int .i64 q.2, undef, undef, undef, undef, undef, undef, undef, undef, undef, undef, undef], defers := [] })
          (fun _ _ _ _ _ h => h) ?assign ?body ?done
        case assign =>
          intro l pre q B W K hI hE hV hK
          simp only [encW, List.zip_toArray, List.zip_cons_cons, List.zip_nil_right, List.foldl_toArray', List.foldl_cons, List.foldl_nil, List.size_toArray, List.setIfInBounds_toArray, List.set_cons_succ, List.set_cons_zero]
          gi_wp2
          exact hK _ _ (Below.refl _ _) rfl
        case body =>
          rintro l pre ⟨u, gn⟩ a' W0 W ⟨A, n, c, A2, n2, c2, t, k1, k2, k3, k4, k5, k6, k7⟩ hlen hcel hbel hE rfl ⟨kX, kY, kG, kO⟩
          dsimp only at hlen hE ⊢
          have hsep : ∀ q ∈ t, ∀ g, Blk q g → g < W0.heap.size := fun q hq g hg => ((k2.each q hq).blk hg).2
          have cI := boxed_cel k1 hcel
          have hO := k2.cel hcel
          have cN := boxed_cel k4 hcel
          have oN := k5.cel hcel
          have hBW := k6.trans (hbel.mono hB4.size)
          have hWs : B0 ≤ W.heap.size := by have := hcel.size; omega
          have hW0 : B0 ≤ W0.heap.size := k7
          have hn8 : n ≤ 8 := by
            have h5 := congrArg List.length k3.out
            rw [Ls.all, List.length_map, List.length_map, k2.len] at h5
            omega
          have hm8 : n2 ≤ 8 := by
            have h5 := k5.len
            rw [List.length_map] at h5
            omega
          have cI1 := cI.cell
          have cI2 := cI.frozen
          clear k1 k2 k4 k5 k6 k7 bX bY hcel hbel
          gi_wp2_with (gi_at_builtin; go_must (refine wpListIn_app1 (w := W) rfl _ _ 23 rfl 22 i1 _ 24 Tryz.underlying23 hi1 hy0 hy1 hy2 rfl B0 A n c (t.map Ls.v) (by rfl) hO.own _ (by rfl) rfl (by unfold maxLen; omega) (by omega) hWs ?_))
          intro A3 c3 W3 own3 bel3 fr3 sz3
          have hO3 := hO.snoc hE hW0 hsep own3 fr3
          have oN3 : Own W3 B0 4 A2 n2 c2 (pre.map fun q => .bool (q.2 == 0)) := oN.other hO.own (by decide) fr3
          have kI := boxed_keep cI (fr3 ib cI.lt (own_past hO.own (by have := HN.out; omega)))
          have kN := boxed_keep cN (fr3 nb cN.lt (own_past hO.own (by have := HN.out; omega)))
          have kX3 := boxed_keep kX (fr3 b1 kX.lt (own_past hO.own (by have := HN.out; omega)))
          have kY3 := boxed_keep kY (fr3 b2 kY.lt (own_past hO.own (by have := HN.out; omega)))
          have hB3 := hBW.trans (bel3.mono HN.out.2.2.1)
          have hk3 := others_appD hO.own sz3 fr3
          have hw3 : B0 ≤ W3.heap.size := by omega
          have hne1 : ¬ nb = ib := HN.out.2.2.2.2.2.2.2.2.1
          have hB5 := hB3.setCell (p := ⟨ib, 0, none⟩) HN.out.1 (.slice A3 (n + 1) c3)
          have hk5 := hk3.trans (KeepsOthers.setCell W3 ⟨ib, 0, none⟩ (.slice A3 (n + 1) c3))
          have kI5 := kI.set (.slice A3 (n + 1) c3)
          have kN5 := boxed_keep kN (heap_setCell_other W3 ⟨ib, 0, none⟩ nb (.slice A3 (n + 1) c3) HN.out.2.2.2.2.2.2.2.2.1)
          have kX5 := boxed_keep kX3 (heap_setCell_other W3 ⟨ib, 0, none⟩ b1 (.slice A3 (n + 1) c3) HN.out.2.2.2.2.2.2.2.2.2.1)
          have kY5 := boxed_keep kY3 (heap_setCell_other W3 ⟨ib, 0, none⟩ b2 (.slice A3 (n + 1) c3) HN.out.2.2.2.2.2.2.2.2.2.2.2.1)
          have hkeep : ∀ g, B0 ≤ g → (W3.setCell ⟨ib, 0, none⟩ (.slice A3 (n + 1) c3)).heap[g]? = W3.heap[g]? := fun g hg => heap_setCell_other W3 ⟨ib, 0, none⟩ g _ (show g ≠ ib by have := HN.out; omega)
          have hO5 := hO3.keepB hkeep
          have oN5 := oN3.keep (w' := W3.setCell ⟨ib, 0, none⟩ (.slice A3 (n + 1) c3)) fun g _ _ hg _ => hkeep g hg
          have hw5 : B0 ≤ (W3.setCell ⟨ib, 0, none⟩ (.slice A3 (n + 1) c3)).heap.size := by rw [World.size_setCell]; exact hw3
          have kI1 := kI.cell
          have kI2 := kI.frozen
          have kN1 := kN.cell
          have kN2 := kN.frozen
          have HALL := Lib.hid (show Ls.all (t ++ [u]) = (pre ++ [(u, gn)]).map fun q => q.1.zs by rw [Ls.all, List.map_append, ← Ls.all, k3.out, List.map_append]; rfl)
          have HBOOL := Lib.hid (show (pre ++ [(u, gn)]).map (fun q => Value.bool (q.2 == 0)) = (pre.map fun q => .bool (q.2 == 0)) ++ [.bool (gn == 0)] by rw [List.map_append]; rfl)
          clear fr3 bel3 hO oN cI cN kX kY hBW hO3 oN3 kI kN kX3 kY3 hB3 hk3 cI1 cI2 hkeep own3 hsep k3 hE hw3 hWs hW0 kG kO
          gi_wp2_with (gi_at_builtin; go_must (refine wpListIn_app1 (w := W3.setCell ⟨ib, 0, none⟩ (.slice A3 (n + 1) c3)) rfl _ _ 59 rfl 4 i2 _ 1 Tryz.underlying59 hi2 hb0 hb1 hb2 rfl B0 A2 n2 c2 (pre.map fun q => .bool (q.2 == 0)) (by rfl) oN5 _ (by simp; rfl) rfl (by unfold maxLen; omega) (by omega) hw5 ?_))
          intro A4 c4 W6 own6 bel6 fr6 sz6
          have hs5 : (W3.setCell ⟨ib, 0, none⟩ (.slice A3 (n + 1) c3)).heap.size = W3.heap.size := World.size_setCell ..
          generalize W3.setCell ⟨ib, 0, none⟩ (.slice A3 (n + 1) c3) = W5 at *
          have fr6 : ∀ k, k < W5.heap.size → ((n2 = 0 ∧ c2 = 0) ∨ A2 ≠ some ⟨k, 0, none⟩) → W6.heap[k]? = W5.heap[k]? := fun k hk hne => fr6 k (by omega) hne
          have sz6 : W5.heap.size ≤ W6.heap.size := by omega
          have hO6 : Outs W6 B0 A3 (n + 1) c3 (t ++ [u]) := ⟨hO5.own.other oN5 (by decide) fr6, fun q hq => ⟨(hO5.each q hq).own.other oN5 (by decide) fr6, (hO5.each q hq).fit⟩, hO5.apt⟩
          have kI6 := boxed_keep kI5 (fr6 ib kI5.lt (own_past oN5 (by have := HN.out; omega)))
          have kN6 := boxed_keep kN5 (fr6 nb kN5.lt (own_past oN5 (by have := HN.out; omega)))
          have kX6 := boxed_keep kX5 (fr6 b1 kX5.lt (own_past oN5 (by have := HN.out; omega)))
          have kY6 := boxed_keep kY5 (fr6 b2 kY5.lt (own_past oN5 (by have := HN.out; omega)))
          have hB6 := hB5.trans (bel6.mono HN.out.2.2.1)
          have hk6 := hk5.trans (others_appD oN5 sz6 fr6)
          have hw6 : B0 ≤ W6.heap.size := by omega
          have kN7 := kN6.cell
          have kN8 := kN6.frozen
          clear fr6 bel6 hO5 oN5 kI5 kN5 kX5 kY5 hB5 hk5 hs5 kI1 kI2 kN1 kN2 hw5 sz6 sz3
          gi_wp2
          have hkeep : ∀ g, B0 ≤ g → (W6.setCell ⟨nb, 0, none⟩ (.slice A4 (n2 + 1) c4)).heap[g]? = W6.heap[g]? := fun g hg => heap_setCell_other W6 ⟨nb, 0, none⟩ g _ (show g ≠ nb by have := HN.out; omega)
          have hB7 := hB6.setCell (p := ⟨nb, 0, none⟩) HN.out.2.1 (.slice A4 (n2 + 1) c4)
          have hG7 : Gr.Ok (W6.setCell ⟨nb, 0, none⟩ (.slice A4 (n2 + 1) c4)) ⟨x.A, x.n, x.c, x.b⟩ := ⟨⟨(hx.below hB7).b, fun u hu => (hx.below hB7).bs u hu⟩, hx.cap, hx.top⟩
          refine ⟨hk6.trans (KeepsOthers.setCell _ _ _), ⟨A3, n + 1, c3, A4, n2 + 1, c4, t ++ [u], boxed_keep kI6 (heap_setCell_other W6 ⟨nb, 0, none⟩ ib _ HN.out.2.2.2.2.2.2.2.1), hO6.keepB hkeep, HALL, kN6.set _, ?_, hB7, by rw [World.size_setCell]; exact hw6⟩,
            boxed_keep kX6 (heap_setCell_other W6 ⟨nb, 0, none⟩ b1 _ HN.out.2.2.2.2.2.2.2.2.2.2.1), boxed_keep kY6 (heap_setCell_other W6 ⟨nb, 0, none⟩ b2 _ HN.out.2.2.2.2.2.2.2.2.2.2.2.2), hG7, hy.below hB7⟩
          rw [HBOOL.out]
          exact own6.keep fun g _ _ hg _ => hkeep g hg
        case done =>
          rintro D ys W hD hys ⟨A, n, c, A2, n2, c2, t, k1, k2, k3, k4, k5, k6, k7⟩ hK
          have hI : ys.map (fun q => q.1.zs) = allI x y.zs := by
            rw [HE.out.2.1]
            have h5 := congrArg (List.map Prod.fst) hys
            rw [List.map_map, wantsL, List.map_map] at h5
            exact h5
          have hNb : ys.map (fun q => Value.bool (q.2 == 0)) = (allN x y.zs).map Value.bool := by
            rw [HE.out.2.2]
            have h5 := congrArg (List.map fun q : List Int × Int => Value.bool (q.2 == 0)) hys
            rw [List.map_map, wantsL, List.map_map] at h5
            rw [List.map_map]
            exact h5
          have HI := Lib.hid (k3.out.trans hI)
          rw [hNb] at k5
          have cI1 := k1.cell
          have cI2 := k1.frozen
          have cN1 := k4.cell
          have cN2 := k4.frozen
          have mixed : Tryz.prog.follows .mixedOrders = true := by kernel_rfl
          have hne1 : ¬ ib = nb := HN.out.2.2.2.2.2.2.2.1
          have hne2 : ¬ nb = ib := HN.out.2.2.2.2.2.2.2.2.1
          have hDn : D ≠ ib ∧ D ≠ nb ∧ w.heap.size ≤ D := by have := HN.out; omega
          clear hI hNb hys bX bY cI cN
          go_wp2_with fail
          go_region_o
          go_wp2
          have d5 : (((W.setCell ⟨ib, 0, none⟩ (.slice A n c)).setCell ⟨nb, 0, none⟩ (.slice A2 n2 c2)).drew).heap[D]? = some (.deferred (some [])) :=
            (heap_setCell_other _ ⟨nb, 0, none⟩ D _ hDn.2.1).trans ((heap_setCell_other _ ⟨ib, 0, none⟩ D _ hDn.1).trans hK)
          have eI : Boxed (((W.setCell ⟨ib, 0, none⟩ (.slice A n c)).setCell ⟨nb, 0, none⟩ (.slice A2 n2 c2)).drew) ib 23 (.slice A n c) := boxed_keep (k1.set (.slice A n c)) (heap_setCell_other _ ⟨nb, 0, none⟩ ib (.slice A2 n2 c2) hne1)
          have eN : Boxed (((W.setCell ⟨ib, 0, none⟩ (.slice A n c)).setCell ⟨nb, 0, none⟩ (.slice A2 n2 c2)).drew) nb 59 (.slice A2 n2 c2) := Boxed.set (.slice A2 n2 c2) (boxed_keep k4 (heap_setCell_other W ⟨ib, 0, none⟩ nb (.slice A n c) hne2))
          have hkeep : ∀ g, B0 ≤ g → (((W.setCell ⟨ib, 0, none⟩ (.slice A n c)).setCell ⟨nb, 0, none⟩ (.slice A2 n2 c2)).drew).heap[g]? = W.heap[g]? := fun g hg =>
            (heap_setCell_other _ ⟨nb, 0, none⟩ g _ (show g ≠ nb by have := HN.out; omega)).trans (heap_setCell_other _ ⟨ib, 0, none⟩ g _ (show g ≠ ib by have := HN.out; omega))
          have eO := k2.keepB hkeep
          have eB := k5.keep (w' := ((W.setCell ⟨ib, 0, none⟩ (.slice A n c)).setCell ⟨nb, 0, none⟩ (.slice A2 n2 c2)).drew) fun g _ _ hg _ => hkeep g hg
          have hB5 := ((k6.setCell (p := ⟨ib, 0, none⟩) HN.out.1 (.slice A n c)).setCell (p := ⟨nb, 0, none⟩) HN.out.2.1 (.slice A2 n2 c2)).drew
          generalize ((W.setCell ⟨ib, 0, none⟩ (.slice A n c)).setCell ⟨nb, 0, none⟩ (.slice A2 n2 c2)).drew = W5 at d5 eI eN eO eB hB5 ⊢
          have hcp := cel_putObj (.deferred none) d5 rfl
          have hB6 := hB5.trans (below_put (o := .deferred none) (o' := .deferred none) (W := W5) hDn.2.2)
          have c4 := (boxed_cel eI hcp).cell
          have c5 := (boxed_cel eN hcp).cell
          have hwb : w.heap.size ≤ B0 := HN.out.2.2.1
          refine postM_mark d5 (v := .tuple #[.slice A n c, .slice A2 n2 c2, .int .i64 0]) (by simp [results, Tryz.results100, go_sem, c4, c5]) rfl ?_
          exact ⟨A, n, c, A2, n2, c2, t, by rw [HE.out.1], (eO.cel hcp).mono hwb, HI.out, (eB.cel hcp).mono hwb, hB6⟩

      · have h3' : mayPr y.zs = false := Bool.eq_false_iff.2 h3
        have hm : mayA x.r.zs (Ls.all x.b) x.o.zs y.zs = false := Bool.eq_false_iff.2 fun h => h3 (mayA_iff.1 h).2.2
        obtain ⟨e1, e2, e3⟩ := allErr_bad hm
        have HE := Lib.hid (And.intro e1 (And.intro e2 e3))
        have g2 : ((y.n : Int) != (x.r.n : Int)) = false := by rw [h2]; simp
        have HR := Lib.hid h2
        clear h1 hm e1 e2 e3 hYL h2 h3
        unfold allW at hck hBW hbox bI bN
        go_wp2_with fail
        refine hck.mono ?_
        rintro e w2 ⟨rfl, hb2⟩
        have cI := boxed_below bI hb2
        have cN := boxed_below bN hb2
        have cM := hbox.below hb2
        have hB2 := hBW.trans (hb2.mono hBW.size)
        have hx2 := hx.below hB2
        have hy2 := hy.below hB2
        have cI1 := cI.cell
        have cI2 := cI.frozen
        have cN1 := cN.cell
        have cN2 := cN.frozen
        have cM0 := cM.c0
        have cM1 := cM.c1
        clear hck hbox bI bN hBW hb2 hxW hyW
        have hmy := hmay w2 hy2
        rw [h3'] at hmy
        go_wp2_with fail
        refine hmy.mono ?_
        rintro e w3 ⟨rfl, rfl⟩
        clear hmy
        go_wp2
        refine postM_ret (v := .tuple #[.slice none 0 0, .slice none 0 0, .int .i64 1]) (by simp [results, Tryz.results100, go_sem, cI1, cN1]) rfl ?_
        refine ⟨none, 0, 0, none, 0, 0, [], ?_, Outs.none_ _ _, ?_, ?_, (hB2.setCell (p := ⟨w.heap.size + 1, 0, none⟩) (by show w.heap.size ≤ w.heap.size + 1; omega) _).setCell (p := ⟨w.heap.size + 1 + 1, 0, none⟩) (by show w.heap.size ≤ w.heap.size + 1 + 1; omega) _⟩
        · rw [HE.out.1]
        · rw [HE.out.2.1]; rfl
        · rw [HE.out.2.2]; exact Own.none_ _ _ _ _

    · have hm : mayA x.r.zs (Ls.all x.b) x.o.zs y.zs = false := Bool.eq_false_iff.2 fun h => h2 (by rw [← hYL, ← hx.r.len]; exact (mayA_iff.1 h).2.1)
      obtain ⟨e1, e2, e3⟩ := allErr_bad hm
      have HE := Lib.hid (And.intro e1 (And.intro e2 e3))
      have g2 : ((y.n : Int) == (x.r.n : Int)) = false := by rw [beq_eq_false_iff_ne]; omega
      have g3 : ¬ (y.n : Int) = (x.r.n : Int) := by omega
      clear h1 hm e1 e2 e3 hYL h2
      unfold allW at hck hBW hbox bI bN
      go_wp2_with fail
      refine hck.mono ?_
      rintro e w2 ⟨rfl, hb2⟩
      have cI := boxed_below bI hb2
      have cN := boxed_below bN hb2
      have cM := hbox.below hb2
      have hB2 := hBW.trans (hb2.mono hBW.size)
      have hx2 := hx.below hB2
      have hy2 := hy.below hB2
      have cI1 := cI.cell
      have cI2 := cI.frozen
      have cN1 := cN.cell
      have cN2 := cN.frozen
      have cM0 := cM.c0
      have cM1 := cM.c1
      clear hck hbox bI bN hBW hb2 hxW hyW
      go_wp2
      refine postM_ret (v := .tuple #[.slice none 0 0, .slice none 0 0, .int .i64 1]) (by simp [results, Tryz.results100, go_sem, cI1, cN1]) rfl ?_
      refine ⟨none, 0, 0, none, 0, 0, [], ?_, Outs.none_ _ _, ?_, ?_, (hB2.setCell (p := ⟨w.heap.size + 1, 0, none⟩) (by show w.heap.size ≤ w.heap.size + 1; omega) _).setCell (p := ⟨w.heap.size + 1 + 1, 0, none⟩) (by show w.heap.size ≤ w.heap.size + 1 + 1; omega) _⟩
      · rw [HE.out.1]
      · rw [HE.out.2.1]; rfl
      · rw [HE.out.2.2]; exact Own.none_ _ _ _ _

  · have h1' : x.may = false := Bool.eq_false_iff.2 h1
    have hm : mayA x.r.zs (Ls.all x.b) x.o.zs y.zs = false := Bool.eq_false_iff.2 fun h => h1 (mayA_iff.1 h).1
    obtain ⟨e1, e2, e3⟩ := allErr_bad hm
    have HE := Lib.hid (And.intro e1 (And.intro e2 e3))
    rw [h1'] at hck
    clear h1 h1' hm e1 e2 e3 hYL
    unfold allW at hck hBW hbox bI bN
    go_wp2_with fail
    refine hck.mono ?_
    rintro e w2 ⟨rfl, hb2⟩
    have cI := boxed_below bI hb2
    have cN := boxed_below bN hb2
    have hB2 := hBW.trans (hb2.mono hBW.size)
    have cI1 := cI.cell
    have cI2 := cI.frozen
    have cN1 := cN.cell
    have cN2 := cN.frozen
    clear hck hbox bI bN hBW hb2 hxW hyW
    go_wp2
    refine postM_ret (v := .tuple #[.slice none 0 0, .slice none 0 0, .int .i64 1]) (by simp [results, Tryz.results100, go_sem, cI1, cN1]) rfl ?_
    refine ⟨none, 0, 0, none, 0, 0, [], ?_, Outs.none_ _ _, ?_, ?_, (hB2.setCell (p := ⟨w.heap.size + 1, 0, none⟩) (by show w.heap.size ≤ w.heap.size + 1; omega) _).setCell (p := ⟨w.heap.size + 1 + 1, 0, none⟩) (by show w.heap.size ≤ w.heap.size + 1 + 1; omega) _⟩
    · rw [HE.out.1]
    · rw [HE.out.2.1]; rfl
    · rw [HE.out.2.2]; exact Own.none_ _ _ _ _
end Go.Proofs.YtdckoaljcklmhaaGreatDoor



