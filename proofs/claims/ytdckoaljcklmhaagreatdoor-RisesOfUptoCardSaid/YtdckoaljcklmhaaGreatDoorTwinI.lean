/-
  Walks of TwinInts, LeftInts and SameInts: a copy of ints in memory of its own with a mark in the room behind it, and whether it is still that.
-/
import Derived.Test.YtdckoaljcklmhaaGreatDoorProg
import Derived.Test.YtdckoaljcklmhaaGreatDoorKit
import Derived.Test.YtdckoaljcklmhaaGreatDoorGrD
import Derived.BigQuiet
import Derived.Deep.QuietTactic
import Derived.Deep.DeepMust
namespace Go.Proofs.YtdckoaljcklmhaaGreatDoor
open Go.RowKit
set_option linter.unusedVariables false

/-- make([]E, 0, n). -/
theorem wpList_mk0 {P : Program} (w : World) {ops : Array Oper} {rest : List Oper} {o : Oper} {a : Act} {Q : Exit → Act → World → Prop} (hg : o.guard = none) (l c : Operand) (t : TypeId) (hop : o.op = Op.makeSlice t l c)
    (B : Nat) (e : TypeId) (i : TypeInfo) (z : Value) (h1 : P.underlying t = some (.slice e)) (h2 : P.info? e = some i) (h3 : i.zero = some z) (h4 : i.size = 1)
    (kl kc : IntKind) (C : Int) (n : Nat) (hl : a.eval l = .int kl 0) (hc : a.eval c = .int kc C) (hC : C = (n : Int)) (b2 : i.bytes * n ≤ 281474976710656) (b3 : n ≤ maxLen) (b4 : B ≤ w.heap.size)
    (hK : ∀ w', Own w' B e (some ⟨w.heap.size, 0, none⟩) 0 n [] → Below w.heap.size w w' → wpList P ops Q rest (a.put o.dst (.slice (some ⟨w.heap.size, 0, none⟩) 0 n)) w') :
    wpList P ops Q (o :: rest) a w := by
  refine wpList_make_own (P := P) w hg l c t hop B e i z 1 h1 h2 h3 h4 kl kc C n hl hc hC b2 b3 b4 fun w' ho hgr => hK w' ?_ ?_
  · obtain ⟨A2, c2, hv, h⟩ := Own.of_row ho
    cases hv
    exact h
  · exact (Below.refl _ w).grown hgr (Nat.le_refl _) (by intro k hk; cases hk)

end Go.Proofs.YtdckoaljcklmhaaGreatDoor


namespace Go.Proofs.YtdckoaljcklmhaaGreatDoor
open Go.RowKit
set_option linter.unusedVariables false

theorem twin_info_int : (Tryz.prog.info? 3).map (fun i => (i.zero, i.size, i.bytes)) = some (some (.int .i64 0), 1, 8) := by kernel_rfl

set_option maxHeartbeats 400000 in
theorem twinints_any (A : Option Addr) (n c : Nat) (bs : List Int) (w : World) (hr : Rd w A n (ci64 bs)) (hn : n ≤ 1000000000) :
    Calls Tryz.prog 7 #[.slice A n c] w fun e w' => ∃ A' c', e = .returned (.slice A' n c') ∧ Own w' w.heap.size 3 A' (n + 1) c' (ci64 (bs ++ [77])) ∧ Below w.heap.size w w' := by
  obtain ⟨i0, hi0, hz0, hz1, hz2⟩ := info_parts twin_info_int
  have hl : bs.length = n := by have h := hr.len; rw [ci64_len] at h; exact h
  have HL := Lib.hid hl
  clear hl
  go_enter Tryz.func7, Tryz.ntmps7
  go_wp2_with (at_make; go_must (refine wpList_mk0 _ rfl _ _ 22 rfl w.heap.size 3 i0 _ Tryz.underlying22 hi0 hz0 hz1 .i64 .i64 _ (n + 1) rfl rfl ?c1 ?c2 ?c3 ?c4 ?_))
  case c1 => omega
  case c2 => rw [hz2]; omega
  case c3 => simp only [maxLen]; omega
  case c4 => exact Nat.le_refl _
  intro w1 hown1 hbel1
  go_wp2_with fail
  go_loopw [3, 4] (fun v i wr => ∃ (j : Nat) (A' : Option Addr) (c' : Nat), j ≤ n ∧ i = .int .i64 j ∧ v = .slice A' j c' ∧ Own wr w.heap.size 3 A' j c' (ci64 (bs.take j)) ∧ Below w.heap.size w wr) (fun _ i _ => n - (intOf i).toNat)
  case atStart => exact ⟨0, _, _, Nat.zero_le _, rfl, rfl, hown1, hbel1⟩
  case round =>
    obtain ⟨j, A', c', hj, rfl, rfl, hown, hbel⟩ := hrel
    by_cases hlt : j < n
    · have hjl : j < bs.length := by rw [HL.out]; exact hlt
      obtain ⟨b0, o0, rfl, hb0, u0, hu0, hcell⟩ := hr.get hlt
      rw [ci64_get bs j hjl] at hu0
      obtain rfl : iV bs[j] = u0 := by injection hu0
      have hcell' : wr.cell? ⟨b0, o0 + j, none⟩ = some (.int .i64 bs[j]) := by rw [hbel.cell (p := ⟨b0, o0 + j, none⟩) hb0, hcell]; rfl
      have hT := Lib.hid (List.take_succ_eq_append_getElem hjl)
      clear hcell hu0
      go_wp2_with (at_builtin; go_must (refine wpList_app1 wr rfl _ _ 22 rfl 3 i0 _ 8 Tryz.underlying22 hi0 hz0 hz1 hz2 rfl w.heap.size A' j c' _ rfl hown 1 rfl rfl ?c3 ?c4 ?c5 ?_))
      case c3 => simp only [maxLen]; omega
      case c4 => omega
      case c5 => exact hbel.size
      intro A2 c2 w2 hown2 hbel2 hfr2 hat2
      have hown3 : Own w2 w.heap.size 3 A2 (j + 1) c2 (ci64 (bs.take (j + 1))) := by
        rw [hT.out, ci64_app]
        exact hown2
      clear hown2 hfr2 hat2
      go_wp2
      go_roundw
      case rel => exact ⟨j + 1, A2, c2, by omega, by go_num, rfl, hown3, hbel.trans hbel2⟩
      case measure => simp [intOf]; omega
    · obtain rfl : j = n := by omega
      have e1 : bs.take j = bs := List.take_of_length_le (by rw [HL.out]; exact Nat.le_refl _)
      rw [e1] at hown
      clear e1
      go_wp2_with (at_builtin; go_must (refine wpList_app1 wr rfl _ _ 22 rfl 3 i0 _ 8 Tryz.underlying22 hi0 hz0 hz1 hz2 rfl w.heap.size A' j c' _ rfl hown 1 rfl rfl ?c3 ?c4 ?c5 ?_))
      case c3 => simp only [maxLen]; omega
      case c4 => omega
      case c5 => exact hbel.size
      intro A2 c2 w2 hown2 hbel2 hfr2 hat2
      have hown3 : Own w2 w.heap.size 3 A2 (j + 1) c2 (ci64 (bs ++ [77])) := by
        rw [ci64_app]
        exact hown2
      clear hown2 hfr2 hat2
      have k1 := hown3.le
      have k2 := hown3.cap
      unfold maxLen at k2
      go_wp2
      go_ret
      exact ⟨A2, c2, rfl, hown3, hbel.trans hbel2⟩

set_option maxHeartbeats 400000 in
theorem leftints_any (A : Option Addr) (n c : Nat) (bs : List Int) (A2 : Option Addr) (c2 : Nat) (w : World) (B : Nat) (ho : Own w B 3 A (n + 1) c (ci64 (bs ++ [77]))) (hr2 : Rd w A2 n (ci64 bs)) (hn : n ≤ 1000000000) :
    Calls Tryz.prog 16 #[.slice A n c, .slice A2 n c2] w fun e w' => e = .returned (.bool true) ∧ Below w.heap.size w w' := by
  have hl : bs.length = n := by have h := hr2.len; rw [ci64_len] at h; exact h
  have HL := Lib.hid hl
  clear hl
  have k1 := ho.le
  have k2 := ho.cap
  unfold maxLen at k2
  obtain ⟨g, rfl, _, hg⟩ := ho.lt (by omega)
  have k3 : decide (c ≤ n) = false := by simp; omega
  have hlast : w.cell? ⟨g, n, none⟩ = some (.int .i64 77) := by
    rw [ho.cell (by omega), ci64_get _ _ (by rw [List.length_append, HL.out]; simp)]
    simp [iV, HL.out]
  go_enter Tryz.func16, Tryz.ntmps16
  go_wp2_with fail
  go_loopw [5] (fun i wr => ∃ j : Nat, j ≤ n ∧ i = .int .i64 j ∧ ∃ q, wr = w.drewN q) (fun i _ => n - (intOf i).toNat)
  case atStart => exact ⟨0, Nat.zero_le _, rfl, 0, rfl⟩
  case round =>
    obtain ⟨j, hj, rfl, q, rfl⟩ := hrel
    by_cases hlt : j < n
    · have hjl : j < bs.length := by rw [HL.out]; exact hlt
      obtain ⟨b0, o0, rfl, hb0, u0, hu0, hcell⟩ := hr2.get hlt
      rw [ci64_get bs j hjl] at hu0
      obtain rfl : iV bs[j] = u0 := by injection hu0
      have hcell' : w.cell? ⟨b0, o0 + j, none⟩ = some (.int .i64 bs[j]) := hcell
      have hcell2 : w.cell? ⟨g, j, none⟩ = some (.int .i64 bs[j]) := by
        rw [ho.cell (by omega), ci64_get _ _ (by rw [List.length_append]; omega), List.getElem_append_left hjl]
        rfl
      clear hcell hu0
      go_wp2
      go_quiet (fail)
      go_wp2
      go_roundw
      case rel => exact ⟨j + 1, by omega, by go_num, _, rfl⟩
      case measure => simp [intOf]; omega
    · obtain rfl : j = n := by omega
      go_wp2
      go_ret
      exact ⟨rfl, belowN (Below.refl _ _) _⟩
end Go.Proofs.YtdckoaljcklmhaaGreatDoor

