/-
  How much is in a list, in a list of lists, in a market: whatever number that is.
-/
import Derived.Test.YtoogldllcgbmdaaMarkO
namespace Go.Proofs.Ytoogldllcgbmdaa
open Go.RowKit
set_option linter.unusedVariables false

set_option maxRecDepth 100000 in
set_option maxHeartbeats 400000 in
theorem intssize_any (A : Option Addr) (n c : Nat) (w : World) : Calls Try.prog 32 #[.slice A n c] w fun e w' => e = .returned (.int .i64 n) ∧ w = w' := by
  go_enter Try.func32, Try.ntmps32
  go_wp2
  go_ret
  exact ⟨rfl, rfl⟩

set_option maxRecDepth 100000 in
set_option maxHeartbeats 1000000 in
theorem intlistssize_some (A : Option Addr) (n c : Nat) (t : List Ls) (w : World) (hl : Lss w A n t) (hc : n ≤ c) (hc2 : c ≤ maxLen) :
    Calls Try.prog 33 #[.slice A n c] w fun e w' => ∃ z : Int, e = .returned (.int .i64 z) ∧ w = w' := by
  have tn := Nat.le_trans hc hc2
  unfold maxLen at tn
  go_enter Try.func33, Try.ntmps33
  go_wp2_with fail
  go_loop [3, 4] (fun v i => ∃ (z : Int) (j : Nat), j ≤ n ∧ v = .int .i64 z ∧ i = .int .i64 j) (fun _ i => n - (intOf i).toNat)
  case atStart => exact ⟨n, 0, Nat.zero_le _, rfl, rfl⟩
  case round =>
    obtain ⟨z, j, hj, rfl, rfl⟩ := hrel
    by_cases hlt : j < n
    · by_cases hz : z ≤ 1048576
      · obtain ⟨p, q, u, hA, hu, hp, hcl, hk⟩ := hl.get hlt
        have hcell : w.cell? ⟨p, q + j, none⟩ = some (.slice u.A u.n u.c) := hcl
        subst hA
        clear hcl hl
        go_wp2_with fail
        refine (intssize_any u.A u.n u.c w).mono ?_
        rintro e w1 ⟨rfl, rfl⟩
        go_wp2
        go_round
        case rel => exact ⟨_, j + 1, by omega, rfl, by go_num⟩
        case measure => simp [intOf]; omega
      · have hz' : decide (z ≤ 1048576) = false := by simp; omega
        go_wp2
        go_ret
        exact ⟨⟨z, rfl⟩, rfl⟩
    · obtain rfl : j = n := by omega
      go_wp2
      go_ret
      exact ⟨⟨z, rfl⟩, rfl⟩

set_option maxRecDepth 100000 in
set_option maxHeartbeats 1000000 in
theorem marketsize_some (x : Mk) (w : World) (h : x.Ok w) :
    Calls Try.prog 16 #[x.v] w fun e w' => ∃ z : Int, e = .returned (.int .i64 z) ∧ Below w.heap.size w w' := by
  have hxv : x.v = .agg #[.slice x.r.A x.r.n x.r.c, .slice x.A x.n x.c, .slice x.o.A x.o.n x.o.c] := rfl
  rw [hxv]
  have hbox := InBox.new w x
  have hBW : Below w.heap.size w (w.alloc (.cells #[.slice x.r.A x.r.n x.r.c, .slice x.A x.n x.c, .slice x.o.A x.o.n x.o.c] 25)) := (Below.refl _ w).alloc (Nat.le_refl _) _
  have hx := h.below hBW
  clear hxv
  go_enter Try.func16, Try.ntmps16
  go_wp2_with fail
  generalize w.alloc (.cells #[.slice x.r.A x.r.n x.r.c, .slice x.A x.n x.c, .slice x.o.A x.o.n x.o.c] 25) = W at *
  have ⟨c0, c1, c2, clt⟩ := hbox
  refine (intssize_any _ _ _ _).mono ?_
  rintro e w1 ⟨rfl, rfl⟩
  have tr := Nat.le_trans hx.r.cap hx.r.top
  have to := Nat.le_trans hx.o.cap hx.o.top
  unfold maxLen at tr to
  obtain ⟨z1, hz1⟩ : ∃ z1, IntKind.i64.wrap (1 + (x.r.n : Int)) = z1 := ⟨_, rfl⟩
  have hil := intlistssize_some x.A x.n x.c x.b W hx.lss hx.cap hx.top
  by_cases g1 : z1 ≤ 1048576
  · go_wp2_with fail
    refine hil.mono ?_
    rintro e w2 ⟨z2, rfl, rfl⟩
    obtain ⟨z3, hz3⟩ : ∃ z3, IntKind.i64.wrap (z1 + z2) = z3 := ⟨_, rfl⟩
    by_cases g3 : z3 ≤ 1048576
    · go_wp2_with fail
      refine (intssize_any _ _ _ _).mono ?_
      rintro e w3 ⟨rfl, rfl⟩
      go_wp2
      go_ret
      exact ⟨_, rfl, hBW⟩
    · have g3' : decide (z3 ≤ 1048576) = false := by simp; omega
      go_wp2
      go_ret
      exact ⟨_, rfl, hBW⟩
  · have g1' : decide (z1 ≤ 1048576) = false := by simp; omega
    go_wp2
    go_ret
    exact ⟨_, rfl, hBW⟩
end Go.Proofs.Ytoogldllcgbmdaa
