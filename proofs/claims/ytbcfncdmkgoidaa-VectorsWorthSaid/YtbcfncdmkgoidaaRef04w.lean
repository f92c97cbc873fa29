/-
  Walks of the document's answers of layer 4: Worth.
-/
import Derived.Test.YtbcfncdmkgoidaaProg
import Derived.Test.YtbcfncdmkgoidaaKit
import Derived.Test.YtbcfncdmkgoidaaVecD
import Derived.BigQuiet
import Derived.WalkMore
import Derived.Deep.QuietTactic
import Derived.Deep.DeepMust
namespace Go.Proofs.Ytbcfncdmkgoidaa
open Go.RowKit
set_option linter.unusedVariables false

set_option maxRecDepth 100000 in
set_option maxHeartbeats 1000000 in
theorem rworth_any (A : Option Addr) (n c : Nat) (xs : List Int) (A2 : Option Addr) (m c2 : Nat) (ys : List Int) (i : Int) (w : World) (hr : Rd w A n (ci64 xs)) (hr2 : Rd w A2 m (ci64 ys)) (hx : ∀ z ∈ xs, -1000000000000 ≤ z ∧ z ≤ 1000000000000) (hy : ∀ z ∈ ys, -1000000000000 ≤ z ∧ z ≤ 1000000000000) (hn : n ≤ 1000000) (hm : m ≤ 1000000) :
    Calls Try.prog 9 #[.slice A n c, .slice A2 m c2, .int .i64 i] w fun e w' => e = .returned (.int .i64 (worth xs ys i)) ∧ Below w.heap.size w w' := by
  have hlx : xs.length = n := by have h := hr.len; rw [ci64_len] at h; exact h
  have hly : ys.length = m := by have h := hr2.len; rw [ci64_len] at h; exact h
  by_cases h0 : 0 ≤ i
  · obtain ⟨k, rfl⟩ : ∃ k : Nat, i = k := ⟨i.toNat, by omega⟩
    by_cases h1 : k < n
    · by_cases h2 : k < m
      · have e1 := worth_in (a := xs) (b := ys) k (by omega) (by omega)
        rw [e1]
        have hkx : k < xs.length := by omega
        have hky : k < ys.length := by omega
        obtain ⟨b, o, rfl, _, u, hu, hc⟩ := hr.get h1
        obtain ⟨b2, o2, rfl, _, u2, hu2, hc2⟩ := hr2.get h2
        rw [ci64_get _ _ hkx] at hu
        rw [ci64_get _ _ hky] at hu2
        cases hu
        cases hu2
        have bx := hx _ (List.getElem_mem hkx)
        have hby := hy _ (List.getElem_mem hky)
        unfold iV at hc hc2
        generalize xs[k] = x at hc bx ⊢
        generalize ys[k] = y at hc2 hby ⊢
        have t1 : decide (n ≤ k) = false := by simp; omega
        have t2 : decide (m ≤ k) = false := by simp; omega
        clear hr hr2 hx hy e1 hlx hly hkx hky
        go_enter Try.func9, Try.ntmps9
        have v1 : IntKind.i64.wrap (x - y) = x - y := by rw [IntKind.wrap_i64]; omega
        go_wp2
        go_quiet (fail)
        go_wp2
        all_goals
          go_ret
          exact ⟨ret_int (by omega), belowN (Below.refl _ _) _⟩
      · have e1 : worth xs ys k = -1 := worth_out (by omega)
        rw [e1]
        have t1 : decide (n ≤ k) = false := by simp; omega
        have t2 : decide (m ≤ k) = true := by simp; omega
        clear hr hr2 hx hy e1 hlx hly
        go_enter Try.func9, Try.ntmps9
        go_wp2
        go_ret
        exact ⟨rfl, Below.refl _ _⟩
    · have e1 : worth xs ys k = -1 := worth_out (by omega)
      rw [e1]
      have t1 : decide (n ≤ k) = true := by simp; omega
      clear hr hr2 hx hy e1 hlx hly
      go_enter Try.func9, Try.ntmps9
      go_wp2
      go_ret
      exact ⟨rfl, Below.refl _ _⟩
  · have e1 : worth xs ys i = -1 := worth_out (by omega)
    rw [e1]
    clear hr hr2 hx hy e1 hlx hly
    go_enter Try.func9, Try.ntmps9
    go_wp2
    go_ret
    exact ⟨rfl, Below.refl _ _⟩
end Go.Proofs.Ytbcfncdmkgoidaa
