/-
  What the laws of markets share: how much a market has, that came of bytes; which lists of a market a Book holds.
-/
import Derived.Test.YtjjaajmjcdihoaaGreatDoorMarkO
import Derived.Test.YtjjaajmjcdihoaaGreatDoorBkT
namespace Go.Proofs.YtjjaajmjcdihoaaGreatDoor
open Go.RowKit
set_option linter.unusedVariables false

theorem own_twin9 {w : World} {B n c : Nat} {A : Option Addr} {bs : List UInt8} (hl : bs.length = n) (h : Own w B 5 A (n + 1) c (cu8 (bs ++ [77]))) : Own w B 5 A n c (cu8 bs) := by
  have h2 := h.less (m := n) (by omega)
  rw [cu8_take, List.take_append_of_le_length (by omega), List.take_of_length_le (by omega)] at h2
  exact h2
theorem getM_small (bs : List UInt8) : (getM bs).1.length ≤ 255 ∧ (getM bs).2.1.length ≤ 8 ∧ (∀ l ∈ (getM bs).2.1, l.length ≤ 255) ∧ (getM bs).2.2.length ≤ 255 := by
  by_cases h : getME bs = 0
  · obtain ⟨r, b, o, h1, h2, _⟩ := getME_zero h
    rw [getM_good h h2]
    obtain ⟨a1, a2, a3, a4, a5⟩ := mayM_small h1
    exact ⟨a1.1, a5, fun l hl => (a2 l hl).1, a3.1⟩
  · rw [getM_bad' h]
    simp
/-- How much is in a market that has these parts. -/
theorem parts_small {y : Mk} {w : World} (hy : y.Ok w) {m : List Int × List (List Int) × List Int} (hp : y.parts = m) (h : m.1.length ≤ 255 ∧ m.2.1.length ≤ 8 ∧ (∀ l ∈ m.2.1, l.length ≤ 255) ∧ m.2.2.length ≤ 255) :
    y.r.n ≤ 255 ∧ y.n ≤ 8 ∧ y.o.n ≤ 255 ∧ ∀ u ∈ y.b, u.n ≤ 255 := by
  subst hp
  obtain ⟨b1, b2, b3, b4⟩ := h
  simp only [Mk.parts] at b1 b2 b3 b4
  refine ⟨by rw [← hy.r.len]; exact b1, ?_, by rw [← hy.o.len]; exact b4, fun u hu => ?_⟩
  · rw [Ls.all, List.length_map, hy.len] at b2; exact b2
  · rw [← (hy.bs u hu).len]; exact b3 u.zs (List.mem_map_of_mem hu)

/-- The lists of ints of a market, as a Book holds them. -/
def Mk.held (y : Mk) (N : Nat) : List Hl := y.r.held (N + 1) :: (told (N + 1) y.b ++ [y.o.held (N + y.n + 3)])
def Mk.lists (y : Mk) (N : Nat) : List Hl := [⟨y.A, y.n, y.c, none, 0, 0, N + y.n + 2⟩]
theorem held_own {w : World} {B N : Nat} {y : Mk} (hy : MkOwn w B y) : ∀ h ∈ y.held N, ∃ xs, Own w B 3 h.A h.n h.c xs := by
  intro h hm
  simp only [Mk.held, List.mem_cons, List.mem_append, List.not_mem_nil, or_false] at hm
  rcases hm with rfl | hm | rfl
  · exact ⟨_, hy.r.own⟩
  · obtain ⟨u, hu, k, _, rfl⟩ := told_mem hm
    exact ⟨_, (hy.bs u hu).own⟩
  · exact ⟨_, hy.o.own⟩
theorem lists_own {w : World} {B N : Nat} {y : Mk} (hy : MkOwn w B y) : ∀ h ∈ y.lists N, ∃ xs, Own w B 22 h.A h.n h.c xs := by
  intro h hm
  rw [Mk.lists, List.mem_singleton] at hm
  subst hm
  exact ⟨_, hy.b⟩
theorem held_key_all (y : Mk) (N : Nat) : (y.held N).map Hl.key = (y.r :: (y.b ++ [y.o])).map Ls.key := by
  simp only [Mk.held, List.map_cons, List.map_append, told_key, List.map_nil]
  rfl
theorem held_small {w : World} {y : Mk} (hy : y.Ok w) {N M : Nat} (hN : N + y.n + 3 ≤ M) (hM : M < 1000000000) (hr : y.r.n ≤ 255) (ho : y.o.n ≤ 255) (hb : ∀ u ∈ y.b, u.n ≤ 255) : ∀ h ∈ y.held N, h.k < 1000000000 ∧ h.n ≤ 1000000000 := by
  intro h hm
  have hl := hy.len
  simp only [Mk.held, List.mem_cons, List.mem_append, List.not_mem_nil, or_false] at hm
  rcases hm with rfl | hm | rfl
  · simp only [Ls.held]; omega
  · obtain ⟨u, hu, k, hk, rfl⟩ := told_mem hm
    have := hb u hu
    simp only [Ls.held]; omega
  · simp only [Ls.held]; omega
theorem held_len (y : Mk) {w : World} (hy : y.Ok w) (N : Nat) : (y.held N).length = y.n + 2 := by
  rw [Mk.held, List.length_cons, List.length_append, told_len, List.length_singleton, hy.len]
theorem hit_lt {w : World} {B : Nat} {e : TypeId} {h : Hl} (ho : ∃ xs, Own w B e h.A h.n h.c xs) {g : Nat} (hg : Hit h g) : B ≤ g ∧ g < w.heap.size := by
  obtain ⟨xs, ox⟩ := ho
  exact ox.blk hg.1 hg.2
end Go.Proofs.YtjjaajmjcdihoaaGreatDoor
