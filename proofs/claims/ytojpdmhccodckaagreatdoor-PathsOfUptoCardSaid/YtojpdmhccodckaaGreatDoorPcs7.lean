/-
  A piece of two lists that one call handed back; how long the answers of layer 7 can be.
-/
import Derived.Test.YtojpdmhccodckaaGreatDoorPcs
import Derived.Test.YtojpdmhccodckaaGreatDoorPaO
namespace Go.Proofs.YtojpdmhccodckaaGreatDoor
open Go.RowKit
set_option linter.unusedVariables false

/-- Two lists of ints of one call. -/
def pcI2 (u v : Ls) (k l : Nat) : Pc := ⟨[], [u.held k, v.held l], []⟩
theorem pcI2_own {w : World} {lo hi k l : Nat} {u v : Ls} (h1 : OwnI w lo u) (h2 : OwnI w lo v) (ha : AptL [u, v]) (hh : lo ≤ hi) (g1 : ∀ g, Blk u g → g < hi) (g2 : ∀ g, Blk v g → g < hi) (hk : k < 1000000000 ∧ l < 1000000000) (hn : u.n ≤ 1000000000 ∧ v.n ≤ 1000000000) : (pcI2 u v k l).Ok w lo hi where
  le := hh
  ob := fun x hx => by simp [pcI2] at hx
  oi := fun x hx => by
    simp only [pcI2, List.mem_cons, List.not_mem_nil, or_false] at hx
    rcases hx with rfl | rfl
    · exact ⟨_, h1.own⟩
    · exact ⟨_, h2.own⟩
  ol := fun x hx => by simp [pcI2] at hx
  sb := List.Pairwise.nil
  si := sep_of_apt (l := [u, v]) rfl ha
  sl := List.Pairwise.nil
  lt := fun x hx => by
    simp only [pcI2, List.not_mem_nil, or_false, false_or, List.mem_cons] at hx
    rcases hx with rfl | rfl
    · exact ⟨fun g hg => g1 g hg, hk.1, hn.1⟩
    · exact ⟨fun g hg => g2 g hg, hk.2, hn.2⟩

theorem aug_len (by_ : List Int) : ∀ (fuel : Nat) (k : Int) (out : List Int), (augP by_ fuel k out).length = out.length
  | 0, _, _ => rfl
  | fuel + 1, k, out => by
    rw [augP]
    split
    · rfl
    · rw [aug_len by_ fuel, List.length_set]
theorem moreL_len {g : List (List Int)} {m : Int} {has : List Int} {z : Int} : (moreL g m has z).length ≤ 8 := by
  unfold moreL
  split
  · rename_i h
    obtain ⟨_, _, _, h3, h4, _⟩ := may_nat h
    rw [moreP]
    split
    · simp
    · rw [aug_len]; omega
  · simp
theorem whoL_len {g : List (List Int)} {m : Int} {has : List Int} {z : Int} : (whoL g m has z).length ≤ 8 := by
  unfold whoL
  split
  · rename_i h
    obtain ⟨_, _, _, h3, h4, _⟩ := may_nat h
    have := upto_len g.length fun i => decide ((i : Int) ∈ (reachS g m.toNat has z).q)
    unfold whoP
    omega
  · simp
theorem whatL_len {g : List (List Int)} {m : Int} {has : List Int} {z : Int} : (whatL g m has z).length ≤ 8 := by
  unfold whatL
  split
  · rename_i h
    obtain ⟨M, hM, hM8, h3, h4, _⟩ := may_nat h
    have := upto_len m.toNat fun k => decide ((reachS g m.toNat has z).vis k)
    unfold whatP
    omega
  · simp
end Go.Proofs.YtojpdmhccodckaaGreatDoor
