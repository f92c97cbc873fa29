/-
  A list of lists that is made as long as it will be, and then filled, one by one.
-/
import Derived.Test.YtjjaajmjcdihoaaMarkE
namespace Go.Proofs.Ytjjaajmjcdihoaa
open Go.RowKit
set_option linter.unusedVariables false

/-- The first ones are filled, the others are nil. -/
structure Fill (w : World) (B : Nat) (A : Option Addr) (n : Nat) (t : List Ls) : Prop where
  own : Own w B 22 A n n (t.map Ls.v ++ List.replicate (n - t.length) (.slice none 0 0))
  each : ∀ u ∈ t, OwnI w B u
  apt : AptL t
  le : t.length ≤ n
theorem Fill.below {w w' : World} {B : Nat} {A : Option Addr} {n : Nat} {t : List Ls} (h : Fill w B A n t) (hb : Below w.heap.size w w') : Fill w' B A n t := ⟨h.own.below hb, fun u hu => (h.each u hu).below hb, h.apt, h.le⟩
theorem Fill.mono {w : World} {B B' : Nat} {A : Option Addr} {n : Nat} {t : List Ls} (h : Fill w B A n t) (hB : B' ≤ B) : Fill w B' A n t := ⟨h.own.mono hB, fun u hu => (h.each u hu).mono hB, h.apt, h.le⟩
theorem Fill.keepB {w w' : World} {B : Nat} {A : Option Addr} {n : Nat} {t : List Ls} (h : Fill w B A n t) (hk : ∀ g, B ≤ g → w'.heap[g]? = w.heap[g]?) : Fill w' B A n t :=
  ⟨h.own.keep fun g _ _ hg _ => hk g hg, fun u hu => (h.each u hu).keepB hk, h.apt, h.le⟩
theorem Fill.start {w : World} {B : Nat} {A : Option Addr} {n : Nat} (h : Own w B 22 A n n (List.replicate n (.slice none 0 0))) : Fill w B A n [] := ⟨by simpa using h, by simp, List.Pairwise.nil, Nat.zero_le _⟩
theorem Fill.outs {w : World} {B : Nat} {A : Option Addr} {n : Nat} {t : List Ls} (h : Fill w B A n t) (hl : t.length = n) : Outs w B A n n t := by
  have h1 := h.own
  rw [hl, Nat.sub_self, List.replicate_zero, List.append_nil] at h1
  exact ⟨h1, h.each, h.apt⟩
theorem Fill.set {w : World} {B g n : Nat} {t : List Ls} (h : Fill w B (some ⟨g, 0, none⟩) n t) (hn : t.length < n) (u : Ls) :
    Own (w.setCell ⟨g, t.length, none⟩ u.v) B 22 (some ⟨g, 0, none⟩) n n ((t ++ [u]).map Ls.v ++ List.replicate (n - (t ++ [u]).length) (.slice none 0 0)) := by
  have h1 := h.own.set (by omega) t.length u.v
  rw [show n - t.length = (n - (t ++ [u]).length) + 1 by simp; omega, List.replicate_succ] at h1
  rw [List.map_append, List.map_cons, List.map_nil, List.append_assoc, List.singleton_append]
  have e : (t.map Ls.v ++ (Value.slice none 0 0) :: List.replicate (n - (t ++ [u]).length) (Value.slice none 0 0)).set t.length u.v = t.map Ls.v ++ u.v :: List.replicate (n - (t ++ [u]).length) (Value.slice none 0 0) := by
    have hl : t.length = (t.map Ls.v).length := by simp
    conv => lhs; rw [hl]
    simp
  rw [e] at h1
  exact h1
/-- One more is filled. -/
theorem Fill.put {w : World} {B g n s : Nat} {t : List Ls} {u : Ls} (h : Fill w B (some ⟨g, 0, none⟩) n t) (hn : t.length < n) (hu : OwnI w s u) (hs : B ≤ s) (hsep : ∀ x ∈ t, ∀ g, Blk x g → g < s) :
    Fill (w.setCell ⟨g, t.length, none⟩ u.v) B (some ⟨g, 0, none⟩) n (t ++ [u]) := by
  refine ⟨h.set hn u, fun x hx => ?_, aptL_snoc h.apt hsep fun g hg => (hu.blk hg).1, by simp; omega⟩
  rcases List.mem_append.1 hx with hx | hx
  · exact (h.each x hx).setO h.own (by omega) (by decide) _ _
  · rw [List.mem_singleton.1 hx]
    exact (hu.mono hs).setO h.own (by omega) (by decide) _ _
/-- One more stays nil. -/
theorem Fill.skip {w : World} {B n : Nat} {A : Option Addr} {t : List Ls} (h : Fill w B A n t) (hn : t.length < n) : Fill w B A n (t ++ [Ls.nil]) := by
  refine ⟨?_, fun x hx => ?_, ?_, by simp; omega⟩
  · have h1 := h.own
    rw [show n - t.length = (n - (t ++ [Ls.nil]).length) + 1 by simp; omega, List.replicate_succ] at h1
    rw [List.map_append, List.map_cons, List.map_nil, List.append_assoc, List.singleton_append]
    exact h1
  · rcases List.mem_append.1 hx with hx | hx
    · exact h.each x hx
    · rw [List.mem_singleton.1 hx]
      exact OwnI.nil _ _
  · refine List.pairwise_append.2 ⟨h.apt, List.pairwise_singleton _ _, fun a ha b hb g hg hg2 => ?_⟩
    rw [List.mem_singleton.1 hb] at hg2
    exact absurd hg2.1 (by simp [Ls.nil])
/-- The cell that is filled next. -/
theorem Fill.cell {w : World} {B g n : Nat} {t : List Ls} (h : Fill w B (some ⟨g, 0, none⟩) n t) (hn : t.length < n) : w.cell? ⟨g, t.length, none⟩ = some (.slice none 0 0) ∧ w.frozen? ⟨g, t.length, none⟩ = false := by
  refine ⟨?_, h.own.free (by omega) _⟩
  rw [h.own.cell hn, List.getElem?_append_right (by simp), List.length_map, Nat.sub_self, List.getElem?_replicate, if_pos (by omega)]
theorem Fill.sep {w : World} {B n : Nat} {A : Option Addr} {t : List Ls} (h : Fill w B A n t) : ∀ x ∈ t, ∀ g, Blk x g → g < w.heap.size := fun x hx g hg => ((h.each x hx).blk hg).2
theorem all_snoc (t : List Ls) (u : Ls) : Ls.all (t ++ [u]) = Ls.all t ++ [u.zs] := by simp [Ls.all]
theorem lessm_take {b : List (List Int)} {i j : Nat} (hj : j < b.length) : (less b i).take (j + 1) = (less b i).take j ++ [if i = j then [] else b[j]] := by
  unfold less
  have hj2 : j < (b.set i []).length := by rw [List.length_set]; exact hj
  rw [List.take_succ_eq_append_getElem hj2, List.getElem_set]
/-- Lists, and two that were made behind them, one behind the other. -/
theorem aptL_behind {r o : Ls} {t : List Ls} {s s2 : Nat} (h : AptL t) (ht : ∀ x ∈ t, ∀ g, Blk x g → g < s) (hr : ∀ g, Blk r g → s ≤ g ∧ g < s2) (ho : ∀ g, Blk o g → s2 ≤ g) (hs : s ≤ s2) : AptL (r :: (t ++ [o])) := by
  refine List.pairwise_cons.2 ⟨fun a ha g hg hg2 => ?_, List.pairwise_append.2 ⟨h, List.pairwise_singleton _ _, fun a ha b hb g hg hg2 => ?_⟩⟩
  · rcases List.mem_append.1 ha with ha | ha
    · have := ht a ha g hg2
      have := hr g hg
      omega
    · rw [List.mem_singleton.1 ha] at hg2
      have := ho g hg2
      have := hr g hg
      omega
  · rw [List.mem_singleton.1 hb] at hg2
    have := ht a ha g hg
    have := ho g hg2
    omega
end Go.Proofs.Ytjjaajmjcdihoaa
