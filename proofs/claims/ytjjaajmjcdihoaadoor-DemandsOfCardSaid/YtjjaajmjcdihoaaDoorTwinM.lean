/-
  Walks of TwinIntLists and TwinMarket: a copy of lists of ints in memory of its own, with a mark in the room behind each.
-/
import Derived.Test.YtjjaajmjcdihoaaDoorTwinI
import Derived.Test.YtjjaajmjcdihoaaDoorSameM
import Derived.Test.YtjjaajmjcdihoaaDoorReg
namespace Go.Proofs.YtjjaajmjcdihoaaDoor
open Go.RowKit
set_option linter.unusedVariables false

theorem twin_info_ints : (Tryd.prog.info? 22).map (fun i => (i.zero, i.size, i.bytes)) = some (some (.slice none 0 0), 1, 24) := by kernel_rfl

/-- A twin of a list: the call's own, a mark behind it. -/
structure Twn (w : World) (B : Nat) (u : Ls) : Prop where
  own : Own w B 3 u.A (u.n + 1) u.c (ci64 (u.zs ++ [77]))
  fit : ∀ z ∈ u.zs, -9223372036854775808 ≤ z ∧ z ≤ 9223372036854775807
theorem Twn.keep {w w' : World} {B : Nat} {u : Ls} (h : Twn w B u) (hk : ∀ g, u.A = some ⟨g, 0, none⟩ → g < w.heap.size → w'.heap[g]? = w.heap[g]?) : Twn w' B u :=
  ⟨h.own.keep fun g hA _ _ hlt => hk g hA hlt, h.fit⟩
theorem Twn.below {w w' : World} {B : Nat} {u : Ls} (h : Twn w B u) (hb : Below w.heap.size w w') : Twn w' B u := h.keep fun g _ hlt => hb.block g hlt
theorem Twn.ok {w : World} {B : Nat} {u : Ls} (h : Twn w B u) : u.Ok w := by
  have h1 := h.own.rd
  have h2 := h.own.len
  rw [ci64_len, List.length_append, List.length_singleton] at h2
  refine ⟨?_, by have := h.own.le; omega, h.own.cap, h.fit⟩
  have h3 := h1.take (hi := u.n) (by omega)
  rw [ci64_take, List.take_append_of_le_length (by omega), List.take_of_length_le (by omega)] at h3
  exact h3

theorem Twn.blk {w : World} {B : Nat} {u : Ls} (h : Twn w B u) {g : Nat} (hg : Blk u g) : B ≤ g ∧ g < w.heap.size := h.own.blk hg.1 hg.2
theorem own_apart {w : World} {B : Nat} {e e' : TypeId} {A : Option Addr} {n c : Nat} {xs : List Value} (h : Own w B e A n c xs) {g : Nat} {cur : Array Value} (hg : w.heap[g]? = some (.cells cur e' (0, 0))) (hne : e ≠ e') : (n = 0 ∧ c = 0) ∨ A ≠ some ⟨g, 0, none⟩ := by
  rcases h.2 with h0 | ⟨g', cur', hA, _, hh, _⟩
  · exact .inl h0
  · refine .inr fun he => ?_
    rw [hA] at he
    cases he
    rw [hh] at hg
    injection hg with hg
    injection hg with _ h2
    exact hne h2
/-- What is appended to the list of lists leaves each of these as it was. -/
theorem Twn.app {w w' : World} {B B' : Nat} {u : Ls} {A : Option Addr} {n c : Nat} {xs : List Value} (h : Twn w B u) (ho : Own w B' 22 A n c xs) (hf : ∀ k, k < w.heap.size → ((n = 0 ∧ c = 0) ∨ A ≠ some ⟨k, 0, none⟩) → w'.heap[k]? = w.heap[k]?) : Twn w' B u := by
  refine ⟨?_, h.fit⟩
  obtain ⟨h1, h2⟩ := h.own
  rcases h2 with h0 | ⟨g, cur, hA, hg, hh, r⟩
  · omega
  · exact ⟨h1, .inr ⟨g, cur, hA, hg, by rw [hf g (Array.getElem?_eq_some_iff.1 hh).1 (own_apart ho hh (by decide))]; exact hh, r⟩⟩

/-- A twin of a market. -/
structure TwnM (w : World) (B : Nat) (y : Mk) : Prop where
  r : Twn w B y.r
  o : Twn w B y.o
  b : ∃ m, Own w B 22 y.A (y.n + 1) y.c (y.b.map Ls.v ++ [.slice (some ⟨m, 0, none⟩) 1 1]) ∧ w.heap[m]? = some (.cells #[.int .i64 77] 3 (0, 0))
  bs : ∀ u ∈ y.b, Twn w B u
  apt : AptL (y.r :: (y.b ++ [y.o]))
theorem TwnM.below {w w' : World} {B : Nat} {y : Mk} (h : TwnM w B y) (hb : Below w.heap.size w w') : TwnM w' B y :=
  ⟨h.r.below hb, h.o.below hb, h.b.elim fun m hm => ⟨m, hm.1.below hb, by rw [hb.block m (Array.getElem?_eq_some_iff.1 hm.2).1]; exact hm.2⟩, fun u hu => (h.bs u hu).below hb, h.apt⟩
theorem TwnM.ok {w : World} {B : Nat} {y : Mk} (h : TwnM w B y) : y.Ok w := by
  obtain ⟨m, hm, _⟩ := h.b
  have h2 := hm.len
  rw [List.length_append, List.length_map, List.length_singleton] at h2
  have hc := hm.le
  have hl : y.b.length = y.n := by omega
  obtain ⟨g, hA, hB, hg⟩ := hm.lt (by omega)
  refine ⟨h.r.ok, h.o.ok, ⟨by rw [List.length_map]; exact hl, fun hn => ⟨g, 0, hA, fun j r hj i hi => ?_⟩⟩, fun u hu => (h.bs u hu).ok, by omega, hm.cap, fun _ => ⟨g, 0, hA, hg⟩⟩
  obtain rfl : i = 0 := by omega
  rw [List.getElem?_map] at hj
  obtain ⟨u, hu, rfl⟩ := Option.map_eq_some_iff.1 hj
  have hjl := (List.getElem?_eq_some_iff.1 hu).1
  rw [hA] at hm
  have h3 := hm.cell (j := j) (by omega)
  rw [List.getElem?_append_left (by rw [List.length_map]; exact hjl), List.getElem?_map, hu] at h3
  rw [Nat.mul_one, Nat.zero_add, Nat.add_zero, h3]
  rfl

end Go.Proofs.YtjjaajmjcdihoaaDoor
