/-
  append(s, u) in the Kit's words, with one word more: the old slice reads as it did.
-/
import Derived.Test.YtdckoaljcklmhaaGreatDoorBookD
import Derived.Lib.AppendZeros
namespace Go.Proofs.YtdckoaljcklmhaaGreatDoor
open Go.RowKit
set_option linter.unusedVariables false

section
variable {P : Program} (w : World)

theorem run_app2 (t ty e : TypeId) (i : TypeInfo) (z : Value) (bytes : Nat) (ht : P.underlying t = some (.slice e)) (hi : P.info? e = some i) (hz : i.zero = some z)
    (hsize : i.size = 1) (hby : i.bytes = bytes) (hzs : z.cells.size = 1)
    (B : Nat) (A : Option Addr) (n c : Nat) (xs : List Value) (ho : Own w B e A n c xs)
    (b' o' m c' : Nat) (ys : List Value) (hr : Rd w (some ⟨b', o', none⟩) m ys) (h1 : ∀ u ∈ ys, u.oneCell' = true) (hm : 0 < m)
    (h63 : n + m ≤ maxLen) (hbytes : (n + m) * bytes ≤ 140737488355328) (hB : B ≤ w.heap.size) :
    ∃ A2 c2 w', (Builtin.append_ #[t, t] ty #[.slice A n c, .slice (some ⟨b', o', none⟩) m c']).run P w = .ok (.slice A2 (n + m) c2) w' ∧ Own w' B e A2 (n + m) c2 (xs ++ ys) ∧ Below B w w' ∧
      (∀ k, k < w.heap.size → ((n = 0 ∧ c = 0) ∨ A ≠ some ⟨k, 0, none⟩) → w'.heap[k]? = w.heap[k]?) ∧ ((A2 = A ∧ c2 = c) ∨ A2 = some ⟨w.heap.size, 0, none⟩) ∧ Own w' B e A n c xs := by
  obtain ⟨A2, c2, w', hrun, h2, h3, h4, h5⟩ := run_app (P := P) w t ty e i z bytes ht hi hz hsize hby hzs B A n c xs ho _ m c' ys hr h1 h63 hbytes hB
  refine ⟨A2, c2, w', hrun, h2, h3, h4, h5, ?_⟩
  have hle := ho.le
  by_cases hc0 : c = 0
  · exact ⟨ho.1, .inl ⟨by omega, hc0⟩⟩
  obtain ⟨g, cur, rfl, hBg, hh, hnc, hcm, hcs, htk⟩ := ho.2.resolve_left (by omega)
  obtain ⟨b2, o2, hA', hc'⟩ := hr.2 hm
  cases hA'
  have hcell : ∀ j u, ys[j]? = some u → w.cell? ((⟨b', o', none⟩ : Addr).add j) = some u := fun j u hu => by
    have hj : j < m := by rw [← hr.1]; exact (List.getElem?_eq_some_iff.1 hu).1
    rw [Addr.add_lit, hc' j hj, hu]
  have hl : ys.length = m * i.size := by rw [hr.1, hsize, Nat.mul_one]
  by_cases hroom : n + m ≤ c
  · have hru := run_append_room (P := P) w t ty e i ht hi g n c cur hh ⟨b', o', none⟩ m c' ys hl hcell h1 hroom (by rw [hl, hsize, hcs]; omega)
    rw [hru] at hrun
    injection hrun with hv hw
    injection hv with hA _ hc
    rw [← hA, ← hc] at h2
    have h := h2.less (m := n) (by omega)
    rw [List.take_append_of_le_length (by rw [ho.1]; exact Nat.le_refl _), List.take_of_length_le (by rw [ho.1]; exact Nat.le_refl _)] at h
    exact h
  · have h63' : ((n + m : Nat) : Int) ≤ 9223372036854775807 := by simp only [maxLen] at h63; omega
    have hru := run_append_grow (P := P) w t ty e i z ht hi hz ⟨g, 0, none⟩ n c xs (by rw [ho.1, hsize, Nat.mul_one]) ((ho.row (by omega)).cells (g := g) rfl) ⟨b', o', none⟩ m c' ys hl hcell (by omega) (by omega) (growslice_fits (by omega) (by rw [hby]; exact hbytes))
    rw [hru] at hrun
    injection hrun with hv hw
    rw [← hw]
    exact ho.drew.alloc _

/-- append(out, u), u in a block of its own, which was made just now: the old slice reads as it did. -/
theorem wpList_app1x {ops : Array Oper} {rest : List Oper} {o : Oper} {a : Act} {Q : Exit → Act → World → Prop} {u : Value} {e1 : TypeId} (hgd : o.guard = none) (s x : Operand) (t : TypeId)
    (hop : o.op = .call { callee := .builtin .append, args := #[s, x], argTypes := #[t, t] })
    (e : TypeId) (i : TypeInfo) (z : Value) (bytes : Nat) (ht : P.underlying t = some (.slice e)) (hi : P.info? e = some i) (hz : i.zero = some z)
    (hsize : i.size = 1) (hby : i.bytes = bytes) (hzs : z.cells.size = 1)
    (B : Nat) (A : Option Addr) (n c : Nat) (xs : List Value) (hs : a.eval s = .slice A n c) (ho : Own w B e A n c xs)
    (c' : Nat) (hx : a.eval x = .slice (some ⟨w.heap.size, 0, none⟩) 1 c') (h1 : u.oneCell' = true)
    (h63 : n + 1 ≤ maxLen) (hbytes : (n + 1) * bytes ≤ 140737488355328) (hB : B ≤ w.heap.size)
    (h : ∀ A2 c2 w', Own w' B e A2 (n + 1) c2 (xs ++ [u]) → Below B w w' → (∀ k, k < w.heap.size → ((n = 0 ∧ c = 0) ∨ A ≠ some ⟨k, 0, none⟩) → w'.heap[k]? = w.heap[k]?) →
      ((A2 = A ∧ c2 = c) ∨ A2 = some ⟨w.heap.size + 1, 0, none⟩) → Own w' B e A n c xs → wpList P ops Q rest (a.put o.dst (.slice A2 (n + 1) c2)) w') : wpList P ops Q (o :: rest) a (w.alloc (.cells #[u] e1)) := by
  have hrd : Rd (w.alloc (.cells #[u] e1)) (some ⟨w.heap.size, 0, none⟩) 1 [u] := ⟨rfl, fun _ => ⟨w.heap.size, 0, rfl, fun j hj => by
    obtain rfl : j = 0 := by omega
    rw [cell_of_row _ _ _ _ _ _ (heap_alloc_new w _)]
    rfl⟩⟩
  obtain ⟨A2, c2, w', hrun, h2, h3, h4, h5, h6⟩ := run_app2 (P := P) (w.alloc (.cells #[u] e1)) t o.type e i z bytes ht hi hz hsize hby hzs B A n c xs (ho.alloc _) w.heap.size 0 1 c' [u] hrd (by simpa using h1) (by omega) h63 hbytes (by simp; omega)
  refine Lib.wpList_append_run _ hgd s x t t hop _ _ hs hx _ w' hrun (h A2 c2 w' h2 (((Below.refl B w).alloc hB _).trans h3) (fun k hk hne => ?_) ?_ h6)
  · rw [h4 k (by simp; omega) hne]
    exact Below.heap_alloc w _ k hk
  · simpa using h5
end
end Go.Proofs.YtdckoaljcklmhaaGreatDoor

