/-
  Words for memory that all proofs of this seat share: what a slice reads (Rd), what a call has made itself (Own), and the builtin append in these words.
-/
import Derived.WalkKit
import Derived.Maps.AppendAt
import Derived.Deep.AppendLies
import Derived.Deep.Draws
import Derived.Lib.Hide
namespace Go.Proofs.YtdckoaljcklmhaaGreatDoor
open Go.RowKit

/-- The slice value '.slice A n c' holds the cells xs (elements of one cell each). -/
def Rd (w : World) (A : Option Addr) (n : Nat) (xs : List Value) : Prop :=
  xs.length = n ∧ (0 < n → ∃ b o, A = some ⟨b, o, none⟩ ∧ ∀ j, j < n → w.cell? ⟨b, o + j, none⟩ = xs[j]?)

/-- The slice value '.slice A n c' holds the cells xs, and its array is a whole block from B on, or there is none. -/
def Own (w : World) (B : Nat) (e : TypeId) (A : Option Addr) (n c : Nat) (xs : List Value) : Prop :=
  xs.length = n ∧ ((n = 0 ∧ c = 0) ∨ ∃ g cur, A = some ⟨g, 0, none⟩ ∧ B ≤ g ∧ w.heap[g]? = some (.cells cur e (0, 0)) ∧ n ≤ c ∧ c ≤ maxLen ∧ cur.size = c ∧ cur.toList.take n = xs)

theorem ret_int {k : IntKind} {a b : Int} (h : a = b) : Ending.returned (.int k a) = .returned (.int k b) := by rw [h]
theorem ret_bool {a b : Bool} (h : a = b) : Ending.returned (.bool a) = .returned (.bool b) := by rw [h]

theorem belowN {B : Nat} {a w : World} (h : Below B a w) (k : Nat) : Below B a (w.drewN k) := ⟨h.os, h.tape, h.output, h.size, h.block⟩

section
variable {w w' : World} {B B' : Nat} {e : TypeId} {A : Option Addr} {n c : Nat} {xs : List Value}

theorem Rd.len (h : Rd w A n xs) : xs.length = n := h.1
theorem Rd.nil (w : World) (A : Option Addr) : Rd w A 0 [] := ⟨rfl, fun h => absurd h (by omega)⟩
theorem Rd.nil_of (h : Rd w A 0 xs) : xs = [] := List.eq_nil_of_length_eq_zero h.1

theorem Rd.get (h : Rd w A n xs) {k : Nat} (hk : k < n) :
    ∃ b o, A = some ⟨b, o, none⟩ ∧ b < w.heap.size ∧ ∃ u, xs[k]? = some u ∧ w.cell? ⟨b, o + k, none⟩ = some u := by
  obtain ⟨b, o, hA, hc⟩ := h.2 (by omega)
  have hl : k < xs.length := by rw [h.1]; exact hk
  have hx := hc k hk
  rw [List.getElem?_eq_getElem hl] at hx
  exact ⟨b, o, hA, World.block_lt_of_cell? w _ hx, xs[k], List.getElem?_eq_getElem hl, hx⟩

theorem Rd.keep (h : Rd w A n xs) (hk : ∀ b o, A = some ⟨b, o, none⟩ → b < w.heap.size → w'.heap[b]? = w.heap[b]?) : Rd w' A n xs := by
  refine ⟨h.1, fun hn => ?_⟩
  obtain ⟨b, o, hA, hlt, _⟩ := h.get hn
  obtain ⟨b', o', hA', hc⟩ := h.2 hn
  rw [hA] at hA'
  cases hA'
  refine ⟨b, o, hA, fun j hj => ?_⟩
  rw [← hc j hj]
  exact World.cell?_of_block (hk b o hA hlt)

theorem Rd.below (h : Rd w A n xs) (hb : Below w.heap.size w w') : Rd w' A n xs := h.keep fun b _ _ hlt => hb.block b hlt
theorem Rd.drew (h : Rd w A n xs) : Rd w.drew A n xs := h
theorem Rd.drewN (h : Rd w A n xs) (k : Nat) : Rd (w.drewN k) A n xs := h
theorem Rd.alloc (h : Rd w A n xs) (o : Obj) : Rd (w.alloc o) A n xs := h.keep fun b _ _ hlt => Below.heap_alloc w o b hlt

theorem Own.len (h : Own w B e A n c xs) : xs.length = n := h.1
theorem Own.le (h : Own w B e A n c xs) : n ≤ c := by
  rcases h.2 with ⟨h1, h2⟩ | ⟨_, _, _, _, _, h3, _⟩ <;> omega
theorem Own.cap (h : Own w B e A n c xs) : c ≤ maxLen := by
  rcases h.2 with ⟨h1, h2⟩ | ⟨_, _, _, _, _, _, h3, _⟩
  · rw [h2]; exact Nat.zero_le _
  · exact h3
theorem Own.none_ (w : World) (B : Nat) (e : TypeId) (A : Option Addr) : Own w B e A 0 0 [] := ⟨rfl, .inl ⟨rfl, rfl⟩⟩
theorem Own.mono (h : Own w B e A n c xs) (hB : B' ≤ B) : Own w B' e A n c xs := by
  refine ⟨h.1, ?_⟩
  rcases h.2 with h0 | ⟨g, cur, hA, hg, r⟩
  · exact .inl h0
  · exact .inr ⟨g, cur, hA, by omega, r⟩
theorem Own.lt (h : Own w B e A n c xs) (hc : 0 < c) : ∃ g, A = some ⟨g, 0, none⟩ ∧ B ≤ g ∧ g < w.heap.size := by
  rcases h.2 with ⟨_, h2⟩ | ⟨g, cur, hA, hg, hh, _⟩
  · omega
  · exact ⟨g, hA, hg, (Array.getElem?_eq_some_iff.1 hh).1⟩
theorem Own.keep (h : Own w B e A n c xs) (hk : ∀ g, A = some ⟨g, 0, none⟩ → 0 < c ∨ 0 < c + 1 → B ≤ g → g < w.heap.size → w'.heap[g]? = w.heap[g]?) : Own w' B e A n c xs := by
  refine ⟨h.1, ?_⟩
  rcases h.2 with h0 | ⟨g, cur, hA, hg, hh, r⟩
  · exact .inl h0
  · exact .inr ⟨g, cur, hA, hg, by rw [hk g hA (by omega) hg (Array.getElem?_eq_some_iff.1 hh).1]; exact hh, r⟩
theorem Own.below (h : Own w B e A n c xs) (hb : Below w.heap.size w w') : Own w' B e A n c xs := h.keep fun g _ _ _ hlt => hb.block g hlt
theorem Own.drew (h : Own w B e A n c xs) : Own w.drew B e A n c xs := h
theorem Own.drewN (h : Own w B e A n c xs) (k : Nat) : Own (w.drewN k) B e A n c xs := h
theorem Own.alloc (h : Own w B e A n c xs) (o : Obj) : Own (w.alloc o) B e A n c xs := h.keep fun g _ _ _ hlt => Below.heap_alloc w o g hlt

theorem Own.rd (h : Own w B e A n c xs) : Rd w A n xs := by
  refine ⟨h.1, fun hn => ?_⟩
  rcases h.2 with ⟨h0, _⟩ | ⟨g, cur, hA, _, hh, _, _, _, ht⟩
  · omega
  · refine ⟨g, 0, hA, fun j hj => ?_⟩
    rw [Nat.zero_add, cell_of_row w g j cur e (0, 0) hh, ← ht, List.getElem?_take, if_pos hj]
    simp

theorem Own.row (h : Own w B e A n c xs) (hc : 0 < c) : w.ownsRow B e 1 (.slice A n c) n xs := by
  refine ⟨by rw [h.1, Nat.mul_one], .inr ?_⟩
  rcases h.2 with ⟨_, h0⟩ | ⟨g, cur, hA, hg, hh, h1, h2, h3, h4⟩
  · omega
  · exact ⟨g, c, cur, by rw [hA], hg, hh, h1, h2, by rw [h3, Nat.mul_one], by rw [Nat.mul_one]; exact h4⟩

theorem Own.of_row {v : Value} (h : w.ownsRow B e 1 v n xs) : ∃ A c, v = .slice A n c ∧ Own w B e A n c xs := by
  have h1 : xs.length = n := by rw [h.1, Nat.mul_one]
  rcases h.2 with ⟨hv, h0⟩ | ⟨g, cap, cur, hv, hg, hh, h2, h3, h4, h5⟩
  · exact ⟨none, 0, by rw [hv, h0], h1, .inl ⟨h0, rfl⟩⟩
  · rw [Nat.mul_one] at h4 h5
    exact ⟨_, cap, hv, h1, .inr ⟨g, cur, rfl, hg, hh, h2, h3, h4, h5⟩⟩

/-- A cut of a slice reads as the cut of what it holds. -/
theorem Rd.cut (h : Rd w A n xs) {lo hi cap : Nat} (h1 : lo ≤ hi) (h2 : hi ≤ n) (h3 : n ≤ cap) :
    Rd w (if cap = lo then A else A.map (·.add lo)) (hi - lo) ((xs.drop lo).take (hi - lo)) := by
  refine ⟨by rw [List.length_take, List.length_drop, h.1]; omega, fun hn => ?_⟩
  obtain ⟨b, o, hA, hc⟩ := h.2 (by omega)
  rw [if_neg (by omega), hA]
  refine ⟨b, o + lo, ?_, fun j hj => ?_⟩
  · show some (Addr.add _ _) = _
    unfold Addr.add
    split
    · rename_i h0
      simp [h0]
    · rfl
  · rw [List.getElem?_take, if_pos (by omega), List.getElem?_drop, ← hc (lo + j) (by omega), Nat.add_assoc]

theorem Rd.take (h : Rd w A n xs) {hi : Nat} (h2 : hi ≤ n) : Rd w A hi (xs.take hi) := by
  refine ⟨by rw [List.length_take, h.1]; omega, fun hn => ?_⟩
  obtain ⟨b, o, hA, hc⟩ := h.2 (by omega)
  refine ⟨b, o, hA, fun j hj => ?_⟩
  rw [List.getElem?_take, if_pos (by omega), ← hc j (by omega)]
/-- A literal's block is the call's own. -/
theorem Own.lit (w : World) (e : TypeId) (cs : Array Value) (n : Nat) (hB : B ≤ w.heap.size) (hn : cs.size = n) (hm : n ≤ maxLen) : Own (w.alloc (.cells cs e)) B e (some ⟨w.heap.size, 0, none⟩) n n cs.toList :=
  ⟨by simpa using hn, .inr ⟨w.heap.size, cs, rfl, hB, heap_alloc_new w _, Nat.le_refl _, hm, hn, List.take_of_length_le (by simp; omega)⟩⟩

/-- A store into what the call has made. -/
theorem Own.set {g : Nat} (h : Own w B e (some ⟨g, 0, none⟩) n c xs) (hc : 0 < c) (j : Nat) (u : Value) : Own (w.setCell ⟨g, j, none⟩ u) B e (some ⟨g, 0, none⟩) n c (xs.set j u) := by
  obtain ⟨h1, _⟩ := (h.row hc).stored j u
  obtain ⟨A2, c2, hv, h2⟩ := Own.of_row h1
  cases hv
  exact h2
theorem Own.cell {g : Nat} (h : Own w B e (some ⟨g, 0, none⟩) n c xs) {j : Nat} (hj : j < n) : w.cell? ⟨g, j, none⟩ = xs[j]? :=
  (h.row (by have := h.le; omega)).cellAt j (by omega)
theorem Own.free {g : Nat} (h : Own w B e (some ⟨g, 0, none⟩) n c xs) (hc : 0 < c) (j : Nat) : w.frozen? ⟨g, j, none⟩ = false := (h.row hc).frozenAt j
theorem Own.base {g : Nat} (h : Own w B e (some ⟨g, 0, none⟩) n c xs) (hc : 0 < c) : B ≤ g := by
  obtain ⟨g', hA, hB, _⟩ := h.lt hc
  cases hA
  exact hB
end

section
variable {P : Program} (w : World)

/-- make([]E, n), E of one cell. -/
theorem wpList_mk {ops : Array Oper} {rest : List Oper} {o : Oper} {a : Act} {Q : Exit → Act → World → Prop} (hg : o.guard = none) (l c : Operand) (t : TypeId) (hop : o.op = Op.makeSlice t l c)
    (B : Nat) (e : TypeId) (i : TypeInfo) (z : Value) (h1 : P.underlying t = some (.slice e)) (h2 : P.info? e = some i) (h3 : i.zero = some z) (h4 : i.size = 1) (hz : z.cells = #[z])
    (kl kc : IntKind) (L C : Int) (n : Nat) (hl : a.eval l = .int kl L) (hc : a.eval c = .int kc C) (hL : L = (n : Int)) (hC : C = (n : Int)) (b2 : i.bytes * n ≤ 281474976710656) (b3 : n ≤ maxLen) (b4 : B ≤ w.heap.size)
    (hK : ∀ w', Own w' B e (some ⟨w.heap.size, 0, none⟩) n n (List.replicate n z) → Below w.heap.size w w' → wpList P ops Q rest (a.put o.dst (.slice (some ⟨w.heap.size, 0, none⟩) n n)) w') :
    wpList P ops Q (o :: rest) a w := by
  refine wpList_make_full (P := P) w hg l c t hop B e i z 1 h1 h2 h3 h4 kl kc L C n hl hc hL hC b2 b3 b4 fun w' ho hgr => hK w' ?_ ?_
  · obtain ⟨A2, c2, hv, h⟩ := Own.of_row ho
    cases hv
    rw [hz, Nat.mul_one, toList_madeCells_one] at h
    exact h
  · exact (Below.refl _ w).grown hgr (Nat.le_refl _) (by intro k hk; cases hk)

/-- append onto what the call has made, whatever is appended (nil, empty or not). -/
theorem run_app (t ty e : TypeId) (i : TypeInfo) (z : Value) (bytes : Nat) (ht : P.underlying t = some (.slice e)) (hi : P.info? e = some i) (hz : i.zero = some z)
    (hsize : i.size = 1) (hby : i.bytes = bytes) (hzs : z.cells.size = 1)
    (B : Nat) (A : Option Addr) (n c : Nat) (xs : List Value) (ho : Own w B e A n c xs)
    (A' : Option Addr) (m c' : Nat) (ys : List Value) (hr : Rd w A' m ys) (h1 : ∀ u ∈ ys, u.oneCell' = true)
    (h63 : n + m ≤ maxLen) (hbytes : (n + m) * bytes ≤ 140737488355328) (hB : B ≤ w.heap.size) :
    ∃ A2 c2 w', (Builtin.append_ #[t, t] ty #[.slice A n c, .slice A' m c']).run P w = .ok (.slice A2 (n + m) c2) w' ∧ Own w' B e A2 (n + m) c2 (xs ++ ys) ∧ Below B w w' ∧
      (∀ k, k < w.heap.size → ((n = 0 ∧ c = 0) ∨ A ≠ some ⟨k, 0, none⟩) → w'.heap[k]? = w.heap[k]?) ∧ ((A2 = A ∧ c2 = c) ∨ A2 = some ⟨w.heap.size, 0, none⟩) := by
  have hlen : (xs ++ ys).length = n + m := by rw [List.length_append, ho.1, hr.1]
  by_cases hm : m = 0
  · subst hm
    have hy : ys = [] := hr.nil_of
    subst hy
    refine ⟨A, c, w, ?_, by simpa using ho, Below.refl _ _, fun _ _ _ => rfl, .inl ⟨rfl, rfl⟩⟩
    have hnc := ho.le
    rcases A' with _ | a' <;> rcases A with _ | a <;>
      simp [Builtin.append_, run_underlying ht, sizeOf, typeInfo, hi, Builtin.lenOf, Builtin.firstCells, hnc, storeCells, loadCells, loadCellsFrom]
  obtain ⟨b', o', hA', hc'⟩ := hr.2 (by omega)
  subst hA'
  have hcell : ∀ j u, ys[j]? = some u → w.cell? ((⟨b', o', none⟩ : Addr).add j) = some u := fun j u hu => by
    have hj : j < m := by rw [← hr.1]; exact (List.getElem?_eq_some_iff.1 hu).1
    have he : (⟨b', o', none⟩ : Addr).add j = ⟨b', o' + j, none⟩ := by
      unfold Addr.add
      split
      · rename_i h0; simp
      · rfl
    rw [he, hc' j hj, hu]
  have hl : ys.length = m * i.size := by rw [hr.1, hsize, Nat.mul_one]
  have h63' : ((n + m : Nat) : Int) ≤ 9223372036854775807 := by simp only [maxLen] at h63; omega
  by_cases hc0 : c = 0
  · have hn0 : n = 0 := by have := ho.le; omega
    subst hc0; subst hn0
    have hx : xs = [] := List.eq_nil_of_length_eq_zero ho.1
    subst hx
    have hrun : ∃ cap cur w1, (Builtin.append_ #[t, t] ty #[.slice A 0 0, .slice (some ⟨b', o', none⟩) m c']).run P w = .ok (.slice (some ⟨w.heap.size, 0, none⟩) (0 + m) cap) w1 ∧
        w1 = w.drew.alloc (.cells cur e) ∧ m ≤ cap ∧ cap ≤ maxLen ∧ cur.size = cap ∧ cur.toList.take m = ys := by
      have hge := grownCap_ge w m 0 e
      have hle := grownCap_le_maxLen w m 0 e (by omega)
      have hcs : (ys.toArray ++ Builtin.zeroCells z.cells (grownCap w m 0 e - m)).size = grownCap w m 0 e := by
        simp only [Array.size_append, List.size_toArray, size_zeroCells, hzs, hr.1]; omega
      have hct : (ys.toArray ++ Builtin.zeroCells z.cells (grownCap w m 0 e - m)).toList.take m = ys := by
        simp only [Array.toList_append]; rw [← hr.1]; exact List.take_left
      rcases A with _ | a
      · have hr1 := run_append_nil (P := P) w t ty e i z ht hi hz ⟨b', o', none⟩ m c' ys hl hcell (by omega) (by omega) (by rw [hby]; simp only [Nat.zero_add] at hbytes; omega)
        refine ⟨_, _, _, by rw [Nat.zero_add]; exact hr1, rfl, hge, hle, hcs, hct⟩
      · have hr1 := run_append_grow (P := P) w t ty e i z ht hi hz a 0 0 [] (by simp) (fun j u hu => by simp at hu) ⟨b', o', none⟩ m c' ys hl hcell (by omega) (by omega) (growslice_fits (by omega) (by rw [hby]; exact hbytes))
        simp only [Nat.zero_add] at hr1
        refine ⟨_, _, _, by rw [Nat.zero_add]; exact hr1, rfl, hge, hle, ?_, ?_⟩
        · simpa using hcs
        · simpa using hct
    obtain ⟨cap, cur, w1, hrun, rfl, g1, g2, g3, g4⟩ := hrun
    refine ⟨_, cap, _, hrun, ⟨hlen, .inr ⟨w.heap.size, cur, rfl, hB, heap_alloc_new w.drew _, by omega, g2, g3, by rw [Nat.zero_add]; simpa using g4⟩⟩, ((Below.refl B w).drew).alloc hB _, fun k hk _ => Below.heap_alloc w.drew _ k hk, .inr rfl⟩
  · obtain ⟨v', w', hr1, h2, h3, _, h5⟩ := run_append_own_at (P := P) w B t ty e i z 1 bytes ht hi hz hsize hby hzs (by omega) (.slice A n c) n xs (ho.row (by omega)) ⟨b', o', none⟩ m c' ys (by rw [hr.1, Nat.mul_one]) hcell h1 h63 hbytes hB
    obtain ⟨g, hA, hBg, _⟩ := ho.lt (by omega)
    subst hA
    obtain ⟨A2, c2, rfl, h2'⟩ := Own.of_row h2
    refine ⟨A2, c2, w', hr1, h2', (Below.refl B w).grown h3 hB (by intro k hk; simp [Value.ownBlock] at hk; omega), fun k hk hne => h3.block k hk ?_, ?_⟩
    · rcases hne with ⟨_, h0⟩ | hne
      · exact absurd h0 hc0
      · intro he; apply hne; simp [Value.ownBlock] at he; rw [he]
    · obtain ⟨g2, hA2, _, _⟩ := h2'.lt (by have := h2'.le; omega)
      subst hA2
      rcases h5 with h5 | h5
      · have hg : g2 = g := by simpa [Value.ownBlock] using h5
        subst hg
        by_cases hroom : n + m ≤ c
        · left
          refine ⟨rfl, ?_⟩
          obtain ⟨_, cur, hA, _, hh, _, _, hcs, _⟩ := ho.2.resolve_left (by omega)
          cases hA
          have hru := run_append_room (P := P) w t ty e i ht hi g2 n c cur hh ⟨b', o', none⟩ m c' ys hl hcell h1 hroom (by rw [hl, hsize, hcs]; omega)
          rw [hru] at hr1
          injection hr1 with hv
          injection hv with _ _ hv
          exact hv.symm
        · right
          obtain ⟨_, cur, hA, _, hh, _, _, hcs, _⟩ := ho.2.resolve_left (by omega)
          cases hA
          have hru := run_append_grow (P := P) w t ty e i z ht hi hz ⟨g2, 0, none⟩ n c xs (by rw [ho.1, hsize, Nat.mul_one]) ((ho.row (by omega)).cells (g := g2) rfl) ⟨b', o', none⟩ m c' ys hl hcell (by omega) (by omega) (growslice_fits (by omega) (by rw [hby]; exact hbytes))
          rw [hru] at hr1
          injection hr1 with hv
          injection hv with hv
          exact hv.symm
      · right
        have hg : g2 = w.heap.size := by simpa [Value.ownBlock] using h5
        rw [hg]

theorem wp_app {o : Oper} {a : Act} {K : Act → World → Prop} {Q : Exit → Act → World → Prop} (s x : Operand) (t : TypeId)
    (ho : o.op = .call { callee := .builtin .append, args := #[s, x], argTypes := #[t, t] })
    (e : TypeId) (i : TypeInfo) (z : Value) (bytes : Nat) (ht : P.underlying t = some (.slice e)) (hi : P.info? e = some i) (hz : i.zero = some z)
    (hsize : i.size = 1) (hby : i.bytes = bytes) (hzs : z.cells.size = 1)
    (B : Nat) (A : Option Addr) (n c : Nat) (xs : List Value) (hs : a.eval s = .slice A n c) (hown : Own w B e A n c xs)
    (A' : Option Addr) (m c' : Nat) (ys : List Value) (hx : a.eval x = .slice A' m c') (hr : Rd w A' m ys) (h1 : ∀ u ∈ ys, u.oneCell' = true)
    (h63 : n + m ≤ maxLen) (hbytes : (n + m) * bytes ≤ 140737488355328) (hB : B ≤ w.heap.size)
    (h : ∀ A2 c2 w', Own w' B e A2 (n + m) c2 (xs ++ ys) → Below B w w' → (∀ k, k < w.heap.size → ((n = 0 ∧ c = 0) ∨ A ≠ some ⟨k, 0, none⟩) → w'.heap[k]? = w.heap[k]?) →
      ((A2 = A ∧ c2 = c) ∨ A2 = some ⟨w.heap.size, 0, none⟩) → K (a.put o.dst (.slice A2 (n + m) c2)) w') : o.wp P a w K Q := by
  obtain ⟨A2, c2, w', hrun, h2, h3, h4, h5⟩ := run_app (P := P) w t o.type e i z bytes ht hi hz hsize hby hzs B A n c xs hown A' m c' ys hr h1 h63 hbytes hB
  unfold Oper.wp execOp
  simp only [ho, resolve, invoke, builtin, Sem.run_bind, Sem.run_pure, Result.andThen_ok, List.map_toArray, List.map_cons, List.map_nil, hs, hx, hrun]
  exact h A2 c2 w' h2 h3 h4 h5

theorem wpList_app {ops : Array Oper} {rest : List Oper} {o : Oper} {a : Act} {Q : Exit → Act → World → Prop} (hgd : o.guard = none) (s x : Operand) (t : TypeId)
    (ho : o.op = .call { callee := .builtin .append, args := #[s, x], argTypes := #[t, t] })
    (e : TypeId) (i : TypeInfo) (z : Value) (bytes : Nat) (ht : P.underlying t = some (.slice e)) (hi : P.info? e = some i) (hz : i.zero = some z)
    (hsize : i.size = 1) (hby : i.bytes = bytes) (hzs : z.cells.size = 1)
    (B : Nat) (A : Option Addr) (n c : Nat) (xs : List Value) (hs : a.eval s = .slice A n c) (hown : Own w B e A n c xs)
    (A' : Option Addr) (m c' : Nat) (ys : List Value) (hx : a.eval x = .slice A' m c') (hr : Rd w A' m ys) (h1 : ∀ u ∈ ys, u.oneCell' = true)
    (h63 : n + m ≤ maxLen) (hbytes : (n + m) * bytes ≤ 140737488355328) (hB : B ≤ w.heap.size)
    (h : ∀ A2 c2 w', Own w' B e A2 (n + m) c2 (xs ++ ys) → Below B w w' → (∀ k, k < w.heap.size → ((n = 0 ∧ c = 0) ∨ A ≠ some ⟨k, 0, none⟩) → w'.heap[k]? = w.heap[k]?) →
      ((A2 = A ∧ c2 = c) ∨ A2 = some ⟨w.heap.size, 0, none⟩) → wpList P ops Q rest (a.put o.dst (.slice A2 (n + m) c2)) w') : wpList P ops Q (o :: rest) a w :=
  wpList_plain hgd fun _ hK => wp_app w s x t ho e i z bytes ht hi hz hsize hby hzs B A n c xs hs hown A' m c' ys hx hr h1 h63 hbytes hB fun A2 c2 w' h2 h3 h4 h5 => hK _ _ (h A2 c2 w' h2 h3 h4 h5)

/-- append(out, x): the element lies in a block of its own, which was made just now. -/
theorem wpList_app1 {ops : Array Oper} {rest : List Oper} {o : Oper} {a : Act} {Q : Exit → Act → World → Prop} {u : Value} {e1 : TypeId} (hgd : o.guard = none) (s x : Operand) (t : TypeId)
    (ho : o.op = .call { callee := .builtin .append, args := #[s, x], argTypes := #[t, t] })
    (e : TypeId) (i : TypeInfo) (z : Value) (bytes : Nat) (ht : P.underlying t = some (.slice e)) (hi : P.info? e = some i) (hz : i.zero = some z)
    (hsize : i.size = 1) (hby : i.bytes = bytes) (hzs : z.cells.size = 1)
    (B : Nat) (A : Option Addr) (n c : Nat) (xs : List Value) (hs : a.eval s = .slice A n c) (hown : Own w B e A n c xs)
    (c' : Nat) (hx : a.eval x = .slice (some ⟨w.heap.size, 0, none⟩) 1 c') (h1 : u.oneCell' = true)
    (h63 : n + 1 ≤ maxLen) (hbytes : (n + 1) * bytes ≤ 140737488355328) (hB : B ≤ w.heap.size)
    (h : ∀ A2 c2 w', Own w' B e A2 (n + 1) c2 (xs ++ [u]) → Below B w w' → (∀ k, k < w.heap.size → ((n = 0 ∧ c = 0) ∨ A ≠ some ⟨k, 0, none⟩) → w'.heap[k]? = w.heap[k]?) →
      ((A2 = A ∧ c2 = c) ∨ A2 = some ⟨w.heap.size + 1, 0, none⟩) → wpList P ops Q rest (a.put o.dst (.slice A2 (n + 1) c2)) w') : wpList P ops Q (o :: rest) a (w.alloc (.cells #[u] e1)) := by
  refine wpList_app (P := P) (w.alloc (.cells #[u] e1)) hgd s x t ho e i z bytes ht hi hz hsize hby hzs B A n c xs hs (hown.alloc _) (some ⟨w.heap.size, 0, none⟩) 1 c' [u] hx
    ⟨rfl, fun _ => ⟨w.heap.size, 0, rfl, fun j hj => ?_⟩⟩ (by simpa using h1) h63 hbytes (by simp; omega) ?_
  · obtain rfl : j = 0 := by omega
    rw [cell_of_row _ _ _ _ _ _ (heap_alloc_new w _)]
    rfl
  · intro A2 c2 w' h2 h3 h4 h5
    refine h A2 c2 w' h2 (((Below.refl B w).alloc hB _).trans h3) (fun k hk hne => ?_) ?_
    · rw [h4 k (by simp; omega) hne]
      exact Below.heap_alloc w _ k hk
    · simpa using h5
end

/-- A block in which these cells lie. -/
def Bx (w : World) (g : Nat) (xs : List Value) : Prop := g < w.heap.size ∧ ∀ j u, xs[j]? = some u → w.cell? ⟨g, j, none⟩ = some u
theorem Bx.new (w : World) (cs : Array Value) (t : TypeId) (fr : Nat × Nat) : Bx (w.alloc (.cells cs t fr)) w.heap.size cs.toList := by
  refine ⟨by simp, fun j u hu => ?_⟩
  rw [cell_of_row _ _ _ _ _ _ (heap_alloc_new w _)]
  simpa using hu
theorem Bx.below {w w' : World} {g : Nat} {xs : List Value} (h : Bx w g xs) (hb : Below w.heap.size w w') : Bx w' g xs :=
  ⟨Nat.lt_of_lt_of_le h.1 hb.size, fun j u hu => by rw [hb.cell (p := ⟨g, j, none⟩) h.1]; exact h.2 j u hu⟩
theorem Bx.drew {w : World} {g : Nat} {xs : List Value} (h : Bx w g xs) : Bx w.drew g xs := h
theorem Bx.drewN {w : World} {g : Nat} {xs : List Value} (h : Bx w g xs) (k : Nat) : Bx (w.drewN k) g xs := h
theorem Bx.at0 {w : World} {g : Nat} {x : Value} {xs : List Value} (h : Bx w g (x :: xs)) : w.cell? ⟨g, 0, none⟩ = some x := h.2 0 x rfl
theorem Bx.at1 {w : World} {g : Nat} {x y : Value} {xs : List Value} (h : Bx w g (x :: y :: xs)) : w.cell? ⟨g, 1, none⟩ = some y := h.2 1 y rfl
theorem Bx.at2 {w : World} {g : Nat} {x y z : Value} {xs : List Value} (h : Bx w g (x :: y :: z :: xs)) : w.cell? ⟨g, 2, none⟩ = some z := h.2 2 z rfl

theorem Bx.alloc {w : World} {g : Nat} {xs : List Value} (h : Bx w g xs) (o : Obj) : Bx (w.alloc o) g xs := h.below ((Below.refl _ _).alloc (Nat.le_refl _) o)

end Go.Proofs.YtdckoaljcklmhaaGreatDoor

