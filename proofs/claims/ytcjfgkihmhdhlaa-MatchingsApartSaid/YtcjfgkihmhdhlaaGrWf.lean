/-
  Walk of package graphs: Turned.
-/
import Derived.Test.YtcjfgkihmhdhlaaRegR
import Derived.Test.YtcjfgkihmhdhlaaSizesL
import Derived.Test.YtcjfgkihmhdhlaaGrWa
import Derived.Test.YtcjfgkihmhdhlaaGrWc
namespace Go.Proofs.Ytcjfgkihmhdhlaa
open Go.RowKit Go.Shelf
set_option linter.unusedVariables false
attribute [local go_sem] Oper.semAt_some

/-- What is turned so far. -/
def rowOf (l : List (Nat × Int)) (j : Nat) : List Int := (l.filter fun y => decide (y.2 = (j : Int))).map fun y => (y.1 : Int)
def turnTo (l : List (Nat × Int)) (k : Nat) : List (List Int) := (List.range k).map (rowOf l)
theorem rowOf_snoc (l : List (Nat × Int)) (y : Nat × Int) (j : Nat) : rowOf (l ++ [y]) j = if y.2 = (j : Int) then rowOf l j ++ [(y.1 : Int)] else rowOf l j := by
  rw [rowOf, List.filter_append, List.map_append, ← rowOf]
  by_cases h : y.2 = (j : Int)
  · rw [if_pos h]; simp [h]
  · rw [if_neg h]; simp [h]
theorem turnTo_len (l : List (Nat × Int)) (k : Nat) : (turnTo l k).length = k := by simp [turnTo]
theorem turnTo_nil (k : Nat) : turnTo [] k = List.replicate k [] := by
  refine List.ext_getElem? fun i => ?_
  by_cases h : i < k
  · rw [turnTo, List.getElem?_map, List.getElem?_range h, List.getElem?_replicate, if_pos h]; rfl
  · rw [List.getElem?_eq_none (by rw [turnTo_len]; omega), List.getElem?_eq_none (by rw [List.length_replicate]; omega)]
theorem turnTo_snoc {l : List (Nat × Int)} {i j k : Nat} (hj : j < k) : turnTo (l ++ [(i, (j : Int))]) k = (turnTo l k).set j (rowOf l j ++ [(i : Int)]) := by
  refine List.ext_getElem? fun a => ?_
  rw [List.getElem?_set, turnTo_len]
  by_cases h : a < k
  · rw [turnTo, List.getElem?_map, List.getElem?_range h, turnTo, List.getElem?_map, List.getElem?_range h]
    show some (rowOf _ a) = _
    rw [rowOf_snoc]
    by_cases he : j = a
    · subst he; simp [hj]
    · rw [if_neg he, if_neg (by show ¬ (j : Int) = a; omega)]; rfl
  · rw [List.getElem?_eq_none (by rw [turnTo_len]; omega)]
    rw [if_neg (by omega), List.getElem?_eq_none (by rw [turnTo_len]; omega)]
theorem turnTo_get {l : List (Nat × Int)} {j k : Nat} (hj : j < k) : (turnTo l k)[j]? = some (rowOf l j) := by rw [turnTo, List.getElem?_map, List.getElem?_range hj]; rfl
theorem rowOf_pairs {g : List (List Int)} {m : Int} {j n : Nat} (hg : ∀ l ∈ g, Rises m l) (hn : n ≤ g.length) : rowOf (pairsTo g n) j = upto n fun i => decide ((j : Int) ∈ g.getD i []) := by
  induction n with
  | zero => rfl
  | succ n ih =>
    rw [pairsTo_succ, rowOf, List.filter_append, List.map_append, ← rowOf, ih (by omega), upto_succ]
    congr 1
    have hr := (hg _ (getD_mem (show n < g.length by omega))).2
    generalize g.getD n [] = l at hr
    show _ = if decide ((j : Int) ∈ l) = true then _ else _
    clear ih
    induction l with
    | nil => rfl
    | cons z l ih =>
      obtain ⟨h1, h2⟩ := List.pairwise_cons.1 hr
      rw [List.map_cons, List.filter_cons]
      by_cases hz : z = (j : Int)
      · have hl : ¬ (j : Int) ∈ l := fun hm => by have := h1 _ hm; omega
        have h3 := ih h2
        rw [decide_eq_false hl] at h3
        simp only [Bool.false_eq_true, if_false] at h3
        rw [if_pos (by simp [hz]), List.map_cons, h3, if_pos (by simp [hz])]
      · rw [if_neg (by simp [hz]), ih h2]
        have hz' : ¬ (j : Int) = z := fun h => hz h.symm
        simp [hz']
theorem turnTo_all {g : List (List Int)} {m : Int} {k : Nat} (hg : ∀ l ∈ g, Rises m l) : turnTo (pairsTo g g.length) k = turnedG g k := by
  rw [turnTo, turnedG]
  refine List.map_congr_left fun j _ => ?_
  rw [rowOf_pairs hg (Nat.le_refl _), rowT]

theorem set_map_v (t : List Ls) (j : Nat) (u : Ls) : (t.set j u).map Ls.v = (t.map Ls.v).set j u.v := by rw [List.map_set]
theorem all_set (t : List Ls) (j : Nat) (u : Ls) : Ls.all (t.set j u) = (Ls.all t).set j u.zs := by rw [Ls.all, Ls.all, List.map_set]
/-- One more to one of the lists. -/
theorem Outs.app_row {w w' : World} {B g n c j s : Nat} {t : List Ls} {u : Ls} {z : Int} {A2 : Option Addr} {c2 : Nat} (h : Outs w B (some ⟨g, 0, none⟩) n c t) (hj : t[j]? = some u)
    (ho : Own w' B 3 A2 (u.n + 1) c2 (ci64 u.zs ++ [iV z])) (hf : ∀ k, k < w.heap.size → ((u.n = 0 ∧ u.c = 0) ∨ u.A ≠ some ⟨k, 0, none⟩) → w'.heap[k]? = w.heap[k]?)
    (h5 : (A2 = u.A ∧ c2 = u.c) ∨ A2 = some ⟨s, 0, none⟩) (hs : w.heap.size ≤ s) (hz : -9223372036854775808 ≤ z ∧ z ≤ 9223372036854775807) :
    Outs (w'.setCell ⟨g, j, none⟩ (.slice A2 (u.n + 1) c2)) B (some ⟨g, 0, none⟩) n c (t.set j ⟨A2, u.n + 1, c2, u.zs ++ [z]⟩) := by
  have hjl := (List.getElem?_eq_some_iff.1 hj).1
  have hum : u ∈ t := List.mem_of_getElem? hj
  have hn := h.len
  have hu := h.each u hum
  have hcc := h.own.le
  have own1 : Own w' B 25 (some ⟨g, 0, none⟩) n c (t.map Ls.v) := h.own.other hu.own (by decide) hf
  have other : ∀ i x, t[i]? = some x → i ≠ j → OwnI w' B x := by
    intro i x hx hij
    have hxm := h.each x (List.mem_of_getElem? hx)
    refine ⟨?_, hxm.fit⟩
    by_cases hc0 : x.c = 0
    · exact ⟨hxm.own.1, .inl ⟨by have := hxm.own.le; omega, hc0⟩⟩
    rcases hxm.own.2 with h0 | ⟨g', cur, hA, hB, hh, r⟩
    · exact ⟨hxm.own.1, .inl h0⟩
    · refine ⟨hxm.own.1, .inr ⟨g', cur, hA, hB, ?_, r⟩⟩
      rw [hf g' (Array.getElem?_eq_some_iff.1 hh).1 ?_]
      · exact hh
      · have hil := (List.getElem?_eq_some_iff.1 hx).1
        have hb : ¬ Blk u g' := by
          rcases Nat.lt_or_ge i j with hlt | hge
          · have := List.pairwise_iff_getElem.1 h.apt i j hil hjl hlt g'
            rw [(List.getElem?_eq_some_iff.1 hx).2, (List.getElem?_eq_some_iff.1 hj).2] at this
            exact this ⟨by omega, hA⟩
          · have := List.pairwise_iff_getElem.1 h.apt j i hjl hil (by omega) g'
            rw [(List.getElem?_eq_some_iff.1 hx).2, (List.getElem?_eq_some_iff.1 hj).2] at this
            exact fun hb => this hb ⟨by omega, hA⟩
        by_cases hu0 : u.c = 0
        · exact .inl ⟨by have := hu.own.le; omega, hu0⟩
        · exact .inr fun e => hb ⟨by omega, e⟩
  have hfit : ∀ y ∈ u.zs ++ [z], -9223372036854775808 ≤ y ∧ y ≤ 9223372036854775807 := by
    intro y hy
    rcases List.mem_append.1 hy with hy | hy
    · exact hu.fit y hy
    · rw [List.mem_singleton.1 hy]; exact hz
  have hnew : OwnI w' B ⟨A2, u.n + 1, c2, u.zs ++ [z]⟩ := ⟨by rw [ci64_snoc6]; exact ho, hfit⟩
  refine ⟨?_, fun x hx => ?_, ?_⟩
  · rw [set_map_v]
    exact own1.set (by omega) j _
  · obtain ⟨i, hi⟩ := List.getElem?_of_mem hx
    rw [List.getElem?_set] at hi
    by_cases he : j = i
    · rw [if_pos he, if_pos hjl] at hi
      cases hi
      exact hnew.setO own1 (by omega) (by decide) _ _
    · rw [if_neg he] at hi
      exact (other i x hi (fun e => he e.symm)).setO own1 (by omega) (by decide) _ _
  · have hblk : ∀ g', Blk (⟨A2, u.n + 1, c2, u.zs ++ [z]⟩ : Ls) g' → Blk u g' ∨ w.heap.size ≤ g' := by
      rintro g' ⟨hc, hA⟩
      rcases h5 with ⟨e1, e2⟩ | e
      · exact .inl ⟨e2 ▸ hc, e1 ▸ hA⟩
      · have hA' : A2 = some ⟨g', 0, none⟩ := hA
        rw [e] at hA'
        cases hA'
        exact .inr hs
    refine List.pairwise_iff_getElem.2 fun a b ha hb hab g' h1 h2 => ?_
    rw [List.length_set] at ha hb
    rw [List.getElem_set] at h1 h2
    have hlt : ∀ i (hi : i < t.length) g', Blk t[i] g' → g' < w.heap.size := fun i hi g' hb => ((h.each _ (List.getElem_mem hi)).blk hb).2
    have hju : t[j] = u := (List.getElem?_eq_some_iff.1 hj).2
    by_cases ea : j = a
    · rw [if_pos ea] at h1
      rw [if_neg (by omega)] at h2
      rcases hblk g' h1 with h1 | h1
      · subst ea
        exact List.pairwise_iff_getElem.1 h.apt j b ha hb hab g' (by rw [hju]; exact h1) h2
      · have := hlt b hb g' h2; omega
    · rw [if_neg ea] at h1
      by_cases eb : j = b
      · rw [if_pos eb] at h2
        rcases hblk g' h2 with h2 | h2
        · subst eb
          exact List.pairwise_iff_getElem.1 h.apt a j ha hb hab g' h1 (by rw [hju]; exact h2)
        · have := hlt a ha g' h1; omega
      · rw [if_neg eb] at h2
        exact List.pairwise_iff_getElem.1 h.apt a b ha hb hab g' h1 h2
theorem Outs.fresh {w : World} {B k : Nat} {A : Option Addr} (h : Own w B 25 A k k (List.replicate k (.slice none 0 0))) : Outs w B A k k (List.replicate k Ls.nil) := by
  refine ⟨by rw [List.map_replicate]; exact h, fun u hu => ?_, ?_⟩
  · rw [List.eq_of_mem_replicate hu]; exact OwnI.nil _ _
  · refine List.pairwise_iff_getElem.2 fun a b ha hb hab g' h1 h2 => ?_
    rw [List.getElem_replicate] at h1
    exact absurd h1.1 (by simp [Ls.nil])
theorem all_replicate (k : Nat) : Ls.all (List.replicate k Ls.nil) = List.replicate k [] := by rw [Ls.all, List.map_replicate]; rfl
theorem rowOf_len (l : List (Nat × Int)) (j : Nat) : (rowOf l j).length ≤ l.length := by rw [rowOf, List.length_map]; exact List.length_filter_le _ _
theorem pairsTo_len {g : List (List Int)} {c n : Nat} (hg : ∀ l ∈ g, l.length ≤ c) (hn : n ≤ g.length) : (pairsTo g n).length ≤ n * c := by
  induction n with
  | zero => simp [pairsTo]
  | succ n ih =>
    have h1 := ih (by omega)
    have h2 := hg _ (getD_mem (show n < g.length by omega))
    rw [pairsTo_succ, List.length_append, List.length_map, Nat.succ_mul]
    omega
/-- append onto a list of the call's own turns nothing but cells. -/
theorem others_app {w w' : World} {B n c : Nat} {e : TypeId} {A : Option Addr} {xs : List Value} (h : Own w B e A n c xs) (hs : w.heap.size ≤ w'.heap.size) (hf : ∀ k, k < w.heap.size → ((n = 0 ∧ c = 0) ∨ A ≠ some ⟨k, 0, none⟩) → w'.heap[k]? = w.heap[k]?) : KeepsOthers w w' := by
  refine ⟨hs, fun k o hk ho => ?_⟩
  rw [hf k (Array.getElem?_eq_some_iff.1 hk).1 ?_]
  · exact hk
  · rcases h.2 with h0 | ⟨g, cur, hA, _, hh, _⟩
    · exact .inl h0
    · refine .inr fun e => ?_
      rw [hA] at e
      cases e
      rw [hh] at hk
      cases hk
      cases ho
end Go.Proofs.Ytcjfgkihmhdhlaa
