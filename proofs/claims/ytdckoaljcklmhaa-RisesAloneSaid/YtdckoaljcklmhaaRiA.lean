/-
  The mathematics of RisesAlone; and an append to a bid of a market of the call's own.
-/
import Derived.Test.YtdckoaljcklmhaaRiN
import Derived.Test.YtdckoaljcklmhaaMkS
namespace Go.Proofs.Ytdckoaljcklmhaa
open Go.RowKit
set_option linter.unusedVariables false

/-- One bids alone. -/
theorem alone_end {x y : Mk} {k n : Nat} (hm : x.may = true) (hn : n = (Ls.all x.b).length) (hr : y.r.zs = x.r.zs) (ho : y.o.zs = x.o.zs)
    (hb : Ls.all y.b = mixG (fun j => if j = k then (Ls.all x.b).getD j [] else []) (fun j => (Ls.all x.b).getD j []) n n) : leastE y = x.r.zs ∧ y.err = 0 := by
  obtain ⟨q1, ⟨q2, q3, q4⟩, q5, q6⟩ := (mayM_iff _ _ _).1 hm
  have hl : (Ls.all y.b).length = n := by rw [hb, mixG_all, List.length_map, List.length_range]
  have hget : ∀ b, (Ls.all y.b)[b]? = if b < n then some (if b = k then (Ls.all x.b).getD b [] else []) else none := fun b => by
    rw [hb, mixG_all, List.getElem?_map]
    by_cases h : b < n
    · rw [if_pos h, List.getElem?_range h]; rfl
    · rw [if_neg h, List.getElem?_eq_none (by rw [List.length_range]; omega)]; rfl
  have hmem : ∀ l ∈ Ls.all y.b, bidB l x.r.zs.length = true := fun l hl2 => by
    obtain ⟨b, hb2⟩ := List.getElem?_of_mem hl2
    rw [hget b] at hb2
    by_cases h : b < n
    · rw [if_pos h] at hb2
      cases hb2
      by_cases e : b = k
      · rw [if_pos e]
        refine q5 _ ?_
        rw [List.getD_eq_getElem?_getD, List.getElem?_eq_getElem (by rw [← hn]; exact h)]
        exact List.getElem_mem _
      · rw [if_neg e]; rfl
    · rw [if_neg h] at hb2; cases hb2
  have hm2 : y.may = true := by
    show mayM y.r.zs (Ls.all y.b) y.o.zs = true
    rw [hr, ho]
    refine (mayM_iff _ _ _).2 ⟨q1, by rw [hl, hn]; exact ⟨q2, q3, q4⟩, hmem, by rw [hl, hn]; exact q6⟩
  have hrow := may_rows hm2
  rw [hr] at hrow
  refine ⟨?_, by rw [Mk.err, if_pos hm2]⟩
  rw [leastE, if_pos hm2, hr]
  refine least_here hrow (hall_alone (i := k) fun b hb2 => ?_)
  rw [List.getD_eq_getElem?_getD, hget b]
  by_cases h : b < n
  · rw [if_pos h, if_neg hb2]; rfl
  · rw [if_neg h]; rfl
theorem alone_step (L : List (List Int)) (k n i : Nat) : (mixG (fun j => if j = k then L.getD j [] else []) (fun j => L.getD j []) n i).set i (if i = k then L.getD i [] else []) = mixG (fun j => if j = k then L.getD j [] else []) (fun j => L.getD j []) n (i + 1) :=
  mixG_set (fun j => if j = k then L.getD j [] else []) (fun j => L.getD j []) n i

theorem alone_same {L : List (List Int)} {k n i : Nat} (e : i = k) (hi : i < n) : mixG (fun j => if j = k then L.getD j [] else []) (fun j => L.getD j []) n (i + 1) = mixG (fun j => if j = k then L.getD j [] else []) (fun j => L.getD j []) n i := by
  rw [← alone_step, if_pos e]
  refine List.ext_getElem? fun j => ?_
  rw [List.getElem?_set]
  by_cases h : i = j
  · subst h
    rw [if_pos rfl, if_pos (by rw [mixG_len]; exact hi), mixG, List.getElem?_map, List.getElem?_range hi]
    simp
  · rw [if_neg h]
/-- What each says: as much above the reserves, the most at most. -/
def topR (r : List Int) (v : Int) : List Int := r.map fun z => min 1000000 (z + v)
theorem topR_len (r : List Int) (v : Int) : (topR r v).length = r.length := by rw [topR, List.length_map]
theorem topR_take {r : List Int} {v z : Int} {j : Nat} (hz : r[j]? = some z) : (topR r v).take (j + 1) = (topR r v).take j ++ [min 1000000 (z + v)] := by
  rw [List.take_add_one, topR, List.getElem?_map, hz]; rfl
def sameB (r : List Int) (v : Int) (j : Nat) : Bool := (r.take j).all fun z => decide (z + v ≤ 1000000)
theorem sameB_succ {r : List Int} {v z : Int} {j : Nat} (hz : r[j]? = some z) : sameB r v (j + 1) = (sameB r v j && decide (z + v ≤ 1000000)) := by
  rw [sameB, List.take_add_one, hz, List.all_append, sameB]; simp
theorem sameB_all {r : List Int} {v : Int} (h : sameB r v r.length = true) : ∀ z ∈ r, z + v ≤ 1000000 := by
  rw [sameB, List.take_length, List.all_eq_true] at h
  exact fun z hz => of_decide_eq_true (h z hz)
theorem same_end {x y : Mk} {n : Nat} {v : Int} (hm : x.may = true) (hn : n = (Ls.all x.b).length) (hv : 0 ≤ v) (hr : y.r.zs = x.r.zs) (ho : y.o.zs = x.o.zs)
    (hb : Ls.all y.b = mixG (fun _ => topR x.r.zs v) (fun j => (Ls.all x.b).getD j []) n n) : y.err = 0 ∧ (sameB x.r.zs v x.r.zs.length = true → n ≤ x.r.zs.length → leastE y = x.r.zs) := by
  obtain ⟨q1, ⟨q2, q3, q4⟩, q5, q6⟩ := (mayM_iff _ _ _).1 hm
  obtain ⟨p1, p2, p3, p4⟩ := (mayB_iff _ _).1 q1
  have hl : (Ls.all y.b).length = n := by rw [hb, mixG_all, List.length_map, List.length_range]
  have hmem : ∀ l ∈ Ls.all y.b, l = topR x.r.zs v := fun l hl2 => by
    rw [hb, mixG_all] at hl2
    obtain ⟨_, _, e⟩ := List.mem_map.1 hl2
    exact e.symm
  have hbid : bidB (topR x.r.zs v) x.r.zs.length = true := by
    rw [bidB, Bool.or_eq_true]
    refine .inr ((mayB_iff _ _).2 ⟨p1, p2, by rw [topR_len], fun z hz => ?_⟩)
    obtain ⟨z0, hz0, rfl⟩ := List.mem_map.1 hz
    have := p4 z0 hz0
    omega
  have hm2 : y.may = true := by
    show mayM y.r.zs (Ls.all y.b) y.o.zs = true
    rw [hr, ho]
    exact (mayM_iff _ _ _).2 ⟨q1, by rw [hl, hn]; exact ⟨q2, q3, q4⟩, fun l h => by rw [hmem l h]; exact hbid, by rw [hl, hn]; exact q6⟩
  have hrow := may_rows hm2
  rw [hr] at hrow
  refine ⟨by rw [Mk.err, if_pos hm2], fun hs hle => ?_⟩
  have hall := sameB_all hs
  rw [leastE, if_pos hm2, hr]
  refine least_here hrow (hall_same hv (fun l h => ?_) (by rw [hl]; exact hle))
  rw [hmem l h]
  refine ⟨topR_len _ _, fun k hk => ?_⟩
  rw [topR_len] at hk
  rw [gapD, topR, List.getD_eq_getElem?_getD, List.getElem?_map, List.getD_eq_getElem?_getD, List.getElem?_eq_getElem hk]
  have := hall _ (List.getElem_mem hk)
  simp only [Option.map_some, Option.getD_some]
  omega

/-- What is appended to one list of a call: it lies where it lay, or in a block of its own. -/
theorem Fam.grow {w w' : World} {B : Nat} {L : List Ls} (h : Fam w B L) {j : Nat} {u u' : Ls} (hj : L[j]? = some u) (hu : OwnI w' B u') (hk : ∀ g, Blk u' g → Blk u g ∨ w.heap.size ≤ g)
    (hf : ∀ k, k < w.heap.size → ((u.n = 0 ∧ u.c = 0) ∨ u.A ≠ some ⟨k, 0, none⟩) → w'.heap[k]? = w.heap[k]?) : Fam w' B (L.set j u') := by
  have hjl := (List.getElem?_eq_some_iff.1 hj).1
  refine ⟨fun x hx => ?_, ?_⟩
  · obtain ⟨i, hi⟩ := List.getElem?_of_mem hx
    rw [List.getElem?_set] at hi
    by_cases e : j = i
    · subst e
      rw [if_pos rfl, if_pos hjl] at hi
      cases hi
      exact hu
    · rw [if_neg e] at hi
      exact h.app hj hi e hf
  · refine List.pairwise_iff_getElem.2 fun a b ha hb hab g h1 h2 => ?_
    rw [List.length_set] at ha hb
    rw [List.getElem_set] at h1 h2
    by_cases e1 : j = a
    · rw [if_pos e1] at h1
      rw [if_neg (by omega)] at h2
      rcases hk g h1 with h3 | h3
      · exact fam_ne h hj (List.getElem?_eq_getElem hb) (by omega) h3 h2
      · have := ((h.own _ (List.getElem_mem hb)).blk h2).2
        omega
    · rw [if_neg e1] at h1
      by_cases e2 : j = b
      · rw [if_pos e2] at h2
        rcases hk g h2 with h3 | h3
        · exact fam_ne h hj (List.getElem?_eq_getElem ha) (by omega) h3 h1
        · have := ((h.own _ (List.getElem_mem ha)).blk h1).2
          omega
      · rw [if_neg e2] at h2
        exact List.pairwise_iff_getElem.1 h.apt a b ha hb hab g h1 h2
theorem MkOwn.appB {w w' : World} {B : Nat} {y : Mk} (h : MkOwn w B y) {i g : Nat} {u u' : Ls} (hA : y.A = some ⟨g, 0, none⟩) (hi : y.b[i]? = some u) (hu : OwnI w' B u') (hk : ∀ g, Blk u' g → Blk u g ∨ w.heap.size ≤ g)
    (hf : ∀ k, k < w.heap.size → ((u.n = 0 ∧ u.c = 0) ∨ u.A ≠ some ⟨k, 0, none⟩) → w'.heap[k]? = w.heap[k]?) : MkOwn (w'.setCell ⟨g, i, none⟩ u'.v) B ⟨y.r, y.A, y.n, y.c, y.b.set i u', y.o⟩ := by
  have hil := (List.getElem?_eq_some_iff.1 hi).1
  have hin : i < y.n := by rw [← h.len]; exact hil
  have hf1 := h.famly.grow (j := i + 1) (u := u) (by rw [Mk.fam, List.getElem?_cons_succ, List.getElem?_append_left hil]; exact hi) hu hk hf
  have hr : Own w' B 22 y.A y.n y.c (y.b.map Ls.v) := h.b.other (h.bs u (List.mem_of_getElem? hi)).own (by decide) hf
  rw [hA] at hr
  have hle := hr.le
  have h1 := hf1.setO hr (by omega) (by decide) i u'.v
  have he : (y.fam).set (i + 1) u' = y.r :: (y.b.set i u' ++ [y.o]) := by
    rw [Mk.fam, List.set_cons_succ, List.set_append_left _ _ hil]
  rw [he] at h1
  refine mkown_of (y := ⟨y.r, y.A, y.n, y.c, y.b.set i u', y.o⟩) h1 ?_
  show Own _ B _ y.A y.n y.c ((y.b.set i u').map Ls.v)
  rw [List.map_set, hA]
  exact hr.set (by omega) i u'.v
/-- A bid is none. -/
theorem MkOwn.nilB {w : World} {B : Nat} {y : Mk} (h : MkOwn w B y) {i g : Nat} (hA : y.A = some ⟨g, 0, none⟩) (hi : i < y.n) :
    MkOwn (w.setCell ⟨g, i, none⟩ (.slice none 0 0)) B ⟨y.r, y.A, y.n, y.c, y.b.set i Ls.nil, y.o⟩ :=
  h.rowB (u' := Ls.nil) hA hi (OwnI.nil _ _) fun x hx g h1 h2 => absurd h2.1 (by simp [Ls.nil])
end Go.Proofs.Ytdckoaljcklmhaa
