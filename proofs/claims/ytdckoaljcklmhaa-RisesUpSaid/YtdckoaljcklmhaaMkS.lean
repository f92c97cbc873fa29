/-
  A market of the call's own in which numbers, and bids, are stored.
-/
import Derived.Test.YtdckoaljcklmhaaMarkO
import Derived.Test.YtdckoaljcklmhaaTwinM
import Derived.Test.YtdckoaljcklmhaaGrN
namespace Go.Proofs.Ytdckoaljcklmhaa
open Go.RowKit
set_option linter.unusedVariables false

/-- Lists of one call, no two in one block. -/
structure Fam (w : World) (B : Nat) (L : List Ls) : Prop where
  own : ∀ u ∈ L, OwnI w B u
  apt : AptL L
theorem fam_ne {w : World} {B : Nat} {L : List Ls} (h : Fam w B L) {i j : Nat} {u v : Ls} {g : Nat} (hi : L[i]? = some u) (hj : L[j]? = some v) (hne : i ≠ j) (hg : Blk u g) : ¬ Blk v g := by
  obtain ⟨hil, rfl⟩ := List.getElem?_eq_some_iff.1 hi
  obtain ⟨hjl, rfl⟩ := List.getElem?_eq_some_iff.1 hj
  rcases Nat.lt_or_gt_of_ne hne with h1 | h1
  · exact List.pairwise_iff_getElem.1 h.apt i j hil hjl h1 g hg
  · exact fun hg2 => List.pairwise_iff_getElem.1 h.apt j i hjl hil h1 g hg2 hg
theorem fam_keys {L : List Ls} (h : AptL L) {j : Nat} {u u' : Ls} (hj : L[j]? = some u) (hb : ∀ g, Blk u' g → Blk u g) : AptL (L.set j u') := by
  refine List.pairwise_iff_getElem.2 fun a b ha hb' hab g h1 h2 => ?_
  rw [List.length_set] at ha hb'
  rw [List.getElem_set] at h1 h2
  obtain ⟨hjl, rfl⟩ := List.getElem?_eq_some_iff.1 hj
  by_cases e1 : j = a
  · rw [if_pos e1] at h1
    rw [if_neg (by omega)] at h2
    subst e1
    exact List.pairwise_iff_getElem.1 h j b ha hb' hab g (hb g h1) h2
  · rw [if_neg e1] at h1
    by_cases e2 : j = b
    · rw [if_pos e2] at h2
      subst e2
      exact List.pairwise_iff_getElem.1 h a j ha hb' hab g h1 (hb g h2)
    · rw [if_neg e2] at h2
      exact List.pairwise_iff_getElem.1 h a b ha hb' hab g h1 h2
theorem Fam.num {w : World} {B : Nat} {L : List Ls} (h : Fam w B L) {j k g : Nat} {u : Ls} {z : Int} (hj : L[j]? = some u) (hA : u.A = some ⟨g, 0, none⟩) (hk : k < u.n) (hz : -9223372036854775808 ≤ z ∧ z ≤ 9223372036854775807) :
    Fam (w.setCell ⟨g, k, none⟩ (.int .i64 z)) B (L.set j ⟨u.A, u.n, u.c, u.zs.set k z⟩) := by
  have hu := h.own u (List.mem_of_getElem? hj)
  have hle := hu.own.le
  have hbu : Blk u g := ⟨by omega, hA⟩
  refine ⟨fun x hx => ?_, fam_keys h.apt hj fun g h => h⟩
  obtain ⟨i, hi⟩ := List.getElem?_of_mem hx
  rw [List.getElem?_set] at hi
  by_cases e : j = i
  · subst e
    rw [if_pos rfl, if_pos (List.getElem?_eq_some_iff.1 hj).1] at hi
    cases hi
    have hown := hu.own
    rw [hA] at hown
    refine ⟨?_, fun y hy => ?_⟩
    · have h1 := hown.set (by omega) k (.int .i64 z)
      have h2 : ci64 (u.zs.set k z) = (ci64 u.zs).set k (.int .i64 z) := by simp [ci64, iV]
      show Own _ B _ u.A u.n u.c (ci64 (u.zs.set k z))
      rw [h2, hA]; exact h1
    · rcases List.mem_or_eq_of_mem_set hy with h1 | h1
      · exact hu.fit y h1
      · rw [h1]; exact hz
  · rw [if_neg e] at hi
    have hx2 := h.own x (List.mem_of_getElem? hi)
    refine ⟨?_, hx2.fit⟩
    rcases hx2.own.2 with h0 | ⟨g', cur, hA', hB', hh, r⟩
    · exact ⟨hx2.own.1, .inl h0⟩
    · refine ⟨hx2.own.1, .inr ⟨g', cur, hA', hB', ?_, r⟩⟩
      rw [heap_setCell_other _ ⟨g, k, none⟩ g' _ fun e2 => ?_]
      · exact hh
      · have e2 : g' = g := e2
        subst e2
        rcases hu.own.2 with h1 | ⟨g2, cur2, hA2, _, hh2, r2⟩
        · omega
        · rw [hA] at hA2
          cases hA2
          rw [hh] at hh2
          cases hh2
          have s1 := r.2.2.1
          have s2 := r2.2.2.1
          exact fam_ne h hj hi e hbu ⟨by omega, hA'⟩
theorem Fam.setO {w : World} {B B' : Nat} {L : List Ls} {e' : TypeId} {g n2 c2 : Nat} {ys : List Value} (h : Fam w B L) (ho : Own w B' e' (some ⟨g, 0, none⟩) n2 c2 ys) (hc : 0 < c2) (hne : e' ≠ 3) (j : Nat) (v : Value) : Fam (w.setCell ⟨g, j, none⟩ v) B L := ⟨fun u hu => (h.own u hu).setO ho hc hne j v, h.apt⟩
theorem Fam.row {w : World} {B : Nat} {L : List Ls} (h : Fam w B L) {u' : Ls} (hu : OwnI w B u') (hs : ∀ x ∈ L, ∀ g, Blk x g → ¬ Blk u' g) (j : Nat) : Fam w B (L.set j u') := by
  refine ⟨fun x hx => ?_, ?_⟩
  · rcases List.mem_or_eq_of_mem_set hx with h1 | rfl
    · exact h.own x h1
    · exact hu
  · refine List.pairwise_iff_getElem.2 fun a b ha hb hab g h1 h2 => ?_
    rw [List.length_set] at ha hb
    rw [List.getElem_set] at h1 h2
    by_cases e1 : j = a
    · rw [if_pos e1] at h1
      rw [if_neg (by omega)] at h2
      exact hs _ (List.getElem_mem hb) g h2 h1
    · rw [if_neg e1] at h1
      by_cases e2 : j = b
      · rw [if_pos e2] at h2
        exact hs _ (List.getElem_mem ha) g h1 h2
      · rw [if_neg e2] at h2
        exact List.pairwise_iff_getElem.1 h.apt a b ha hb hab g h1 h2
/-- What is appended to one of them leaves the others. -/
theorem Fam.app {w w' : World} {B : Nat} {L : List Ls} (h : Fam w B L) {i j : Nat} {u v : Ls} (hj : L[j]? = some u) (hi : L[i]? = some v) (hne : j ≠ i)
    (hf : ∀ k, k < w.heap.size → ((u.n = 0 ∧ u.c = 0) ∨ u.A ≠ some ⟨k, 0, none⟩) → w'.heap[k]? = w.heap[k]?) : OwnI w' B v := by
  have hv := h.own v (List.mem_of_getElem? hi)
  have hu := h.own u (List.mem_of_getElem? hj)
  refine ⟨?_, hv.fit⟩
  rcases hv.own.2 with h0 | ⟨g', cur, hA', hB', hh, r⟩
  · exact ⟨hv.own.1, .inl h0⟩
  · refine ⟨hv.own.1, .inr ⟨g', cur, hA', hB', ?_, r⟩⟩
    rw [hf g' (Array.getElem?_eq_some_iff.1 hh).1]
    · exact hh
    · have hle := hu.own.le
      by_cases h0 : u.c = 0
      · exact .inl ⟨by omega, h0⟩
      · rcases hu.own.2 with h1 | ⟨g2, cur2, hA2, _, hh2, r2⟩
        · exact .inl h1
        · refine .inr fun e => ?_
          rw [e] at hA2
          cases hA2
          rw [hh] at hh2
          cases hh2
          have s1 := r.2.2.1
          have s2 := r2.2.2.1
          exact fam_ne h hi hj (fun h => hne h.symm) ⟨by omega, hA'⟩ ⟨by omega, e⟩
section
variable {w : World} {B : Nat} {y : Mk}
def Mk.fam (y : Mk) : List Ls := y.r :: (y.b ++ [y.o])
theorem MkOwn.famly (h : MkOwn w B y) : Fam w B y.fam := ⟨fun u hu => by
  rcases List.mem_cons.1 hu with rfl | hu
  · exact h.r
  · rcases List.mem_append.1 hu with hu | hu
    · exact h.bs u hu
    · rw [List.mem_singleton.1 hu]; exact h.o, h.apt⟩
theorem mkown_of (h : Fam w B y.fam) (hb : Own w B 22 y.A y.n y.c (y.b.map Ls.v)) : MkOwn w B y :=
  ⟨h.own _ (by simp [Mk.fam]), h.own _ (by simp [Mk.fam]), hb, fun u hu => h.own u (by simp [Mk.fam, hu]), h.apt⟩
/-- A twin is a market of the call's own. -/
theorem Twn.ownI {u : Ls} (h : Twn w B u) : OwnI w B u := by
  have h2 := h.own.len
  rw [ci64_len, List.length_append, List.length_singleton] at h2
  have h3 := h.own.less (m := u.n) (by omega)
  rw [ci64_take, List.take_append_of_le_length (by omega), List.take_of_length_le (by omega)] at h3
  exact ⟨h3, h.fit⟩
theorem TwnM.mkown (h : TwnM w B y) : MkOwn w B y := by
  obtain ⟨m, hm, _⟩ := h.b
  have h2 := hm.len
  rw [List.length_append, List.length_map, List.length_singleton] at h2
  have h3 := hm.less (m := y.n) (by omega)
  rw [List.take_append_of_le_length (by rw [List.length_map]; omega), List.take_of_length_le (by rw [List.length_map]; omega)] at h3
  exact ⟨h.r.ownI, h.o.ownI, h3, fun u hu => (h.bs u hu).ownI, h.apt⟩
theorem MkOwn.len (h : MkOwn w B y) : y.b.length = y.n := by have := h.b.len; rwa [List.length_map] at this
/-- A reserve is another one. -/
theorem MkOwn.setR (h : MkOwn w B y) {g k : Nat} {z : Int} (hA : y.r.A = some ⟨g, 0, none⟩) (hk : k < y.r.n) (hz : -9223372036854775808 ≤ z ∧ z ≤ 9223372036854775807) :
    MkOwn (w.setCell ⟨g, k, none⟩ (.int .i64 z)) B ⟨⟨y.r.A, y.r.n, y.r.c, y.r.zs.set k z⟩, y.A, y.n, y.c, y.b, y.o⟩ := by
  have h1 := h.famly.num (j := 0) (u := y.r) rfl hA hk hz
  have hr := h.r.own
  rw [hA] at hr
  exact mkown_of (y := ⟨⟨y.r.A, y.r.n, y.r.c, y.r.zs.set k z⟩, y.A, y.n, y.c, y.b, y.o⟩) h1 (h.b.setO hr (by have := hr.le; omega) (by decide) _ _)
/-- A number of the order. -/
theorem MkOwn.setT (h : MkOwn w B y) {g k : Nat} {z : Int} (hA : y.o.A = some ⟨g, 0, none⟩) (hk : k < y.o.n) (hz : -9223372036854775808 ≤ z ∧ z ≤ 9223372036854775807) :
    MkOwn (w.setCell ⟨g, k, none⟩ (.int .i64 z)) B ⟨y.r, y.A, y.n, y.c, y.b, ⟨y.o.A, y.o.n, y.o.c, y.o.zs.set k z⟩⟩ := by
  have h1 := h.famly.num (j := y.b.length + 1) (u := y.o) (by simp [Mk.fam]) hA hk hz
  have hr := h.o.own
  rw [hA] at hr
  have he : (y.fam).set (y.b.length + 1) ⟨y.o.A, y.o.n, y.o.c, y.o.zs.set k z⟩ = y.r :: (y.b ++ [⟨y.o.A, y.o.n, y.o.c, y.o.zs.set k z⟩]) := by
    simp [Mk.fam]
  rw [he] at h1
  exact mkown_of (y := ⟨y.r, y.A, y.n, y.c, y.b, ⟨y.o.A, y.o.n, y.o.c, y.o.zs.set k z⟩⟩) h1 (h.b.setO hr (by have := hr.le; omega) (by decide) _ _)
/-- A number of a bid. -/
theorem MkOwn.setB (h : MkOwn w B y) {i g k : Nat} {u : Ls} {z : Int} (hi : y.b[i]? = some u) (hA : u.A = some ⟨g, 0, none⟩) (hk : k < u.n) (hz : -9223372036854775808 ≤ z ∧ z ≤ 9223372036854775807) :
    MkOwn (w.setCell ⟨g, k, none⟩ (.int .i64 z)) B ⟨y.r, y.A, y.n, y.c, y.b.set i ⟨u.A, u.n, u.c, u.zs.set k z⟩, y.o⟩ := by
  have hil := (List.getElem?_eq_some_iff.1 hi).1
  have h1 := h.famly.num (j := i + 1) (u := u) (by rw [Mk.fam, List.getElem?_cons_succ, List.getElem?_append_left hil]; exact hi) hA hk hz
  have hr := (h.bs u (List.mem_of_getElem? hi)).own
  rw [hA] at hr
  have he : (y.fam).set (i + 1) ⟨u.A, u.n, u.c, u.zs.set k z⟩ = y.r :: (y.b.set i ⟨u.A, u.n, u.c, u.zs.set k z⟩ ++ [y.o]) := by
    rw [Mk.fam, List.set_cons_succ, List.set_append_left _ _ hil]
  rw [he] at h1
  refine mkown_of (y := ⟨y.r, y.A, y.n, y.c, y.b.set i ⟨u.A, u.n, u.c, u.zs.set k z⟩, y.o⟩) h1 ?_
  have hm : (y.b.set i ⟨u.A, u.n, u.c, u.zs.set k z⟩).map Ls.v = y.b.map Ls.v := by
    rw [List.map_set]
    refine List.ext_getElem? fun j => ?_
    rw [List.getElem?_set]
    by_cases e : i = j
    · subst e
      rw [if_pos rfl, if_pos (by rw [List.length_map]; exact hil), List.getElem?_map, hi]; rfl
    · rw [if_neg e]
  show Own _ B _ y.A y.n y.c ((y.b.set i ⟨u.A, u.n, u.c, u.zs.set k z⟩).map Ls.v)
  rw [hm]
  exact h.b.setO hr (by have := hr.le; omega) (by decide) _ _
/-- A bid is another list. -/
theorem MkOwn.rowB (h : MkOwn w B y) {i g : Nat} {u' : Ls} (hA : y.A = some ⟨g, 0, none⟩) (hi : i < y.n) (hu : OwnI w B u') (hs : ∀ x ∈ y.fam, ∀ g, Blk x g → ¬ Blk u' g) :
    MkOwn (w.setCell ⟨g, i, none⟩ u'.v) B ⟨y.r, y.A, y.n, y.c, y.b.set i u', y.o⟩ := by
  have hil : i < y.b.length := by rw [h.len]; exact hi
  have hr := h.b
  rw [hA] at hr
  have hle := hr.le
  have h1 := (h.famly.row hu hs (i + 1)).setO hr (by omega) (by decide) i u'.v
  have he : (y.fam).set (i + 1) u' = y.r :: (y.b.set i u' ++ [y.o]) := by
    rw [Mk.fam, List.set_cons_succ, List.set_append_left _ _ hil]
  rw [he] at h1
  refine mkown_of (y := ⟨y.r, y.A, y.n, y.c, y.b.set i u', y.o⟩) h1 ?_
  show Own _ B _ y.A y.n y.c ((y.b.set i u').map Ls.v)
  rw [List.map_set, hA]
  exact hr.set (by omega) i u'.v
end
end Go.Proofs.Ytdckoaljcklmhaa
