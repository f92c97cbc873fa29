/-
  What the laws of layer 10 lean on: gains that are made from others; a bidder that is left out.
-/
import Derived.Test.YtecgakfblhiiaaaWeL
import Derived.Test.YtecgakfblhiiaaaGrN
namespace Go.Proofs.Ytecgakfblhiiaaa
open Go.RowKit
set_option linter.unusedVariables false

theorem TwnL.outs {w : World} {B : Nat} {x : Gr} (h : TwnL w B x) : Outs w B x.A x.n x.c x.t := by
  refine ⟨h.lists, fun u hu => ?_, h.apt⟩
  have h1 := (h.each u hu).own
  have h2 := h1.len
  rw [ci64_len, List.length_append, List.length_singleton] at h2
  have h3 := h1.less (m := u.n) (by omega)
  rw [ci64_take, List.take_append_of_le_length (by omega), List.take_of_length_le (by omega)] at h3
  exact ⟨h3, (h.each u hu).fit⟩
/-- One number of one list is another one. -/
theorem Outs.num {w : World} {B n c g i k : Nat} {A : Option Addr} {t : List Ls} {u : Ls} {z : Int} (h : Outs w B A n c t) (hi : t[i]? = some u) (hg : u.A = some ⟨g, 0, none⟩) (hk : k < u.n) (hz : -9223372036854775808 ≤ z ∧ z ≤ 9223372036854775807) :
    Outs (w.setCell ⟨g, k, none⟩ (.int .i64 z)) B A n c (t.set i ⟨u.A, u.n, u.c, u.zs.set k z⟩) := by
  have hil := (List.getElem?_eq_some_iff.1 hi).1
  have hiu : t[i] = u := (List.getElem?_eq_some_iff.1 hi).2
  have hu := h.each u (List.mem_of_getElem? hi)
  have hle := hu.own.le
  have hown := hu.own
  rw [hg] at hown
  have hm : (t.set i ⟨u.A, u.n, u.c, u.zs.set k z⟩).map Ls.v = t.map Ls.v := by
    rw [List.map_set]
    refine List.ext_getElem? fun j => ?_
    rw [List.getElem?_set]
    by_cases e : i = j
    · subst e
      rw [if_pos rfl, if_pos (by rw [List.length_map]; exact hil), List.getElem?_map, hi]; rfl
    · rw [if_neg e]
  refine ⟨?_, fun x hx => ?_, ?_⟩
  · rw [hm]
    exact h.own.setO hown (by omega) (by decide) _ _
  · obtain ⟨j, hj⟩ := List.getElem?_of_mem hx
    rw [List.getElem?_set] at hj
    by_cases e : i = j
    · rw [if_pos e, if_pos hil] at hj
      cases hj
      refine ⟨?_, fun y hy => ?_⟩
      · show Own _ B 3 u.A u.n u.c (ci64 (u.zs.set k z))
        rw [hg]
        have h1 := hown.set (by omega) k (.int .i64 z)
        have h2 : ci64 (u.zs.set k z) = (ci64 u.zs).set k (.int .i64 z) := by simp [ci64, iV]
        rw [h2]; exact h1
      · rcases List.mem_or_eq_of_mem_set hy with h1 | h1
        · exact hu.fit y h1
        · rw [h1]; exact hz
    · rw [if_neg e] at hj
      have hxm := h.each x (List.mem_of_getElem? hj)
      refine ⟨?_, hxm.fit⟩
      rcases hxm.own.2 with h0 | ⟨g', cur, hA', hB', hh, r⟩
      · exact ⟨hxm.own.1, .inl h0⟩
      · refine ⟨hxm.own.1, .inr ⟨g', cur, hA', hB', ?_, r⟩⟩
        rw [heap_setCell_other _ ⟨g, k, none⟩ g' _ ?_]
        · exact hh
        · intro e'
          have hjl := (List.getElem?_eq_some_iff.1 hj).1
          have hjx : t[j] = x := (List.getElem?_eq_some_iff.1 hj).2
          by_cases hx0 : 0 < x.c
          · have b1 : Blk u g := ⟨by omega, hg⟩
            have b2 : Blk x g := ⟨hx0, by rw [hA', e']⟩
            rcases Nat.lt_or_gt_of_ne e with h1 | h1
            · have := List.pairwise_iff_getElem.1 h.apt i j hil hjl h1 g
              rw [hiu, hjx] at this
              exact this b1 b2
            · have := List.pairwise_iff_getElem.1 h.apt j i hjl hil h1 g
              rw [hiu, hjx] at this
              exact this b2 b1
          · -- a list without room has no block of its own: its cells are none
            have hcur : cur.size = 0 := by
              obtain ⟨_, _, h3, _⟩ := r
              have : cur.size = x.c := h3
              omega
            obtain ⟨g2, cur2, hA2, _, hh2, h5, _, h6, _⟩ := hown.2.resolve_left (by omega)
            cases hA2
            rw [← show g' = g from e', hh] at hh2
            have := (Obj.cells.inj (Option.some.inj hh2)).1
            rw [this] at hcur
            have h7 : cur2.size = u.c := h6
            omega
  · refine List.pairwise_iff_getElem.2 fun a b ha hb hab g' b1 b2 => ?_
    rw [List.length_set] at ha hb
    have hbl : ∀ j (hj : j < t.length), Blk ((t.set i ⟨u.A, u.n, u.c, u.zs.set k z⟩)[j]'(by rw [List.length_set]; exact hj)) g' → Blk t[j] g' := fun j hj hb => by
      rw [List.getElem_set] at hb
      by_cases e : i = j
      · subst e
        rw [if_pos rfl] at hb
        rw [hiu]; exact hb
      · rw [if_neg e] at hb; exact hb
    exact List.pairwise_iff_getElem.1 h.apt a b ha hb hab g' (hbl a ha b1) (hbl b hb b2)
theorem all_num {t : List Ls} {i : Nat} {u : Ls} : Ls.all (t.set i u) = (Ls.all t).set i u.zs := by rw [Ls.all, Ls.all, List.map_set]
/-- A list the first k numbers of which are -1. -/
def fillM (zs : List Int) (k : Nat) : List Int := List.replicate k (-1) ++ zs.drop k
theorem fillM_len {zs : List Int} {k : Nat} (h : k ≤ zs.length) : (fillM zs k).length = zs.length := by simp [fillM]; omega
theorem fillM_set {zs : List Int} {k : Nat} (h : k < zs.length) : (fillM zs k).set k (-1) = fillM zs (k + 1) := by
  rw [fillM, List.set_append_right _ _ (by simp), List.length_replicate, Nat.sub_self, List.drop_eq_getElem_cons h, List.set_cons_zero, fillM, List.replicate_succ', List.append_assoc]
  rfl
theorem fillM_all (zs : List Int) : fillM zs zs.length = List.replicate zs.length (-1) := by simp [fillM]
/-- Gains, one bidder of which has nothing. -/
def wout (g : List (List Int)) (i : Nat) : List (List Int) := g.set i (List.replicate (g.getD i []).length (-1))
theorem wout_len (g : List (List Int)) (i : Nat) : (wout g i).length = g.length := by rw [wout, List.length_set]
theorem wout_may {g : List (List Int)} {m : Int} {i : Nat} (h : mayW g m = true) (hi : i < g.length) : mayW (wout g i) m = true := by
  obtain ⟨h1, h2, h3, h4⟩ := mayW_iff.1 h
  refine mayW_iff.2 ⟨h1, h2, by rw [wout_len]; exact h3, fun l hl => ?_⟩
  rcases List.mem_or_eq_of_mem_set hl with e | e
  · exact h4 l e
  · rw [e]
    refine ⟨?_, fun z hz => ?_⟩
    · rw [List.length_replicate, List.getD_eq_getElem?_getD, List.getElem?_eq_getElem hi]
      exact (h4 _ (List.getElem_mem hi)).1
    · rw [(List.mem_replicate.1 hz).2]; omega
theorem wout_gG {g : List (List Int)} {m i b c : Nat} (h : mayW g m = true) (hi : i < g.length) (hc : c < m) : gG (wout g i) b c = noneG (gG g) i b c := by
  unfold noneG
  by_cases e : b = i
  · rw [if_pos e, e, gG_at (l := List.replicate (g.getD i []).length (-1)) (by rw [wout, List.getElem?_set, if_pos rfl, if_pos hi])]
    have h1 := (may_row h hi).1
    have h2 : (g.getD i []).length = m := by rw [List.getD_eq_getElem?_getD, List.getElem?_eq_getElem hi]; exact h1
    rw [h2, List.getD_eq_getElem?_getD, List.getElem?_replicate, if_pos hc]; rfl
  · rw [if_neg e, gG, gG, List.getD_eq_getElem?_getD (l := wout g i), wout, List.getElem?_set_ne (by omega), ← List.getD_eq_getElem?_getD]
end Go.Proofs.Ytecgakfblhiiaaa
