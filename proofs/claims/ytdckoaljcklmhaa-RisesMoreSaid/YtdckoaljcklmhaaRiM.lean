/-
  Layer 13: a market's gains may be; gains with one more of one item.
-/
import Derived.Test.YtdckoaljcklmhaaRiT
namespace Go.Proofs.Ytdckoaljcklmhaa
set_option linter.unusedVariables false

theorem gains_may {x : Mk} (h : x.may = true) : mayW (gains x.r.zs (Ls.all x.b)) x.r.zs.length = true := by
  obtain ⟨h1, ⟨h2, h3, _⟩, h4, _⟩ := (mayM_iff _ _ _).1 h
  obtain ⟨k1, k2, _, k4⟩ := (mayB_iff _ _).1 h1
  refine mayW_iff.2 ⟨k1, k2, by rw [gains, List.length_map]; exact h3, fun l hl => ?_⟩
  obtain ⟨b, hb, rfl⟩ := List.mem_map.1 hl
  have hbb := h4 b hb
  refine ⟨by rw [gain_len hbb], fun z hz => ?_⟩
  rw [gain] at hz
  split at hz
  · obtain ⟨y, _, rfl⟩ := List.mem_map.1 hz; omega
  · rename_i hne
    have hbm : mayB b x.r.zs.length = true := by
      rw [bidB, Bool.or_eq_true, decide_eq_true_eq] at hbb
      rcases hbb with e | e
      · exact absurd e hne
      · exact e
    obtain ⟨_, _, _, q4⟩ := (mayB_iff _ _).1 hbm
    obtain ⟨i, hi, rfl⟩ := List.getElem_of_mem hz
    rw [List.getElem_zipWith]
    rw [List.length_zipWith] at hi
    have a1 := q4 _ (List.getElem_mem (show i < b.length by omega))
    have a2 := k4 _ (List.getElem_mem (show i < x.r.zs.length by omega))
    omega
/-- Gains, with one more of one item. -/
def oneMoreL (g : List (List Int)) (k j : Nat) : List (List Int) := (g.take j).map fun l => l ++ [l.getD k 0]
theorem oneMoreL_succ {g : List (List Int)} {k j : Nat} {l : List Int} (h : g[j]? = some l) : oneMoreL g k (j + 1) = oneMoreL g k j ++ [l ++ [l.getD k 0]] := by
  obtain ⟨hj, rfl⟩ := List.getElem?_eq_some_iff.1 h
  rw [oneMoreL, List.take_succ_eq_append_getElem hj, List.map_append]; rfl
theorem oneMoreL_may {g : List (List Int)} {m k : Nat} (h : mayW g m = true) (hk : k < m) (hm : m < 8) : mayW (oneMoreL g k g.length) ((m + 1 : Nat) : Int) = true := by
  obtain ⟨h1, h2, h3, h4⟩ := mayW_iff.1 h
  refine mayW_iff.2 ⟨by omega, by omega, by rw [oneMoreL, List.take_length, List.length_map]; exact h3, fun l hl => ?_⟩
  rw [oneMoreL, List.take_length] at hl
  obtain ⟨r, hr, rfl⟩ := List.mem_map.1 hl
  obtain ⟨h5, h6⟩ := h4 r hr
  refine ⟨by rw [List.length_append, List.length_singleton]; omega, fun z hz => ?_⟩
  rcases List.mem_append.1 hz with hz | hz
  · exact h6 z hz
  · rw [List.mem_singleton.1 hz, List.getD_eq_getElem?_getD, List.getElem?_eq_getElem (show k < r.length by omega)]
    exact h6 _ (List.getElem_mem _)
theorem oneMoreL_gG {g : List (List Int)} {m k b c : Nat} (h : mayW g m = true) (hb : b < g.length) (hc : c < m + 1) : gG (oneMoreL g k g.length) b c = oneG (gG g) m k b c := by
  have hl := (may_row h hb).1
  rw [gG_at (l := g[b] ++ [g[b].getD k 0]) (by rw [oneMoreL, List.take_length, List.getElem?_map, List.getElem?_eq_getElem hb]; rfl), List.getD_eq_getElem?_getD, oneG]
  have hgb : g.getD b [] = g[b] := by rw [List.getD_eq_getElem?_getD, List.getElem?_eq_getElem hb]; rfl
  by_cases e : c = m
  · rw [if_pos e, List.getElem?_append_right (by omega), hl, e, Nat.sub_self, gG, hgb]; rfl
  · rw [if_neg e, List.getElem?_append_left (by omega), gG, hgb, List.getD_eq_getElem?_getD]
theorem oneMoreL_best {g : List (List Int)} {m k : Nat} (h : mayW g m = true) (hk : k < m) (hm : m < 8) : bestE (oneMoreL g k g.length) ((m + 1 : Nat) : Int) = bestE g m + numP (gG g) m g.length k ∧ wErr (oneMoreL g k g.length) ((m + 1 : Nat) : Int) = 0 := by
  have h2 := oneMoreL_may h hk hm
  have hlen : (oneMoreL g k g.length).length = g.length := by rw [oneMoreL, List.take_length, List.length_map]
  refine ⟨?_, (we_ok h2).2.1⟩
  rw [(we_ok h2).1, (we_ok h).1, hlen, best_same (G' := oneG (gG g) m k) fun b c hb hc => oneMoreL_gG (k := k) h hb hc, numP]; omega
end Go.Proofs.Ytdckoaljcklmhaa
