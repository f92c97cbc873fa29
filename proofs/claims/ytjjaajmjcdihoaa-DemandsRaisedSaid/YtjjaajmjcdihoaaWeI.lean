/-
  Layer 10 over lists: gains that are made from others.
-/
import Derived.Test.YtjjaajmjcdihoaaWeO
namespace Go.Proofs.Ytjjaajmjcdihoaa
set_option linter.unusedVariables false

theorem gG_at {g : List (List Int)} {b c : Nat} {l : List Int} (hb : g[b]? = some l) : gG g b c = l.getD c 0 := by
  rw [gG, List.getD_eq_getElem?_getD (l := g), hb]; rfl
theorem top_congr {f f' : Nat → Int} : ∀ {m : Nat}, (∀ k, k < m → f k = f' k) → topN f m = topN f' m
  | 0, _ => rfl
  | m + 1, h => by rw [topN, topN, top_congr fun k hk => h k (by omega), h m (by omega)]
section
variable {G G' : Nat → Nat → Int} {m n : Nat}
theorem best_same (h : ∀ b c, b < n → c < m → G b c = G' b c) : bestV G m n = bestV G' m n := best_congr fun b c hb hc _ => h b c hb hc
theorem num_same {k : Nat} (hk : k < m) (h : ∀ b c, b < n → c < m → G b c = G' b c) : numP G m n k = numP G' m n k := by
  rw [numP, numP, best_same h, best_same (G := oneG G m k) (G' := oneG G' m k) (m := m + 1) fun b c hb hc => ?_]
  unfold oneG
  by_cases e : c = m
  · rw [if_pos e, if_pos e]; exact h b k hb hk
  · rw [if_neg e, if_neg e]; exact h b c hb (by omega)
theorem bid_same {i : Nat} (hi : i < n) (h : ∀ b c, b < n → c < m → G b c = G' b c) : bidP G m n i = bidP G' m n i := by
  unfold bidP
  exact top_congr fun k hk => by rw [h i k hi hk, num_same hk h]
end
section
variable {g : List (List Int)} {m : Nat} {G : Nat → Nat → Int}
theorem bestE_of (h : mayW g m = true) (hG : ∀ b c, b < g.length → c < m → gG g b c = G b c) : bestE g m = bestV G m g.length := by
  rw [(we_ok h).1, best_same hG]
theorem ofE_of (h : mayW g m = true) (hG : ∀ b c, b < g.length → c < m → gG g b c = G b c) : ofE g m = (List.range m).map (numP G m g.length) := by
  rw [(we_ok h).2.2.1]
  exact List.map_congr_left fun k hk => num_same (List.mem_range.1 hk) hG
theorem bidE_of (h : mayW g m = true) (hG : ∀ b c, b < g.length → c < m → gG g b c = G b c) : bidE g m = (List.range g.length).map (bidP G m g.length) := by
  rw [(we_ok h).2.2.2]
  exact List.map_congr_left fun k hk => bid_same (List.mem_range.1 hk) hG
theorem ofE_len (h : mayW g m = true) : (ofE g m).length = m := by rw [(we_ok h).2.2.1]; simp
theorem bidE_len (h : mayW g m = true) : (bidE g m).length = g.length := by rw [(we_ok h).2.2.2]; simp
theorem ofE_get (h : mayW g m = true) {k : Nat} (hk : k < m) : (ofE g m)[k]? = some (numP (gG g) m g.length k) := by
  rw [(we_ok h).2.2.1, List.getElem?_map, List.getElem?_range hk]; rfl
theorem bidE_get (h : mayW g m = true) {i : Nat} (hi : i < g.length) : (bidE g m)[i]? = some (bidP (gG g) m g.length i) := by
  rw [(we_ok h).2.2.2, List.getElem?_map, List.getElem?_range hi]; rfl
theorem may_row (h : mayW g m = true) {b : Nat} (hb : b < g.length) : g[b].length = m ∧ ∀ z ∈ g[b], -1000000 ≤ z ∧ z ≤ 1000000 := by
  have h1 := (mayW_iff.1 h).2.2.2 _ (List.getElem_mem hb)
  exact ⟨by omega, h1.2⟩
theorem may_m (h : mayW g m = true) : 1 ≤ m ∧ m ≤ 8 ∧ g.length ≤ 8 := by
  have h1 := mayW_iff.1 h
  omega
end
/-- How great the numbers are. -/
theorem num_bound {g : List (List Int)} {m : Nat} (h : mayW g m = true) (k : Nat) (hk : k < m) : 0 ≤ numP (gG g) m g.length k ∧ numP (gG g) m g.length k ≤ 8000000 := by
  refine ⟨num_nonneg k, ?_⟩
  have h1 := num_upper (G := gG g) (m := m) (n := g.length) hk
  have h2 := bestV_bound (G := gG g) (K := 1000000) (by omega) (fun b c => (gG_bound h b c).2) m g.length
  have h3 := bestV_nonneg (noneC (gG g) k) m g.length
  have h4 := (may_m h).2.2
  have h5 : (g.length : Int) * 1000000 ≤ 8000000 := by omega
  omega
theorem best_bound {g : List (List Int)} {m : Nat} (h : mayW g m = true) : 0 ≤ bestV (gG g) m g.length ∧ bestV (gG g) m g.length ≤ 8000000 := by
  have h2 := bestV_bound (G := gG g) (K := 1000000) (by omega) (fun b c => (gG_bound h b c).2) m g.length
  have h4 := (may_m h).2.2
  have h5 : (g.length : Int) * 1000000 ≤ 8000000 := by omega
  exact ⟨bestV_nonneg _ _ _, by omega⟩
theorem bid_bound {g : List (List Int)} {m : Nat} (h : mayW g m = true) (i : Nat) : 0 ≤ bidP (gG g) m g.length i ∧ bidP (gG g) m g.length i ≤ 1000000 := by
  refine ⟨bid_nonneg i, ?_⟩
  refine top_le (by omega) fun k hk => ?_
  have h1 := (gG_bound h i k).2
  have h2 := (num_bound h k hk).1
  omega
/-- Without an item. -/
def skipN (k c : Nat) : Nat := if c < k then c else c + 1
theorem skip_inj {k c c' : Nat} (h : skipN k c = skipN k c') : c = c' := by
  unfold skipN at h
  split at h <;> split at h <;> omega
theorem skip_lt {m k c : Nat} (hk : k < m) (hc : c < m - 1) : skipN k c < m := by unfold skipN; split <;> omega
theorem best_skip {G : Nat → Nat → Int} {m n k : Nat} (hk : k < m) : bestV (fun b c => G b (skipN k c)) (m - 1) n ≤ bestV G m n := by
  refine best_mono fun A hA => ⟨fun b => mapO (skipN k) (A b), ⟨fun b b' c hb hb' e1 e2 => ?_, fun b hb c e => ?_⟩, ?_⟩
  · obtain ⟨d1, f1, g1⟩ := mapO_some e1
    obtain ⟨d2, f2, g2⟩ := mapO_some e2
    have := skip_inj (g1.symm.trans g2)
    subst this
    exact hA.inj _ _ _ hb hb' f1 f2
  · obtain ⟨d, f, rfl⟩ := mapO_some e
    obtain ⟨k1, _, k3⟩ := hA.ok _ hb d f
    exact ⟨skip_lt hk k1, rfl, k3⟩
  · rw [wt_sum, wt_sum]
    refine Int.le_of_eq (sum_congr fun b hb => ?_)
    try simp only
    cases e : A b with
    | none => rfl
    | some d => rfl
theorem erase_getD {l : List Int} {k c : Nat} (hk : k ≤ l.length) : (l.take k ++ l.drop (k + 1)).getD c 0 = l.getD (skipN k c) 0 := by
  rw [List.getD_eq_getElem?_getD, List.getD_eq_getElem?_getD]
  congr 1
  unfold skipN
  by_cases h : c < k
  · rw [if_pos h, List.getElem?_append_left (by rw [List.length_take]; omega), List.getElem?_take, if_pos h]
  · rw [if_neg h, List.getElem?_append_right (by rw [List.length_take]; omega), List.length_take, List.getElem?_drop]
    congr 1
    omega
end Go.Proofs.Ytjjaajmjcdihoaa
