/-
  Layer 10: the most that a matching gains, set by set: as the document reckons it.
-/
import Derived.Test.YtdckoaljcklmhaaWeI
namespace Go.Proofs.Ytdckoaljcklmhaa
set_option linter.unusedVariables false

section
variable {G : Nat → Nat → Int} {m n : Nat} {P P' : Nat → Bool}
theorem bestN_sub (h : ∀ c, c < m → P c = true → P' c = true) : bestN G m n P ≤ bestN G m n P' := by
  obtain ⟨A, hA, hw⟩ := best_ex (G := G) (m := m) n P
  rw [← hw]
  exact best_ge ⟨hA.inj, fun b hb c e => by
    obtain ⟨h1, h2, h3⟩ := hA.ok b hb c e
    exact ⟨h1, h c h1 h2, h3⟩⟩
theorem bestN_congr (h : ∀ c, c < m → P c = P' c) : bestN G m n P = bestN G m n P' :=
  Int.le_antisymm (bestN_sub fun c hc hp => by rw [← h c hc]; exact hp) (bestN_sub fun c hc hp => by rw [h c hc]; exact hp)
theorem bestN_top : bestN G m n P ≤ bestV G m n := bestN_sub fun _ _ _ => rfl
theorem bestN_nonneg : 0 ≤ bestN G m n P := by
  have h : wtN G (fun _ => none) n = 0 := by
    induction n with
    | zero => rfl
    | succ n ih => rw [wtN, ih]; rfl
  rw [← h]
  exact best_ge ⟨fun b b' c _ _ h _ => by simp at h, fun b _ c e => by simp at e⟩
end

/-- The most with the items of a set, at most. -/
def haveN (G : Nat → Nat → Int) (m n s : Nat) : Int := bestN G m n fun c => s.testBit c
theorem have_zero (G : Nat → Nat → Int) (m s : Nat) : haveN G m 0 s = 0 := rfl
theorem have_all (G : Nat → Nat → Int) (m n : Nat) : haveN G m n (2 ^ m - 1) = bestV G m n := bestN_congr fun c hc => by
  rw [Nat.testBit_two_pow_sub_one, decide_eq_true hc]; rfl
theorem less_bit {s k : Nat} (h : s.testBit k = true) : (fun c => (s ^^^ 2 ^ k).testBit c) = lessP (fun c => s.testBit c) k := by
  funext c
  rw [Nat.testBit_xor, Nat.testBit_two_pow, lessP]
  by_cases e : k = c
  · subst e
    rw [h]; simp
  · have e2 : ¬ c = k := fun h => e h.symm
    simp [e, e2]
theorem xor_lt {s k m : Nat} (hs : s < 2 ^ m) (hk : k < m) : s ^^^ 2 ^ k < 2 ^ m := Nat.xor_lt_two_pow hs (Nat.pow_lt_pow_right (by omega) hk)
/-- What stands there while one bidder more is reckoned. -/
def foldK (G : Nat → Nat → Int) (m n s k : Nat) : Int := (List.range k).foldl (bestStep (G n) (fun k => bestN G m n (lessP (fun c => s.testBit c) k)) fun c => s.testBit c) (haveN G m n s)
theorem foldK_zero (G : Nat → Nat → Int) (m n s : Nat) : foldK G m n s 0 = haveN G m n s := rfl
theorem foldK_all (G : Nat → Nat → Int) (m n s : Nat) : foldK G m n s m = haveN G m (n + 1) s := rfl
theorem foldK_succ (G : Nat → Nat → Int) (m n s k : Nat) : foldK G m n s (k + 1) = bestStep (G n) (fun k => bestN G m n (lessP (fun c => s.testBit c) k)) (fun c => s.testBit c) (foldK G m n s k) k := by
  rw [foldK, List.range_succ, List.foldl_append]; rfl
theorem foldK_yes {G : Nat → Nat → Int} {m n s k : Nat} (hb : s.testBit k = true) (hg : 0 ≤ G n k) : foldK G m n s (k + 1) = max (foldK G m n s k) (haveN G m n (s ^^^ 2 ^ k) + G n k) := by
  rw [foldK_succ, bestStep, if_pos (by rw [hb, decide_eq_true hg]; rfl), haveN, less_bit hb]
theorem foldK_no {G : Nat → Nat → Int} {m n s k : Nat} (h : ¬ (s.testBit k = true ∧ 0 ≤ G n k)) : foldK G m n s (k + 1) = foldK G m n s k := by
  rw [foldK_succ, bestStep, if_neg]
  rw [Bool.and_eq_true, decide_eq_true_eq]
  exact h
theorem foldK_bound {G : Nat → Nat → Int} {m n s : Nat} {K : Int} (h : ∀ s, 0 ≤ haveN G m n s ∧ haveN G m n s ≤ K) (hG : ∀ c, G n c ≤ 1000000) : ∀ k, 0 ≤ foldK G m n s k ∧ foldK G m n s k ≤ K + 1000000
  | 0 => by rw [foldK_zero]; have := h s; omega
  | k + 1 => by
    have h1 := foldK_bound (s := s) h hG k
    by_cases hc : s.testBit k = true ∧ 0 ≤ G n k
    · rw [foldK_yes hc.1 hc.2]
      have h2 := h (s ^^^ 2 ^ k)
      have h3 := hG k
      omega
    · rw [foldK_no hc]; exact h1

/-- The first of one list, the rest of another. -/
def mixL (f g : Nat → Int) (N s : Nat) : List Int := (List.range N).map fun t => if t < s then f t else g t
theorem mix_len (f g : Nat → Int) (N s : Nat) : (mixL f g N s).length = N := by simp [mixL]
theorem mix_zero (f g : Nat → Int) (N : Nat) : mixL f g N 0 = (List.range N).map g := by
  rw [mixL]; exact List.map_congr_left fun t _ => by rw [if_neg (by omega)]
theorem mix_all (f g : Nat → Int) (N : Nat) : mixL f g N N = (List.range N).map f := by
  rw [mixL]; exact List.map_congr_left fun t ht => by rw [if_pos (List.mem_range.1 ht)]
theorem mix_get {f g : Nat → Int} {N s : Nat} (hs : s < N) : (mixL f g N s)[s]? = some (g s) := by
  rw [mixL, List.getElem?_map, List.getElem?_range hs]
  show some (if s < s then f s else g s) = _
  rw [if_neg (by omega)]
theorem mix_set {f g : Nat → Int} {N s : Nat} : (mixL f g N s).set s (f s) = mixL f g N (s + 1) := by
  refine List.ext_getElem? fun i => ?_
  rw [List.getElem?_set, mix_len, mixL, mixL, List.getElem?_map, List.getElem?_map]
  by_cases hi : i < N
  · rw [List.getElem?_range hi]
    by_cases e : s = i
    · subst e
      rw [if_pos rfl, if_pos hi]
      show _ = some (if s < s + 1 then f s else g s)
      rw [if_pos (by omega)]
    · rw [if_neg e]
      show some (if i < s then f i else g i) = some (if i < s + 1 then f i else g i)
      by_cases h2 : i < s
      · rw [if_pos h2, if_pos (by omega)]
      · rw [if_neg h2, if_neg (by omega)]
  · rw [List.getElem?_eq_none (l := List.range N) (by simp; omega)]
    by_cases e : s = i
    · rw [if_pos e, if_neg (by omega)]; rfl
    · rw [if_neg e]; rfl
theorem mix_self {f g : Nat → Int} {N s : Nat} (hs : s < N) : (mixL f g N s).set s (g s) = mixL f g N s := by
  refine List.ext_getElem? fun i => ?_
  rw [List.getElem?_set]
  by_cases e : s = i
  · subst e
    rw [if_pos rfl, mix_len, if_pos hs, mix_get hs]
  · rw [if_neg e]
end Go.Proofs.Ytdckoaljcklmhaa
