/-
  Layer 11: what follows of the first of the best: what is left, names, how often, idle ones, who stands first.
-/
import Derived.Test.YtecgakfblhiiaaaFiD
namespace Go.Proofs.Ytecgakfblhiiaaa
set_option linter.unusedVariables false

section
variable {G G' : Nat → Nat → Int} {m n : Nat} {A : Nat → Option Nat} {l : List Nat}
theorem first_taken (h : FirstOf G m n l A) (hnd : l.Nodup) (hl : ∀ b, b < n → b ∈ l) {k : Nat} (hk : k < m) (hno : ∀ b, b < n → A b ≠ some k) {i : Nat} (hi : i < n) :
    (A i = none → G i k < 0) ∧ ∀ c, A i = some c → G i k ≤ G i c := by
  have hset : ∀ hg : 0 ≤ G i k, wtN G A n + (G i k - gainO (G i) (A i)) ≤ bestV G m n := fun hg => by
    have h1 := bestV_ge (h.mt.setSome hk hg fun b hb _ => hno b hb)
    rw [wt_set, if_pos hi] at h1
    exact h1
  refine ⟨fun e => ?_, fun c e => ?_⟩
  · rcases Int.lt_or_le (G i k) 0 with hg | hg
    · exact hg
    · have h1 := hset hg
      rw [h.wt, e] at h1
      simp only [gainO] at h1
      have hmt := h.mt.setSome (w := i) hk hg fun b hb _ => hno b hb
      have hw : wtN G (setN A i (some k)) n = bestV G m n := by
        rw [wt_set, if_pos hi, e, h.wt]
        simp only [gainO]; omega
      obtain ⟨j, hj, hji⟩ := List.getElem_of_mem (hl i hi)
      have h2 := h.first _ hmt hw j hj (fun t ht => by
        rw [setN_ne]
        intro e2
        have h3 := (List.pairwise_iff_getElem.1 hnd) t j (by omega) hj ht
        exact h3 (e2.trans hji.symm)) (by rw [hji, e, setN_eq]; simp)
      rw [hji, e] at h2
      exact h2.elim
  · rcases Int.lt_or_le (G i c) (G i k) with hg | hg
    · have h0 := (h.mt.ok i hi c e).2.2
      have h1 := hset (by omega)
      rw [h.wt, e] at h1
      simp only [gainO] at h1
      omega
    · exact hg

/-! Named otherwise. -/
def TurnR (m n r : Nat) (G G2 : Nat → Nat → Int) : Prop := ∀ b c, b < n → c < m → G2 ((b + r) % n) c = G b c
theorem turnR_best {r : Nat} (hr : r ≤ n) (h : TurnR m n r G G') : bestV G' m n = bestV G m n := by
  refine Int.le_antisymm ?_ ?_
  · exact best_named (r := r) id hr (fun c hc => hc) (fun c c' _ _ h => h) fun b c hb hc => (h b c hb hc).symm
  · refine best_named (r := n - r) id (by omega) (fun c hc => hc) (fun c c' _ _ h => h) fun b c hb hc => ?_
    have h1 := h ((b + (n - r)) % n) c (rot_lt hb) hc
    rw [rot_back hr hb] at h1
    exact h1
theorem turn_none {r w : Nat} (hr : r ≤ n) (hw : w < n) (h : TurnR m n r G G') : TurnR m n r (noneG G w) (noneG G' ((w + r) % n)) := fun b c hb hc => by
  unfold noneG
  by_cases e : b = w
  · rw [if_pos e, if_pos (by rw [e])]
  · rw [if_neg e, if_neg (fun h2 => e (rot_inj hr hb hw h2))]; exact h b c hb hc
theorem first_turn {r : Nat} (hr : r ≤ n) (h : TurnR m n r G G') (hl : ∀ b ∈ l, b < n) {b : Nat} (hb : b < n) : firstF G' m n (l.map fun b => (b + r) % n) ((b + r) % n) = firstF G m n l b :=
  first_sim (R := TurnR m n r) (f := 1) (ρ := fun b => (b + r) % n) (by omega) (Nat.le_refl _) (fun G G2 hR => by rw [Int.one_mul]; exact turnR_best hr hR)
    (fun G G2 w c hR hw hc => by have h1 : G2 ((w + r) % n) c = G w c := hR w c hw hc; refine ⟨?_, fun _ => ?_⟩; (show 0 ≤ G2 ((w + r) % n) c ↔ 0 ≤ G w c); rw [h1]; (show G2 ((w + r) % n) c = 1 * G w c); rw [h1, Int.one_mul])
    (fun G G2 w c _ _ h1 h2 => absurd h2 (by omega)) (fun G G2 w hR hw => turn_none hr hw hR)
    (fun G G2 w k hR hw hk b c hb hc => by
      unfold goneG noneC
      by_cases e : c = k
      · rw [if_pos e, if_pos e]
      · rw [if_neg e, if_neg e]; exact turn_none hr hw hR b c hb hc)
    (fun b b' hb hb' h => rot_inj hr hb hb' h) l G G' h hl b hb

/-! As often as great. -/
def MulR (m n f : Nat) (G G2 : Nat → Nat → Int) : Prop := ∀ b c, b < n → c < m → (0 ≤ G2 b c ∨ 0 ≤ (f : Int) * G b c) → G2 b c = f * G b c
theorem mulr_best {f : Nat} (hf : 0 < f) (h : MulR m n f G G') : bestV G' m n = f * bestV G m n := by
  rw [← best_mul hf]
  exact best_congr fun b c hb hc h0 => h b c hb hc h0
theorem mulr_none {f w : Nat} (h : MulR m n f G G') (hf : 0 < f) : MulR m n f (noneG G w) (noneG G' w) := fun b c hb hc h0 => by
  unfold noneG at h0 ⊢
  by_cases e : b = w
  · rw [if_pos e, if_pos e] at h0
    rcases h0 with h0 | h0
    · omega
    · have := (mul_nn hf (-1)).1 h0; omega
  · rw [if_neg e, if_neg e] at h0 ⊢; exact h b c hb hc h0
theorem first_mul {f : Nat} (hf : 0 < f) (h : MulR m n f G G') (hl : ∀ b ∈ l, b < n) {b : Nat} (hb : b < n) : firstF G' m n l b = firstF G m n l b := by
  have := first_sim (R := MulR m n f) (f := (f : Int)) (ρ := id) (by omega) (Nat.le_refl _) (fun G G2 hR => mulr_best hf hR)
    (fun G G2 w c hR hw hc => ⟨⟨fun h0 => by have h1 := hR w c hw hc (.inl h0); simp only [id] at h0; rw [h1] at h0; exact (mul_nn hf _).1 h0, fun h0 => by have h2 := (mul_nn hf (G w c)).2 h0; have h1 := hR w c hw hc (.inr h2); simp only [id]; rw [h1]; exact h2⟩, fun h0 => hR w c hw hc (.inr ((mul_nn hf (G w c)).2 h0))⟩)
    (fun G G2 w c _ _ h1 h2 => absurd h2 (by omega)) (fun G G2 w hR _ => mulr_none hR hf)
    (fun G G2 w k hR hw hk b c hb hc h0 => by
      unfold goneG noneC at h0 ⊢
      by_cases e : c = k
      · rw [if_pos e, if_pos e] at h0
        rcases h0 with h0 | h0
        · omega
        · have := (mul_nn hf (-1)).1 h0; omega
      · rw [if_neg e, if_neg e] at h0 ⊢; exact mulr_none hR hf b c hb hc h0)
    (fun b b' _ _ h => h) l G G' h hl b hb
  rw [List.map_id] at this
  exact this

/-! An item, and a bidder, that gain nothing. -/
structure IdleR (m n : Nat) (G G2 : Nat → Nat → Int) : Prop where
  same : ∀ b c, b < n → c < m → (0 ≤ G2 b c ∨ 0 ≤ G b c) → G2 b c = G b c
  item : ∀ b, b < n → G2 b m < 0
  who : ∀ c, c ≤ m → G2 n c < 0
theorem idler_best (h : IdleR m n G G') : bestV G' (m + 1) (n + 1) = bestV G m n := by
  rw [← idle_best (G := G) (m := m) (n := n)]
  refine best_congr fun b c hb hc h0 => ?_
  unfold idleG at h0 ⊢
  by_cases e : b = n ∨ c = m
  · rw [if_pos e] at h0 ⊢
    have h1 : G' b c < 0 := by
      by_cases e2 : b = n
      · rw [e2]; exact h.who c (by omega)
      · rcases e with e | e
        · exact absurd e e2
        · rw [e]; exact h.item b (by omega)
    omega
  · rw [if_neg e] at h0 ⊢
    exact h.same b c (by omega) (by omega) h0
theorem idler_none {w : Nat} (hw : w < n) (h : IdleR m n G G') : IdleR m n (noneG G w) (noneG G' w) := ⟨fun b c hb hc h0 => by
    unfold noneG at h0 ⊢
    by_cases e : b = w
    · rw [if_pos e, if_pos e]
    · rw [if_neg e, if_neg e] at h0 ⊢; exact h.same b c hb hc h0,
  fun b hb => by
    unfold noneG
    by_cases e : b = w
    · rw [if_pos e]; omega
    · rw [if_neg e]; exact h.item b hb,
  fun c hc => by rw [noneG, if_neg (by omega)]; exact h.who c hc⟩
theorem idler_gone {w k : Nat} (hw : w < n) (h : IdleR m n G G') : IdleR m n (goneG G w k) (goneG G' w k) := by
  have h2 := idler_none hw h
  refine ⟨fun b c hb hc h0 => ?_, fun b hb => ?_, fun c hc => ?_⟩
  · unfold goneG noneC at h0 ⊢
    by_cases e : c = k
    · rw [if_pos e, if_pos e]
    · rw [if_neg e, if_neg e] at h0 ⊢; exact h2.same b c hb hc h0
  · unfold goneG noneC
    by_cases e : m = k
    · rw [if_pos e]; omega
    · rw [if_neg e]; exact h2.item b hb
  · unfold goneG noneC
    by_cases e : c = k
    · rw [if_pos e]; omega
    · rw [if_neg e]; exact h2.who c hc
theorem first_idle {l1 l2 : List Nat} (h : IdleR m n G G') (hl : ∀ b ∈ l1 ++ l2, b < n) {b : Nat} (hb : b < n) : firstF G' (m + 1) (n + 1) (l1 ++ n :: l2) b = firstF G m n (l1 ++ l2) b := by
  rw [first_put l1 l2 G' (fun c hc => h.who c (by omega)) (fun b hb => by have := hl b hb; omega) b (by omega) (by omega)]
  have := first_sim (R := IdleR m n) (f := 1) (ρ := id) (by omega) (Nat.le_succ m) (fun G G2 hR => by rw [Int.one_mul]; exact idler_best hR)
    (fun G G2 w c hR hw hc => ⟨⟨fun h0 => by have := hR.same w c hw hc (.inl h0); simp only [id] at h0; omega, fun h0 => by have := hR.same w c hw hc (.inr h0); simp only [id]; omega⟩, fun h0 => by have := hR.same w c hw hc (.inr h0); simp only [id]; omega⟩)
    (fun G G2 w c hR hw h1 h2 => by rw [show c = m by omega]; exact hR.item w hw) (fun G G2 w hR hw => idler_none hw hR)
    (fun G G2 w k hR hw hk => idler_gone hw hR) (fun b b' _ _ h => h) (l1 ++ l2) G G' h hl b hb
  rw [List.map_id] at this
  exact this
theorem first_idle_last (h : IdleR m n G G') (l : List Nat) : firstF G' (m + 1) (n + 1) l n = none := first_neg l G' fun c hc => h.who c (by omega)

/-! Who stands first goes. -/
theorem first_head (w : Nat) : firstF G m n (w :: l) w = pickF G m n w := by
  cases hp : pickF G m n w with
  | some k => rw [first_cons_some hp, setN_eq]
  | none => rw [first_cons_none hp, setN_eq]
/-- What is left when one has gone with what it has. -/
def leftG (G : Nat → Nat → Int) (w : Nat) : Option Nat → Nat → Nat → Int
  | some k => goneG G w k
  | none => noneG G w
theorem first_ahead {w : Nat} (hw : w < n) (h : SimR m n (leftG G w (pickF G m n w)) G') (hg : ∀ c, c < m → G' w c < 0) (hl : ∀ b ∈ l, b < n) {b : Nat} (hb : b < n) (hbw : b ≠ w) : firstF G' m n (l ++ [w]) b = firstF G m n (w :: l) b := by
  rw [first_put l [] G' hg (fun b hb => hl b (by simpa using hb)) b hb hbw, List.append_nil, first_congr h hl hb]
  cases hp : pickF G m n w with
  | some k => rw [first_cons_some hp, setN_ne hbw]; rfl
  | none => rw [first_cons_none hp, setN_ne hbw]; rfl
end
end Go.Proofs.Ytecgakfblhiiaaa
