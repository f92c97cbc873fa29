/-
  Layer 13: what the landed code reckons with: what all would have, the least way of those who want nothing else, steps one behind the other, bidders who come in one by one.
-/
import Derived.Test.YtdckoaljcklmhaaGreatDoorDeD
import Derived.Test.YtdckoaljcklmhaaGreatDoorWeI
import Derived.Test.YtdckoaljcklmhaaGreatDoorMark
import Derived.Test.YtdckoaljcklmhaaGreatDoorHaE
import Derived.Test.YtdckoaljcklmhaaGreatDoorMarkO
import Derived.Test.YtdckoaljcklmhaaGreatDoorDeO
namespace Go.Proofs.YtdckoaljcklmhaaGreatDoor
set_option linter.unusedVariables false

section
variable {G : Nat → Nat → Int} {m n : Nat} {d u : Nat → Int} {A B : Nat → Option Nat}
open Classical in
noncomputable def onlyZ (Z : Nat → Prop) (A : Nat → Option Nat) (b : Nat) : Option Nat := if Z b then A b else none
theorem onlyZ_some {Z : Nat → Prop} {b c : Nat} (h : onlyZ Z A b = some c) : Z b ∧ A b = some c := by
  unfold onlyZ at h
  split at h
  · rename_i hz; exact ⟨hz, h⟩
  · cases h
theorem onlyZ_in {Z : Nat → Prop} {b : Nat} (h : Z b) : onlyZ Z A b = A b := if_pos h
theorem onlyZ_out {Z : Nat → Prop} {b : Nat} (h : ¬ Z b) : onlyZ Z A b = none := if_neg h
theorem use_ex {c : Nat} : ∀ {n}, 1 ≤ useN A c n → ∃ b, b < n ∧ A b = some c
  | 0, h => by rw [useN] at h; omega
  | n + 1, h => by
    by_cases e : A n = some c
    · exact ⟨n, by omega, e⟩
    · rw [useN, if_neg e] at h
      obtain ⟨b, hb, h2⟩ := use_ex (n := n) (by omega)
      exact ⟨b, by omega, h2⟩
/-- Where all who must have can, each what it would have, an item's number is at most what it costs above its reserve. -/
theorem num_hall (hd : ∀ c, c < m → 0 ≤ d c) (hu : ∀ b, b < n → 0 ≤ u b) (hcov : ∀ b, b < n → ∀ c, c < m → G b c ≤ u b + d c)
    (hA : InjN n A) (hAm : ∀ b, b < n → ∀ c, A b = some c → c < m ∧ G b c = u b + d c) (hno : ∀ b, b < n → A b = none → u b = 0) {k : Nat} (hk : k < m) : numP G m n k ≤ d k := by
  obtain ⟨B, hB, hwB⟩ := best_ex (G := oneG G m k) (m := m + 1) n topP
  have hwB : wtN (oneG G m k) B n = bestV (oneG G m k) (m + 1) n := hwB
  by_cases hm : ∃ s, s < n ∧ B s = some m
  · obtain ⟨s, hs, hBs⟩ := hm
    obtain ⟨Z, hZ⟩ : ∃ Z : Nat → Prop, Z = Come n B A s := ⟨_, rfl⟩
    have hZs : Z s := by rw [hZ]; exact .base
    have hZm : ∀ b, b < n → B b = some m → Z b := fun b hb e => by
      rw [hB.inj b s m hb hs e hBs]; exact hZs
    have hinj : InjN n (flipN n B A s B A) := flip_injA hB.inj hA
    have hin : ∀ b, Z b → flipN n B A s B A b = A b := fun b h => flip_in (by rw [hZ] at h; exact h)
    have hout : ∀ b, ¬ Z b → flipN n B A s B A b = B b := fun b h => flip_out (by rw [hZ] at h; exact h)
    have hlt : ∀ b, b < n → ¬ Z b → ∀ c, B b = some c → c < m := fun b hb hz c e => by
      have h1 := (hB.ok b hb c e).1
      by_cases h2 : c = m
      · rw [h2] at e; exact absurd (hZm b hb e) hz
      · omega
    have hC : Mt G m n topP (flipN n B A s B A) := ⟨hinj, fun b hb c e => by
      by_cases hz : Z b
      · rw [hin b hz] at e
        obtain ⟨h1, h2⟩ := hAm b hb c e
        have := hu b hb
        have := hd c h1
        exact ⟨h1, rfl, by omega⟩
      · rw [hout b hz] at e
        have h1 := hlt b hb hz c e
        have h2 := (hB.ok b hb c e).2.2
        rw [oneG, if_neg (by omega)] at h2
        exact ⟨h1, rfl, h2⟩⟩
    have hle := bestV_ge hC
    obtain ⟨d', hd'⟩ : ∃ d' : Nat → Int, d' = fun c => if c = m then d k else d c := ⟨_, rfl⟩
    have hdk := hd k hk
    have hstep : ∀ b, b < n → gainO (oneG G m k b) (B b) + gainO d (onlyZ Z A b) ≤ gainO (G b) (flipN n B A s B A b) + gainO d' (onlyZ Z B b) := fun b hb => by
      by_cases hz : Z b
      · rw [onlyZ_in hz, onlyZ_in hz, hin b hz]
        have h1 : gainO (G b) (A b) = u b + gainO d (A b) := by
          cases e : A b with
          | none => simp only [gainO]; have := hno b hb e; omega
          | some c => exact (hAm b hb c e).2
        have h2 : gainO (oneG G m k b) (B b) ≤ u b + gainO d' (B b) := by
          cases e : B b with
          | none => simp only [gainO]; have := hu b hb; omega
          | some c =>
            simp only [gainO, oneG, hd']
            by_cases hc : c = m
            · rw [if_pos hc, if_pos hc]; exact hcov b hb k hk
            · rw [if_neg hc, if_neg hc]
              have := (hB.ok b hb c e).1
              exact hcov b hb c (by omega)
        omega
      · rw [onlyZ_out hz, onlyZ_out hz, hout b hz]
        cases e : B b with
        | none => simp only [gainO]; omega
        | some c =>
          have := hlt b hb hz c e
          simp only [gainO, oneG]
          rw [if_neg (by omega)]; omega
    have hsum := sum_le hstep
    rw [sum_add, sum_add, ← wt_sum (oneG G m k) B n, ← wt_sum G (flipN n B A s B A) n, sum_use (A := onlyZ Z A) d fun b hb c e => (hAm b hb c (onlyZ_some e).2).1, sum_use (A := onlyZ Z B) d' (m := m + 1) fun b hb c e => (hB.ok b hb c (onlyZ_some e).2).1] at hsum
    have hBZ : InjN n (onlyZ Z B) := fun b b' c hb hb' e1 e2 => hB.inj b b' c hb hb' (onlyZ_some e1).2 (onlyZ_some e2).2
    have hum := use_one hBZ m (Nat.le_refl n)
    have huse : sumW (fun c => (useN (onlyZ Z B) c n : Int) * d' c) m ≤ sumW (fun c => (useN (onlyZ Z A) c n : Int) * d c) m := sum_le fun c hc => by
      have hdc : d' c = d c := by rw [hd']; exact if_neg (by omega)
      rw [hdc]
      refine Int.mul_le_mul_of_nonneg_right ?_ (hd c hc)
      have h1 := use_one hBZ c (Nat.le_refl n)
      by_cases h0 : useN (onlyZ Z B) c n = 0
      · omega
      · obtain ⟨y, hy, ey⟩ := use_ex (n := n) (show 1 ≤ useN (onlyZ Z B) c n by omega)
        obtain ⟨hzy, hBy⟩ := onlyZ_some ey
        rw [hZ] at hzy
        cases hzy with
        | base => rw [hBs] at hBy; injection hBy with h2; omega
        | step x y d hx hxn hyn hAx hBy2 =>
          rw [hBy] at hBy2
          injection hBy2 with h2
          subst h2
          have h3 := use_pos (A := onlyZ Z A) (c := c) hxn (by rw [onlyZ_in (by rw [hZ]; exact hx)]; exact hAx)
          omega
    rw [sumW] at hsum
    have hdm : d' m = d k := by rw [hd']; exact if_pos rfl
    rw [hdm] at hsum
    have hmul : (useN (onlyZ Z B) m n : Int) * d k ≤ d k := by
      have : useN (onlyZ Z B) m n = 0 ∨ useN (onlyZ Z B) m n = 1 := by omega
      rcases this with h | h
      · rw [h]; simpa using hdk
      · rw [h]; simp
    unfold numP
    omega
  · have hlt : ∀ b, b < n → ∀ c, B b = some c → c < m := fun b hb c e => by
      have h1 := (hB.ok b hb c e).1
      by_cases h2 : c = m
      · rw [h2] at e; exact absurd ⟨b, hb, e⟩ hm
      · omega
    have hC : Mt G m n topP B := ⟨hB.inj, fun b hb c e => by
      have h1 := hlt b hb c e
      have h2 := (hB.ok b hb c e).2.2
      rw [oneG, if_neg (by omega)] at h2
      exact ⟨h1, rfl, h2⟩⟩
    have hle := bestV_ge hC
    have hw : wtN (oneG G m k) B n = wtN G B n := one_wt hlt (Nat.le_refl _)
    have := hd k hk
    unfold numP
    omega
end

/-! Prices at which all who must have can. -/
/-- Each has what it would have. -/
structure Sold (L : List (List Int)) (q : List Int) (A : Nat → Option Nat) : Prop where
  inj : InjN L.length A
  ok : ∀ b, b < L.length → ∀ c, A b = some c → c ∈ itemsN (L.getD b []) q
  must : ∀ b, b < L.length → 0 < gainD (L.getD b []) q → ∃ c, A b = some c
def HallP (L : List (List Int)) (q : List Int) : Prop := ∃ A, Sold L q A
/-- One list is nowhere above another one. -/
def LeP (p q : List Int) : Prop := p.length = q.length ∧ ∀ c, c < p.length → p.getD c 0 ≤ q.getD c 0
theorem LeP.refl (p : List Int) : LeP p p := ⟨rfl, fun _ _ => Int.le_refl _⟩
theorem LeP.trans {p q r : List Int} (h : LeP p q) (k : LeP q r) : LeP p r := ⟨h.1.trans k.1, fun c hc => Int.le_trans (h.2 c hc) (k.2 c (h.1 ▸ hc))⟩
theorem LeP.antisymm {p q : List Int} (h : LeP p q) (k : LeP q p) : p = q := by
  refine List.ext_getElem? fun c => ?_
  by_cases hc : c < p.length
  · have h1 := h.2 c hc
    have h2 := k.2 c (h.1 ▸ hc)
    rw [List.getD_eq_getElem?_getD, List.getD_eq_getElem?_getD, List.getElem?_eq_getElem hc, List.getElem?_eq_getElem (h.1 ▸ hc)] at h1 h2
    rw [List.getElem?_eq_getElem hc, List.getElem?_eq_getElem (h.1 ▸ hc)]
    simp only [Option.getD_some] at h1 h2
    rw [Int.le_antisymm h1 h2]
  · rw [List.getElem?_eq_none (by omega), List.getElem?_eq_none (by have := h.1; omega)]
/-- The least ones from these on. -/
structure IsLeast (r : List Int) (L : List (List Int)) (p : List Int) : Prop where
  le : LeP r p
  hall : HallP L p
  least : ∀ q, LeP r q → HallP L q → LeP p q
theorem least_one {r p q : List Int} {L : List (List Int)} (h : IsLeast r L p) (k : IsLeast r L q) : p = q := (h.least q k.le k.hall).antisymm (k.least p h.le h.hall)
end Go.Proofs.YtdckoaljcklmhaaGreatDoor


namespace Go.Proofs.YtdckoaljcklmhaaGreatDoor
set_option linter.unusedVariables false

def RowsM (r : List Int) (L : List (List Int)) : Prop := ∀ l ∈ L, l = [] ∨ l.length = r.length
/-- The least prices. -/
def leastL (r : List Int) (L : List (List Int)) : List Int := (List.range r.length).map fun c => r.getD c 0 + numP (gG (gains r L)) r.length L.length c
theorem leastL_len (r : List Int) (L : List (List Int)) : (leastL r L).length = r.length := by simp [leastL]
theorem leastL_get {r : List Int} {L : List (List Int)} {c : Nat} (hc : c < r.length) : (leastL r L).getD c 0 = r.getD c 0 + numP (gG (gains r L)) r.length L.length c := by
  rw [leastL, List.getD_eq_getElem?_getD, List.getElem?_map, List.getElem?_range hc]; rfl
section
variable {r : List Int} {L : List (List Int)}
theorem rowD (h : RowsM r L) (b : Nat) : L.getD b [] = [] ∨ (L.getD b []).length = r.length := by
  by_cases hb : b < L.length
  · rw [List.getD_eq_getElem?_getD, List.getElem?_eq_getElem hb]
    exact h _ (List.getElem_mem hb)
  · rw [List.getD_eq_getElem?_getD, List.getElem?_eq_none (by omega)]; exact .inl rfl
theorem gG_gains (h : RowsM r L) {b c : Nat} (hb : b < L.length) (hc : c < r.length) : gG (gains r L) b c = if L.getD b [] = [] then -1 else (L.getD b []).getD c 0 - r.getD c 0 := by
  have h1 := rowD h b
  have e : L.getD b [] = L[b] := by rw [List.getD_eq_getElem?_getD, List.getElem?_eq_getElem hb]; rfl
  rw [gG_at (l := gain r L[b]) (by rw [gains, List.getElem?_map, List.getElem?_eq_getElem hb]; rfl)]
  rw [e] at h1 ⊢
  clear e
  generalize L[b] = l at *
  rw [gain]
  by_cases e : l = []
  · rw [if_pos e, if_pos e, List.getD_eq_getElem?_getD, List.getElem?_map, List.getElem?_eq_getElem hc]; rfl
  · rw [if_neg e, if_neg e]
    have h2 : l.length = r.length := by
      rcases h1 with h1 | h1
      · exact absurd h1 e
      · exact h1
    rw [List.getD_eq_getElem?_getD, List.getD_eq_getElem?_getD, List.getD_eq_getElem?_getD, List.getElem?_zipWith, List.getElem?_eq_getElem hc, List.getElem?_eq_getElem (show c < l.length by omega)]
    rfl
/-- Prices at which all who must have can are not below the least ones. -/
theorem hall_num {q : List Int} (h : RowsM r L) (hle : LeP r q) (hq : HallP L q) {k : Nat} (hk : k < r.length) : r.getD k 0 + numP (gG (gains r L)) r.length L.length k ≤ q.getD k 0 := by
  obtain ⟨A, hA⟩ := hq
  have h0 := num_hall (G := gG (gains r L)) (m := r.length) (n := L.length) (d := fun c => q.getD c 0 - r.getD c 0) (u := fun b => gainD (L.getD b []) q) (A := A)
    (fun c hc => by have := hle.2 c hc; show 0 ≤ q.getD c 0 - r.getD c 0; omega) (fun b _ => gain_nonneg)
    (fun b hb c hc => by
      show gG (gains r L) b c ≤ gainD (L.getD b []) q + (q.getD c 0 - r.getD c 0)
      rw [gG_gains h hb hc]
      have h1 := hle.2 c hc
      have h2 := gain_nonneg (b := L.getD b []) (p := q)
      rcases rowD h b with e | e
      · rw [if_pos e]; omega
      · by_cases e0 : L.getD b [] = []
        · rw [if_pos e0]; omega
        · rw [if_neg e0]
          have h3 := gap_le (b := L.getD b []) (p := q) (k := c) (by omega)
          unfold gapD at h3
          omega) hA.inj
    (fun b hb c e => by
      obtain ⟨h1, h2⟩ := mem_itemsN.1 (hA.ok b hb c e)
      have h3 : L.getD b [] ≠ [] := fun e0 => by rw [e0] at h1; simp at h1
      have h4 : (L.getD b []).length = r.length := by
        rcases rowD h b with e0 | e0
        · exact absurd e0 h3
        · exact e0
      refine ⟨by omega, ?_⟩
      show gG (gains r L) b c = gainD (L.getD b []) q + (q.getD c 0 - r.getD c 0)
      rw [gG_gains h hb (by omega), if_neg h3]
      unfold gapD at h2
      omega)
    (fun b hb e => by
      show gainD (L.getD b []) q = 0
      have h1 := gain_nonneg (b := L.getD b []) (p := q)
      by_cases h2 : 0 < gainD (L.getD b []) q
      · obtain ⟨c, hc⟩ := hA.must b hb h2
        rw [e] at hc; cases hc
      · omega) hk
  omega
theorem least_hall (h : RowsM r L) : HallP L (leastL r L) := by
  obtain ⟨A, hA, hw⟩ := best_ex (G := gG (gains r L)) (m := r.length) L.length topP
  have hw : wtN (gG (gains r L)) A L.length = bestV (gG (gains r L)) r.length L.length := hw
  have hgap : ∀ b, b < L.length → L.getD b [] ≠ [] → ∀ c, c < r.length → gapD (L.getD b []) (leastL r L) c = gG (gains r L) b c - numP (gG (gains r L)) r.length L.length c := fun b hb hne c hc => by
    rw [gapD, leastL_get hc, gG_gains h hb hc, if_neg hne]; omega
  have hgn : ∀ b, b < L.length → L.getD b [] ≠ [] → gainD (L.getD b []) (leastL r L) = bidP (gG (gains r L)) r.length L.length b := fun b hb hne => by
    have hl : (L.getD b []).length = r.length := by
      rcases rowD h b with e0 | e0
      · exact absurd e0 hne
      · exact e0
    rw [gainD, bidP, hl]
    exact top_congr fun k hk => hgap b hb hne k hk
  refine ⟨A, hA.inj, fun b hb c e => ?_, fun b hb hg => ?_⟩
  · obtain ⟨h1, _, h2⟩ := hA.ok b hb c e
    have hne : L.getD b [] ≠ [] := fun e0 => by
      rw [gG_gains h hb h1, if_pos e0] at h2; omega
    have hl : (L.getD b []).length = r.length := by
      rcases rowD h b with e0 | e0
      · exact absurd e0 hne
      · exact e0
    refine mem_itemsN.2 ⟨by omega, ?_⟩
    have h3 := bid_at hA hw hb
    rw [e] at h3
    rw [hgap b hb hne c h1, hgn b hb hne, h3]; rfl
  · have hne : L.getD b [] ≠ [] := fun e0 => by
      rw [e0] at hg
      exact absurd hg (by show ¬ 0 < topN _ 0; simp [topN])
    cases e : A b with
    | some c => exact ⟨c, rfl⟩
    | none =>
      have h3 := bid_at hA hw hb
      rw [hgn b hb hne, h3, e] at hg
      simp [gainO] at hg
theorem least_is (h : RowsM r L) : IsLeast r L (leastL r L) :=
  ⟨⟨(leastL_len r L).symm, fun c hc => by rw [leastL_get hc]; have := num_nonneg (G := gG (gains r L)) (m := r.length) (n := L.length) c; omega⟩, least_hall h,
    fun q hq hh => ⟨(leastL_len r L).trans hq.1, fun c hc => by rw [leastL_len] at hc; rw [leastL_get hc]; exact hall_num h hq hh hc⟩⟩
theorem least_eq (h : RowsM r L) {p : List Int} (hp : IsLeast r L p) : p = leastL r L := least_one hp (least_is h)
end

/-! What follows. -/
section
variable {r r' : List Int} {L L' : List (List Int)} {q : List Int}
/-- Without a bidder no price is higher. -/
theorem least_le (hr : RowsM r L) (hr' : RowsM r L') (h1 : ∀ q, HallP L q → HallP L' q) : LeP (leastL r L') (leastL r L) := (least_is hr').least _ (least_is hr).le (h1 _ (least_is hr).hall)
theorem hall_less {i : Nat} (h : HallP L q) : HallP (L.set i []) q := by
  obtain ⟨A, hA⟩ := h
  have hget : ∀ b, (L.set i []).getD b [] = if b = i then [] else L.getD b [] := fun b => by
    rw [List.getD_eq_getElem?_getD, List.getElem?_set, List.getD_eq_getElem?_getD]
    by_cases e : i = b
    · rw [if_pos e, if_pos e.symm]
      split <;> rfl
    · rw [if_neg e, if_neg fun h => e h.symm]
  refine ⟨fun b => if b = i then none else A b, fun b b' c hb hb' e1 e2 => ?_, fun b hb c e => ?_, fun b hb hg => ?_⟩
  · rw [List.length_set] at hb hb'
    by_cases h1 : b = i
    · simp only [if_pos h1] at e1; cases e1
    · by_cases h2 : b' = i
      · simp only [if_pos h2] at e2; cases e2
      · simp only [if_neg h1] at e1
        simp only [if_neg h2] at e2
        exact hA.inj b b' c hb hb' e1 e2
  · rw [List.length_set] at hb
    by_cases h1 : b = i
    · simp only [if_pos h1] at e; cases e
    · simp only [if_neg h1] at e
      rw [hget, if_neg h1]; exact hA.ok b hb c e
  · rw [List.length_set] at hb
    rw [hget] at hg
    by_cases h1 : b = i
    · rw [if_pos h1] at hg
      exact absurd hg (by show ¬ 0 < topN _ 0; simp [topN])
    · rw [if_neg h1] at hg
      simp only [if_neg h1]; exact hA.must b hb hg
/-- Where all who must have can at the reserves. -/
theorem least_here (hr : RowsM r L) (h : HallP L r) : leastL r L = r := ((least_is hr).least _ (LeP.refl r) h).antisymm (least_is hr).le
/-- One bids alone. -/
theorem hall_alone {i : Nat} (h : ∀ b, b ≠ i → L.getD b [] = []) : HallP L q := by
  have hn : ∀ b, b ≠ i → ¬ 0 < gainD (L.getD b []) q := fun b hb hg => by
    rw [h b hb] at hg
    exact absurd hg (by show ¬ 0 < topN _ 0; simp [topN])
  by_cases hg : 0 < gainD (L.getD i []) q
  · obtain ⟨k, hk⟩ := gain_at hg
    refine ⟨fun b => if b = i then some k else none, fun b b' c _ _ e1 e2 => ?_, fun b hb c e => ?_, fun b hb hg2 => ?_⟩
    · by_cases h1 : b = i
      · by_cases h2 : b' = i
        · omega
        · simp only [if_neg h2] at e2; cases e2
      · simp only [if_neg h1] at e1; cases e1
    · by_cases h1 : b = i
      · simp only [if_pos h1] at e; cases e; rw [h1]; exact hk
      · simp only [if_neg h1] at e; cases e
    · by_cases h1 : b = i
      · exact ⟨k, if_pos h1⟩
      · exact absurd hg2 (hn b h1)
  · refine ⟨fun _ => none, fun b b' c _ _ e1 _ => (nomatch e1), fun b hb c e => (nomatch e), fun b hb hg2 => ?_⟩
    by_cases h1 : b = i
    · rw [h1] at hg2; exact absurd hg2 hg
    · exact absurd hg2 (hn b h1)
/-- Nobody must have where no price is below what is said. -/
theorem hall_top (h : ∀ l ∈ L, ∀ k, k < l.length → gapD l q k ≤ 0) : HallP L q := by
  refine ⟨fun _ => none, fun b b' c _ _ e1 _ => (nomatch e1), fun b hb c e => (nomatch e), fun b hb hg => ?_⟩
  have h1 : gainD (L.getD b []) q ≤ 0 := gain_le (Int.le_refl _) fun k hk => h _ (by
    rw [List.getD_eq_getElem?_getD, List.getElem?_eq_getElem hb]; exact List.getElem_mem hb) k hk
  omega
end
section
variable {G G' : Nat → Nat → Int} {m n : Nat}
end
end Go.Proofs.YtdckoaljcklmhaaGreatDoor


namespace Go.Proofs.YtdckoaljcklmhaaGreatDoor
set_option linter.unusedVariables false

def graphP (L : List (List Int)) (p : List Int) : List (List Int) := L.map fun l => if gainD l p = 0 then [] else itemsD l p
/-- Who must have. -/
def mustP (L : List (List Int)) (p : List Int) : List Int := upto L.length fun b => decide (gainD (L.getD b []) p ≠ 0)
def farL (l p S : List Int) : Int := ((List.range p.length).filter fun (j : Nat) => decide ((j : Int) ∉ S)).foldl (fun a j => min a (gainD l p - gapD l p j)) (gainD l p)
def minL : List Int → Int
  | [] => 0
  | a :: l => l.foldl min a
/-- How far it goes. -/
def byL (L : List (List Int)) (p S : List Int) : Int := minL ((withinL (graphP L p) (mustP L p) S).map fun b => farL (L.getD b.toNat []) p S)
def upL (p S : List Int) (z : Int) : List Int := (List.range p.length).map fun (c : Nat) => p.getD c 0 + if (c : Int) ∈ S then z else 0
def fewS (L : List (List Int)) (p : List Int) : Option (List Int) := fewP (graphP L p) p.length (mustP L p)
/-- A step. -/
def stepL (L : List (List Int)) (p : List Int) : List Int := match fewS L p with
  | none => p
  | some S => upL p S (byL L p S)
def stepF (L : List (List Int)) (p : List Int) : Bool := (fewS L p).isSome

theorem foldmin_le : ∀ (l : List Int) (a : Int), l.foldl min a ≤ a
  | [], a => Int.le_refl _
  | b :: l, a => Int.le_trans (foldmin_le l _) (Int.min_le_left _ _)
theorem foldmin_mem : ∀ (l : List Int) (a : Int), ∀ x ∈ l, l.foldl min a ≤ x
  | b :: l, a, x, h => by
    rw [List.foldl_cons]
    rcases List.mem_cons.1 h with rfl | h
    · exact Int.le_trans (foldmin_le l _) (Int.min_le_right _ _)
    · exact foldmin_mem l _ x h
theorem foldmin_is : ∀ (l : List Int) (a : Int), l.foldl min a = a ∨ l.foldl min a ∈ l
  | [], a => .inl rfl
  | b :: l, a => by
    rw [List.foldl_cons]
    rcases foldmin_is l (min a b) with h | h
    · rw [h]
      rcases Int.le_total a b with h2 | h2
      · exact .inl (Int.min_eq_left h2)
      · exact .inr (by rw [Int.min_eq_right h2]; simp)
    · exact .inr (List.mem_cons_of_mem _ h)
theorem minL_le {l : List Int} {x : Int} (h : x ∈ l) : minL l ≤ x := by
  cases l with
  | nil => cases h
  | cons a l =>
    rcases List.mem_cons.1 h with rfl | h
    · exact foldmin_le l _
    · exact foldmin_mem l _ _ h
theorem minL_mem {l : List Int} (h : l ≠ []) : minL l ∈ l := by
  cases l with
  | nil => exact absurd rfl h
  | cons a l =>
    rcases foldmin_is l a with h1 | h1
    · show l.foldl min a ∈ _; rw [h1]; simp
    · exact List.mem_cons_of_mem _ h1
theorem far_fold (F : Nat → Int) : ∀ (l : List Nat) (a : Int), l.foldl (fun a j => min a (F j)) a = (l.map F).foldl min a
  | [], _ => rfl
  | j :: l, a => by rw [List.foldl_cons, List.map_cons, List.foldl_cons, far_fold F l]
section
variable {L : List (List Int)} {p q S l : List Int}
theorem far_eq : farL l p S = minL (gainD l p :: ((List.range p.length).filter fun (j : Nat) => decide ((j : Int) ∉ S)).map fun j => gainD l p - gapD l p j) := far_fold _ _ _
theorem far_gain : farL l p S ≤ gainD l p := by rw [far_eq]; exact minL_le (by simp)
theorem far_other {j : Nat} (hj : j < p.length) (hS : (j : Int) ∉ S) : farL l p S ≤ gainD l p - gapD l p j := by
  rw [far_eq]
  refine minL_le (List.mem_cons_of_mem _ (List.mem_map.2 ⟨j, List.mem_filter.2 ⟨List.mem_range.2 hj, decide_eq_true hS⟩, rfl⟩))
/-- Far enough: what one would have lies in the set. -/
theorem far_pos (hl : l.length = p.length) (hg : 0 < gainD l p) (hin : ∀ k ∈ itemsD l p, k ∈ S) : 1 ≤ farL l p S := by
  have h := minL_mem (l := gainD l p :: ((List.range p.length).filter fun (j : Nat) => decide ((j : Int) ∉ S)).map fun j => gainD l p - gapD l p j) (by simp)
  rw [← far_eq] at h
  rcases List.mem_cons.1 h with h | h
  · omega
  · obtain ⟨j, hj, e⟩ := List.mem_map.1 h
    obtain ⟨h1, h2⟩ := List.mem_filter.1 hj
    have h1 := List.mem_range.1 h1
    have h2 := of_decide_eq_true h2
    have h3 := gap_le (b := l) (p := p) (k := j) (by omega)
    have h4 : gapD l p j ≠ gainD l p := fun e => h2 (hin j (List.mem_map.2 ⟨j, mem_itemsN.2 ⟨by omega, e⟩, rfl⟩))
    omega
theorem graph_get (b : Nat) : (graphP L p).getD b [] = if gainD (L.getD b []) p = 0 then [] else itemsD (L.getD b []) p := by
  rw [graphP, List.getD_eq_getElem?_getD, List.getElem?_map, List.getD_eq_getElem?_getD]
  cases L[b]? with
  | none => simp [gainD, topN]
  | some l => rfl
theorem graph_len : (graphP L p).length = L.length := by simp [graphP]
theorem mem_mustP {b : Nat} : (b : Int) ∈ mustP L p ↔ b < L.length ∧ gainD (L.getD b []) p ≠ 0 := by
  rw [mustP, mem_upto_nat, decide_eq_true_eq]
theorem must_rises : Rises (graphP L p).length (mustP L p) := by rw [graph_len]; exact upto_rises _ _
theorem items_rises (h : l = [] ∨ l.length = p.length) : Rises p.length (itemsD l p) := by
  refine ⟨fun x hx => ?_, ?_⟩
  · obtain ⟨k, hk, rfl⟩ := List.mem_map.1 hx
    have := (mem_itemsN.1 hk).1
    rcases h with rfl | h
    · simp at this
    · omega
  · exact List.pairwise_map.2 (items_sorted.imp fun h => by omega)
theorem graph_check (hrow : RowsM p L) (hm : p.length ≤ 8) (hn : L.length ≤ 8) : checkG (graphP L p) p.length = true := by
  refine checkG_iff.2 ⟨by omega, by omega, by rw [graph_len]; exact hn, fun w hw => ?_⟩
  obtain ⟨l, hl, rfl⟩ := List.mem_map.1 hw
  show Rises _ (if gainD l p = 0 then [] else itemsD l p)
  split
  · exact rises_nil _
  · exact items_rises (hrow l hl)
/-- One of those who want nothing but the set. -/
theorem within_at {b : Int} (h : b ∈ withinL (graphP L p) (mustP L p) S) : ∃ i : Nat, b = i ∧ i < L.length ∧ 0 < gainD (L.getD i []) p ∧ ∀ k ∈ itemsD (L.getD i []) p, k ∈ S := by
  obtain ⟨h1, h2⟩ := mem_within.1 h
  obtain ⟨i, hi, _, rfl⟩ := mem_upto.1 h1
  have h3 := (mem_mustP.1 h1).2
  have h4 := gain_nonneg (b := L.getD i []) (p := p)
  refine ⟨i, rfl, hi, by omega, fun k hk => h2 k ?_⟩
  rw [Int.toNat_natCast, graph_get, if_neg h3]; exact hk
theorem upL_len (p S : List Int) (z : Int) : (upL p S z).length = p.length := by simp [upL]
theorem upL_get {z : Int} {c : Nat} (hc : c < p.length) : (upL p S z).getD c 0 = p.getD c 0 + if (c : Int) ∈ S then z else 0 := by
  rw [upL, List.getD_eq_getElem?_getD, List.getElem?_map, List.getElem?_range hc]; rfl
theorem row_in (hrow : RowsM p L) {i : Nat} (hg : 0 < gainD (L.getD i []) p) : (L.getD i []).length = p.length := by
  rcases rowD hrow i with e | e
  · rw [e] at hg
    exact absurd hg (by show ¬ 0 < topN _ 0; simp [topN])
  · exact e
theorem by_le {b : Int} (h : b ∈ withinL (graphP L p) (mustP L p) S) : byL L p S ≤ farL (L.getD b.toNat []) p S := minL_le (List.mem_map.2 ⟨b, h, rfl⟩)
theorem few_in (h : fewS L p = some S) : withinL (graphP L p) (mustP L p) S ≠ [] := fun e => by
  have h1 := of_decide_eq_true (few_some h).is.few
  rw [e] at h1
  simp at h1
theorem few_set (hrow : RowsM p L) (h : fewS L p = some S) : S ≠ [] := fun e => by
  obtain ⟨b, hb⟩ := List.exists_mem_of_ne_nil _ (few_in h)
  obtain ⟨i, rfl, hi, hg, hin⟩ := within_at hb
  obtain ⟨k, hk⟩ := gain_at hg
  have := hin k (List.mem_map.2 ⟨k, hk, rfl⟩)
  rw [e] at this
  cases this
theorem by_pos (hrow : RowsM p L) (h : fewS L p = some S) : 1 ≤ byL L p S := by
  have h1 := minL_mem (l := (withinL (graphP L p) (mustP L p) S).map fun b => farL (L.getD b.toNat []) p S) (fun e => few_in h (List.map_eq_nil_iff.1 e))
  obtain ⟨b, hb, e⟩ := List.mem_map.1 h1
  obtain ⟨i, rfl, hi, hg, hin⟩ := within_at hb
  rw [byL, ← e, Int.toNat_natCast]
  exact far_pos (row_in hrow hg) hg hin
/-- No further than any prices at which all who must have can. -/
theorem step_le (hrow : RowsM p L) (h : fewS L p = some S) (hle : LeP p q) (hq : HallP L q) : LeP (upL p S (byL L p S)) q := by
  obtain ⟨A, hA⟩ := hq
  have hb := few_some h
  obtain ⟨z, hz⟩ : ∃ z, byL L p S = z := ⟨_, rfl⟩
  rw [hz]
  refine ⟨(upL_len _ _ _).trans hle.1, fun c hc => ?_⟩
  rw [upL_len] at hc
  rw [upL_get hc]
  refine Int.not_lt.1 fun hlt => ?_
  have hcS : (c : Int) ∈ S := by
    refine Classical.byContradiction fun hn => ?_
    rw [if_neg hn] at hlt
    have := hle.2 c hc
    omega
  rw [if_pos hcS] at hlt
  -- the items of the set that would be dearer
  obtain ⟨T, hT⟩ : ∃ T, S.filter (fun k => decide (q.getD k.toNat 0 < p.getD k.toNat 0 + z)) = T := ⟨_, rfl⟩
  have hmT : ∀ k : Nat, (k : Int) ∈ T ↔ (k : Int) ∈ S ∧ q.getD k 0 < p.getD k 0 + z := fun k => by
    rw [← hT, List.mem_filter, decide_eq_true_eq, Int.toNat_natCast]
  have hTs : T.Sublist S := by rw [← hT]; exact List.filter_sublist
  have hTn : T ≠ [] := List.ne_nil_of_mem ((hmT c).2 ⟨hcS, hlt⟩)
  have hpart := few_part hb hTs hTn
  obtain ⟨V, hV⟩ : ∃ V, (withinL (graphP L p) (mustP L p) S).filter (fun i => wantAny ((graphP L p).getD i.toNat []) T) = V := ⟨_, rfl⟩
  rw [hV] at hpart
  have hVn : V.Nodup := by
    rw [← hV]
    exact ((nodup_of_rises (within_rises must_rises))).sublist List.filter_sublist
  have hclaim : ∀ b ∈ V, ∃ i c : Nat, b = i ∧ i < L.length ∧ A i = some c ∧ (c : Int) ∈ T := fun b hbV => by
    rw [← hV] at hbV
    obtain ⟨hbW, hany⟩ := List.mem_filter.1 hbV
    have hfar := by_le hbW
    obtain ⟨i, rfl, hi, hg, hin⟩ := within_at hbW
    rw [Int.toNat_natCast] at hfar hany
    rw [hz] at hfar
    have hl := row_in hrow hg
    rw [wantAny, List.any_eq_true] at hany
    obtain ⟨k0, hk0T, hk0⟩ := hany
    have hk0 := of_decide_eq_true hk0
    rw [graph_get, if_neg (by omega)] at hk0
    obtain ⟨k, hk, rfl⟩ := List.mem_map.1 hk0
    obtain ⟨hk1, hk2⟩ := mem_itemsN.1 hk
    have hk3 := ((hmT k).1 hk0T).2
    have hfg := far_gain (l := L.getD i []) (p := p) (S := S)
    have hgq := gap_le (b := L.getD i []) (p := q) hk1
    have hgt : gainD (L.getD i []) p - z < gainD (L.getD i []) q := by
      unfold gapD at hk2 hgq
      omega
    obtain ⟨c, hc⟩ := hA.must i hi (by omega)
    obtain ⟨hc1, hc2⟩ := mem_itemsN.1 (hA.ok i hi c hc)
    have hcp := hle.2 c (by omega)
    have hgc := gap_le (b := L.getD i []) (p := p) hc1
    refine ⟨i, c, rfl, hi, hc, (hmT c).2 ⟨Classical.byContradiction fun hn => ?_, Int.not_le.1 fun hn => ?_⟩⟩
    · have h1 := far_other (l := L.getD i []) (p := p) (S := S) (show c < p.length by omega) hn
      unfold gapD at hc2 h1 hgc
      omega
    · unfold gapD at hc2 hgc
      omega
  have hmap : (V.map fun b => match A b.toNat with | some c => (c : Int) | none => -1).Nodup := by
    refine List.pairwise_map.2 (hVn.imp_of_mem fun {b b'} hb hb' hne e => hne ?_)
    obtain ⟨i, c, rfl, hi, hc, _⟩ := hclaim b hb
    obtain ⟨i', c', rfl, hi', hc', _⟩ := hclaim b' hb'
    rw [Int.toNat_natCast, Int.toNat_natCast, hc, hc'] at e
    have e : (c : Int) = c' := e
    have e2 : c = c' := by omega
    rw [hA.inj i i' c hi hi' hc (e2 ▸ hc')]
  have hlen := nodup_sub hmap (b := T) fun x hx => by
    obtain ⟨b, hb, rfl⟩ := List.mem_map.1 hx
    obtain ⟨i, c, rfl, hi, hc, hcT⟩ := hclaim b hb
    rw [Int.toNat_natCast, hc]; exact hcT
  rw [List.length_map] at hlen
  omega
/-- Where no items are too few all who must have can. -/
theorem few_hall (hrow : RowsM p L) (hm : p.length ≤ 8) (hn : L.length ≤ 8) (h : fewS L p = none) : HallP L p := by
  have hc := graph_check hrow hm hn
  have hs := must_rises (L := L) (p := p)
  have h1 := few_not hc hs
  rw [show fewP (graphP L p) p.length (mustP L p) = none from h] at h1
  have h2 : allB (graphP L p) p.length (mustP L p) = true := by
    cases h3 : allB (graphP L p) p.length (mustP L p) with
    | true => rfl
    | false => rw [h3] at h1; cases h1
  have h3 := of_decide_eq_true h2
  rw [← rowsG_len (graphP L p) (mustP L p)] at h3
  obtain ⟨ps, hp1, hp2, hp3⟩ := (full_iff (rows_check hc hs)).1 h3
  have hlen : ps.length = (mustP L p).length := by
    have := congrArg List.length hp1
    rwa [List.length_map, rowsG_len] at this
  have hrow2 : ∀ i (hi : i < (mustP L p).length), ∃ b : Nat, (mustP L p)[i] = b ∧ b < L.length ∧ gainD (L.getD b []) p ≠ 0 ∧ ∃ k : Nat, (ps[i]'(by omega)).2 = k ∧ k ∈ itemsN (L.getD b []) p := fun i hi => by
    have hmem := List.getElem_mem hi
    obtain ⟨b, hb, _, e⟩ := mem_upto.1 hmem
    rw [e] at hmem
    have hg := (mem_mustP.1 hmem).2
    have h5 : (ps.map Prod.fst)[i]? = (rowsG (graphP L p) (mustP L p))[i]? := by rw [hp1]
    rw [rowsG, List.getElem?_map, List.getElem?_map, List.getElem?_eq_getElem hi, List.getElem?_eq_getElem (show i < ps.length by omega), Option.map_some, Option.map_some, e, Int.toNat_natCast, graph_get, if_neg hg] at h5
    have h6 := hp2 _ (List.getElem_mem (show i < ps.length by omega))
    rw [Option.some.inj h5] at h6
    obtain ⟨k, hk, ek⟩ := List.mem_map.1 h6
    exact ⟨b, e, hb, hg, k, ek.symm, hk⟩
  classical
  let A : Nat → Option Nat := fun b => if h : ∃ i : Nat, (mustP L p)[i]? = some (b : Int) then (ps[Classical.choose h]?).map fun x => x.2.toNat else none
  have hAeq : ∀ b c, A b = some c → ∃ i, ∃ hi : i < (mustP L p).length, (mustP L p)[i] = b ∧ (ps[i]'(by omega)).2 = c ∧ c ∈ itemsN (L.getD b []) p := fun b c e => by
    by_cases h : ∃ i : Nat, (mustP L p)[i]? = some (b : Int)
    · have ee : (if h : ∃ i : Nat, (mustP L p)[i]? = some (b : Int) then (ps[Classical.choose h]?).map fun x => x.2.toNat else none) = some c := e
      rw [dif_pos h] at ee
      have hs := Classical.choose_spec h
      generalize Classical.choose h = i at ee hs
      obtain ⟨hi, hb⟩ := List.getElem?_eq_some_iff.1 hs
      obtain ⟨b', e1, hb', hg, k, ek, hk⟩ := hrow2 i hi
      have e2 : b' = b := by omega
      subst e2
      rw [List.getElem?_eq_getElem (show i < ps.length by omega), Option.map_some, ek, Int.toNat_natCast] at ee
      cases ee
      exact ⟨i, hi, hb, ek, hk⟩
    · have e : (if h : ∃ i : Nat, (mustP L p)[i]? = some (b : Int) then (ps[Classical.choose h]?).map fun x => x.2.toNat else none) = some c := e
      rw [dif_neg h] at e; cases e
  refine ⟨A, fun b b' c hb hb' e1 e2 => ?_, fun b hb c e => (hAeq b c e).elim fun i hi => hi.elim fun _ h => h.2.2, fun b hb hg => ?_⟩
  · obtain ⟨i, hi, h5, h6, _⟩ := hAeq b c e1
    obtain ⟨j, hj, h7, h8, _⟩ := hAeq b' c e2
    have hij : i = j := by
      have hi2 : i < (ps.map Prod.snd).length := by rw [List.length_map]; omega
      have hj2 : j < (ps.map Prod.snd).length := by rw [List.length_map]; omega
      have heq : (ps.map Prod.snd)[i] = (ps.map Prod.snd)[j] := by rw [List.getElem_map, List.getElem_map, h6, h8]
      rcases Nat.lt_trichotomy i j with h | h | h
      · exact absurd heq (List.pairwise_iff_getElem.1 hp3 i j hi2 hj2 h)
      · exact h
      · exact absurd heq.symm (List.pairwise_iff_getElem.1 hp3 j i hj2 hi2 h)
    subst hij
    omega
  · have hmem : (b : Int) ∈ mustP L p := mem_mustP.2 ⟨hb, by omega⟩
    obtain ⟨i, hi, e⟩ := List.getElem_of_mem hmem
    have hex : ∃ i : Nat, (mustP L p)[i]? = some (b : Int) := ⟨i, by rw [List.getElem?_eq_getElem hi, e]⟩
    have hs := Classical.choose_spec hex
    show ∃ c, (if h : ∃ i : Nat, (mustP L p)[i]? = some (b : Int) then (ps[Classical.choose h]?).map fun x => x.2.toNat else none) = some c
    rw [dif_pos hex]
    obtain ⟨hi2, _⟩ := List.getElem?_eq_some_iff.1 hs
    exact ⟨_, by rw [List.getElem?_eq_getElem (by omega)]; rfl⟩
end
end Go.Proofs.YtdckoaljcklmhaaGreatDoor


namespace Go.Proofs.YtdckoaljcklmhaaGreatDoor
open Go.RowKit
set_option linter.unusedVariables false

def sumP (p : List Int) : Int := sumW (fun c => p.getD c 0) p.length
theorem sumP_le {p q : List Int} (h : LeP p q) : sumP p ≤ sumP q := by
  rw [sumP, sumP, ← h.1]; exact sum_le h.2
theorem sum_lt {f g : Nat → Int} : ∀ {n : Nat}, (∀ i, i < n → f i ≤ g i) → (∃ i, i < n ∧ f i < g i) → sumW f n < sumW g n
  | 0, _, h => by obtain ⟨i, hi, _⟩ := h; omega
  | n + 1, h, hx => by
    rw [sumW, sumW]
    obtain ⟨i, hi, hlt⟩ := hx
    have h1 := h n (by omega)
    by_cases e : i = n
    · subst e
      have := sum_le (f := f) (g := g) (n := i) fun j hj => h j (by omega)
      omega
    · have := sum_lt (n := n) (fun j hj => h j (by omega)) ⟨i, by omega, hlt⟩
      omega
section
variable {L : List (List Int)} {p q r S : List Int}
theorem stepL_some (h : fewS L p = some S) : stepL L p = upL p S (byL L p S) ∧ stepF L p = true := by rw [stepL, stepF, h]; exact ⟨rfl, rfl⟩
theorem stepL_none (h : fewS L p = none) : stepL L p = p ∧ stepF L p = false := by rw [stepL, stepF, h]; exact ⟨rfl, rfl⟩
theorem stepL_len : (stepL L p).length = p.length := by
  unfold stepL
  cases fewS L p with
  | none => rfl
  | some S => exact upL_len _ _ _
theorem few_rises (h : fewS L p = some S) : Rises p.length S := (few_some h).is.rises
/-- A step makes something dearer, and nothing cheaper. -/
theorem step_up (hrow : RowsM p L) (h : fewS L p = some S) : LeP p (stepL L p) ∧ ∃ c, c < p.length ∧ p.getD c 0 < (stepL L p).getD c 0 := by
  have hz := by_pos hrow h
  rw [(stepL_some h).1]
  refine ⟨⟨(upL_len _ _ _).symm, fun c hc => ?_⟩, ?_⟩
  · rw [upL_get hc]; split <;> omega
  · obtain ⟨x, hx⟩ := List.exists_mem_of_ne_nil _ (few_set hrow h)
    have h1 := (few_rises h).1 x hx
    obtain ⟨c, rfl⟩ : ∃ c : Nat, x = c := ⟨x.toNat, by omega⟩
    refine ⟨c, by omega, ?_⟩
    rw [upL_get (by omega), if_pos hx]; omega
theorem step_sum (hrow : RowsM p L) (h : fewS L p = some S) : sumP p < sumP (stepL L p) := by
  obtain ⟨h1, h2⟩ := step_up hrow h
  rw [sumP, sumP, stepL_len]
  exact sum_lt h1.2 h2
/-- Steps stay below all prices at which all who must have can. -/
theorem stepL_le (hrow : RowsM p L) (hle : LeP p q) (hq : HallP L q) : LeP (stepL L p) q := by
  cases h : fewS L p with
  | none => rw [(stepL_none h).1]; exact hle
  | some S => rw [(stepL_some h).1]; exact step_le hrow h hle hq
/-- Where there is no step any more. -/
theorem stepL_end (hr : RowsM r L) (hm : r.length ≤ 8) (hn : L.length ≤ 8) (h1 : LeP r p) (h2 : LeP p (leastL r L)) (h : stepF L p = false) : p = leastL r L := by
  have h3 : fewS L p = none := by
    cases h4 : fewS L p with
    | none => rfl
    | some S => rw [stepF, h4] at h; cases h
  have hrow : RowsM p L := fun l hl => by rw [← h1.1]; exact hr l hl
  exact least_eq hr ⟨h1, few_hall hrow (by rw [← h1.1]; exact hm) hn h3, fun q hq hh => h2.trans ((least_is hr).least q hq hh)⟩
/-- At most what anybody says, or the reserve. -/
theorem least_most {z : Int} (hr : RowsM r L) (h1 : ∀ x ∈ r, x ≤ z) (h2 : ∀ l ∈ L, ∀ x ∈ l, x ≤ z) : ∀ x ∈ leastL r L, x ≤ z := fun x hx => by
  obtain ⟨q, hq⟩ : ∃ q, q = List.replicate r.length z := ⟨_, rfl⟩
  have hget : ∀ c, c < r.length → q.getD c 0 = z := fun c hc => by rw [hq, List.getD_eq_getElem?_getD, List.getElem?_replicate, if_pos hc]; rfl
  have hle : LeP r q := ⟨by rw [hq]; simp, fun c hc => by
    rw [hget c hc, List.getD_eq_getElem?_getD, List.getElem?_eq_getElem hc]; exact h1 _ (List.getElem_mem hc)⟩
  have hh : HallP L q := hall_top fun l hl k hk => by
    have hkr : k < r.length := by
      rcases hr l hl with e | e
      · rw [e] at hk; simp at hk
      · omega
    rw [gapD, hget k hkr, List.getD_eq_getElem?_getD, List.getElem?_eq_getElem hk]
    have := h2 l hl _ (List.getElem_mem hk)
    simp only [Option.getD_some]; omega
  have h3 := (least_is hr).least q hle hh
  obtain ⟨c, hc, e⟩ := List.getElem_of_mem hx
  have h4 := h3.2 c hc
  rw [hget c (by rw [leastL_len] at hc; exact hc), List.getD_eq_getElem?_getD, List.getElem?_eq_getElem hc] at h4
  rw [← e]; exact h4
end

/-! What the functions answer. -/
/-- May prices be at this market? -/
def mayS (x : Mk) (p : List Int) : Bool := x.may && (decide (p.length = x.r.zs.length) && (List.range p.length).all fun c => decide (x.r.zs.getD c 0 ≤ p.getD c 0) && decide (p.getD c 0 ≤ 2000000))
theorem mayS_iff {x : Mk} {p : List Int} : mayS x p = true ↔ x.may = true ∧ p.length = x.r.zs.length ∧ ∀ c, c < p.length → x.r.zs.getD c 0 ≤ p.getD c 0 ∧ p.getD c 0 ≤ 2000000 := by
  simp [mayS]
def stepE (x : Mk) (p : List Int) : List Int := if mayS x p = true then stepL (Ls.all x.b) p else []
def stepB (x : Mk) (p : List Int) : Bool := mayS x p && stepF (Ls.all x.b) p
def stepErr (x : Mk) (p : List Int) : Int := if mayS x p = true then 0 else 1
def leastE (x : Mk) : List Int := if x.may = true then leastL x.r.zs (Ls.all x.b) else []
def StepC (f : Nat) : Prop := ∀ (x : Mk) (y : Ls) (w : World), x.Ok w → y.Ok w →
  Calls Tryz.prog f #[x.v, y.v] w fun e w' => ∃ A n c, e = .returned (.tuple #[.slice A n c, .bool (stepB x y.zs), .int .i64 (stepErr x y.zs)]) ∧ OwnI w' w.heap.size ⟨A, n, c, stepE x y.zs⟩ ∧ Below w.heap.size w w'
def LeastC (f : Nat) : Prop := ∀ (x : Mk) (w : World), x.Ok w →
  Calls Tryz.prog f #[x.v] w fun e w' => ∃ A n c, e = .returned (.tuple #[.slice A n c, .int .i64 x.err]) ∧ OwnI w' w.heap.size ⟨A, n, c, leastE x⟩ ∧ Below w.heap.size w w'
theorem may_rows {x : Mk} (h : x.may = true) : RowsM x.r.zs (Ls.all x.b) := fun l hl => by
  have := bidB_len (((mayM_iff _ _ _).1 h).2.2.1 l hl)
  rcases this with e | e
  · exact .inl e
  · exact .inr (by omega)
end Go.Proofs.YtdckoaljcklmhaaGreatDoor


namespace Go.Proofs.YtdckoaljcklmhaaGreatDoor
open Go.RowKit
set_option linter.unusedVariables false

section
variable {L : List (List Int)} {p q r S l : List Int}
/-- What all would have, those to whom none is as good too. -/
def wouldP (L : List (List Int)) (p : List Int) : List (List Int) := L.map fun l => itemsD l p
theorem would_len : (wouldP L p).length = L.length := by simp [wouldP]
theorem would_get (b : Nat) : (wouldP L p).getD b [] = itemsD (L.getD b []) p := by
  rw [wouldP, List.getD_eq_getElem?_getD, List.getElem?_map, List.getD_eq_getElem?_getD]
  cases L[b]? with
  | none => rfl
  | some l => rfl
theorem within_would : withinL (wouldP L p) (mustP L p) S = withinL (graphP L p) (mustP L p) S := by
  refine List.filter_congr fun i hi => ?_
  obtain ⟨b, hb, _, rfl⟩ := mem_upto.1 hi
  rw [Int.toNat_natCast, would_get, graph_get, if_neg (mem_mustP.1 hi).2]
theorem would_few : fewP (wouldP L p) p.length (mustP L p) = fewS L p := fewB_congr fun l _ => by rw [within_would]
theorem would_check (hrow : RowsM p L) (h0 : 1 ≤ p.length) (hm : p.length ≤ 8) (hn : L.length ≤ 8) : checkG (wouldP L p) p.length = true := by
  refine checkG_iff.2 ⟨by omega, by omega, by rw [would_len]; exact hn, fun w hw => ?_⟩
  obtain ⟨l, hl, rfl⟩ := List.mem_map.1 hw
  exact items_rises (hrow l hl)
theorem would_ok (hrow : RowsM p L) (h0 : 1 ≤ p.length) (hm : p.length ≤ 8) (hn : L.length ≤ 8) : nearOk (wouldP L p) p.length (mustP L p) = true := by
  have h := must_rises (L := L) (p := p)
  rw [graph_len] at h
  rw [nearOk, would_check hrow h0 hm hn, Bool.true_and, would_len]; exact decide_eq_true h

/-- The least way so far. -/
def byS (L : List (List Int)) (p S : List Int) (z : Int) (l : List Int) : Int := (withinL (wouldP L p) l S).foldl (fun a b => min a (farL (L.getD b.toNat []) p S)) z
theorem byS_snoc {z : Int} (b : Int) : byS L p S z (l ++ [b]) = if wantB ((wouldP L p).getD b.toNat []) S = true then min (byS L p S z l) (farL (L.getD b.toNat []) p S) else byS L p S z l := by
  rw [byS, withinL, List.filter_append, List.foldl_append]
  by_cases h : wantB ((wouldP L p).getD b.toNat []) S = true
  · rw [if_pos h, List.filter_cons, if_pos h]; rfl
  · rw [if_neg h, List.filter_cons, if_neg h]; rfl
theorem byS_all {z : Int} (h : fewS L p = some S) (hz : ∀ b, gainD (L.getD b []) p ≤ z) : byS L p S z (mustP L p) = byL L p S := by
  rw [byS, within_would, byL]
  have h1 := few_in h
  generalize withinL (graphP L p) (mustP L p) S = W at h1
  cases W with
  | nil => exact absurd rfl h1
  | cons a t =>
    rw [List.map_cons, minL, List.foldl_cons, Int.min_eq_right (Int.le_trans far_gain (hz _)), List.foldl_map]
/-- How far, as far as item j. -/
def farJ (l p S : List Int) (j : Nat) : Int := ((List.range j).filter fun (j : Nat) => decide ((j : Int) ∉ S)).foldl (fun a j => min a (gainD l p - gapD l p j)) (gainD l p)
theorem farJ_all : farJ l p S p.length = farL l p S := rfl
theorem farJ_succ (j : Nat) : farJ l p S (j + 1) = if (j : Int) ∈ S then farJ l p S j else min (farJ l p S j) (gainD l p - gapD l p j) := by
  rw [farJ, List.range_succ, List.filter_append, List.foldl_append]
  by_cases h : (j : Int) ∈ S
  · rw [if_pos h, List.filter_cons, if_neg (by simp [h])]; rfl
  · rw [if_neg h, List.filter_cons, if_pos (by simp [h])]; rfl

/-- So many steps. -/
def itS (L : List (List Int)) (p : List Int) : Nat → List Int
  | 0 => p
  | n + 1 => stepL L (itS L p n)
theorem itS_len : ∀ n, (itS L p n).length = p.length
  | 0 => rfl
  | n + 1 => by rw [itS, stepL_len, itS_len n]
theorem itS_rows (h : RowsM p L) (n : Nat) : RowsM (itS L p n) L := fun l hl => by rw [itS_len]; exact h l hl
theorem stepL_ge (h : RowsM p L) : LeP p (stepL L p) := by
  cases hf : fewS L p with
  | none => rw [(stepL_none hf).1]; exact LeP.refl _
  | some S => exact (step_up h hf).1
theorem itS_ge (h : RowsM p L) : ∀ n, LeP p (itS L p n)
  | 0 => LeP.refl _
  | n + 1 => (itS_ge h n).trans (stepL_ge (itS_rows h n))
theorem itS_le (h : RowsM p L) (hle : LeP p q) (hq : HallP L q) : ∀ n, LeP (itS L p n) q
  | 0 => hle
  | n + 1 => stepL_le (itS_rows h n) (itS_le h hle hq n) hq
theorem itS_sum (h : RowsM p L) {n : Nat} (hf : stepF L (itS L p n) = true) : sumP (itS L p n) < sumP (itS L p (n + 1)) := by
  obtain ⟨S, hS⟩ := Option.isSome_iff_exists.1 hf
  exact step_sum (itS_rows h n) hS
def topQ (m : Nat) : List Int := List.replicate m 2000000
theorem topQ_get {m c : Nat} (hc : c < m) : (topQ m).getD c 0 = 2000000 := by rw [topQ, List.getD_eq_getElem?_getD, List.getElem?_replicate, if_pos hc]; rfl
theorem topQ_hall {m : Nat} (hr : ∀ l ∈ L, l.length = 0 ∨ l.length = m) (h : ∀ l ∈ L, ∀ x ∈ l, x ≤ 1000000) : HallP L (topQ m) := hall_top fun l hl k hk => by
  have hk2 : k < m := by rcases hr l hl with e | e <;> omega
  rw [gapD, topQ_get hk2, List.getD_eq_getElem?_getD, List.getElem?_eq_getElem hk]
  have := h l hl _ (List.getElem_mem hk)
  simp only [Option.getD_some]; omega
theorem topQ_le (h : ∀ x ∈ p, x ≤ 2000000) : LeP p (topQ p.length) := ⟨by simp [topQ], fun c hc => by
  rw [topQ_get hc, List.getD_eq_getElem?_getD, List.getElem?_eq_getElem hc]; exact h _ (List.getElem_mem hc)⟩
theorem rows_len (h : RowsM p L) : ∀ l ∈ L, l.length = 0 ∨ l.length = p.length := fun l hl => by
  rcases h l hl with e | e
  · left; rw [e]; rfl
  · exact .inr e
theorem itS_top (hrow : RowsM p L) (h1 : mayPr p = true) (h2 : ∀ l ∈ L, ∀ x ∈ l, x ≤ 1000000) (n : Nat) : LeP (itS L p n) (topQ p.length) := by
  obtain ⟨_, _, h3⟩ := mayPr_iff.1 h1
  exact itS_le hrow (topQ_le fun x hx => (h3 x hx).2) (topQ_hall (rows_len hrow) h2) n
theorem itS_may (hrow : RowsM p L) (h1 : mayPr p = true) (h2 : ∀ l ∈ L, ∀ x ∈ l, x ≤ 1000000) (n : Nat) : mayPr (itS L p n) = true := by
  obtain ⟨h3, h4, h5⟩ := mayPr_iff.1 h1
  have ht := itS_top hrow h1 h2 n
  have hg := itS_ge hrow n
  refine mayPr_iff.2 ⟨by rw [itS_len]; exact h3, by rw [itS_len]; exact h4, fun z hz => ?_⟩
  obtain ⟨c, hc, e⟩ := List.getElem_of_mem hz
  have hc' : c < p.length := by rw [itS_len] at hc; exact hc
  have a := ht.2 c hc
  have b := hg.2 c hc'
  have d := (h5 _ (List.getElem_mem hc')).1
  rw [topQ_get hc'] at a
  rw [List.getD_eq_getElem?_getD, List.getElem?_eq_getElem hc, Option.getD_some] at a
  rw [List.getD_eq_getElem?_getD, List.getElem?_eq_getElem hc', List.getD_eq_getElem?_getD, List.getElem?_eq_getElem hc, Option.getD_some, Option.getD_some] at b
  rw [e] at a b
  omega

/-- What is gone through is what steps make, one behind the other. -/
def Walked (L : List (List Int)) (p : List Int) (z : List (List Int)) : Prop := ∀ i, i < z.length → stepF L (itS L p i) = true ∧ z[i]? = some (itS L p (i + 1))
theorem Walked.nil : Walked L p [] := fun i h => absurd h (by simp)
theorem Walked.snoc {z : List (List Int)} (h : Walked L p z) (hf : stepF L (itS L p z.length) = true) : Walked L p (z ++ [itS L p (z.length + 1)]) := fun i hi => by
  rw [List.length_append, List.length_singleton] at hi
  by_cases e : i = z.length
  · subst e
    exact ⟨hf, by rw [List.getElem?_append_right (Nat.le_refl _)]; simp⟩
  · obtain ⟨h1, h2⟩ := h i (by omega)
    exact ⟨h1, by rw [List.getElem?_append_left (by omega)]; exact h2⟩
theorem Walked.last {z : List (List Int)} (h : Walked L p z) : z.getLast?.getD p = itS L p z.length := by
  rcases Nat.eq_zero_or_pos z.length with e | e
  · rw [e, List.eq_nil_of_length_eq_zero e]; rfl
  · have h1 := (h (z.length - 1) (by omega)).2
    rw [List.getLast?_eq_getElem?, h1, show z.length - 1 + 1 = z.length by omega]; rfl

/-! Bidders who come in one by one. -/
def headL (L : List (List Int)) (k : Nat) : List (List Int) := L.take k ++ List.replicate (L.length - k) []
theorem headL_len {k : Nat} (hk : k ≤ L.length) : (headL L k).length = L.length := by
  rw [headL, List.length_append, List.length_take, List.length_replicate]; omega
theorem headL_all : headL L L.length = L := by rw [headL]; simp
theorem headL_at {k b : Nat} (hk : k ≤ L.length) : (headL L k)[b]? = if b < k then L[b]? else if b < L.length then some [] else none := by
  rw [headL]
  by_cases h : b < k
  · rw [if_pos h, List.getElem?_append_left (by rw [List.length_take]; omega), List.getElem?_take, if_pos h]
  · rw [if_neg h, List.getElem?_append_right (by rw [List.length_take]; omega), List.length_take, List.getElem?_replicate]
    by_cases h2 : b < L.length
    · rw [if_pos h2, if_pos (by omega)]
    · rw [if_neg h2, if_neg (by omega)]
theorem headL_set {k : Nat} (hk : k < L.length) : headL L k = (headL L (k + 1)).set k [] := by
  refine List.ext_getElem? fun b => ?_
  rw [List.getElem?_set, headL_at (by omega), headL_at (by omega), headL_len (by omega)]
  by_cases e : k = b
  · subst e
    rw [if_neg (by omega), if_pos hk, if_pos rfl]
  · rw [if_neg e]
    by_cases h : b < k
    · rw [if_pos h, if_pos (by omega)]
    · rw [if_neg h, if_neg (show ¬ b < k + 1 by omega)]
theorem headL_rows (h : RowsM r L) (k : Nat) : RowsM r (headL L k) := fun l hl => by
  rcases List.mem_append.1 hl with h1 | h1
  · exact h l (List.mem_of_mem_take h1)
  · exact .inl (List.eq_of_mem_replicate h1)
theorem headL_le (h : ∀ l ∈ L, ∀ x ∈ l, x ≤ 1000000) (k : Nat) : ∀ l ∈ headL L k, ∀ x ∈ l, x ≤ 1000000 := fun l hl => by
  rcases List.mem_append.1 hl with h1 | h1
  · exact h l (List.mem_of_mem_take h1)
  · rw [List.eq_of_mem_replicate h1]; intro x hx; cases hx
theorem headL_may {o : List Int} {k : Nat} (hk : k ≤ L.length) (h : mayM r L o = true) : mayM r (headL L k) o = true := by
  obtain ⟨h1, h2, h3, h4⟩ := (mayM_iff _ _ _).1 h
  refine (mayM_iff _ _ _).2 ⟨h1, by rw [headL_len hk]; exact h2, fun l hl => ?_, by rw [headL_len hk]; exact h4⟩
  rcases List.mem_append.1 hl with h5 | h5
  · exact h3 l (List.mem_of_mem_take h5)
  · rw [List.eq_of_mem_replicate h5]; rfl
theorem least_head0 (h : RowsM r L) : leastL r (headL L 0) = r := least_here (headL_rows h 0) (hall_alone (i := 0) fun b _ => by
  rw [List.getD_eq_getElem?_getD, headL_at (Nat.zero_le _), if_neg (by omega)]
  split <;> rfl)
theorem least_head_le (h : RowsM r L) {k : Nat} (hk : k < L.length) : LeP (leastL r (headL L k)) (leastL r (headL L (k + 1))) :=
  least_le (headL_rows h _) (headL_rows h _) fun q hq => by rw [headL_set hk]; exact hall_less hq
theorem rows_same (h : RowsM r L) (he : q.length = r.length) : RowsM q L := fun l hl => by rw [he]; exact h l hl
theorem least_ge (h : RowsM r L) : LeP r (leastL r L) := (least_is h).le
/-- One more has come in, and there is no step any more. -/
theorem least_head_step (h : RowsM r L) (hm : r.length ≤ 8) (hn : L.length ≤ 8) {k n : Nat} (hk : k < L.length) (he : stepF (headL L (k + 1)) (itS (headL L (k + 1)) (leastL r (headL L k)) n) = false) :
    itS (headL L (k + 1)) (leastL r (headL L k)) n = leastL r (headL L (k + 1)) := by
  have h1 := headL_rows h (k + 1)
  have h2 := rows_same h1 (leastL_len r (headL L k))
  exact stepL_end h1 hm (by rw [headL_len (by omega)]; exact hn) ((least_ge (headL_rows h k)).trans (itS_ge h2 n)) (itS_le h2 (least_head_le h hk) (least_is h1).hall n) he
end
end Go.Proofs.YtdckoaljcklmhaaGreatDoor

