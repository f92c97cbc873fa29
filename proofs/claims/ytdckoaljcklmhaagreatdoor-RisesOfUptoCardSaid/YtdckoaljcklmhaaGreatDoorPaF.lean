/-
  More of what follows of a search: everything for everybody; others left out; the first free item; whom nothing helps.
-/
import Derived.Test.YtdckoaljcklmhaaGreatDoorGrF
namespace Go.Proofs.YtdckoaljcklmhaaGreatDoor
set_option linter.unusedVariables false

theorem getD_set {l : List Int} {k j : Nat} {v d : Int} (hk : k < l.length) : (l.set k v).getD j d = if j = k then v else l.getD j d := by
  rw [List.getD_eq_getElem?_getD, List.getElem?_set]
  by_cases h : k = j
  · subst h; simp [hk]
  · rw [if_neg h, if_neg (fun h' => h h'.symm), List.getD_eq_getElem?_getD]
theorem getD_some {l : List Int} {p : Nat} {b : Int} (h : l[p]? = some b) (d : Int) : l.getD p d = b := by rw [List.getD_eq_getElem?_getD, h]; rfl
theorem getD_repl {m k : Nat} : (List.replicate m (-1 : Int)).getD k (-1) = -1 := by
  rw [List.getD_eq_getElem?_getD, List.getElem?_replicate]; split <;> rfl

/-- Who has an item; -1: nobody. -/
def holder (has : List Int) (k : Int) : Int := match has.findIdx? (fun x => decide (x = k)) with | some i => (i : Int) | none => -1
theorem holder_none {has : List Int} {k : Int} (h : holder has k = -1) : k ∉ has := by
  unfold holder at h
  cases hf : has.findIdx? (fun x => decide (x = k)) with
  | none =>
    intro hm
    have := List.findIdx?_eq_none_iff.1 hf k hm
    simp at this
  | some i => rw [hf] at h; simp only at h; omega
theorem holder_some {has : List Int} {k : Int} (h : holder has k ≠ -1) : ∃ b : Nat, holder has k = b ∧ b < has.length ∧ has.getD b (-1) = k := by
  unfold holder at h ⊢
  cases hf : has.findIdx? (fun x => decide (x = k)) with
  | none => rw [hf] at h; simp at h
  | some i =>
    obtain ⟨h1, h2, _⟩ := List.findIdx?_eq_some_iff_getElem.1 hf
    refine ⟨i, rfl, h1, ?_⟩
    rw [List.getD_eq_getElem?_getD, List.getElem?_eq_getElem h1]
    simpa using h2
theorem holder_of {g : List (List Int)} {M : Nat} {has : List Int} (f : Fit g M has) {b : Nat} {k : Int} (hb : b < has.length) (hk : has.getD b (-1) = k) (hn : k ≠ -1) : holder has k = b := by
  by_cases h : holder has k = -1
  · have hm := holder_none h
    rw [List.getD_eq_getElem?_getD, List.getElem?_eq_getElem hb] at hk
    exact absurd (hk ▸ List.getElem_mem hb) hm
  · obtain ⟨c, h1, h2, h3⟩ := holder_some h
    rw [h1]
    by_cases hc : b = c
    · rw [hc]
    · exact absurd (hk.trans h3.symm) (f.one b c hb h2 hc (by rw [hk]; exact hn))

/-- A search: who waits, by whom each item was come to, the item that was found. -/
structure St where
  q : List Int
  by_ : List Int
  f : Int
def St.vis (s : St) (k : Nat) : Prop := s.by_.getD k (-1) ≠ -1
instance (s : St) (k : Nat) : Decidable (s.vis k) := inferInstanceAs (Decidable (_ ≠ _))
/-- An item is come to. -/
def visitP (has : List Int) (on : Bool) (i : Int) (s : St) (k : Int) : St :=
  if s.f ≠ -1 ∨ s.by_.getD k.toNat (-1) ≠ -1 then s
  else if holder has k ≠ -1 then ⟨s.q ++ [holder has k], s.by_.set k.toNat i, -1⟩
  else if on = true then ⟨s.q, s.by_.set k.toNat i, -1⟩
  else ⟨s.q, s.by_.set k.toNat i, k⟩
def scanP (has : List Int) (on : Bool) (i : Int) (l : List Int) (s : St) : St := l.foldl (visitP has on i) s
def runP (g : List (List Int)) (has : List Int) (on : Bool) : Nat → Nat → St → St
  | 0, _, s => s
  | fuel + 1, n, s => if s.f = -1 ∧ n < s.q.length then runP g has on fuel (n + 1) (scanP has on (s.q.getD n 0) (g.getD (s.q.getD n 0).toNat []) s) else s
def startP (m : Nat) (from_ : Int) : St := ⟨[from_], List.replicate m (-1), -1⟩
def searchP (g : List (List Int)) (m : Nat) (has : List Int) (from_ : Int) (on : Bool) : St := runP g has on (m + 2) 0 (startP m from_)

/-- How many items were come to and are had. -/
def St.held (s : St) (has : List Int) (m : Nat) : Nat := (List.range m).countP fun k => decide (s.vis k) && decide (holder has (k : Int) ≠ -1)

/-- What is so all along a search. -/
structure Core (g : List (List Int)) (m : Nat) (has : List Int) (from_ : Int) (on : Bool) (s : St) : Prop where
  len : s.by_.length = m
  nodup : s.q.Nodup
  head : s.q[0]? = some from_
  rng : ∀ b ∈ s.q, 0 ≤ b ∧ b < g.length
  come : ∀ k : Nat, k < m → s.vis k → ∃ r : Nat, s.q[r]? = some (s.by_.getD k (-1)) ∧ (k : Int) ∈ g.getD (s.by_.getD k (-1)).toNat [] ∧ (holder has (k : Int) ≠ -1 → ∃ p : Nat, r < p ∧ s.q[p]? = some (holder has (k : Int)))
  wait : ∀ (p : Nat) (b : Int), 1 ≤ p → s.q[p]? = some b → ∃ k : Nat, k < m ∧ s.vis k ∧ has.getD b.toNat (-1) = k
  found : s.f = -1 ∨ ∃ k : Nat, k < m ∧ s.f = k ∧ s.vis k ∧ holder has (k : Int) = -1 ∧ on = false
  free : on = false → s.f = -1 → ∀ k : Nat, k < m → s.vis k → holder has (k : Int) ≠ -1
  cnt : s.q.length = 1 + s.held has m

theorem start_core {g : List (List Int)} {m : Nat} {has : List Int} {from_ : Int} (on : Bool) (h0 : 0 ≤ from_ ∧ from_ < g.length) : Core g m has from_ on (startP m from_) := by
  have hv : ∀ k, ¬ (startP m from_).vis k := fun k h => h getD_repl
  refine ⟨by simp [startP], by simp [startP], rfl, ?_, fun k _ h => absurd h (hv k), ?_, .inl rfl, fun _ _ k _ h => absurd h (hv k), ?_⟩
  · intro b hb
    rw [startP, List.mem_singleton] at hb
    rw [hb]; exact h0
  · intro p b hp hb
    have h1 := (List.getElem?_eq_some_iff.1 hb).1
    simp [startP] at h1
    omega
  · have : (startP m from_).held has m = 0 := by
      rw [St.held, List.countP_eq_zero]
      intro k hk
      simp [hv k]
    rw [this]; rfl

theorem count_set {m k : Nat} (hk : k < m) {p p' : Nat → Bool} (hp : p k = false) (hp' : p' k = true) (he : ∀ j, j ≠ k → p' j = p j) : (List.range m).countP p' = (List.range m).countP p + 1 := by
  rw [← count_or hk hp]
  refine List.countP_congr fun j _ => ?_
  by_cases h : j = k
  · subst h; simp [hp']
  · rw [he j h]; simp [h]

section
variable {g : List (List Int)} {m : Nat} {has : List Int} {from_ i : Int} {on : Bool} {s : St}

theorem vis_set {k j : Nat} (hl : s.by_.length = m) (hk : k < m) (hi : i ≠ -1) (q : List Int) (f : Int) : (St.mk q (s.by_.set k i) f).vis j ↔ j = k ∨ s.vis j := by
  unfold St.vis
  rw [getD_set (by omega)]
  by_cases h : j = k
  · simp [h, hi]
  · simp [h]
/-- What was come to stays so. -/
theorem visit_mono (has : List Int) (on : Bool) (k : Int) (hi : i ≠ -1) {j : Nat} (h : s.vis j) : (visitP has on i s k).vis j := by
  have hset : ∀ q f, (St.mk q (s.by_.set k.toNat i) f).vis j := fun q f => by
    unfold St.vis at h ⊢
    simp only
    rw [List.getD_eq_getElem?_getD, List.getElem?_set] at *
    by_cases h1 : k.toNat = j
    · rw [if_pos h1]
      by_cases h2 : k.toNat < s.by_.length
      · rw [if_pos h2]; exact hi
      · rw [if_neg h2]
        rw [List.getElem?_eq_none (by omega)] at h
        exact absurd rfl h
    · rw [if_neg h1]; exact h
  unfold visitP
  split
  · exact h
  · split
    · exact hset _ _
    · split <;> exact hset _ _
/-- An item that was come to: by whom, and it is one of its items. -/
theorem visit_core (fit : Fit g m has) (hf0 : has.getD from_.toNat (-1) = -1) (hc : Core g m has from_ on s) (hi : i ∈ s.q) {k : Int} (hk : 0 ≤ k ∧ k < m) (hki : k ∈ g.getD i.toNat []) : Core g m has from_ on (visitP has on i s k) := by
  unfold visitP
  by_cases h1 : s.f ≠ -1 ∨ s.by_.getD k.toNat (-1) ≠ -1
  · rw [if_pos h1]; exact hc
  rw [if_neg h1]
  have hfn : s.f = -1 := Decidable.of_not_not fun h => h1 (.inl h)
  have hnv : ¬ s.vis k.toNat := fun h => h1 (.inr h)
  obtain ⟨k, rfl⟩ : ∃ y : Nat, k = y := ⟨k.toNat, by omega⟩
  rw [Int.toNat_natCast] at hnv ⊢
  have hkm : k < m := by omega
  have hin : i ≠ -1 := by have := (hc.rng i hi).1; omega
  obtain ⟨r, hr⟩ := List.getElem?_of_mem hi
  have hrl := (List.getElem?_eq_some_iff.1 hr).1
  have hby : ∀ j, (s.by_.set k i).getD j (-1) = if j = k then i else s.by_.getD j (-1) := fun j => getD_set (by rw [hc.len]; exact hkm)
  by_cases h2 : holder has (k : Int) ≠ -1
  · rw [if_pos h2]
    obtain ⟨b, hb1, hb2, hb3⟩ := holder_some h2
    have hv : ∀ j, (St.mk (s.q ++ [holder has (k : Int)]) (s.by_.set k i) (-1)).vis j ↔ j = k ∨ s.vis j := fun j => vis_set hc.len hkm hin _ _
    have hbq : (b : Int) ∉ s.q := by
      intro hm
      obtain ⟨p, hp⟩ := List.getElem?_of_mem hm
      by_cases hp0 : p = 0
      · rw [hp0, hc.head] at hp
        have := Option.some.inj hp
        rw [this, Int.toNat_natCast, hb3] at hf0
        omega
      · obtain ⟨k', _, hv', hh⟩ := hc.wait p b (by omega) hp
        rw [Int.toNat_natCast, hb3] at hh
        have : k = k' := by omega
        subst this
        exact hnv hv'
    refine ⟨by simp [hc.len], ?_, ?_, ?_, ?_, ?_, .inl rfl, ?_, ?_⟩
    · rw [hb1]
      refine List.nodup_append.2 ⟨hc.nodup, by simp, fun a ha b' hb' => ?_⟩
      rw [List.mem_singleton.1 hb']
      exact fun he => hbq (he ▸ ha)
    · rw [List.getElem?_append_left (by omega)]; exact hc.head
    · intro x hx
      rcases List.mem_append.1 hx with hx | hx
      · exact hc.rng x hx
      · rw [List.mem_singleton.1 hx, hb1]
        have := fit.len
        omega
    · intro j hj hvj
      rw [hby j]
      rcases (hv j).1 hvj with rfl | hvj
      · rw [if_pos rfl]
        refine ⟨r, by rw [List.getElem?_append_left hrl]; exact hr, hki, fun _ => ⟨s.q.length, hrl, ?_⟩⟩
        simp
      · rw [if_neg (show ¬ j = k by intro he; rw [he] at hvj; exact hnv hvj)]
        obtain ⟨r', h3, h4, h5⟩ := hc.come j hj hvj
        refine ⟨r', by rw [List.getElem?_append_left (List.getElem?_eq_some_iff.1 h3).1]; exact h3, h4, fun hh => ?_⟩
        obtain ⟨p, h6, h7⟩ := h5 hh
        exact ⟨p, h6, by rw [List.getElem?_append_left (List.getElem?_eq_some_iff.1 h7).1]; exact h7⟩
    · intro p x hp hx
      by_cases hpl : p < s.q.length
      · rw [List.getElem?_append_left hpl] at hx
        obtain ⟨k', h3, h4, h5⟩ := hc.wait p x hp hx
        exact ⟨k', h3, (hv k').2 (.inr h4), h5⟩
      · rw [List.getElem?_append_right (by omega)] at hx
        have h0 : p - s.q.length = 0 := by have := (List.getElem?_eq_some_iff.1 hx).1; simp at this; omega
        rw [h0] at hx
        have hxb : holder has (k : Int) = x := by simpa using hx
        refine ⟨k, hkm, (hv k).2 (.inl rfl), ?_⟩
        rw [← hxb, hb1, Int.toNat_natCast]; exact hb3
    · intro hon _ j hj hvj
      rcases (hv j).1 hvj with rfl | hvj
      · exact h2
      · exact hc.free hon hfn j hj hvj
    · rw [List.length_append, List.length_singleton, hc.cnt]
      have := count_set (m := m) hkm (p := fun j => decide (s.vis j) && decide (holder has (j : Int) ≠ -1)) (p' := fun j => decide ((St.mk (s.q ++ [holder has (k : Int)]) (s.by_.set k i) (-1)).vis j) && decide (holder has (j : Int) ≠ -1))
        (by simp [hnv]) (by simp only [Bool.and_eq_true, decide_eq_true_eq]; exact ⟨(hv k).2 (.inl rfl), h2⟩) (fun j hj => by
          congr 1
          rw [decide_eq_decide, hv j]
          exact ⟨fun h => h.resolve_left hj, .inr⟩)
      unfold St.held
      omega
  · rw [if_neg h2]
    have h2' : holder has (k : Int) = -1 := Decidable.of_not_not h2
    have hv : ∀ f j, (St.mk s.q (s.by_.set k i) f).vis j ↔ j = k ∨ s.vis j := fun f j => vis_set hc.len hkm hin _ _
    have hcome : ∀ f, ∀ j : Nat, j < m → (St.mk s.q (s.by_.set k i) f).vis j → ∃ r : Nat, s.q[r]? = some ((s.by_.set k i).getD j (-1)) ∧ (j : Int) ∈ g.getD ((s.by_.set k i).getD j (-1)).toNat [] ∧ (holder has (j : Int) ≠ -1 → ∃ p : Nat, r < p ∧ s.q[p]? = some (holder has (j : Int))) := by
      intro f j hj hvj
      rw [hby j]
      rcases (hv f j).1 hvj with rfl | hvj
      · rw [if_pos rfl]
        exact ⟨r, hr, hki, fun hh => absurd h2' hh⟩
      · rw [if_neg (show ¬ j = k by intro he; rw [he] at hvj; exact hnv hvj)]
        exact hc.come j hj hvj
    have hwait : ∀ f, ∀ (p : Nat) (b : Int), 1 ≤ p → s.q[p]? = some b → ∃ j : Nat, j < m ∧ (St.mk s.q (s.by_.set k i) f).vis j ∧ has.getD b.toNat (-1) = j := fun f p b hp hb => by
      obtain ⟨k', h3, h4, h5⟩ := hc.wait p b hp hb
      exact ⟨k', h3, (hv f k').2 (.inr h4), h5⟩
    have hcnt : ∀ f, s.q.length = 1 + (St.mk s.q (s.by_.set k i) f).held has m := fun f => by
      rw [hc.cnt]
      congr 1
      unfold St.held
      refine List.countP_congr fun j _ => ?_
      simp only [Bool.and_eq_true, decide_eq_true_eq, hv f j]
      constructor
      · rintro ⟨h3, h4⟩; exact ⟨.inr h3, h4⟩
      · rintro ⟨h3, h4⟩
        rcases h3 with rfl | h3
        · exact absurd h2' h4
        · exact ⟨h3, h4⟩
    cases on
    · rw [if_neg (by simp)]
      exact ⟨by simp [hc.len], hc.nodup, hc.head, hc.rng, hcome _, hwait _, .inr ⟨k, hkm, rfl, (hv _ k).2 (.inl rfl), h2', rfl⟩, fun _ hh => by simp only at hh; omega, hcnt _⟩
    · rw [if_pos rfl]
      exact ⟨by simp [hc.len], hc.nodup, hc.head, hc.rng, hcome _, hwait _, .inl rfl, fun hh => by simp at hh, hcnt _⟩

theorem mem_of_vis_q (has : List Int) (on : Bool) (k : Int) {b : Int} (h : b ∈ s.q) : b ∈ (visitP has on i s k).q := by
  unfold visitP
  split
  · exact h
  · split
    · exact List.mem_append_left _ h
    · split <;> exact h
theorem visit_pre (has : List Int) (on : Bool) (k : Int) : s.q <+: (visitP has on i s k).q := by
  unfold visitP
  split
  · exact List.prefix_refl _
  · split
    · exact List.prefix_append _ _
    · split <;> exact List.prefix_refl _
theorem visit_stop (has : List Int) (on : Bool) (k : Int) (h : s.f ≠ -1) : visitP has on i s k = s := by
  unfold visitP
  rw [if_pos (.inl h)]
theorem scan_stop (has : List Int) (on : Bool) (l : List Int) (h : s.f ≠ -1) : scanP has on i l s = s := by
  induction l with
  | nil => rfl
  | cons k l ih => rw [scanP, List.foldl_cons, visit_stop has on k h]; exact ih
theorem scan_core (fit : Fit g m has) (hf0 : has.getD from_.toNat (-1) = -1) : ∀ (l : List Int) (s : St), Core g m has from_ on s → i ∈ s.q → (∀ k ∈ l, (0 ≤ k ∧ k < m) ∧ k ∈ g.getD i.toNat []) →
    Core g m has from_ on (scanP has on i l s) ∧ s.q <+: (scanP has on i l s).q ∧ (∀ j, s.vis j → (scanP has on i l s).vis j) ∧ ((scanP has on i l s).f = -1 → ∀ k ∈ l, (scanP has on i l s).vis k.toNat)
  | [], s, hc, hi, _ => ⟨hc, List.prefix_refl _, fun _ h => h, fun _ k hk => by simp at hk⟩
  | k :: l, s, hc, hi, hl => by
    have hin : i ≠ -1 := by have := (hc.rng i hi).1; omega
    obtain ⟨hk, hki⟩ := hl k (by simp)
    have h1 := visit_core fit hf0 hc hi hk hki
    obtain ⟨a1, a2, a3, a4⟩ := scan_core fit hf0 l (visitP has on i s k) h1 (mem_of_vis_q has on k hi) (fun x hx => hl x (by simp [hx]))
    refine ⟨a1, (visit_pre has on k).trans a2, fun j hj => a3 j (visit_mono has on k hin hj), fun hf x hx => ?_⟩
    rcases List.mem_cons.1 hx with rfl | hx
    · refine a3 _ ?_
      by_cases hs : s.f = -1
      · have hkl : x.toNat < s.by_.length := by rw [hc.len]; omega
        have hset : ∀ q f, (St.mk q (s.by_.set x.toNat i) f).vis x.toNat := fun q f => by
          unfold St.vis
          rw [getD_set hkl, if_pos rfl]; exact hin
        unfold visitP
        split
        · rename_i h; exact h.resolve_left (by simp [hs])
        · split
          · exact hset _ _
          · split <;> exact hset _ _
      · have h2 := scan_stop (i := i) has on (x :: l) hs
        rw [h2] at hf
        exact absurd hf hs
    · exact a4 hf x hx

/-- A search at its end. -/
structure Done (g : List (List Int)) (m : Nat) (has : List Int) (from_ : Int) (on : Bool) (s : St) : Prop where
  core : Core g m has from_ on s
  all : s.f = -1 → ∀ b ∈ s.q, ∀ k ∈ g.getD b.toNat [], s.vis k.toNat
theorem held_le (s : St) (has : List Int) (m : Nat) : s.held has m ≤ m := by
  have := List.countP_le_length (l := List.range m) (p := fun k => decide (s.vis k) && decide (holder has (k : Int) ≠ -1))
  rw [List.length_range] at this
  exact this
theorem run_done (hck : checkG g m = true) (fit : Fit g m has) (hf0 : has.getD from_.toNat (-1) = -1) : ∀ (fuel n : Nat) (s : St), Core g m has from_ on s → m + 1 < fuel + n → (s.f = -1 → ∀ (p : Nat) (b : Int), p < n → s.q[p]? = some b → ∀ k ∈ g.getD b.toNat [], s.vis k.toNat) →
    Done g m has from_ on (runP g has on fuel n s) ∧ s.q <+: (runP g has on fuel n s).q ∧ ∀ j, s.vis j → (runP g has on fuel n s).vis j
  | 0, n, s, hc, hn, ha => by
    refine ⟨⟨hc, fun hf b hb => ?_⟩, List.prefix_refl _, fun _ h => h⟩
    have hb' : b ∈ s.q := hb
    obtain ⟨p, hp⟩ := List.getElem?_of_mem hb'
    have h1 := (List.getElem?_eq_some_iff.1 hp).1
    have h2 := hc.cnt
    have h3 := held_le s has m
    exact ha hf p b (by omega) hp
  | fuel + 1, n, s, hc, hn, ha => by
    rw [runP]
    by_cases h : s.f = -1 ∧ n < s.q.length
    · rw [if_pos h]
      obtain ⟨hf, hnl⟩ := h
      have hg : s.q[n]? = some (s.q.getD n 0) := by rw [List.getD_eq_getElem?_getD, List.getElem?_eq_getElem hnl]; rfl
      generalize s.q.getD n 0 = b at hg
      have hbm : b ∈ s.q := List.mem_of_getElem? hg
      obtain ⟨hb0, hb1⟩ := hc.rng b hbm
      have hrs := (checkG_iff.1 hck).2.2.2 _ (getD_mem (g := g) (i := b.toNat) (by omega))
      obtain ⟨a1, a2, a3, a4⟩ := scan_core (i := b) fit hf0 (g.getD b.toNat []) s hc hbm (fun k hk => ⟨hrs.1 k hk, hk⟩)
      have ha' : (scanP has on b (g.getD b.toNat []) s).f = -1 → ∀ (p : Nat) (c : Int), p < n + 1 → (scanP has on b (g.getD b.toNat []) s).q[p]? = some c → ∀ k ∈ g.getD c.toNat [], (scanP has on b (g.getD b.toNat []) s).vis k.toNat := by
        intro hf2 p c hp hpc k hk
        have hpl : p < s.q.length := by omega
        have hq : s.q[p]? = some c := by
          obtain ⟨t, ht⟩ := a2
          rw [← ht, List.getElem?_append_left hpl] at hpc
          exact hpc
        by_cases he : p = n
        · subst he
          rw [hg] at hq
          cases Option.some.inj hq
          exact a4 hf2 k hk
        · exact a3 _ (ha hf p c (by omega) hq k hk)
      obtain ⟨b1, b2, b3⟩ := run_done hck fit hf0 fuel (n + 1) _ a1 (by omega) ha'
      exact ⟨b1, a2.trans b2, fun j hj => b3 j (a3 j hj)⟩
    · rw [if_neg h]
      refine ⟨⟨hc, fun hf b hb => ?_⟩, List.prefix_refl _, fun _ h => h⟩
      obtain ⟨p, hp⟩ := List.getElem?_of_mem hb
      have h1 := (List.getElem?_eq_some_iff.1 hp).1
      exact ha hf p b (by omega) hp
theorem search_done (hck : checkG g m = true) (fit : Fit g m has) (h0 : 0 ≤ from_ ∧ from_ < g.length) (hf0 : has.getD from_.toNat (-1) = -1) : Done g m has from_ on (searchP g m has from_ on) :=
  (run_done hck fit hf0 (m + 2) 0 _ (start_core on h0) (by omega) (fun _ p b hp => absurd hp (by omega))).1

end

/-- One way: who came to an item has it, and so on. -/
def augP (by_ : List Int) : Nat → Int → List Int → List Int
  | 0, _, out => out
  | fuel + 1, k, out => if k = -1 then out else augP by_ fuel (out.getD (by_.getD k.toNat (-1)).toNat (-1)) (out.set (by_.getD k.toNat (-1)).toNat k)

/-- Some that are shut in: what they may have is had by them. -/
def Shut (g : List (List Int)) (has : List Int) (R : Nat → Prop) (T : Int → Prop) : Prop := (∀ b, R b → ∀ k ∈ g.getD b [], T k) ∧ ∀ k, T k → k ≠ -1 ∧ ∃ b, R b ∧ b < has.length ∧ has.getD b (-1) = k
/-- On the way: all that holds of a matching in which k is under way, and the bidders up to r have what they had. -/
structure Way (g : List (List Int)) (m : Nat) (has : List Int) (from_ : Int) (s : St) (out : List Int) (k : Int) (r : Nat) : Prop where
  fit : Fit g m out
  k0 : 0 ≤ k ∧ k < m
  no : ∀ i, i < out.length → out.getD i (-1) ≠ k
  by_ : s.q[r]? = some (s.by_.getD k.toNat (-1))
  may : k ∈ g.getD (s.by_.getD k.toNat (-1)).toNat []
  same : ∀ (p : Nat) (b : Int), p ≤ r → s.q[p]? = some b → out.getD b.toNat (-1) = has.getD b.toNat (-1)
  many : manyG out = manyG has
  items : ∀ i, i < has.length → has.getD i (-1) ≠ -1 → has.getD i (-1) = k ∨ ∃ j, j < out.length ∧ out.getD j (-1) = has.getD i (-1)
  bids : ∀ i, i < has.length → has.getD i (-1) ≠ -1 → out.getD i (-1) ≠ -1
  rest : ∀ i : Nat, (i : Int) ∉ s.q → out.getD i (-1) = has.getD i (-1)
  keep : ∀ R T, Shut g has R T → ¬ T k ∧ ∀ b, R b → out.getD b (-1) = has.getD b (-1)
/-- What one more is. -/
structure More (g : List (List Int)) (m : Nat) (has : List Int) (from_ : Int) (s : St) (out : List Int) : Prop where
  fit : Fit g m out
  many : manyG out = manyG has + 1
  from_ : out.getD from_.toNat (-1) ≠ -1
  items : ∀ i, i < has.length → has.getD i (-1) ≠ -1 → ∃ j, j < out.length ∧ out.getD j (-1) = has.getD i (-1)
  bids : ∀ i, i < has.length → has.getD i (-1) ≠ -1 → out.getD i (-1) ≠ -1
  rest : ∀ i : Nat, (i : Int) ∉ s.q → out.getD i (-1) = has.getD i (-1)
  keep : ∀ R T, Shut g has R T → ∀ b, R b → out.getD b (-1) = has.getD b (-1)
theorem many_set_new (l : List Int) (i : Nat) (k : Int) (hi : i < l.length) (hk : k ≠ -1) : manyG (l.set i k) = manyG l + (if l.getD i (-1) = -1 then 1 else 0) := by
  induction l generalizing i with
  | nil => simp at hi
  | cons z l ih =>
    cases i with
    | zero =>
      rw [List.set_cons_zero, many_cons, many_cons]
      simp only [List.getD_cons_zero]
      by_cases h : z = -1 <;> simp [h, hk]
    | succ i =>
      rw [List.set_cons_succ, many_cons, many_cons, ih i (by simpa using hi)]
      simp only [List.getD_cons_succ]
      omega

section
variable {g : List (List Int)} {m : Nat} {has : List Int} {from_ i : Int} {on : Bool} {s : St}
/-- The item under way is given to who came to it. -/
theorem set_fit {out : List Int} {k b : Int} (f : Fit g m out) (hk : 0 ≤ k ∧ k < m) (hno : ∀ i, i < out.length → out.getD i (-1) ≠ k) (hb : 0 ≤ b ∧ b < g.length) (hm : k ∈ g.getD b.toNat []) : Fit g m (out.set b.toNat k) := by
  have hbl : b.toNat < out.length := by rw [f.len]; omega
  have hs : ∀ j, (out.set b.toNat k).getD j (-1) = if j = b.toNat then k else out.getD j (-1) := fun j => getD_set hbl
  refine ⟨by rw [List.length_set]; exact f.len, fun j hj hn => ?_, fun j j' hj hj' hne hn => ?_, fun j hj hn => ?_⟩
  · rw [List.length_set] at hj
    rw [hs] at hn ⊢
    by_cases h : j = b.toNat
    · rw [if_pos h, h]; exact hm
    · rw [if_neg h] at hn ⊢; exact f.item j hj hn
  · rw [List.length_set] at hj hj'
    rw [hs] at hn ⊢
    rw [hs]
    by_cases h : j = b.toNat
    · rw [if_pos h, if_neg (by omega)]
      exact fun he => hno j' hj' he.symm
    · rw [if_neg h] at hn ⊢
      by_cases h' : j' = b.toNat
      · rw [if_pos h']; exact hno j hj
      · rw [if_neg h']; exact f.one j j' hj hj' hne hn
  · rw [List.length_set] at hj
    rw [hs] at hn ⊢
    by_cases h : j = b.toNat
    · rw [if_pos h]; exact hk
    · rw [if_neg h] at hn ⊢; exact f.rng j hj hn
theorem aug_more (fit : Fit g m has) (hf0 : has.getD from_.toNat (-1) = -1) (hc : Core g m has from_ on s) :
    ∀ (fuel r : Nat) (k : Int) (out : List Int), r < fuel → Way g m has from_ s out k r → More g m has from_ s (augP s.by_ fuel k out)
  | 0, r, k, out, h, _ => absurd h (by omega)
  | fuel + 1, r, k, out, hr, w => by
    rw [augP, if_neg (by have := w.k0; omega)]
    have hby := w.by_
    have hmay := w.may
    generalize s.by_.getD k.toNat (-1) = b at hby hmay
    have hbq := List.mem_of_getElem? hby
    obtain ⟨hb0, hb1⟩ := hc.rng b hbq
    have hbg : b.toNat < g.length := by omega
    have hbl : b.toNat < out.length := by rw [w.fit.len]; omega
    have hfit := set_fit w.fit w.k0 w.no ⟨hb0, hb1⟩ hmay
    have hs : ∀ j, (out.set b.toNat k).getD j (-1) = if j = b.toNat then k else out.getD j (-1) := fun j => getD_set hbl
    have hob := w.same r b (Nat.le_refl _) hby
    have hmany := many_set_new out b.toNat k hbl (by have := w.k0; omega)
    rw [hob] at hmany ⊢
    have hitems : ∀ i, i < has.length → has.getD i (-1) ≠ -1 → i ≠ b.toNat → ∃ j, j < (out.set b.toNat k).length ∧ (out.set b.toNat k).getD j (-1) = has.getD i (-1) := by
      intro i hi hn hib
      rcases w.items i hi hn with h | ⟨j, hj, h⟩
      · exact ⟨b.toNat, by rw [List.length_set]; exact hbl, by rw [hs, if_pos rfl, h]⟩
      · by_cases hjb : j = b.toNat
        · rw [hjb, hob] at h
          exact absurd h (fit.one b.toNat i (by rw [fit.len]; omega) hi (fun he => hib he.symm) (by rw [h]; exact hn))
        · exact ⟨j, by rw [List.length_set]; exact hj, by rw [hs, if_neg hjb, h]⟩
    have hbids : ∀ i, i < has.length → has.getD i (-1) ≠ -1 → (out.set b.toNat k).getD i (-1) ≠ -1 := by
      intro i hi hn
      rw [hs]
      by_cases h : i = b.toNat
      · rw [if_pos h]; have := w.k0; omega
      · rw [if_neg h]; exact w.bids i hi hn
    have hrest : ∀ i : Nat, (i : Int) ∉ s.q → (out.set b.toNat k).getD i (-1) = has.getD i (-1) := by
      intro i hi
      rw [hs, if_neg (fun he => hi (by rw [he, Int.toNat_of_nonneg hb0]; exact hbq))]
      exact w.rest i hi
    have hkeep : ∀ R T, Shut g has R T → ¬ R b.toNat ∧ ∀ c, R c → (out.set b.toNat k).getD c (-1) = has.getD c (-1) := by
      intro R T hsh
      obtain ⟨h1, h2⟩ := w.keep R T hsh
      have hnb : ¬ R b.toNat := fun h => h1 (hsh.1 b.toNat h k hmay)
      refine ⟨hnb, fun c hc' => ?_⟩
      rw [hs, if_neg (show ¬ c = b.toNat by intro he; rw [he] at hc'; exact hnb hc')]
      exact h2 c hc'
    by_cases hr0 : r = 0
    · subst hr0
      rw [hc.head] at hby
      cases Option.some.inj hby
      rw [hf0] at hmany ⊢
      have haug : augP s.by_ fuel (-1) (out.set from_.toNat k) = out.set from_.toNat k := by
        cases fuel with
        | zero => rfl
        | succ n => rw [augP, if_pos rfl]
      rw [haug]
      refine ⟨hfit, by rw [hmany, w.many]; rfl, by rw [hs, if_pos rfl]; have := w.k0; omega, fun i hi hn => hitems i hi hn (fun he => hn (by rw [he]; exact hf0)), hbids, hrest, fun R T hsh => (hkeep R T hsh).2⟩
    · obtain ⟨k', hk', hv', hh⟩ := hc.wait r b (by omega) hby
      obtain ⟨r', h1, h2, h3⟩ := hc.come k' hk' hv'
      have hho : holder has (k' : Int) = b.toNat := holder_of fit (by rw [fit.len]; omega) hh (by omega)
      obtain ⟨p, hp1, hp2⟩ := h3 (by rw [hho]; omega)
      rw [hho, Int.toNat_of_nonneg hb0] at hp2
      have hpr : p = r := by
        have hpl := (List.getElem?_eq_some_iff.1 hp2).1
        have hrl := (List.getElem?_eq_some_iff.1 hby).1
        exact (List.getElem?_inj hpl hc.nodup).1 (hp2.trans hby.symm)
      rw [hh] at hmany ⊢
      rw [if_neg (by omega)] at hmany
      refine aug_more fit hf0 hc fuel r' (k' : Int) _ (by omega) ⟨hfit, by omega, fun i hi => ?_, by rw [Int.toNat_natCast]; exact h1, by rw [Int.toNat_natCast]; exact h2, fun p' b' hp' hb' => ?_, by rw [hmany, w.many]; rfl, fun i hi hn => ?_, hbids, hrest, fun R T hsh => ⟨fun hT => ?_, (hkeep R T hsh).2⟩⟩
      · rw [List.length_set] at hi
        rw [hs]
        by_cases h : i = b.toNat
        · rw [if_pos h]
          exact fun he => w.no b.toNat hbl (by rw [hob, hh, he])
        · rw [if_neg h]
          intro he
          exact w.fit.one b.toNat i hbl hi (fun h' => h h'.symm) (by rw [hob, hh]; omega) (by rw [hob, hh, he])
      · rw [hs]
        have hne : b'.toNat ≠ b.toNat := by
          intro he
          have hb0' := (hc.rng b' (List.mem_of_getElem? hb')).1
          have hbb : b' = b := by rw [← Int.toNat_of_nonneg hb0', he, Int.toNat_of_nonneg hb0]
          rw [hbb] at hb'
          have hpl := (List.getElem?_eq_some_iff.1 hb').1
          have h9 := (List.getElem?_inj hpl hc.nodup).1 (hb'.trans hby.symm)
          rw [hpr] at hp1
          exact absurd h9 (Nat.ne_of_lt (Nat.lt_of_le_of_lt hp' hp1))
        rw [if_neg hne]
        exact w.same p' b' (by omega) hb'
      · by_cases hib : i = b.toNat
        · left; rw [hib, hh]
        · exact .inr (hitems i hi hn hib)
      · obtain ⟨_, c, hc1, hc2, hc3⟩ := hsh.2 _ hT
        have hcb : c = b.toNat := by
          by_cases he : c = b.toNat
          · exact he
          · exact absurd (hc3.trans hh.symm) (fit.one c b.toNat hc2 (by rw [fit.len]; exact hbg) he (by rw [hc3]; exact (hsh.2 _ hT).1))
        exact (hkeep R T hsh).1 (hcb ▸ hc1)
end
end Go.Proofs.YtdckoaljcklmhaaGreatDoor


namespace Go.Proofs.YtdckoaljcklmhaaGreatDoor
set_option linter.unusedVariables false

/-- May a search begin? -/
def mayP (g : List (List Int)) (items : Int) (has : List Int) (from_ : Int) : Bool := fitsG g items has && (decide (0 ≤ from_ ∧ from_ < g.length) && decide (has.getD from_.toNat (-1) = -1))
def moreS (g : List (List Int)) (m : Nat) (has : List Int) (from_ : Int) : St := searchP g m has from_ false
def reachS (g : List (List Int)) (m : Nat) (has : List Int) (from_ : Int) : St := searchP g m has from_ true
def foundP (g : List (List Int)) (m : Nat) (has : List Int) (from_ : Int) : Bool := decide ((moreS g m has from_).f ≠ -1)
def moreP (g : List (List Int)) (m : Nat) (has : List Int) (from_ : Int) : List Int := if (moreS g m has from_).f = -1 then [] else augP (moreS g m has from_).by_ (m + 2) (moreS g m has from_).f has
def whoP (g : List (List Int)) (m : Nat) (has : List Int) (from_ : Int) : List Int := upto g.length fun i => decide ((i : Int) ∈ (reachS g m has from_).q)
def whatP (g : List (List Int)) (m : Nat) (has : List Int) (from_ : Int) : List Int := upto m fun k => decide ((reachS g m has from_).vis k)

theorem mayP_iff {g : List (List Int)} {m : Nat} {has : List Int} {from_ : Int} : mayP g m has from_ = true ↔ fitsG g m has = true ∧ (0 ≤ from_ ∧ from_ < g.length) ∧ has.getD from_.toNat (-1) = -1 := by
  simp [mayP]
theorem fits_fit {g : List (List Int)} {m : Nat} {l : List Int} (hc : checkG g m = true) (f : Fit g m l) : fitsG g m l = true :=
  fits_of hc f.len f.item fun i j hj hi hn he => f.one i j hi (by omega) (by omega) hn he.symm

section
variable {g : List (List Int)} {m : Nat} {has : List Int} {from_ : Int} {on : Bool}
theorem done_of (h : mayP g m has from_ = true) : Done g m has from_ on (searchP g m has from_ on) := by
  obtain ⟨h1, h2, h3⟩ := mayP_iff.1 h
  exact search_done (fitsG_iff.1 h1).1 (fit_of h1) h2 h3
theorem q_len {s : St} (hd : Core g m has from_ on s) : s.q.length ≤ m + 1 := by
  have := hd.cnt
  have := held_le s has m
  omega
theorem more_of (h : mayP g m has from_ = true) (hf : (moreS g m has from_).f ≠ -1) : More g m has from_ (moreS g m has from_) (moreP g m has from_) := by
  obtain ⟨h1, h2, h3⟩ := mayP_iff.1 h
  have hd : Done g m has from_ false (moreS g m has from_) := done_of h
  have fit := fit_of h1
  rw [moreP, if_neg hf]
  generalize moreS g m has from_ = s at hf hd
  obtain ⟨k, hk, hfk, hv, hh, _⟩ := hd.core.found.resolve_left hf
  obtain ⟨r, a1, a2, _⟩ := hd.core.come k hk hv
  have hrl := (List.getElem?_eq_some_iff.1 a1).1
  have hql := q_len hd.core
  have hno := holder_none hh
  rw [hfk]
  refine aug_more fit h3 hd.core (m + 2) r k has (by omega) ⟨fit, by omega, fun i hi he => hno ?_, by rw [Int.toNat_natCast]; exact a1, by rw [Int.toNat_natCast]; exact a2, fun _ _ _ _ => rfl, rfl, fun i hi hn => .inr ⟨i, hi, rfl⟩, fun i hi hn => hn, fun i _ => rfl, fun R T hsh => ⟨fun hT => ?_, fun _ _ => rfl⟩⟩
  rotate_left
  · obtain ⟨_, c, _, hc2, hc3⟩ := hsh.2 _ hT
    have hho := holder_of fit hc2 hc3 (by omega)
    rw [hho] at hh
    omega
  rw [List.getD_eq_getElem?_getD, List.getElem?_eq_getElem hi] at he
  have he : has[i] = k := he
  rw [← he]; exact List.getElem_mem hi

/-- What is near to whom one reaches is what one reaches. -/
theorem near_who (h : mayP g m has from_ = true) : nearG g m (whoP g m has from_) = whatP g m has from_ := by
  have hd : Done g m has from_ true (reachS g m has from_) := done_of h
  unfold whoP whatP
  generalize reachS g m has from_ = s at hd
  have hfn : s.f = -1 := by
    rcases hd.core.found with h | ⟨_, _, _, _, _, h⟩
    · exact h
    · cases h
  refine upto_congr fun k hk => ?_
  rw [Bool.eq_iff_iff, List.any_eq_true, decide_eq_true_eq]
  constructor
  · rintro ⟨i, hi, hm⟩
    obtain ⟨j, _, hj, rfl⟩ := mem_upto.1 hi
    have h1 := hd.all hfn _ (of_decide_eq_true hj) (k : Int) (of_decide_eq_true hm)
    rw [Int.toNat_natCast] at h1
    exact h1
  · intro hv
    obtain ⟨r, a1, a2, _⟩ := hd.core.come k hk hv
    have hb := List.mem_of_getElem? a1
    obtain ⟨b0, b1⟩ := hd.core.rng _ hb
    refine ⟨_, mem_upto.2 ⟨(s.by_.getD k (-1)).toNat, by omega, decide_eq_true ?_, rfl⟩, decide_eq_true ?_⟩
    · rw [Int.toNat_of_nonneg b0]; exact hb
    · rw [Int.toNat_natCast]; exact a2
theorem who_from (h : mayP g m has from_ = true) : from_ ∈ whoP g m has from_ := by
  have hd : Done g m has from_ true (reachS g m has from_) := done_of h
  obtain ⟨_, h2, _⟩ := mayP_iff.1 h
  unfold whoP
  refine mem_upto.2 ⟨from_.toNat, by omega, decide_eq_true ?_, by omega⟩
  rw [Int.toNat_of_nonneg h2.1]
  exact List.mem_of_getElem? hd.core.head
theorem upto_count (n : Nat) (p : Nat → Bool) : (upto n p).length = (List.range n).countP p := by
  rw [upto, List.length_map, List.countP_eq_length_filter]
theorem mem_has (fit : Fit g m has) {k : Nat} : (k : Int) ∈ has ↔ holder has (k : Int) ≠ -1 := by
  constructor
  · intro hm h
    exact holder_none h hm
  · intro h
    obtain ⟨b, _, hb, hk⟩ := holder_some h
    rw [List.getD_eq_getElem?_getD, List.getElem?_eq_getElem hb] at hk
    have hk : has[b] = k := hk
    rw [← hk]; exact List.getElem_mem hb
/-- The search that stops, and the one that goes on, as long as nothing is found. -/
theorem visit_on (i k : Int) (s : St) (hf : (visitP has false i s k).f = -1) : visitP has true i s k = visitP has false i s k := by
  unfold visitP at hf ⊢
  by_cases h1 : s.f ≠ -1 ∨ s.by_.getD k.toNat (-1) ≠ -1
  · rw [if_pos h1, if_pos h1]
  · rw [if_neg h1] at hf ⊢
    rw [if_neg h1]
    by_cases h2 : holder has k ≠ -1
    · rw [if_pos h2, if_pos h2]
    · rw [if_neg h2, if_neg (by simp)] at hf
      simp only at hf
      rw [if_neg h2, if_neg h2, if_pos rfl, if_neg (by simp), hf]
theorem visit_found (i k : Int) (s : St) (hs : s.f = -1) (hf : (visitP has false i s k).f ≠ -1) : (visitP has true i s k).by_ = (visitP has false i s k).by_ ∧ (visitP has true i s k).f = -1 := by
  unfold visitP at hf ⊢
  by_cases h1 : s.f ≠ -1 ∨ s.by_.getD k.toNat (-1) ≠ -1
  · rw [if_pos h1] at hf; exact absurd hs hf
  · rw [if_neg h1] at hf ⊢
    rw [if_neg h1]
    by_cases h2 : holder has k ≠ -1
    · rw [if_pos h2] at hf; exact absurd rfl hf
    · rw [if_neg h2, if_pos rfl, if_neg h2, if_neg (by simp)]
      exact ⟨rfl, rfl⟩
theorem scan_mono (i : Int) (hi : i ≠ -1) : ∀ (l : List Int) (s : St) {j : Nat}, s.vis j → (scanP has on i l s).vis j
  | [], _, _, h => h
  | k :: l, s, _, h => scan_mono i hi l _ (visit_mono has on k hi h)
theorem scan_on (i : Int) (hi : i ≠ -1) : ∀ (l : List Int) (s : St), s.f = -1 →
    ((scanP has false i l s).f = -1 ∧ scanP has true i l s = scanP has false i l s) ∨ ((scanP has false i l s).f ≠ -1 ∧ ∀ j, (scanP has false i l s).vis j → (scanP has true i l s).vis j)
  | [], s, h => .inl ⟨h, rfl⟩
  | k :: l, s, h => by
    show ((scanP has false i l (visitP has false i s k)).f = -1 ∧ scanP has true i l (visitP has true i s k) = scanP has false i l (visitP has false i s k)) ∨ ((scanP has false i l (visitP has false i s k)).f ≠ -1 ∧ ∀ j, (scanP has false i l (visitP has false i s k)).vis j → (scanP has true i l (visitP has true i s k)).vis j)
    by_cases hf : (visitP has false i s k).f = -1
    · rw [visit_on i k s hf]
      exact scan_on i hi l _ hf
    · obtain ⟨h1, h2⟩ := visit_found i k s h hf
      rw [scan_stop has false l hf]
      refine .inr ⟨hf, fun j hj => scan_mono i hi l _ ?_⟩
      unfold St.vis at hj ⊢
      rw [h1]; exact hj
theorem run_mono (hck : checkG g m = true) (fit : Fit g m has) (hf0 : has.getD from_.toNat (-1) = -1) : ∀ (fuel n : Nat) (s : St), Core g m has from_ on s → ∀ {j : Nat}, s.vis j → (runP g has on fuel n s).vis j
  | 0, n, s, _, _, h => h
  | fuel + 1, n, s, c, _, h => by
    rw [runP]
    by_cases hn : s.f = -1 ∧ n < s.q.length
    · rw [if_pos hn]
      have hg : s.q[n]? = some (s.q.getD n 0) := by rw [List.getD_eq_getElem?_getD, List.getElem?_eq_getElem hn.2]; rfl
      generalize s.q.getD n 0 = b at hg
      have hbm : b ∈ s.q := List.mem_of_getElem? hg
      obtain ⟨hb0, hb1⟩ := c.rng b hbm
      have hrs := (checkG_iff.1 hck).2.2.2 _ (getD_mem (g := g) (i := b.toNat) (by omega))
      have d := scan_core (on := on) (i := b) fit hf0 (g.getD b.toNat []) s c hbm (fun k hk => ⟨hrs.1 k hk, hk⟩)
      exact run_mono hck fit hf0 fuel (n + 1) _ d.1 (d.2.2.1 _ h)
    · rw [if_neg hn]; exact h
theorem run_on (hck : checkG g m = true) (fit : Fit g m has) (hf0 : has.getD from_.toNat (-1) = -1) : ∀ (fuel n : Nat) (s : St), Core g m has from_ false s → Core g m has from_ true s → s.f = -1 →
    ((runP g has false fuel n s).f = -1 ∧ runP g has true fuel n s = runP g has false fuel n s) ∨ ((runP g has false fuel n s).f ≠ -1 ∧ ∀ j, (runP g has false fuel n s).vis j → (runP g has true fuel n s).vis j)
  | 0, n, s, _, _, h => .inl ⟨h, rfl⟩
  | fuel + 1, n, s, c1, c2, h => by
    rw [runP, runP]
    by_cases hn : s.f = -1 ∧ n < s.q.length
    · rw [if_pos hn, if_pos hn]
      have hg : s.q[n]? = some (s.q.getD n 0) := by rw [List.getD_eq_getElem?_getD, List.getElem?_eq_getElem hn.2]; rfl
      generalize s.q.getD n 0 = b at hg
      have hbm : b ∈ s.q := List.mem_of_getElem? hg
      obtain ⟨hb0, hb1⟩ := c1.rng b hbm
      have hrs := (checkG_iff.1 hck).2.2.2 _ (getD_mem (g := g) (i := b.toNat) (by omega))
      have d1 := scan_core (on := false) (i := b) fit hf0 (g.getD b.toNat []) s c1 hbm (fun k hk => ⟨hrs.1 k hk, hk⟩)
      have d2 := scan_core (on := true) (i := b) fit hf0 (g.getD b.toNat []) s c2 hbm (fun k hk => ⟨hrs.1 k hk, hk⟩)
      rcases scan_on (has := has) b (by omega) (g.getD b.toNat []) s h with ⟨e1, e2⟩ | ⟨e1, e2⟩
      · rw [e2] at d2 ⊢
        exact run_on hck fit hf0 fuel (n + 1) _ d1.1 d2.1 e1
      · right
        have hst : runP g has false fuel (n + 1) (scanP has false b (g.getD b.toNat []) s) = scanP has false b (g.getD b.toNat []) s := by
          cases fuel with
          | zero => rfl
          | succ f => rw [runP, if_neg (fun h => e1 h.1)]
        rw [hst]
        refine ⟨e1, fun j hj => ?_⟩
        exact run_mono hck fit hf0 fuel (n + 1) _ d2.1 (e2 j hj)
    · rw [if_neg hn, if_neg hn]
      exact .inl ⟨h, rfl⟩
/-- A way is found just if an item is reached that nobody has. -/
theorem found_iff (h : mayP g m has from_ = true) : foundP g m has from_ = decide (0 < (whatP g m has from_).countP fun k => decide (k ∉ has)) := by
  have hdt : Done g m has from_ true (reachS g m has from_) := done_of h
  have hdf : Done g m has from_ false (moreS g m has from_) := done_of h
  obtain ⟨h1, h2, h3⟩ := mayP_iff.1 h
  have fit := fit_of h1
  have hon := run_on (fitsG_iff.1 h1).1 fit h3 (m + 2) 0 _ (start_core false h2) (start_core true h2) rfl
  have hon : ((moreS g m has from_).f = -1 ∧ reachS g m has from_ = moreS g m has from_) ∨ ((moreS g m has from_).f ≠ -1 ∧ ∀ j, (moreS g m has from_).vis j → (reachS g m has from_).vis j) := hon
  rw [foundP, decide_eq_decide, List.countP_pos_iff]
  unfold whatP
  generalize moreS g m has from_ = s at *
  generalize reachS g m has from_ = s' at *
  rcases hon with ⟨e1, e2⟩ | ⟨e1, e2⟩
  · refine ⟨fun h => absurd e1 h, ?_⟩
    rintro ⟨x, hx, hn⟩
    obtain ⟨k, hk, hv, rfl⟩ := mem_upto.1 hx
    have hv := of_decide_eq_true hv
    rw [e2] at hv
    exact absurd ((mem_has fit).2 (hdf.core.free rfl e1 k hk hv)) (of_decide_eq_true hn)
  · refine ⟨fun _ => ?_, fun _ => e1⟩
    obtain ⟨k, hk, hfk, hv, hh, _⟩ := hdf.core.found.resolve_left e1
    exact ⟨(k : Int), mem_upto.2 ⟨k, hk, decide_eq_true (e2 k hv), rfl⟩, decide_eq_true fun hm => (mem_has fit).1 hm hh⟩
/-- Who has what is reached is reached. -/
theorem what_who (h : mayP g m has from_ = true) {b k : Nat} (hb : b < has.length) (hk : has.getD b (-1) = k) (hw : (k : Int) ∈ whatP g m has from_) : (b : Int) ∈ whoP g m has from_ := by
  have hd : Done g m has from_ true (reachS g m has from_) := done_of h
  have fit := fit_of (mayP_iff.1 h).1
  unfold whatP at hw
  unfold whoP
  generalize reachS g m has from_ = s at hd hw
  obtain ⟨hkm, hv⟩ := mem_upto_nat.1 hw
  have hho := holder_of fit hb hk (by omega)
  obtain ⟨r, _, _, a3⟩ := hd.core.come k hkm (of_decide_eq_true hv)
  obtain ⟨p, _, hp⟩ := a3 (by rw [hho]; omega)
  rw [hho] at hp
  exact mem_upto_nat.2 ⟨by rw [← fit.len]; exact hb, decide_eq_true (List.mem_of_getElem? hp)⟩
end
end Go.Proofs.YtdckoaljcklmhaaGreatDoor


namespace Go.Proofs.YtdckoaljcklmhaaGreatDoor
set_option linter.unusedVariables false

section
variable {g g' : List (List Int)} {m : Nat} {has : List Int} {from_ : Int} {on : Bool}
theorem may_fits (h : mayP g m has from_ = true) : Fit g m has := fit_of (mayP_iff.1 h).1
theorem may_check (h : mayP g m has from_ = true) : checkG g m = true := (fitsG_iff.1 (mayP_iff.1 h).1).1
theorem more_fits (h : mayP g m has from_ = true) (hf : foundP g m has from_ = true) : More g m has from_ (moreS g m has from_) (moreP g m has from_) :=
  more_of h (of_decide_eq_true hf)
/-! Others left out. -/
/-! The first free item. -/
/-! Whom nothing helps. -/
/-- Where none is found, whom one reaches is shut in. -/
theorem shut_of (h : mayP g m has from_ = true) (hf : foundP g m has from_ = false) : Shut g has (fun b => (b : Int) ∈ whoP g m has from_) (fun k => k ∈ whatP g m has from_) := by
  have fit := may_fits h
  refine ⟨fun b hb k hk => ?_, fun k hk => ?_⟩
  · have hkr := (checkG_iff.1 (may_check h)).2.2.2 _ (getD_mem (g := g) (i := b) (mem_upto_nat.1 hb).1)
    have hk' := hkr.1 k hk
    rw [← near_who h]
    obtain ⟨y, rfl⟩ : ∃ y : Nat, k = y := ⟨k.toNat, by omega⟩
    exact mem_nearG.2 ⟨by omega, _, hb, by rw [Int.toNat_natCast]; exact hk⟩
  · obtain ⟨y, hy, _, rfl⟩ := mem_upto.1 hk
    refine ⟨by omega, ?_⟩
    have hin : (y : Int) ∈ has := by
      rw [found_iff h] at hf
      have h0 := of_decide_eq_false hf
      have := List.countP_eq_zero.1 (Nat.eq_zero_of_not_pos h0) _ hk
      simpa using this
    obtain ⟨b, hb1, hb2, hb3⟩ := holder_some ((mem_has fit).1 hin)
    exact ⟨b, what_who h hb2 hb3 hk, hb2, hb3⟩
/-- Others' ways leave it so. -/
theorem shut_more {i : Int} (h : mayP g m has i = true) (hf : foundP g m has i = true) {R : Nat → Prop} {T : Int → Prop} (hs : Shut g has R T) : Shut g (moreP g m has i) R T ∧ ∀ b, R b → (moreP g m has i).getD b (-1) = has.getD b (-1) := by
  have hm := more_fits h hf
  have hk := hm.keep R T hs
  refine ⟨⟨hs.1, fun k hT => ?_⟩, hk⟩
  obtain ⟨h1, b, hb1, hb2, hb3⟩ := hs.2 k hT
  exact ⟨h1, b, hb1, by rw [hm.fit.len, ← (may_fits h).len]; exact hb2, by rw [hk b hb1]; exact hb3⟩
end
end Go.Proofs.YtdckoaljcklmhaaGreatDoor

