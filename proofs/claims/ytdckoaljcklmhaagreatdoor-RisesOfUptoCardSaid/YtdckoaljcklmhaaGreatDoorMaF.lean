/-
  Layer 8: who may have what when all but some may have nothing: all of these can have an item just if the most of it are all of them.
-/
import Derived.Test.YtdckoaljcklmhaaGreatDoorPaF
import Derived.Test.YtdckoaljcklmhaaGreatDoorGrF
import Derived.Test.YtdckoaljcklmhaaGreatDoorPaWm
namespace Go.Proofs.YtdckoaljcklmhaaGreatDoor
set_option linter.unusedVariables false

/-- The i-th goes a way to one more, if it has none, and there is one. -/
def stepM (g : List (List Int)) (m : Nat) (has : List Int) (i : Nat) : List Int := if has.getD i (-1) = -1 ∧ foundP g m has i = true then moreP g m has i else has
def mostN (g : List (List Int)) (m n : Nat) : List Int := (List.range n).foldl (stepM g m) (List.replicate g.length (-1))
def mostP (g : List (List Int)) (m : Nat) : List Int := mostN g m g.length
theorem mostN_zero (g : List (List Int)) (m : Nat) : mostN g m 0 = List.replicate g.length (-1) := rfl
theorem mostN_succ (g : List (List Int)) (m n : Nat) : mostN g m (n + 1) = stepM g m (mostN g m n) n := by
  rw [mostN, List.range_succ, List.foldl_append]; rfl

section
variable {g : List (List Int)} {m : Nat} {has : List Int} {from_ : Int}
/-- Whoever has none, and from whom one does not go, does not wait. -/
theorem not_q (h : mayP g m has from_ = true) {i : Nat} (hi : has.getD i (-1) = -1) (hne : (i : Int) ≠ from_) : (i : Int) ∉ (moreS g m has from_).q := by
  have hd : Done g m has from_ false (moreS g m has from_) := done_of h
  intro hm
  obtain ⟨p, hp⟩ := List.getElem?_of_mem hm
  by_cases hp0 : p = 0
  · rw [hp0, hd.core.head] at hp
    exact hne (Option.some.inj hp).symm
  · obtain ⟨k, _, _, hh⟩ := hd.core.wait p _ (by omega) hp
    rw [Int.toNat_natCast, hi] at hh
    omega
theorem getD_far {l : List Int} {i : Nat} (h : l.length ≤ i) : l.getD i (-1) = -1 := by
  rw [List.getD_eq_getElem?_getD, List.getElem?_eq_none h]; rfl
/-- Who has one behind a way: who had one, and from whom it went. -/
theorem more_sup (h : mayP g m has from_ = true) (hf : foundP g m has from_ = true) (i : Nat) : (moreP g m has from_).getD i (-1) = -1 ↔ has.getD i (-1) = -1 ∧ (i : Int) ≠ from_ := by
  have mo := more_fits h hf
  have f := may_fits h
  constructor
  · intro ho
    refine ⟨?_, fun he => ?_⟩
    · by_cases hi : i < has.length
      · exact Decidable.of_not_not fun hn => mo.bids i hi hn ho
      · exact getD_far (by omega)
    · have := mo.from_
      rw [show from_.toNat = i by omega] at this
      exact this ho
  · rintro ⟨h1, h2⟩
    rw [mo.rest i (not_q h h1 h2)]
    exact h1

/-- After n of them. -/
structure Stp (g : List (List Int)) (m n : Nat) (h : List Int) : Prop where
  fit : Fit g m h
  behind : ∀ i, n ≤ i → h.getD i (-1) = -1
  none : ∀ i, i < n → h.getD i (-1) = -1 → ∃ (R : Nat → Prop) (T : Int → Prop), Shut g h R T ∧ R i
theorem fit_none (g : List (List Int)) (m : Nat) : Fit g m (List.replicate g.length (-1)) :=
  ⟨by simp, fun i _ hn => absurd getD_repl hn, fun i j _ _ _ hn => absurd getD_repl hn, fun i _ hn => absurd getD_repl hn⟩
theorem stp_may {n : Nat} {h : List Int} (hc : checkG g m = true) (s : Stp g m n h) (hn : n < g.length) : mayP g m h n = true :=
  mayP_iff.2 ⟨fits_fit hc s.fit, by omega, by rw [Int.toNat_natCast]; exact s.behind n (Nat.le_refl _)⟩
theorem most_stp (hc : checkG g m = true) : ∀ n, n ≤ g.length → Stp g m n (mostN g m n)
  | 0, _ => ⟨fit_none g m, fun i _ => getD_repl, fun i hi => absurd hi (by omega)⟩
  | n + 1, hn => by
    have s := most_stp hc n (by omega)
    rw [mostN_succ]
    generalize mostN g m n = h at s
    have hm := stp_may hc s (by omega)
    have h0 := s.behind n (Nat.le_refl _)
    rw [stepM]
    by_cases hf : foundP g m h n = true
    · rw [if_pos ⟨h0, hf⟩]
      have mo := more_fits hm hf
      refine ⟨mo.fit, fun i hi => (more_sup hm hf i).2 ⟨s.behind i (by omega), by omega⟩, fun i hi hni => ?_⟩
      obtain ⟨h1, h2⟩ := (more_sup hm hf i).1 hni
      obtain ⟨R, T, hs, hR⟩ := s.none i (by omega) h1
      exact ⟨R, T, (shut_more hm hf hs).1, hR⟩
    · rw [if_neg (fun h => hf h.2)]
      refine ⟨s.fit, fun i hi => s.behind i (by omega), fun i hi hni => ?_⟩
      by_cases he : i = n
      · rw [he]
        exact ⟨_, _, shut_of hm (by simpa using hf), who_from hm⟩
      · exact s.none i (by omega) hni
theorem most_end (hc : checkG g m = true) : Stp g m g.length (mostP g m) := most_stp hc _ (Nat.le_refl _)
theorem most_len (hc : checkG g m = true) : (mostP g m).length = g.length := (most_end hc).fit.len
end

/-! Counting. -/
theorem nodup_sub {α : Type} [DecidableEq α] : ∀ {a b : List α}, a.Nodup → (∀ x ∈ a, x ∈ b) → a.length ≤ b.length
  | [], b, _, _ => Nat.zero_le _
  | x :: a, b, hn, hs => by
    obtain ⟨h1, h2⟩ := List.nodup_cons.1 hn
    have hx := hs x (by simp)
    have := nodup_sub (b := b.erase x) h2 fun y hy => (List.mem_erase_of_ne (show y ≠ x by rintro rfl; exact h1 hy)).2 (hs y (by simp [hy]))
    have h3 := List.length_erase_of_mem hx
    have h4 := List.length_pos_of_mem hx
    rw [List.length_cons]
    omega
theorem many_range (l : List Int) : manyG l = (List.range l.length).countP fun i => decide (l.getD i (-1) ≠ -1) := by
  have h : l = (List.range l.length).map fun i => l.getD i (-1) := by
    refine List.ext_getElem (by simp) fun i h1 h2 => ?_
    rw [List.getElem_map, List.getElem_range, List.getD_eq_getElem?_getD, List.getElem?_eq_getElem h1]; rfl
  have h2 : manyG l = manyG ((List.range l.length).map fun i => l.getD i (-1)) := congrArg manyG h
  rw [h2, manyG, List.countP_map]
  rfl
theorem countP_split {α : Type} (l : List α) (p q : α → Bool) : l.countP p = l.countP (fun x => p x && q x) + l.countP (fun x => p x && !q x) := by
  induction l with
  | nil => rfl
  | cons x l ih =>
    simp only [List.countP_cons, ih]
    cases p x <;> cases q x <;> simp <;> omega
theorem countP_true {α : Type} (l : List α) (q : α → Bool) : l.length = l.countP q + l.countP (fun x => !q x) := by
  have := countP_split l (fun _ => true) q
  simpa using this

section
variable {g : List (List Int)} {m : Nat} {l : List Int}
/-- Of any bidders as many have an item at most as are near to them. -/
theorem some_near (f : Fit g m l) (p : Nat → Bool) : ((List.range g.length).countP fun i => p i && decide (l.getD i (-1) ≠ -1)) ≤ (nearG g m (upto g.length p)).length := by
  rw [List.countP_eq_length_filter]
  have h1 : (((List.range g.length).filter fun i => p i && decide (l.getD i (-1) ≠ -1)).map fun i => l.getD i (-1)).Nodup := by
    refine List.pairwise_map.2 (List.Pairwise.imp_of_mem ?_ (List.Pairwise.filter _ (List.pairwise_lt_range (n := g.length))))
    intro i j hi hj hij
    simp only [List.mem_filter, List.mem_range, Bool.and_eq_true, decide_eq_true_eq] at hi hj
    exact f.one i j (by rw [f.len]; omega) (by rw [f.len]; omega) (by omega) hi.2.2
  have h2 := nodup_sub h1 (b := nearG g m (upto g.length p)) fun x hx => by
    obtain ⟨i, hi, rfl⟩ := List.mem_map.1 hx
    simp only [List.mem_filter, List.mem_range, Bool.and_eq_true, decide_eq_true_eq] at hi
    obtain ⟨hi1, hi2, hi3⟩ := hi
    have hr := f.rng i (by rw [f.len]; exact hi1) hi3
    have ht := f.item i (by rw [f.len]; exact hi1) hi3
    obtain ⟨k, hk⟩ : ∃ k : Nat, l.getD i (-1) = k := ⟨(l.getD i (-1)).toNat, by omega⟩
    show l.getD i (-1) ∈ _
    rw [hk] at hr ht ⊢
    exact mem_nearG.2 ⟨by omega, (i : Int), mem_upto_nat.2 ⟨hi1, hi2⟩, by rw [Int.toNat_natCast]; exact ht⟩
  rw [List.length_map] at h2
  exact h2
theorem upto_not (n : Nat) (p : Nat → Bool) : (upto n p).length + (List.range n).countP (fun i => !p i) = n := by
  have := countP_true (List.range n) p
  rw [List.length_range] at this
  rw [upto_count]
  omega
/-- Hall's bound. -/
theorem hall_le (f : Fit g m l) (p : Nat → Bool) : manyG l + (upto g.length p).length ≤ g.length + (nearG g m (upto g.length p)).length := by
  have h1 := some_near f p
  have h2 := upto_not g.length p
  have h3 := many_range l
  rw [f.len] at h3
  have h4 := countP_split (List.range g.length) (fun i => decide (l.getD i (-1) ≠ -1)) p
  have h5 : ((List.range g.length).countP fun i => decide (l.getD i (-1) ≠ -1) && p i) = (List.range g.length).countP fun i => p i && decide (l.getD i (-1) ≠ -1) := by
    refine List.countP_congr fun i _ => ?_
    rw [Bool.and_comm]
  have h6 : ((List.range g.length).countP fun i => decide (l.getD i (-1) ≠ -1) && !p i) ≤ (List.range g.length).countP fun i => !p i :=
    List.countP_mono_left fun i _ h => by
      rw [Bool.and_eq_true] at h; exact h.2
  omega
theorem hall_le' (f : Fit g m l) {s : List Int} (hs : Rises g.length s) : manyG l + s.length ≤ g.length + (nearG g m s).length := by
  have := hall_le f fun k => decide ((k : Int) ∈ s)
  rwa [upto_of_rises hs] at this

open Classical in
/-- Some for which it is just as many. -/
theorem hall_ex (s : Stp g m g.length l) : ∃ p : Nat → Bool, manyG l + (upto g.length p).length = g.length + (nearG g m (upto g.length p)).length := by
  have f := s.fit
  let R : Nat → Prop := fun b => ∃ (R' : Nat → Prop) (T' : Int → Prop), Shut g l R' T' ∧ R' b
  let T : Int → Prop := fun k => ∃ (R' : Nat → Prop) (T' : Int → Prop), Shut g l R' T' ∧ T' k
  have hsh : Shut g l R T := by
    refine ⟨fun b ⟨R', T', h1, h2⟩ k hk => ⟨R', T', h1, h1.1 b h2 k hk⟩, fun k ⟨R', T', h1, h2⟩ => ?_⟩
    obtain ⟨h3, b, h4, h5⟩ := h1.2 k h2
    exact ⟨h3, b, ⟨R', T', h1, h4⟩, h5⟩
  have hR : ∀ i, i < g.length → l.getD i (-1) = -1 → R i := fun i hi hn => by
    obtain ⟨R', T', h1, h2⟩ := s.none i hi hn
    exact ⟨R', T', h1, h2⟩
  refine ⟨fun i => decide (R i), Nat.le_antisymm (hall_le f _) ?_⟩
  -- what is near to them is had by them
  have h1 : (nearG g m (upto g.length fun i => decide (R i))).length ≤ (List.range g.length).countP fun i => decide (R i) && decide (l.getD i (-1) ≠ -1) := by
    rw [List.countP_eq_length_filter, ← List.length_map (f := fun i => l.getD i (-1))]
    refine nodup_sub ((upto_rises m _).2.imp fun h => by omega) fun x hx => ?_
    obtain ⟨k, hk, hk2, rfl⟩ := mem_upto.1 hx
    have hx' : (k : Int) ∈ nearG g m (upto g.length fun i => decide (R i)) := hx
    obtain ⟨_, y, hy, hyk⟩ := mem_nearG.1 hx'
    obtain ⟨i, hi, hRi, rfl⟩ := mem_upto.1 hy
    rw [Int.toNat_natCast] at hyk
    obtain ⟨hk1, b, hb, hbl, hbk⟩ := hsh.2 _ (hsh.1 i (of_decide_eq_true hRi) _ hyk)
    refine List.mem_map.2 ⟨b, List.mem_filter.2 ⟨List.mem_range.2 (by rw [← f.len]; exact hbl), ?_⟩, hbk⟩
    rw [Bool.and_eq_true]
    exact ⟨decide_eq_true hb, decide_eq_true (by rw [hbk]; exact hk1)⟩
  have h2 := upto_count g.length fun i => decide (R i)
  have h3 := countP_split (List.range g.length) (fun i => decide (R i)) fun i => decide (l.getD i (-1) ≠ -1)
  have h4 := many_range l
  rw [f.len] at h4
  have h5 := countP_true (List.range g.length) fun i => decide (l.getD i (-1) ≠ -1)
  rw [List.length_range] at h5
  have h6 : ((List.range g.length).countP fun i => decide (R i) && !decide (l.getD i (-1) ≠ -1)) = (List.range g.length).countP fun i => !decide (l.getD i (-1) ≠ -1) := by
    refine List.countP_congr fun i hi => ?_
    rw [Bool.and_eq_true]
    constructor
    · exact fun h => h.2
    · intro h
      refine ⟨decide_eq_true (hR i (List.mem_range.1 hi) ?_), h⟩
      simpa using h
  omega
end

section
variable {g g' : List (List Int)} {m : Nat} {l : List Int}
/-- As many as can be. -/
theorem most_max (hc : checkG g m = true) (f : Fit g m l) : manyG l ≤ manyG (mostP g m) := by
  obtain ⟨p, hp⟩ := hall_ex (most_end hc)
  have := hall_le f p
  omega
/-- The same, by numbers: the most by which some are more than what is near to them. -/
theorem most_hall (hc : checkG g m = true) : (∀ s, Rises g.length s → manyG (mostP g m) + s.length ≤ g.length + (nearG g m s).length) ∧ ∃ s, Rises g.length s ∧ manyG (mostP g m) + s.length = g.length + (nearG g m s).length := by
  refine ⟨fun s hs => hall_le' (most_end hc).fit hs, ?_⟩
  obtain ⟨p, hp⟩ := hall_ex (most_end hc)
  exact ⟨_, upto_rises _ _, hp⟩
theorem many_le (l : List Int) : manyG l ≤ l.length := List.countP_le_length
end
end Go.Proofs.YtdckoaljcklmhaaGreatDoor


namespace Go.Proofs.YtdckoaljcklmhaaGreatDoor
set_option linter.unusedVariables false

/-- A bidder of a part that begins at a. -/
def sh (a : Nat) (b : Int) : Int := if b < 0 then b else b + a
/-- A search in a part, and the same in the whole. -/
structure Sim (a n : Nat) (s' s : St) : Prop where
  q : s.q = s'.q.map (sh a)
  by_ : s.by_ = s'.by_.map (sh a)
  f : s.f = s'.f
  rng : ∀ b ∈ s'.q, 0 ≤ b ∧ b < n
section
variable {a n : Nat} {h has : List Int} {on : Bool} {s s' : St}
end

section
variable {G : List (List Int)} {m : Nat} {h : List Int} {from_ : Int}
end

section
variable {g : List (List Int)} {m : Nat}
end

/-! All of some. -/
def rowsG (g : List (List Int)) (some : List Int) : List (List Int) := some.map fun i => g.getD i.toNat []
/-- Can all of some have an item? -/
def allB (g : List (List Int)) (m : Nat) (some : List Int) : Bool := decide (manyG (mostP (rowsG g some) m) = some.length)
theorem rowsG_len (g : List (List Int)) (some : List Int) : (rowsG g some).length = some.length := by simp [rowsG]
theorem rows_check {g : List (List Int)} {m : Nat} {some : List Int} (hc : checkG g m = true) (hs : Rises g.length some) : checkG (rowsG g some) m = true := by
  obtain ⟨h1, h2, h3, h4⟩ := checkG_iff.1 hc
  have := rises_len hs
  refine checkG_iff.2 ⟨h1, h2, by rw [rowsG_len]; omega, fun l hl => ?_⟩
  obtain ⟨i, hi, rfl⟩ := List.mem_map.1 hl
  have := hs.1 i hi
  exact h4 _ (getD_mem (by omega))
theorem full_iff {G : List (List Int)} {m : Nat} (hc : checkG G m = true) : manyG (mostP G m) = G.length ↔ ∃ ps : List (List Int × Int), ps.map Prod.fst = G ∧ (∀ p ∈ ps, p.2 ∈ p.1) ∧ (ps.map Prod.snd).Nodup := by
  obtain ⟨_, _, _, h4⟩ := checkG_iff.1 hc
  constructor
  · intro hm
    have e := most_end hc
    have hl := e.fit.len
    generalize mostP G m = l at *
    have hall : ∀ z ∈ l, z ≠ -1 := by
      rw [manyG, ← hl, List.countP_eq_length] at hm
      exact fun z hz => of_decide_eq_true (hm z hz)
    have hg : ∀ i (hi : i < l.length), l.getD i (-1) = l[i] := fun i hi => by rw [List.getD_eq_getElem?_getD, List.getElem?_eq_getElem hi]; rfl
    refine ⟨G.zip l, by rw [List.map_fst_zip (by omega)], fun p hp => ?_, ?_⟩
    · obtain ⟨i, hi, rfl⟩ := List.getElem_of_mem hp
      rw [List.length_zip] at hi
      rw [List.getElem_zip]
      have h1 := e.fit.item i (by omega) (by rw [hg i (by omega)]; exact hall _ (List.getElem_mem _))
      rw [hg i (by omega), List.getD_eq_getElem?_getD, List.getElem?_eq_getElem (by omega)] at h1
      exact h1
    · rw [List.map_snd_zip (by omega)]
      refine List.pairwise_iff_getElem.2 fun i j hi hj hij he => ?_
      exact e.fit.one i j hi hj (by omega) (by rw [hg i hi]; exact hall _ (List.getElem_mem _)) (by rw [hg i hi, hg j hj]; exact he)
  · rintro ⟨ps, rfl, h1, h2⟩
    have hr : ∀ z ∈ ps.map Prod.snd, 0 ≤ z ∧ z < m := fun z hz => by
      obtain ⟨p, hp, rfl⟩ := List.mem_map.1 hz
      exact (h4 _ (List.mem_map_of_mem hp)).1 _ (h1 p hp)
    have hg : ∀ i (hi : i < (ps.map Prod.snd).length), (ps.map Prod.snd).getD i (-1) = (ps.map Prod.snd)[i] := fun i hi => by rw [List.getD_eq_getElem?_getD, List.getElem?_eq_getElem hi]; rfl
    have f : Fit (ps.map Prod.fst) m (ps.map Prod.snd) := by
      refine ⟨by simp, fun i hi _ => ?_, fun i j hi hj hij _ => ?_, fun i hi _ => ?_⟩
      · have hi' : i < ps.length := by simpa using hi
        rw [hg i hi, List.getElem_map, List.getD_eq_getElem?_getD, List.getElem?_map, List.getElem?_eq_getElem hi']
        exact h1 _ (List.getElem_mem _)
      · rw [hg i hi, hg j hj]
        exact fun he => hij ((List.getElem_inj h2).1 he)
      · rw [hg i hi]; exact hr _ (List.getElem_mem _)
    have hmax := most_max hc f
    have hle := many_le (mostP (ps.map Prod.fst) m)
    rw [most_len hc] at hle
    have hmany : manyG (ps.map Prod.snd) = (ps.map Prod.snd).length := by
      rw [manyG, List.countP_eq_length]
      exact fun z hz => decide_eq_true (by have := hr z hz; omega)
    rw [hmany] at hmax
    simp only [List.length_map] at hmax hle ⊢
    omega
/-- Then all of any part of them can. -/
theorem all_part {g : List (List Int)} {m : Nat} {some less : List Int} (hc : checkG g m = true) (hs : Rises g.length some) (hl : less.Sublist some) (h : allB g m some = true) : allB g m less = true := by
  have hs' : Rises g.length less := ⟨fun x hx => hs.1 x (hl.mem hx), hs.2.sublist hl⟩
  have h1 := of_decide_eq_true h
  rw [← rowsG_len g some] at h1
  obtain ⟨ps, e1, e2, e3⟩ := (full_iff (rows_check hc hs)).1 h1
  have hsub : (rowsG g less).Sublist (ps.map Prod.fst) := by rw [e1]; exact hl.map _
  obtain ⟨ps', e4, e5⟩ := List.sublist_map_iff.1 hsub
  refine decide_eq_true ?_
  rw [← rowsG_len g less]
  exact (full_iff (rows_check hc hs')).2 ⟨ps', e5.symm, fun p hp => e2 p (e4.mem hp), (e3.sublist (e4.map _))⟩
/-- By Hall: each part of them has as many near to it. -/
theorem all_hall {g : List (List Int)} {m : Nat} {some : List Int} (hc : checkG g m = true) (hs : Rises g.length some) : allB g m some = true ↔ ∀ t, Rises some.length t → t.length ≤ (nearG (rowsG g some) m t).length := by
  have hh := most_hall (rows_check hc hs)
  rw [rowsG_len] at hh
  rw [allB, decide_eq_true_eq]
  constructor
  · intro h t ht
    have := hh.1 t ht
    omega
  · intro h
    obtain ⟨t, ht, he⟩ := hh.2
    have h1 := h t ht
    have h2 := many_le (mostP (rowsG g some) m)
    rw [most_len (rows_check hc hs), rowsG_len] at h2
    omega
theorem near_rows {g : List (List Int)} {m : Nat} {some t : List Int} (ht : Rises some.length t) : nearG (rowsG g some) m t = nearG g m (t.map fun i => some.getD i.toNat 0) := by
  refine upto_congr fun k hk => ?_
  rw [List.any_map]
  rw [Bool.eq_iff_iff, List.any_eq_true, List.any_eq_true]
  have he : ∀ i ∈ t, (rowsG g some).getD i.toNat [] = g.getD (some.getD i.toNat 0).toNat [] := fun i hi => by
    have := ht.1 i hi
    have hl : i.toNat < some.length := by omega
    rw [rowsG, List.getD_eq_getElem?_getD, List.getElem?_map, List.getElem?_eq_getElem hl, List.getD_eq_getElem?_getD (l := some), List.getElem?_eq_getElem hl]; rfl
  constructor
  · rintro ⟨i, hi, h⟩
    exact ⟨i, hi, by rw [he i hi] at h; exact h⟩
  · rintro ⟨i, hi, h⟩
    exact ⟨i, hi, by rw [he i hi]; exact h⟩

/-! What the functions answer. -/
def mostErr (g : List (List Int)) (m : Int) : Int := if checkG g m = true then 0 else 1
def mostE (g : List (List Int)) (m : Int) : List Int := if checkG g m = true then mostP g m.toNat else []
def allE (g : List (List Int)) (m : Int) (some : List Int) : Bool := nearOk g m some && allB g m.toNat some
theorem most_ok {g : List (List Int)} {m : Nat} (h : checkG g m = true) : mostErr g m = 0 ∧ mostE g m = mostP g m := by
  simp [mostErr, mostE, h]
theorem most_bad {g : List (List Int)} {m : Int} (h : checkG g m = false) : mostErr g m = 1 ∧ mostE g m = [] := by
  simp [mostErr, mostE, h]
end Go.Proofs.YtdckoaljcklmhaaGreatDoor


namespace Go.Proofs.YtdckoaljcklmhaaGreatDoor
set_option linter.unusedVariables false

def onlyR (g : List (List Int)) (s : List Int) (n : Nat) : List (List Int) := (List.range n).map fun (i : Nat) => if (i : Int) ∈ s then g.getD i [] else []
def onlyG (g : List (List Int)) (s : List Int) : List (List Int) := onlyR g s g.length
section
variable {g : List (List Int)} {s : List Int} {m : Nat}
theorem onlyR_succ (n : Nat) : onlyR g s (n + 1) = onlyR g s n ++ [if (n : Int) ∈ s then g.getD n [] else []] := by
  rw [onlyR, onlyR, List.range_succ, List.map_append]; rfl
theorem onlyR_len (n : Nat) : (onlyR g s n).length = n := by simp [onlyR]
theorem only_len : (onlyG g s).length = g.length := by simp [onlyG, onlyR]
theorem only_get {i : Nat} (hi : i < g.length) : (onlyG g s).getD i [] = if (i : Int) ∈ s then g.getD i [] else [] := by
  rw [List.getD_eq_getElem?_getD, onlyG, onlyR, List.getElem?_map, List.getElem?_range hi]; rfl
theorem only_check (hc : checkG g m = true) : checkG (onlyG g s) m = true := by
  obtain ⟨h1, h2, h3, h4⟩ := checkG_iff.1 hc
  refine checkG_iff.2 ⟨h1, h2, by rw [only_len]; exact h3, fun l hl => ?_⟩
  obtain ⟨i, hi, rfl⟩ := List.mem_map.1 hl
  have hi := List.mem_range.1 hi
  by_cases h : (i : Int) ∈ s
  · rw [if_pos h]; exact h4 _ (getD_mem hi)
  · rw [if_neg h]; exact rises_nil _
/-- Who has an item. -/
def hadG (l : List Int) : List Int := ((List.range l.length).filter fun i => decide (l.getD i (-1) ≠ -1)).map fun (i : Nat) => (i : Int)
theorem hadG_len (l : List Int) : (hadG l).length = manyG l := by
  rw [hadG, List.length_map, many_range, List.countP_eq_length_filter]
theorem hadG_nodup (l : List Int) : (hadG l).Nodup :=
  List.Pairwise.map _ (fun a b h => by omega) (List.nodup_range.filter _)
theorem mem_hadG {l : List Int} {i : Nat} : (i : Int) ∈ hadG l ↔ i < l.length ∧ l.getD i (-1) ≠ -1 := by
  rw [hadG, List.mem_map]
  constructor
  · rintro ⟨j, hj, e⟩
    obtain rfl : j = i := by omega
    have := List.mem_filter.1 hj
    exact ⟨List.mem_range.1 this.1, of_decide_eq_true this.2⟩
  · rintro ⟨h1, h2⟩
    exact ⟨i, List.mem_filter.2 ⟨List.mem_range.2 h1, decide_eq_true h2⟩, rfl⟩
theorem mem_of_full {s T : List Int} (hT : T.Nodup) (hs : ∀ x ∈ T, x ∈ s) (hl : s.length ≤ T.length) : ∀ x ∈ s, x ∈ T := by
  intro x hx
  refine Classical.byContradiction fun h => ?_
  have := nodup_sub (a := x :: T) (b := s) (List.nodup_cons.2 ⟨h, hT⟩) (fun y hy => by
    rcases List.mem_cons.1 hy with rfl | hy
    · exact hx
    · exact hs y hy)
  simp only [List.length_cons] at this
  omega
theorem only_had (hc : checkG g m = true) : ∀ x ∈ hadG (mostP (onlyG g s) m), x ∈ s := by
  intro x hx
  have f := (most_end (only_check (s := s) hc)).fit
  obtain ⟨i, hi, rfl⟩ := List.mem_map.1 hx
  have hi := mem_hadG.1 hx
  have hl := f.len
  rw [only_len] at hl
  have h1 := f.item i hi.1 hi.2
  rw [only_get (by omega)] at h1
  by_cases h : (i : Int) ∈ s
  · exact h
  · rw [if_neg h] at h1
    simp at h1
theorem nodup_rises {n : Int} (hs : Rises n s) : s.Nodup := hs.2.imp fun h => by omega
theorem only_le (hc : checkG g m = true) (hs : Rises g.length s) : manyG (mostP (onlyG g s) m) ≤ s.length := by
  rw [← hadG_len]
  exact nodup_sub (hadG_nodup _) (only_had hc)
theorem only_all (hc : checkG g m = true) (hs : Rises g.length s) (h : manyG (mostP (onlyG g s) m) = s.length) : allB g m s = true := by
  have f := (most_end (only_check (s := s) hc)).fit
  have hhad := only_had (s := s) hc
  have hlh := hadG_len (mostP (onlyG g s) m)
  have hnh := hadG_nodup (mostP (onlyG g s) m)
  generalize mostP (onlyG g s) m = l at *
  have hin := mem_of_full hnh hhad (by omega)
  have hit : ∀ i : Int, i ∈ s → i.toNat < l.length ∧ l.getD i.toNat (-1) ≠ -1 ∧ l.getD i.toNat (-1) ∈ g.getD i.toNat [] := fun i hi => by
    have h0 := hs.1 i hi
    obtain ⟨i, rfl⟩ : ∃ y : Nat, i = y := ⟨i.toNat, by omega⟩
    obtain ⟨h1, h2⟩ := mem_hadG.1 (hin _ hi)
    have h3 := f.item i h1 h2
    rw [only_get (by omega), if_pos hi] at h3
    exact ⟨h1, h2, h3⟩
  refine decide_eq_true ?_
  rw [← rowsG_len g s]
  refine (full_iff (rows_check hc hs)).2 ⟨s.map fun i => (g.getD i.toNat [], l.getD i.toNat (-1)), ?_, fun p hp => ?_, ?_⟩
  · rw [List.map_map]; rfl
  · obtain ⟨i, hi, rfl⟩ := List.mem_map.1 hp
    exact (hit i hi).2.2
  · rw [List.map_map]
    refine List.pairwise_map.2 (hs.2.imp_of_mem fun {a b} ha hb hab => ?_)
    have h1 := hs.1 a ha
    have h2 := hs.1 b hb
    exact f.one a.toNat b.toNat (hit a ha).1 (hit b hb).1 (by omega) (hit a ha).2.1
theorem all_only (hc : checkG g m = true) (hs : Rises g.length s) (h : allB g m s = true) : manyG (mostP (onlyG g s) m) = s.length := by
  have h0 := of_decide_eq_true h
  rw [← rowsG_len g s] at h0
  obtain ⟨ps, e1, e2, e3⟩ := (full_iff (rows_check hc hs)).1 h0
  have hpl : ps.length = s.length := by rw [← rowsG_len g s, ← e1, List.length_map]
  have hnd := nodup_rises hs
  obtain ⟨_, _, _, h4⟩ := checkG_iff.1 hc
  -- the item of each
  have hpj : ∀ j (hj : j < ps.length), ps[j].2 ∈ g.getD (s[j]'(by omega)).toNat [] := fun j hj => by
    have h1 := e2 _ (List.getElem_mem hj)
    have h2 : (ps.map Prod.fst)[j]'(by simpa using hj) = ps[j].1 := List.getElem_map _
    have h3 : (rowsG g s)[j]'(by rw [rowsG_len]; omega) = g.getD (s[j]'(by omega)).toNat [] := List.getElem_map _
    have h5 : (ps.map Prod.fst)[j]'(by simpa using hj) = (rowsG g s)[j]'(by rw [rowsG_len]; omega) := by simp only [e1]
    rw [← h3, ← h5, h2]
    exact h1
  have hrg : ∀ j (hj : j < ps.length), 0 ≤ ps[j].2 ∧ ps[j].2 < m := fun j hj => by
    have h1 := hs.1 _ (List.getElem_mem (show j < s.length by omega))
    exact (h4 _ (getD_mem (i := (s[j]'(by omega)).toNat) (by omega))).1 _ (hpj j hj)
  have hsn : ∀ j k (hj : j < ps.length) (hk : k < ps.length), j ≠ k → ps[j].2 ≠ ps[k].2 := fun j k hj hk hne he => by
    have h1 : (ps.map Prod.snd)[j]'(by simpa using hj) = (ps.map Prod.snd)[k]'(by simpa using hk) := by rw [List.getElem_map, List.getElem_map]; exact he
    exact hne ((List.getElem_inj e3).1 h1)
  have hl : ∃ l : List Int, l.length = g.length ∧ ∀ i, i < g.length → ((i : Int) ∉ s ∧ l.getD i (-1) = -1) ∨ ∃ j, ∃ hj : j < ps.length, s[j]'(by omega) = (i : Int) ∧ l.getD i (-1) = ps[j].2 := by
    refine ⟨(List.range g.length).map fun (i : Nat) => if (i : Int) ∈ s then (ps.map Prod.snd).getD (s.idxOf (i : Int)) (-1) else -1, by simp, fun i hi => ?_⟩
    have hg : ((List.range g.length).map fun (i : Nat) => if (i : Int) ∈ s then (ps.map Prod.snd).getD (s.idxOf (i : Int)) (-1) else -1).getD i (-1) = if (i : Int) ∈ s then (ps.map Prod.snd).getD (s.idxOf (i : Int)) (-1) else -1 := by
      rw [List.getD_eq_getElem?_getD, List.getElem?_map, List.getElem?_range hi]; rfl
    rw [hg]
    by_cases h : (i : Int) ∈ s
    · have h1 := List.idxOf_lt_length_of_mem h
      refine .inr ⟨s.idxOf (i : Int), by omega, List.getElem_idxOf h1, ?_⟩
      rw [if_pos h, List.getD_eq_getElem?_getD, List.getElem?_map, List.getElem?_eq_getElem (by omega)]; rfl
    · exact .inl ⟨h, if_neg h⟩
  obtain ⟨l, hll, hl⟩ := hl
  have f : Fit (onlyG g s) m l := by
    refine ⟨by rw [only_len]; exact hll, fun i hi h1 => ?_, fun i j hi hj hij h1 he => ?_, fun i hi h1 => ?_⟩
    · rcases hl i (by omega) with h2 | ⟨j, hj, h2, h3⟩
      · exact absurd h2.2 h1
      · rw [h3, only_get (by omega), if_pos (by rw [← h2]; exact List.getElem_mem _)]
        have := hpj j hj
        rwa [h2] at this
    · rcases hl i (by omega) with h2 | ⟨a, ha, h2, h3⟩
      · exact h1 h2.2
      · rcases hl j (by omega) with h4 | ⟨b, hb, h4, h5⟩
        · rw [← he] at h4; exact h1 h4.2
        · rw [h3, h5] at he
          by_cases hab : a = b
          · subst hab
            rw [h2] at h4
            omega
          · exact hsn a b ha hb hab he
    · rcases hl i (by omega) with h2 | ⟨j, hj, h2, h3⟩
      · exact absurd h2.2 h1
      · rw [h3]; exact hrg j hj
  have hmx := most_max (only_check (s := s) hc) f
  have hle := only_le (m := m) hc hs
  have hge : s.length ≤ manyG l := by
    rw [← hadG_len]
    refine nodup_sub hnd fun x hx => ?_
    have h1 := hs.1 x hx
    obtain ⟨i, rfl⟩ : ∃ y : Nat, x = y := ⟨x.toNat, by omega⟩
    refine mem_hadG.2 ⟨by omega, ?_⟩
    rcases hl i (by omega) with h2 | ⟨j, hj, h2, h3⟩
    · exact absurd hx h2.1
    · rw [h3]; have := hrg j hj; omega
  omega
theorem only_iff (hc : checkG g m = true) (hs : Rises g.length s) : allB g m s = decide (manyG (mostP (onlyG g s) m) = s.length) := by
  rw [Bool.eq_iff_iff, decide_eq_true_eq]
  exact ⟨all_only hc hs, only_all hc hs⟩
end
end Go.Proofs.YtdckoaljcklmhaaGreatDoor

