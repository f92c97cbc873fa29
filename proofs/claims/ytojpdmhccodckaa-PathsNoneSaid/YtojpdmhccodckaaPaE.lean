/-
  What layer 7 (paths) answers, and what follows of it.
-/
import Derived.Test.YtojpdmhccodckaaPaD
namespace Go.Proofs.Ytojpdmhccodckaa
set_option linter.unusedVariables false

/-- May a search begin? -/
def mayP (g : List (List Int)) (items : Int) (has : List Int) (from_ : Int) : Bool := fitsG g items has && (decide (0 ≤ from_ ∧ from_ < g.length) && decide (has.getD from_.toNat (-1) = -1))
def moreS (g : List (List Int)) (m : Nat) (has : List Int) (from_ : Int) : St := searchP g m has from_ false
def reachS (g : List (List Int)) (m : Nat) (has : List Int) (from_ : Int) : St := searchP g m has from_ true
def foundP (g : List (List Int)) (m : Nat) (has : List Int) (from_ : Int) : Bool := decide ((moreS g m has from_).f ≠ -1)
def moreP (g : List (List Int)) (m : Nat) (has : List Int) (from_ : Int) : List Int := if (moreS g m has from_).f = -1 then [] else augP (moreS g m has from_).by_ (m + 2) (moreS g m has from_).f has
def whoP (g : List (List Int)) (m : Nat) (has : List Int) (from_ : Int) : List Int := upto g.length fun i => decide ((i : Int) ∈ (reachS g m has from_).q)
def whatP (g : List (List Int)) (m : Nat) (has : List Int) (from_ : Int) : List Int := upto m fun k => decide ((reachS g m has from_).vis k)

theorem mayP_iff {g : List (List Int)} {m : Nat} {has : List Int} {from_ : Int} : mayP g m has from_ = true ↔ fitsG g m has = true ∧ (0 ≤ from_ ∧ from_ < g.length) ∧ has.getD from_.toNat (-1) = -1 := by
  simp [mayP]
theorem fits_fit {g : List (List Int)} {m : Nat} {l : List Int} (hc : checkG g m = true) (f : Fit g m l) : fitsG g m l = true :=
  fits_of hc f.len f.item fun i j hj hi hn he => f.one i j hi (by omega) (by omega) hn he.symm

section
variable {g : List (List Int)} {m : Nat} {has : List Int} {from_ : Int} {on : Bool}
theorem done_of (h : mayP g m has from_ = true) : Done g m has from_ on (searchP g m has from_ on) := by
  obtain ⟨h1, h2, h3⟩ := mayP_iff.1 h
  exact search_done (fitsG_iff.1 h1).1 (fit_of h1) h2 h3
theorem q_len {s : St} (hd : Core g m has from_ on s) : s.q.length ≤ m + 1 := by
  have := hd.cnt
  have := held_le s has m
  omega
theorem more_of (h : mayP g m has from_ = true) (hf : (moreS g m has from_).f ≠ -1) : More g m has from_ (moreS g m has from_) (moreP g m has from_) := by
  obtain ⟨h1, h2, h3⟩ := mayP_iff.1 h
  have hd : Done g m has from_ false (moreS g m has from_) := done_of h
  have fit := fit_of h1
  rw [moreP, if_neg hf]
  generalize moreS g m has from_ = s at hf hd
  obtain ⟨k, hk, hfk, hv, hh, _⟩ := hd.core.found.resolve_left hf
  obtain ⟨r, a1, a2, _⟩ := hd.core.come k hk hv
  have hrl := (List.getElem?_eq_some_iff.1 a1).1
  have hql := q_len hd.core
  have hno := holder_none hh
  rw [hfk]
  refine aug_more fit h3 hd.core (m + 2) r k has (by omega) ⟨fit, by omega, fun i hi he => hno ?_, by rw [Int.toNat_natCast]; exact a1, by rw [Int.toNat_natCast]; exact a2, fun _ _ _ _ => rfl, rfl, fun i hi hn => .inr ⟨i, hi, rfl⟩, fun i hi hn => hn, fun i _ => rfl, fun R T hsh => ⟨fun hT => ?_, fun _ _ => rfl⟩⟩
  rotate_left
  · obtain ⟨_, c, _, hc2, hc3⟩ := hsh.2 _ hT
    have hho := holder_of fit hc2 hc3 (by omega)
    rw [hho] at hh
    omega
  rw [List.getD_eq_getElem?_getD, List.getElem?_eq_getElem hi] at he
  have he : has[i] = k := he
  rw [← he]; exact List.getElem_mem hi

/-- What is near to whom one reaches is what one reaches. -/
theorem near_who (h : mayP g m has from_ = true) : nearG g m (whoP g m has from_) = whatP g m has from_ := by
  have hd : Done g m has from_ true (reachS g m has from_) := done_of h
  unfold whoP whatP
  generalize reachS g m has from_ = s at hd
  have hfn : s.f = -1 := by
    rcases hd.core.found with h | ⟨_, _, _, _, _, h⟩
    · exact h
    · cases h
  refine upto_congr fun k hk => ?_
  rw [Bool.eq_iff_iff, List.any_eq_true, decide_eq_true_eq]
  constructor
  · rintro ⟨i, hi, hm⟩
    obtain ⟨j, _, hj, rfl⟩ := mem_upto.1 hi
    have h1 := hd.all hfn _ (of_decide_eq_true hj) (k : Int) (of_decide_eq_true hm)
    rw [Int.toNat_natCast] at h1
    exact h1
  · intro hv
    obtain ⟨r, a1, a2, _⟩ := hd.core.come k hk hv
    have hb := List.mem_of_getElem? a1
    obtain ⟨b0, b1⟩ := hd.core.rng _ hb
    refine ⟨_, mem_upto.2 ⟨(s.by_.getD k (-1)).toNat, by omega, decide_eq_true ?_, rfl⟩, decide_eq_true ?_⟩
    · rw [Int.toNat_of_nonneg b0]; exact hb
    · rw [Int.toNat_natCast]; exact a2
theorem who_from (h : mayP g m has from_ = true) : from_ ∈ whoP g m has from_ := by
  have hd : Done g m has from_ true (reachS g m has from_) := done_of h
  obtain ⟨_, h2, _⟩ := mayP_iff.1 h
  unfold whoP
  refine mem_upto.2 ⟨from_.toNat, by omega, decide_eq_true ?_, by omega⟩
  rw [Int.toNat_of_nonneg h2.1]
  exact List.mem_of_getElem? hd.core.head
/-- As many as there are, where each is there once. -/
theorem upto_nodup_len {n : Nat} {l : List Int} (hn : l.Nodup) (hr : ∀ b ∈ l, 0 ≤ b ∧ b < n) : (upto n fun i => decide ((i : Int) ∈ l)).length = l.length := by
  refine List.Perm.length_eq ((List.perm_ext_iff_of_nodup ?_ hn).2 fun x => ?_)
  · exact (upto_rises n _).2.imp fun h => by omega
  · rw [mem_upto]
    constructor
    · rintro ⟨i, _, h, rfl⟩; exact of_decide_eq_true h
    · intro h
      have := hr x h
      exact ⟨x.toNat, by omega, decide_eq_true (by rw [Int.toNat_of_nonneg this.1]; exact h), by omega⟩
theorem upto_count (n : Nat) (p : Nat → Bool) : (upto n p).length = (List.range n).countP p := by
  rw [upto, List.length_map, List.countP_eq_length_filter]
theorem mem_has (fit : Fit g m has) {k : Nat} : (k : Int) ∈ has ↔ holder has (k : Int) ≠ -1 := by
  constructor
  · intro hm h
    exact holder_none h hm
  · intro h
    obtain ⟨b, _, hb, hk⟩ := holder_some h
    rw [List.getD_eq_getElem?_getD, List.getElem?_eq_getElem hb] at hk
    have hk : has[b] = k := hk
    rw [← hk]; exact List.getElem_mem hb
/-- One more bidder is reached than items that are had. -/
theorem who_len (h : mayP g m has from_ = true) : (whoP g m has from_).length + (whatP g m has from_).countP (fun k => decide (k ∉ has)) = (whatP g m has from_).length + 1 := by
  have hd : Done g m has from_ true (reachS g m has from_) := done_of h
  have fit := fit_of (mayP_iff.1 h).1
  unfold whoP whatP
  generalize reachS g m has from_ = s at hd
  rw [upto_nodup_len hd.core.nodup hd.core.rng, hd.core.cnt, upto_count, upto, List.countP_map, St.held]
  rw [List.countP_filter]
  have h1 : ∀ l : List Nat, l.countP (fun k => decide (s.vis k) && decide (holder has (k : Int) ≠ -1)) + l.countP (fun k => ((fun k => decide (k ∉ has)) ∘ fun (i : Nat) => (i : Int)) k && decide (s.vis k)) = l.countP fun k => decide (s.vis k) := by
    intro l
    induction l with
    | nil => rfl
    | cons k l ih =>
      simp only [List.countP_cons, Function.comp] at ih ⊢
      by_cases hv : s.vis k
      · by_cases hh : holder has (k : Int) = -1
        · have hm : ¬ (k : Int) ∈ has := fun hm => (mem_has fit).1 hm hh
          simp [hv, hh, hm] at ih ⊢
          omega
        · have hm : (k : Int) ∈ has := (mem_has fit).2 hh
          simp [hv, hh, hm] at ih ⊢
          omega
      · simp [hv] at ih ⊢
        exact ih
  have := h1 (List.range m)
  omega

/-- The search that stops, and the one that goes on, as long as nothing is found. -/
theorem visit_on (i k : Int) (s : St) (hf : (visitP has false i s k).f = -1) : visitP has true i s k = visitP has false i s k := by
  unfold visitP at hf ⊢
  by_cases h1 : s.f ≠ -1 ∨ s.by_.getD k.toNat (-1) ≠ -1
  · rw [if_pos h1, if_pos h1]
  · rw [if_neg h1] at hf ⊢
    rw [if_neg h1]
    by_cases h2 : holder has k ≠ -1
    · rw [if_pos h2, if_pos h2]
    · rw [if_neg h2, if_neg (by simp)] at hf
      simp only at hf
      rw [if_neg h2, if_neg h2, if_pos rfl, if_neg (by simp), hf]
theorem visit_found (i k : Int) (s : St) (hs : s.f = -1) (hf : (visitP has false i s k).f ≠ -1) : (visitP has true i s k).by_ = (visitP has false i s k).by_ ∧ (visitP has true i s k).f = -1 := by
  unfold visitP at hf ⊢
  by_cases h1 : s.f ≠ -1 ∨ s.by_.getD k.toNat (-1) ≠ -1
  · rw [if_pos h1] at hf; exact absurd hs hf
  · rw [if_neg h1] at hf ⊢
    rw [if_neg h1]
    by_cases h2 : holder has k ≠ -1
    · rw [if_pos h2] at hf; exact absurd rfl hf
    · rw [if_neg h2, if_pos rfl, if_neg h2, if_neg (by simp)]
      exact ⟨rfl, rfl⟩
theorem scan_mono (i : Int) (hi : i ≠ -1) : ∀ (l : List Int) (s : St) {j : Nat}, s.vis j → (scanP has on i l s).vis j
  | [], _, _, h => h
  | k :: l, s, _, h => scan_mono i hi l _ (visit_mono has on k hi h)
theorem scan_on (i : Int) (hi : i ≠ -1) : ∀ (l : List Int) (s : St), s.f = -1 →
    ((scanP has false i l s).f = -1 ∧ scanP has true i l s = scanP has false i l s) ∨ ((scanP has false i l s).f ≠ -1 ∧ ∀ j, (scanP has false i l s).vis j → (scanP has true i l s).vis j)
  | [], s, h => .inl ⟨h, rfl⟩
  | k :: l, s, h => by
    show ((scanP has false i l (visitP has false i s k)).f = -1 ∧ scanP has true i l (visitP has true i s k) = scanP has false i l (visitP has false i s k)) ∨ ((scanP has false i l (visitP has false i s k)).f ≠ -1 ∧ ∀ j, (scanP has false i l (visitP has false i s k)).vis j → (scanP has true i l (visitP has true i s k)).vis j)
    by_cases hf : (visitP has false i s k).f = -1
    · rw [visit_on i k s hf]
      exact scan_on i hi l _ hf
    · obtain ⟨h1, h2⟩ := visit_found i k s h hf
      rw [scan_stop has false l hf]
      refine .inr ⟨hf, fun j hj => scan_mono i hi l _ ?_⟩
      unfold St.vis at hj ⊢
      rw [h1]; exact hj
theorem run_mono (hck : checkG g m = true) (fit : Fit g m has) (hf0 : has.getD from_.toNat (-1) = -1) : ∀ (fuel n : Nat) (s : St), Core g m has from_ on s → ∀ {j : Nat}, s.vis j → (runP g has on fuel n s).vis j
  | 0, n, s, _, _, h => h
  | fuel + 1, n, s, c, _, h => by
    rw [runP]
    by_cases hn : s.f = -1 ∧ n < s.q.length
    · rw [if_pos hn]
      have hg : s.q[n]? = some (s.q.getD n 0) := by rw [List.getD_eq_getElem?_getD, List.getElem?_eq_getElem hn.2]; rfl
      generalize s.q.getD n 0 = b at hg
      have hbm : b ∈ s.q := List.mem_of_getElem? hg
      obtain ⟨hb0, hb1⟩ := c.rng b hbm
      have hrs := (checkG_iff.1 hck).2.2.2 _ (getD_mem (g := g) (i := b.toNat) (by omega))
      have d := scan_core (on := on) (i := b) fit hf0 (g.getD b.toNat []) s c hbm (fun k hk => ⟨hrs.1 k hk, hk⟩)
      exact run_mono hck fit hf0 fuel (n + 1) _ d.1 (d.2.2.1 _ h)
    · rw [if_neg hn]; exact h
theorem run_on (hck : checkG g m = true) (fit : Fit g m has) (hf0 : has.getD from_.toNat (-1) = -1) : ∀ (fuel n : Nat) (s : St), Core g m has from_ false s → Core g m has from_ true s → s.f = -1 →
    ((runP g has false fuel n s).f = -1 ∧ runP g has true fuel n s = runP g has false fuel n s) ∨ ((runP g has false fuel n s).f ≠ -1 ∧ ∀ j, (runP g has false fuel n s).vis j → (runP g has true fuel n s).vis j)
  | 0, n, s, _, _, h => .inl ⟨h, rfl⟩
  | fuel + 1, n, s, c1, c2, h => by
    rw [runP, runP]
    by_cases hn : s.f = -1 ∧ n < s.q.length
    · rw [if_pos hn, if_pos hn]
      have hg : s.q[n]? = some (s.q.getD n 0) := by rw [List.getD_eq_getElem?_getD, List.getElem?_eq_getElem hn.2]; rfl
      generalize s.q.getD n 0 = b at hg
      have hbm : b ∈ s.q := List.mem_of_getElem? hg
      obtain ⟨hb0, hb1⟩ := c1.rng b hbm
      have hrs := (checkG_iff.1 hck).2.2.2 _ (getD_mem (g := g) (i := b.toNat) (by omega))
      have d1 := scan_core (on := false) (i := b) fit hf0 (g.getD b.toNat []) s c1 hbm (fun k hk => ⟨hrs.1 k hk, hk⟩)
      have d2 := scan_core (on := true) (i := b) fit hf0 (g.getD b.toNat []) s c2 hbm (fun k hk => ⟨hrs.1 k hk, hk⟩)
      rcases scan_on (has := has) b (by omega) (g.getD b.toNat []) s h with ⟨e1, e2⟩ | ⟨e1, e2⟩
      · rw [e2] at d2 ⊢
        exact run_on hck fit hf0 fuel (n + 1) _ d1.1 d2.1 e1
      · right
        have hst : runP g has false fuel (n + 1) (scanP has false b (g.getD b.toNat []) s) = scanP has false b (g.getD b.toNat []) s := by
          cases fuel with
          | zero => rfl
          | succ f => rw [runP, if_neg (fun h => e1 h.1)]
        rw [hst]
        refine ⟨e1, fun j hj => ?_⟩
        exact run_mono hck fit hf0 fuel (n + 1) _ d2.1 (e2 j hj)
    · rw [if_neg hn, if_neg hn]
      exact .inl ⟨h, rfl⟩
/-- A way is found just if an item is reached that nobody has. -/
theorem found_iff (h : mayP g m has from_ = true) : foundP g m has from_ = decide (0 < (whatP g m has from_).countP fun k => decide (k ∉ has)) := by
  have hdt : Done g m has from_ true (reachS g m has from_) := done_of h
  have hdf : Done g m has from_ false (moreS g m has from_) := done_of h
  obtain ⟨h1, h2, h3⟩ := mayP_iff.1 h
  have fit := fit_of h1
  have hon := run_on (fitsG_iff.1 h1).1 fit h3 (m + 2) 0 _ (start_core false h2) (start_core true h2) rfl
  have hon : ((moreS g m has from_).f = -1 ∧ reachS g m has from_ = moreS g m has from_) ∨ ((moreS g m has from_).f ≠ -1 ∧ ∀ j, (moreS g m has from_).vis j → (reachS g m has from_).vis j) := hon
  rw [foundP, decide_eq_decide, List.countP_pos_iff]
  unfold whatP
  generalize moreS g m has from_ = s at *
  generalize reachS g m has from_ = s' at *
  rcases hon with ⟨e1, e2⟩ | ⟨e1, e2⟩
  · refine ⟨fun h => absurd e1 h, ?_⟩
    rintro ⟨x, hx, hn⟩
    obtain ⟨k, hk, hv, rfl⟩ := mem_upto.1 hx
    have hv := of_decide_eq_true hv
    rw [e2] at hv
    exact absurd ((mem_has fit).2 (hdf.core.free rfl e1 k hk hv)) (of_decide_eq_true hn)
  · refine ⟨fun _ => ?_, fun _ => e1⟩
    obtain ⟨k, hk, hfk, hv, hh, _⟩ := hdf.core.found.resolve_left e1
    exact ⟨(k : Int), mem_upto.2 ⟨k, hk, decide_eq_true (e2 k hv), rfl⟩, decide_eq_true fun hm => (mem_has fit).1 hm hh⟩
/-- Whom one reaches has what is reached, but for the first. -/
theorem who_has (h : mayP g m has from_ = true) {b : Nat} (hb : (b : Int) ∈ whoP g m has from_) (hn : (b : Int) ≠ from_) : has.getD b (-1) ∈ whatP g m has from_ := by
  have hd : Done g m has from_ true (reachS g m has from_) := done_of h
  unfold whoP at hb
  unfold whatP
  generalize reachS g m has from_ = s at hd hb
  obtain ⟨_, hq⟩ := mem_upto_nat.1 hb
  obtain ⟨p, hp⟩ := List.getElem?_of_mem (of_decide_eq_true hq)
  by_cases hp0 : p = 0
  · rw [hp0, hd.core.head] at hp
    exact absurd (Option.some.inj hp).symm hn
  · obtain ⟨k, hk, hv, hh⟩ := hd.core.wait p _ (by omega) hp
    rw [Int.toNat_natCast] at hh
    rw [hh]
    exact mem_upto_nat.2 ⟨hk, decide_eq_true hv⟩
/-- Who has what is reached is reached. -/
theorem what_who (h : mayP g m has from_ = true) {b k : Nat} (hb : b < has.length) (hk : has.getD b (-1) = k) (hw : (k : Int) ∈ whatP g m has from_) : (b : Int) ∈ whoP g m has from_ := by
  have hd : Done g m has from_ true (reachS g m has from_) := done_of h
  have fit := fit_of (mayP_iff.1 h).1
  unfold whatP at hw
  unfold whoP
  generalize reachS g m has from_ = s at hd hw
  obtain ⟨hkm, hv⟩ := mem_upto_nat.1 hw
  have hho := holder_of fit hb hk (by omega)
  obtain ⟨r, _, _, a3⟩ := hd.core.come k hkm (of_decide_eq_true hv)
  obtain ⟨p, _, hp⟩ := a3 (by rw [hho]; omega)
  rw [hho] at hp
  exact mem_upto_nat.2 ⟨by rw [← fit.len]; exact hb, decide_eq_true (List.mem_of_getElem? hp)⟩
end
end Go.Proofs.Ytojpdmhccodckaa
