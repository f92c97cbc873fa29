/-
  More of what follows of a search: everything for everybody; others left out; the first free item; whom nothing helps.
-/
import Derived.Test.YtojpdmhccodckaaPaE
namespace Go.Proofs.Ytojpdmhccodckaa
set_option linter.unusedVariables false

section
variable {g g' : List (List Int)} {m : Nat} {has : List Int} {from_ : Int} {on : Bool}
theorem may_fits (h : mayP g m has from_ = true) : Fit g m has := fit_of (mayP_iff.1 h).1
theorem may_check (h : mayP g m has from_ = true) : checkG g m = true := (fitsG_iff.1 (mayP_iff.1 h).1).1
theorem more_fits (h : mayP g m has from_ = true) (hf : foundP g m has from_ = true) : More g m has from_ (moreS g m has from_) (moreP g m has from_) :=
  more_of h (of_decide_eq_true hf)
theorem more_none (hf : foundP g m has from_ = false) : moreP g m has from_ = [] := by
  have h := of_decide_eq_false hf
  rw [moreP, if_pos (Decidable.of_not_not h)]

/-- All may have all. -/
def fullG (n m : Nat) : List (List Int) := List.replicate n (upto m fun _ => true)
theorem fullG_len (n m : Nat) : (fullG n m).length = n := by simp [fullG]
theorem fullG_get {n m i : Nat} (h : i < n) : (fullG n m).getD i [] = upto m fun _ => true := by
  rw [fullG, List.getD_eq_getElem?_getD, List.getElem?_replicate, if_pos h]; rfl
theorem full_check (h : checkG g m = true) : checkG (fullG g.length m) m = true := by
  obtain ⟨h1, h2, h3, _⟩ := checkG_iff.1 h
  refine checkG_iff.2 ⟨h1, h2, by rw [fullG_len]; exact h3, fun l hl => ?_⟩
  rw [(List.mem_replicate.1 hl).2]
  exact upto_rises _ _
theorem full_may (h : mayP g m has from_ = true) : mayP (fullG g.length m) m has from_ = true := by
  have f := may_fits h
  obtain ⟨_, h2, h3⟩ := mayP_iff.1 h
  refine mayP_iff.2 ⟨fits_fit (full_check (may_check h)) ⟨by rw [fullG_len]; exact f.len, fun i hi hn => ?_, f.one, f.rng⟩, by rw [fullG_len]; exact h2, h3⟩
  rw [fullG_get (by rw [← f.len]; exact hi)]
  have := f.rng i hi hn
  exact mem_all.2 this
theorem full_what (h : mayP g m has from_ = true) : whatP (fullG g.length m) m has from_ = upto m fun _ => true := by
  have hd : Done (fullG g.length m) m has from_ true (reachS (fullG g.length m) m has from_) := done_of (full_may h)
  obtain ⟨_, h2, _⟩ := mayP_iff.1 h
  unfold whatP
  generalize reachS (fullG g.length m) m has from_ = s at hd
  have hfn : s.f = -1 := by
    rcases hd.core.found with h | ⟨_, _, _, _, _, h⟩
    · exact h
    · cases h
  refine upto_congr fun k hk => decide_eq_true ?_
  have h1 := hd.all hfn from_ (List.mem_of_getElem? hd.core.head) (k : Int) (by rw [fullG_get (by omega)]; exact mem_all.2 (by omega))
  rw [Int.toNat_natCast] at h1
  exact h1
theorem full_who (h : mayP g m has from_ = true) {b : Int} (hb : b ∈ whoP g m has from_) : b ∈ whoP (fullG g.length m) m has from_ := by
  have f := may_fits h
  have hf := full_may h
  by_cases he : b = from_
  · rw [he]; exact who_from hf
  · obtain ⟨i, hi, _, rfl⟩ := mem_upto.1 hb
    have h1 := who_has h hb he
    obtain ⟨k, hk, _, hh⟩ := mem_upto.1 h1
    exact what_who hf (b := i) (k := k) (by rw [f.len]; exact hi) hh (by rw [full_what h]; exact mem_all.2 (by omega))

/-! Others left out. -/
theorem scan_pre (i : Int) : ∀ (l : List Int) (s : St), s.q <+: (scanP has on i l s).q
  | [], _ => List.prefix_refl _
  | k :: l, s => (visit_pre has on k).trans (scan_pre i l _)
theorem run_pre : ∀ (fuel n : Nat) (s : St), s.q <+: (runP g has on fuel n s).q
  | 0, _, _ => List.prefix_refl _
  | fuel + 1, n, s => by
    rw [runP]
    split
    · exact (scan_pre _ _ _).trans (run_pre fuel _ _)
    · exact List.prefix_refl _
theorem mem_pre {a b : List Int} (h : a <+: b) {x : Int} (hx : x ∈ a) : x ∈ b := by
  obtain ⟨t, rfl⟩ := h
  exact List.mem_append_left _ hx
theorem run_congr (W : Int → Prop) (hW : ∀ b, W b → g.getD b.toNat [] = g'.getD b.toNat []) : ∀ (fuel n : Nat) (s : St), (∀ b ∈ (runP g has on fuel n s).q, W b) → runP g' has on fuel n s = runP g has on fuel n s
  | 0, _, _, _ => rfl
  | fuel + 1, n, s, h => by
    rw [runP] at h
    rw [runP, runP]
    by_cases hn : s.f = -1 ∧ n < s.q.length
    · rw [if_pos hn] at h
      rw [if_pos hn, if_pos hn]
      have hb : W (s.q.getD n 0) := by
        refine h _ (mem_pre ((scan_pre _ _ s).trans (run_pre fuel _ _)) ?_)
        rw [List.getD_eq_getElem?_getD, List.getElem?_eq_getElem hn.2]
        exact List.getElem_mem hn.2
      rw [← hW _ hb]
      exact run_congr W hW fuel (n + 1) _ h
    · rw [if_neg hn, if_neg hn]
theorem visit_q (i k : Int) (s : St) : (visitP has true i s k).q = (visitP has false i s k).q := by
  unfold visitP
  split
  · rfl
  · split
    · rfl
    · rw [if_pos rfl, if_neg (by simp)]
theorem scan_q (i : Int) : ∀ (l : List Int) (s : St), s.f = -1 → ((scanP has false i l s).f = -1 ∧ scanP has true i l s = scanP has false i l s) ∨ ((scanP has false i l s).f ≠ -1 ∧ (scanP has false i l s).q <+: (scanP has true i l s).q)
  | [], s, h => .inl ⟨h, rfl⟩
  | k :: l, s, h => by
    show ((scanP has false i l (visitP has false i s k)).f = -1 ∧ scanP has true i l (visitP has true i s k) = scanP has false i l (visitP has false i s k)) ∨ ((scanP has false i l (visitP has false i s k)).f ≠ -1 ∧ (scanP has false i l (visitP has false i s k)).q <+: (scanP has true i l (visitP has true i s k)).q)
    by_cases hf : (visitP has false i s k).f = -1
    · rw [visit_on i k s hf]
      exact scan_q i l _ hf
    · rw [scan_stop has false l hf]
      exact .inr ⟨hf, by rw [← visit_q]; exact scan_pre i l _⟩
theorem run_q : ∀ (fuel n : Nat) (s : St), s.f = -1 → (runP g has false fuel n s).q <+: (runP g has true fuel n s).q
  | 0, _, _, _ => List.prefix_refl _
  | fuel + 1, n, s, h => by
    rw [runP, runP]
    by_cases hn : s.f = -1 ∧ n < s.q.length
    · rw [if_pos hn, if_pos hn]
      rcases scan_q (has := has) (s.q.getD n 0) (g.getD (s.q.getD n 0).toNat []) s h with ⟨e1, e2⟩ | ⟨e1, e2⟩
      · rw [e2]; exact run_q fuel (n + 1) _ e1
      · have hst : ∀ s' : St, s'.f ≠ -1 → runP g has false fuel (n + 1) s' = s' := fun s' hs => by
          cases fuel with
          | zero => rfl
          | succ f => rw [runP, if_neg (fun h => hs h.1)]
        rw [hst _ e1]
        exact e2.trans (run_pre fuel _ _)
    · rw [if_neg hn, if_neg hn]; exact List.prefix_refl _
theorem more_q {b : Nat} (h : mayP g m has from_ = true) (hb : (b : Int) ∈ (moreS g m has from_).q) : (b : Int) ∈ whoP g m has from_ := by
  have hd : Done g m has from_ false (moreS g m has from_) := done_of h
  have h1 := hd.core.rng _ hb
  exact mem_upto_nat.2 ⟨by omega, decide_eq_true (mem_pre (run_q (m + 2) 0 (startP m from_) rfl) hb)⟩
/-- Where others' lists are other ones, the way is the same. -/
theorem others_same (h : mayP g m has from_ = true) (hg : ∀ b : Nat, (b : Int) ∈ whoP g m has from_ → g.getD b [] = g'.getD b []) : moreS g' m has from_ = moreS g m has from_ := by
  have hd : Done g m has from_ false (moreS g m has from_) := done_of h
  show runP g' has false (m + 2) 0 (startP m from_) = runP g has false (m + 2) 0 (startP m from_)
  refine run_congr (fun b => 0 ≤ b ∧ b ∈ whoP g m has from_) (fun b hb => ?_) (m + 2) 0 _ fun b hb => ?_
  · refine hg b.toNat ?_
    rw [Int.toNat_of_nonneg hb.1]; exact hb.2
  · have h1 := hd.core.rng b hb
    refine ⟨h1.1, ?_⟩
    have h2 := more_q h (b := b.toNat) (by rw [Int.toNat_of_nonneg h1.1]; exact hb)
    rw [Int.toNat_of_nonneg h1.1] at h2
    exact h2
theorem others_more (h : moreS g' m has from_ = moreS g m has from_) : moreP g' m has from_ = moreP g m has from_ ∧ foundP g' m has from_ = foundP g m has from_ := by
  rw [moreP, moreP, foundP, foundP, h]
  exact ⟨rfl, rfl⟩

/-! The first free item. -/
theorem scan_first (i k : Int) (l2 : List Int) : ∀ (l1 : List Int) (s : St), s.by_.length = m → s.f = -1 → (∀ y ∈ l1, (0 ≤ y ∧ y < m) ∧ holder has y ≠ -1 ∧ y < k) → 0 ≤ k → k < m → holder has k = -1 → ¬ s.vis k.toNat →
    (scanP has false i (l1 ++ k :: l2) s).f = k ∧ (scanP has false i (l1 ++ k :: l2) s).by_.getD k.toNat (-1) = i
  | [], s, hl, hs, _, hk, hkm, hh, hv => by
    have h1 : visitP has false i s k = ⟨s.q, s.by_.set k.toNat i, k⟩ := by
      unfold visitP
      rw [if_neg (by rintro (h | h); exact h hs; exact hv h), if_neg (by simp [hh]), if_neg (by simp)]
    have h2 : scanP has false i ([] ++ k :: l2) s = visitP has false i s k := by
      show scanP has false i l2 (visitP has false i s k) = _
      rw [scan_stop has false l2 (by rw [h1]; simp only; omega)]
    rw [h2, h1]
    refine ⟨rfl, ?_⟩
    simp only
    rw [getD_set (by omega), if_pos rfl]
  | y :: l1, s, hl, hs, h1, hk, hkm, hh, hv => by
    obtain ⟨hy, hyh, hyk⟩ := h1 y (by simp)
    have hnx : ∀ q f, ¬ (St.mk q (s.by_.set y.toNat i) f).vis k.toNat := fun q f => by
      unfold St.vis at hv ⊢
      simp only
      rw [getD_set (by omega), if_neg (by omega)]
      exact hv
    have h2 : (visitP has false i s y).by_.length = m ∧ (visitP has false i s y).f = -1 ∧ ¬ (visitP has false i s y).vis k.toNat := by
      unfold visitP
      by_cases hc : s.f ≠ -1 ∨ s.by_.getD y.toNat (-1) ≠ -1
      · rw [if_pos hc]; exact ⟨hl, hs, hv⟩
      · rw [if_neg hc, if_pos hyh]
        exact ⟨by simp [hl], rfl, hnx _ _⟩
    exact scan_first i k l2 l1 _ h2.1 h2.2.1 (fun z hz => h1 z (by simp [hz])) hk hkm hh h2.2.2
theorem near_first (h : mayP g m has from_ = true) {l1 l2 : List Int} {k : Int} (hl : g.getD from_.toNat [] = l1 ++ k :: l2) (h1 : ∀ y ∈ l1, y ∈ has) (hk : k ∉ has) : foundP g m has from_ = true ∧ moreP g m has from_ = has.set from_.toNat k := by
  have hck := may_check h
  have fit := may_fits h
  obtain ⟨_, h2, h3⟩ := mayP_iff.1 h
  have hrs := (checkG_iff.1 hck).2.2.2 _ (getD_mem (g := g) (i := from_.toNat) (by omega))
  rw [hl] at hrs
  have hkr := hrs.1 k (by simp)
  have hmh : ∀ y : Int, (0 ≤ y ∧ y < m) → (y ∈ has ↔ holder has y ≠ -1) := fun y hy => by
    have := mem_has fit (k := y.toNat)
    rw [Int.toNat_of_nonneg hy.1] at this
    exact this
  have hkh : holder has k = -1 := Decidable.of_not_not fun hn => hk ((hmh k hkr).2 hn)
  have hsc := scan_first (m := m) (has := has) from_ k l2 l1 (startP m from_) (by simp [startP]) rfl (fun y hy => ⟨hrs.1 y (by simp [hy]), (hmh y (hrs.1 y (by simp [hy]))).1 (h1 y hy), (List.pairwise_append.1 hrs.2).2.2 y hy k (by simp)⟩) hkr.1 hkr.2 hkh (fun hv => hv getD_repl)
  have hs : moreS g m has from_ = scanP has false from_ (l1 ++ k :: l2) (startP m from_) := by
    show runP g has false (m + 2) 0 (startP m from_) = _
    rw [runP, if_pos ⟨rfl, by simp [startP]⟩]
    have hq : (startP m from_).q.getD 0 0 = from_ := rfl
    rw [hq, hl, runP, if_neg (fun hc => by rw [hsc.1] at hc; omega)]
  rw [foundP, moreP, hs, hsc.1]
  refine ⟨decide_eq_true (by omega), ?_⟩
  rw [if_neg (by omega), augP, if_neg (by omega), hsc.2, h3]
  rw [augP, if_pos rfl]

/-! Whom nothing helps. -/
/-- From one that is shut in nothing is found. -/
theorem shut_none (h : mayP g m has from_ = true) {R : Nat → Prop} {T : Int → Prop} (hR : R from_.toNat) (hs : Shut g has R T) : foundP g m has from_ = false := by
  have hd : Done g m has from_ false (moreS g m has from_) := done_of h
  have fit := may_fits h
  rw [foundP]
  generalize moreS g m has from_ = s at hd
  refine decide_eq_false fun hf => ?_
  have hin : ∀ (p : Nat) (b : Int), s.q[p]? = some b → R b.toNat := by
    intro p
    induction p using Nat.strongRecOn with
    | _ p ih =>
      intro b hb
      by_cases hp0 : p = 0
      · rw [hp0, hd.core.head] at hb
        cases Option.some.inj hb
        exact hR
      · obtain ⟨hb0, hb1⟩ := hd.core.rng b (List.mem_of_getElem? hb)
        obtain ⟨k, hk, hv, hh⟩ := hd.core.wait p b (by omega) hb
        obtain ⟨r, a1, a2, a3⟩ := hd.core.come k hk hv
        have hbl : b.toNat < has.length := by rw [fit.len]; omega
        have hho : holder has (k : Int) = b.toNat := holder_of fit hbl hh (by omega)
        have hne : holder has (k : Int) ≠ -1 := by rw [hho]; omega
        obtain ⟨p', hp1, hp2⟩ := a3 hne
        rw [hho, Int.toNat_of_nonneg hb0] at hp2
        have hpp : p' = p := (List.getElem?_inj (List.getElem?_eq_some_iff.1 hp2).1 hd.core.nodup).1 (hp2.trans hb.symm)
        rw [hpp] at hp1
        have hT := hs.1 _ (ih r hp1 _ a1) _ a2
        obtain ⟨hk1, c, c1, c2, c3⟩ := hs.2 _ hT
        by_cases hcb : c = b.toNat
        · rw [← hcb]; exact c1
        · exact absurd (c3.trans hh.symm) (fit.one c b.toNat c2 hbl hcb (by rw [c3]; exact hk1))
  obtain ⟨k, hk, hfk, hv, hh, _⟩ := hd.core.found.resolve_left hf
  obtain ⟨r, a1, a2, _⟩ := hd.core.come k hk hv
  obtain ⟨hk1, c, c1, c2, c3⟩ := hs.2 _ (hs.1 _ (hin r _ a1) _ a2)
  rw [holder_of fit c2 c3 hk1] at hh
  omega
/-- Where none is found, whom one reaches is shut in. -/
theorem shut_of (h : mayP g m has from_ = true) (hf : foundP g m has from_ = false) : Shut g has (fun b => (b : Int) ∈ whoP g m has from_) (fun k => k ∈ whatP g m has from_) := by
  have fit := may_fits h
  refine ⟨fun b hb k hk => ?_, fun k hk => ?_⟩
  · have hkr := (checkG_iff.1 (may_check h)).2.2.2 _ (getD_mem (g := g) (i := b) (mem_upto_nat.1 hb).1)
    have hk' := hkr.1 k hk
    rw [← near_who h]
    obtain ⟨y, rfl⟩ : ∃ y : Nat, k = y := ⟨k.toNat, by omega⟩
    exact mem_nearG.2 ⟨by omega, _, hb, by rw [Int.toNat_natCast]; exact hk⟩
  · obtain ⟨y, hy, _, rfl⟩ := mem_upto.1 hk
    refine ⟨by omega, ?_⟩
    have hin : (y : Int) ∈ has := by
      rw [found_iff h] at hf
      have h0 := of_decide_eq_false hf
      have := List.countP_eq_zero.1 (Nat.eq_zero_of_not_pos h0) _ hk
      simpa using this
    obtain ⟨b, hb1, hb2, hb3⟩ := holder_some ((mem_has fit).1 hin)
    exact ⟨b, what_who h hb2 hb3 hk, hb2, hb3⟩
/-- Others' ways leave it so. -/
theorem shut_more {i : Int} (h : mayP g m has i = true) (hf : foundP g m has i = true) {R : Nat → Prop} {T : Int → Prop} (hs : Shut g has R T) : Shut g (moreP g m has i) R T ∧ ∀ b, R b → (moreP g m has i).getD b (-1) = has.getD b (-1) := by
  have hm := more_fits h hf
  have hk := hm.keep R T hs
  refine ⟨⟨hs.1, fun k hT => ?_⟩, hk⟩
  obtain ⟨h1, b, hb1, hb2, hb3⟩ := hs.2 k hT
  exact ⟨h1, b, hb1, by rw [hm.fit.len, ← (may_fits h).len]; exact hb2, by rw [hk b hb1]; exact hb3⟩
end
end Go.Proofs.Ytojpdmhccodckaa
