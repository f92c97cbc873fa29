/-
  Walks of package paths: a search as it lies in memory; what its steps are.
-/
import Derived.Test.YtojpdmhccodckaaPaO
import Derived.Test.YtojpdmhccodckaaReg
namespace Go.Proofs.Ytojpdmhccodckaa
open Go.RowKit
set_option linter.unusedVariables false

theorem holder_at {zs : List Int} {k : Int} {j : Nat} (hj : j < zs.length) (hno : k ∉ zs.take j) (hz : zs[j] = k) : holder zs k = j := by
  have : zs.findIdx? (fun x => decide (x = k)) = some j := by
    refine List.findIdx?_eq_some_iff_getElem.2 ⟨hj, by simp [hz], fun i hi => ?_⟩
    have hne : zs[i] ≠ k := fun he => hno (by
      rw [← he]
      exact List.mem_take_iff_getElem.2 ⟨i, by omega, rfl⟩)
    simp [hne]
  rw [holder, this]
theorem holder_no {zs : List Int} {k : Int} (h : k ∉ zs) : holder zs k = -1 := by
  have : zs.findIdx? (fun x => decide (x = k)) = none := List.findIdx?_eq_none_iff.2 fun x hx => by
    have hne : x ≠ k := fun he => h (he ▸ hx)
    simp [hne]
  rw [holder, this]
theorem holder_rng (zs : List Int) (k : Int) : -1 ≤ holder zs k ∧ holder zs k < zs.length := by
  by_cases h : holder zs k = -1
  · rw [h]; omega
  · obtain ⟨b, h1, h2, _⟩ := holder_some h
    rw [h1]; omega

/-- A search in memory: eight cells (who came to it) and who waits. -/
def SrAt (w : World) (b : Nat) (t : TypeId) (F : Nat → Int) (A : Option Addr) (n c : Nat) : Prop := ∃ cur : Array Value, w.heap[b]? = some (.cells cur t (0, 0)) ∧ cur.size = 9 ∧ (∀ k, k < 8 → cur[k]? = some (.int .i64 (F k))) ∧ cur[8]? = some (.slice A n c)
theorem SrAt.lt {w : World} {b : Nat} {t : TypeId} {F : Nat → Int} {A : Option Addr} {n c : Nat} (h : SrAt w b t F A n c) : b < w.heap.size := by obtain ⟨_, h1, _⟩ := h; exact (Array.getElem?_eq_some_iff.1 h1).1
theorem SrAt.cell {w : World} {b : Nat} {t : TypeId} {F : Nat → Int} {A : Option Addr} {n c : Nat} (h : SrAt w b t F A n c) {k : Nat} (hk : k < 8) : w.cell? ⟨b, k, none⟩ = some (.int .i64 (F k)) := by
  obtain ⟨cur, h1, h2, h3, _⟩ := h
  simp [World.cell?, h1, h3 k hk]
theorem SrAt.waits {w : World} {b : Nat} {t : TypeId} {F : Nat → Int} {A : Option Addr} {n c : Nat} (h : SrAt w b t F A n c) : w.cell? ⟨b, 8, none⟩ = some (.slice A n c) := by
  obtain ⟨cur, h1, h2, h3, h4⟩ := h
  simp [World.cell?, h1, h4]
theorem SrAt.frozen {w : World} {b : Nat} {t : TypeId} {F : Nat → Int} {A : Option Addr} {n c : Nat} (h : SrAt w b t F A n c) (k : Nat) : w.frozen? ⟨b, k, none⟩ = false := by
  obtain ⟨cur, h1, h2⟩ := h
  simp [World.frozen?, h1]
theorem SrAt.keep {w w' : World} {b : Nat} {t : TypeId} {F : Nat → Int} {A : Option Addr} {n c : Nat} (h : SrAt w b t F A n c) (hk : w'.heap[b]? = w.heap[b]?) : SrAt w' b t F A n c := by
  obtain ⟨cur, h1, h2⟩ := h
  exact ⟨cur, hk.trans h1, h2⟩
theorem SrAt.below {w w' : World} {b : Nat} {t : TypeId} {F : Nat → Int} {A : Option Addr} {n c : Nat} (h : SrAt w b t F A n c) (hb : Below w.heap.size w w') : SrAt w' b t F A n c := h.keep (hb.block b h.lt)
theorem SrAt.set {w : World} {b : Nat} {t : TypeId} {F F' : Nat → Int} {A : Option Addr} {n c : Nat} (h : SrAt w b t F A n c) {k : Nat} {v : Int} (hk : k < 8) (hF : ∀ j, j < 8 → F' j = if j = k then v else F j) : SrAt (w.setCell ⟨b, k, none⟩ (.int .i64 v)) b t F' A n c := by
  obtain ⟨cur, h1, h2, h3, h4⟩ := h
  refine ⟨cur.setIfInBounds k (.int .i64 v), heap_setCell_same w b k cur t _ h1, by rw [Array.size_setIfInBounds]; exact h2, fun j hj => ?_, ?_⟩
  · rw [Array.getElem?_setIfInBounds]
    by_cases he : k = j
    · subst he
      rw [if_pos rfl, if_pos (by omega), hF k hk, if_pos rfl]
    · rw [if_neg he, h3 j hj, hF j hj, if_neg (fun e => he e.symm)]
  · rw [Array.getElem?_setIfInBounds, if_neg (by omega)]; exact h4
theorem SrAt.setW {w : World} {b : Nat} {t : TypeId} {F : Nat → Int} {A : Option Addr} {n c : Nat} (h : SrAt w b t F A n c) (A' : Option Addr) (n' c' : Nat) : SrAt (w.setCell ⟨b, 8, none⟩ (.slice A' n' c')) b t F A' n' c' := by
  obtain ⟨cur, h1, h2, h3, h4⟩ := h
  refine ⟨cur.setIfInBounds 8 (.slice A' n' c'), heap_setCell_same w b 8 cur t _ h1, by rw [Array.size_setIfInBounds]; exact h2, fun j hj => ?_, ?_⟩
  · rw [Array.getElem?_setIfInBounds, if_neg (by omega)]; exact h3 j hj
  · rw [Array.getElem?_setIfInBounds, if_pos rfl, if_pos (by omega)]
/-- A store into a search leaves a list of another type as it was. -/
theorem Own.setS {w : World} {B : Nat} {e t : TypeId} {A : Option Addr} {n c b : Nat} {xs : List Value} {F : Nat → Int} {A2 : Option Addr} {n2 c2 : Nat} (h : Own w B e A n c xs) (hs : SrAt w b t F A2 n2 c2) (hne : t ≠ e) (j : Nat) (v : Value) : Own (w.setCell ⟨b, j, none⟩ v) B e A n c xs := by
  refine ⟨h.1, ?_⟩
  rcases h.2 with h0 | ⟨g, cur, hA, hg, hh, r⟩
  · exact .inl h0
  · refine .inr ⟨g, cur, hA, hg, ?_, r⟩
    rw [heap_setCell_other _ _ _ _ (show g ≠ b by
      rintro rfl
      obtain ⟨cur', h1, _⟩ := hs
      rw [hh] at h1
      exact hne (by cases h1; rfl))]
    exact hh
theorem OwnI.setS {w : World} {B : Nat} {t : TypeId} {b : Nat} {u : Ls} {F : Nat → Int} {A2 : Option Addr} {n2 c2 : Nat} (h : OwnI w B u) (hs : SrAt w b t F A2 n2 c2) (hne : t ≠ 3) (j : Nat) (v : Value) : OwnI (w.setCell ⟨b, j, none⟩ v) B u := ⟨h.own.setS hs hne j v, h.fit⟩

section
variable {g : List (List Int)} {m : Nat} {has : List Int} {from_ i : Int} {on : Bool} {s : St}
/-- An item that was come to already. -/
theorem visit_old {k : Int} (h : s.by_.getD k.toNat (-1) ≠ -1) : visitP has on i s k = s := by
  rw [visitP, if_pos (.inr h)]
theorem visit_held {k : Int} (hf : s.f = -1) (hs : s.by_.getD k.toNat (-1) = -1) (h : 0 ≤ holder has k) : visitP has on i s k = ⟨s.q ++ [holder has k], s.by_.set k.toNat i, -1⟩ := by
  rw [visitP, if_neg (by rintro (h1 | h1) <;> contradiction), if_pos (by omega)]
theorem visit_free {k : Int} (hf : s.f = -1) (hs : s.by_.getD k.toNat (-1) = -1) (h : holder has k = -1) : visitP has true i s k = ⟨s.q, s.by_.set k.toNat i, -1⟩ := by
  rw [visitP, if_neg (by rintro (h1 | h1) <;> contradiction), if_neg (by omega), if_pos rfl]
theorem visit_hit {k : Int} (hf : s.f = -1) (hs : s.by_.getD k.toNat (-1) = -1) (h : holder has k = -1) : visitP has false i s k = ⟨s.q, s.by_.set k.toNat i, k⟩ := by
  rw [visitP, if_neg (by rintro (h1 | h1) <;> contradiction), if_neg (by omega), if_neg (by simp)]
theorem run_stop {fuel n : Nat} (h : s.f ≠ -1) : runP g has on fuel n s = s := by
  cases fuel with
  | zero => rfl
  | succ f => rw [runP, if_neg (fun h' => h h'.1)]
theorem run_over {fuel n : Nat} (h : s.q.length ≤ n) : runP g has on fuel n s = s := by
  cases fuel with
  | zero => rfl
  | succ f => rw [runP, if_neg (fun h' => by omega)]
theorem run_next {fuel n : Nat} {b : Int} (hf : s.f = -1) (hn : s.q[n]? = some b) : runP g has on (fuel + 1) n s = runP g has on fuel (n + 1) (scanP has on b (g.getD b.toNat []) s) := by
  have h1 := (List.getElem?_eq_some_iff.1 hn).1
  rw [runP, if_pos ⟨hf, h1⟩, List.getD_eq_getElem?_getD, hn]
  rfl

/-- On the way: k is under way, and the bidders up to r have what they had. -/
structure Trk (g : List (List Int)) (m : Nat) (has : List Int) (s : St) (out : List Int) (k : Int) (r : Nat) : Prop where
  k0 : 0 ≤ k ∧ k < m
  by_ : s.q[r]? = some (s.by_.getD k.toNat (-1))
  same : ∀ (p : Nat) (b : Int), p ≤ r → s.q[p]? = some b → out.getD b.toNat (-1) = has.getD b.toNat (-1)
  len : out.length = g.length
theorem trk_step (fit : Fit g m has) (hf0 : has.getD from_.toNat (-1) = -1) (hc : Core g m has from_ on s) {out : List Int} {k b : Int} {r : Nat} (w : Trk g m has s out k r) (hb : s.by_.getD k.toNat (-1) = b) :
    (0 ≤ b ∧ b < g.length) ∧ out.getD b.toNat (-1) = has.getD b.toNat (-1) ∧ (has.getD b.toNat (-1) = -1 ∨ ∃ r', r' < r ∧ Trk g m has s (out.set b.toNat k) (has.getD b.toNat (-1)) r') := by
  have hby := w.by_
  rw [hb] at hby
  have hbq := List.mem_of_getElem? hby
  obtain ⟨hb0, hb1⟩ := hc.rng b hbq
  have hbl : b.toNat < out.length := by rw [w.len]; omega
  have hs : ∀ j, (out.set b.toNat k).getD j (-1) = if j = b.toNat then k else out.getD j (-1) := fun j => getD_set hbl
  have hob := w.same r b (Nat.le_refl _) hby
  refine ⟨⟨hb0, hb1⟩, hob, ?_⟩
  by_cases hr0 : r = 0
  · subst hr0
    rw [hc.head] at hby
    cases Option.some.inj hby
    exact .inl hf0
  · obtain ⟨k', hk', hv', hh⟩ := hc.wait r b (by omega) hby
    obtain ⟨r', h1, h2, h3⟩ := hc.come k' hk' hv'
    have hho : holder has (k' : Int) = b.toNat := holder_of fit (by rw [fit.len]; omega) hh (by omega)
    obtain ⟨p, hp1, hp2⟩ := h3 (by rw [hho]; omega)
    rw [hho, Int.toNat_of_nonneg hb0] at hp2
    have hpr : p = r := by
      have hpl := (List.getElem?_eq_some_iff.1 hp2).1
      exact (List.getElem?_inj hpl hc.nodup).1 (hp2.trans hby.symm)
    rw [hh]
    refine .inr ⟨r', by omega, by omega, by rw [Int.toNat_natCast]; exact h1, fun p' b' hp' hb' => ?_, by rw [List.length_set]; exact w.len⟩
    rw [hs]
    have hne : b'.toNat ≠ b.toNat := by
      intro he
      have hb0' := (hc.rng b' (List.mem_of_getElem? hb')).1
      have hbb : b' = b := by rw [← Int.toNat_of_nonneg hb0', he, Int.toNat_of_nonneg hb0]
      rw [hbb] at hb'
      have hpl := (List.getElem?_eq_some_iff.1 hb').1
      have h9 := (List.getElem?_inj hpl hc.nodup).1 (hb'.trans hby.symm)
      rw [hpr] at hp1
      exact absurd h9 (Nat.ne_of_lt (Nat.lt_of_le_of_lt hp' hp1))
    rw [if_neg hne]
    exact w.same p' b' (by omega) hb'
/-- Where the way begins. -/
theorem trk_start (fit : Fit g m has) (hd : Core g m has from_ false s) (hf : s.f ≠ -1) : ∃ r, r ≤ m ∧ Trk g m has s has s.f r := by
  obtain ⟨k, hk, hfk, hv, hh, _⟩ := hd.found.resolve_left hf
  obtain ⟨r, a1, a2, _⟩ := hd.come k hk hv
  have hrl := (List.getElem?_eq_some_iff.1 a1).1
  have hql := q_len hd
  rw [hfk]
  exact ⟨r, by omega, by omega, by rw [Int.toNat_natCast]; exact a1, fun _ _ _ _ => rfl, fit.len⟩
theorem aug_next {by_ : List Int} {fuel : Nat} {k b : Int} {out : List Int} (hk : k ≠ -1) (hb : by_.getD k.toNat (-1) = b) : augP by_ (fuel + 1) k out = augP by_ fuel (out.getD b.toNat (-1)) (out.set b.toNat k) := by
  rw [augP, if_neg hk, hb]
theorem aug_end {by_ : List Int} {fuel : Nat} {out : List Int} : augP by_ fuel (-1) out = out := by
  cases fuel with
  | zero => rfl
  | succ n => rw [augP, if_pos rfl]
/-- Who waited, in order. -/
theorem sorted_who {q : List Int} {n : Nat} (hn : q.Nodup) (hr : ∀ b ∈ q, 0 ≤ b ∧ b < n) : q.mergeSort (fun x y => decide (x ≤ y)) = upto n fun i => decide ((i : Int) ∈ q) := by
  have hp := List.mergeSort_perm q (fun x y => decide (x ≤ y))
  have hs : (q.mergeSort (fun x y => decide (x ≤ y))).Pairwise (fun x y => x ≤ y) := by
    have h := List.pairwise_mergeSort (le := fun x y : Int => decide (x ≤ y)) (fun a b c h1 h2 => by simp at *; omega) (fun a b => by simp; omega) q
    exact h.imp fun h => of_decide_eq_true h
  have hn2 : (q.mergeSort (fun x y => decide (x ≤ y))).Nodup := hp.nodup_iff.2 hn
  refine rise_ext ?_ (upto_rises n _).2 fun x => ?_
  · refine (hs.and hn2).imp fun h => ?_
    obtain ⟨h1, h2⟩ := h
    omega
  · rw [hp.mem_iff, mem_upto]
    constructor
    · intro h
      have := hr x h
      exact ⟨x.toNat, by omega, decide_eq_true (by rw [Int.toNat_of_nonneg this.1]; exact h), by omega⟩
    · rintro ⟨i, _, h, rfl⟩; exact of_decide_eq_true h
theorem what_upto {by_ : List Int} (hl : by_.length = m) (hm : m ≤ 8) : upto 8 (fun k => decide (by_.getD k (-1) ≠ -1)) = upto m fun k => decide (by_.getD k (-1) ≠ -1) := by
  refine rise_ext (upto_rises 8 _).2 (upto_rises m _).2 fun x => ?_
  rw [mem_upto, mem_upto]
  constructor
  · rintro ⟨i, h1, h2, rfl⟩
    refine ⟨i, ?_, h2, rfl⟩
    rcases Nat.lt_or_ge i m with h3 | h3
    · exact h3
    · have := of_decide_eq_true h2
      rw [List.getD_eq_getElem?_getD, List.getElem?_eq_none (by omega)] at this
      exact absurd rfl this
  · rintro ⟨i, h1, h2, rfl⟩
    exact ⟨i, by omega, h2, rfl⟩
end
end Go.Proofs.Ytojpdmhccodckaa
