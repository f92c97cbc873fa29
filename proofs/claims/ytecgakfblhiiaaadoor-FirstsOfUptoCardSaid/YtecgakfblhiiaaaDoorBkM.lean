/-
  Walks of the Book with nine tables: told a list of lists of ints, a market.
-/
import Derived.Test.YtecgakfblhiiaaaDoorBkE
import Derived.Test.YtecgakfblhiiaaaDoorTwinM
namespace Go.Proofs.YtecgakfblhiiaaaDoor
open Go.RowKit
set_option linter.unusedVariables false

/-- A list, as it is held, with its number. -/
def Ls.held (u : Ls) (k : Nat) : Hl := ⟨u.A, u.n, u.c, none, 0, 0, k⟩
/-- Lists, as they are held one behind the other, from number N + 1 on. -/
def told : Nat → List Ls → List Hl
  | _, [] => []
  | N, u :: r => u.held (N + 1) :: told (N + 1) r
theorem told_snoc (N : Nat) (l : List Ls) (u : Ls) : told N (l ++ [u]) = told N l ++ [u.held (N + l.length + 1)] := by
  induction l generalizing N with
  | nil => rfl
  | cons x l ih => rw [List.cons_append, told, told, ih, List.cons_append, List.length_cons, show N + 1 + l.length + 1 = N + (l.length + 1) + 1 by omega]
theorem told_len (N : Nat) (l : List Ls) : (told N l).length = l.length := by
  induction l generalizing N with
  | nil => rfl
  | cons x l ih => rw [told, List.length_cons, ih, List.length_cons]
theorem told_mem {N : Nat} {l : List Ls} {h : Hl} (hm : h ∈ told N l) : ∃ u ∈ l, ∃ k, k ≤ N + l.length ∧ h = u.held k := by
  induction l generalizing N with
  | nil => simp [told] at hm
  | cons x l ih =>
    rw [told, List.mem_cons] at hm
    rcases hm with rfl | hm
    · exact ⟨x, by simp, N + 1, by simp, rfl⟩
    · obtain ⟨u, hu, k, hk, e⟩ := ih hm
      exact ⟨u, by simp [hu], k, by rw [List.length_cons]; omega, e⟩
theorem told_sep {N : Nat} {l : List Ls} (h : AptL l) : Sep (told N l) := by
  induction l generalizing N with
  | nil => exact List.Pairwise.nil
  | cons x l ih =>
    obtain ⟨h1, h2⟩ := List.pairwise_cons.1 h
    refine List.pairwise_cons.2 ⟨fun b hb g hg hg2 => ?_, ih h2⟩
    obtain ⟨u, hu, k, _, rfl⟩ := told_mem hb
    exact h1 u hu g hg hg2

/-- The tables are those of T, but for those of ints and of lists. -/
def SameT (T T' : Nat → Value) : Prop := ∀ j, j ≠ 1 → j ≠ 2 → j ≠ 4 → T' j = T j
theorem SameT.refl (T : Nat → Value) : SameT T T := fun _ _ _ _ => rfl
theorem SameT.trans {T T' T'' : Nat → Value} (h : SameT T T') (h2 : SameT T' T'') : SameT T T'' := fun j a b c => (h2 j a b c).trans (h j a b c)
theorem SameT.upd (T : Nat → Value) {j : Nat} (v : Value) (hj : j = 1 ∨ j = 2 ∨ j = 4) : SameT T (upd T j v) := fun i a b c => upd_ne _ _ (by omega)
theorem SameT.none_ {T T' : Nat → Value} (h : SameT T T') (h0 : ∀ j, j = 3 ∨ 5 ≤ j → T j = .slice none 0 0) : ∀ j, j = 3 ∨ 5 ≤ j → T' j = .slice none 0 0 := fun j hj => (h j (by omega) (by omega) (by omega)).trans (h0 j hj)

/-- A book that was told these lists more: ints i, lists of lists l, bytes b. -/
def more (H : Nat → List Hl) (b i l : List Hl) : Nat → List Hl := upd (upd (upd H 1 (H 1 ++ b)) 2 (H 2 ++ i)) 4 (H 4 ++ l)
theorem more_nil (H : Nat → List Hl) : more H [] [] [] = H := by
  funext j
  unfold more
  by_cases h4 : j = 4
  · subst h4; rw [upd_self, List.append_nil]
  · rw [upd_ne _ _ h4]
    by_cases h2 : j = 2
    · subst h2; rw [upd_self, List.append_nil]
    · rw [upd_ne _ _ h2]
      by_cases h1 : j = 1
      · subst h1; rw [upd_self, List.append_nil]
      · rw [upd_ne _ _ h1]
theorem more_more (H : Nat → List Hl) (b i l b' i' l' : List Hl) : more (more H b i l) b' i' l' = more H (b ++ b') (i ++ i') (l ++ l') := by
  funext j
  have e1 : more H b i l 1 = H 1 ++ b := rfl
  have e2 : more H b i l 2 = H 2 ++ i := rfl
  have e4 : more H b i l 4 = H 4 ++ l := rfl
  by_cases h4 : j = 4
  · subst h4
    show more H b i l 4 ++ l' = H 4 ++ (l ++ l')
    rw [e4, List.append_assoc]
  · by_cases h2 : j = 2
    · subst h2
      show more H b i l 2 ++ i' = H 2 ++ (i ++ i')
      rw [e2, List.append_assoc]
    · by_cases h1 : j = 1
      · subst h1
        show more H b i l 1 ++ b' = H 1 ++ (b ++ b')
        rw [e1, List.append_assoc]
      · unfold more
        simp only [upd_ne _ _ h4, upd_ne _ _ h2, upd_ne _ _ h1]
theorem more_one (H : Nat → List Hl) (h : Hl) : upd H 1 (H 1 ++ [h]) = more H [h] [] [] := by
  funext j
  unfold more
  by_cases h4 : j = 4
  · subst h4; rw [upd_self, List.append_nil]; rfl
  · by_cases h2 : j = 2
    · subst h2; rw [upd_ne _ _ h4, upd_self, List.append_nil]; rfl
    · rw [upd_ne _ _ h4, upd_ne _ _ h2]
theorem more_two (H : Nat → List Hl) (h : Hl) : upd H 2 (H 2 ++ [h]) = more H [] [h] [] := by
  funext j
  unfold more
  by_cases h4 : j = 4
  · subst h4; rw [upd_self, List.append_nil]; rfl
  · rw [upd_ne _ _ h4]
    by_cases h2 : j = 2
    · subst h2; rw [upd_self, upd_self]
    · rw [upd_ne _ _ h2, upd_ne _ _ h2]
      by_cases h1 : j = 1
      · subst h1; rw [upd_self, List.append_nil]
      · rw [upd_ne _ _ h1]
theorem more_four (H : Nat → List Hl) (h : Hl) : upd H 4 (H 4 ++ [h]) = more H [] [] [h] := by
  funext j
  unfold more
  by_cases h4 : j = 4
  · subst h4; rw [upd_self, upd_self]
  · rw [upd_ne _ _ h4, upd_ne _ _ h4]
    by_cases h2 : j = 2
    · subst h2; rw [upd_self, List.append_nil]
    · rw [upd_ne _ _ h2]
      by_cases h1 : j = 1
      · subst h1; rw [upd_self, List.append_nil]
      · rw [upd_ne _ _ h1]

abbrev Bkm (w : World) (kb N : Nat) (T : Nat → Value) (H : Nat → List Hl) : Prop := Bkn 44 tHs w kb N T H

/-- Each block is as it was, but for those of the book and its tables (told by their types). -/
def KeptT (w w' : World) : Prop := ∀ (X : Nat) (cur : Array Value) (t : TypeId), w.heap[X]? = some (.cells cur t (0, 0)) → t ≠ 44 → (∀ j, tHs j ≠ t) → w'.heap[X]? = w.heap[X]?
theorem KeptT.refl (w : World) : KeptT w w := fun _ _ _ _ _ _ => rfl
theorem KeptT.trans {w w' w'' : World} (h : KeptT w w') (h2 : KeptT w' w'') : KeptT w w'' := fun X cur t hx h1 h3 => (h2 X cur t ((h X cur t hx h1 h3).trans hx) h1 h3).trans (h X cur t hx h1 h3)
theorem KeptT.below {w w' : World} (h : Below w.heap.size w w') : KeptT w w' := fun X cur t hx _ _ => h.block X (Array.getElem?_eq_some_iff.1 hx).1
theorem Bkn.kept {w w' : World} {kb N : Nat} {T : Nat → Value} {H : Nat → List Hl} (hk : Bkm w kb N T H) {j : Nat} (hf : Fr (fun b => b = kb ∨ (T j).ownBlock = some b) w w') : KeptT w w' := by
  intro X cur t hx h1 h2
  refine hf.2 X (Array.getElem?_eq_some_iff.1 hx).1 ?_
  rintro (rfl | hb)
  · rw [hk.blk] at hx
    injection hx with hx
    injection hx with _ hx
    exact h1 hx.symm
  · rcases (hk.tab j).2 with ⟨hv, _⟩ | ⟨g, cap, cur', hv, _, hh, _⟩
    · rw [hv] at hb; cases hb
    · rw [hv] at hb
      have hg : g = X := by injection hb
      subst hg
      rw [hh] at hx
      injection hx with hx
      injection hx with _ hx
      exact h2 j hx

theorem toldInts (kb N : Nat) (T : Nat → Value) (H : Nat → List Hl) (u : Ls) (w : World) (hk : Bkm w kb N T H) (hN : N < 1000000) (hl : (H 2).length ≤ 1000000) :
    Calls Tryd.prog 13 #[.pointer (some ⟨kb, 0, none⟩), .slice u.A u.n u.c] w fun e w' => e = .returned (.tuple #[]) ∧ ∃ T', SameT T T' ∧ Bkm w' kb (N + 1) T' (more H [] [u.held (N + 1)] []) ∧ Below kb w w' ∧ KeptT w w' :=
  (told9Int kb N T H u.A u.n u.c w hk hN hl).mono fun e w' ⟨h1, v', h2, h3, h4⟩ => ⟨h1, _, SameT.upd T v' (.inr (.inl rfl)), by rw [← more_two]; exact h2, h3, hk.kept h4⟩

set_option maxRecDepth 100000 in
set_option maxHeartbeats 1000000 in
theorem toldIntLists (kb N : Nat) (T : Nat → Value) (H : Nat → List Hl) (A : Option Addr) (n c : Nat) (l : List Ls) (w : World) (hk : Bkm w kb N T H)
    (hat : RdR w 1 A n (l.map fun u => [u.v])) (hA : ∀ p q, 0 < n → A = some ⟨p, q, none⟩ → p < kb) (hn : n ≤ maxLen) (hN : N + n < 1000000) (hl2 : (H 2).length + n ≤ 1000000) (hl4 : (H 4).length ≤ 1000000) :
    Calls Tryd.prog 12 #[.pointer (some ⟨kb, 0, none⟩), .slice A n c] w fun e w' => e = .returned (.tuple #[]) ∧ ∃ T', SameT T T' ∧ Bkm w' kb (N + n + 1) T' (more H [] (told N l) [⟨A, n, c, none, 0, 0, N + n + 1⟩]) ∧ Below kb w w' ∧ KeptT w w' := by
  have hlen : l.length = n := by have := hat.1; simpa using this
  have HL := Lib.hid hlen
  clear hlen
  unfold maxLen at hn
  go_enter Tryd.func12, Tryd.ntmps12
  go_wp2_with fail
  go_loopw [4] (fun i wr => ∃ (j : Nat) (T' : Nat → Value), j ≤ n ∧ i = .int .i64 j ∧ SameT T T' ∧ Bkm wr kb (N + j) T' (more H [] (told N (l.take j)) []) ∧ Below kb w wr ∧ KeptT w wr) (fun i _ => n - (intOf i).toNat)
  case atStart => exact ⟨0, T, Nat.zero_le _, rfl, SameT.refl T, by rw [List.take_zero]; show Bkm w kb (N + 0) T (more H [] [] []); rw [more_nil]; exact hk, Below.refl _ _, KeptT.refl w⟩
  case round =>
    obtain ⟨j, T', hj, rfl, hsame, hkr, hbel, hkt⟩ := hrel
    by_cases hlt : j < n
    · obtain ⟨p, q, hA1, hc⟩ := hat.2 (by omega)
      have hp := hA p q (by omega) hA1
      subst hA1
      have hjl : j < l.length := by rw [HL.out]; exact hlt
      have h1 := hc j [l[j].v] (by simp [hjl]) 0 (by omega)
      rw [Nat.mul_one, Nat.add_zero] at h1
      have htake := List.take_succ_eq_append_getElem hjl
      have htl : (l.take j).length = j := by rw [List.length_take, HL.out]; omega
      have hs := told_snoc N (l.take j) l[j]
      rw [← htake, htl] at hs
      have HS := Lib.hid hs
      generalize l[j] = u at h1 HS
      have hcell : wr.cell? ⟨p, q + j, none⟩ = some (.slice u.A u.n u.c) := (World.cell?_of_block (hbel.block p hp)).trans h1
      have hl2' : (more H [] (told N (l.take j)) [] 2).length ≤ 1000000 := by
        show (H 2 ++ told N (l.take j)).length ≤ 1000000
        rw [List.length_append, told_len, htl]
        omega
      clear hc h1 htake htl hs
      go_wp2_with fail
      refine (toldInts kb (N + j) T' _ u wr hkr (by omega) hl2').mono ?_
      rintro e w2 ⟨rfl, T2, hs2, hk2, hb2, hkt2⟩
      simp only [more_more, List.append_nil] at hk2
      rw [← HS.out] at hk2
      have hkt3 := hkt.trans hkt2
      have hb3 := hbel.trans hb2
      have hs3 := hsame.trans hs2
      clear hkr hbel hb2 hs2 hsame
      go_wp2
      go_roundw
      case rel => exact ⟨j + 1, T2, by omega, by go_num, hs3, hk2, hb3, hkt3⟩
      case measure => simp [intOf]; omega
    · obtain rfl : j = n := by omega
      rw [List.take_of_length_le (by rw [HL.out]; exact Nat.le_refl _)] at hkr
      go_wp2_with fail
      refine (keep9IntList kb (N + j) T' _ A j c wr hkr (by omega) (by show (H 4 ++ []).length ≤ _; rw [List.append_nil]; exact hl4)).mono ?_
      rintro e w2 ⟨rfl, v', hk2, hb2, hf2⟩
      rw [more_four] at hk2
      simp only [more_more, List.append_nil, List.nil_append] at hk2
      have hkt3 := hkt.trans (hkr.kept hf2)
      have hb3 := hbel.trans hb2
      go_wp2
      go_end0
      exact ⟨rfl, _, hsame.trans (SameT.upd T' v' (.inr (.inr rfl))), hk2, hb3, hkt3⟩

end Go.Proofs.YtecgakfblhiiaaaDoor
