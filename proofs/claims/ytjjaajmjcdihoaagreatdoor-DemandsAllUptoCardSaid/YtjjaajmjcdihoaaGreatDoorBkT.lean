/-
  The end of a law that tells a Book of bytes, ints and lists of ints: what Apart asks, out of where each list lies.
-/
import Derived.Test.YtjjaajmjcdihoaaGreatDoorBkE
import Derived.Test.YtjjaajmjcdihoaaGreatDoorTwinM
namespace Go.Proofs.YtjjaajmjcdihoaaGreatDoor
open Go.RowKit
set_option linter.unusedVariables false

/-- A list, as it is held, with its number. -/
def Ls.held (u : Ls) (k : Nat) : Hl := ⟨u.A, u.n, u.c, none, 0, 0, k⟩
/-- Lists, as they are held one behind the other, from number N + 1 on. -/
def told : Nat → List Ls → List Hl
  | _, [] => []
  | N, u :: r => u.held (N + 1) :: told (N + 1) r
theorem told_snoc (N : Nat) (l : List Ls) (u : Ls) : told N (l ++ [u]) = told N l ++ [u.held (N + l.length + 1)] := by
  induction l generalizing N with
  | nil => rfl
  | cons x l ih => rw [List.cons_append, told, told, ih, List.cons_append, List.length_cons, show N + 1 + l.length + 1 = N + (l.length + 1) + 1 by omega]
theorem told_len (N : Nat) (l : List Ls) : (told N l).length = l.length := by
  induction l generalizing N with
  | nil => rfl
  | cons x l ih => rw [told, List.length_cons, ih, List.length_cons]
theorem told_mem {N : Nat} {l : List Ls} {h : Hl} (hm : h ∈ told N l) : ∃ u ∈ l, ∃ k, k ≤ N + l.length ∧ h = u.held k := by
  induction l generalizing N with
  | nil => simp [told] at hm
  | cons x l ih =>
    rw [told, List.mem_cons] at hm
    rcases hm with rfl | hm
    · exact ⟨x, by simp, N + 1, by simp, rfl⟩
    · obtain ⟨u, hu, k, hk, e⟩ := ih hm
      exact ⟨u, by simp [hu], k, by rw [List.length_cons]; omega, e⟩
theorem told_sep {N : Nat} {l : List Ls} (h : AptL l) : Sep (told N l) := by
  induction l generalizing N with
  | nil => exact List.Pairwise.nil
  | cons x l ih =>
    obtain ⟨h1, h2⟩ := List.pairwise_cons.1 h
    refine List.pairwise_cons.2 ⟨fun b hb g hg hg2 => ?_, ih h2⟩
    obtain ⟨u, hu, k, _, rfl⟩ := told_mem hb
    exact h1 u hu g hg hg2

/-- The tables are those of T, but for those of ints and of lists. -/
def SameT (T T' : Nat → Value) : Prop := ∀ j, j ≠ 1 → j ≠ 2 → j ≠ 4 → T' j = T j
theorem SameT.refl (T : Nat → Value) : SameT T T := fun _ _ _ _ => rfl
theorem SameT.trans {T T' T'' : Nat → Value} (h : SameT T T') (h2 : SameT T' T'') : SameT T T'' := fun j a b c => (h2 j a b c).trans (h j a b c)
theorem SameT.upd (T : Nat → Value) {j : Nat} (v : Value) (hj : j = 1 ∨ j = 2 ∨ j = 4) : SameT T (upd T j v) := fun i a b c => upd_ne _ _ (by omega)
theorem SameT.none_ {T T' : Nat → Value} (h : SameT T T') (h0 : ∀ j, j = 3 ∨ 5 ≤ j → T j = .slice none 0 0) : ∀ j, j = 3 ∨ 5 ≤ j → T' j = .slice none 0 0 := fun j hj => (h j (by omega) (by omega) (by omega)).trans (h0 j hj)

/-- A book that was told these lists more: ints i, lists of lists l, bytes b. -/
def more (H : Nat → List Hl) (b i l : List Hl) : Nat → List Hl := upd (upd (upd H 1 (H 1 ++ b)) 2 (H 2 ++ i)) 4 (H 4 ++ l)
theorem more_nil (H : Nat → List Hl) : more H [] [] [] = H := by
  funext j
  unfold more
  by_cases h4 : j = 4
  · subst h4; rw [upd_self, List.append_nil]
  · rw [upd_ne _ _ h4]
    by_cases h2 : j = 2
    · subst h2; rw [upd_self, List.append_nil]
    · rw [upd_ne _ _ h2]
      by_cases h1 : j = 1
      · subst h1; rw [upd_self, List.append_nil]
      · rw [upd_ne _ _ h1]
theorem more_more (H : Nat → List Hl) (b i l b' i' l' : List Hl) : more (more H b i l) b' i' l' = more H (b ++ b') (i ++ i') (l ++ l') := by
  funext j
  have e1 : more H b i l 1 = H 1 ++ b := rfl
  have e2 : more H b i l 2 = H 2 ++ i := rfl
  have e4 : more H b i l 4 = H 4 ++ l := rfl
  by_cases h4 : j = 4
  · subst h4
    show more H b i l 4 ++ l' = H 4 ++ (l ++ l')
    rw [e4, List.append_assoc]
  · by_cases h2 : j = 2
    · subst h2
      show more H b i l 2 ++ i' = H 2 ++ (i ++ i')
      rw [e2, List.append_assoc]
    · by_cases h1 : j = 1
      · subst h1
        show more H b i l 1 ++ b' = H 1 ++ (b ++ b')
        rw [e1, List.append_assoc]
      · unfold more
        simp only [upd_ne _ _ h4, upd_ne _ _ h2, upd_ne _ _ h1]
theorem more_one (H : Nat → List Hl) (h : Hl) : upd H 1 (H 1 ++ [h]) = more H [h] [] [] := by
  funext j
  unfold more
  by_cases h4 : j = 4
  · subst h4; rw [upd_self, List.append_nil]; rfl
  · by_cases h2 : j = 2
    · subst h2; rw [upd_ne _ _ h4, upd_self, List.append_nil]; rfl
    · rw [upd_ne _ _ h4, upd_ne _ _ h2]
theorem more_two (H : Nat → List Hl) (h : Hl) : upd H 2 (H 2 ++ [h]) = more H [] [h] [] := by
  funext j
  unfold more
  by_cases h4 : j = 4
  · subst h4; rw [upd_self, List.append_nil]; rfl
  · rw [upd_ne _ _ h4]
    by_cases h2 : j = 2
    · subst h2; rw [upd_self, upd_self]
    · rw [upd_ne _ _ h2, upd_ne _ _ h2]
      by_cases h1 : j = 1
      · subst h1; rw [upd_self, List.append_nil]
      · rw [upd_ne _ _ h1]
theorem more_four (H : Nat → List Hl) (h : Hl) : upd H 4 (H 4 ++ [h]) = more H [] [] [h] := by
  funext j
  unfold more
  by_cases h4 : j = 4
  · subst h4; rw [upd_self, upd_self]
  · rw [upd_ne _ _ h4, upd_ne _ _ h4]
    by_cases h2 : j = 2
    · subst h2; rw [upd_self, List.append_nil]
    · rw [upd_ne _ _ h2]
      by_cases h1 : j = 1
      · subst h1; rw [upd_self, List.append_nil]
      · rw [upd_ne _ _ h1]

abbrev Bkm (w : World) (kb N : Nat) (T : Nat → Value) (H : Nat → List Hl) : Prop := Bkn 46 tHs w kb N T H

/-- Each block is as it was, but for those of the book and its tables (told by their types). -/
def KeptT (w w' : World) : Prop := ∀ (X : Nat) (cur : Array Value) (t : TypeId), w.heap[X]? = some (.cells cur t (0, 0)) → t ≠ 46 → (∀ j, tHs j ≠ t) → w'.heap[X]? = w.heap[X]?
theorem KeptT.refl (w : World) : KeptT w w := fun _ _ _ _ _ _ => rfl
theorem KeptT.trans {w w' w'' : World} (h : KeptT w w') (h2 : KeptT w' w'') : KeptT w w'' := fun X cur t hx h1 h3 => (h2 X cur t ((h X cur t hx h1 h3).trans hx) h1 h3).trans (h X cur t hx h1 h3)
theorem KeptT.below {w w' : World} (h : Below w.heap.size w w') : KeptT w w' := fun X cur t hx _ _ => h.block X (Array.getElem?_eq_some_iff.1 hx).1
theorem Bkn.kept {w w' : World} {kb N : Nat} {T : Nat → Value} {H : Nat → List Hl} (hk : Bkm w kb N T H) {j : Nat} (hf : Fr (fun b => b = kb ∨ (T j).ownBlock = some b) w w') : KeptT w w' := by
  intro X cur t hx h1 h2
  refine hf.2 X (Array.getElem?_eq_some_iff.1 hx).1 ?_
  rintro (rfl | hb)
  · rw [hk.blk] at hx
    injection hx with hx
    injection hx with _ hx
    exact h1 hx.symm
  · rcases (hk.tab j).2 with ⟨hv, _⟩ | ⟨g, cap, cur', hv, _, hh, _⟩
    · rw [hv] at hb; cases hb
    · rw [hv] at hb
      have hg : g = X := by injection hb
      subst hg
      rw [hh] at hx
      injection hx with hx
      injection hx with _ hx
      exact h2 j hx

theorem toldInts (kb N : Nat) (T : Nat → Value) (H : Nat → List Hl) (u : Ls) (w : World) (hk : Bkm w kb N T H) (hN : N < 1000000) (hl : (H 2).length ≤ 1000000) :
    Calls Tryz.prog 13 #[.pointer (some ⟨kb, 0, none⟩), .slice u.A u.n u.c] w fun e w' => e = .returned (.tuple #[]) ∧ ∃ T', SameT T T' ∧ Bkm w' kb (N + 1) T' (more H [] [u.held (N + 1)] []) ∧ Below kb w w' ∧ KeptT w w' :=
  (told9Int kb N T H u.A u.n u.c w hk hN hl).mono fun e w' ⟨h1, v', h2, h3, h4⟩ => ⟨h1, _, SameT.upd T v' (.inr (.inl rfl)), by rw [← more_two]; exact h2, h3, hk.kept h4⟩

set_option maxRecDepth 100000 in
set_option maxHeartbeats 1000000 in
theorem toldIntLists (kb N : Nat) (T : Nat → Value) (H : Nat → List Hl) (A : Option Addr) (n c : Nat) (l : List Ls) (w : World) (hk : Bkm w kb N T H)
    (hat : RdR w 1 A n (l.map fun u => [u.v])) (hA : ∀ p q, 0 < n → A = some ⟨p, q, none⟩ → p < kb) (hn : n ≤ maxLen) (hN : N + n < 1000000) (hl2 : (H 2).length + n ≤ 1000000) (hl4 : (H 4).length ≤ 1000000) :
    Calls Tryz.prog 14 #[.pointer (some ⟨kb, 0, none⟩), .slice A n c] w fun e w' => e = .returned (.tuple #[]) ∧ ∃ T', SameT T T' ∧ Bkm w' kb (N + n + 1) T' (more H [] (told N l) [⟨A, n, c, none, 0, 0, N + n + 1⟩]) ∧ Below kb w w' ∧ KeptT w w' := by
  have hlen : l.length = n := by have := hat.1; simpa using this
  have HL := Lib.hid hlen
  clear hlen
  unfold maxLen at hn
  go_enter Tryz.func14, Tryz.ntmps14
  go_wp2_with fail
  go_loopw [4] (fun i wr => ∃ (j : Nat) (T' : Nat → Value), j ≤ n ∧ i = .int .i64 j ∧ SameT T T' ∧ Bkm wr kb (N + j) T' (more H [] (told N (l.take j)) []) ∧ Below kb w wr ∧ KeptT w wr) (fun i _ => n - (intOf i).toNat)
  case atStart => exact ⟨0, T, Nat.zero_le _, rfl, SameT.refl T, by rw [List.take_zero]; show Bkm w kb (N + 0) T (more H [] [] []); rw [more_nil]; exact hk, Below.refl _ _, KeptT.refl w⟩
  case round =>
    obtain ⟨j, T', hj, rfl, hsame, hkr, hbel, hkt⟩ := hrel
    by_cases hlt : j < n
    · obtain ⟨p, q, hA1, hc⟩ := hat.2 (by omega)
      have hp := hA p q (by omega) hA1
      subst hA1
      have hjl : j < l.length := by rw [HL.out]; exact hlt
      have h1 := hc j [l[j].v] (by simp [hjl]) 0 (by omega)
      rw [Nat.mul_one, Nat.add_zero] at h1
      have htake := List.take_succ_eq_append_getElem hjl
      have htl : (l.take j).length = j := by rw [List.length_take, HL.out]; omega
      have hs := told_snoc N (l.take j) l[j]
      rw [← htake, htl] at hs
      have HS := Lib.hid hs
      generalize l[j] = u at h1 HS
      have hcell : wr.cell? ⟨p, q + j, none⟩ = some (.slice u.A u.n u.c) := (World.cell?_of_block (hbel.block p hp)).trans h1
      have hl2' : (more H [] (told N (l.take j)) [] 2).length ≤ 1000000 := by
        show (H 2 ++ told N (l.take j)).length ≤ 1000000
        rw [List.length_append, told_len, htl]
        omega
      clear hc h1 htake htl hs
      go_wp2_with fail
      refine (toldInts kb (N + j) T' _ u wr hkr (by omega) hl2').mono ?_
      rintro e w2 ⟨rfl, T2, hs2, hk2, hb2, hkt2⟩
      simp only [more_more, List.append_nil] at hk2
      rw [← HS.out] at hk2
      have hkt3 := hkt.trans hkt2
      have hb3 := hbel.trans hb2
      have hs3 := hsame.trans hs2
      clear hkr hbel hb2 hs2 hsame
      go_wp2
      go_roundw
      case rel => exact ⟨j + 1, T2, by omega, by go_num, hs3, hk2, hb3, hkt3⟩
      case measure => simp [intOf]; omega
    · obtain rfl : j = n := by omega
      rw [List.take_of_length_le (by rw [HL.out]; exact Nat.le_refl _)] at hkr
      go_wp2_with fail
      refine (keep9IntList kb (N + j) T' _ A j c wr hkr (by omega) (by show (H 4 ++ []).length ≤ _; rw [List.append_nil]; exact hl4)).mono ?_
      rintro e w2 ⟨rfl, v', hk2, hb2, hf2⟩
      rw [more_four] at hk2
      simp only [more_more, List.append_nil, List.nil_append] at hk2
      have hkt3 := hkt.trans (hkr.kept hf2)
      have hb3 := hbel.trans hb2
      go_wp2
      go_end0
      exact ⟨rfl, _, hsame.trans (SameT.upd T' v' (.inr (.inr rfl))), hk2, hb3, hkt3⟩

theorem tHs_market : ∀ j, tHs j ≠ 25 := by
  intro j
  unfold tHs
  split <;> decide

set_option maxRecDepth 100000 in
set_option maxHeartbeats 1000000 in
theorem toldMarket (kb N : Nat) (T : Nat → Value) (H : Nat → List Hl) (x : Mk) (w : World) (hk : Bkm w kb N T H)
    (hat : RdR w 1 x.A x.n (x.b.map fun u => [u.v])) (hA : ∀ p q, 0 < x.n → x.A = some ⟨p, q, none⟩ → p < kb) (hn : x.n ≤ maxLen) (hN : N + x.n + 3 < 1000000) (hl2 : (H 2).length + x.n + 3 ≤ 1000000) (hl4 : (H 4).length + 3 ≤ 1000000) :
    Calls Tryz.prog 12 #[.pointer (some ⟨kb, 0, none⟩), x.v] w fun e w' => e = .returned (.tuple #[]) ∧ ∃ T', SameT T T' ∧ Bkm w' kb (N + x.n + 3) T' (more H [] (x.r.held (N + 1) :: (told (N + 1) x.b ++ [x.o.held (N + x.n + 3)])) [⟨x.A, x.n, x.c, none, 0, 0, N + x.n + 2⟩]) ∧ Below kb w w' ∧ KeptT w w' := by
  have hkb := hk.lt
  unfold Mk.v Ls.v
  go_enter Tryz.func12, Tryz.ntmps12
  go_wp2_with fail
  have hbox : (w.alloc (Obj.cells #[Value.slice x.r.A x.r.n x.r.c, Value.slice x.A x.n x.c, Value.slice x.o.A x.o.n x.o.c] 25)).heap[w.heap.size]? = some (Obj.cells #[Value.slice x.r.A x.r.n x.r.c, Value.slice x.A x.n x.c, Value.slice x.o.A x.o.n x.o.c] 25) := heap_alloc_new w _
  have hbB : Below w.heap.size w (w.alloc (Obj.cells #[Value.slice x.r.A x.r.n x.r.c, Value.slice x.A x.n x.c, Value.slice x.o.A x.o.n x.o.c] 25)) := (Below.refl _ w).alloc (Nat.le_refl _) _
  generalize w.alloc (Obj.cells #[Value.slice x.r.A x.r.n x.r.c, Value.slice x.A x.n x.c, Value.slice x.o.A x.o.n x.o.c] 25) = W at hbox hbB ⊢
  have hcells : ∀ w', KeptT W w' → w'.cell? ⟨w.heap.size, 1, none⟩ = some (.slice x.A x.n x.c) ∧ w'.cell? ⟨w.heap.size, 2, none⟩ = some (.slice x.o.A x.o.n x.o.c) := by
    intro w' h
    have h1 := (h _ _ _ hbox (by decide) tHs_market).trans hbox
    exact ⟨by rw [cell_of_row w' w.heap.size 1 _ _ _ h1]; rfl, by rw [cell_of_row w' w.heap.size 2 _ _ _ h1]; rfl⟩
  refine (toldInts kb N T H x.r W (hk.below hbB) (by omega) (by omega)).mono ?_
  rintro e w1 ⟨rfl, T1, s1, k1, b1, t1⟩
  obtain ⟨c1, _⟩ := hcells w1 t1
  have hB1 : Below kb w w1 := (hbB.mono (by omega)).trans b1
  have hat1 : RdR w1 1 x.A x.n (x.b.map fun u => [u.v]) := by
    by_cases h0 : 0 < x.n
    · exact hat.keep fun p q e => hB1.block p (hA p q h0 e)
    · exact ⟨hat.1, fun h => absurd h h0⟩
  go_wp2_with fail
  refine (toldIntLists kb (N + 1) T1 _ x.A x.n x.c x.b w1 k1 hat1 hA hn (by omega) (by show (H 2 ++ [_]).length + _ ≤ _; rw [List.length_append, List.length_singleton]; omega) (by show (H 4 ++ []).length ≤ _; rw [List.append_nil]; omega)).mono ?_
  rintro e w2 ⟨rfl, T2, s2, k2, b2, t2⟩
  have t12 := t1.trans t2
  obtain ⟨_, c2⟩ := hcells w2 t12
  have hB2 := hB1.trans b2
  simp only [more_more, List.append_nil, List.nil_append] at k2
  have hlen : x.b.length = x.n := by have := hat.1; simpa using this
  go_wp2_with fail
  refine (toldInts kb (N + 1 + x.n + 1) T2 _ x.o w2 k2 (by omega) (by show (H 2 ++ ([_] ++ told _ _)).length ≤ _; rw [List.length_append, List.length_append, List.length_singleton, told_len, hlen]; omega)).mono ?_
  rintro e w3 ⟨rfl, T3, s3, k3, b3, t3⟩
  simp only [more_more, List.append_nil] at k3
  have hfin : Bkm w3 kb (N + x.n + 3) T3 (more H [] (x.r.held (N + 1) :: (told (N + 1) x.b ++ [x.o.held (N + x.n + 3)])) [⟨x.A, x.n, x.c, none, 0, 0, N + x.n + 2⟩]) := by
    rw [show N + 1 + x.n + 1 + 1 = N + x.n + 3 by omega, show N + 1 + x.n + 1 = N + x.n + 2 by omega] at k3
    simpa using k3
  have hB3 := hB2.trans b3
  have hT3 : KeptT w w3 := (KeptT.below hbB).trans (t12.trans t3)
  have hS3 := (s1.trans s2).trans s3
  clear k3 hcells hbox
  go_wp2
  go_end0
  exact ⟨rfl, T3, hS3, hfin, hB3, hT3⟩
end Go.Proofs.YtjjaajmjcdihoaaGreatDoor

namespace Go.Proofs.YtjjaajmjcdihoaaGreatDoor
open Go.RowKit
set_option linter.unusedVariables false

theorem more_mem {b i l : List Hl} {j : Nat} {h : Hl} (hm : h ∈ more noLists b i l j) : (j = 1 ∧ h ∈ b) ∨ (j = 2 ∧ h ∈ i) ∨ (j = 4 ∧ h ∈ l) := by
  by_cases h4 : j = 4
  · subst h4; exact .inr (.inr ⟨rfl, by simpa [more, upd_self, noLists] using hm⟩)
  · by_cases h2 : j = 2
    · subst h2; exact .inr (.inl ⟨rfl, by simpa [more, upd, noLists] using hm⟩)
    · by_cases h1 : j = 1
      · subst h1; exact .inl ⟨rfl, by simpa [more, upd, noLists] using hm⟩
      · simp [more, upd, noLists, h1, h2, h4] at hm
theorem more_cases (b i l : List Hl) (j : Nat) (p : List Hl → Prop) (h0 : p []) (h1 : p b) (h2 : p i) (h4 : p l) : p (more noLists b i l j) := by
  by_cases e4 : j = 4
  · subst e4; simpa [more, upd_self, noLists] using h4
  · by_cases e2 : j = 2
    · subst e2; simpa [more, upd, noLists] using h2
    · by_cases e1 : j = 1
      · subst e1; simpa [more, upd, noLists] using h1
      · simpa [more, upd, noLists, e1, e2, e4] using h0
theorem Bkn.offLt {tB : TypeId} {tH : Nat → TypeId} {w : World} {kb N : Nat} {T : Nat → Value} {H : Nat → List Hl} (h : Bkn tB tH w kb N T H) {g : Nat} (hg : g < kb) : OffLN kb T w.heap.size g :=
  ⟨Nat.lt_trans hg h.lt, by omega, fun j hj => by have := (h.tlt j g hj).1; omega⟩
theorem cross_types {w : World} {B B' : Nat} {e e' : TypeId} {a b : List Hl} (ha : ∀ h ∈ a, ∃ xs, Own w B e h.A h.n h.c xs) (hb : ∀ h ∈ b, ∃ xs, Own w B' e' h.A h.n h.c xs) (hne : e' ≠ e) : Cross a b := by
  refine Cross.of fun x hx y hy g hg hg2 => ?_
  obtain ⟨xs, ox⟩ := ha x hx
  obtain ⟨ys, oy⟩ := hb y hy
  obtain ⟨g', cur, hA, _, hh, _⟩ := ox.2.resolve_left (by have := hg.1; omega)
  rw [hg.2] at hA
  cases hA
  rcases own_apart oy hh hne with h0 | h0
  · have := hg2.1; omega
  · exact h0 hg2.2
/-- A list's place. -/
def Hl.key (h : Hl) : Option Addr × Nat := (h.A, h.c)
def Ls.key (u : Ls) : Option Addr × Nat := (u.A, u.c)
theorem sep_of_apt {l : List Ls} {hs : List Hl} (hk : hs.map Hl.key = l.map Ls.key) (h : AptL l) : Sep hs := by
  have h2 : (l.map Ls.key).Pairwise fun a b => ∀ g, 0 < a.2 ∧ a.1 = some ⟨g, 0, none⟩ → ¬ (0 < b.2 ∧ b.1 = some ⟨g, 0, none⟩) := List.pairwise_map.2 h
  rw [← hk] at h2
  exact List.pairwise_map.1 h2
theorem held_key (u : Ls) (k : Nat) : (u.held k).key = u.key := rfl
theorem told_key (N : Nat) (l : List Ls) : (told N l).map Hl.key = l.map Ls.key := by
  induction l generalizing N with
  | nil => rfl
  | cons u l ih => rw [told, List.map_cons, List.map_cons, ih]; rfl
theorem aptL_app {a b : List Ls} {s : Nat} (h1 : AptL a) (h2 : AptL b) (ha : ∀ x ∈ a, ∀ g, Blk x g → g < s) (hb : ∀ x ∈ b, ∀ g, Blk x g → s ≤ g) : AptL (a ++ b) :=
  List.pairwise_append.2 ⟨h1, h2, fun x hx y hy g hg hg2 => by have := ha x hx g hg; have := hb y hy g hg2; omega⟩

set_option maxRecDepth 100000 in
/-- Apart, of lists that were there ahead of the book. -/
theorem apart_lists (kb N B : Nat) (T : Nat → Value) (b i l : List Hl) (w : World) (hk : Bkm w kb N T (more noLists b i l)) (hT : SameT noTabs T)
    (o1 : ∀ h ∈ b, ∃ xs, Own w B 5 h.A h.n h.c xs) (o2 : ∀ h ∈ i, ∃ xs, Own w B 3 h.A h.n h.c xs) (o4 : ∀ h ∈ l, ∃ xs, Own w B 22 h.A h.n h.c xs)
    (lt : ∀ h, h ∈ b ∨ h ∈ i ∨ h ∈ l → (∀ g, Hit h g → g < kb) ∧ h.k < 1000000000 ∧ h.n ≤ 1000000000) (s1 : Sep b) (s2 : Sep i) (s4 : Sep l) (hl : b.length ≤ 1000000 ∧ i.length ≤ 1000000 ∧ l.length ≤ 1000000) (hBk : B ≤ kb) :
    Calls Tryz.prog 15 #[.pointer (some ⟨kb, 0, none⟩)] w fun e w' => e = .returned (.bool true) ∧ Below B w w' := by
  have mm : ∀ j h, h ∈ more noLists b i l j → h ∈ b ∨ h ∈ i ∨ h ∈ l := fun j h hm => by
    rcases more_mem hm with ⟨_, h1⟩ | ⟨_, h1⟩ | ⟨_, h1⟩
    · exact .inl h1
    · exact .inr (.inl h1)
    · exact .inr (.inr h1)
  have e1 : more noLists b i l 1 = b := by simp [more, upd, noLists]
  have e2 : more noLists b i l 2 = i := by simp [more, upd, noLists]
  have e4 : more noLists b i l 4 = l := by simp [more, upd, noLists]
  refine apart9 kb N B T _ w hk (hT.none_ fun _ _ => rfl) (by rw [e1]; exact o1) (by rw [e2]; exact o2) (by rw [e4]; exact o4)
    (fun j h hm g hg => hk.offLt ((lt h (mm j h hm)).1 g hg)) (fun j => more_cases b i l j Sep List.Pairwise.nil s1 s2 s4)
    (by rw [e1, e2]; exact cross_types o1 o2 (by decide)) (by rw [e1, e4]; exact cross_types o1 o4 (by decide)) (by rw [e2, e4]; exact cross_types o2 o4 (by decide))
    (fun j h hm => (lt h (mm j h hm)).2) (fun j => more_cases b i l j (fun x => x.length ≤ 1000000) (by simp) hl.1 hl.2.1 hl.2.2) hBk
end Go.Proofs.YtjjaajmjcdihoaaGreatDoor
