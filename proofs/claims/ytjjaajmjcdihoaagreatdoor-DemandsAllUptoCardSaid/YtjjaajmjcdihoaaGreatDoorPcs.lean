/-
  The end of a law that tells a Book: what was told, piece by piece, each piece in blocks of its own range; then all of it is apart.
-/
import Derived.Test.YtjjaajmjcdihoaaGreatDoorBkT
import Derived.Test.YtjjaajmjcdihoaaGreatDoorMarkL
namespace Go.Proofs.YtjjaajmjcdihoaaGreatDoor
open Go.RowKit
set_option linter.unusedVariables false

/-- One thing that was told: its lists of bytes, of ints, of lists. -/
structure Pc where
  b : List Hl
  i : List Hl
  l : List Hl
structure Pc.Ok (w : World) (lo hi : Nat) (p : Pc) : Prop where
  le : lo ≤ hi
  ob : ∀ h ∈ p.b, ∃ xs, Own w lo 5 h.A h.n h.c xs
  oi : ∀ h ∈ p.i, ∃ xs, Own w lo 3 h.A h.n h.c xs
  ol : ∀ h ∈ p.l, ∃ xs, Own w lo 22 h.A h.n h.c xs
  sb : Sep p.b
  si : Sep p.i
  sl : Sep p.l
  lt : ∀ h, h ∈ p.b ∨ h ∈ p.i ∨ h ∈ p.l → (∀ g, Hit h g → g < hi) ∧ h.k < 1000000000 ∧ h.n ≤ 1000000000
theorem Pc.Ok.lo' {w : World} {lo hi : Nat} {p : Pc} (h : p.Ok w lo hi) (x : Hl) (hx : x ∈ p.b ∨ x ∈ p.i ∨ x ∈ p.l) (g : Nat) (hg : Hit x g) : lo ≤ g := by
  rcases hx with hx | hx | hx
  · exact (hit_lt (h.ob x hx) hg).1
  · exact (hit_lt (h.oi x hx) hg).1
  · exact (hit_lt (h.ol x hx) hg).1
def PcsB (ps : List Pc) : List Hl := (ps.map Pc.b).flatten
def PcsI (ps : List Pc) : List Hl := (ps.map Pc.i).flatten
def PcsL (ps : List Pc) : List Hl := (ps.map Pc.l).flatten
/-- The pieces lie one behind the other, up to kb. -/
inductive Pcs (w : World) (kb : Nat) : Nat → List Pc → Prop where
  | nil {lo : Nat} (h : lo ≤ kb) : Pcs w kb lo []
  | cons {lo hi lo2 : Nat} {p : Pc} {r : List Pc} (h : p.Ok w lo hi) (h2 : hi ≤ lo2) (h3 : Pcs w kb lo2 r) : Pcs w kb lo (p :: r)
theorem Pcs.le {w : World} {kb lo : Nat} {ps : List Pc} (h : Pcs w kb lo ps) : lo ≤ kb := by
  induction h with
  | nil h => exact h
  | cons h h2 h3 ih => have := h.le; omega
theorem Pcs.lo' {w : World} {kb lo : Nat} {ps : List Pc} (h : Pcs w kb lo ps) : ∀ x, (x ∈ PcsB ps ∨ x ∈ PcsI ps ∨ x ∈ PcsL ps) → ∀ g, Hit x g → lo ≤ g := by
  induction h with
  | nil h => intro x hx; simp [PcsB, PcsI, PcsL] at hx
  | @cons lo hi lo2 p r h h2 h3 ih =>
    intro x hx g hg
    simp only [PcsB, PcsI, PcsL, List.map_cons, List.flatten_cons, List.mem_append] at hx ih
    have hle := h.le
    rcases hx with (hx | hx) | (hx | hx) | (hx | hx)
    · exact h.lo' x (.inl hx) g hg
    · have := ih x (.inl hx) g hg; omega
    · exact h.lo' x (.inr (.inl hx)) g hg
    · have := ih x (.inr (.inl hx)) g hg; omega
    · exact h.lo' x (.inr (.inr hx)) g hg
    · have := ih x (.inr (.inr hx)) g hg; omega
theorem Pcs.all {w : World} {kb lo B : Nat} {ps : List Pc} (h : Pcs w kb lo ps) (hB : B ≤ lo) :
    (∀ h ∈ PcsB ps, ∃ xs, Own w B 5 h.A h.n h.c xs) ∧ (∀ h ∈ PcsI ps, ∃ xs, Own w B 3 h.A h.n h.c xs) ∧ (∀ h ∈ PcsL ps, ∃ xs, Own w B 22 h.A h.n h.c xs) ∧
    (∀ h, h ∈ PcsB ps ∨ h ∈ PcsI ps ∨ h ∈ PcsL ps → (∀ g, Hit h g → g < kb) ∧ h.k < 1000000000 ∧ h.n ≤ 1000000000) ∧ Sep (PcsB ps) ∧ Sep (PcsI ps) ∧ Sep (PcsL ps) := by
  induction h with
  | nil h => simp [PcsB, PcsI, PcsL, Sep]
  | @cons lo hi lo2 p r h h2 h3 ih =>
    have hle := h.le
    have hkb := h3.le
    obtain ⟨i1, i2, i3, i4, i5, i6, i7⟩ := ih (by omega)
    have hlo := h3.lo'
    simp only [PcsB, PcsI, PcsL, List.map_cons, List.flatten_cons] at i1 i2 i3 i4 i5 i6 i7 hlo ⊢
    have hl1 := h.lt
    refine ⟨?_, ?_, ?_, ?_, ?_, ?_, ?_⟩
    · intro x hx
      rcases List.mem_append.1 hx with hx | hx
      · obtain ⟨xs, o⟩ := h.ob x hx; exact ⟨xs, o.mono hB⟩
      · exact i1 x hx
    · intro x hx
      rcases List.mem_append.1 hx with hx | hx
      · obtain ⟨xs, o⟩ := h.oi x hx; exact ⟨xs, o.mono hB⟩
      · exact i2 x hx
    · intro x hx
      rcases List.mem_append.1 hx with hx | hx
      · obtain ⟨xs, o⟩ := h.ol x hx; exact ⟨xs, o.mono hB⟩
      · exact i3 x hx
    · intro x hx
      simp only [List.mem_append] at hx
      have hp : (x ∈ p.b ∨ x ∈ p.i ∨ x ∈ p.l) ∨ (x ∈ (r.map Pc.b).flatten ∨ x ∈ (r.map Pc.i).flatten ∨ x ∈ (r.map Pc.l).flatten) := by
        rcases hx with (hx | hx) | (hx | hx) | (hx | hx) <;> simp [hx]
      rcases hp with hp | hp
      · obtain ⟨a, b, c⟩ := hl1 x hp
        exact ⟨fun g hg => by have := a g hg; omega, b, c⟩
      · exact i4 x hp
    · exact List.pairwise_append.2 ⟨h.sb, i5, fun x hx y hy g hg hg2 => by have := (hl1 x (.inl hx)).1 g hg; have := hlo y (.inl hy) g hg2; omega⟩
    · exact List.pairwise_append.2 ⟨h.si, i6, fun x hx y hy g hg hg2 => by have := (hl1 x (.inr (.inl hx))).1 g hg; have := hlo y (.inr (.inl hy)) g hg2; omega⟩
    · exact List.pairwise_append.2 ⟨h.sl, i7, fun x hx y hy g hg hg2 => by have := (hl1 x (.inr (.inr hx))).1 g hg; have := hlo y (.inr (.inr hy)) g hg2; omega⟩

/-- Apart, of pieces. -/
theorem apart_pcs (kb N B lo : Nat) (T : Nat → Value) (b i l : List Hl) (ps : List Pc) (w : World) (hk : Bkm w kb N T (more noLists b i l)) (hT : SameT noTabs T)
    (hb : b = PcsB ps) (hi : i = PcsI ps) (hl : l = PcsL ps) (h : Pcs w kb lo ps) (hB : B ≤ lo) (hn : b.length ≤ 1000000 ∧ i.length ≤ 1000000 ∧ l.length ≤ 1000000) :
    Calls Tryz.prog 15 #[.pointer (some ⟨kb, 0, none⟩)] w fun e w' => e = .returned (.bool true) ∧ Below B w w' := by
  subst hb hi hl
  obtain ⟨i1, i2, i3, i4, i5, i6, i7⟩ := h.all hB
  have := h.le
  exact apart_lists kb N B T _ _ _ w hk hT i1 i2 i3 i4 i5 i6 i7 hn (by omega)

/-- Bytes. -/
def pcB (u : Ls) (k : Nat) : Pc := ⟨[u.held k], [], []⟩
/-- Ints. -/
def pcI (u : Ls) (k : Nat) : Pc := ⟨[], [u.held k], []⟩
/-- Lists of ints, told from number N on. -/
def pcL (A : Option Addr) (n c : Nat) (t : List Ls) (N : Nat) : Pc := ⟨[], told N t, [⟨A, n, c, none, 0, 0, N + n + 1⟩]⟩
/-- A market, told from number N on. -/
def pcM (y : Mk) (N : Nat) : Pc := ⟨[], y.held N, y.lists N⟩

theorem pcB_ok {w : World} {lo hi : Nat} {A : Option Addr} {n c k : Nat} {xs : List Value} {zs : List Int} (h : Own w lo 5 A n c xs) (hh : lo ≤ hi) (hg : ∀ g, 0 < c → A = some ⟨g, 0, none⟩ → g < hi) (hk : k < 1000000000) (hn : n ≤ 1000000000) : (pcB ⟨A, n, c, zs⟩ k).Ok w lo hi where
  le := hh
  ob := fun x hx => by rw [pcB, List.mem_singleton] at hx; subst hx; exact ⟨_, h⟩
  oi := fun x hx => by simp [pcB] at hx
  ol := fun x hx => by simp [pcB] at hx
  sb := List.pairwise_singleton _ _
  si := List.Pairwise.nil
  sl := List.Pairwise.nil
  lt := fun x hx => by
    simp only [pcB, List.not_mem_nil, or_false, List.mem_singleton] at hx
    subst hx
    exact ⟨fun g hg2 => hg g hg2.1 hg2.2, hk, hn⟩
theorem pcI_ok {w : World} {lo hi : Nat} {A : Option Addr} {n c k : Nat} {xs : List Value} {zs : List Int} (h : Own w lo 3 A n c xs) (hh : lo ≤ hi) (hg : ∀ g, 0 < c → A = some ⟨g, 0, none⟩ → g < hi) (hk : k < 1000000000) (hn : n ≤ 1000000000) : (pcI ⟨A, n, c, zs⟩ k).Ok w lo hi where
  le := hh
  ob := fun x hx => by simp [pcI] at hx
  oi := fun x hx => by rw [pcI, List.mem_singleton] at hx; subst hx; exact ⟨_, h⟩
  ol := fun x hx => by simp [pcI] at hx
  sb := List.Pairwise.nil
  si := List.pairwise_singleton _ _
  sl := List.Pairwise.nil
  lt := fun x hx => by
    simp only [pcI, List.not_mem_nil, or_false, false_or, List.mem_singleton] at hx
    subst hx
    exact ⟨fun g hg2 => hg g hg2.1 hg2.2, hk, hn⟩
theorem pcL_ok {w : World} {lo hi : Nat} {A : Option Addr} {n c N : Nat} {xs : List Value} {t : List Ls} (h : Own w lo 22 A n c xs) (hi' : ∀ u ∈ t, ∃ ys, Own w lo 3 u.A u.n u.c ys) (hap : AptL t) (hh : lo ≤ hi)
    (hg : ∀ g, 0 < c → A = some ⟨g, 0, none⟩ → g < hi) (hg2 : ∀ u ∈ t, ∀ g, Blk u g → g < hi) (hlen : t.length = n) (hk : N + n + 1 < 1000000000) (hn : ∀ u ∈ t, u.n ≤ 1000000000) : (pcL A n c t N).Ok w lo hi where
  le := hh
  ob := fun x hx => by simp [pcL] at hx
  oi := fun x hx => by
    obtain ⟨u, hu, k, _, rfl⟩ := told_mem hx
    exact hi' u hu
  ol := fun x hx => by rw [pcL, List.mem_singleton] at hx; subst hx; exact ⟨_, h⟩
  sb := List.Pairwise.nil
  si := told_sep hap
  sl := List.pairwise_singleton _ _
  lt := fun x hx => by
    simp only [pcL, List.not_mem_nil, false_or, List.mem_singleton] at hx
    rcases hx with hx | rfl
    · obtain ⟨u, hu, k, hk2, rfl⟩ := told_mem hx
      exact ⟨fun g hb => hg2 u hu g hb, by simp only [Ls.held]; omega, by simp only [Ls.held]; exact hn u hu⟩
    · exact ⟨fun g hb => hg g hb.1 hb.2, hk, by simp only; omega⟩
theorem pcM_ok {w : World} {lo hi N : Nat} {y : Mk} {xs : List Value} (hr : ∃ ys, Own w lo 3 y.r.A y.r.n y.r.c ys) (ho : ∃ ys, Own w lo 3 y.o.A y.o.n y.o.c ys) (hb : ∀ u ∈ y.b, ∃ ys, Own w lo 3 u.A u.n u.c ys) (h : Own w lo 22 y.A y.n y.c xs)
    (hap : AptL (y.r :: (y.b ++ [y.o]))) (hh : lo ≤ hi) (hg : ∀ u ∈ (y.r :: (y.b ++ [y.o])), ∀ g, Blk u g → g < hi) (hg2 : ∀ g, 0 < y.c → y.A = some ⟨g, 0, none⟩ → g < hi) (hlen : y.b.length = y.n) (hk : N + y.n + 3 < 1000000000) (hn : ∀ u ∈ (y.r :: (y.b ++ [y.o])), u.n ≤ 1000000000) : (pcM y N).Ok w lo hi where
  le := hh
  ob := fun x hx => by simp [pcM] at hx
  oi := fun x hx => by
    simp only [pcM, Mk.held, List.mem_cons, List.mem_append, List.not_mem_nil, or_false] at hx
    rcases hx with rfl | hx | rfl
    · exact hr
    · obtain ⟨u, hu, k, _, rfl⟩ := told_mem hx
      exact hb u hu
    · exact ho
  ol := fun x hx => by
    simp only [pcM, Mk.lists, List.mem_singleton] at hx
    subst hx
    exact ⟨_, h⟩
  sb := List.Pairwise.nil
  si := sep_of_apt (held_key_all y N) hap
  sl := List.pairwise_singleton _ _
  lt := fun x hx => by
    simp only [pcM, Mk.held, Mk.lists, List.mem_cons, List.mem_append, List.not_mem_nil, or_false, false_or] at hx
    rcases hx with (rfl | hx | rfl) | rfl
    · exact ⟨fun g hb => hg _ (by simp) g hb, by simp only [Ls.held]; omega, hn y.r (by simp)⟩
    · obtain ⟨u, hu, k, hk2, rfl⟩ := told_mem hx
      exact ⟨fun g hb => hg u (by simp [hu]) g hb, by simp only [Ls.held]; omega, hn u (by simp [hu])⟩
    · exact ⟨fun g hb => hg _ (by simp) g hb, by simp only [Ls.held]; omega, hn y.o (by simp)⟩
    · exact ⟨fun g hb => hg2 g hb.1 hb.2, by simp only; omega, by simp only; omega⟩
/-- The blocks of a market of the call's own, of a twin, lie in the range in which it was made. -/
theorem MkOwn.rng {w : World} {B : Nat} {y : Mk} (h : MkOwn w B y) : (∀ u ∈ (y.r :: (y.b ++ [y.o])), ∀ g, Blk u g → g < w.heap.size) ∧ ∀ g, 0 < y.c → y.A = some ⟨g, 0, none⟩ → g < w.heap.size := by
  refine ⟨fun u hu g hg => ?_, fun g hc hA => (h.b.blk hc hA).2⟩
  simp only [List.mem_cons, List.mem_append, List.not_mem_nil, or_false] at hu
  rcases hu with rfl | hu | rfl
  · exact (h.r.blk hg).2
  · exact ((h.bs u hu).blk hg).2
  · exact (h.o.blk hg).2
theorem TwnM.rng {w : World} {B : Nat} {y : Mk} (h : TwnM w B y) : (∀ u ∈ (y.r :: (y.b ++ [y.o])), ∀ g, Blk u g → g < w.heap.size) ∧ ∀ g, 0 < y.c → y.A = some ⟨g, 0, none⟩ → g < w.heap.size := by
  obtain ⟨m, hm, _⟩ := h.b
  refine ⟨fun u hu g hg => ?_, fun g hc hA => (hm.blk hc hA).2⟩
  simp only [List.mem_cons, List.mem_append, List.not_mem_nil, or_false] at hu
  rcases hu with rfl | hu | rfl
  · exact (h.r.blk hg).2
  · exact ((h.bs u hu).blk hg).2
  · exact (h.o.blk hg).2
theorem Outs.rng {w : World} {B : Nat} {A : Option Addr} {n c : Nat} {t : List Ls} (h : Outs w B A n c t) : (∀ u ∈ t, ∀ g, Blk u g → g < w.heap.size) ∧ ∀ g, 0 < c → A = some ⟨g, 0, none⟩ → g < w.heap.size :=
  ⟨fun u hu g hg => ((h.each u hu).blk hg).2, fun g hc hA => (h.own.blk hc hA).2⟩
theorem Twn.own' {w : World} {B : Nat} {u : Ls} (h : Twn w B u) : ∃ ys, Own w B 3 u.A u.n u.c ys := ⟨_, h.own.less (by omega)⟩
theorem pcM_twn {w : World} {lo hi N : Nat} {y : Mk} (h : TwnM w lo y) (hh : lo ≤ hi) (hr : (∀ u ∈ (y.r :: (y.b ++ [y.o])), ∀ g, Blk u g → g < hi) ∧ ∀ g, 0 < y.c → y.A = some ⟨g, 0, none⟩ → g < hi) (hk : N + y.n + 3 < 1000000000) (hn : ∀ u ∈ (y.r :: (y.b ++ [y.o])), u.n ≤ 1000000000) : (pcM y N).Ok w lo hi := by
  obtain ⟨m, hm, _⟩ := h.b
  exact pcM_ok h.r.own' h.o.own' (fun u hu => (h.bs u hu).own') (hm.less (m := y.n) (by omega)) h.apt hh hr.1 hr.2 h.ok.len hk hn
theorem pcM_own {w : World} {lo hi N : Nat} {y : Mk} (h : MkOwn w lo y) (hh : lo ≤ hi) (hr : (∀ u ∈ (y.r :: (y.b ++ [y.o])), ∀ g, Blk u g → g < hi) ∧ ∀ g, 0 < y.c → y.A = some ⟨g, 0, none⟩ → g < hi) (hk : N + y.n + 3 < 1000000000) (hn : ∀ u ∈ (y.r :: (y.b ++ [y.o])), u.n ≤ 1000000000) : (pcM y N).Ok w lo hi :=
  pcM_ok ⟨_, h.r.own⟩ ⟨_, h.o.own⟩ (fun u hu => ⟨_, (h.bs u hu).own⟩) h.b h.apt hh hr.1 hr.2 h.ok.len hk hn
theorem pcL_outs {w : World} {lo hi N : Nat} {A : Option Addr} {n c : Nat} {t : List Ls} (h : Outs w lo A n c t) (hh : lo ≤ hi) (hr : (∀ u ∈ t, ∀ g, Blk u g → g < hi) ∧ ∀ g, 0 < c → A = some ⟨g, 0, none⟩ → g < hi) (hk : N + n + 1 < 1000000000) (hn : ∀ u ∈ t, u.n ≤ 1000000000) : (pcL A n c t N).Ok w lo hi :=
  pcL_ok h.own (fun u hu => ⟨_, (h.each u hu).own⟩) h.apt hh hr.2 hr.1 h.len hk hn
end Go.Proofs.YtjjaajmjcdihoaaGreatDoor
