/-
  What GraphsOf needs besides: a twin of lists, as one fact; a Graph that came in, and how much it is.
-/
import Derived.Test.YtdckoaljcklmhaaGreatDoorRows
import Derived.Test.YtdckoaljcklmhaaGreatDoorMark
import Derived.Test.YtdckoaljcklmhaaGreatDoorMarkO
import Derived.Test.YtdckoaljcklmhaaGreatDoorBkT
import Derived.Test.YtdckoaljcklmhaaGreatDoorTwinM
import Derived.Test.YtdckoaljcklmhaaGreatDoorGrN
namespace Go.Proofs.YtdckoaljcklmhaaGreatDoor
open Go.ChangeShapes Go.WideShapes Go.ChangeAt Go.RowKit Go.Joins Go.Deep
set_option linter.unusedVariables false

theorem bulk_pos {H : Type} (d : DataW H) : 1 ≤ Rows.uptoBulk d := by
  cases d with
  | lit l => cases l <;> simp [Rows.uptoBulk]
  | _ => simp [Rows.uptoBulk]
theorem bulk_count {H : Type} (l : List (DataW H)) : l.length ≤ Rows.uptoBulkAll l := by
  induction l with
  | nil => simp [Rows.uptoBulkAll]
  | cons x r ih => have := bulk_pos x; simp only [Rows.uptoBulkAll, List.length_cons]; omega
theorem bulk_sum {H : Type} {α : Type} (bk : α → Nat) (l : List α) : ∀ (D : Nat → DataW H), (∀ (i : Nat) (u : α), l[i]? = some u → bk u ≤ Rows.uptoBulk (D i)) → (l.map bk).sum ≤ Rows.uptoBulkAll ((List.range l.length).map D) := by
  induction l with
  | nil => intro D _; simp
  | cons x r ih =>
    intro D h
    rw [List.length_cons, List.range_succ_eq_map, List.map_cons, List.map_cons, List.map_map, List.sum_cons]
    simp only [Rows.uptoBulkAll]
    have h0 := h 0 x rfl
    have h1 := ih (D ∘ Nat.succ) fun i u hi => h (i + 1) u (by simpa using hi)
    omega

section
variable {H : Type} {enc : TypeId × Value → H} {P : Program} {w : World} {base : Nat} {held : Bool} {r : Reach} {b0 : Nat} {t e ti tl : TypeId} {f0 f1 f2 : Field} {v : Value} {d : DataW H} {ps : List MemPlace} {fuel K : Nat} {cs : List Value} {x : DataW H × List MemPlace}

/-- A slice of records that came in, at its cell, and how much they are. -/
theorem open_recs_b {α : Type} (cl : α → List Value) (R : α → Prop) (bk : α → Nat) (ht : P.underlying t = some (.slice e)) (hC : P.cellsOf e = K) (hK : 0 < K)
    (hq : ∀ (m : Nat) (cs' : List Value) (y : DataW H × List MemPlace), DataW.trod enc P w base (fun _ => true) held m e cs' = some y → ∃ u : α, cs' = cl u ∧ R u ∧ bk u ≤ Rows.uptoBulk y.1)
    (h : DataW.trod enc P w base (fun _ => true) held fuel t cs = some x) :
    ∃ (A : Option Addr) (n c : Nat) (l : List α), cs = [.slice A n c] ∧ RdR w K A n (l.map cl) ∧ (∀ u ∈ l, R u) ∧ n ≤ c ∧ c ≤ maxLen ∧ (0 < n → ∃ b o, A = some ⟨b, o, none⟩ ∧ b < w.heap.size) ∧ n ≤ Rows.uptoBulk x.1 ∧ (l.map bk).sum ≤ Rows.uptoBulk x.1 := by
  rcases Go.Deep.open_slice ht h with ⟨rfl, rfl⟩ | ⟨a, len, cap, m, n, D, Pl, rfl, hb, hl, hm, hmm, rfl, hi⟩
  · exact ⟨none, 0, 0, [], rfl, ⟨rfl, fun h => absurd h (by omega)⟩, fun u hu => by simp at hu, Nat.le_refl _, Nat.zero_le _, fun h => absurd h (by omega), Nat.zero_le _, by simp⟩
  · simp only [if_true] at hmm
    have h2 : ∀ i, i < len → ∃ u : α, (R u ∧ (cl u).length = K ∧ ∀ j, j < K → w.cell? (a.add (i * K + j)) = (cl u)[j]?) ∧ bk u ≤ Rows.uptoBulk (D i) := by
      intro i him
      obtain ⟨cs', hc, ht'⟩ := hi i (by omega)
      rw [hC] at hc
      obtain ⟨_, hcl, hat⟩ := World.cells?_some hc
      obtain ⟨u, rfl, hu, hbu⟩ := hq _ _ _ ht'
      exact ⟨u, ⟨hu, hcl, fun j hj => by rw [← Go.Deep.add_add]; exact hat j hj⟩, hbu⟩
    obtain ⟨l, hll, hlp⟩ := list_of len _ h2
    have hat : ∀ hn : 0 < len, ∃ b o, a = ⟨b, o, none⟩ ∧ b < w.heap.size := by
      intro hn
      obtain ⟨u, ⟨_, hcl, hcu⟩, _⟩ := h2 0 hn
      obtain ⟨b, off, spot⟩ := a
      have h0 := hcu 0 hK
      rw [List.getElem?_eq_getElem (by omega)] at h0
      have hspot : spot = none := by simpa [Addr.add] using World.cell?_spot h0
      subst hspot
      exact ⟨b, off, rfl, by rw [Addr.add_lit] at h0; exact World.block_lt_of_cell? w _ h0⟩
    have hcnt := bulk_count ((List.range len).map D)
    have hsum := bulk_sum bk l D fun i u hu => (hlp i u hu).2
    rw [hll] at hsum
    simp only [List.length_map, List.length_range] at hcnt
    refine ⟨some a, len, cap, l, rfl, ⟨by simpa using hll, fun hn => ?_⟩, fun u hu => ?_, hl, hm, fun hn => ?_, ?_, ?_⟩
    · obtain ⟨b, o, rfl, _⟩ := hat hn
      refine ⟨b, o, rfl, fun j r hj i hik => ?_⟩
      rw [List.getElem?_map] at hj
      obtain ⟨u, hu, rfl⟩ := Option.map_eq_some_iff.1 hj
      rw [← (hlp j u hu).1.2.2 i hik, Addr.add_lit]
    · obtain ⟨j, hj, rfl⟩ := List.getElem_of_mem hu
      exact (hlp j _ (List.getElem?_eq_getElem hj)).1.1
    · obtain ⟨b, o, rfl, hlt⟩ := hat hn
      exact ⟨b, o, rfl, hlt⟩
    · simp only [Rows.uptoBulk]; omega
    · simp only [Rows.uptoBulk]; omega

/-- A list of ints that came in, at its cell, and how much it is. -/
theorem open_i64s_b (ht : P.underlying t = some (.slice e)) (he : P.underlying e = some (.int .i64)) (hc : P.cellsOf e = 1) (h : DataW.trod enc P w base (fun _ => true) held fuel t cs = some x) :
    ∃ u : Ls, cs = [u.v] ∧ u.Ok w ∧ u.n + 1 ≤ Rows.uptoBulk x.1 := by
  obtain ⟨A, n, c, zs, hcs, h1, h2, h3, h4⟩ := open_i64s ht he hc h
  refine ⟨⟨A, n, c, zs⟩, hcs, ⟨h1, h2, h3, h4⟩, ?_⟩
  rcases open_ints ht he hc h with ⟨rfl, hx⟩ | ⟨a, len, cap, zs, rfl, _, _, _, g3, rfl, g4, g5⟩
  · simp only [List.cons.injEq, and_true, Value.slice.injEq] at hcs
    obtain ⟨rfl, rfl, rfl⟩ := hcs
    have := bulk_pos x.1
    simp only; omega
  · simp only [List.cons.injEq, and_true, Value.slice.injEq] at hcs
    obtain ⟨rfl, rfl, rfl⟩ := hcs
    have hl := bulk_count (lits (H := H) .i64 (zs.take len))
    simp only [if_true] at g3
    have hl2 : (lits (H := H) .i64 (zs.take len)).length = len := by simp [lits]; omega
    simp only [Rows.uptoBulk]
    omega
/-- How much is in lists, these counted too. -/
def sizeL (l : List Ls) : Nat := (l.map fun u => u.n + 1).sum
/-- A market that came in, and how much it is. -/
theorem open_mk_b {m : Nat} {cs : List Value} {y : DataW H × List MemPlace} (hs : P.underlying t = some (.struct #[f0, f1, f2])) (hone : oneCellFields P #[f0, f1, f2] = true) (hC : P.cellsOf t = 3) (k0 : P.underlying f0.type = some (.slice ti)) (k1 : P.underlying f1.type = some (.slice tl)) (k2 : P.underlying f2.type = some (.slice ti))
    (kl : P.underlying tl = some (.slice ti)) (hcl : P.cellsOf tl = 1) (ki : P.underlying ti = some (.int .i64)) (hci : P.cellsOf ti = 1) (h : DataW.trod enc P w base (fun _ => true) held m t cs = some y) : ∃ u : Mk, cs = u.cells ∧ u.Ok w ∧ u.r.n + sizeL u.b + u.o.n + 3 ≤ Rows.uptoBulk y.1 := by
  obtain ⟨y0, y1, y2, n, rfl, hl, h0, h1, h2⟩ := trod_struct3 hs h
  obtain ⟨o0, c0⟩ := hone_of hone 0 f0 rfl
  obtain ⟨o1, c1⟩ := hone_of hone 1 f1 rfl
  obtain ⟨o2, c2⟩ := hone_of hone 2 f2 rfl
  rw [hC] at hl
  match cs, hl with
  | [v0, v1, v2], _ =>
    rw [o0, c0] at h0
    rw [o1, c1] at h1
    rw [o2, c2] at h2
    obtain ⟨u0, e0, a0, z0⟩ := open_i64s_b k0 ki hci (show DataW.trod enc P w base (fun _ => true) held n f0.type [v0] = some y0 from h0)
    obtain ⟨u2, e2, a2, z2⟩ := open_i64s_b k2 ki hci (show DataW.trod enc P w base (fun _ => true) held n f2.type [v2] = some y2 from h2)
    obtain ⟨A, k, c, l, e1, b1, b2, b3, b4, b5, z1, z3⟩ := open_recs_b (fun u : Ls => [u.v]) (Ls.Ok w) (fun u => u.n + 1) k1 hcl (by omega) (fun m cs' y hy => open_i64s_b kl ki hci hy) (show DataW.trod enc P w base (fun _ => true) held n f1.type [v1] = some y1 from h1)
    simp only [List.cons.injEq, and_true] at e0 e1 e2
    subst e0 e1 e2
    refine ⟨⟨u0, A, k, c, l, u2⟩, rfl, ⟨a0, a2, b1, b2, b3, b4, b5⟩, ?_⟩
    simp only [Rows.uptoBulk, Rows.uptoBulkAll, sizeL]
    omega
theorem arg_mk_b (hs : P.underlying t = some (.struct #[f0, f1, f2])) (hone : oneCellFields P #[f0, f1, f2] = true) (hC : P.cellsOf t = 3) (k0 : P.underlying f0.type = some (.slice ti)) (k1 : P.underlying f1.type = some (.slice tl)) (k2 : P.underlying f2.type = some (.slice ti))
    (kl : P.underlying tl = some (.slice ti)) (hcl : P.cellsOf tl = 1) (ki : P.underlying ti = some (.int .i64)) (hci : P.cellsOf ti = 1) (hval : Value.okWide P w r b0 t v) (h : DataW.Trod enc P w base (fun _ => true) held t v d ps) : ∃ u : Mk, v = u.v ∧ u.Ok w ∧ u.r.n + sizeL u.b + u.o.n + 3 ≤ Rows.uptoBulk d := by
  obtain ⟨cs, rfl, hsz⟩ := okWide_struct hs hval
  obtain ⟨fuel, hf⟩ := h
  obtain ⟨u, hu, hok, hb⟩ := open_mk_b hs hone hC k0 k1 k2 kl hcl ki hci hf
  obtain ⟨c0, c1, c2, rfl⟩ := array3 (hsz.trans hC)
  refine ⟨u, ?_, hok, hb⟩
  simp [Value.cells, Mk.cells] at hu
  rw [hu.1, hu.2.1, hu.2.2, Mk.v]
end
end Go.Proofs.YtdckoaljcklmhaaGreatDoor


namespace Go.Proofs.YtdckoaljcklmhaaGreatDoor
open Go.RowKit
set_option linter.unusedVariables false

/-- The lists of ints of a market, as a Book holds them. -/
def Mk.held (y : Mk) (N : Nat) : List Hl := y.r.held (N + 1) :: (told (N + 1) y.b ++ [y.o.held (N + y.n + 3)])
def Mk.lists (y : Mk) (N : Nat) : List Hl := [⟨y.A, y.n, y.c, none, 0, 0, N + y.n + 2⟩]
theorem held_key_all (y : Mk) (N : Nat) : (y.held N).map Hl.key = (y.r :: (y.b ++ [y.o])).map Ls.key := by
  simp only [Mk.held, List.map_cons, List.map_append, told_key, List.map_nil]
  rfl
theorem held_len (y : Mk) {w : World} (hy : y.Ok w) (N : Nat) : (y.held N).length = y.n + 2 := by
  rw [Mk.held, List.length_cons, List.length_append, told_len, List.length_singleton, hy.len]
theorem hit_lt {w : World} {B : Nat} {e : TypeId} {h : Hl} (ho : ∃ xs, Own w B e h.A h.n h.c xs) {g : Nat} (hg : Hit h g) : B ≤ g ∧ g < w.heap.size := by
  obtain ⟨xs, ox⟩ := ho
  exact ox.blk hg.1 hg.2
end Go.Proofs.YtdckoaljcklmhaaGreatDoor


namespace Go.Proofs.YtdckoaljcklmhaaGreatDoor
open Go.RowKit
set_option linter.unusedVariables false

/-- One thing that was told: its lists of bytes, of ints, of lists. -/
structure Pc where
  b : List Hl
  i : List Hl
  l : List Hl
structure Pc.Ok (w : World) (lo hi : Nat) (p : Pc) : Prop where
  le : lo ≤ hi
  ob : ∀ h ∈ p.b, ∃ xs, Own w lo 5 h.A h.n h.c xs
  oi : ∀ h ∈ p.i, ∃ xs, Own w lo 3 h.A h.n h.c xs
  ol : ∀ h ∈ p.l, ∃ xs, Own w lo 22 h.A h.n h.c xs
  sb : Sep p.b
  si : Sep p.i
  sl : Sep p.l
  lt : ∀ h, h ∈ p.b ∨ h ∈ p.i ∨ h ∈ p.l → (∀ g, Hit h g → g < hi) ∧ h.k < 1000000000 ∧ h.n ≤ 1000000000
theorem Pc.Ok.lo' {w : World} {lo hi : Nat} {p : Pc} (h : p.Ok w lo hi) (x : Hl) (hx : x ∈ p.b ∨ x ∈ p.i ∨ x ∈ p.l) (g : Nat) (hg : Hit x g) : lo ≤ g := by
  rcases hx with hx | hx | hx
  · exact (hit_lt (h.ob x hx) hg).1
  · exact (hit_lt (h.oi x hx) hg).1
  · exact (hit_lt (h.ol x hx) hg).1
def PcsB (ps : List Pc) : List Hl := (ps.map Pc.b).flatten
def PcsI (ps : List Pc) : List Hl := (ps.map Pc.i).flatten
def PcsL (ps : List Pc) : List Hl := (ps.map Pc.l).flatten
/-- The pieces lie one behind the other, up to kb. -/
inductive Pcs (w : World) (kb : Nat) : Nat → List Pc → Prop where
  | nil {lo : Nat} (h : lo ≤ kb) : Pcs w kb lo []
  | cons {lo hi lo2 : Nat} {p : Pc} {r : List Pc} (h : p.Ok w lo hi) (h2 : hi ≤ lo2) (h3 : Pcs w kb lo2 r) : Pcs w kb lo (p :: r)
theorem Pcs.le {w : World} {kb lo : Nat} {ps : List Pc} (h : Pcs w kb lo ps) : lo ≤ kb := by
  induction h with
  | nil h => exact h
  | cons h h2 h3 ih => have := h.le; omega
theorem Pcs.lo' {w : World} {kb lo : Nat} {ps : List Pc} (h : Pcs w kb lo ps) : ∀ x, (x ∈ PcsB ps ∨ x ∈ PcsI ps ∨ x ∈ PcsL ps) → ∀ g, Hit x g → lo ≤ g := by
  induction h with
  | nil h => intro x hx; simp [PcsB, PcsI, PcsL] at hx
  | @cons lo hi lo2 p r h h2 h3 ih =>
    intro x hx g hg
    simp only [PcsB, PcsI, PcsL, List.map_cons, List.flatten_cons, List.mem_append] at hx ih
    have hle := h.le
    rcases hx with (hx | hx) | (hx | hx) | (hx | hx)
    · exact h.lo' x (.inl hx) g hg
    · have := ih x (.inl hx) g hg; omega
    · exact h.lo' x (.inr (.inl hx)) g hg
    · have := ih x (.inr (.inl hx)) g hg; omega
    · exact h.lo' x (.inr (.inr hx)) g hg
    · have := ih x (.inr (.inr hx)) g hg; omega
theorem Pcs.all {w : World} {kb lo B : Nat} {ps : List Pc} (h : Pcs w kb lo ps) (hB : B ≤ lo) :
    (∀ h ∈ PcsB ps, ∃ xs, Own w B 5 h.A h.n h.c xs) ∧ (∀ h ∈ PcsI ps, ∃ xs, Own w B 3 h.A h.n h.c xs) ∧ (∀ h ∈ PcsL ps, ∃ xs, Own w B 22 h.A h.n h.c xs) ∧
    (∀ h, h ∈ PcsB ps ∨ h ∈ PcsI ps ∨ h ∈ PcsL ps → (∀ g, Hit h g → g < kb) ∧ h.k < 1000000000 ∧ h.n ≤ 1000000000) ∧ Sep (PcsB ps) ∧ Sep (PcsI ps) ∧ Sep (PcsL ps) := by
  induction h with
  | nil h => simp [PcsB, PcsI, PcsL, Sep]
  | @cons lo hi lo2 p r h h2 h3 ih =>
    have hle := h.le
    have hkb := h3.le
    obtain ⟨i1, i2, i3, i4, i5, i6, i7⟩ := ih (by omega)
    have hlo := h3.lo'
    simp only [PcsB, PcsI, PcsL, List.map_cons, List.flatten_cons] at i1 i2 i3 i4 i5 i6 i7 hlo ⊢
    have hl1 := h.lt
    refine ⟨?_, ?_, ?_, ?_, ?_, ?_, ?_⟩
    · intro x hx
      rcases List.mem_append.1 hx with hx | hx
      · obtain ⟨xs, o⟩ := h.ob x hx; exact ⟨xs, o.mono hB⟩
      · exact i1 x hx
    · intro x hx
      rcases List.mem_append.1 hx with hx | hx
      · obtain ⟨xs, o⟩ := h.oi x hx; exact ⟨xs, o.mono hB⟩
      · exact i2 x hx
    · intro x hx
      rcases List.mem_append.1 hx with hx | hx
      · obtain ⟨xs, o⟩ := h.ol x hx; exact ⟨xs, o.mono hB⟩
      · exact i3 x hx
    · intro x hx
      simp only [List.mem_append] at hx
      have hp : (x ∈ p.b ∨ x ∈ p.i ∨ x ∈ p.l) ∨ (x ∈ (r.map Pc.b).flatten ∨ x ∈ (r.map Pc.i).flatten ∨ x ∈ (r.map Pc.l).flatten) := by
        rcases hx with (hx | hx) | (hx | hx) | (hx | hx) <;> simp [hx]
      rcases hp with hp | hp
      · obtain ⟨a, b, c⟩ := hl1 x hp
        exact ⟨fun g hg => by have := a g hg; omega, b, c⟩
      · exact i4 x hp
    · exact List.pairwise_append.2 ⟨h.sb, i5, fun x hx y hy g hg hg2 => by have := (hl1 x (.inl hx)).1 g hg; have := hlo y (.inl hy) g hg2; omega⟩
    · exact List.pairwise_append.2 ⟨h.si, i6, fun x hx y hy g hg hg2 => by have := (hl1 x (.inr (.inl hx))).1 g hg; have := hlo y (.inr (.inl hy)) g hg2; omega⟩
    · exact List.pairwise_append.2 ⟨h.sl, i7, fun x hx y hy g hg hg2 => by have := (hl1 x (.inr (.inr hx))).1 g hg; have := hlo y (.inr (.inr hy)) g hg2; omega⟩

/-- Apart, of pieces. -/
theorem apart_pcs (kb N B lo : Nat) (T : Nat → Value) (b i l : List Hl) (ps : List Pc) (w : World) (hk : Bkm w kb N T (more noLists b i l)) (hT : SameT noTabs T)
    (hb : b = PcsB ps) (hi : i = PcsI ps) (hl : l = PcsL ps) (h : Pcs w kb lo ps) (hB : B ≤ lo) (hn : b.length ≤ 1000000 ∧ i.length ≤ 1000000 ∧ l.length ≤ 1000000) :
    Calls Tryz.prog 17 #[.pointer (some ⟨kb, 0, none⟩)] w fun e w' => e = .returned (.bool true) ∧ Below B w w' := by
  subst hb hi hl
  obtain ⟨i1, i2, i3, i4, i5, i6, i7⟩ := h.all hB
  have := h.le
  exact apart_lists kb N B T _ _ _ w hk hT i1 i2 i3 i4 i5 i6 i7 hn (by omega)

/-- Ints. -/
def pcI (u : Ls) (k : Nat) : Pc := ⟨[], [u.held k], []⟩
/-- A market, told from number N on. -/
def pcM (y : Mk) (N : Nat) : Pc := ⟨[], y.held N, y.lists N⟩

theorem pcI_ok {w : World} {lo hi : Nat} {A : Option Addr} {n c k : Nat} {xs : List Value} {zs : List Int} (h : Own w lo 3 A n c xs) (hh : lo ≤ hi) (hg : ∀ g, 0 < c → A = some ⟨g, 0, none⟩ → g < hi) (hk : k < 1000000000) (hn : n ≤ 1000000000) : (pcI ⟨A, n, c, zs⟩ k).Ok w lo hi where
  le := hh
  ob := fun x hx => by simp [pcI] at hx
  oi := fun x hx => by rw [pcI, List.mem_singleton] at hx; subst hx; exact ⟨_, h⟩
  ol := fun x hx => by simp [pcI] at hx
  sb := List.Pairwise.nil
  si := List.pairwise_singleton _ _
  sl := List.Pairwise.nil
  lt := fun x hx => by
    simp only [pcI, List.not_mem_nil, or_false, false_or, List.mem_singleton] at hx
    subst hx
    exact ⟨fun g hg2 => hg g hg2.1 hg2.2, hk, hn⟩
theorem pcM_ok {w : World} {lo hi N : Nat} {y : Mk} {xs : List Value} (hr : ∃ ys, Own w lo 3 y.r.A y.r.n y.r.c ys) (ho : ∃ ys, Own w lo 3 y.o.A y.o.n y.o.c ys) (hb : ∀ u ∈ y.b, ∃ ys, Own w lo 3 u.A u.n u.c ys) (h : Own w lo 22 y.A y.n y.c xs)
    (hap : AptL (y.r :: (y.b ++ [y.o]))) (hh : lo ≤ hi) (hg : ∀ u ∈ (y.r :: (y.b ++ [y.o])), ∀ g, Blk u g → g < hi) (hg2 : ∀ g, 0 < y.c → y.A = some ⟨g, 0, none⟩ → g < hi) (hlen : y.b.length = y.n) (hk : N + y.n + 3 < 1000000000) (hn : ∀ u ∈ (y.r :: (y.b ++ [y.o])), u.n ≤ 1000000000) : (pcM y N).Ok w lo hi where
  le := hh
  ob := fun x hx => by simp [pcM] at hx
  oi := fun x hx => by
    simp only [pcM, Mk.held, List.mem_cons, List.mem_append, List.not_mem_nil, or_false] at hx
    rcases hx with rfl | hx | rfl
    · exact hr
    · obtain ⟨u, hu, k, _, rfl⟩ := told_mem hx
      exact hb u hu
    · exact ho
  ol := fun x hx => by
    simp only [pcM, Mk.lists, List.mem_singleton] at hx
    subst hx
    exact ⟨_, h⟩
  sb := List.Pairwise.nil
  si := sep_of_apt (held_key_all y N) hap
  sl := List.pairwise_singleton _ _
  lt := fun x hx => by
    simp only [pcM, Mk.held, Mk.lists, List.mem_cons, List.mem_append, List.not_mem_nil, or_false, false_or] at hx
    rcases hx with (rfl | hx | rfl) | rfl
    · exact ⟨fun g hb => hg _ (by simp) g hb, by simp only [Ls.held]; omega, hn y.r (by simp)⟩
    · obtain ⟨u, hu, k, hk2, rfl⟩ := told_mem hx
      exact ⟨fun g hb => hg u (by simp [hu]) g hb, by simp only [Ls.held]; omega, hn u (by simp [hu])⟩
    · exact ⟨fun g hb => hg _ (by simp) g hb, by simp only [Ls.held]; omega, hn y.o (by simp)⟩
    · exact ⟨fun g hb => hg2 g hb.1 hb.2, by simp only; omega, by simp only; omega⟩
/-- The blocks of a market of the call's own, of a twin, lie in the range in which it was made. -/
theorem MkOwn.rng {w : World} {B : Nat} {y : Mk} (h : MkOwn w B y) : (∀ u ∈ (y.r :: (y.b ++ [y.o])), ∀ g, Blk u g → g < w.heap.size) ∧ ∀ g, 0 < y.c → y.A = some ⟨g, 0, none⟩ → g < w.heap.size := by
  refine ⟨fun u hu g hg => ?_, fun g hc hA => (h.b.blk hc hA).2⟩
  simp only [List.mem_cons, List.mem_append, List.not_mem_nil, or_false] at hu
  rcases hu with rfl | hu | rfl
  · exact (h.r.blk hg).2
  · exact ((h.bs u hu).blk hg).2
  · exact (h.o.blk hg).2
theorem TwnM.rng {w : World} {B : Nat} {y : Mk} (h : TwnM w B y) : (∀ u ∈ (y.r :: (y.b ++ [y.o])), ∀ g, Blk u g → g < w.heap.size) ∧ ∀ g, 0 < y.c → y.A = some ⟨g, 0, none⟩ → g < w.heap.size := by
  obtain ⟨m, hm, _⟩ := h.b
  refine ⟨fun u hu g hg => ?_, fun g hc hA => (hm.blk hc hA).2⟩
  simp only [List.mem_cons, List.mem_append, List.not_mem_nil, or_false] at hu
  rcases hu with rfl | hu | rfl
  · exact (h.r.blk hg).2
  · exact ((h.bs u hu).blk hg).2
  · exact (h.o.blk hg).2
theorem Outs.rng {w : World} {B : Nat} {A : Option Addr} {n c : Nat} {t : List Ls} (h : Outs w B A n c t) : (∀ u ∈ t, ∀ g, Blk u g → g < w.heap.size) ∧ ∀ g, 0 < c → A = some ⟨g, 0, none⟩ → g < w.heap.size :=
  ⟨fun u hu g hg => ((h.each u hu).blk hg).2, fun g hc hA => (h.own.blk hc hA).2⟩
theorem Twn.own' {w : World} {B : Nat} {u : Ls} (h : Twn w B u) : ∃ ys, Own w B 3 u.A u.n u.c ys := ⟨_, h.own.less (by omega)⟩
theorem pcM_twn {w : World} {lo hi N : Nat} {y : Mk} (h : TwnM w lo y) (hh : lo ≤ hi) (hr : (∀ u ∈ (y.r :: (y.b ++ [y.o])), ∀ g, Blk u g → g < hi) ∧ ∀ g, 0 < y.c → y.A = some ⟨g, 0, none⟩ → g < hi) (hk : N + y.n + 3 < 1000000000) (hn : ∀ u ∈ (y.r :: (y.b ++ [y.o])), u.n ≤ 1000000000) : (pcM y N).Ok w lo hi := by
  obtain ⟨m, hm, _⟩ := h.b
  exact pcM_ok h.r.own' h.o.own' (fun u hu => (h.bs u hu).own') (hm.less (m := y.n) (by omega)) h.apt hh hr.1 hr.2 h.ok.len hk hn
end Go.Proofs.YtdckoaljcklmhaaGreatDoor


namespace Go.Proofs.YtdckoaljcklmhaaGreatDoor
open Go.RowKit
set_option linter.unusedVariables false

/-- A twin of a list of ints is left as it was. -/
theorem Twn.left {w : World} {B : Nat} {u : Ls} (h : Twn w B u) (A2 : Option Addr) (c2 : Nat) (hr2 : Rd w A2 u.n (ci64 u.zs)) (hn : u.n ≤ 1000000000) :
    Calls Tryz.prog 16 #[.slice u.A u.n u.c, .slice A2 u.n c2] w fun e w' => e = .returned (.bool true) ∧ Below w.heap.size w w' :=
  leftints_any u.A u.n u.c u.zs A2 c2 w B h.own hr2 hn

set_option maxRecDepth 100000 in
set_option maxHeartbeats 1000000 in
theorem leftintlists_any (A : Option Addr) (n c : Nat) (t : List Ls) (m : Nat) (A2 : Option Addr) (c2 : Nat) (l : List Ls) (w : World) (B : Nat)
    (ho : Own w B 22 A (n + 1) c (t.map Ls.v ++ [.slice (some ⟨m, 0, none⟩) 1 1])) (hm : w.heap[m]? = some (.cells #[.int .i64 77] 3 (0, 0))) (ht : ∀ u ∈ t, Twn w B u)
    (hr : Lss w A2 n l) (hall : Ls.all t = Ls.all l) (hn : n ≤ 1000000) (hn2 : ∀ u ∈ l, u.n ≤ 1000000000) :
    Calls Tryz.prog 33 #[.slice A n c, .slice A2 n c2] w fun e w' => e = .returned (.bool true) ∧ Below w.heap.size w w' := by
  have hlt := ho.len
  rw [List.length_append, List.length_map, List.length_singleton] at hlt
  have hll := hr.len
  have k1 := ho.le
  have k2 := ho.cap
  unfold maxLen at k2
  obtain ⟨g, rfl, hBg, hg⟩ := ho.lt (by omega)
  have k3 : decide (c ≤ n) = false := by simp; omega
  have htl : t.length = n := by omega
  have hlast : w.cell? ⟨g, n, none⟩ = some (.slice (some ⟨m, 0, none⟩) 1 1) := by
    rw [ho.cell (by omega), List.getElem?_append_right (by rw [List.length_map, htl]; exact Nat.le_refl _), List.length_map, htl, Nat.sub_self]
    rfl
  have hmc : w.cell? ⟨m, 0, none⟩ = some (.int .i64 77) := by rw [cell_of_row w m 0 _ _ _ hm]; rfl
  have hml : m < w.heap.size := (Array.getElem?_eq_some_iff.1 hm).1
  have HT := Lib.hid htl
  have HL := Lib.hid hll
  clear hlt hll htl hm
  go_enter Tryz.func33, Tryz.ntmps33
  go_wp2_with fail
  go_loopw [5] (fun i wr => ∃ j : Nat, j ≤ n ∧ i = .int .i64 j ∧ Below w.heap.size w wr) (fun i _ => n - (intOf i).toNat)
  case atStart => exact ⟨0, Nat.zero_le _, rfl, Below.refl _ _⟩
  case round =>
    obtain ⟨j, hj, rfl, hbel⟩ := hrel
    have hlast2 : wr.cell? ⟨g, n, none⟩ = some (.slice (some ⟨m, 0, none⟩) 1 1) := (hbel.cell (p := ⟨g, n, none⟩) hg).trans hlast
    have hmc2 : wr.cell? ⟨m, 0, none⟩ = some (.int .i64 77) := (hbel.cell (p := ⟨m, 0, none⟩) hml).trans hmc
    by_cases hlt : j < n
    · obtain ⟨b2, o2, u2, rfl, hu2, hb2, hc2, hk2⟩ := hr.get hlt
      have hjt : j < t.length := by rw [HT.out]; exact hlt
      have hct : w.cell? ⟨g, j, none⟩ = some t[j].v := by
        rw [ho.cell (by omega), List.getElem?_append_left (by rw [List.length_map]; exact hjt), List.getElem?_map, List.getElem?_eq_getElem hjt]
        rfl
      have hzs : t[j].zs = u2.zs := by
        have h : (Ls.all t)[j]? = (Ls.all l)[j]? := by rw [hall]
        rw [Ls.all, Ls.all, List.getElem?_map, List.getElem?_map, hu2, List.getElem?_eq_getElem hjt] at h
        exact Option.some.inj h
      have htw := (ht _ (List.getElem_mem hjt)).below hbel
      have hun := hn2 u2 (List.mem_of_getElem? hu2)
      generalize t[j] = u at hct hzs htw
      have hnn : u.n = u2.n := by
        have h1 := htw.own.len
        have h2 := hk2.len
        rw [ci64_len, List.length_append, List.length_singleton, hzs] at h1
        omega
      have hrd : Rd wr u2.A u.n (ci64 u.zs) := by
        rw [hzs, hnn]
        exact hk2.rd.below hbel
      have hc1' : wr.cell? ⟨g, j, none⟩ = some (.slice u.A u.n u.c) := (hbel.cell (p := ⟨g, j, none⟩) hg).trans hct
      have hc2' : wr.cell? ⟨b2, o2 + j, none⟩ = some (.slice u2.A u.n u2.c) := by
        rw [hbel.cell (p := ⟨b2, o2 + j, none⟩) hb2, hc2, hnn]
        rfl
      have hun' : u.n ≤ 1000000000 := by omega
      clear hct hc2 hzs hk2 hu2 hjt hnn hun
      go_wp2_with fail
      refine wp_region_ord (S := fun w' => w'.cell? ⟨g, j, none⟩ = some (.slice u.A u.n u.c) ∧ w'.cell? ⟨b2, o2 + j, none⟩ = some (.slice u2.A u.n u2.c)) [(0, true), (1, true), (2, true), (3, true), (4, true), (5, true), (6, true), (7, true), (8, false), (9, true)] default (by kernel_rfl) (by kernel_rfl) (by kernel_rfl) ⟨hc1', hc2'⟩ ?_
      simp only [getOrd, nth]
      repeat (first | (refine ordS (by rfl) ?_; simp only [Act.put, List.setIfInBounds_toArray, List.set_cons_zero, List.set_cons_succ]) | (refine ordN (by rfl) ?_; simp only [Act.put, List.setIfInBounds_toArray, List.set_cons_zero, List.set_cons_succ]) | (refine ordQ (v := ?_) (by rfl) (fun _ hSw => ?_) ?_; rotate_left; (focus ((have hS1 := hSw.1); (have hS2 := hSw.2); clear hSw; go_simp; (first | done | with_reducible rfl))); simp only [Act.put, List.setIfInBounds_toArray, List.set_cons_zero, List.set_cons_succ]))
      refine ordD (by rfl) ?_
      intro K hK
      go_simp
      refine ((htw.below ((Below.refl _ wr).drew)).left u2.A u2.c (hrd.below ((Below.refl _ wr).drew)) hun').mono ?_
      rintro e wm ⟨rfl, hbm⟩
      have hbm2 : Below wr.heap.size wr wm := ((Below.refl _ wr).drew).trans hbm
      have hg2 := Nat.lt_of_lt_of_le hg hbel.size
      have hb22 := Nat.lt_of_lt_of_le hb2 hbel.size
      have m1 := (hbm2.cell (p := ⟨g, j, none⟩) hg2).trans hc1'
      have m2 := (hbm2.cell (p := ⟨b2, o2 + j, none⟩) hb22).trans hc2'
      have hB := hbel.trans (hbm2.mono hbel.size)
      go_wp2_with fail
      refine hK _ _ ⟨m1, m2⟩ ?_
      clear hK K
      try simp only [Act.put, List.setIfInBounds_toArray, List.set_cons_zero, List.set_cons_succ]
      repeat (first | (refine ordS (by rfl) ?_; simp only [Act.put, List.setIfInBounds_toArray, List.set_cons_zero, List.set_cons_succ]) | (refine ordN (by rfl) ?_; simp only [Act.put, List.setIfInBounds_toArray, List.set_cons_zero, List.set_cons_succ]) | (refine ordQ (v := ?_) (by rfl) (fun _ hSw => ?_) ?_; rotate_left; (focus ((have hS1 := hSw.1); (have hS2 := hSw.2); clear hSw; go_simp; (first | done | with_reducible rfl))); simp only [Act.put, List.setIfInBounds_toArray, List.set_cons_zero, List.set_cons_succ]))
      refine ordE ?_
      clear m1 m2 hbm hbm2 hrd htw
      go_wp2
      go_roundw
      case rel => exact ⟨j + 1, by omega, by go_num, hB⟩
      case measure => simp [intOf]; omega
    · obtain rfl : j = n := by omega
      go_wp2
      go_ret
      exact ⟨rfl, hbel⟩

set_option maxRecDepth 100000 in
set_option maxHeartbeats 1000000 in
/-- A twin of a market is left as it was. -/
theorem leftmarket_any (y x : Mk) (w : World) (B : Nat) (h : TwnM w B y) (hx : x.Ok w) (hr : y.r.zs = x.r.zs) (hb : Ls.all y.b = Ls.all x.b) (ho : y.o.zs = x.o.zs) (hn : y.n = x.n) (h1 : x.n ≤ 1000000) (h2 : x.r.n ≤ 1000000000) (h3 : x.o.n ≤ 1000000000) (h4 : ∀ u ∈ x.b, u.n ≤ 1000000000) :
    Calls Tryz.prog 15 #[y.v, x.v] w fun e w' => e = .returned (.bool true) ∧ Below w.heap.size w w' := by
  have nr : y.r.n = x.r.n := by rw [← h.r.ok.len, ← hx.r.len, hr]
  have no : y.o.n = x.o.n := by rw [← h.o.ok.len, ← hx.o.len, ho]
  have rr : Rd w x.r.A y.r.n (ci64 y.r.zs) := by rw [hr, nr]; exact hx.r.rd
  have ro : Rd w x.o.A y.o.n (ci64 y.o.zs) := by rw [ho, no]; exact hx.o.rd
  have HN := Lib.hid hn
  have NR := Lib.hid nr
  have NO := Lib.hid no
  have q1 : y.r.n ≤ 1000000000 := by omega
  have q2 : y.n ≤ 1000000 := by omega
  have q3 : y.o.n ≤ 1000000000 := by omega
  have hl : Lss w x.A y.n x.b := by rw [hn]; exact hx.lss
  clear hn nr no hr ho h1 h2 h3
  unfold Mk.v Ls.v
  go_enter Tryz.func15, Tryz.ntmps15
  have hb0 : ∀ (o1 o2 : Obj), Below w.heap.size w ((w.alloc o1).alloc o2) := fun o1 o2 => ((Below.refl _ w).alloc (Nat.le_refl _) o1).alloc (by show _ ≤ (w.heap.push o1).size; rw [Array.size_push]; omega) o2
  have L : ∀ W, (w.alloc (Obj.cells #[Value.slice y.r.A y.r.n y.r.c, Value.slice y.A y.n y.c, Value.slice y.o.A y.o.n y.o.c] 25)).alloc (Obj.cells #[Value.slice x.r.A x.r.n x.r.c, Value.slice x.A x.n x.c, Value.slice x.o.A x.o.n x.o.c] 25) = W → (W.cell? ⟨w.heap.size, 0, none⟩ = some (.slice y.r.A y.r.n y.r.c) ∧ W.cell? ⟨w.heap.size, 1, none⟩ = some (.slice y.A y.n y.c) ∧ W.cell? ⟨w.heap.size, 2, none⟩ = some (.slice y.o.A y.o.n y.o.c)) ∧ (W.cell? ⟨w.heap.size + 1, 0, none⟩ = some (.slice x.r.A x.r.n x.r.c) ∧ W.cell? ⟨w.heap.size + 1, 1, none⟩ = some (.slice x.A x.n x.c) ∧ W.cell? ⟨w.heap.size + 1, 2, none⟩ = some (.slice x.o.A x.o.n x.o.c)) := by
    rintro _ rfl
    exact ⟨⟨by go_simp, by go_simp, by go_simp⟩, ⟨by go_simp, by go_simp, by go_simp⟩⟩
  go_wp2_with fail
  obtain ⟨W, hW⟩ : ∃ W, (w.alloc (Obj.cells #[Value.slice y.r.A y.r.n y.r.c, Value.slice y.A y.n y.c, Value.slice y.o.A y.o.n y.o.c] 25)).alloc (Obj.cells #[Value.slice x.r.A x.r.n x.r.c, Value.slice x.A x.n x.c, Value.slice x.o.A x.o.n x.o.c] 25) = W := ⟨_, rfl⟩
  have hWb : Below w.heap.size w W := hW ▸ hb0 _ _
  have hWs : W.heap.size = w.heap.size + 2 := by
    rw [← hW]
    show ((w.heap.push _).push _).size = _
    rw [Array.size_push, Array.size_push]
  obtain ⟨⟨l0, l1, l2⟩, l3, l4, l5⟩ := L W hW
  rw [hW]
  clear L hb0 hW
  have e1 : Value.slice x.r.A x.r.n x.r.c = Value.slice x.r.A y.r.n x.r.c := by rw [NR.out]
  have e2 : Value.slice x.A x.n x.c = Value.slice x.A y.n x.c := by rw [HN.out]
  have e3 : Value.slice x.o.A x.o.n x.o.c = Value.slice x.o.A y.o.n x.o.c := by rw [NO.out]
  rw [e1] at l3
  rw [e2] at l4
  rw [e3] at l5
  obtain ⟨m, hm1, hm2⟩ := h.b
  rw [e1]
  refine ((h.r.below hWb).left x.r.A x.r.c (rr.below hWb) q1).mono ?_
  rintro e w2 ⟨rfl, b2⟩
  have hk : ∀ w', Below W.heap.size W w' → w'.cell? ⟨w.heap.size, 1, none⟩ = some (.slice y.A y.n y.c) ∧ w'.cell? ⟨w.heap.size, 2, none⟩ = some (.slice y.o.A y.o.n y.o.c) ∧ w'.cell? ⟨w.heap.size + 1, 1, none⟩ = some (.slice x.A y.n x.c) ∧ w'.cell? ⟨w.heap.size + 1, 2, none⟩ = some (.slice x.o.A y.o.n x.o.c) := by
    intro w' hB
    exact ⟨(World.cell?_of_block (hB.block w.heap.size (by omega))).trans l1, (World.cell?_of_block (hB.block w.heap.size (by omega))).trans l2, (World.cell?_of_block (hB.block (w.heap.size + 1) (by omega))).trans l4, (World.cell?_of_block (hB.block (w.heap.size + 1) (by omega))).trans l5⟩
  obtain ⟨a1, a2, a4, a5⟩ := hk w2 b2
  have hB2 : Below w.heap.size w w2 := hWb.trans (b2.mono (by omega))
  go_wp2_with fail
  refine (leftintlists_any y.A y.n y.c y.b m x.A x.c x.b w2 B (hm1.below hB2) (by rw [hB2.block m (Array.getElem?_eq_some_iff.1 hm2).1]; exact hm2) (fun u hu => (h.bs u hu).below hB2) ⟨by have := (hx.below hB2).b; rw [HN.out]; exact this, (hx.below hB2).bs⟩ hb q2 h4).mono ?_
  rintro e w3 ⟨rfl, b3⟩
  have b3' : Below W.heap.size W w3 := b2.trans (b3.mono b2.size)
  obtain ⟨c1, c2, c4, c5⟩ := hk w3 b3'
  have hB3 : Below w.heap.size w w3 := hWb.trans (b3'.mono (by omega))
  go_wp2_with fail
  refine ((h.o.below hB3).left x.o.A x.o.c (ro.below hB3) q3).mono ?_
  rintro e w4 ⟨rfl, b4⟩
  have hB4 : Below w.heap.size w w4 := hB3.trans (b4.mono hB3.size)
  go_wp2
  go_ret
  exact ⟨rfl, hB4⟩
end Go.Proofs.YtdckoaljcklmhaaGreatDoor


namespace Go.Proofs.YtdckoaljcklmhaaGreatDoor
open Go.RowKit
set_option linter.unusedVariables false

def sumN (l : List Ls) : Nat := (l.map Ls.n).sum
theorem sizeL_sum (l : List Ls) : sizeL l = l.length + sumN l := by
  induction l with
  | nil => rfl
  | cons u l ih => simp only [sizeL, sumN, List.map_cons, List.sum_cons, List.length_cons] at ih ⊢; omega
theorem sumN_snoc (l : List Ls) (u : Ls) : sumN (l ++ [u]) = sumN l + u.n := by simp [sumN]
theorem sumN_take_le (l : List Ls) (j : Nat) : sumN (l.take j) ≤ sumN l := by
  have h := congrArg sumN (List.take_append_drop j l)
  rw [show sumN (l.take j ++ l.drop j) = sumN (l.take j) + sumN (l.drop j) by simp only [sumN, List.map_append, List.sum_append]] at h
  omega
theorem size_mem {l : List Ls} {u : Ls} (h : u ∈ l) : u.n + 1 ≤ sizeL l := by
  induction l with
  | nil => simp at h
  | cons x l ih =>
    simp only [sizeL, List.map_cons, List.sum_cons] at ih ⊢
    rcases List.mem_cons.1 h with rfl | h
    · omega
    · have := ih h; omega

set_option maxRecDepth 100000 in
theorem intssize_n (A : Option Addr) (n c : Nat) (w : World) : Calls Tryz.prog 18 #[.slice A n c] w fun e w' => e = .returned (.int .i64 n) ∧ w = w' := by
  go_enter Tryz.func18, Tryz.ntmps18
  go_wp2
  go_ret
  exact ⟨rfl, rfl⟩

set_option maxRecDepth 100000 in
set_option maxHeartbeats 1000000 in
theorem intlistssize_all (A : Option Addr) (n c : Nat) (t : List Ls) (w : World) (hl : Lss w A n t) (hc : n ≤ c) (hc2 : c ≤ maxLen) (hz : sizeL t ≤ 1048576) :
    Calls Tryz.prog 19 #[.slice A n c] w fun e w' => e = .returned (.int .i64 (sizeL t : Nat)) ∧ w = w' := by
  have tn := Nat.le_trans hc hc2
  unfold maxLen at tn
  have hlen := hl.len
  have hs := sizeL_sum t
  rw [hlen] at hs
  obtain ⟨Z, hZ⟩ : ∃ Z, sizeL t = Z := ⟨_, rfl⟩
  rw [hZ] at hs hz ⊢
  obtain ⟨M, hM⟩ : ∃ M, sumN t = M := ⟨_, rfl⟩
  rw [hM] at hs
  have HM := Lib.hid hM
  have HL := Lib.hid hlen
  clear hZ hM hlen
  go_enter Tryz.func19, Tryz.ntmps19
  go_wp2_with fail
  go_loop [3, 4] (fun v i => ∃ (z j : Nat), j ≤ n ∧ v = .int .i64 z ∧ i = .int .i64 j ∧ Hid (z = n + sumN (t.take j)) ∧ z ≤ Z) (fun _ i => n - (intOf i).toNat)
  case atStart => exact ⟨n, 0, Nat.zero_le _, rfl, rfl, Lib.hid (by simp [sumN]), by omega⟩
  case round =>
    obtain ⟨z, j, hj, rfl, rfl, hzj, hzZ⟩ := hrel
    by_cases hlt : j < n
    · obtain ⟨p, q, u, hA, hu, hp, hcl, hk⟩ := hl.get hlt
      have hcell : w.cell? ⟨p, q + j, none⟩ = some (.slice u.A u.n u.c) := hcl
      have hjl : j < t.length := by rw [HL.out]; exact hlt
      have hnx : z + u.n = n + sumN (t.take (j + 1)) := by
        rw [List.take_succ_eq_append_getElem hjl, sumN_snoc]
        rw [List.getElem?_eq_getElem hjl] at hu
        rw [Option.some.inj hu, hzj.out]; omega
      have hle : z + u.n ≤ Z := by
        have h1 := sumN_take_le t (j + 1)
        rw [HM.out] at h1
        omega
      have HN := Lib.hid hnx
      subst hA
      clear hcl hl hnx hu hjl
      have hz1 : decide (z ≤ 1048576) = true := decide_eq_true (by omega)
      go_wp2_with fail
      refine (intssize_n u.A u.n u.c w).mono ?_
      rintro e w1 ⟨rfl, rfl⟩
      go_wp2
      go_round
      case rel => exact ⟨z + u.n, j + 1, by omega, by go_num, by go_num, HN, hle⟩
      case measure => simp [intOf]; omega
    · obtain rfl : j = n := by omega
      have hzZ2 : z = Z := by
        have h1 := hzj.out
        rw [List.take_of_length_le (by rw [HL.out]; exact Nat.le_refl _), HM.out] at h1
        omega
      clear hs hz hl
      go_wp2
      go_ret
      exact ⟨rfl, rfl⟩

/-- How much is in a market. -/
def Mk.size (x : Mk) : Nat := 1 + x.r.n + sizeL x.b + x.o.n

set_option maxRecDepth 100000 in
set_option maxHeartbeats 1000000 in
theorem marketsize_all (x : Mk) (w : World) (h : x.Ok w) (hz : x.size ≤ 1048576) :
    Calls Tryz.prog 4 #[x.v] w fun e w' => e = .returned (.int .i64 (x.size : Nat)) ∧ Below w.heap.size w w' := by
  have hxv : x.v = .agg #[.slice x.r.A x.r.n x.r.c, .slice x.A x.n x.c, .slice x.o.A x.o.n x.o.c] := rfl
  rw [hxv]
  have hbox := InBox.new w x
  have hBW : Below w.heap.size w (w.alloc (.cells #[.slice x.r.A x.r.n x.r.c, .slice x.A x.n x.c, .slice x.o.A x.o.n x.o.c] 25)) := (Below.refl _ w).alloc (Nat.le_refl _) _
  have hx := h.below hBW
  clear hxv
  have hil := intlistssize_all x.A x.n x.c x.b
  unfold Mk.size at hz ⊢
  generalize sizeL x.b = Z at *
  go_enter Tryz.func4, Tryz.ntmps4
  go_wp2_with fail
  generalize w.alloc (.cells #[.slice x.r.A x.r.n x.r.c, .slice x.A x.n x.c, .slice x.o.A x.o.n x.o.c] 25) = W at *
  have ⟨c0, c1, c2, clt⟩ := hbox
  refine (intssize_n _ _ _ _).mono ?_
  rintro e w1 ⟨rfl, rfl⟩
  have tr := Nat.le_trans hx.r.cap hx.r.top
  have to := Nat.le_trans hx.o.cap hx.o.top
  unfold maxLen at tr to
  have g1 : decide (1 + (x.r.n : Int) ≤ 1048576) = true := decide_eq_true (by omega)
  have hil := hil W hx.lss hx.cap hx.top (by omega)
  go_wp2_with fail
  refine hil.mono ?_
  rintro e w2 ⟨rfl, rfl⟩
  have g2 : decide (1 + (x.r.n : Int) + (Z : Int) ≤ 1048576) = true := decide_eq_true (by omega)
  go_wp2_with fail
  refine (intssize_n _ _ _ _).mono ?_
  rintro e w3 ⟨rfl, rfl⟩
  go_wp2
  go_ret
  exact ⟨ret_int (by push_cast; omega), hBW⟩
end Go.Proofs.YtdckoaljcklmhaaGreatDoor


namespace Go.Proofs.YtdckoaljcklmhaaGreatDoor
open Go.ChangeShapes Go.WideShapes Go.ChangeAt Go.RowKit Go.Joins Go.Deep
set_option linter.unusedVariables false

theorem left_ls (y x : Ls) (w : World) (B : Nat) (h : Twn w B y) (hx : x.Ok w) (hz : y.zs = x.zs) (hn : y.n = x.n) (h1 : x.n ≤ 1000000000) :
    Calls Tryz.prog 16 #[y.v, x.v] w fun e w' => e = .returned (.bool true) ∧ Below w.heap.size w w' := by
  have ho := h.own
  rw [hz, hn] at ho
  unfold Ls.v
  rw [hn]
  exact leftints_any y.A x.n y.c x.zs x.A x.c w B ho hx.rd h1
theorem pcI_twn {w : World} {lo hi k : Nat} {u : Ls} (h : Twn w lo u) (hh : lo ≤ hi) (hr : ∀ g, Blk u g → g < hi) (hk : k < 1000000000) (hn : u.n ≤ 1000000000) : (pcI u k).Ok w lo hi := by
  obtain ⟨ys, hy⟩ := h.own'
  exact pcI_ok hy hh (fun g hc hA => hr g ⟨hc, hA⟩) hk hn
theorem pcI_own {w : World} {lo hi k : Nat} {u : Ls} (h : OwnI w lo u) (hh : lo ≤ hi) (hr : ∀ g, Blk u g → g < hi) (hk : k < 1000000000) (hn : u.n ≤ 1000000000) : (pcI u k).Ok w lo hi :=
  pcI_ok h.own hh (fun g hc hA => hr g ⟨hc, hA⟩) hk hn
section
variable {H : Type} {enc : TypeId × Value → H} {P : Program} {w : World} {base : Nat} {held : Bool} {r : Reach} {b0 : Nat} {t ti tl : TypeId} {f0 f1 : Field} {v : Value} {d : DataW H} {ps : List MemPlace}
end
end Go.Proofs.YtdckoaljcklmhaaGreatDoor

