/-
  How much came in: lists of bytes and of ints, lists of records, lists of lists, markets, and the bulk of each (for statements of the second form).
-/
import Derived.Test.YtjjaajmjcdihoaaGreatDoorRows
import Derived.Test.YtjjaajmjcdihoaaGreatDoorMark
namespace Go.Proofs.YtjjaajmjcdihoaaGreatDoor
open Go.ChangeShapes Go.WideShapes Go.ChangeAt Go.RowKit Go.Joins Go.Deep
set_option linter.unusedVariables false

theorem bulk_pos {H : Type} (d : DataW H) : 1 ≤ Rows.uptoBulk d := by
  cases d with
  | lit l => cases l <;> simp [Rows.uptoBulk]
  | _ => simp [Rows.uptoBulk]
theorem bulk_count {H : Type} (l : List (DataW H)) : l.length ≤ Rows.uptoBulkAll l := by
  induction l with
  | nil => simp [Rows.uptoBulkAll]
  | cons x r ih => have := bulk_pos x; simp only [Rows.uptoBulkAll, List.length_cons]; omega
theorem bulk_sum {H : Type} {α : Type} (bk : α → Nat) (l : List α) : ∀ (D : Nat → DataW H), (∀ (i : Nat) (u : α), l[i]? = some u → bk u ≤ Rows.uptoBulk (D i)) → (l.map bk).sum ≤ Rows.uptoBulkAll ((List.range l.length).map D) := by
  induction l with
  | nil => intro D _; simp
  | cons x r ih =>
    intro D h
    rw [List.length_cons, List.range_succ_eq_map, List.map_cons, List.map_cons, List.map_map, List.sum_cons]
    simp only [Rows.uptoBulkAll]
    have h0 := h 0 x rfl
    have h1 := ih (D ∘ Nat.succ) fun i u hi => h (i + 1) u (by simpa using hi)
    omega

section
variable {H : Type} {enc : TypeId × Value → H} {P : Program} {w : World} {base : Nat} {held : Bool} {r : Reach} {b0 : Nat} {t e ti tl : TypeId} {f0 f1 f2 : Field} {v : Value} {d : DataW H} {ps : List MemPlace} {fuel K : Nat} {cs : List Value} {x : DataW H × List MemPlace}

theorem open_u8s_b (ht : P.underlying t = some (.slice e)) (he : P.underlying e = some (.int .u8)) (hc : P.cellsOf e = 1) (h : DataW.trod enc P w base (fun _ => true) held fuel t cs = some x) :
    ∃ A n c bs, cs = [.slice A n c] ∧ Rd w A n (cu8 bs) ∧ n ≤ c ∧ c ≤ maxLen ∧ n ≤ Rows.uptoBulk x.1 := by
  rcases open_ints ht he hc h with ⟨rfl, rfl⟩ | ⟨a, len, cap, zs, rfl, _, h1, h2, h3, rfl, h4, h5⟩
  · exact ⟨none, 0, 0, [], rfl, Rd.nil _ _, Nat.le_refl _, Nat.zero_le _, Nat.zero_le _⟩
  · simp only [if_true] at h3
    obtain ⟨bs, hb⟩ := u8s_of (zs.take len) (fun z hz => h5 z (List.mem_of_mem_take hz))
    refine ⟨some a, len, cap, bs, rfl, by rw [← hb]; exact rd_of_ints (by omega) h4, h1, h2, ?_⟩
    have hl := bulk_count (lits (H := H) .u8 (zs.take len))
    have hl2 : (lits (H := H) .u8 (zs.take len)).length = len := by simp [lits]; omega
    simp only [Rows.uptoBulk]
    omega

/-- A slice of records that came in, at its cell, and how much they are. -/
theorem open_recs_b {α : Type} (cl : α → List Value) (R : α → Prop) (bk : α → Nat) (ht : P.underlying t = some (.slice e)) (hC : P.cellsOf e = K) (hK : 0 < K)
    (hq : ∀ (m : Nat) (cs' : List Value) (y : DataW H × List MemPlace), DataW.trod enc P w base (fun _ => true) held m e cs' = some y → ∃ u : α, cs' = cl u ∧ R u ∧ bk u ≤ Rows.uptoBulk y.1)
    (h : DataW.trod enc P w base (fun _ => true) held fuel t cs = some x) :
    ∃ (A : Option Addr) (n c : Nat) (l : List α), cs = [.slice A n c] ∧ RdR w K A n (l.map cl) ∧ (∀ u ∈ l, R u) ∧ n ≤ c ∧ c ≤ maxLen ∧ (0 < n → ∃ b o, A = some ⟨b, o, none⟩ ∧ b < w.heap.size) ∧ n ≤ Rows.uptoBulk x.1 ∧ (l.map bk).sum ≤ Rows.uptoBulk x.1 := by
  rcases Go.Deep.open_slice ht h with ⟨rfl, rfl⟩ | ⟨a, len, cap, m, n, D, Pl, rfl, hb, hl, hm, hmm, rfl, hi⟩
  · exact ⟨none, 0, 0, [], rfl, ⟨rfl, fun h => absurd h (by omega)⟩, fun u hu => by simp at hu, Nat.le_refl _, Nat.zero_le _, fun h => absurd h (by omega), Nat.zero_le _, by simp⟩
  · simp only [if_true] at hmm
    have h2 : ∀ i, i < len → ∃ u : α, (R u ∧ (cl u).length = K ∧ ∀ j, j < K → w.cell? (a.add (i * K + j)) = (cl u)[j]?) ∧ bk u ≤ Rows.uptoBulk (D i) := by
      intro i him
      obtain ⟨cs', hc, ht'⟩ := hi i (by omega)
      rw [hC] at hc
      obtain ⟨_, hcl, hat⟩ := World.cells?_some hc
      obtain ⟨u, rfl, hu, hbu⟩ := hq _ _ _ ht'
      exact ⟨u, ⟨hu, hcl, fun j hj => by rw [← Go.Deep.add_add]; exact hat j hj⟩, hbu⟩
    obtain ⟨l, hll, hlp⟩ := list_of len _ h2
    have hat : ∀ hn : 0 < len, ∃ b o, a = ⟨b, o, none⟩ ∧ b < w.heap.size := by
      intro hn
      obtain ⟨u, ⟨_, hcl, hcu⟩, _⟩ := h2 0 hn
      obtain ⟨b, off, spot⟩ := a
      have h0 := hcu 0 hK
      rw [List.getElem?_eq_getElem (by omega)] at h0
      have hspot : spot = none := by simpa [Addr.add] using World.cell?_spot h0
      subst hspot
      exact ⟨b, off, rfl, by rw [Addr.add_lit] at h0; exact World.block_lt_of_cell? w _ h0⟩
    have hcnt := bulk_count ((List.range len).map D)
    have hsum := bulk_sum bk l D fun i u hu => (hlp i u hu).2
    rw [hll] at hsum
    simp only [List.length_map, List.length_range] at hcnt
    refine ⟨some a, len, cap, l, rfl, ⟨by simpa using hll, fun hn => ?_⟩, fun u hu => ?_, hl, hm, fun hn => ?_, ?_, ?_⟩
    · obtain ⟨b, o, rfl, _⟩ := hat hn
      refine ⟨b, o, rfl, fun j r hj i hik => ?_⟩
      rw [List.getElem?_map] at hj
      obtain ⟨u, hu, rfl⟩ := Option.map_eq_some_iff.1 hj
      rw [← (hlp j u hu).1.2.2 i hik, Addr.add_lit]
    · obtain ⟨j, hj, rfl⟩ := List.getElem_of_mem hu
      exact (hlp j _ (List.getElem?_eq_getElem hj)).1.1
    · obtain ⟨b, o, rfl, hlt⟩ := hat hn
      exact ⟨b, o, rfl, hlt⟩
    · simp only [Rows.uptoBulk]; omega
    · simp only [Rows.uptoBulk]; omega

/-- A list of ints that came in, at its cell, and how much it is. -/
theorem open_i64s_b (ht : P.underlying t = some (.slice e)) (he : P.underlying e = some (.int .i64)) (hc : P.cellsOf e = 1) (h : DataW.trod enc P w base (fun _ => true) held fuel t cs = some x) :
    ∃ u : Ls, cs = [u.v] ∧ u.Ok w ∧ u.n + 1 ≤ Rows.uptoBulk x.1 := by
  obtain ⟨A, n, c, zs, hcs, h1, h2, h3, h4⟩ := open_i64s ht he hc h
  refine ⟨⟨A, n, c, zs⟩, hcs, ⟨h1, h2, h3, h4⟩, ?_⟩
  rcases open_ints ht he hc h with ⟨rfl, hx⟩ | ⟨a, len, cap, zs, rfl, _, _, _, g3, rfl, g4, g5⟩
  · simp only [List.cons.injEq, and_true, Value.slice.injEq] at hcs
    obtain ⟨rfl, rfl, rfl⟩ := hcs
    have := bulk_pos x.1
    simp only; omega
  · simp only [List.cons.injEq, and_true, Value.slice.injEq] at hcs
    obtain ⟨rfl, rfl, rfl⟩ := hcs
    have hl := bulk_count (lits (H := H) .i64 (zs.take len))
    simp only [if_true] at g3
    have hl2 : (lits (H := H) .i64 (zs.take len)).length = len := by simp [lits]; omega
    simp only [Rows.uptoBulk]
    omega
/-- How much is in lists, these counted too. -/
def sizeL (l : List Ls) : Nat := (l.map fun u => u.n + 1).sum
/-- A market that came in, and how much it is. -/
theorem open_mk_b {m : Nat} {cs : List Value} {y : DataW H × List MemPlace} (hs : P.underlying t = some (.struct #[f0, f1, f2])) (hone : oneCellFields P #[f0, f1, f2] = true) (hC : P.cellsOf t = 3) (k0 : P.underlying f0.type = some (.slice ti)) (k1 : P.underlying f1.type = some (.slice tl)) (k2 : P.underlying f2.type = some (.slice ti))
    (kl : P.underlying tl = some (.slice ti)) (hcl : P.cellsOf tl = 1) (ki : P.underlying ti = some (.int .i64)) (hci : P.cellsOf ti = 1) (h : DataW.trod enc P w base (fun _ => true) held m t cs = some y) : ∃ u : Mk, cs = u.cells ∧ u.Ok w ∧ u.r.n + sizeL u.b + u.o.n + 3 ≤ Rows.uptoBulk y.1 := by
  obtain ⟨y0, y1, y2, n, rfl, hl, h0, h1, h2⟩ := trod_struct3 hs h
  obtain ⟨o0, c0⟩ := hone_of hone 0 f0 rfl
  obtain ⟨o1, c1⟩ := hone_of hone 1 f1 rfl
  obtain ⟨o2, c2⟩ := hone_of hone 2 f2 rfl
  rw [hC] at hl
  match cs, hl with
  | [v0, v1, v2], _ =>
    rw [o0, c0] at h0
    rw [o1, c1] at h1
    rw [o2, c2] at h2
    obtain ⟨u0, e0, a0, z0⟩ := open_i64s_b k0 ki hci (show DataW.trod enc P w base (fun _ => true) held n f0.type [v0] = some y0 from h0)
    obtain ⟨u2, e2, a2, z2⟩ := open_i64s_b k2 ki hci (show DataW.trod enc P w base (fun _ => true) held n f2.type [v2] = some y2 from h2)
    obtain ⟨A, k, c, l, e1, b1, b2, b3, b4, b5, z1, z3⟩ := open_recs_b (fun u : Ls => [u.v]) (Ls.Ok w) (fun u => u.n + 1) k1 hcl (by omega) (fun m cs' y hy => open_i64s_b kl ki hci hy) (show DataW.trod enc P w base (fun _ => true) held n f1.type [v1] = some y1 from h1)
    simp only [List.cons.injEq, and_true] at e0 e1 e2
    subst e0 e1 e2
    refine ⟨⟨u0, A, k, c, l, u2⟩, rfl, ⟨a0, a2, b1, b2, b3, b4, b5⟩, ?_⟩
    simp only [Rows.uptoBulk, Rows.uptoBulkAll, sizeL]
    omega
theorem arg_mk_b (hs : P.underlying t = some (.struct #[f0, f1, f2])) (hone : oneCellFields P #[f0, f1, f2] = true) (hC : P.cellsOf t = 3) (k0 : P.underlying f0.type = some (.slice ti)) (k1 : P.underlying f1.type = some (.slice tl)) (k2 : P.underlying f2.type = some (.slice ti))
    (kl : P.underlying tl = some (.slice ti)) (hcl : P.cellsOf tl = 1) (ki : P.underlying ti = some (.int .i64)) (hci : P.cellsOf ti = 1) (hval : Value.okWide P w r b0 t v) (h : DataW.Trod enc P w base (fun _ => true) held t v d ps) : ∃ u : Mk, v = u.v ∧ u.Ok w ∧ u.r.n + sizeL u.b + u.o.n + 3 ≤ Rows.uptoBulk d := by
  obtain ⟨cs, rfl, hsz⟩ := okWide_struct hs hval
  obtain ⟨fuel, hf⟩ := h
  obtain ⟨u, hu, hok, hb⟩ := open_mk_b hs hone hC k0 k1 k2 kl hcl ki hci hf
  obtain ⟨c0, c1, c2, rfl⟩ := array3 (hsz.trans hC)
  refine ⟨u, ?_, hok, hb⟩
  simp [Value.cells, Mk.cells] at hu
  rw [hu.1, hu.2.1, hu.2.2, Mk.v]
/-- Lists that came in, and how much they are. -/
theorem arg_lists_b (ht : P.underlying t = some (.slice tl)) (kl : P.underlying tl = some (.slice ti)) (hcl : P.cellsOf tl = 1) (ki : P.underlying ti = some (.int .i64)) (hci : P.cellsOf ti = 1) (hval : Value.okWide P w r b0 t v) (h : DataW.Trod enc P w base (fun _ => true) held t v d ps) :
    ∃ A n c l, v = .slice A n c ∧ RdR w 1 A n (l.map fun u => [Ls.v u]) ∧ (∀ u ∈ l, u.Ok w) ∧ n ≤ c ∧ c ≤ maxLen ∧ sizeL l ≤ Rows.uptoBulk d := by
  obtain ⟨a, len, cap, rfl⟩ := okWide_slice ht hval
  obtain ⟨fuel, hf⟩ := h
  obtain ⟨A, k, c, l, e1, b1, b2, b3, b4, b5, z1, z3⟩ := open_recs_b (fun u : Ls => [u.v]) (Ls.Ok w) (fun u => u.n + 1) ht hcl (by omega) (fun m cs' y hy => open_i64s_b kl ki hci hy) hf
  simp only [Value.cells, List.cons.injEq, and_true] at e1
  exact ⟨A, k, c, l, e1, b1, b2, b3, b4, z3⟩
end
end Go.Proofs.YtjjaajmjcdihoaaGreatDoor
