/-
  Acts that came in (what, where, which bytes), how much they are in all, and what each does with a disk, the program's and the document's.
-/
import Derived.Test.YthgbenncheoemaaDoorRows
import Derived.Test.YthgbenncheoemaaDoorRecs
import Derived.Test.YthgbenncheoemaaDoorDisksC
import Derived.Test.YthgbenncheoemaaDoorRef03e
import Derived.Test.YthgbenncheoemaaDoorBookT
import Derived.Test.YthgbenncheoemaaDoorSame
import Derived.Deep.Strs
namespace Go.Proofs.YthgbenncheoemaaDoor
open Go.ChangeShapes Go.WideShapes Go.ChangeAt Go.RowKit Go.Deep
set_option linter.unusedVariables false

structure Ac where
  k : Nat
  n : Int
  A : Option Addr
  m : Nat
  c : Nat
  bs : List UInt8
def Ac.cells (x : Ac) : List Value := [.int .u8 x.k, .int .i64 x.n, .slice x.A x.m x.c]
structure Ac.Ok (w : World) (x : Ac) : Prop where
  k : x.k < 256
  lo : -9223372036854775808 ≤ x.n
  hi : x.n ≤ 9223372036854775807
  rd : Rd w x.A x.m (cu8 x.bs)
  cap : x.m ≤ x.c
  top : x.c ≤ maxLen
theorem Ac.Ok.below {w w' : World} {x : Ac} (h : x.Ok w) (hb : Below w.heap.size w w') : x.Ok w' := ⟨h.k, h.lo, h.hi, h.rd.below hb, h.cap, h.top⟩
theorem Ac.Ok.len {w : World} {x : Ac} (h : x.Ok w) : x.bs.length = x.m := by have := h.rd.len; rw [cu8_len] at this; exact this

theorem bulk_pos {H : Type} (d : DataW H) : 1 ≤ Rows.uptoBulk d := by
  cases d with
  | lit l => cases l <;> simp [Rows.uptoBulk]
  | _ => simp [Rows.uptoBulk]
theorem bulk_count {H : Type} (l : List (DataW H)) : l.length ≤ Rows.uptoBulkAll l := by
  induction l with
  | nil => simp [Rows.uptoBulkAll]
  | cons x r ih => have := bulk_pos x; simp only [Rows.uptoBulkAll, List.length_cons]; omega
theorem bulk_sum {H : Type} {α : Type} (bk : α → Nat) (l : List α) : ∀ (D : Nat → DataW H), (∀ (i : Nat) (u : α), l[i]? = some u → bk u ≤ Rows.uptoBulk (D i)) → (l.map bk).sum ≤ Rows.uptoBulkAll ((List.range l.length).map D) := by
  induction l with
  | nil => intro D _; simp
  | cons x r ih =>
    intro D h
    rw [List.length_cons, List.range_succ_eq_map, List.map_cons, List.map_cons, List.map_map, List.sum_cons]
    simp only [Rows.uptoBulkAll]
    have h0 := h 0 x rfl
    have h1 := ih (D ∘ Nat.succ) fun i u hi => h (i + 1) u (by simpa using hi)
    omega

section
variable {H : Type} {enc : TypeId × Value → H} {P : Program} {w : World} {base : Nat} {held : Bool} {r : Reach} {b0 : Nat} {t e tb : TypeId} {f0 f1 f2 : Field} {v : Value} {d : DataW H} {ps : List MemPlace} {fuel K : Nat} {cs : List Value} {x : DataW H × List MemPlace}

theorem open_u8s_b (ht : P.underlying t = some (.slice e)) (he : P.underlying e = some (.int .u8)) (hc : P.cellsOf e = 1) (h : DataW.trod enc P w base (fun _ => true) held fuel t cs = some x) :
    ∃ A n c bs, cs = [.slice A n c] ∧ Rd w A n (cu8 bs) ∧ n ≤ c ∧ c ≤ maxLen ∧ n ≤ Rows.uptoBulk x.1 := by
  rcases open_ints ht he hc h with ⟨rfl, rfl⟩ | ⟨a, len, cap, zs, rfl, _, h1, h2, h3, rfl, h4, h5⟩
  · exact ⟨none, 0, 0, [], rfl, Rd.nil _ _, Nat.le_refl _, Nat.zero_le _, Nat.zero_le _⟩
  · simp only [if_true] at h3
    obtain ⟨bs, hb⟩ := u8s_of (zs.take len) (fun z hz => h5 z (List.mem_of_mem_take hz))
    refine ⟨some a, len, cap, bs, rfl, by rw [← hb]; exact rd_of_ints (by omega) h4, h1, h2, ?_⟩
    have hl := bulk_count (lits (H := H) .u8 (zs.take len))
    have hl2 : (lits (H := H) .u8 (zs.take len)).length = len := by simp [lits]; omega
    simp only [Rows.uptoBulk]
    omega

/-- A slice of records that came in, at its cell, and how much they are. -/
theorem open_recs_b {α : Type} (cl : α → List Value) (R : α → Prop) (bk : α → Nat) (ht : P.underlying t = some (.slice e)) (hC : P.cellsOf e = K) (hK : 0 < K)
    (hq : ∀ (m : Nat) (cs' : List Value) (y : DataW H × List MemPlace), DataW.trod enc P w base (fun _ => true) held m e cs' = some y → ∃ u : α, cs' = cl u ∧ R u ∧ bk u ≤ Rows.uptoBulk y.1)
    (h : DataW.trod enc P w base (fun _ => true) held fuel t cs = some x) :
    ∃ (A : Option Addr) (n c : Nat) (l : List α), cs = [.slice A n c] ∧ RdR w K A n (l.map cl) ∧ (∀ u ∈ l, R u) ∧ n ≤ c ∧ c ≤ maxLen ∧ (0 < n → ∃ b o, A = some ⟨b, o, none⟩ ∧ b < w.heap.size) ∧ n ≤ Rows.uptoBulk x.1 ∧ (l.map bk).sum ≤ Rows.uptoBulk x.1 := by
  rcases Go.Deep.open_slice ht h with ⟨rfl, rfl⟩ | ⟨a, len, cap, m, n, D, Pl, rfl, hb, hl, hm, hmm, rfl, hi⟩
  · exact ⟨none, 0, 0, [], rfl, ⟨rfl, fun h => absurd h (by omega)⟩, fun u hu => by simp at hu, Nat.le_refl _, Nat.zero_le _, fun h => absurd h (by omega), Nat.zero_le _, by simp⟩
  · simp only [if_true] at hmm
    have h2 : ∀ i, i < len → ∃ u : α, (R u ∧ (cl u).length = K ∧ ∀ j, j < K → w.cell? (a.add (i * K + j)) = (cl u)[j]?) ∧ bk u ≤ Rows.uptoBulk (D i) := by
      intro i him
      obtain ⟨cs', hc, ht'⟩ := hi i (by omega)
      rw [hC] at hc
      obtain ⟨_, hcl, hat⟩ := World.cells?_some hc
      obtain ⟨u, rfl, hu, hbu⟩ := hq _ _ _ ht'
      exact ⟨u, ⟨hu, hcl, fun j hj => by rw [← Go.Deep.add_add]; exact hat j hj⟩, hbu⟩
    obtain ⟨l, hll, hlp⟩ := list_of len _ h2
    have hat : ∀ hn : 0 < len, ∃ b o, a = ⟨b, o, none⟩ ∧ b < w.heap.size := by
      intro hn
      obtain ⟨u, ⟨_, hcl, hcu⟩, _⟩ := h2 0 hn
      obtain ⟨b, off, spot⟩ := a
      have h0 := hcu 0 hK
      rw [List.getElem?_eq_getElem (by omega)] at h0
      have hspot : spot = none := by simpa [Addr.add] using World.cell?_spot h0
      subst hspot
      exact ⟨b, off, rfl, by rw [Addr.add_lit] at h0; exact World.block_lt_of_cell? w _ h0⟩
    have hcnt := bulk_count ((List.range len).map D)
    have hsum := bulk_sum bk l D fun i u hu => (hlp i u hu).2
    rw [hll] at hsum
    simp only [List.length_map, List.length_range] at hcnt
    refine ⟨some a, len, cap, l, rfl, ⟨by simpa using hll, fun hn => ?_⟩, fun u hu => ?_, hl, hm, fun hn => ?_, ?_, ?_⟩
    · obtain ⟨b, o, rfl, _⟩ := hat hn
      refine ⟨b, o, rfl, fun j r hj i hik => ?_⟩
      rw [List.getElem?_map] at hj
      obtain ⟨u, hu, rfl⟩ := Option.map_eq_some_iff.1 hj
      rw [← (hlp j u hu).1.2.2 i hik, Addr.add_lit]
    · obtain ⟨j, hj, rfl⟩ := List.getElem_of_mem hu
      exact (hlp j _ (List.getElem?_eq_getElem hj)).1.1
    · obtain ⟨b, o, rfl, hlt⟩ := hat hn
      exact ⟨b, o, rfl, hlt⟩
    · simp only [Rows.uptoBulk]; omega
    · simp only [Rows.uptoBulk]; omega

theorem open_ac {m : Nat} {cs : List Value} {y : DataW H × List MemPlace} (hs : P.underlying e = some (.struct #[f0, f1, f2])) (hone : oneCellFields P #[f0, f1, f2] = true) (hC : P.cellsOf e = 3) (k0 : P.underlying f0.type = some (.int .u8)) (k1 : P.underlying f1.type = some (.int .i64)) (k2 : P.underlying f2.type = some (.slice tb))
    (kb : P.underlying tb = some (.int .u8)) (hcb : P.cellsOf tb = 1) (h : DataW.trod enc P w base (fun _ => true) held m e cs = some y) : ∃ u : Ac, cs = u.cells ∧ u.Ok w ∧ u.m ≤ Rows.uptoBulk y.1 := by
  obtain ⟨y0, y1, y2, n, rfl, hl, h0, h1, h2⟩ := trod_struct3 hs h
  obtain ⟨o0, c0⟩ := hone_of hone 0 f0 rfl
  obtain ⟨o1, c1⟩ := hone_of hone 1 f1 rfl
  obtain ⟨o2, c2⟩ := hone_of hone 2 f2 rfl
  rw [hC] at hl
  match cs, hl with
  | [v0, v1, v2], _ =>
    rw [o0, c0] at h0
    rw [o1, c1] at h1
    rw [o2, c2] at h2
    obtain ⟨z, rfl, hz⟩ := open_kc k0 (show DataW.trod enc P w base (fun _ => true) held n f0.type [v0] = some y0 from h0)
    obtain ⟨z1, rfl, hz1⟩ := open_kc k1 (show DataW.trod enc P w base (fun _ => true) held n f1.type [v1] = some y1 from h1)
    obtain ⟨A, k, c, bs, hcs, hr, h3, h4, h5⟩ := open_u8s_b k2 kb hcb (show DataW.trod enc P w base (fun _ => true) held n f2.type [v2] = some y2 from h2)
    simp only [List.cons.injEq, and_true] at hcs
    subst hcs
    obtain ⟨k0, rfl, hk0⟩ := fit_u8 hz
    have hb1 := bounds_i64 hz1
    refine ⟨⟨k0, z1, A, k, c, bs⟩, rfl, ⟨hk0, hb1.1, hb1.2, hr, h3, h4⟩, ?_⟩
    simp only [Rows.uptoBulk, Rows.uptoBulkAll]
    omega

/-- A list of acts that came in. -/
theorem arg_acts (ht : P.underlying t = some (.slice e)) (hs : P.underlying e = some (.struct #[f0, f1, f2])) (hone : oneCellFields P #[f0, f1, f2] = true) (hC : P.cellsOf e = 3) (k0 : P.underlying f0.type = some (.int .u8)) (k1 : P.underlying f1.type = some (.int .i64)) (k2 : P.underlying f2.type = some (.slice tb))
    (kb : P.underlying tb = some (.int .u8)) (hcb : P.cellsOf tb = 1) (hval : Value.okWide P w r b0 t v) (h : DataW.Trod enc P w base (fun _ => true) held t v d ps) :
    ∃ (A : Option Addr) (n c : Nat) (l : List Ac), v = .slice A n c ∧ RdR w 3 A n (l.map Ac.cells) ∧ (∀ u ∈ l, u.Ok w) ∧ n ≤ c ∧ c ≤ maxLen ∧ (0 < n → ∃ b o, A = some ⟨b, o, none⟩ ∧ b < w.heap.size) ∧ n ≤ Rows.uptoBulk d ∧ (l.map Ac.m).sum ≤ Rows.uptoBulk d := by
  obtain ⟨a, len, cap, rfl⟩ := okWide_slice ht hval
  obtain ⟨fuel, hf⟩ := h
  obtain ⟨A, n, c, l, hcs, h1, h2, h3, h4, h5, h6, h7⟩ := open_recs_b Ac.cells (Ac.Ok w) Ac.m ht hC (by omega) (fun m cs' y hy => open_ac hs hone hC k0 k1 k2 kb hcb hy) hf
  simp only [Value.cells, List.cons.injEq, and_true] at hcs
  exact ⟨A, n, c, l, hcs, h1, h2, h3, h4, h5, h6, h7⟩
end

/-- Of a list of acts, one: where its three cells lie. -/
theorem acts_get {w : World} {A : Option Addr} {n : Nat} {l : List Ac} (h : RdR w 3 A n (l.map Ac.cells)) {j : Nat} (hj : j < n) :
    ∃ (b o : Nat) (u : Ac), A = some ⟨b, o, none⟩ ∧ l[j]? = some u ∧ b < w.heap.size ∧ w.cell? ⟨b, o + j * 3, none⟩ = some (.int .u8 u.k) ∧ w.cell? ⟨b, o + j * 3 + 1, none⟩ = some (.int .i64 u.n) ∧ w.cell? ⟨b, o + j * 3 + 2, none⟩ = some (.slice u.A u.m u.c) := by
  obtain ⟨b, o, hA, hc⟩ := h.2 (by omega)
  have hl : j < l.length := by have := h.1; simp at this; omega
  have h1 := hc j l[j].cells (by simp [hl]) 0 (by omega)
  have h2 := hc j l[j].cells (by simp [hl]) 1 (by omega)
  have h3 := hc j l[j].cells (by simp [hl]) 2 (by omega)
  exact ⟨b, o, l[j], hA, List.getElem?_eq_getElem hl, World.block_lt_of_cell? w _ h1, h1, h2, h3⟩

/-- How great a list of acts is. -/
def gsum (l : List Ac) : Nat := (l.map fun x => 2 + x.m / 30).sum
theorem gsum_snoc (l : List Ac) (x : Ac) : gsum (l ++ [x]) = gsum l + (2 + x.m / 30) := by simp [gsum]
theorem gsum_le (l : List Ac) : gsum l ≤ 2 * l.length + (l.map Ac.m).sum := by
  induction l with
  | nil => simp [gsum]
  | cons x r ih => simp only [gsum, List.map_cons, List.sum_cons, List.length_cons] at ih ⊢; omega
theorem gsum_two (l : List Ac) : 2 * l.length ≤ gsum l := by
  induction l with
  | nil => simp [gsum]
  | cons x r ih => simp only [gsum, List.map_cons, List.sum_cons, List.length_cons] at ih ⊢; omega
theorem gsum_mem (l : List Ac) (x : Ac) (h : x ∈ l) : 2 + x.m / 30 ≤ gsum l := by
  induction l with
  | nil => simp at h
  | cons y r ih =>
    simp only [gsum, List.map_cons, List.sum_cons] at ih ⊢
    rcases List.mem_cons.1 h with rfl | h
    · omega
    · have := ih h; omega
theorem gsum_take (l : List Ac) (j : Nat) : gsum (l.take j) ≤ gsum l := by
  have h : gsum l = gsum (l.take j) + gsum (l.drop j) := by
    have := congrArg gsum (List.take_append_drop j l)
    simp only [gsum, List.map_append, List.sum_append] at this ⊢
    omega
  omega

set_option maxRecDepth 100000 in
set_option maxHeartbeats 1000000 in
theorem great_any (A : Option Addr) (n c : Nat) (l : List Ac) (w : World) (hr : RdR w 3 A n (l.map Ac.cells)) (hl : ∀ u ∈ l, u.Ok w) (hg : gsum l ≤ 1000000000) :
    Calls Tryd.prog 4 #[.slice A n c] w fun e w' => e = .returned (.bool (decide (600 < gsum l))) ∧ w = w' := by
  have hll : l.length = n := by have := hr.1; simpa using this
  have hn2 := gsum_two l
  have HLL := Lib.hid hll
  have hnb : n ≤ 1000000000 := by omega
  clear hll
  go_enter Tryd.func4, Tryd.ntmps4
  go_wp2
  go_loop [3, 4] (fun v i => ∃ j : Nat, j ≤ n ∧ i = .int .i64 j ∧ v = .int .i64 (gsum (l.take j))) (fun _ i => n - (intOf i).toNat)
  case atStart => exact ⟨0, Nat.zero_le _, rfl, rfl⟩
  case round =>
    obtain ⟨j, hj, rfl, rfl⟩ := hrel
    have ht := gsum_take l j
    by_cases hlt : j < n
    · obtain ⟨b, o, u, rfl, hu, hb, c0, c1, c2⟩ := acts_get hr hlt
      have hjl : j < l.length := by rw [HLL.out]; exact hlt
      have hul : l[j] = u := by rw [List.getElem?_eq_getElem hjl] at hu; exact Option.some.inj hu
      have hs : gsum (l.take (j + 1)) = gsum (l.take j) + (2 + u.m / 30) := by rw [List.take_succ_eq_append_getElem hjl, gsum_snoc, hul]
      have hm := gsum_mem l u (List.mem_of_getElem? hu)
      have HS := Lib.hid hs
      have HU := Lib.hid hu
      generalize hgs : gsum (l.take j) = G at ht HS
      clear hul hs hu hgs hr hl
      go_wp2
      go_round
      case rel => exact ⟨j + 1, by omega, by go_num, by rw [HS.out]; go_num⟩
      case measure => simp [intOf]; omega
    · obtain rfl : j = n := by omega
      have hfin : gsum (l.take j) = gsum l := by rw [List.take_of_length_le (by rw [HLL.out]; exact Nat.le_refl _)]
      rw [hfin]
      clear hfin
      go_wp2
      go_ret
      exact ⟨ret_bool (by rw [decide_eq_decide]; omega), rfl⟩
end Go.Proofs.YthgbenncheoemaaDoor
