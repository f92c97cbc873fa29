/-
  Writes that came in (where, and what), and what any of them does to a disk.
-/
import Derived.Test.YthgbenncheoemaaRecs
import Derived.Test.YthgbenncheoemaaDisksW4
import Derived.Test.YthgbenncheoemaaLit
import Derived.Lib.SmallJoins
namespace Go.Proofs.Ythgbenncheoemaa
open Go.ChangeShapes Go.WideShapes Go.ChangeAt Go.RowKit Go.Joins Go.Deep
set_option linter.unusedVariables false

/-- A write that came in: where, and what. -/
structure Wr where
  n : Nat
  A : Option Addr
  m : Nat
  c : Nat
  bs : List UInt8
def Wr.cells (x : Wr) : List Value := [.int .u8 x.n, .slice x.A x.m x.c]
structure Wr.Ok (w : World) (x : Wr) : Prop where
  n : x.n < 256
  rd : Rd w x.A x.m (cu8 x.bs)
  cap : x.m ≤ x.c
  top : x.c ≤ maxLen
theorem Wr.Ok.below {w w' : World} {x : Wr} (h : x.Ok w) (hb : Below w.heap.size w w') : x.Ok w' := ⟨h.n, h.rd.below hb, h.cap, h.top⟩
theorem Wr.Ok.len {w : World} {x : Wr} (h : x.Ok w) : x.bs.length = x.m := by have := h.rd.len; rw [cu8_len] at this; exact this

section
variable {H : Type} {enc : TypeId × Value → H} {P : Program} {w : World} {base : Nat} {held : Bool} {r : Reach} {b0 : Nat} {t e tb : TypeId} {f0 f1 : Field} {v : Value} {d : DataW H} {ps : List MemPlace}

theorem open_wr {m : Nat} {cs : List Value} {y : DataW H × List MemPlace} (hs : P.underlying e = some (.struct #[f0, f1])) (hone : oneCellFields P #[f0, f1] = true) (hC : P.cellsOf e = 2) (k0 : P.underlying f0.type = some (.int .u8)) (k1 : P.underlying f1.type = some (.slice tb))
    (kb : P.underlying tb = some (.int .u8)) (hcb : P.cellsOf tb = 1) (h : DataW.trod enc P w base (fun _ => true) held m e cs = some y) : ∃ u : Wr, cs = u.cells ∧ u.Ok w := by
  obtain ⟨y0, y1, n, _, hl, h0, h1⟩ := trod_struct2 hs h
  obtain ⟨o0, c0⟩ := hone_of hone 0 f0 rfl
  obtain ⟨o1, c1⟩ := hone_of hone 1 f1 rfl
  rw [hC] at hl
  match cs, hl with
  | [v0, v1], _ =>
    rw [o0, c0] at h0
    rw [o1, c1] at h1
    obtain ⟨z, rfl, hz⟩ := open_kc k0 (show DataW.trod enc P w base (fun _ => true) held n f0.type [v0] = some y0 from h0)
    obtain ⟨A, k, c, bs, hcs, hr, h2, h3⟩ := open_u8s k1 kb hcb (show DataW.trod enc P w base (fun _ => true) held n f1.type [v1] = some y1 from h1)
    simp only [List.cons.injEq, and_true] at hcs
    subst hcs
    obtain ⟨k0, rfl, hk0⟩ := fit_u8 hz
    exact ⟨⟨k0, A, k, c, bs⟩, rfl, ⟨hk0, hr, h2, h3⟩⟩

/-- A list of writes that came in. -/
theorem arg_ws (ht : P.underlying t = some (.slice e)) (hs : P.underlying e = some (.struct #[f0, f1])) (hone : oneCellFields P #[f0, f1] = true) (hC : P.cellsOf e = 2) (k0 : P.underlying f0.type = some (.int .u8)) (k1 : P.underlying f1.type = some (.slice tb))
    (kb : P.underlying tb = some (.int .u8)) (hcb : P.cellsOf tb = 1) (hval : Value.okWide P w r b0 t v) (h : DataW.Trod enc P w base (fun _ => true) held t v d ps) :
    ∃ (A : Option Addr) (n c : Nat) (l : List Wr), v = .slice A n c ∧ RdR w 2 A n (l.map Wr.cells) ∧ (∀ u ∈ l, u.Ok w) ∧ n ≤ c ∧ c ≤ maxLen ∧ (0 < n → ∃ b o, A = some ⟨b, o, none⟩ ∧ b < w.heap.size) := by
  obtain ⟨a, len, cap, rfl⟩ := okWide_slice ht hval
  obtain ⟨fuel, hf⟩ := h
  obtain ⟨A, n, c, l, hcs, h1, h2, h3, h4, h5⟩ := open_recs Wr.cells (Wr.Ok w) ht hC (by omega) (fun m cs' y hy => open_wr hs hone hC k0 k1 kb hcb hy) hf
  simp only [Value.cells, List.cons.injEq, and_true] at hcs
  exact ⟨A, n, c, l, hcs, h1, h2, h3, h4, h5⟩

/-- One write that came in. -/
theorem arg_wr (hs : P.underlying t = some (.struct #[f0, f1])) (hone : oneCellFields P #[f0, f1] = true) (hC : P.cellsOf t = 2) (k0 : P.underlying f0.type = some (.int .u8)) (k1 : P.underlying f1.type = some (.slice tb))
    (kb : P.underlying tb = some (.int .u8)) (hcb : P.cellsOf tb = 1) (hval : Value.okWide P w r b0 t v) (h : DataW.Trod enc P w base (fun _ => true) held t v d ps) :
    ∃ u : Wr, v = .agg #[.int .u8 u.n, .slice u.A u.m u.c] ∧ u.Ok w := by
  obtain ⟨cs, rfl, hsz⟩ := okWide_struct hs hval
  obtain ⟨fuel, hf⟩ := h
  obtain ⟨u, hu, hok⟩ := open_wr hs hone hC k0 k1 kb hcb hf
  obtain ⟨c0, c1, rfl⟩ := array2 (hsz.trans hC)
  refine ⟨u, ?_, hok⟩
  simp [Value.cells, Wr.cells] at hu
  rw [hu.1, hu.2]
end

/-- Of a list of writes, one: where its two cells lie. -/
theorem ws_get {w : World} {A : Option Addr} {n : Nat} {l : List Wr} (h : RdR w 2 A n (l.map Wr.cells)) {j : Nat} (hj : j < n) :
    ∃ (b o : Nat) (u : Wr), A = some ⟨b, o, none⟩ ∧ l[j]? = some u ∧ b < w.heap.size ∧ w.cell? ⟨b, o + j * 2, none⟩ = some (.int .u8 u.n) ∧ w.cell? ⟨b, o + j * 2 + 1, none⟩ = some (.slice u.A u.m u.c) := by
  obtain ⟨b, o, hA, hc⟩ := h.2 (by omega)
  have hl : j < l.length := by have := h.1; simp at this; omega
  have h1 := hc j l[j].cells (by simp [hl]) 0 (by omega)
  have h2 := hc j l[j].cells (by simp [hl]) 1 (by omega)
  refine ⟨b, o, l[j], hA, List.getElem?_eq_getElem hl, World.block_lt_of_cell? w _ h1, h1, h2⟩

/-- Any write: one that may not be leaves the disk as it was. -/
def Dk.act (d : Dk) (n : Nat) (bs : List UInt8) : Dk := if 64 < bs.length then d else d.write n bs
theorem write_len (d : Dk) (n : Nat) (bs : List UInt8) : (d.write n bs).ss.length = d.ss.length := by
  unfold Dk.write
  split
  · rw [asked_ss]
  · simp
theorem write_writes (d : Dk) (n : Nat) (bs : List UInt8) : (d.write n bs).writes ≤ d.writes + 1 := by
  unfold Dk.write
  split
  · rw [asked_writes]; omega
  · exact Nat.le_refl _
theorem write_left (d : Dk) (n : Nat) (bs : List UInt8) (h : d.left = -1) : (d.write n bs).left = -1 := by
  rw [Dk.write, if_neg (by omega)]
  show d.asked.left = -1
  rw [asked_neg (by omega)]
  exact h
theorem write_ss (d : Dk) (n : Nat) (bs : List UInt8) (h : d.left ≠ 0) : (d.write n bs).ss = d.ss.set n (pad bs) := by rw [Dk.write, if_neg h]
theorem act_len (d : Dk) (n : Nat) (bs : List UInt8) : (d.act n bs).ss.length = d.ss.length := by
  unfold Dk.act
  split
  · rfl
  · exact write_len d n bs
theorem act_writes (d : Dk) (n : Nat) (bs : List UInt8) : (d.act n bs).writes ≤ d.writes + 1 := by
  unfold Dk.act
  split
  · omega
  · exact write_writes d n bs
theorem act_left (d : Dk) (n : Nat) (bs : List UInt8) (h : d.left = -1) : (d.act n bs).left = -1 := by
  unfold Dk.act
  split
  · exact h
  · exact write_left d n bs h

theorem write_every (p g : Nat) (d : Dk) (n : Nat) (A : Option Addr) (m c : Nat) (bs : List UInt8) (w : World) (h : DkAt w p g d) (hn : n < d.ss.length) (hr : Rd w A m (cu8 bs)) (hA : 0 < m → ∀ b o, A = some ⟨b, o, none⟩ → b ≠ p ∧ b ≠ g) (hw : d.writes < 1000000000) :
    Calls Try.prog 9 #[.pointer (some ⟨p, 0, none⟩), .int .i64 n, .slice A m c] w fun e w' => ∃ z, e = .returned (.int .i64 z) ∧ DkAt w' p g (d.act n bs) ∧ Tch p g w w' := by
  have hl : bs.length = m := by have := hr.len; rw [cu8_len] at this; exact this
  by_cases h64 : 64 < m
  · refine (write_arg p g d n A m c w h (.inr (.inr h64))).mono ?_
    rintro e w' ⟨rfl, rfl⟩
    exact ⟨1, rfl, by rw [Dk.act, if_pos (by omega)]; exact h, Tch.refl _ _ _⟩
  · refine (write_any p g d n A m c bs w h hn hr (by omega) hA hw).mono ?_
    rintro e w' ⟨rfl, h1, t1⟩
    exact ⟨_, rfl, by rw [Dk.act, if_neg (by omega)]; exact h1, t1⟩
theorem wmod (x k : Nat) (hx : x < 256) : (IntKind.i64.wrap (x : Int)).tmod k = ((x % k : Nat) : Int) := by
  have h : IntKind.i64.wrap (x : Int) = x := by rw [IntKind.wrap_i64]; omega
  rw [h, Int.tmod_eq_emod_of_nonneg (by omega)]
  rfl
theorem mod4 (x : Nat) : ((x : Int) % 4) = ((x % 4 : Nat) : Int) := by omega

theorem all_n (p g N : Nat) (d : Dk) (w : World) (h : DkAt w p g d) (hN : d.ss.length = N) : Calls Try.prog 17 #[.pointer (some ⟨p, 0, none⟩)] w fun e w' =>
    ∃ A' c', e = .returned (.slice A' N c') ∧ OwL w' w.heap.size A' d.ss ∧ Below w.heap.size w w' := by
  subst hN
  exact all_own p g d w h

theorem write_lit_n (x : UInt8) (cs : Array Value) (fr : Nat × Nat) (d : Dk) (n p g : Nat) (w : World) (h : DkAt w p g d) (hn : n < d.ss.length) (hw : d.writes < 1000000000) (hcs : cs.toList = cu8 [x]) :
    Calls Try.prog 9 #[.pointer (some ⟨p, 0, none⟩), .int .i64 n, .slice (some ⟨w.heap.size, 0, none⟩) 1 1] (w.alloc (.cells cs 5 fr)) fun e w' =>
      e = .returned (.int .i64 d.says) ∧ DkAt w' p g (d.write n [x]) ∧ Tch p g w w' := by
  have k1 := h.ltp
  have k2 := h.ltg
  refine (write_any p g d n _ 1 1 [x] _ (h.alloc _) hn (rd_lit w _ _ _ 1 _ rfl _ hcs rfl) (by omega) ?_ hw).mono ?_
  · intro _ b o he
    cases he
    omega
  · rintro e w' ⟨rfl, h4, h5⟩
    have hb : Below w.heap.size w (w.alloc (.cells cs 5 fr)) := (Below.refl _ w).alloc (Nat.le_refl _) _
    exact ⟨rfl, h4, (Tch.of_below (p := p) (g := g) hb).trans h5⟩
theorem writes_n (p g N : Nat) (d : Dk) (w : World) (h : DkAt w p g d) (hN : d.writes = N) : Calls Try.prog 12 #[.pointer (some ⟨p, 0, none⟩)] w fun e w' => e = .returned (.int .i64 N) ∧ w = w' := by
  subst hN
  exact writes_ok p g d w h
theorem len_n (p g N : Nat) (d : Dk) (w : World) (h : DkAt w p g d) (hN : d.ss.length = N) : Calls Try.prog 13 #[.pointer (some ⟨p, 0, none⟩)] w fun e w' => e = .returned (.int .i64 N) ∧ w = w' := by
  subst hN
  exact len_ok p g d w h
theorem samelists_n (N : Nat) (A : Option Addr) (c : Nat) (A2 : Option Addr) (c2 : Nat) (ss : List (List UInt8)) (w : World) (h : RdL w A ss) (h2 : RdL w A2 ss) (hN : ss.length = N) (hn : N ≤ 100000) (hm : ∀ s ∈ ss, s.length ≤ 1000000) :
    Calls Try.prog 16 #[.slice A N c, .slice A2 N c2] w fun e w' => e = .returned (.bool true) ∧ ∃ q, w' = w.drewN q := by
  subst hN
  exact samelists_eq A c A2 c2 ss w h h2 hn hm

theorem RdL.get {w : World} {A : Option Addr} {ss : List (List UInt8)} (h : RdL w A ss) {j : Nat} (hj : j < ss.length) :
    ∃ b o Aj cj, A = some ⟨b, o, none⟩ ∧ b < w.heap.size ∧ w.cell? ⟨b, o + j, none⟩ = some (.slice Aj ss[j].length cj) ∧ Rd w Aj ss[j].length (cu8 ss[j]) := by
  obtain ⟨vs, hr, hs⟩ := h
  obtain ⟨b, o, rfl, hb, u, hu, hc⟩ := hr.get hj
  obtain ⟨Aj, cj, e1, r1⟩ := hs j ss[j] (List.getElem?_eq_getElem hj)
  rw [e1] at hu
  cases hu
  exact ⟨b, o, Aj, cj, rfl, hb, hc, r1⟩

/-- The disk with a fuse beside one without, behind as many writes as were let be. -/
structure Side (f : Nat) (k : Nat) (d c : Dk) : Prop where
  same : d.ss = c.ss
  five : d.ss.length = 5
  all : c.left = -1
  most : c.writes ≤ k
  let_ : d.writes = k
  left : d.left = (f : Int) - (k : Int)
  le : k ≤ f
  blown : d.blown = true → d.left = 0

theorem Side.yes {f k : Nat} {d c : Dk} (h : Side f k d c) (h0 : k < f) (n : Nat) (bs : List UInt8) : Side f (k + 1) (d.write n bs) (c.write n bs) := by
  have hl := h.left
  have ha := h.all
  have e1 : d.write n bs = { d.asked with ss := d.ss.set n (pad bs), writes := d.writes + 1 } := by rw [Dk.write, if_neg (by omega)]
  have e2 : d.asked = { d with left := d.left - 1 } := asked_pos (by omega)
  refine ⟨?_, ?_, write_left _ _ _ ha, ?_, ?_, ?_, by omega, ?_⟩
  · rw [write_ss d n bs (by omega), write_ss c n bs (by omega), h.same]
  · rw [write_len]; exact h.five
  · have := write_writes c n bs; have := h.most; omega
  · rw [e1]; show d.writes + 1 = k + 1; rw [h.let_]
  · rw [e1, e2]; show d.left - 1 = _; omega
  · rw [e1, e2]
    intro hb
    have := h.blown hb
    omega
theorem Side.no {f k : Nat} {d c : Dk} (h : Side f k d c) (h0 : ¬ k < f) (n : Nat) (bs : List UInt8) : Side f k (d.write n bs) c ∧ (d.write n bs).blown = true := by
  have hl := h.left
  have hle := h.le
  have hz : d.left = 0 := by omega
  have e1 : d.write n bs = { d with blown := true } := by rw [Dk.write, if_pos hz, asked_zero hz]
  rw [e1]
  exact ⟨⟨h.same, h.five, h.all, h.most, h.let_, h.left, h.le, fun _ => hz⟩, rfl⟩

theorem Side.clear {f k : Nat} {d c : Dk} (h : Side f k d c) (h0 : k < f) (n : Nat) (bs : List UInt8) : d.says = 0 ∧ (d.write n bs).blown = false := by
  have hl := h.left
  have e1 : d.write n bs = { d.asked with ss := d.ss.set n (pad bs), writes := d.writes + 1 } := by rw [Dk.write, if_neg (by omega)]
  have e2 : d.asked = { d with left := d.left - 1 } := asked_pos (by omega)
  refine ⟨by rw [Dk.says, if_neg (by omega)], ?_⟩
  rw [e1, e2]
  show d.blown = false
  cases hb : d.blown with
  | false => rfl
  | true => have := h.blown hb; omega
theorem Side.stop {f k : Nat} {d c : Dk} (h : Side f k d c) (h0 : ¬ k < f) : d.says = 8 := by
  have hl := h.left
  have hle := h.le
  rw [Dk.says, if_pos (by omega)]
end Go.Proofs.Ythgbenncheoemaa
