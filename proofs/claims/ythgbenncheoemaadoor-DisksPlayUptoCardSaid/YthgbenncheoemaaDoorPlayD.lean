/-
  What an act does with both disks, in one form; what the statement DisksPlay holds all along.
-/
import Derived.Test.YthgbenncheoemaaDoorActs
import Derived.Test.YthgbenncheoemaaDoorTwin
namespace Go.Proofs.YthgbenncheoemaaDoor
open Go.RowKit
set_option linter.unusedVariables false

def Dk.In (d : Dk) (z : Int) : Prop := 0 ≤ z ∧ z < (d.ss.length : Int)
instance (d : Dk) (z : Int) : Decidable (d.In z) := by unfold Dk.In; exact inferInstance
def Dk.reads (d : Dk) (z : Int) : List UInt8 := if d.In z then d.ss.getD z.toNat [] else []
def Dk.readE (d : Dk) (z : Int) : Int := if d.In z then 0 else 1
def Dk.wE (d : Dk) (z : Int) (bs : List UInt8) : Int := if d.In z ∧ bs.length ≤ 64 then d.says else 1
def Dk.wD (d : Dk) (z : Int) (bs : List UInt8) : Dk := if d.In z ∧ bs.length ≤ 64 then d.write z.toNat bs else d
def Dk.fE (d : Dk) : Int := if d.blown = true then 8 else 0
def Dk.fD (d : Dk) (z : Int) : Dk := if d.blown = true then d else { d with left := max z (-1) }

theorem reads_len (d : Dk) (z : Int) (h : ∀ s ∈ d.ss, s.length = 64) : (d.reads z).length ≤ 64 := by
  unfold Dk.reads
  split
  · rename_i hi
    obtain ⟨h1, h2⟩ := hi
    have hlt : z.toNat < d.ss.length := by omega
    rw [List.getD, List.getElem?_eq_getElem hlt]
    exact Nat.le_of_eq (h _ (List.getElem_mem hlt))
  · exact Nat.zero_le _
theorem wD_len (d : Dk) (z : Int) (bs : List UInt8) : (d.wD z bs).ss.length = d.ss.length := by
  unfold Dk.wD
  split
  · unfold Dk.write
    split
    · rw [asked_ss]
    · simp
  · rfl
theorem wD_writes (d : Dk) (z : Int) (bs : List UInt8) : (d.wD z bs).writes ≤ d.writes + 1 := by
  unfold Dk.wD
  split
  · unfold Dk.write
    split
    · rw [asked_writes]; omega
    · exact Nat.le_refl _
  · omega
theorem wD_sane {d : Dk} (h : d.Sane) (z : Int) (bs : List UInt8) : (d.wD z bs).Sane := by
  unfold Dk.wD
  split
  · exact sane_write h _ _
  · exact h
theorem fD_len (d : Dk) (z : Int) : (d.fD z).ss = d.ss := by
  unfold Dk.fD
  split <;> rfl
theorem fD_writes (d : Dk) (z : Int) : (d.fD z).writes = d.writes := by
  unfold Dk.fD
  split <;> rfl
theorem fD_sane {d : Dk} (h : d.Sane) (z : Int) : (d.fD z).Sane := by
  unfold Dk.fD
  split
  · exact h
  · rename_i hb
    intro hb'
    exact absurd hb' hb
theorem copy_sane (d : Dk) : d.copy.Sane := fun h => by simp [Dk.copy] at h

section
variable (p g : Nat) (d : Dk) (w : World)
theorem readD_any (z : Int) (N : Nat) (h : DkAt w p g d) (hN : (d.reads z).length = N) : Calls Tryd.prog 8 #[.pointer (some ⟨p, 0, none⟩), .int .i64 z] w fun e w' =>
    ∃ A c, e = .returned (.tuple #[.slice A N c, .int .i64 (d.readE z)]) ∧ Own w' w.heap.size 5 A N c (cu8 (d.reads z)) ∧ Below w.heap.size w w' := by
  subst hN
  by_cases hi : d.In z
  · obtain ⟨h1, h2⟩ := hi
    obtain ⟨n, rfl⟩ : ∃ n : Nat, z = n := ⟨z.toNat, by omega⟩
    have hn : n < d.ss.length := by omega
    have e1 : d.reads n = d.ss[n] := by rw [Dk.reads, if_pos ⟨h1, h2⟩]; simp [List.getD, hn]
    have e2 : d.readE n = 0 := by rw [Dk.readE, if_pos ⟨h1, h2⟩]
    have e3 := h.len d.ss[n] (List.getElem_mem hn)
    rw [e1, e2, e3]
    refine (read_ok p g d n w h hn).mono ?_
    rintro e w' ⟨A, a, b, c⟩
    exact ⟨A, 64, a, b, c⟩
  · have e1 : d.reads z = [] := by rw [Dk.reads, if_neg hi]
    have e2 : d.readE z = 1 := by rw [Dk.readE, if_neg hi]
    rw [e1, e2]
    unfold Dk.In at hi
    refine (read_arg p g d z w h (by omega)).mono ?_
    rintro e w' ⟨rfl, rfl⟩
    exact ⟨none, 0, rfl, Own.none_ _ _ _ _, Below.refl _ _⟩
theorem writeD_any (z : Int) (A : Option Addr) (m c : Nat) (bs : List UInt8) (h : DkAt w p g d) (hr : Rd w A m (cu8 bs)) (hA : 0 < m → ∀ b o, A = some ⟨b, o, none⟩ → b ≠ p ∧ b ≠ g) (hw : d.writes < 1000000000) :
    Calls Tryd.prog 17 #[.pointer (some ⟨p, 0, none⟩), .int .i64 z, .slice A m c] w fun e w' => e = .returned (.int .i64 (d.wE z bs)) ∧ DkAt w' p g (d.wD z bs) ∧ Tch p g w w' := by
  have hl : bs.length = m := by have := hr.len; rw [cu8_len] at this; exact this
  by_cases hi : d.In z ∧ bs.length ≤ 64
  · have e1 : d.wE z bs = d.says := by rw [Dk.wE, if_pos hi]
    have e2 : d.wD z bs = d.write z.toNat bs := by rw [Dk.wD, if_pos hi]
    rw [e1, e2]
    obtain ⟨⟨h1, h2⟩, h3⟩ := hi
    obtain ⟨n, rfl⟩ : ∃ n : Nat, z = n := ⟨z.toNat, by omega⟩
    exact write_any p g d n A m c bs w h (by omega) hr (by omega) hA hw
  · have e1 : d.wE z bs = 1 := by rw [Dk.wE, if_neg hi]
    have e2 : d.wD z bs = d := by rw [Dk.wD, if_neg hi]
    rw [e1, e2]
    unfold Dk.In at hi
    refine (write_arg p g d z A m c w h (by omega)).mono ?_
    rintro e w' ⟨rfl, rfl⟩
    exact ⟨rfl, h, Tch.refl _ _ _⟩
theorem fuseD_any (z : Int) (hz : z ≤ 9223372036854775807) (h : DkAt w p g d) : Calls Tryd.prog 12 #[.pointer (some ⟨p, 0, none⟩), .int .i64 z] w fun e w' => e = .returned (.int .i64 d.fE) ∧ DkAt w' p g (d.fD z) ∧ Tch p g w w' := by
  by_cases hb : d.blown = true
  · rw [Dk.fE, Dk.fD, if_pos hb, if_pos hb]
    refine (fuse_blown p g d z w h hb).mono ?_
    rintro e w' ⟨rfl, rfl⟩
    exact ⟨rfl, h, Tch.refl _ _ _⟩
  · rw [Dk.fE, Dk.fD, if_neg hb, if_neg hb]
    exact fuse_ok p g d z w h (by simpa using hb) hz
end

section
variable (B q : Nat) (d : Dk) (A : Option Addr) (c : Nat) (gs : List Nat) (w : World)
theorem refreadD_any (z : Int) (N : Nat) (h : RfAt w B q d A c gs) (hN : (d.reads z).length = N) : Calls Tryd.prog 9 #[.pointer (some ⟨q, 0, none⟩), .int .i64 z] w fun e w' =>
    ∃ A' c', e = .returned (.tuple #[.slice A' N c', .int .i64 (d.readE z)]) ∧ Own w' w.heap.size 5 A' N c' (cu8 (d.reads z)) ∧ Below w.heap.size w w' := by
  subst hN
  by_cases hi : d.In z
  · obtain ⟨h1, h2⟩ := hi
    obtain ⟨n, rfl⟩ : ∃ n : Nat, z = n := ⟨z.toNat, by omega⟩
    have hn : n < d.ss.length := by omega
    have e1 : d.reads n = d.ss[n] := by rw [Dk.reads, if_pos ⟨h1, h2⟩]; simp [List.getD, hn]
    have e2 : d.readE n = 0 := by rw [Dk.readE, if_pos ⟨h1, h2⟩]
    have e3 := h.len d.ss[n] (List.getElem_mem hn)
    rw [e1, e2, e3]
    exact refread_ok B q d A c gs n w h hn
  · have e1 : d.reads z = [] := by rw [Dk.reads, if_neg hi]
    have e2 : d.readE z = 1 := by rw [Dk.readE, if_neg hi]
    rw [e1, e2]
    unfold Dk.In at hi
    refine (refread_arg B q d A c gs z w h (by omega)).mono ?_
    rintro e w' ⟨rfl, rfl⟩
    exact ⟨none, 0, rfl, Own.none_ _ _ _ _, Below.refl _ _⟩
theorem refwriteD_any (z : Int) (A1 : Option Addr) (m c1 : Nat) (bs : List UInt8) (h : RfAt w B q d A c gs) (hsn : d.Sane) (hr : Rd w A1 m (cu8 bs)) (hw : d.writes < 1000000000) (hA1 : 0 < m → ∀ b o, A1 = some ⟨b, o, none⟩ → b < B) (hBw : B ≤ w.heap.size) :
    Calls Tryd.prog 19 #[.pointer (some ⟨q, 0, none⟩), .int .i64 z, .slice A1 m c1] w fun e w' => e = .returned (.int .i64 (d.wE z bs)) ∧ ∃ gs', RfAt w' B q (d.wD z bs) A c gs' ∧ FrT [60, 42] w w' ∧ Below B w w' := by
  have hl : bs.length = m := by have := hr.len; rw [cu8_len] at this; exact this
  by_cases hi : d.In z ∧ bs.length ≤ 64
  · have e1 : d.wE z bs = d.says := by rw [Dk.wE, if_pos hi]
    have e2 : d.wD z bs = d.write z.toNat bs := by rw [Dk.wD, if_pos hi]
    rw [e1, e2]
    obtain ⟨⟨h1, h2⟩, h3⟩ := hi
    obtain ⟨n, rfl⟩ : ∃ n : Nat, z = n := ⟨z.toNat, by omega⟩
    exact refwrite_any B q d A c gs n A1 m c1 bs w h hsn (by omega) (by omega) hr hw hA1 hBw
  · have e1 : d.wE z bs = 1 := by rw [Dk.wE, if_neg hi]
    have e2 : d.wD z bs = d := by rw [Dk.wD, if_neg hi]
    rw [e1, e2]
    unfold Dk.In at hi
    refine (refwrite_arg B q d A c gs z A1 m c1 w h (by omega)).mono ?_
    rintro e w' ⟨rfl, rfl⟩
    exact ⟨rfl, gs, h, FrT.refl _ _, Below.refl _ _⟩
theorem reffuseD_any (z : Int) (hz : z ≤ 9223372036854775807) (h : RfAt w B q d A c gs) : Calls Tryd.prog 13 #[.pointer (some ⟨q, 0, none⟩), .int .i64 z] w fun e w' => e = .returned (.int .i64 d.fE) ∧ RfAt w' B q (d.fD z) A c gs ∧ FrT [60, 42] w w' ∧ Below B w w' := by
  by_cases hb : d.blown = true
  · rw [Dk.fE, Dk.fD, if_pos hb, if_pos hb]
    refine (reffuse_blown B q d A c gs z w h hb).mono ?_
    rintro e w' ⟨rfl, rfl⟩
    exact ⟨rfl, h, FrT.refl _ _, Below.refl _ _⟩
  · rw [Dk.fE, Dk.fD, if_neg hb, if_neg hb]
    exact reffuse_ok B q d A c gs z w h (by simpa using hb) hz
end

theorem reflenk_ok (k B q : Nat) (d : Dk) (A : Option Addr) (c : Nat) (gs : List Nat) (w : World) (h : RfAt w B q d A c gs) (hk : d.ss.length = k) : Calls Tryd.prog 23 #[.pointer (some ⟨q, 0, none⟩)] w fun e w' => e = .returned (.int .i64 k) ∧ w = w' := by
  subst hk
  exact reflen_ok B q d A c gs w h

/-- The types of what a call of the statement touches. -/
def T5 : List TypeId := [67, 62, 60, 42, 41, 73]

/-- The lists that the book was told: of the call's own, each in memory of its own. -/
structure Held (w : World) (B N : Nat) (hb : List Hl) : Prop where
  own : ∀ h ∈ hb, ∃ xs, Own w B 5 h.A h.n h.c xs
  sep : Sep hb
  ks : ∀ h ∈ hb, h.k ≤ N
  ns : ∀ h ∈ hb, h.n ≤ 1000000
theorem Held.frt {T : List TypeId} {w w' : World} {B N : Nat} {hb : List Hl} (h : Held w B N hb) (hf : FrT T w w') (h1 : 5 ∉ T) : Held w' B N hb :=
  ⟨fun x hx => by obtain ⟨xs, a⟩ := h.own x hx; exact ⟨xs, a.frt hf h1⟩, h.sep, h.ks, h.ns⟩
theorem Held.lt {w : World} {B N : Nat} {hb : List Hl} (h : Held w B N hb) {x : Hl} (hx : x ∈ hb) {g : Nat} (hg : Hit x g) : g < w.heap.size := by
  obtain ⟨xs, a⟩ := h.own x hx
  exact (a.range g hg.1 hg.2).2
theorem Held.snoc {w : World} {B N n c : Nat} {hb : List Hl} {A : Option Addr} {xs : List Value} (h : Held w B N hb) (ho : Own w B 5 A n c xs) (hn : n ≤ 1000000) (hnew : ∀ g, 0 < c → A = some ⟨g, 0, none⟩ → ∀ x ∈ hb, ¬ Hit x g) :
    Held w B (N + 1) (hb ++ [⟨A, n, c, none, 0, 0, N + 1⟩]) := by
  refine ⟨fun x hx => ?_, ?_, fun x hx => ?_, fun x hx => ?_⟩
  · rcases List.mem_append.1 hx with h1 | h1
    · exact h.own x h1
    · rw [List.mem_singleton.1 h1]; exact ⟨xs, ho⟩
  · refine List.pairwise_append.2 ⟨h.sep, List.pairwise_singleton _ _, fun a ha b hb g hg hg2 => ?_⟩
    rw [List.mem_singleton.1 hb] at hg2
    exact hnew g hg2.1 hg2.2 a ha hg
  · rcases List.mem_append.1 hx with h1 | h1
    · exact Nat.le_succ_of_le (h.ks x h1)
    · rw [List.mem_singleton.1 h1]; exact Nat.le_refl _
  · rcases List.mem_append.1 hx with h1 | h1
    · exact h.ns x h1
    · rw [List.mem_singleton.1 h1]; exact hn

/-- All that lies in memory while the statement goes on. -/
structure St (W w : World) (kb p g q : Nat) (d d2 : Dk) (A : Option Addr) (c : Nat) (gs : List Nat) (N : Nat) (vb : Value) (hb : List Hl) : Prop where
  dk : DkAt w p g d
  rf : RfAt w W.heap.size q d2 A c gs
  bk : Bk 41 73 78 w kb N vb (.slice none 0 0) hb []
  held : Held w W.heap.size N hb
  bel : Below W.heap.size W w
  hp : W.heap.size ≤ p
  hg : W.heap.size ≤ g
  hkb : W.heap.size ≤ kb

section
variable {W w w' : World} {kb p g q : Nat} {d d2 d' d2' : Dk} {A A' : Option Addr} {c c' : Nat} {gs gs' : List Nat} {N : Nat} {vb : Value} {hb : List Hl}
theorem St.below (h : St W w kb p g q d d2 A c gs N vb hb) (k : Below w.heap.size w w') : St W w' kb p g q d d2 A c gs N vb hb :=
  ⟨h.dk.below k, h.rf.below k, h.bk.below k, h.held.frt (T := []) (FrT.of_below k) (by simp), h.bel.trans (k.mono h.bel.size), h.hp, h.hg, h.hkb⟩
theorem St.disk (h : St W w kb p g q d d2 A c gs N vb hb) (k : Tch p g w w') (hd : DkAt w' p g d') : St W w' kb p g q d' d2 A c gs N vb hb ∧ FrT T5 w w' := by
  have hf := k.frt h.dk
  exact ⟨⟨hd, h.rf.frt hf (by decide) (by decide) (by decide), h.bk.frt hf (by decide) (by decide) (by decide), h.held.frt hf (by decide), h.bel.trans (k.2 _ h.hp h.hg h.bel.size), h.hp, h.hg, h.hkb⟩, hf.mono (by decide)⟩
theorem St.ref (h : St W w kb p g q d d2 A c gs N vb hb) (hf : FrT [60, 42] w w') (k : Below W.heap.size w w') (hr : RfAt w' W.heap.size q d2' A' c' gs') : St W w' kb p g q d d2' A' c' gs' N vb hb ∧ FrT T5 w w' :=
  ⟨⟨h.dk.frt hf (by decide) (by decide), hr, h.bk.frt hf (by decide) (by decide) (by decide), h.held.frt hf (by decide), h.bel.trans k, h.hp, h.hg, h.hkb⟩, hf.mono (by decide)⟩
theorem St.told {vb' : Value} {A1 : Option Addr} {n1 c1 : Nat} {xs : List Value} (h : St W w kb p g q d d2 A c gs N vb hb) (hk : Bk 41 73 78 w' kb (N + 1) vb' (.slice none 0 0) (hb ++ [⟨A1, n1, c1, none, 0, 0, N + 1⟩]) [])
    (k : Below kb w w') (hfr : Fr (fun b => b = kb ∨ vb.ownBlock = some b) w w') (ho : Own w W.heap.size 5 A1 n1 c1 xs) (hn : n1 ≤ 1000000) (hnew : ∀ g, 0 < c1 → A1 = some ⟨g, 0, none⟩ → ∀ x ∈ hb, ¬ Hit x g) :
    St W w' kb p g q d d2 A c gs (N + 1) vb' (hb ++ [⟨A1, n1, c1, none, 0, 0, N + 1⟩]) ∧ FrT T5 w w' := by
  have hf := told_frt h.bk hfr
  exact ⟨⟨h.dk.frt hf (by decide) (by decide), h.rf.frt hf (by decide) (by decide) (by decide), hk, (h.held.snoc ho hn hnew).frt hf (by decide), h.bel.trans (k.mono h.hkb), h.hp, h.hg, h.hkb⟩, hf.mono (by decide)⟩
/-- Other disks, made just now. -/
theorem St.turn {p' g' q' : Nat} (h : St W w kb p g q d d2 A c gs N vb hb) (hd : DkAt w p' g' d') (hr : RfAt w W.heap.size q' d2' A' c' gs') (hp' : W.heap.size ≤ p') (hg' : W.heap.size ≤ g') : St W w kb p' g' q' d' d2' A' c' gs' N vb hb :=
  ⟨hd, hr, h.bk, h.held, h.bel, hp', hg', h.hkb⟩
end
/-- A block of another type. -/
theorem keep_t5 {w w' : World} {b : Nat} {cs : Array Value} {t : TypeId} (hx : w.heap[b]? = some (.cells cs t (0, 0))) (hf : FrT T5 w w') (ht : t ∉ T5) : w'.heap[b]? = some (.cells cs t (0, 0)) := (hf.2 b _ _ _ hx ht).trans hx
end Go.Proofs.YthgbenncheoemaaDoor
