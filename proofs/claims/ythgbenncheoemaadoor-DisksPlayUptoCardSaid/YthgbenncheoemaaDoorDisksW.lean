/-
  Walks of package disks: there, refuses, Len, Writes, Blown, Fuse, the fuse's lets, New.
-/
import Derived.Test.YthgbenncheoemaaDoorProg
import Derived.Test.YthgbenncheoemaaDoorDisksD
import Derived.BigQuiet
import Derived.Deep.QuietTactic
import Derived.Deep.DeepMust
namespace Go.Proofs.YthgbenncheoemaaDoor
open Go.RowKit
set_option linter.unusedVariables false

/-- What a call does to a disk: nothing but its two blocks is touched. -/
def Tch (p g : Nat) (w w' : World) : Prop := Fr (fun b => b = p ∨ b = g) w w' ∧ ∀ B, B ≤ p → B ≤ g → B ≤ w.heap.size → Below B w w'
theorem Tch.refl (p g : Nat) (w : World) : Tch p g w w := ⟨Fr.refl _ w, fun B _ _ _ => Below.refl B w⟩
theorem Tch.trans {p g : Nat} {w w' w'' : World} (h : Tch p g w w') (k : Tch p g w' w'') : Tch p g w w'' := ⟨h.1.trans k.1, fun B a b c => (h.2 B a b c).trans (k.2 B a b (Nat.le_trans c h.1.1))⟩
theorem Tch.of_below {p g : Nat} {w w' : World} (h : Below w.heap.size w w') : Tch p g w w' := ⟨Fr.of_below h, fun B _ _ c => h.mono c⟩
theorem Tch.setCell (p g j : Nat) (w : World) (u : Value) : Tch p g w (w.setCell ⟨p, j, none⟩ u) := ⟨(Fr.refl _ w).setCell (.inl rfl) u, fun B a _ _ => (Below.refl B w).setCell a u⟩
theorem Tch.setRow (p g : Nat) (w : World) (cs : Array Value) : Tch p g w (w.setRow g cs) :=
  ⟨⟨by simp [World.setRow], fun b _ hn => setRow_other w g b cs (fun he => hn (.inr he))⟩, fun B _ b _ => below_setRow (Below.refl B w) b cs⟩
theorem Tch.size {p g : Nat} {w w' : World} (h : Tch p g w w') : w.heap.size ≤ w'.heap.size := h.1.1
theorem Rd.tch {p g : Nat} {w w' : World} {A : Option Addr} {n : Nat} {xs : List Value} (h : Rd w A n xs) (k : Tch p g w w') (hA : 0 < n → ∀ b o, A = some ⟨b, o, none⟩ → b ≠ p ∧ b ≠ g) : Rd w' A n xs := by
  by_cases h0 : 0 < n
  · exact h.keep fun b o he hlt => k.1.2 b hlt (by rintro (rfl | rfl); exact (hA h0 _ o he).1 rfl; exact (hA h0 _ o he).2 rfl)
  · exact ⟨h.1, fun hn => absurd hn h0⟩
/-- What was there when the disk was made lies elsewhere. -/
theorem Rd.old {B p g : Nat} {w : World} {A : Option Addr} {n : Nat} {xs : List Value} (h : Rd w A n xs) (hs : w.heap.size ≤ B) (hp : B ≤ p) (hg : B ≤ g) : 0 < n → ∀ b o, A = some ⟨b, o, none⟩ → b ≠ p ∧ b ≠ g := by
  intro hn b o he
  obtain ⟨b', o', hA, hlt, _⟩ := h.get hn
  rw [hA] at he
  cases he
  omega
theorem DkAt.tch {p g p' g' : Nat} {w w' : World} {d : Dk} (h : DkAt w p g d) (k : Tch p' g' w w') (h1 : p ≠ p') (h2 : p ≠ g') (h3 : g ≠ p') (h4 : g ≠ g') : DkAt w' p g d :=
  h.fr k.1 (by rintro (rfl | rfl); exact h1 rfl; exact h2 rfl) (by rintro (rfl | rfl); exact h3 rfl; exact h4 rfl)

theorem there_ok (p g : Nat) (d : Dk) (w : World) (h : DkAt w p g d) : Calls Tryd.prog 30 #[.pointer (some ⟨p, 0, none⟩)] w fun e w' => e = .returned (.bool true) ∧ w = w' := by
  have c0 := h.c0
  have k1 := h.pos
  clear h
  go_enter Tryd.func30, Tryd.ntmps30
  go_wp2
  go_ret
  exact ⟨rfl, rfl⟩

theorem refuses_ok (p g : Nat) (d : Dk) (n : Nat) (w : World) (h : DkAt w p g d) (hn : n < d.ss.length) : Calls Tryd.prog 27 #[.pointer (some ⟨p, 0, none⟩), .int .i64 n] w fun e w' => e = .returned (.int .i64 0) ∧ w = w' := by
  have c0 := h.c0
  have k1 := h.top
  go_enter Tryd.func27, Tryd.ntmps27
  go_wp2_with fail
  refine (there_ok p g d w h).mono ?_
  rintro e w1 ⟨rfl, rfl⟩
  clear h
  have s1 : decide (d.ss.length ≤ n) = false := by simp; omega
  go_wp2
  go_ret
  exact ⟨rfl, rfl⟩

theorem refuses_arg (p g : Nat) (d : Dk) (n : Int) (w : World) (h : DkAt w p g d) (hn : n < 0 ∨ (d.ss.length : Int) ≤ n) : Calls Tryd.prog 27 #[.pointer (some ⟨p, 0, none⟩), .int .i64 n] w fun e w' => e = .returned (.int .i64 1) ∧ w = w' := by
  have c0 := h.c0
  have k1 := h.top
  by_cases hneg : n < 0
  · go_enter Tryd.func27, Tryd.ntmps27
    go_wp2_with fail
    refine (there_ok p g d w h).mono ?_
    rintro e w1 ⟨rfl, rfl⟩
    clear h
    go_wp2
    go_ret
    exact ⟨rfl, rfl⟩
  · have hge : (d.ss.length : Int) ≤ n := by omega
    have s1 : decide ((d.ss.length : Int) ≤ n) = true := by simp; omega
    go_enter Tryd.func27, Tryd.ntmps27
    go_wp2_with fail
    refine (there_ok p g d w h).mono ?_
    rintro e w1 ⟨rfl, rfl⟩
    clear h
    go_wp2
    go_ret
    exact ⟨rfl, rfl⟩

theorem len_ok (p g : Nat) (d : Dk) (w : World) (h : DkAt w p g d) : Calls Tryd.prog 22 #[.pointer (some ⟨p, 0, none⟩)] w fun e w' => e = .returned (.int .i64 d.ss.length) ∧ w = w' := by
  have c0 := h.c0
  have k1 := h.top
  go_enter Tryd.func22, Tryd.ntmps22
  go_wp2_with fail
  refine (there_ok p g d w h).mono ?_
  rintro e w1 ⟨rfl, rfl⟩
  clear h
  go_wp2
  go_ret
  exact ⟨rfl, rfl⟩

theorem writes_ok (p g : Nat) (d : Dk) (w : World) (h : DkAt w p g d) : Calls Tryd.prog 16 #[.pointer (some ⟨p, 0, none⟩)] w fun e w' => e = .returned (.int .i64 d.writes) ∧ w = w' := by
  have c3 := h.c3
  go_enter Tryd.func16, Tryd.ntmps16
  go_wp2_with fail
  refine (there_ok p g d w h).mono ?_
  rintro e w1 ⟨rfl, rfl⟩
  clear h
  go_wp2
  go_ret
  exact ⟨rfl, rfl⟩

theorem blown_ok (p g : Nat) (d : Dk) (w : World) (h : DkAt w p g d) : Calls Tryd.prog 15 #[.pointer (some ⟨p, 0, none⟩)] w fun e w' => e = .returned (.bool d.blown) ∧ w = w' := by
  have c2 := h.c2
  go_enter Tryd.func15, Tryd.ntmps15
  go_wp2_with fail
  refine (there_ok p g d w h).mono ?_
  rintro e w1 ⟨rfl, rfl⟩
  clear h
  go_wp2
  go_ret
  exact ⟨rfl, rfl⟩

theorem fuse_blown (p g : Nat) (d : Dk) (n : Int) (w : World) (h : DkAt w p g d) (hb : d.blown = true) : Calls Tryd.prog 12 #[.pointer (some ⟨p, 0, none⟩), .int .i64 n] w fun e w' => e = .returned (.int .i64 8) ∧ w = w' := by
  have c2 := h.c2
  rw [hb] at c2
  go_enter Tryd.func12, Tryd.ntmps12
  go_wp2_with fail
  refine (there_ok p g d w h).mono ?_
  rintro e w1 ⟨rfl, rfl⟩
  clear h
  go_wp2
  go_ret
  exact ⟨rfl, rfl⟩

theorem fuse_ok (p g : Nat) (d : Dk) (n : Int) (w : World) (h : DkAt w p g d) (hb : d.blown = false) (hn : n ≤ 9223372036854775807) : Calls Tryd.prog 12 #[.pointer (some ⟨p, 0, none⟩), .int .i64 n] w fun e w' =>
    e = .returned (.int .i64 0) ∧ DkAt w' p g { d with left := max n (-1) } ∧ Tch p g w w' := by
  have c1 := h.c1
  have c2 := h.c2
  have f1 := h.free 1
  rw [hb] at c2
  clear hb
  have H := Lib.hid h
  go_enter Tryd.func12, Tryd.ntmps12
  go_wp2_with fail
  refine (there_ok p g d w h).mono ?_
  rintro e w1 ⟨rfl, rfl⟩
  clear h
  go_wp2
  all_goals
    go_ret
    refine ⟨rfl, ?_, Tch.setCell _ _ _ _ _⟩
    refine H.out.setp 1 _ _ ?_ rfl ?_ ?_
    · have hm : max n (-1) = n ∨ max n (-1) = -1 := by omega
      unfold Dk.cells
      show #[_, _, _, _] = #[_, Value.int .i64 (max n (-1)), _, _]
      congr 5
      omega
    · show -1 ≤ max n (-1); omega
    · show max n (-1) ≤ _; omega

theorem lets_any (p g : Nat) (d : Dk) (w : World) (h : DkAt w p g d) : Calls Tryd.prog 31 #[.pointer (some ⟨p, 1, none⟩)] w fun e w' =>
    e = .returned (.bool (!decide (d.left = 0))) ∧ DkAt w' p g d.asked ∧ Tch p g w w' := by
  have c1 := h.c1
  have c2 := h.c2
  have f1 := h.free 1
  have f2 := h.free 2
  have k1 := h.lo
  have k2 := h.hi
  have H := Lib.hid h
  clear h
  rcases Int.lt_trichotomy d.left 0 with hl | hl | hl
  · have s1 : (d.left == 0) = false := by rw [beq_eq_false_iff_ne]; omega
    have s2 : decide (0 < d.left) = false := by simp; omega
    go_enter Tryd.func31, Tryd.ntmps31
    go_wp2
    go_ret
    refine ⟨ret_bool (by simp; omega), ?_, Tch.refl _ _ _⟩
    rw [asked_neg hl]
    exact H.out
  · rw [hl] at c1
    go_enter Tryd.func31, Tryd.ntmps31
    go_wp2
    go_ret
    refine ⟨ret_bool (by simp [hl]), ?_, Tch.setCell _ _ _ _ _⟩
    rw [asked_zero hl]
    exact H.out.setp 2 _ _ rfl rfl (by show -1 ≤ d.left; omega) (by show d.left ≤ _; omega)
  · have s1 : (d.left == 0) = false := by rw [beq_eq_false_iff_ne]; omega
    have s2 : decide (0 < d.left) = true := by simp; omega
    have s3 : IntKind.i64.wrap (d.left - 1) = d.left - 1 := by rw [IntKind.wrap_i64]; omega
    go_enter Tryd.func31, Tryd.ntmps31
    go_wp2
    go_ret
    refine ⟨ret_bool (by simp; omega), ?_, Tch.setCell _ _ _ _ _⟩
    rw [asked_pos hl]
    exact H.out.setp 1 _ _ (by first | rfl | (rw [s3]; rfl)) rfl (by show -1 ≤ d.left - 1; omega) (by show d.left - 1 ≤ _; omega)
end Go.Proofs.YthgbenncheoemaaDoor
