/-
  What the statements of layer 3 ask first: some answers that the document fixes.
-/
import Derived.Test.YthgbenncheoemaaDisksW4
import Derived.Test.YthgbenncheoemaaLit
import Derived.Lib.SlBytesConst
namespace Go.Proofs.Ythgbenncheoemaa
open Go.RowKit
set_option linter.unusedVariables false

/-- From block B on: what a call does to a disk that lies there. -/
theorem Tch.low {B p g : Nat} {w w' : World} (h : Tch p g w w') (h1 : B ≤ p) (h2 : B ≤ g) (h3 : B ≤ w.heap.size) : Below B w w' := h.2 B h1 h2 h3

theorem write_lit (x : UInt8) (cs : Array Value) (fr : Nat × Nat) (d d' : Dk) (z : Int) (B p g : Nat) (w : World) (h : DkAt w p g d) (h1 : B ≤ p) (h2 : B ≤ g) (h3 : B ≤ w.heap.size) (hd : d.write 0 [x] = d') (he : d.says = z) (hw : d.writes < 1000000000) (hcs : cs.toList = cu8 [x]) :
    Calls Try.prog 9 #[.pointer (some ⟨p, 0, none⟩), .int .i64 0, .slice (some ⟨w.heap.size, 0, none⟩) 1 1] (w.alloc (.cells cs 5 fr)) fun e w' =>
      e = .returned (.int .i64 z) ∧ DkAt w' p g d' ∧ Below B w w' ∧ Tch p g w w' := by
  have k1 := h.ltp
  have k2 := h.ltg
  refine (write_any p g d 0 _ 1 1 [x] _ (h.alloc _) h.pos (rd_lit w _ _ _ 1 _ rfl _ hcs rfl) (by omega) ?_ hw).mono ?_
  · intro _ b o he
    cases he
    omega
  · rintro e w' ⟨rfl, h4, h5⟩
    rw [hd] at h4
    have hb : Below w.heap.size w (w.alloc (.cells cs 5 fr)) := (Below.refl _ w).alloc (Nat.le_refl _) _
    have ht := (Tch.of_below (p := p) (g := g) hb).trans h5
    exact ⟨by rw [he], h4, ht.low h1 h2 h3, ht⟩

theorem rd_ne {w : World} {B p g : Nat} {e : TypeId} {A : Option Addr} {n c : Nat} {xs : List Value} (h : Own w B e A n c xs) (hn : 0 < c) (hp : p < B) (hg : g < B) : ∀ b o, A = some ⟨b, o, none⟩ → b ≠ p ∧ b ≠ g := by
  intro b o he
  obtain ⟨k, hk, hB, _⟩ := h.lt hn
  rw [hk] at he
  cases he
  omega

def dA : Dk := ⟨[pad [97], List.replicate 64 0], -1, false, 1⟩
def dB : Dk := ⟨[pad [97], List.replicate 64 0], 1, false, 1⟩
def dC : Dk := ⟨[pad [98], List.replicate 64 0], 0, false, 2⟩
def dD : Dk := ⟨[pad [98], List.replicate 64 0], 0, true, 2⟩

set_option maxRecDepth 100000 in
set_option maxHeartbeats 2000000 in
theorem alive_any (w : World) : Calls Try.prog 14 #[] w fun e w' => e = .returned (.bool true) ∧ Below w.heap.size w w' := by
  obtain ⟨i0, hi0, hz0, hz1, hz2⟩ := info_parts infod_u8
  go_enter Try.func14, Try.ntmps14
  go_wp2_with fail
  refine (new_ok 2 w (by omega) (by omega)).mono ?_
  rintro e w1 ⟨p, g, rfl, h1, hp, hg, hB1⟩
  have s1 := hB1.size
  have kc := fun (w : World) (C : Array Value) (n c : Nat) => Lib.run_convert_bytes_const (P := Try.prog) w 22 5 C n c Try.underlying22 Try.underlying5
  go_wp2_with fail
  refine (write_lit 97 _ _ (blankD 2) dA 0 w.heap.size p g w1 h1 hp hg s1 rfl rfl (by decide) rfl).mono ?_
  rintro e w2 ⟨rfl, h2, b2, -⟩
  have s2 := b2.size
  have hB2 := hB1.trans b2
  clear h1 hB1 b2
  have kp := h2.ltp
  have kg := h2.ltg
  go_wp2_with fail
  refine (read_ok p g dA 0 w2 h2 (by decide)).mono ?_
  rintro e w3 ⟨A3, rfl, o3, b3⟩
  obtain ⟨ga, rfl, l3, _⟩ := o3.lt (by omega)
  have r3 := o3.rd
  have n3 : 0 < 64 → ∀ b o, some (⟨ga, 0, none⟩ : Addr) = some ⟨b, o, none⟩ → b ≠ p ∧ b ≠ g := by intro _ b o he; cases he; omega
  have N3 := Lib.hid n3
  have h3 := h2.below b3
  have s3 := b3.size
  have hB3 := hB2.trans (b3.mono (by omega))
  clear h2 hB2 b3 o3 n3
  go_wp2_with fail
  refine (write_arg p g dA 2 none 0 0 w3 h3 (by decide)).mono ?_
  rintro e w4 ⟨rfl, rfl⟩
  go_wp2_with (at_make; go_must (refine wpList_mk _ rfl _ _ 22 rfl w3.heap.size 5 i0 _ Try.underlying22 hi0 hz0 hz1 rfl .i64 .i64 _ _ 65 rfl rfl rfl rfl ?c2 ?c3 ?c4 ?_))
  case c2 => rw [hz2]; omega
  case c3 => simp only [maxLen]; omega
  case c4 => exact Nat.le_refl _
  intro w5 o5 b5
  have h5 := h3.below b5
  have r5 := r3.below b5
  have s5 := b5.size
  have hB5 := hB3.trans (b5.mono (by omega))
  clear h3 hB3 b5 o5 r3
  go_wp2_with fail
  refine (write_arg p g dA 0 _ 65 65 w5 h5 (by decide)).mono ?_
  rintro e w6 ⟨rfl, rfl⟩
  go_wp2_with fail
  refine (fuse_ok p g dA 1 w5 h5 rfl (by omega)).mono ?_
  rintro e w6 ⟨rfl, h6, t6⟩
  have r6 := r5.tch t6 N3.out
  have s6 := t6.size
  have hB6 := hB5.trans (t6.low hp hg (by omega))
  have e6 : ({ dA with left := max 1 (-1) } : Dk) = dB := rfl
  rw [e6] at h6
  clear h5 hB5 t6 r5 e6
  go_wp2_with fail
  refine (write_lit 98 _ _ dB dC 0 w.heap.size p g w6 h6 hp hg (by omega) rfl rfl (by decide) rfl).mono ?_
  rintro e w7 ⟨rfl, h7, b7, t7⟩
  have r7 := r6.tch t7 N3.out
  have s7 := t7.size
  have hB7 := hB6.trans b7
  clear h6 hB6 t7 r6 b7
  go_wp2_with fail
  refine (blown_ok p g dC w7 h7).mono ?_
  rintro e w8 ⟨rfl, rfl⟩
  go_wp2_with fail
  refine (write_lit 99 _ _ dC dD 8 w.heap.size p g w7 h7 hp hg (by omega) rfl rfl (by decide) rfl).mono ?_
  rintro e w8 ⟨rfl, h8, b8, t8⟩
  have r8 := r7.tch t8 N3.out
  have s8 := t8.size
  have hB8 := hB7.trans b8
  clear h7 hB7 t8 r7 b8
  go_wp2_with fail
  refine (read_ok p g dD 0 w8 h8 (by decide)).mono ?_
  rintro e w9 ⟨A9, rfl, o9, b9⟩
  obtain ⟨gc, rfl, l9, _⟩ := o9.lt (by omega)
  have r9 := r8.below b9
  have q9 := o9.rd
  have h9 := h8.below b9
  have s9 := b9.size
  have hB9 := hB8.trans (b9.mono (by omega))
  clear h8 hB8 b9 o9 r8
  go_wp2_with fail
  refine (copy_ok p g dD w9 h9).mono ?_
  rintro e w10 ⟨p', g', rfl, hc, hp', hg', b10⟩
  have r10 := r9.below b10
  have q10 := q9.below b10
  have h10 := h9.below b10
  have s10 := b10.size
  have hB10 := hB9.trans (b10.mono (by omega))
  clear h9 hB9 b10 q9 r9
  have c0 : w10.cell? ⟨ga, 0, none⟩ = some (.int .u8 97) := by obtain ⟨b, o, hA, hh⟩ := r10.2 (by omega); cases hA; exact hh 0 (by omega)
  have c1 : w10.cell? ⟨ga, 1, none⟩ = some (.int .u8 0) := by obtain ⟨b, o, hA, hh⟩ := r10.2 (by omega); cases hA; exact hh 1 (by omega)
  have c2 : w10.cell? ⟨gc, 0, none⟩ = some (.int .u8 98) := by obtain ⟨b, o, hA, hh⟩ := q10.2 (by omega); cases hA; exact hh 0 (by omega)
  clear r10 q10
  go_wp2_with fail
  refine (blown_ok p g dD w10 h10).mono ?_
  rintro e w11 ⟨rfl, rfl⟩
  go_wp2_with fail
  refine (fuse_blown p g dD (-1) w10 h10 rfl).mono ?_
  rintro e w11 ⟨rfl, rfl⟩
  go_wp2_with fail
  refine (writes_ok p g dD w10 h10).mono ?_
  rintro e w11 ⟨rfl, rfl⟩
  go_wp2_with fail
  refine (write_lit 100 _ _ dD.copy _ 0 w.heap.size p' g' w10 hc (by omega) (by omega) (by omega) rfl rfl (by decide) rfl).mono ?_
  rintro e w12 ⟨rfl, h12, b12, -⟩
  have hB12 := hB10.trans b12
  clear hB10 b12 h12 hc h10
  go_wp2
  go_ret
  exact ⟨rfl, hB12⟩
end Go.Proofs.Ythgbenncheoemaa
