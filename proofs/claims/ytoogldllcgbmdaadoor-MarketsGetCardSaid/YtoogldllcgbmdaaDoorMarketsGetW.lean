/-
  The walk of MarketsGet: it answers true, for any bytes.
-/
import Derived.Test.YtoogldllcgbmdaaDoorMarkW
import Derived.Test.YtoogldllcgbmdaaDoorRef05d
import Derived.Test.YtoogldllcgbmdaaDoorTwin
import Derived.Test.YtoogldllcgbmdaaDoorMarkL
namespace Go.Proofs.YtoogldllcgbmdaaDoor.marketsGet
open Go.RowKit
set_option linter.unusedVariables false

set_option maxRecDepth 100000 in
theorem walk_out (A : Option Addr) (n c : Nat) (w : World) (hc2 : c ≤ maxLen) (hc : n ≤ c) (hn : 5000 < n) :
    Calls Tryd.prog 3 #[.slice A n c] w fun e w' => e = .returned (.bool true) ∧ Below w.heap.size w w' := by
  have h1 : decide (5000 < n) = true := by simpa using hn
  have h1' : decide (5000 < (n : Int)) = true := by simp; omega
  go_enter Tryd.func3, Tryd.ntmps3
  go_wp2
  go_ret
  exact ⟨rfl, Below.refl _ _⟩

set_option maxRecDepth 100000 in
set_option maxHeartbeats 2000000 in
theorem walk_in (A : Option Addr) (n c : Nat) (bs : List UInt8) (w : World) (hr : Rd w A n (cu8 bs)) (hc2 : c ≤ maxLen) (hc : n ≤ c) (hn : n ≤ 5000) :
    Calls Tryd.prog 3 #[.slice A n c] w fun e w' => e = .returned (.bool true) ∧ Below w.heap.size w w' := by
  have hl : bs.length = n := by have h := hr.len; rw [cu8_len] at h; exact h
  have HL := Lib.hid hl
  clear hl
  have h1 : decide (5000 < n) = false := by simp; omega
  have h1' : decide (5000 < (n : Int)) = false := by simp; omega
  obtain ⟨E, hE⟩ : ∃ E, getME bs = E := ⟨_, rfl⟩
  have HE := Lib.hid hE
  clear hE
  go_enter Tryd.func3, Tryd.ntmps3
  go_wp2_with fail
  refine (twinbytes_any A n c bs w hr (by omega)).mono ?_
  rintro e w1 ⟨A1, c1, rfl, ho1, hb1⟩
  have k1 := ho1.le
  have k2 := ho1.cap
  go_wp2_with fail
  refine (mgetC A1 n c1 bs w1 (own_twin9 HL.out ho1).rd (by omega) k2 (by omega)).mono ?_
  rintro e w2 ⟨y, rfl, hy, hyp, hb2⟩
  have ho2 := ho1.below hb2
  have hB2 := hb1.trans (hb2.mono hb1.size)
  rw [HE.out]
  have hyv : y.v = .agg #[.slice y.r.A y.r.n y.r.c, .slice y.A y.n y.c, .slice y.o.A y.o.n y.o.c] := rfl
  rw [hyv]
  go_wp2_with fail
  -- REST
  obtain ⟨yr, yn, yo, yb⟩ := parts_small hy.ok hyp (getM_small bs)
  have YB := Lib.hid yb
  clear yb
  have hbx := InBox.new w2 y
  have hbA : Below w2.heap.size w2 (w2.alloc (.cells #[.slice y.r.A y.r.n y.r.c, .slice y.A y.n y.c, .slice y.o.A y.o.n y.o.c] 27)) := (Below.refl _ w2).alloc (Nat.le_refl _) _
  have hy3 := hy.below hbA
  have ho3 := ho2.below hbA
  have hB3 := hB2.trans (hbA.mono hB2.size)
  have z3 : w2.heap.size ≤ (w2.alloc (.cells #[.slice y.r.A y.r.n y.r.c, .slice y.A y.n y.c, .slice y.o.A y.o.n y.o.c] 27)).heap.size := hbA.size
  clear hy ho2 ho1 hbA
  generalize w2.alloc (.cells #[.slice y.r.A y.r.n y.r.c, .slice y.A y.n y.c, .slice y.o.A y.o.n y.o.c] 27) = w3 at hbx hy3 ho3 hB3 z3 ⊢
  refine (rgetC A n c bs w3 (hr.below hB3) hc hc2 (by omega)).mono ?_
  rintro e w4 ⟨z, rfl, hz, hzp, hb4⟩
  have hbx4 := hbx.below hb4
  have hy4 := hy3.below hb4
  have ho4 := ho3.below hb4
  have hB4 := hB3.trans (hb4.mono hB3.size)
  clear hbx hy3 ho3
  rw [HE.out]
  have hzv : z.v = .agg #[.slice z.r.A z.r.n z.r.c, .slice z.A z.n z.c, .slice z.o.A z.o.n z.o.c] := rfl
  rw [hzv]
  have hbz := InBox.new w4 z
  have hbA : Below w4.heap.size w4 (w4.alloc (.cells #[.slice z.r.A z.r.n z.r.c, .slice z.A z.n z.c, .slice z.o.A z.o.n z.o.c] 27)) := (Below.refl _ w4).alloc (Nat.le_refl _) _
  have hbx5 := hbx4.below hbA
  have hy5 := hy4.below hbA
  have hz5 := hz.below hbA
  have ho5 := ho4.below hbA
  have hB5 := hB4.trans (hbA.mono hB4.size)
  have hsame : (y.r.zs == z.r.zs && (Ls.all y.b == Ls.all z.b && y.o.zs == z.o.zs)) = true := by
    have h := hyp.trans hzp.symm
    simp only [Mk.parts, Prod.mk.injEq] at h
    rw [h.1, h.2.1, h.2.2]
    simp
  have hsm := samemarket y z _ hy5.ok hz5.ok
  rw [hsame] at hsm
  have c1 := hbx5.c0
  have c2 := hbx5.c1
  have c3 := hbx5.c2
  have d1 := hbz.c0
  have d2 := hbz.c1
  have d3 := hbz.c2
  clear hb4 hyp hzp hsame hz hy4 ho4 hbx4 hz5
  have z5 := hbA.size
  clear hbz hbA
  go_wp2_with fail
  clear c1 c2 c3 d1 d2 d3
  generalize w4.alloc (.cells #[.slice z.r.A z.r.n z.r.c, .slice z.A z.n z.c, .slice z.o.A z.o.n z.o.c] 27) = w5 at *
  refine hsm.mono ?_
  rintro e w6 ⟨rfl, hb6⟩
  have hbx6 := hbx5.below hb6
  have hy6 := hy5.below hb6
  have ho6 := ho5.below hb6
  have hB6 := hB5.trans (hb6.mono hB5.size)
  have z6 := hb6.size
  clear hb6 hsm hbx5 hy5 ho5
  go_wp2_with fail
  refine (leftbytes_any A1 n c1 bs A c w6 w.heap.size ho6 (hr.below hB6) (by omega)).mono ?_
  rintro e w7 ⟨rfl, hb7⟩
  have hbx7 := hbx6.below hb7
  have hy7 := hy6.below hb7
  have ho7 := ho6.below hb7
  have hB7 := hB6.trans (hb7.mono hB6.size)
  have z7 := hb7.size
  clear hb7 hbx6 hy6 ho6
  have hk0 := Bkn.new 43 tHs w7
  have hbk : Below w7.heap.size w7 (w7.alloc (.cells #[.int .i64 0, .slice none 0 0, .slice none 0 0, .slice none 0 0, .slice none 0 0, .slice none 0 0, .slice none 0 0, .slice none 0 0, .slice none 0 0, .slice none 0 0] 43)) := (Below.refl _ w7).alloc (Nat.le_refl _) _
  go_wp2_with fail
  generalize w7.alloc (.cells #[.int .i64 0, .slice none 0 0, .slice none 0 0, .slice none 0 0, .slice none 0 0, .slice none 0 0, .slice none 0 0, .slice none 0 0, .slice none 0 0, .slice none 0 0] 43) = w8 at hk0 hbk ⊢
  obtain ⟨kb, hkb⟩ : ∃ kb, kb = w7.heap.size := ⟨_, rfl⟩
  rw [← hkb] at hk0 hbk ⊢
  have hgk : w2.heap.size < kb := by rw [hkb]; exact hbx7.lt
  have hyK : ∀ w', Below kb w7 w' → MkOwn w' w1.heap.size y := fun w' h => hy7.below (hkb ▸ h)
  have hoK : ∀ w', Below kb w7 w' → Own w' w.heap.size 5 A1 (n + 1) c1 (cu8 (bs ++ [77])) := fun w' h => ho7.below (hkb ▸ h)
  have HKB := Lib.hid hkb
  clear hkb
  refine (toldBytes kb 0 noTabs noLists ⟨A1, n, c1, []⟩ w8 hk0 (by omega) (by simp [noLists])).mono ?_
  rintro e w9 ⟨rfl, T1, s1, k1', b9, _⟩
  have hK9 : Below kb w7 w9 := hbk.trans b9
  have hbx9 := hbx7.keepK hK9 hgk
  have hy9 := hyK _ hK9
  have q1 := hbx9.c0
  have q2 := hbx9.c1
  have q3 := hbx9.c2
  have hA9 : ∀ p q, 0 < y.n → y.A = some ⟨p, q, none⟩ → p < kb := fun p q h0 hA => by
    obtain ⟨g, hg, _, hlt⟩ := hy7.b.lt (by have := hy7.b.le; omega)
    rw [hg] at hA
    cases hA
    rw [HKB.out]; exact hlt
  go_wp2_with fail
  have hH2 : (more noLists [Ls.held ⟨A1, n, c1, []⟩ (0 + 1)] [] [] 2).length = 0 := rfl
  have hH4 : (more noLists [Ls.held ⟨A1, n, c1, []⟩ (0 + 1)] [] [] 4).length = 0 := rfl
  have hynm : y.n ≤ maxLen := by unfold maxLen; omega
  have htm := toldMarket kb (0 + 1) T1 (more noLists [Ls.held ⟨A1, n, c1, []⟩ (0 + 1)] [] []) y w9 k1' (outs_at hy9.b) hA9 hynm (by omega) (by rw [hH2]; omega) (by rw [hH4]; omega)
  rw [hyv] at htm
  refine htm.mono ?_
  rintro e w10 ⟨rfl, T2, s2, k2', b10, _⟩
  have hK10 : Below kb w7 w10 := hK9.trans b10
  have hy10 := hyK _ hK10
  have ho10 := hoK _ hK10
  rw [more_more] at k2'
  go_wp2_with fail
  refine (apart_lists kb _ w.heap.size T2 _ _ _ w10 k2' (s1.trans s2) ?o1 ?o2 ?o4 ?lt ?p1 ?p2 ?p4 ?ln (by rw [HKB.out]; exact hB7.size)).mono ?_
  case o1 =>
    intro h hm
    simp only [List.append_nil, List.mem_singleton] at hm
    subst hm
    exact ⟨_, own_twin9 HL.out (ho10)⟩
  case o2 =>
    intro h hm
    exact held_own (N := 1) (hy10.mono hb1.size) h hm
  case o4 =>
    intro h hm
    exact lists_own (N := 1) (hy10.mono hb1.size) h hm
  case lt =>
    intro h hm
    have o7 := own_twin9 HL.out ho7
    rcases hm with hm | hm | hm
    · simp only [List.append_nil, List.mem_singleton] at hm
      subst hm
      exact ⟨fun g hg => by rw [HKB.out]; exact (hit_lt ⟨_, o7⟩ hg).2, by simp only [Ls.held]; omega, by simp only [Ls.held]; omega⟩
    · have h1 := held_small (N := 1) (M := 1 + y.n + 3) hy7.ok (by omega) (by omega) yr yo YB.out h hm
      exact ⟨fun g hg => by rw [HKB.out]; exact (hit_lt (held_own (N := 1) hy7 h hm) hg).2, h1.1, h1.2⟩
    · have h0 := hm
      simp only [List.nil_append, List.mem_singleton] at hm
      subst hm
      exact ⟨fun g hg => by rw [HKB.out]; exact (hit_lt (lists_own (N := 1) hy7 _ h0) hg).2, by simp only; omega, by simp only; omega⟩
  case p1 => exact List.pairwise_singleton _ _
  case p2 => exact sep_of_apt (held_key_all y 1) hy7.apt
  case p4 => exact List.pairwise_singleton _ _
  case ln =>
    have h : (y.held 1).length ≤ 1000000 := by rw [held_len y hy7.ok]; omega
    exact ⟨by simp, h, by simp⟩
  rintro e w11 ⟨rfl, b11⟩
  go_wp2
  go_ret
  exact ⟨rfl, (hB7.trans ((hbk.mono (by rw [HKB.out]; exact hB7.size)).trans ((b9.trans b10).mono (by rw [HKB.out]; exact hB7.size)))).trans b11⟩
theorem walk (A : Option Addr) (n c : Nat) (bs : List UInt8) (w : World) (hr : Rd w A n (cu8 bs)) (hc2 : c ≤ maxLen) (hc : n ≤ c) :
    Calls Tryd.prog 3 #[.slice A n c] w fun e w' => e = .returned (.bool true) ∧ Below w.heap.size w w' := by
  by_cases h : n ≤ 5000
  · exact walk_in A n c bs w hr hc2 hc h
  · exact walk_out A n c w hc2 hc (by omega)
end Go.Proofs.YtoogldllcgbmdaaDoor.marketsGet
