/-
  What the statements of layer 4 ask first: some answers that the document fixes.
-/
import Derived.Test.YtbcfncdmkgoidaaVecW
import Derived.Test.YtbcfncdmkgoidaaTwinI
namespace Go.Proofs.Ytbcfncdmkgoidaa
open Go.RowKit
set_option linter.unusedVariables false

/-- What a literal of ints reads, in the world in which it was laid just now. -/
theorem rd_liti (w : World) (e : TypeId) (cs : Array Value) (fr : Nat × Nat) (n g : Nat) (hg : w.heap.size = g) (zs : List Int) (hc : cs.toList = ci64 zs) (hn : zs.length = n) : Rd (w.alloc (.cells cs e fr)) (some ⟨g, 0, none⟩) n (ci64 zs) := by
  subst hg
  rw [← hc]
  have hl : cs.toList.length = n := by rw [hc, ci64_len, hn]
  refine ⟨hl, fun _ => ⟨w.heap.size, 0, rfl, fun j hj => ?_⟩⟩
  rw [cell_of_row _ _ _ _ _ _ (heap_alloc_new w _), Nat.zero_add]
  simp

theorem check_lit (zs : List Int) (cs : Array Value) (fr : Nat × Nat) (n : Nat) (items : Int) (w : World) (hc : cs.toList = ci64 zs) (hn : zs.length = n) (β : Bool) (hb : mayB zs items = β) :
    Calls Try.prog 13 #[.slice (some ⟨w.heap.size, 0, none⟩) n n, .int .i64 items] (w.alloc (.cells cs 3 fr)) fun e w' => e = .returned (.bool β) ∧ Below w.heap.size w w' :=
  (check_of _ n n zs items _ (rd_liti w _ cs fr n _ rfl zs hc hn) β hb).mono fun e w' ⟨a, b⟩ => ⟨a, ((Below.refl _ w).alloc (Nat.le_refl _) _).trans (b.mono (by simp))⟩
theorem worth_lit (A : Option Addr) (n c : Nat) (xs ys : List Int) (cs : Array Value) (fr : Nat × Nat) (m : Nat) (i : Int) (w : World) (hr : Rd w A n (ci64 xs)) (hc : cs.toList = ci64 ys) (hm : ys.length = m) (v : Int) (hv : worth xs ys i = v)
    (hx : ∀ z ∈ xs, -1000000000000 ≤ z ∧ z ≤ 1000000000000) (hy : ∀ z ∈ ys, -1000000000000 ≤ z ∧ z ≤ 1000000000000) (hn : n ≤ 1000000) (hm2 : m ≤ 1000000) :
    Calls Try.prog 8 #[.slice A n c, .slice (some ⟨w.heap.size, 0, none⟩) m m, .int .i64 i] (w.alloc (.cells cs 3 fr)) fun e w' => e = .returned (.int .i64 v) ∧ Below w.heap.size w w' := by
  subst hv
  exact (vworth_any A n c xs _ m m ys i _ (hr.alloc _) (rd_liti w _ cs fr m _ rfl ys hc hm) hx hy hn hm2).mono fun e w' ⟨a, b⟩ => ⟨a, ((Below.refl _ w).alloc (Nat.le_refl _) _).trans (b.mono (by simp))⟩
set_option maxRecDepth 100000 in
theorem a1 : putL [5, 0] = [2, 5, 0, 0, 0, 0, 0, 0, 0] := by decide +kernel
set_option maxRecDepth 100000 in
theorem a2 : getVE [2, 5, 0, 0, 0, 0, 0, 0, 0] 2 = 0 := by decide +kernel
set_option maxRecDepth 100000 in
theorem a3 : getV [2, 5, 0, 0, 0, 0, 0, 0, 0] 2 = [5, 0] := by decide +kernel
set_option maxRecDepth 100000 in
theorem a4 : getVE [2, 5, 0, 0, 0, 0, 0, 0, 0] 3 = 4 := by decide +kernel
set_option maxRecDepth 100000 in
theorem a5 : getV [2, 5, 0, 0, 0, 0, 0, 0, 0] 3 = [] := by decide +kernel
theorem a6 : getVE [] 2 = 5 := by decide +kernel
theorem a7 : getV [] 2 = [] := by decide +kernel
theorem a8 : getVE [] 9 = 1 := by decide +kernel
theorem a9 : getV [] 9 = [] := by decide +kernel

set_option maxRecDepth 100000 in
set_option maxHeartbeats 1000000 in
theorem alive4_any (w : World) : Calls Try.prog 10 #[] w fun e w' => e = .returned (.bool true) ∧ Below w.heap.size w w' := by
  go_enter Try.func10, Try.ntmps10
  go_wp2_with fail
  have f_ra_0 : Rd (w.alloc (.cells #[.int .i64 5, .int .i64 0] 3)) (some ⟨w.heap.size, 0, none⟩) 2 (ci64 [5, 0]) := rd_liti w _ _ _ 2 _ rfl _ rfl rfl
  have hB0 : Below w.heap.size w (w.alloc (.cells #[.int .i64 5, .int .i64 0] 3)) := (Below.refl _ w).alloc (Nat.le_refl _) _
  generalize w.alloc (.cells #[.int .i64 5, .int .i64 0] 3) = w0 at f_ra_0 hB0 ⊢
  generalize (⟨w.heap.size, 0, none⟩ : Addr) = aa at f_ra_0 ⊢
  refine (put_of (some aa) 2 2 [5, 0] w0 f_ra_0 (by omega) (by decide) _ a1 9 rfl).mono ?_
  rintro e w1 ⟨A1, c1, rfl, ho1, hb1⟩
  have f_ra_1 := f_ra_0.below hb1
  have hB1 := hB0.trans (hb1.mono hB0.size)
  have sz1 := hb1.size
  clear f_ra_0 hb1
  have f_b1_1 := ho1
  clear ho1
  go_wp2_with fail
  refine (get_of A1 9 c1 _ 2 w1 f_b1_1.rd f_b1_1.le f_b1_1.cap 0 a2 _ a3 2 rfl).mono ?_
  rintro e w2 ⟨A2, c2, rfl, ho2, hb2⟩
  have f_ra_2 := f_ra_1.below hb2
  have f_b1_2 := f_b1_1.below hb2
  have hB2 := hB1.trans (hb2.mono hB1.size)
  have sz2 := hb2.size
  clear f_ra_1 f_b1_1 hb2
  have f_l_2 := ho2
  clear ho2
  clear f_b1_2
  go_wp2_with fail
  refine (put_of (some aa) 2 2 [5, 0] w2 f_ra_2 (by omega) (by decide) _ a1 9 rfl).mono ?_
  rintro e w3 ⟨A3, c3, rfl, ho3, hb3⟩
  have f_ra_3 := f_ra_2.below hb3
  have f_l_3 := f_l_2.below hb3
  have hB3 := hB2.trans (hb3.mono hB2.size)
  have sz3 := hb3.size
  clear f_ra_2 f_l_2 hb3
  have f_b3_3 := ho3
  clear ho3
  go_wp2_with fail
  refine (get_of A3 9 c3 _ 3 w3 f_b3_3.rd f_b3_3.le f_b3_3.cap 4 a4 _ a5 0 rfl).mono ?_
  rintro e w4 ⟨A4, c4, rfl, ho4, hb4⟩
  have f_ra_4 := f_ra_3.below hb4
  have f_l_4 := f_l_3.below hb4
  have f_b3_4 := f_b3_3.below hb4
  have hB4 := hB3.trans (hb4.mono hB3.size)
  have sz4 := hb4.size
  clear f_ra_3 f_l_3 f_b3_3 hb4
  clear ho4
  clear f_b3_4
  go_wp2_with fail
  refine (get_of none 0 0 [] 2 w4 (Rd.nil _ _) (by omega) (by decide) 5 a6 _ a7 0 rfl).mono ?_
  rintro e w5 ⟨A5, c5, rfl, ho5, hb5⟩
  have f_ra_5 := f_ra_4.below hb5
  have f_l_5 := f_l_4.below hb5
  have hB5 := hB4.trans (hb5.mono hB4.size)
  have sz5 := hb5.size
  clear f_ra_4 f_l_4 hb5
  clear ho5
  go_wp2_with fail
  refine (get_of none 0 0 [] 9 w5 (Rd.nil _ _) (by omega) (by decide) 1 a8 _ a9 0 rfl).mono ?_
  rintro e w6 ⟨A6, c6, rfl, ho6, hb6⟩
  have f_ra_6 := f_ra_5.below hb6
  have f_l_6 := f_l_5.below hb6
  have hB6 := hB5.trans (hb6.mono hB5.size)
  have sz6 := hb6.size
  clear f_ra_5 f_l_5 hb6
  clear ho6
  go_wp2_with fail
  refine (check_of (some aa) 2 2 [5, 0] 2 w6 f_ra_6 true (by decide +kernel)).mono ?_
  rintro e w7 ⟨rfl, hb7⟩
  have f_ra_7 := f_ra_6.below hb7
  have f_l_7 := f_l_6.below hb7
  have hB7 := hB6.trans (hb7.mono hB6.size)
  have sz7 := hb7.size
  clear f_ra_6 f_l_6 hb7
  go_wp2_with fail
  refine (check_of (some aa) 2 2 [5, 0] 3 w7 f_ra_7 false (by decide +kernel)).mono ?_
  rintro e w8 ⟨rfl, hb8⟩
  have f_ra_8 := f_ra_7.below hb8
  have f_l_8 := f_l_7.below hb8
  have hB8 := hB7.trans (hb8.mono hB7.size)
  have sz8 := hb8.size
  clear f_ra_7 f_l_7 hb8
  go_wp2_with fail
  refine (check_lit [5, 1000001] _ _ 2 2 w8 rfl rfl false (by decide +kernel)).mono ?_
  rintro e w9 ⟨rfl, hb9⟩
  have f_ra_9 := f_ra_8.below hb9
  have f_l_9 := f_l_8.below hb9
  have hB9 := hB8.trans (hb9.mono hB8.size)
  have sz9 := hb9.size
  clear f_ra_8 f_l_8 hb9
  go_wp2_with fail
  refine (check_of none 0 0 [] 0 w9 (Rd.nil _ _) false (by decide +kernel)).mono ?_
  rintro e w10 ⟨rfl, hb10⟩
  have f_ra_10 := f_ra_9.below hb10
  have f_l_10 := f_l_9.below hb10
  have hB10 := hB9.trans (hb10.mono hB9.size)
  have sz10 := hb10.size
  clear f_ra_9 f_l_9 hb10
  go_wp2_with fail
  refine (worth_lit (some aa) 2 2 [5, 0] [3, 1] _ _ 2 0 w10 f_ra_10 rfl rfl 2 (by decide +kernel) (by decide) (by decide) (by omega) (by omega)).mono ?_
  rintro e w11 ⟨rfl, hb11⟩
  have f_ra_11 := f_ra_10.below hb11
  have f_l_11 := f_l_10.below hb11
  have hB11 := hB10.trans (hb11.mono hB10.size)
  have sz11 := hb11.size
  clear f_ra_10 f_l_10 hb11
  go_wp2_with fail
  refine (worth_lit (some aa) 2 2 [5, 0] [3, 1] _ _ 2 1 w11 f_ra_11 rfl rfl (-1) (by decide +kernel) (by decide) (by decide) (by omega) (by omega)).mono ?_
  rintro e w12 ⟨rfl, hb12⟩
  have f_ra_12 := f_ra_11.below hb12
  have f_l_12 := f_l_11.below hb12
  have hB12 := hB11.trans (hb12.mono hB11.size)
  have sz12 := hb12.size
  clear f_ra_11 f_l_11 hb12
  go_wp2_with fail
  refine (worth_lit (some aa) 2 2 [5, 0] [3] _ _ 1 1 w12 f_ra_12 rfl rfl (-1) (by decide +kernel) (by decide) (by decide) (by omega) (by omega)).mono ?_
  rintro e w13 ⟨rfl, hb13⟩
  have f_ra_13 := f_ra_12.below hb13
  have f_l_13 := f_l_12.below hb13
  have hB13 := hB12.trans (hb13.mono hB12.size)
  have sz13 := hb13.size
  clear f_ra_12 f_l_12 hb13
  go_wp2_with fail
  refine (sameints_eq A2 2 c2 [5, 0] (some aa) 2 w13 f_l_13.rd f_ra_13 (by decide)).mono ?_
  rintro e w14 ⟨rfl, hb14⟩
  have f_ra_14 := f_ra_13.below hb14
  have f_l_14 := f_l_13.below hb14
  have hB14 := hB13.trans (hb14.mono hB13.size)
  have sz14 := hb14.size
  clear f_ra_13 f_l_13 hb14
  clear f_ra_14
  clear f_l_14
  go_wp2
  go_ret
  exact ⟨rfl, hB14⟩
end Go.Proofs.Ytbcfncdmkgoidaa
