/-
  Proved: WeightsFewer holds of all gains and any two bidders: what one more adds to all is at most what it adds to all but another one.
-/
import Derived.Test.YtiaoplghaigclaaRows
import Derived.Test.YtiaoplghaigclaaLift
import Derived.Test.YtiaoplghaigclaaAlive10
import Derived.Test.YtiaoplghaigclaaZeros
import Derived.Test.YtiaoplghaigclaaReg
namespace Go.Proofs.Ytiaoplghaigclaa.weightsFewer
open Go.ChangeShapes Go.WideShapes Go.ChangeAt Go.RowKit
set_option linter.unusedVariables false

theorem info6_int : (Try.prog.info? 3).map (fun i => (i.zero, i.size, i.bytes)) = some (some (.int .i64 0), 1, 8) := by kernel_rfl
theorem rows_le {g : List (List Int)} {M : Nat} (hm : mayW g M = true) {w : World} {B : Nat} {A : Option Addr} {n c : Nat} {t : List Ls} (hO : Outs w B A n c t) (hg : Ls.all t = g) : ∀ u ∈ t, u.n ≤ 8 := fun u hu => by
  have h1 := (mayW_iff.1 hm).2.2.2 u.zs (by rw [← hg, Ls.all]; exact List.mem_map_of_mem hu)
  have h2 := (hO.each u hu).len
  have h3 := (may_m hm).2.1
  omega

set_option maxRecDepth 100000 in
set_option maxHeartbeats 4000000 in
theorem walk (x : Gr) (m : Int) (y1 y2 : Nat) (w : World) (h : x.Ok w) (hm1 : -9223372036854775808 ≤ m) (hm2 : m ≤ 9223372036854775807) (hy1 : y1 < 256) (hy2 : y2 < 256) :
    Calls Try.prog 10 #[.agg #[x.v, .int .i64 m], .int .u8 y1, .int .u8 y2] w fun e w' => e = .returned (.bool true) ∧ Below w.heap.size w w' := by
  have hx := h
  have hB := Below.refl w.heap.size w
  have hxv : x.v = .slice x.A x.n x.c := rfl
  have Vx := Lib.hid hxv
  rw [hxv]
  have hgl := h.glen
  have HGL := Lib.hid hgl
  have htop := Nat.le_trans h.cap h.top
  unfold maxLen at htop
  obtain ⟨B, hB0⟩ : ∃ B, mayW x.g m = B := ⟨_, rfl⟩
  clear hxv hgl h
  go_enter Try.func10, Try.ntmps10
  have bg := WBox.new w x m
  have hbx : Below w.heap.size w (w.alloc (.cells #[.slice x.A x.n x.c, .int .i64 m] 24)) := (Below.refl _ w).alloc (Nat.le_refl _) _
  replace hx := hx.below hbx
  replace hB := hB.trans (hbx.mono hB.size)
  clear hbx
  cases B
  · have E1 := Lib.hid (we_bad hB0)
    clear hB0
    have eg0 := bg.c0
    have eg1 := bg.c1
    have hc := pbestC x m (w.alloc (.cells #[.slice x.A x.n x.c, .int .i64 m] 24)) hx (by omega) (by omega)
    rw [Vx.out, E1.out.1, E1.out.2.1] at hc
    go_wp2_with fail
    clear eg0 eg1
    generalize w.alloc (.cells #[.slice x.A x.n x.c, .int .i64 m] 24) = W1 at *
    refine hc.mono ?_
    rintro e v2 ⟨rfl, hb⟩
    clear hc
    replace hx := hx.below hb
    replace bg := bg.below hb
    replace hB := hB.trans (hb.mono hB.size)
    clear hb
    have eg0 := bg.c0
    have eg1 := bg.c1
    have hc := alive10_any v2
    go_wp2_with fail
    clear eg0 eg1
    refine hc.mono ?_
    rintro e v3 ⟨rfl, hb⟩
    clear hc
    replace hx := hx.below hb
    replace bg := bg.below hb
    replace hB := hB.trans (hb.mono hB.size)
    clear hb
    have eg0 := bg.c0
    have eg1 := bg.c1
    go_wp2
    go_ret
    exact ⟨rfl, hB⟩
  · obtain ⟨M, rfl⟩ : ∃ M : Nat, m = M := ⟨m.toNat, by have := (mayW_iff.1 hB0).1; omega⟩
    have HB0 := Lib.hid hB0
    obtain ⟨hM1, hM8, hx8⟩ := may_m hB0
    rw [HGL.out] at hx8
    have EE := Lib.hid (we_ok hB0).2.1
    obtain ⟨a0, ha0⟩ : ∃ a, bestE x.g M = a := ⟨_, rfl⟩
    obtain ⟨ul, hul⟩ : ∃ a, bidE x.g M = a := ⟨_, rfl⟩
    obtain ⟨pl, hpl⟩ : ∃ a, ofE x.g M = a := ⟨_, rfl⟩
    have EB := Lib.hid ha0
    have EU := Lib.hid hul
    have EP := Lib.hid hpl
    have ULN : Hid (ul.length = x.n) := Lib.hid (by rw [← hul, bidE_len hB0, HGL.out])
    have PLN : Hid (pl.length = M) := Lib.hid (by rw [← hpl, ofE_len hB0])
    have UGET : Hid (∀ i, i < x.n → ul[i]? = some (bidP (gG x.g) M x.n i)) := Lib.hid (fun i hi => by rw [← hul, bidE_get hB0 (by rw [HGL.out]; exact hi), HGL.out])
    have PGET : Hid (∀ k, k < M → pl[k]? = some (numP (gG x.g) M x.n k)) := Lib.hid (fun k hk => by rw [← hpl, ofE_get hB0 hk, HGL.out])
    have BV : Hid (a0 = bestV (gG x.g) M x.n) := Lib.hid (by rw [← ha0, (we_ok hB0).1, HGL.out])
    have hab : 0 ≤ a0 ∧ a0 ≤ 8000000 := by rw [← ha0, (we_ok hB0).1]; exact best_bound hB0
    have HRW : Hid (∀ u ∈ x.t, u.n = M) := Lib.hid (fun u hu => by
      have h1 := (mayW_iff.1 hB0).2.2.2 u.zs (by rw [Gr.g, Ls.all]; exact List.mem_map_of_mem hu)
      have h2 := (hx.lss.ok u hu).len
      omega)
    clear hB0 ha0 hul hpl hm1 hm2
    have eg0 := bg.c0
    have eg1 := bg.c1
    have hc := pbestC x M (w.alloc (.cells #[.slice x.A x.n x.c, .int .i64 (M : Int)] 24)) hx (by omega) (by omega)
    rw [Vx.out, EB.out, EE.out] at hc
    go_wp2_with fail
    clear eg0 eg1
    generalize w.alloc (.cells #[.slice x.A x.n x.c, .int .i64 (M : Int)] 24) = W1 at *
    refine hc.mono ?_
    rintro e v2 ⟨rfl, hb⟩
    clear hc
    replace hx := hx.below hb
    replace bg := bg.below hb
    replace hB := hB.trans (hb.mono hB.size)
    clear hb
    by_cases hn2 : x.n < 2
    · have gn : decide ((x.n : Int) < 2) = true := decide_eq_true (by omega)
      have eg0 := bg.c0
      have eg1 := bg.c1
      have hc := alive10_any v2
      go_wp2_with fail
      clear eg0 eg1
      refine hc.mono ?_
      rintro e v3 ⟨rfl, hb⟩
      clear hc
      replace hx := hx.below hb
      replace bg := bg.below hb
      replace hB := hB.trans (hb.mono hB.size)
      clear hb
      have eg0 := bg.c0
      have eg1 := bg.c1
      go_wp2
      go_ret
      exact ⟨rfl, hB⟩
    · have gn : decide ((x.n : Int) < 2) = false := decide_eq_false (by omega)
      have g0 : ((x.n : Int) == 0) = false := by rw [beq_eq_false_iff_ne]; omega
      have g0' : (x.n == 0) = false := by rw [beq_eq_false_iff_ne]; omega
      obtain ⟨i, hi⟩ : ∃ k : Nat, y1 % x.n = k := ⟨_, rfl⟩
      obtain ⟨k, hk⟩ : ∃ k : Nat, y2 % x.n = k := ⟨_, rfl⟩
      have hin : i < x.n := by rw [← hi]; exact Nat.mod_lt _ (by omega)
      have hkn : k < x.n := by rw [← hk]; exact Nat.mod_lt _ (by omega)
      have t1 : ((y1 : Int)).tmod (x.n : Int) = (i : Int) := by rw [Int.tmod_eq_emod_of_nonneg (by omega), ← hi]; simp
      have t2 : ((y2 : Int)).tmod (x.n : Int) = (k : Int) := by rw [Int.tmod_eq_emod_of_nonneg (by omega), ← hk]; simp
      have s1 : IntKind.i64.wrap (y1 : Int) = (y1 : Int) := by rw [IntKind.wrap_i64]; omega
      have s2 : IntKind.i64.wrap (y2 : Int) = (y2 : Int) := by rw [IntKind.wrap_i64]; omega
      have s3 : IntKind.i64.wrap (i : Int) = (i : Int) := by rw [IntKind.wrap_i64]; omega
      have s4 : IntKind.i64.wrap (k : Int) = (k : Int) := by rw [IntKind.wrap_i64]; omega
      clear hi hk
      by_cases hik : i = k
      · have gi : ((i : Int) == (k : Int)) = true := by rw [beq_iff_eq]; omega
        have gi2 : (i == k) = true := by rw [beq_iff_eq]; exact hik
        clear hik
        have eg0 := bg.c0
        have eg1 := bg.c1
        have hc := alive10_any v2
        go_wp2_with fail
        clear eg0 eg1
        refine hc.mono ?_
        rintro e v3 ⟨rfl, hb⟩
        clear hc
        replace hx := hx.below hb
        replace bg := bg.below hb
        replace hB := hB.trans (hb.mono hB.size)
        clear hb
        have eg0 := bg.c0
        have eg1 := bg.c1
        go_wp2
        go_ret
        exact ⟨rfl, hB⟩
      · have gi : ((i : Int) == (k : Int)) = false := by rw [beq_eq_false_iff_ne]; omega
        have gi2 : (i == k) = false := by rw [beq_eq_false_iff_ne]; exact hik
        have hil : i < x.g.length := by rw [HGL.out]; exact hin
        have hkl : k < x.g.length := by rw [HGL.out]; exact hkn
        have mi := wout_may HB0.out hil
        have mk := wout_may HB0.out hkl
        have mki := wout_may (i := i) mk (by rw [wout_len]; exact hil)
        obtain ⟨vi, hvi⟩ : ∃ d, bestE (wout x.g i) M = d := ⟨_, rfl⟩
        obtain ⟨vk, hvk⟩ : ∃ d, bestE (wout x.g k) M = d := ⟨_, rfl⟩
        obtain ⟨vki, hvki⟩ : ∃ d, bestE (wout (wout x.g k) i) M = d := ⟨_, rfl⟩
        have e1' : vi = bestV (noneG (gG x.g) i) M x.n := by rw [← hvi, bestE_of mi fun b c _ hc => wout_gG HB0.out hil hc, wout_len, HGL.out]
        have e2' : vk = bestV (noneG (gG x.g) k) M x.n := by rw [← hvk, bestE_of mk fun b c _ hc => wout_gG HB0.out hkl hc, wout_len, HGL.out]
        have e3' : vki = bestV (noneG (noneG (gG x.g) k) i) M x.n := by
          rw [← hvki, bestE_of (G := noneG (noneG (gG x.g) k) i) mki fun b c _ hc => ?_, wout_len, wout_len, HGL.out]
          rw [wout_gG mk (by rw [wout_len]; exact hil) hc]
          unfold noneG
          by_cases e : b = i
          · rw [if_pos e, if_pos e]
          · rw [if_neg e, if_neg e, wout_gG HB0.out hkl hc]; rfl
        have hle : a0 - vi ≤ vk - vki := by
          have h5 := fewer (G := gG x.g) (m := M) hin hkn hik
          rw [← BV.out, ← e1', ← e2', ← e3'] at h5
          omega
        have HE1 := Lib.hid hvi
        have HE2 := Lib.hid hvk
        have HE3 := Lib.hid hvki
        have F1 := Lib.hid (we_ok mi).2.1
        have F2 := Lib.hid (we_ok mk).2.1
        have F3 := Lib.hid (we_ok mki).2.1
        have b1' : 0 ≤ vi ∧ vi ≤ 8000000 := by rw [← hvi, (we_ok mi).1]; exact best_bound mi
        have b2' : 0 ≤ vk ∧ vk ≤ 8000000 := by rw [← hvk, (we_ok mk).1]; exact best_bound mk
        have b3' : 0 ≤ vki ∧ vki ≤ 8000000 := by rw [← hvki, (we_ok mki).1]; exact best_bound mki
        have w1 : IntKind.i64.wrap (a0 - vi) = a0 - vi := by rw [IntKind.wrap_i64]; omega
        have w2 : IntKind.i64.wrap (vk - vki) = vk - vki := by rw [IntKind.wrap_i64]; omega
        have gle : decide (a0 - vi ≤ vk - vki) = true := decide_eq_true hle
        have MK := Lib.hid mk
        clear hvi hvk hvki e1' e2' e3' mi mk mki hik hil hkl
        have eg0 := bg.c0
        have eg1 := bg.c1
        have hS : ∀ w', Below v2.heap.size v2 w' → w'.cell? ⟨w.heap.size, 0, none⟩ = some (.slice x.A x.n x.c) ∧ w'.cell? ⟨w.heap.size, 1, none⟩ = some (.int .i64 (M : Int)) := fun w' hb => ⟨(bg.below hb).c0, (bg.below hb).c1⟩
        go_wp2_with fail
        refine wp_region_ord (S := fun w' => w'.cell? ⟨w.heap.size, 0, none⟩ = some (.slice x.A x.n x.c) ∧ w'.cell? ⟨w.heap.size, 1, none⟩ = some (.int .i64 (M : Int))) [(0, true), (1, true), (2, true), (4, true), (5, true), (3, false), (6, false), (7, true), (8, true), (9, true), (10, true), (11, true)] default (by kernel_rfl) (by kernel_rfl) (by kernel_rfl) (hS _ ((Below.refl _ v2).drew)) ?_
        simp only [getOrd, nth]
        obtain ⟨q1_0, hu0⟩ : ∃ q1_0, q1_0 = v2.drew := ⟨_, rfl⟩
        have b0 : Below v2.heap.size v2 q1_0 := by rw [hu0]; exact ((Below.refl _ v2).drew)
        rw [← hu0]
        clear hu0
        repeat (first | (refine ordS (by rfl) ?_; simp only [Act.put, List.setIfInBounds_toArray, List.set_cons_zero, List.set_cons_succ]) | (refine ordN (by rfl) ?_; simp only [Act.put, List.setIfInBounds_toArray, List.set_cons_zero, List.set_cons_succ]) | (refine ordQ (v := ?_) (by rfl) (fun _ hSw => ?_) ?_; rotate_left; (focus ((have hS1 := hSw.1); (have hS2 := hSw.2); clear hSw; go_simp; (first | done | with_reducible rfl))); simp only [Act.put, List.setIfInBounds_toArray, List.set_cons_zero, List.set_cons_succ]))
        refine ordD (by rfl) ?_
        intro K hK
        go_simp
        have hc := wwithout_any x i q1_0 (hx.below b0) hin hx8 (fun u hu => by have := HRW.out u hu; omega)
        refine hc.mono ?_
        rintro e q1_1 ⟨A5, c5, t5, rfl, hO5, hg5, hb⟩
        have b1 : Below v2.heap.size v2 q1_1 := b0.trans (hb.mono b0.size)
        go_wp2_with fail
        refine hK _ _ (hS _ b1) ?_
        clear hK K hc hb
        try simp only [Act.put, List.setIfInBounds_toArray, List.set_cons_zero, List.set_cons_succ]
        repeat (first | (refine ordS (by rfl) ?_; simp only [Act.put, List.setIfInBounds_toArray, List.set_cons_zero, List.set_cons_succ]) | (refine ordN (by rfl) ?_; simp only [Act.put, List.setIfInBounds_toArray, List.set_cons_zero, List.set_cons_succ]) | (refine ordQ (v := ?_) (by rfl) (fun _ hSw => ?_) ?_; rotate_left; (focus ((have hS1 := hSw.1); (have hS2 := hSw.2); clear hSw; go_simp; (first | done | with_reducible rfl))); simp only [Act.put, List.setIfInBounds_toArray, List.set_cons_zero, List.set_cons_succ]))
        refine ordD (by rfl) ?_
        intro K hK
        go_simp
        have hc := pbestC ⟨A5, x.n, c5, t5⟩ M q1_1 hO5.gr (by omega) (by omega)
        rw [show Gr.v ⟨A5, x.n, c5, t5⟩ = .slice A5 x.n c5 from rfl, show Gr.g ⟨A5, x.n, c5, t5⟩ = wout x.g i from hg5, HE1.out, F1.out] at hc
        refine hc.mono ?_
        rintro e q1_2 ⟨rfl, hb⟩
        have b2 : Below v2.heap.size v2 q1_2 := b1.trans (hb.mono b1.size)
        go_wp2_with fail
        refine hK _ _ (hS _ b2) ?_
        clear hK K hc hb
        try simp only [Act.put, List.setIfInBounds_toArray, List.set_cons_zero, List.set_cons_succ]
        repeat (first | (refine ordS (by rfl) ?_; simp only [Act.put, List.setIfInBounds_toArray, List.set_cons_zero, List.set_cons_succ]) | (refine ordN (by rfl) ?_; simp only [Act.put, List.setIfInBounds_toArray, List.set_cons_zero, List.set_cons_succ]) | (refine ordQ (v := ?_) (by rfl) (fun _ hSw => ?_) ?_; rotate_left; (focus ((have hS1 := hSw.1); (have hS2 := hSw.2); clear hSw; go_simp; (first | done | with_reducible rfl))); simp only [Act.put, List.setIfInBounds_toArray, List.set_cons_zero, List.set_cons_succ]))
        refine ordE ?_
        replace hx := hx.below b2
        replace bg := bg.below b2
        replace hB := hB.trans (b2.mono hB.size)
        clear hS b0 b1 b2
        clear hO5 hg5
        clear eg0 eg1
        have eg0 := bg.c0
        have eg1 := bg.c1
        have hS : ∀ w', Below q1_2.heap.size q1_2 w' → w'.cell? ⟨w.heap.size, 0, none⟩ = some (.slice x.A x.n x.c) ∧ w'.cell? ⟨w.heap.size, 1, none⟩ = some (.int .i64 (M : Int)) := fun w' hb => ⟨(bg.below hb).c0, (bg.below hb).c1⟩
        go_wp2_with fail
        refine wp_region_ord (S := fun w' => w'.cell? ⟨w.heap.size, 0, none⟩ = some (.slice x.A x.n x.c) ∧ w'.cell? ⟨w.heap.size, 1, none⟩ = some (.int .i64 (M : Int))) [(0, true), (1, true), (2, true), (4, true), (5, true), (3, false), (6, false), (7, true), (8, true), (9, true), (10, true), (11, true)] default (by kernel_rfl) (by kernel_rfl) (by kernel_rfl) (hS _ ((Below.refl _ q1_2).drew)) ?_
        simp only [getOrd, nth]
        obtain ⟨q2_0, hu0⟩ : ∃ q2_0, q2_0 = q1_2.drew := ⟨_, rfl⟩
        have b0 : Below q1_2.heap.size q1_2 q2_0 := by rw [hu0]; exact ((Below.refl _ q1_2).drew)
        rw [← hu0]
        clear hu0
        repeat (first | (refine ordS (by rfl) ?_; simp only [Act.put, List.setIfInBounds_toArray, List.set_cons_zero, List.set_cons_succ]) | (refine ordN (by rfl) ?_; simp only [Act.put, List.setIfInBounds_toArray, List.set_cons_zero, List.set_cons_succ]) | (refine ordQ (v := ?_) (by rfl) (fun _ hSw => ?_) ?_; rotate_left; (focus ((have hS1 := hSw.1); (have hS2 := hSw.2); clear hSw; go_simp; (first | done | with_reducible rfl))); simp only [Act.put, List.setIfInBounds_toArray, List.set_cons_zero, List.set_cons_succ]))
        refine ordD (by rfl) ?_
        intro K hK
        go_simp
        have hc := wwithout_any x k q2_0 (hx.below b0) hkn hx8 (fun u hu => by have := HRW.out u hu; omega)
        refine hc.mono ?_
        rintro e q2_1 ⟨A6, c6, t6, rfl, hO6, hg6, hb⟩
        have b1 : Below q1_2.heap.size q1_2 q2_1 := b0.trans (hb.mono b0.size)
        go_wp2_with fail
        refine hK _ _ (hS _ b1) ?_
        clear hK K hc hb
        try simp only [Act.put, List.setIfInBounds_toArray, List.set_cons_zero, List.set_cons_succ]
        repeat (first | (refine ordS (by rfl) ?_; simp only [Act.put, List.setIfInBounds_toArray, List.set_cons_zero, List.set_cons_succ]) | (refine ordN (by rfl) ?_; simp only [Act.put, List.setIfInBounds_toArray, List.set_cons_zero, List.set_cons_succ]) | (refine ordQ (v := ?_) (by rfl) (fun _ hSw => ?_) ?_; rotate_left; (focus ((have hS1 := hSw.1); (have hS2 := hSw.2); clear hSw; go_simp; (first | done | with_reducible rfl))); simp only [Act.put, List.setIfInBounds_toArray, List.set_cons_zero, List.set_cons_succ]))
        refine ordD (by rfl) ?_
        intro K hK
        go_simp
        have hc := pbestC ⟨A6, x.n, c6, t6⟩ M q2_1 hO6.gr (by omega) (by omega)
        rw [show Gr.v ⟨A6, x.n, c6, t6⟩ = .slice A6 x.n c6 from rfl, show Gr.g ⟨A6, x.n, c6, t6⟩ = wout x.g k from hg6, HE2.out, F2.out] at hc
        refine hc.mono ?_
        rintro e q2_2 ⟨rfl, hb⟩
        have b2 : Below q1_2.heap.size q1_2 q2_2 := b1.trans (hb.mono b1.size)
        go_wp2_with fail
        refine hK _ _ (hS _ b2) ?_
        clear hK K hc hb
        try simp only [Act.put, List.setIfInBounds_toArray, List.set_cons_zero, List.set_cons_succ]
        repeat (first | (refine ordS (by rfl) ?_; simp only [Act.put, List.setIfInBounds_toArray, List.set_cons_zero, List.set_cons_succ]) | (refine ordN (by rfl) ?_; simp only [Act.put, List.setIfInBounds_toArray, List.set_cons_zero, List.set_cons_succ]) | (refine ordQ (v := ?_) (by rfl) (fun _ hSw => ?_) ?_; rotate_left; (focus ((have hS1 := hSw.1); (have hS2 := hSw.2); clear hSw; go_simp; (first | done | with_reducible rfl))); simp only [Act.put, List.setIfInBounds_toArray, List.set_cons_zero, List.set_cons_succ]))
        refine ordE ?_
        replace hx := hx.below b2
        replace bg := bg.below b2
        replace hB := hB.trans (b2.mono hB.size)
        clear hS b0 b1 b2
        clear hO6 hg6
        clear eg0 eg1
        have eg0 := bg.c0
        have eg1 := bg.c1
        have hS : ∀ w', Below q2_2.heap.size q2_2 w' → w'.cell? ⟨w.heap.size, 0, none⟩ = some (.slice x.A x.n x.c) ∧ w'.cell? ⟨w.heap.size, 1, none⟩ = some (.int .i64 (M : Int)) := fun w' hb => ⟨(bg.below hb).c0, (bg.below hb).c1⟩
        go_wp2_with fail
        refine wp_region_ord (S := fun w' => w'.cell? ⟨w.heap.size, 0, none⟩ = some (.slice x.A x.n x.c) ∧ w'.cell? ⟨w.heap.size, 1, none⟩ = some (.int .i64 (M : Int))) [(0, true), (1, true), (2, true), (4, true), (6, true), (7, true), (3, false), (5, false), (8, false), (9, true), (10, true), (11, true), (12, true), (13, true)] default (by kernel_rfl) (by kernel_rfl) (by kernel_rfl) (hS _ ((Below.refl _ q2_2).drew)) ?_
        simp only [getOrd, nth]
        obtain ⟨q3_0, hu0⟩ : ∃ q3_0, q3_0 = q2_2.drew := ⟨_, rfl⟩
        have b0 : Below q2_2.heap.size q2_2 q3_0 := by rw [hu0]; exact ((Below.refl _ q2_2).drew)
        rw [← hu0]
        clear hu0
        repeat (first | (refine ordS (by rfl) ?_; simp only [Act.put, List.setIfInBounds_toArray, List.set_cons_zero, List.set_cons_succ]) | (refine ordN (by rfl) ?_; simp only [Act.put, List.setIfInBounds_toArray, List.set_cons_zero, List.set_cons_succ]) | (refine ordQ (v := ?_) (by rfl) (fun _ hSw => ?_) ?_; rotate_left; (focus ((have hS1 := hSw.1); (have hS2 := hSw.2); clear hSw; go_simp; (first | done | with_reducible rfl))); simp only [Act.put, List.setIfInBounds_toArray, List.set_cons_zero, List.set_cons_succ]))
        refine ordD (by rfl) ?_
        intro K hK
        go_simp
        have hc := wwithout_any x k q3_0 (hx.below b0) hkn hx8 (fun u hu => by have := HRW.out u hu; omega)
        refine hc.mono ?_
        rintro e q3_1 ⟨A7, c7, t7, rfl, hO7, hg7, hb⟩
        have b1 : Below q2_2.heap.size q2_2 q3_1 := b0.trans (hb.mono b0.size)
        go_wp2_with fail
        refine hK _ _ (hS _ b1) ?_
        clear hK K hc hb
        try simp only [Act.put, List.setIfInBounds_toArray, List.set_cons_zero, List.set_cons_succ]
        repeat (first | (refine ordS (by rfl) ?_; simp only [Act.put, List.setIfInBounds_toArray, List.set_cons_zero, List.set_cons_succ]) | (refine ordN (by rfl) ?_; simp only [Act.put, List.setIfInBounds_toArray, List.set_cons_zero, List.set_cons_succ]) | (refine ordQ (v := ?_) (by rfl) (fun _ hSw => ?_) ?_; rotate_left; (focus ((have hS1 := hSw.1); (have hS2 := hSw.2); clear hSw; go_simp; (first | done | with_reducible rfl))); simp only [Act.put, List.setIfInBounds_toArray, List.set_cons_zero, List.set_cons_succ]))
        refine ordD (by rfl) ?_
        intro K hK
        go_simp
        have hc := wwithout_any ⟨A7, x.n, c7, t7⟩ i q3_1 hO7.gr hin hx8 (rows_le MK.out hO7 hg7)
        rw [show Gr.g ⟨A7, x.n, c7, t7⟩ = wout x.g k from hg7] at hc
        refine hc.mono ?_
        rintro e q3_2 ⟨A8, c8, t8, rfl, hO8, hg8, hb⟩
        have b2 : Below q2_2.heap.size q2_2 q3_2 := b1.trans (hb.mono b1.size)
        go_wp2_with fail
        refine hK _ _ (hS _ b2) ?_
        clear hK K hc hb
        try simp only [Act.put, List.setIfInBounds_toArray, List.set_cons_zero, List.set_cons_succ]
        repeat (first | (refine ordS (by rfl) ?_; simp only [Act.put, List.setIfInBounds_toArray, List.set_cons_zero, List.set_cons_succ]) | (refine ordN (by rfl) ?_; simp only [Act.put, List.setIfInBounds_toArray, List.set_cons_zero, List.set_cons_succ]) | (refine ordQ (v := ?_) (by rfl) (fun _ hSw => ?_) ?_; rotate_left; (focus ((have hS1 := hSw.1); (have hS2 := hSw.2); clear hSw; go_simp; (first | done | with_reducible rfl))); simp only [Act.put, List.setIfInBounds_toArray, List.set_cons_zero, List.set_cons_succ]))
        refine ordD (by rfl) ?_
        intro K hK
        go_simp
        have hc := pbestC ⟨A8, x.n, c8, t8⟩ M q3_2 hO8.gr (by omega) (by omega)
        rw [show Gr.v ⟨A8, x.n, c8, t8⟩ = .slice A8 x.n c8 from rfl, show Gr.g ⟨A8, x.n, c8, t8⟩ = wout (wout x.g k) i from hg8, HE3.out, F3.out] at hc
        refine hc.mono ?_
        rintro e q3_3 ⟨rfl, hb⟩
        have b3 : Below q2_2.heap.size q2_2 q3_3 := b2.trans (hb.mono b2.size)
        go_wp2_with fail
        refine hK _ _ (hS _ b3) ?_
        clear hK K hc hb
        try simp only [Act.put, List.setIfInBounds_toArray, List.set_cons_zero, List.set_cons_succ]
        repeat (first | (refine ordS (by rfl) ?_; simp only [Act.put, List.setIfInBounds_toArray, List.set_cons_zero, List.set_cons_succ]) | (refine ordN (by rfl) ?_; simp only [Act.put, List.setIfInBounds_toArray, List.set_cons_zero, List.set_cons_succ]) | (refine ordQ (v := ?_) (by rfl) (fun _ hSw => ?_) ?_; rotate_left; (focus ((have hS1 := hSw.1); (have hS2 := hSw.2); clear hSw; go_simp; (first | done | with_reducible rfl))); simp only [Act.put, List.setIfInBounds_toArray, List.set_cons_zero, List.set_cons_succ]))
        refine ordE ?_
        replace hx := hx.below b3
        replace bg := bg.below b3
        replace hB := hB.trans (b3.mono hB.size)
        clear hS b0 b1 b2 b3
        clear hO7 hg7 hO8 hg8 eg0 eg1
        have eg0 := bg.c0
        have eg1 := bg.c1
        have hc := alive10_any q3_3
        go_wp2_with fail
        clear eg0 eg1
        refine hc.mono ?_
        rintro e v3 ⟨rfl, hb⟩
        clear hc
        replace hx := hx.below hb
        replace bg := bg.below hb
        replace hB := hB.trans (hb.mono hB.size)
        clear hb
        have eg0 := bg.c0
        have eg1 := bg.c1
        go_wp2
        go_ret
        exact ⟨rfl, hB⟩

theorem own : ownKnob Try.prog.godebug = none := by kernel_rfl
theorem laidOut : laidOutB Try.prog = true := by kernel_rfl

set_option maxRecDepth 100000 in
theorem lifted (os : Os) (started : os.Started) (H : Type) (enc : TypeId × Value → H) :
    ReturnsInHanded {} Try.checked os 10 .any (Rows.weightsFewerSpec.pre6 enc Try.prog Try.f10 Rows.weightsFewerRow.domain false) (Rows.weightsFewerSpec.post enc Try.prog Try.f10 false true false false) := by
  refine returnsInHanded_of_change (C := Try.checked) own started (by kernel_rfl) Try.func10
    (ChangeSpec.witness6 (enc := enc) (C := Try.checked) false ⟨#[], #[.agg #[.slice none 0 0, .int .i64 0], .int .u8 0, .int .u8 0], []⟩ 8 (by kernel_rfl) (by kernel_rfl) (by kernel_rfl) (by kernel_rfl)) ?_
  intro W base args ds gs before hval0 hW hcnd _
  have hval : ∀ (j : Nat) t v, Try.f10.params[j]? = some t → args[j]? = some v → Value.okWide Try.prog W .any base t v := hval0
  have hW' := hW
  obtain ⟨p, q, hA0, hV, rfl, hfz, hnd⟩ := hW
  have hA : DataW.TrodAll enc Try.prog W 0 (fun _ => true) true Try.f10.params.toList args.toList ds p := hA0
  rw [Try.params10] at hA hval
  obtain ⟨v0, vs0, d0, ds0, p0, q0, hargs, rfl, rfl, h0, r0⟩ := trodAll_cons hA
  obtain ⟨v1, vs1, d1, ds1, p1, q1, rfl, rfl, rfl, h1, r1⟩ := trodAll_cons r0
  obtain ⟨v2, vs2, d2, ds2, p2, q2, rfl, rfl, rfl, h2, r2⟩ := trodAll_cons r1
  obtain ⟨rfl, rfl, rfl⟩ := trodAll_nil r2
  obtain rfl : args = #[v0, v1, v2] := by cases args; simp_all
  obtain ⟨u0, m0, rfl, k0, a0, b0⟩ := arg_gr Try.underlying24 (by kernel_rfl) (by kernel_rfl) Try.underlying22 Try.underlying3 Try.underlying28 (by kernel_rfl) Try.underlying3 (by kernel_rfl) (hval 0 24 v0 rfl rfl) h0
  obtain ⟨x1, rfl, rfl, rfl, w1⟩ := open_int Try.underlying5 (hval 1 5 v1 rfl rfl) h1
  obtain ⟨y1, rfl, z1⟩ := fit_u8 w1
  obtain ⟨x2, rfl, rfl, rfl, w2⟩ := open_int Try.underlying5 (hval 2 5 v2 rfl rfl) h2
  obtain ⟨y2, rfl, z2⟩ := fit_u8 w2
  have hwalk : Calls Try.prog 10 #[.agg #[u0.v, .int .i64 m0], .int .u8 y1, .int .u8 y2] W fun e w' => e = .returned (.bool true) ∧ Below W.heap.size W w' := walk u0 m0 y1 y2 W k0 a0 b0 z1 z2
  refine hwalk.mono fun e W' ⟨he, hg⟩ => ?_
  subst he
  exact ⟨_, rfl, law_post laidOut (by kernel_rfl) hW' rfl rfl (by kernel_rfl) Try.underlying4 hg⟩

theorem over : Rows.weightsFewerRow.holds Try.pinned (OpenSpec.ofChange Rows.weightsFewerSpec) :=
  OpenClaim.holds_of_wide 10 Try.f10 rfl rfl rfl rfl rfl rfl rfl ⟨rfl, rfl, rfl, rfl, rfl⟩ rfl rfl rfl rfl rfl (by kernel_rfl) Try.func10 (by kernel_rfl)
    (of_decide_eq_true (by kernel_rfl)) (by unfold Func.isWrapper; first | (rw [if_pos (by decide +kernel)]; kernel_rfl) | (rw [if_neg (by decide +kernel)]; exact ⟨rfl, rfl⟩))
    (fun os started H enc _ => lifted os started H enc)

theorem proved : Rows.WeightsFewerSaid :=
  over

end Go.Proofs.Ytiaoplghaigclaa.weightsFewer
