/-
  Proved: salesroomlaw08.MatchingsMost answers true, for any lists, any items, in whatever memory. No conditions.
-/
import Derived.Test.YtcjfgkihmhdhlaaRows
import Derived.Test.YtcjfgkihmhdhlaaLift
import Derived.Test.YtcjfgkihmhdhlaaAlive8
import Derived.Test.YtcjfgkihmhdhlaaGrM
import Derived.Test.YtcjfgkihmhdhlaaMaP
import Derived.Test.YtcjfgkihmhdhlaaReg
namespace Go.Proofs.Ytcjfgkihmhdhlaa.matchingsMost
open Go.ChangeShapes Go.WideShapes Go.ChangeAt Go.RowKit
set_option linter.unusedVariables false

theorem max1 {s s' : Nat} (h : s ≤ s') : (if s < s' then (s' : Int) else (s : Int)) = s' := by split <;> omega
/-- The most by which one of the first parts is more than what is near to it. -/
def ShortTo (g : List (List Int)) (m n p s : Nat) : Prop := (∀ q, q < p → (partL n q).length ≤ s + (nearG g m (partL n q)).length) ∧ (s = 0 ∨ ∃ q, q < p ∧ (partL n q).length = s + (nearG g m (partL n q)).length)
theorem short_zero (g : List (List Int)) (m n : Nat) : ShortTo g m n 0 0 := ⟨fun q hq => absurd hq (by omega), .inl rfl⟩
theorem short_keep {g : List (List Int)} {m n p s : Nat} (h : ShortTo g m n p s) (h2 : (partL n p).length ≤ s + (nearG g m (partL n p)).length) : ShortTo g m n (p + 1) s := by
  refine ⟨fun q hq => ?_, h.2.imp id fun ⟨q, h3, h4⟩ => ⟨q, by omega, h4⟩⟩
  by_cases he : q = p
  · rw [he]; exact h2
  · exact h.1 q (by omega)
theorem short_more {g : List (List Int)} {m n p s s' : Nat} (h : ShortTo g m n p s) (h2 : (partL n p).length = s' + (nearG g m (partL n p)).length) (h3 : s ≤ s') : ShortTo g m n (p + 1) s' := by
  refine ⟨fun q hq => ?_, .inr ⟨p, by omega, h2⟩⟩
  by_cases he : q = p
  · rw [he]; omega
  · have := h.1 q (by omega); omega
theorem short_end {g : List (List Int)} {m s : Nat} (hc : checkG g m = true) (h : ShortTo g m g.length (2 ^ g.length) s) : manyG (mostP g m) + s = g.length := by
  obtain ⟨h1, t, ht, he⟩ := most_hall hc
  obtain ⟨p, hp, rfl⟩ := part_of ht
  have h2 := h.1 p hp
  have h5 := many_le (mostP g m)
  rw [most_len hc] at h5
  rcases h.2 with h3 | ⟨q, hq, h4⟩
  · omega
  · have h6 := h1 (partL g.length q) (upto_rises _ _)
    omega
theorem part_len (n p : Nat) : (partL n p).length ≤ n := upto_len _ _
theorem near_len (g : List (List Int)) (m : Nat) (s : List Int) : (nearG g m s).length ≤ m := upto_len _ _

set_option maxRecDepth 100000 in
set_option maxHeartbeats 4000000 in
theorem walk (x : Gr) (m : Int) (w : World) (h : x.Ok w) (hm1 : -9223372036854775808 ≤ m) (hm2 : m ≤ 9223372036854775807) :
    Calls Try.prog 3 #[.agg #[x.v, .int .i64 m]] w fun e w' => e = .returned (.bool true) ∧ Below w.heap.size w w' := by
  have hx := h
  have hB := Below.refl w.heap.size w
  have hxv : x.v = .slice x.A x.n x.c := rfl
  have Vx := Lib.hid hxv
  rw [hxv]
  have hgl := h.glen
  have HGL := Lib.hid hgl
  have htop := Nat.le_trans h.cap h.top
  unfold maxLen at htop
  obtain ⟨B, hB0⟩ : ∃ B, checkG x.g m = B := ⟨_, rfl⟩
  clear hxv hgl h
  go_enter Try.func3, Try.ntmps3
  have bg := GBox.new w x m
  have hbx : Below w.heap.size w (w.alloc (.cells #[.slice x.A x.n x.c, .int .i64 m] 24)) := (Below.refl _ w).alloc (Nat.le_refl _) _
  replace hx := hx.below hbx
  replace hB := hB.trans (hbx.mono hB.size)
  clear hbx
  cases B
  · obtain ⟨e1, e2⟩ := most_bad hB0
    have E1 := Lib.hid e1
    have E2 := Lib.hid e2
    have HC := Lib.hid hB0
    clear e1 e2 hB0
    have eg0 := bg.c0
    have eg1 := bg.c1
    have hc := pmostC x m (w.alloc (.cells #[.slice x.A x.n x.c, .int .i64 m] 24)) hx hm1 hm2
    rw [Vx.out, E1.out, E2.out] at hc
    go_wp2_with fail
    clear eg0 eg1
    generalize w.alloc (.cells #[.slice x.A x.n x.c, .int .i64 m] 24) = W1 at *
    refine hc.mono ?_
    rintro e v2 ⟨A2, n2, c2, rfl, h2, hb⟩
    clear hc
    replace hx := hx.below hb
    replace bg := bg.below hb
    replace hB := hB.trans (hb.mono hB.size)
    clear hb
    clear h2
    have eg0 := bg.c0
    have eg1 := bg.c1
    have hc := alive8_any v2
    go_wp2_with fail
    clear eg0 eg1
    refine hc.mono ?_
    rintro e v3 ⟨rfl, hb⟩
    clear hc
    replace hx := hx.below hb
    replace bg := bg.below hb
    replace hB := hB.trans (hb.mono hB.size)
    clear hb
    have eg0 := bg.c0
    have eg1 := bg.c1
    have hc := gcheckC x m v3 hx hm1 hm2
    rw [Vx.out, HC.out] at hc
    go_wp2_with fail
    clear eg0 eg1
    refine hc.mono ?_
    rintro e v4 ⟨rfl, hb⟩
    clear hc
    replace hx := hx.below hb
    replace bg := bg.below hb
    replace hB := hB.trans (hb.mono hB.size)
    clear hb
    have eg0 := bg.c0
    have eg1 := bg.c1
    go_wp2
    go_ret
    exact ⟨rfl, hB⟩
  · obtain ⟨M, rfl⟩ : ∃ M : Nat, m = M := ⟨m.toNat, by have := (checkG_iff.1 hB0).1; omega⟩
    obtain ⟨e1, e2⟩ := most_ok hB0
    have E1 := Lib.hid e1
    have E2 := Lib.hid e2
    have HC := Lib.hid hB0
    have hM8 : M ≤ 8 := by have := (checkG_iff.1 HC.out).2.1; omega
    have hx8 : x.n ≤ 8 := by have := (checkG_iff.1 HC.out).2.2.1; rw [HGL.out] at this; exact this
    clear e1 e2 hB0 hm1 hm2
    have hfl := most_fits HC.out
    have hll : (mostP x.g M).length = x.n := by rw [most_len HC.out, HGL.out]
    have hend : ∀ s, ShortTo x.g M x.n (2 ^ x.n) s → manyG (mostP x.g M) + s = x.n := fun s hs => by
      have := short_end HC.out (s := s) (by rw [HGL.out]; exact hs)
      rwa [HGL.out] at this
    generalize mostP x.g M = l at *
    have HFL := Lib.hid hfl
    have HLL := Lib.hid hll
    have HEND := Lib.hid hend
    have hno : Hid (∀ p, nearErr x.g M (partL x.n p) = 0 ∧ nearE x.g M (partL x.n p) = nearG x.g M (partL x.n p)) := Lib.hid (fun p => by
      have h1 : nearOk x.g M (partL x.n p) = true := nearOk_of HC.out (by rw [HGL.out]; exact upto_rises _ _)
      exact ⟨near_err h1, near_ans h1⟩)
    clear hfl hll hend
    have eg0 := bg.c0
    have eg1 := bg.c1
    have hc := pmostC x M (w.alloc (.cells #[.slice x.A x.n x.c, .int .i64 (M : Int)] 24)) hx (by omega) (by omega)
    rw [Vx.out, E1.out, E2.out] at hc
    go_wp2_with fail
    clear eg0 eg1
    generalize w.alloc (.cells #[.slice x.A x.n x.c, .int .i64 (M : Int)] 24) = W1 at *
    refine hc.mono ?_
    rintro e v2 ⟨A2, n2, c2, rfl, h2, hb⟩
    clear hc
    replace hx := hx.below hb
    replace bg := bg.below hb
    replace hB := hB.trans (hb.mono hB.size)
    clear hb
    obtain rfl : n2 = x.n := by have := h2.len; rw [← HLL.out]; exact this.symm
    have eg0 := bg.c0
    have eg1 := bg.c1
    have hc := parts_any x.n v2 hx8
    go_wp2_with fail
    clear eg0 eg1
    refine hc.mono ?_
    rintro e v3 ⟨A3, n3, c3, rfl, t, h3, h3q, hb⟩
    clear hc
    replace hx := hx.below hb
    replace h2 := h2.below hb
    replace bg := bg.below hb
    replace hB := hB.trans (hb.mono hB.size)
    clear hb
    obtain rfl : n3 = 2 ^ x.n := by have := outs_zs h3 h3q; rw [partsL_len] at this; exact this
    have HQ := Lib.hid h3q
    clear h3q
    obtain ⟨N, hN⟩ : ∃ N, 2 ^ x.n = N := ⟨_, rfl⟩
    have hN8 : N ≤ 256 := by rw [← hN]; exact Nat.pow_le_pow_right (by omega) hx8
    rw [hN] at h3 HQ HEND ⊢
    clear hN
    have eg0 := bg.c0
    have eg1 := bg.c1
    go_wp2_with fail
    clear eg0 eg1
    go_loopw [5, 7] (fun o v wr => ∃ (s p : Nat), p ≤ N ∧ s ≤ 8 ∧ o = .int .i64 s ∧ v = .int .i64 p ∧ Hid (ShortTo x.g M x.n p s) ∧ Below v3.heap.size v3 wr) (fun _ v _ => N - (intOf v).toNat)
    case atStart => exact ⟨0, 0, Nat.zero_le _, by omega, rfl, rfl, Lib.hid (short_zero _ _ _), Below.refl _ _⟩
    case round =>
      obtain ⟨s, p, hp, hs8, rfl, rfl, hsh, hbel⟩ := hrel
      have hBr := hB.trans (hbel.mono hB.size)
      have hxr := hx.below hbel
      have bgr := bg.below hbel
      by_cases hpN : p < N
      · have hpN' : (p : Int) < N := by omega
        have h3r := h3.below hbel
        have hB := hBr
        obtain ⟨p1, q1, u, hA, hgu, hp1, hcu, hku⟩ := gr_get h3r.gr HQ.out hpN
        have hpl : u.zs = partL x.n p := by
          rw [← hgu, partsL, List.getD_eq_getElem?_getD, List.getElem?_map, List.getElem?_range hpN]; rfl
        subst hA
        have hku0 := hku
        obtain ⟨uA, un, uc, ul⟩ := u
        simp only at hpl hcu
        subst hpl
        have hun : un = (partL x.n p).length := hku.len.symm
        subst hun
        have hpl8 := part_len x.n p
        have hnl8 := near_len x.g M (partL x.n p)
        have hS : ∀ w', Below wr.heap.size wr w' → w'.cell? ⟨w.heap.size, 0, none⟩ = some (.slice x.A x.n x.c) ∧ w'.cell? ⟨w.heap.size, 1, none⟩ = some (.int .i64 (M : Int)) ∧ w'.cell? ⟨p1, q1 + p, none⟩ = some (.slice uA (partL x.n p).length uc) := fun w' hb => ⟨(bgr.below hb).c0, (bgr.below hb).c1, (hb.cell (p := ⟨p1, q1 + p, none⟩) hp1).trans hcu⟩
        go_wp2_with fail
        refine wp_region_ord (S := fun w' => w'.cell? ⟨w.heap.size, 0, none⟩ = some (.slice x.A x.n x.c) ∧ w'.cell? ⟨w.heap.size, 1, none⟩ = some (.int .i64 (M : Int)) ∧ w'.cell? ⟨p1, q1 + p, none⟩ = some (.slice uA (partL x.n p).length uc)) [(0, true), (1, true), (2, true), (3, true), (4, true), (5, true), (6, true), (7, true), (8, false), (9, true), (10, true), (11, true), (12, true), (13, true)] default (by kernel_rfl) (by kernel_rfl) (by kernel_rfl) (hS _ ((Below.refl _ wr).drew)) ?_
        simp only [getOrd, nth]
        obtain ⟨q1_0, hu0⟩ : ∃ q1_0, q1_0 = wr.drew := ⟨_, rfl⟩
        have b0 : Below wr.heap.size wr q1_0 := by rw [hu0]; exact ((Below.refl _ wr).drew)
        rw [← hu0]
        clear hu0
        repeat (first | (refine ordS (by rfl) ?_; simp only [Act.put, List.setIfInBounds_toArray, List.set_cons_zero, List.set_cons_succ]) | (refine ordN (by rfl) ?_; simp only [Act.put, List.setIfInBounds_toArray, List.set_cons_zero, List.set_cons_succ]) | (refine ordQ (v := ?_) (by rfl) (fun _ hSw => ?_) ?_; rotate_left; (focus ((have hS1 := hSw.1); (have hS2 := hSw.2.1); (have hS3 := hSw.2.2); clear hSw; go_simp; (first | done | with_reducible rfl))); simp only [Act.put, List.setIfInBounds_toArray, List.set_cons_zero, List.set_cons_succ]))
        refine ordD (by rfl) ?_
        intro K hK
        go_simp
        have hc := gnearC x M ⟨uA, (partL x.n p).length, uc, partL x.n p⟩ q1_0 (hxr.below b0) (hku.below b0) (by omega) (by omega)
        rw [Vx.out, (hno.out p).1, (hno.out p).2] at hc
        refine hc.mono ?_
        rintro e q1_1 ⟨A5, n5, c5, rfl, h5, hb⟩
        have b1 : Below wr.heap.size wr q1_1 := b0.trans (hb.mono b0.size)
        have hn5 : n5 = (nearG x.g M (partL x.n p)).length := h5.len.symm
        subst hn5
        clear h5
        go_wp2_with fail
        refine hK _ _ (hS _ b1) ?_
        clear hK K hc hb
        try simp only [Act.put, List.setIfInBounds_toArray, List.set_cons_zero, List.set_cons_succ]
        repeat (first | (refine ordS (by rfl) ?_; simp only [Act.put, List.setIfInBounds_toArray, List.set_cons_zero, List.set_cons_succ]) | (refine ordN (by rfl) ?_; simp only [Act.put, List.setIfInBounds_toArray, List.set_cons_zero, List.set_cons_succ]) | (refine ordQ (v := ?_) (by rfl) (fun _ hSw => ?_) ?_; rotate_left; (focus ((have hS1 := hSw.1); (have hS2 := hSw.2.1); (have hS3 := hSw.2.2); clear hSw; go_simp; (first | done | with_reducible rfl))); simp only [Act.put, List.setIfInBounds_toArray, List.set_cons_zero, List.set_cons_succ]))
        have bR := b1
        have hcu1 := (b1.cell (p := ⟨p1, q1 + p, none⟩) hp1).trans hcu
        refine ordE ?_
        replace hxr := hxr.below b1
        replace h3r := h3r.below b1
        replace hku := hku.below b1
        replace bgr := bgr.below b1
        replace hB := hB.trans (b1.mono hB.size)
        clear hS b0 b1
        have HSH := hsh
        obtain ⟨a, ha⟩ : ∃ a, (partL x.n p).length = a := ⟨_, rfl⟩
        obtain ⟨d, hd⟩ : ∃ d, (nearG x.g M (partL x.n p)).length = d := ⟨_, rfl⟩
        rw [ha] at hcu1 hpl8
        rw [hd] at hnl8
        rw [ha, hd]
        have hnew : Hid (∀ s', (s' = s ∧ a ≤ s + d) ∨ (a = s' + d ∧ s ≤ s') → ShortTo x.g M x.n (p + 1) s') := Lib.hid (fun s' h => by
          rcases h with ⟨rfl, h⟩ | ⟨h, h'⟩
          · exact short_keep HSH.out (by rw [ha, hd]; exact h)
          · exact short_more HSH.out (by rw [ha, hd]; exact h) h')
        have s1 : IntKind.i64.wrap ((a : Int) - (d : Int)) = (a : Int) - (d : Int) := by rw [IntKind.wrap_i64]; omega
        clear ha hd hku hku0 hsh HSH hcu hgu h3r hxr hp1 hBr
        by_cases hmx : (s : Int) ≤ (a : Int) - (d : Int)
        · obtain ⟨s', hs'⟩ : ∃ s' : Nat, (a : Int) - (d : Int) = s' := ⟨a - d, by omega⟩
          have HN := Lib.hid (hnew.out s' (.inr ⟨by omega, by omega⟩))
          have hs8' : s' ≤ 8 := by omega
          clear hnew
          go_wp2
          go_roundw
          case rel => exact ⟨s', p + 1, by omega, hs8', by rw [max1 (by omega)], by go_num, HN, hbel.trans (bR.mono hbel.size)⟩
          case measure => simp [intOf]; omega
        · have HN := Lib.hid (hnew.out s (.inl ⟨rfl, by omega⟩))
          clear hnew
          go_wp2
          go_roundw
          case rel => exact ⟨s, p + 1, by omega, hs8, rfl, by go_num, HN, hbel.trans (bR.mono hbel.size)⟩
          case measure => simp [intOf]; omega
      · obtain rfl : p = N := by omega
        have hm := HEND.out s hsh.out
        obtain ⟨k, hk⟩ : ∃ k, manyG l = k := ⟨_, rfl⟩
        rw [hk] at hm
        have HK := Lib.hid hk
        have h2r := h2.below hbel
        have hB := hBr
        have s1 : IntKind.i64.wrap ((x.n : Int) - (s : Int)) = (x.n : Int) - (s : Int) := by rw [IntKind.wrap_i64]; omega
        have s2 : ((k : Int) == (x.n : Int) - (s : Int)) = true := by rw [beq_iff_eq]; omega
        clear hsh hk hBr
        have hS : ∀ w', Below wr.heap.size wr w' → w'.cell? ⟨w.heap.size, 0, none⟩ = some (.slice x.A x.n x.c) ∧ w'.cell? ⟨w.heap.size, 1, none⟩ = some (.int .i64 (M : Int)) := fun w' hb => ⟨(bgr.below hb).c0, (bgr.below hb).c1⟩
        go_wp2_with fail
        refine wp_region_ord (S := fun w' => w'.cell? ⟨w.heap.size, 0, none⟩ = some (.slice x.A x.n x.c) ∧ w'.cell? ⟨w.heap.size, 1, none⟩ = some (.int .i64 (M : Int))) [(0, false), (1, true), (2, true), (3, true), (4, true), (5, true), (6, true), (7, false), (8, true), (9, true), (10, true), (12, true), (13, true), (14, true), (15, true), (16, true), (11, false), (17, true), (18, true), (19, true)] default (by kernel_rfl) (by kernel_rfl) (by kernel_rfl) (hS _ ((Below.refl _ wr).drew)) ?_
        simp only [getOrd, nth]
        obtain ⟨q2_0, hu0⟩ : ∃ q2_0, q2_0 = wr.drew := ⟨_, rfl⟩
        have b0 : Below wr.heap.size wr q2_0 := by rw [hu0]; exact ((Below.refl _ wr).drew)
        rw [← hu0]
        clear hu0
        repeat (first | (refine ordS (by rfl) ?_; simp only [Act.put, List.setIfInBounds_toArray, List.set_cons_zero, List.set_cons_succ]) | (refine ordN (by rfl) ?_; simp only [Act.put, List.setIfInBounds_toArray, List.set_cons_zero, List.set_cons_succ]) | (refine ordQ (v := ?_) (by rfl) (fun _ hSw => ?_) ?_; rotate_left; (focus ((have hS1 := hSw.1); (have hS2 := hSw.2); clear hSw; go_simp; (first | done | with_reducible rfl))); simp only [Act.put, List.setIfInBounds_toArray, List.set_cons_zero, List.set_cons_succ]))
        refine ordD (by rfl) ?_
        intro K hK
        go_simp
        have hc := alive8_any q2_0
        refine hc.mono ?_
        rintro e q2_1 ⟨rfl, hb⟩
        have b1 : Below wr.heap.size wr q2_1 := b0.trans (hb.mono b0.size)
        go_wp2_with fail
        refine hK _ _ (hS _ b1) ?_
        clear hK K hc hb
        try simp only [Act.put, List.setIfInBounds_toArray, List.set_cons_zero, List.set_cons_succ]
        repeat (first | (refine ordS (by rfl) ?_; simp only [Act.put, List.setIfInBounds_toArray, List.set_cons_zero, List.set_cons_succ]) | (refine ordN (by rfl) ?_; simp only [Act.put, List.setIfInBounds_toArray, List.set_cons_zero, List.set_cons_succ]) | (refine ordQ (v := ?_) (by rfl) (fun _ hSw => ?_) ?_; rotate_left; (focus ((have hS1 := hSw.1); (have hS2 := hSw.2); clear hSw; go_simp; (first | done | with_reducible rfl))); simp only [Act.put, List.setIfInBounds_toArray, List.set_cons_zero, List.set_cons_succ]))
        refine ordD (by rfl) ?_
        intro K hK
        go_simp
        have hc := gfitsC x M ⟨A2, x.n, c2, l⟩ q2_1 (hxr.below b1) (h2r.ok.below b1) (by omega) (by omega)
        rw [Vx.out, HFL.out] at hc
        refine hc.mono ?_
        rintro e q2_2 ⟨rfl, hb⟩
        have b2 : Below wr.heap.size wr q2_2 := b1.trans (hb.mono b1.size)
        go_wp2_with fail
        refine hK _ _ (hS _ b2) ?_
        clear hK K hc hb
        try simp only [Act.put, List.setIfInBounds_toArray, List.set_cons_zero, List.set_cons_succ]
        repeat (first | (refine ordS (by rfl) ?_; simp only [Act.put, List.setIfInBounds_toArray, List.set_cons_zero, List.set_cons_succ]) | (refine ordN (by rfl) ?_; simp only [Act.put, List.setIfInBounds_toArray, List.set_cons_zero, List.set_cons_succ]) | (refine ordQ (v := ?_) (by rfl) (fun _ hSw => ?_) ?_; rotate_left; (focus ((have hS1 := hSw.1); (have hS2 := hSw.2); clear hSw; go_simp; (first | done | with_reducible rfl))); simp only [Act.put, List.setIfInBounds_toArray, List.set_cons_zero, List.set_cons_succ]))
        refine ordD (by rfl) ?_
        intro K hK
        go_simp
        have hc := gmanyC ⟨A2, x.n, c2, l⟩ q2_2 (h2r.ok.below b2)
        rw [HK.out] at hc
        refine hc.mono ?_
        rintro e q2_3 ⟨rfl, hb⟩
        have b3 : Below wr.heap.size wr q2_3 := b2.trans (hb.mono b2.size)
        go_wp2_with fail
        refine hK _ _ (hS _ b3) ?_
        clear hK K hc hb
        try simp only [Act.put, List.setIfInBounds_toArray, List.set_cons_zero, List.set_cons_succ]
        repeat (first | (refine ordS (by rfl) ?_; simp only [Act.put, List.setIfInBounds_toArray, List.set_cons_zero, List.set_cons_succ]) | (refine ordN (by rfl) ?_; simp only [Act.put, List.setIfInBounds_toArray, List.set_cons_zero, List.set_cons_succ]) | (refine ordQ (v := ?_) (by rfl) (fun _ hSw => ?_) ?_; rotate_left; (focus ((have hS1 := hSw.1); (have hS2 := hSw.2); clear hSw; go_simp; (first | done | with_reducible rfl))); simp only [Act.put, List.setIfInBounds_toArray, List.set_cons_zero, List.set_cons_succ]))
        refine ordE ?_
        replace hxr := hxr.below b3
        replace h2r := h2r.below b3
        replace bgr := bgr.below b3
        replace hB := hB.trans (b3.mono hB.size)
        clear hS b0 b1 b2 b3
        go_wp2
        go_ret
        exact ⟨rfl, hB⟩

theorem own : ownKnob Try.prog.godebug = none := by kernel_rfl
theorem laidOut : laidOutB Try.prog = true := by kernel_rfl

set_option maxRecDepth 100000 in
theorem lifted (os : Os) (started : os.Started) (H : Type) (enc : TypeId × Value → H) :
    ReturnsInHanded {} Try.checked os 3 .any (Rows.matchingsMostSpec.pre6 enc Try.prog Try.f3 Rows.matchingsMostRow.domain false) (Rows.matchingsMostSpec.post enc Try.prog Try.f3 false true false false) := by
  refine returnsInHanded_of_change (C := Try.checked) own started (by kernel_rfl) Try.func3
    (ChangeSpec.witness6 (enc := enc) (C := Try.checked) false ⟨#[], #[.agg #[.slice none 0 0, .int .i64 0]], []⟩ 8 (by kernel_rfl) (by kernel_rfl) (by kernel_rfl) (by kernel_rfl)) ?_
  intro W base args ds gs before hval0 hW hcnd _
  have hval : ∀ (j : Nat) t v, Try.f3.params[j]? = some t → args[j]? = some v → Value.okWide Try.prog W .any base t v := hval0
  have hW' := hW
  obtain ⟨p, q, hA0, hV, rfl, hfz, hnd⟩ := hW
  have hA : DataW.TrodAll enc Try.prog W 0 (fun _ => true) true Try.f3.params.toList args.toList ds p := hA0
  rw [Try.params3] at hA hval
  obtain ⟨v0, vs0, d0, ds0, p0, q0, hargs, rfl, rfl, h0, r0⟩ := trodAll_cons hA
  obtain ⟨rfl, rfl, rfl⟩ := trodAll_nil r0
  obtain rfl : args = #[v0] := by cases args; simp_all
  obtain ⟨u0, m0, rfl, k0, a0, b0⟩ := arg_gr Try.underlying24 (by kernel_rfl) (by kernel_rfl) Try.underlying22 Try.underlying3 Try.underlying25 (by kernel_rfl) Try.underlying3 (by kernel_rfl) (hval 0 24 v0 rfl rfl) h0
  have hwalk : Calls Try.prog 3 #[.agg #[u0.v, .int .i64 m0]] W fun e w' => e = .returned (.bool true) ∧ Below W.heap.size W w' := walk u0 m0 W k0 a0 b0
  refine hwalk.mono fun e W' ⟨he, hg⟩ => ?_
  subst he
  exact ⟨_, rfl, law_post laidOut (by kernel_rfl) hW' rfl rfl (by kernel_rfl) Try.underlying4 hg⟩

theorem over : Rows.matchingsMostRow.holds Try.pinned (OpenSpec.ofChange Rows.matchingsMostSpec) :=
  OpenClaim.holds_of_wide 3 Try.f3 rfl rfl rfl rfl rfl rfl rfl ⟨rfl, rfl, rfl, rfl, rfl⟩ rfl rfl rfl rfl rfl (by kernel_rfl) Try.func3 (by kernel_rfl)
    (of_decide_eq_true (by kernel_rfl)) (by unfold Func.isWrapper; first | (rw [if_pos (by decide +kernel)]; kernel_rfl) | (rw [if_neg (by decide +kernel)]; exact ⟨rfl, rfl⟩))
    (fun os started H enc _ => lifted os started H enc)

theorem proved : Rows.MatchingsMostSaid :=
  over

end Go.Proofs.Ytcjfgkihmhdhlaa.matchingsMost
