/-
  Proved: What an item costs above its reserve is what one more of it would gain (any market, which item).
-/
import Derived.Test.YtdckoaljcklmhaaRows
import Derived.Test.YtdckoaljcklmhaaLift
import Derived.Test.YtdckoaljcklmhaaAlive13
import Derived.Test.YtdckoaljcklmhaaZeros
import Derived.Test.YtdckoaljcklmhaaRiM
import Derived.Test.YtdckoaljcklmhaaReg2
namespace Go.Proofs.Ytdckoaljcklmhaa.risesMore
open Go.ChangeShapes Go.WideShapes Go.ChangeAt Go.RowKit
set_option linter.unusedVariables false

theorem info6_int : (Try.prog.info? 3).map (fun i => (i.zero, i.size, i.bytes)) = some (some (.int .i64 0), 1, 8) := by kernel_rfl
theorem infoI_ints : (Try.prog.info? 22).map (fun i => (i.zero, i.size, i.bytes)) = some (some (.slice none 0 0), 1, 24) := by kernel_rfl
theorem own_num {w : World} {B : Nat} {A : Option Addr} {n c i : Nat} {zs : List Int} {z : Int} (h : OwnI w B ⟨A, n, c, zs⟩) (hi : zs[i]? = some z) (hin : i < n) : ∃ g, A = some ⟨g, 0, none⟩ ∧ g < w.heap.size ∧ w.cell? ⟨g, i, none⟩ = some (.int .i64 z) := by
  have hle := h.own.le
  simp only at hle
  obtain ⟨g, hA, _, hg⟩ := h.own.lt (show 0 < c by omega)
  simp only at hA
  subst hA
  have h1 := h.own.cell (j := i) hin
  rw [show ci64 zs = zs.map iV from rfl, List.getElem?_map, hi] at h1
  exact ⟨g, rfl, hg, h1⟩

set_option maxRecDepth 100000 in
set_option maxHeartbeats 1000000 in
theorem walk (x : Mk) (k0 : Nat) (w : World) (h : x.Ok w) (hk0 : k0 < 256) :
    Calls Try.prog 4 #[x.v, .int .u8 k0] w fun e w' => e = .returned (.bool true) ∧ Below w.heap.size w w' := by
  have hx := h
  have hB := Below.refl w.heap.size w
  have hxv : x.v = .agg #[.slice x.r.A x.r.n x.r.c, .slice x.A x.n x.c, .slice x.o.A x.o.n x.o.c] := rfl
  have Vx := Lib.hid hxv
  rw [hxv]
  have HBL : Hid ((Ls.all x.b).length = x.n) := Lib.hid (by rw [Ls.all, List.length_map, hx.len])
  have HRL : Hid (x.r.zs.length = x.r.n) := Lib.hid hx.r.len
  have btop := Nat.le_trans hx.cap hx.top
  have rtop := Nat.le_trans hx.r.cap hx.r.top
  unfold maxLen at btop rtop
  obtain ⟨B, hB0⟩ : ∃ B, x.may = B := ⟨_, rfl⟩
  clear hxv h
  go_enter Try.func4, Try.ntmps4
  have bx := InBox.new w x
  have hbx : Below w.heap.size w (w.alloc (.cells #[.slice x.r.A x.r.n x.r.c, .slice x.A x.n x.c, .slice x.o.A x.o.n x.o.c] 25)) := (Below.refl _ w).alloc (Nat.le_refl _) _
  replace hx := hx.below hbx
  replace hB := hB.trans (hbx.mono hB.size)
  clear hbx
  cases B
  · have E1 := Lib.hid (show leastE x = [] ∧ x.err = 1 by simp [leastE, Mk.err, hB0])
    clear hB0
    have ex0 := bx.c0
    have ex1 := bx.c1
    have ex2 := bx.c2
    have hc := pleastC x (w.alloc (.cells #[.slice x.r.A x.r.n x.r.c, .slice x.A x.n x.c, .slice x.o.A x.o.n x.o.c] 25)) hx
    rw [Vx.out, E1.out.1, E1.out.2] at hc
    go_wp2_with fail
    clear ex0 ex1 ex2
    generalize w.alloc (.cells #[.slice x.r.A x.r.n x.r.c, .slice x.A x.n x.c, .slice x.o.A x.o.n x.o.c] 25) = W1 at *
    refine hc.mono ?_
    rintro e v2 ⟨A1, n1, c1, rfl, h1, hb⟩
    clear hc
    replace hx := hx.below hb
    replace bx := bx.below hb
    replace hB := hB.trans (hb.mono hB.size)
    clear hb
    clear h1 hx bx
    have hc := alive13_any v2
    go_wp2_with fail
    refine hc.mono ?_
    rintro e v3 ⟨rfl, hb⟩
    clear hc
    replace hB := hB.trans (hb.mono hB.size)
    clear hb
    go_wp2
    go_ret
    exact ⟨rfl, hB⟩
  · have HM := Lib.hid hB0
    obtain ⟨hM8, hM1, hn1, hn8⟩ : x.r.n ≤ 8 ∧ 1 ≤ x.r.n ∧ 1 ≤ x.n ∧ x.n ≤ 8 := ⟨(mk_len hx hB0).1, (mk_len hx hB0).2.1, (mk_len hx hB0).2.2.1, (mk_len hx hB0).2.2.2.1⟩
    have HRZ : Hid (∀ z ∈ x.r.zs, 0 ≤ z ∧ z ≤ 1000000) := Lib.hid (mk_len hx hB0).2.2.2.2.2.2.1
    have HBZ : Hid (∀ u ∈ x.b, ∀ z ∈ u.zs, 0 ≤ z ∧ z ≤ 1000000) := Lib.hid (mk_len hx hB0).2.2.2.2.2.2.2
    have HRO := Lib.hid (may_rows hB0)
    obtain ⟨ll, hll⟩ : ∃ a, leastL x.r.zs (Ls.all x.b) = a := ⟨_, rfl⟩
    have HLL := Lib.hid hll
    have LLN : Hid (ll.length = x.r.n) := Lib.hid (by rw [← hll, leastL_len, HRL.out])
    have EL : Hid (leastE x = ll) := Lib.hid (by rw [leastE, if_pos hB0, hll])
    have EE : Hid (x.err = 0) := Lib.hid (by rw [Mk.err, if_pos hB0])
    clear hB0 hll
    have ex0 := bx.c0
    have ex1 := bx.c1
    have ex2 := bx.c2
    have hc := pleastC x (w.alloc (.cells #[.slice x.r.A x.r.n x.r.c, .slice x.A x.n x.c, .slice x.o.A x.o.n x.o.c] 25)) hx
    rw [Vx.out, EL.out, EE.out] at hc
    go_wp2_with fail
    clear ex0 ex1 ex2
    generalize w.alloc (.cells #[.slice x.r.A x.r.n x.r.c, .slice x.A x.n x.c, .slice x.o.A x.o.n x.o.c] 25) = W1 at *
    refine hc.mono ?_
    rintro e v2 ⟨A1, n1, c1, rfl, h1, hb⟩
    clear hc
    replace hx := hx.below hb
    replace bx := bx.below hb
    replace hB := hB.trans (hb.mono hB.size)
    clear hb
    obtain rfl : n1 = x.r.n := by have h5 := h1.len; simp only at h5; rw [LLN.out] at h5; exact h5.symm
    by_cases q8 : 8 ≤ x.r.n
    · have gn : decide ((8 : Int) ≤ (x.r.n : Int)) = true := decide_eq_true (by omega)
      have gn2 : decide (8 ≤ x.r.n) = true := decide_eq_true q8
      clear h1
      have ex0 := bx.c0
      have ex1 := bx.c1
      have ex2 := bx.c2
      have hc := alive13_any v2
      go_wp2_with fail
      clear ex0 ex1 ex2
      refine hc.mono ?_
      rintro e v3 ⟨rfl, hb⟩
      clear hc
      replace hx := hx.below hb
      replace bx := bx.below hb
      replace hB := hB.trans (hb.mono hB.size)
      clear hb
      have ex0 := bx.c0
      have ex1 := bx.c1
      have ex2 := bx.c2
      go_wp2
      go_ret
      exact ⟨rfl, hB⟩
    · have gn : decide ((8 : Int) ≤ (x.r.n : Int)) = false := decide_eq_false (by omega)
      have gn2 : decide (8 ≤ x.r.n) = false := decide_eq_false q8
      have gn3 : ((x.r.n : Int) == 0) = false := by rw [beq_eq_false_iff_ne]; omega
      have gn4 : (x.r.n == 0) = false := by rw [beq_eq_false_iff_ne]; omega
      obtain ⟨k, hk, hkk⟩ : ∃ k : Nat, k < x.r.n ∧ Int.tmod k0 x.r.n = (k : Int) := ⟨k0 % x.r.n, Nat.mod_lt _ (by omega), by rw [Int.tmod_eq_emod_of_nonneg (by omega)]; rfl⟩
      have s1 : IntKind.i64.wrap (k0 : Int) = k0 := by rw [IntKind.wrap_i64]; omega
      have s2 : IntKind.i64.wrap (k : Int) = k := by rw [IntKind.wrap_i64]; omega
      obtain ⟨g, hg⟩ : ∃ a, gains x.r.zs (Ls.all x.b) = a := ⟨_, rfl⟩
      have HG := Lib.hid hg
      have HGM : Hid (x.gains = g) := Lib.hid (by rw [Mk.gains, if_pos HM.out, hg])
      have hgm : mayW g x.r.n = true := by rw [← hg, ← HRL.out]; exact gains_may HM.out
      have HGW := Lib.hid hgm
      have HGL : Hid (g.length = x.n) := Lib.hid (by rw [← hg, gains, List.length_map, HBL.out])
      obtain ⟨a0, ha0⟩ : ∃ a, bestE g (x.r.n : Int) = a := ⟨_, rfl⟩
      obtain ⟨nk, hnk⟩ : ∃ a, numP (gG g) x.r.n g.length k = a := ⟨_, rfl⟩
      have EB := Lib.hid ha0
      have EW := Lib.hid (we_ok hgm).2.1
      obtain ⟨m1, m2⟩ := oneMoreL_best hgm hk (by omega)
      rw [ha0, hnk] at m1
      have EM := Lib.hid m1
      have EMW := Lib.hid m2
      have hab : 0 ≤ a0 ∧ a0 ≤ 8000000 := by rw [← ha0, (we_ok hgm).1]; exact best_bound hgm
      have hnb : 0 ≤ nk ∧ nk ≤ 8000000 := by rw [← hnk]; exact num_bound hgm k hk
      obtain ⟨rk, hrk⟩ : ∃ a, x.r.zs.getD k 0 = a := ⟨_, rfl⟩
      have hkr : k < x.r.zs.length := by rw [HRL.out]; exact hk
      have HRK : Hid (x.r.zs[k]? = some rk) := Lib.hid (by rw [← hrk, List.getD_eq_getElem?_getD, List.getElem?_eq_getElem hkr]; rfl)
      have hrb : 0 ≤ rk ∧ rk ≤ 1000000 := HRZ.out _ (List.mem_of_getElem? HRK.out)
      have HLK : Hid (ll[k]? = some (rk + nk)) := Lib.hid (by
        have h2 := leastL_get (r := x.r.zs) (L := Ls.all x.b) hkr
        rw [HLL.out, hrk, hg, HRL.out, HBL.out, ← HGL.out, hnk] at h2
        rw [← h2, List.getD_eq_getElem?_getD, List.getElem?_eq_getElem (by rw [LLN.out]; exact hk)]; rfl)
      clear hg hgm ha0 hnk m1 m2 hrk hkr
      obtain ⟨i0, hi0, hz0, hz1, hz2⟩ := info_parts info6_int
      obtain ⟨i1, hi1', hy0, hy1, hy2⟩ := info_parts infoI_ints
      have ex0 := bx.c0
      have ex1 := bx.c1
      have ex2 := bx.c2
      have hc := mgainsC x v2 hx
      rw [Vx.out, EE.out, HGM.out] at hc
      go_wp2_with fail
      clear ex0 ex1 ex2
      refine hc.mono ?_
      rintro e v3 ⟨A2, n2, c2, rfl, t2, ht2, hg2, hb⟩
      clear hc
      replace hx := hx.below hb
      replace h1 := h1.below hb
      replace bx := bx.below hb
      replace hB := hB.trans (hb.mono hB.size)
      clear hb
      have HG2 := Lib.hid hg2
      obtain rfl : n2 = x.n := by
        have h5 := ht2.len
        have h6 := congrArg List.length hg2
        rw [Ls.all, List.length_map, HGL.out] at h6
        omega
      clear hg2
      have ex0 := bx.c0
      have ex1 := bx.c1
      have ex2 := bx.c2
      have hc := pbestC ⟨A2, x.n, c2, t2⟩ (x.r.n : Int) v3 ht2.gr (by omega) (by omega)
      rw [show Gr.g ⟨A2, x.n, c2, t2⟩ = g from HG2.out, EB.out, EW.out, show Gr.v ⟨A2, x.n, c2, t2⟩ = .slice A2 x.n c2 from rfl] at hc
      go_wp2_with fail
      clear ex0 ex1 ex2
      refine hc.mono ?_
      rintro e v4 ⟨rfl, hb⟩
      clear hc
      replace hx := hx.below hb
      replace h1 := h1.below hb
      replace ht2 := ht2.below hb
      replace bx := bx.below hb
      replace hB := hB.trans (hb.mono hB.size)
      clear hb
      have ex0 := bx.c0
      have ex1 := bx.c1
      have ex2 := bx.c2
      go_wp2_with fail
      clear ex0 ex1 ex2
      go_loopw [12, 13] (fun o v wr => ∃ (i c : Nat) (A : Option Addr) (t : List Ls), i ≤ x.n ∧ v = .int .i64 i ∧ o = .slice A i c ∧ Own wr v4.heap.size 22 A i c (t.map Ls.v) ∧ Hid (∀ u ∈ t, OwnI wr v4.heap.size u) ∧ Hid (Ls.all t = oneMoreL g k i) ∧ Below v4.heap.size v4 wr) (fun _ v _ => x.n - (intOf v).toNat)
      case atStart => exact ⟨0, 0, none, [], Nat.zero_le _, rfl, rfl, Own.none_ _ _ _ _, Lib.hid (by simp), Lib.hid (by simp [oneMoreL, Ls.all]), Below.refl _ _⟩
      case round =>
        obtain ⟨i, c, A, t, hi, rfl, rfl, hOt, hrows, hall, hbel⟩ := hrel
        have hsz := hbel.size
        by_cases hin : i < x.n
        · have hin' : (i : Int) < x.n := by omega
          have hi0' : (0 : Int) ≤ i := by omega
          have hk0' : (0 : Int) ≤ k := by omega
          obtain ⟨wo, rfl⟩ : ∃ wo, wo = wr := ⟨_, rfl⟩
          obtain ⟨p2, q2, u, hA2, hgy, hp2, hcx, hkuV⟩ := gr_get ht2.gr HG2.out hin
          have hku := hkuV.below hbel
          have hgi : g[i]? = some u.zs := by
            rw [← hgy, List.getD_eq_getElem?_getD, List.getElem?_eq_getElem (by rw [HGL.out]; exact hin)]; rfl
          have hul : u.zs.length = x.r.n := by
            obtain ⟨hl, he⟩ := List.getElem?_eq_some_iff.1 hgi
            rw [← he]; exact (may_row HGW.out hl).1
          have hun : u.n = x.r.n := by have h5 := hku.len; omega
          obtain ⟨uA, un, uc, uz⟩ := u
          simp only at hun hul hgi
          subst hun
          have hurd := hku.rd
          have hufit := hku.fit
          simp only at hurd hufit
          have hku8 : k < uz.length := by rw [hul]; exact hk
          have hurdV := hkuV.rd
          simp only at hurdV
          obtain ⟨p4, q4, hA4, hp4, t0, ht0, hcz⟩ := hurdV.get hk
          rw [ci64_get _ _ hku8] at ht0
          obtain rfl : iV uz[k] = t0 := Option.some.inj ht0
          unfold iV at hcz
          obtain ⟨z, hz⟩ : ∃ z, uz[k] = z := ⟨_, rfl⟩
          rw [hz] at hcz
          have hzb : -9223372036854775808 ≤ z ∧ z ≤ 9223372036854775807 := by rw [← hz]; exact hufit _ (List.getElem_mem hku8)
          have HN : Hid (oneMoreL g k (i + 1) = oneMoreL g k i ++ [uz ++ [z]]) := Lib.hid (by
            rw [oneMoreL_succ hgi, List.getD_eq_getElem?_getD, List.getElem?_eq_getElem hku8, hz]; rfl)
          subst hA2
          subst hA4
          have hkn : (k : Int) < x.r.n := by omega
          have gk : decide ((x.r.n : Int) ≤ (k : Int)) = false := decide_eq_false (by omega)
          have gk2 : decide (x.r.n ≤ k) = false := decide_eq_false (by omega)
          replace hcx : v4.cell? ⟨p2, q2 + i, none⟩ = some (.slice (some ⟨p4, q4, none⟩) x.r.n uc) := hcx
          have hun9 : x.r.n ≤ 1000000000 := by omega
          clear ht0 hz hgi hgy hku hurdV hkuV
          have hSV : ∀ w', Below v4.heap.size v4 w' → w'.cell? ⟨p2, q2 + i, none⟩ = some (.slice (some ⟨p4, q4, none⟩) x.r.n uc) ∧ w'.cell? ⟨p4, q4 + k, none⟩ = some (.int .i64 z) := fun w' hb => ⟨(hb.cell (p := ⟨p2, q2 + i, none⟩) hp2).trans hcx, (hb.cell (p := ⟨p4, q4 + k, none⟩) hp4).trans hcz⟩
          have hS : ∀ w', Below wo.heap.size wo w' → w'.cell? ⟨p2, q2 + i, none⟩ = some (.slice (some ⟨p4, q4, none⟩) x.r.n uc) ∧ w'.cell? ⟨p4, q4 + k, none⟩ = some (.int .i64 z) := fun w' hb => hSV w' (hbel.trans (hb.mono hsz))
          have c4 := hS wo (Below.refl _ _)
          have c4a := c4.1
          have c4b := c4.2
          clear c4
          go_wp2_with fail
          obtain ⟨r0, hr0⟩ : ∃ r, r = wo.drew := ⟨_, rfl⟩
          have b0 : Below wo.heap.size wo r0 := by rw [hr0]; exact (Below.refl _ wo).drew
          clear c4a c4b
          have hOtw := hOt
          have hrowsw := hrows.out
          refine wp_region_tr (S := fun w' => w'.cell? ⟨p2, q2 + i, none⟩ = some (.slice (some ⟨p4, q4, none⟩) x.r.n uc) ∧ w'.cell? ⟨p4, q4 + k, none⟩ = some (.int .i64 z)) (.q 0 (.q 1 (.q 2 (.q 3 (.q 4 (.q 6 (.q 7 (.q 8 (.q 9 (.q 10 (.q 11 (.q 12 (.b 5 13 (.d 13 (.d 14 (.d 15 (.d 16 (.q 17 .nil))))) (.d 5 (.d 14 (.d 15 (.d 16 (.q 17 .nil)))))))))))))))))) default (by kernel_rfl) (by kernel_rfl) (by kernel_rfl) (hS _ (by rw [← hr0]; exact b0)) ?_
          simp only [getTr, nth]
          rw [← hr0]
          have hOt0 := hOt.below b0
          have hrows0 : ∀ u ∈ t, OwnI r0 v4.heap.size u := fun u hu => (hrows.out u hu).below b0
          clear hr0 hOt hrows
          repeat (first | (refine trS (by rfl) ?_; simp only [Act.put, List.setIfInBounds_toArray, List.set_cons_zero, List.set_cons_succ]) | (refine trN (by rfl) ?_; simp only [Act.put, List.setIfInBounds_toArray, List.set_cons_zero, List.set_cons_succ]) | (refine trQ (v := ?_) (by rfl) (fun _ hSw => ?_) ?_; rotate_left; (focus ((have hS1 := hSw.1); (have hS2 := hSw.2); clear hSw; go_simp; (first | done | with_reducible rfl))); simp only [Act.put, List.setIfInBounds_toArray, List.set_cons_zero, List.set_cons_succ]))
          refine trB ?_ ?_
          · skip
            refine trD (by rfl) ?_
            intro K hK
            go_simp
            have hc := twinints_any (some ⟨p4, q4, none⟩) x.r.n uc uz r0 (hurd.below b0) hun9
            refine hc.mono ?_
            rintro e r1 ⟨A7, c7, rfl, hT7, hb⟩
            have b0' : Below wo.heap.size wo r1 := b0.trans (hb.mono b0.size)
            go_wp2_with fail
            refine hK _ _ (hS _ b0') ?_
            clear hK K hc
            try simp only [Act.put, List.setIfInBounds_toArray, List.set_cons_zero, List.set_cons_succ]
            repeat (first | (refine trS (by rfl) ?_; simp only [Act.put, List.setIfInBounds_toArray, List.set_cons_zero, List.set_cons_succ]) | (refine trN (by rfl) ?_; simp only [Act.put, List.setIfInBounds_toArray, List.set_cons_zero, List.set_cons_succ]) | (refine trQ (v := ?_) (by rfl) (fun _ hSw => ?_) ?_; rotate_left; (focus ((have hS1 := hSw.1); (have hS2 := hSw.2); clear hSw; go_simp; (first | done | with_reducible rfl))); simp only [Act.put, List.setIfInBounds_toArray, List.set_cons_zero, List.set_cons_succ]))
            have b1 := b0'
            have hsz71 : r0.heap.size ≤ r1.heap.size := hb.size
            clear hb
            refine trD (by rfl) ?_
            intro K hK
            go_simp
            obtain ⟨r2, hr2⟩ : ∃ r, r = r1.alloc (.cells #[.int .i64 z] 3) := ⟨_, rfl⟩
            have blr2 : Below r1.heap.size r1 r2 := by rw [hr2]; exact (Below.refl _ r1).alloc (Nat.le_refl _) _
            have b1' : Below wo.heap.size wo r2 := b1.trans (blr2.mono b1.size)
            rw [← hr2]
            refine hK _ _ (hS _ b1') ?_
            clear hK K
            try simp only [Act.put, List.setIfInBounds_toArray, List.set_cons_zero, List.set_cons_succ]
            repeat (first | (refine trS (by rfl) ?_; simp only [Act.put, List.setIfInBounds_toArray, List.set_cons_zero, List.set_cons_succ]) | (refine trN (by rfl) ?_; simp only [Act.put, List.setIfInBounds_toArray, List.set_cons_zero, List.set_cons_succ]) | (refine trQ (v := ?_) (by rfl) (fun _ hSw => ?_) ?_; rotate_left; (focus ((have hS1 := hSw.1); (have hS2 := hSw.2); clear hSw; go_simp; (first | done | with_reducible rfl))); simp only [Act.put, List.setIfInBounds_toArray, List.set_cons_zero, List.set_cons_succ]))
            have b2 := b1'
            have hT72 := hT7.below blr2
            have hlr : Rd r2 (some ⟨r1.heap.size, 0, none⟩) 1 (ci64 [z]) := by rw [hr2]; exact (Own.lit (B := 0) r1 3 #[.int .i64 z] 1 (Nat.zero_le _) rfl (by unfold maxLen; omega)).rd
            have hszb : r0.heap.size ≤ r2.heap.size := Nat.le_trans hsz71 blr2.size
            clear hr2
            have hO7 : Own r2 r0.heap.size 3 A7 x.r.n c7 (ci64 uz) := by
              have h3 := hT72.less (m := x.r.n) (by omega)
              rw [ci64_take, List.take_append_of_le_length (by omega), List.take_of_length_le (by omega)] at h3
              exact h3
            clear hT7 hT72
            refine trD (by rfl) ?_
            intro K hK
            refine wp_app r2 _ _ 22 rfl 3 i0 _ 8 Try.underlying22 hi0 hz0 hz1 hz2 rfl r0.heap.size A7 x.r.n c7 (ci64 uz) rfl hO7 _ 1 1 (ci64 [z]) rfl hlr ?m1 ?m2 ?m3 ?m4 ?_
            case m1 => intro u hu; obtain ⟨z, _, rfl⟩ := List.mem_map.1 hu; rfl
            case m2 => simp only [maxLen]; omega
            case m3 => omega
            try case m4 => exact hszb
            intro A8 c8 r3 hown8 hbel8 _ _
            have hBB : r0.heap.size ≥ wo.heap.size := b0.size
            have b3 : Below wo.heap.size wo r3 := b2.trans (hbel8.mono hBB)
            have hO8 : OwnI r3 r0.heap.size ⟨A8, x.r.n + 1, c8, uz ++ [z]⟩ := ⟨by
              show Own r3 r0.heap.size _ A8 (x.r.n + 1) c8 (ci64 (uz ++ [z]))
              rw [ci64_app]; exact hown8, fun y hy => by
              rcases List.mem_append.1 hy with hy | hy
              · exact hufit y hy
              · rw [List.mem_singleton.1 hy]; exact hzb⟩
            go_simp
            refine hK _ _ (hS _ b3) ?_
            clear hK K hown8 hlr hO7
            try simp only [Act.put, List.setIfInBounds_toArray, List.set_cons_zero, List.set_cons_succ]
            repeat (first | (refine trS (by rfl) ?_; simp only [Act.put, List.setIfInBounds_toArray, List.set_cons_zero, List.set_cons_succ]) | (refine trN (by rfl) ?_; simp only [Act.put, List.setIfInBounds_toArray, List.set_cons_zero, List.set_cons_succ]) | (refine trQ (v := ?_) (by rfl) (fun _ hSw => ?_) ?_; rotate_left; (focus ((have hS1 := hSw.1); (have hS2 := hSw.2); clear hSw; go_simp; (first | done | with_reducible rfl))); simp only [Act.put, List.setIfInBounds_toArray, List.set_cons_zero, List.set_cons_succ]))
            refine trD (by rfl) ?_
            intro K hK
            go_simp
            obtain ⟨r4, hr4⟩ : ∃ r, r = r3.alloc (.cells #[.slice A8 (x.r.n + 1) c8] 22) := ⟨_, rfl⟩
            have blr4 : Below r3.heap.size r3 r4 := by rw [hr4]; exact (Below.refl _ r3).alloc (Nat.le_refl _) _
            have b3' : Below wo.heap.size wo r4 := b3.trans (blr4.mono b3.size)
            rw [← hr4]
            refine hK _ _ (hS _ b3') ?_
            clear hK K
            try simp only [Act.put, List.setIfInBounds_toArray, List.set_cons_zero, List.set_cons_succ]
            repeat (first | (refine trS (by rfl) ?_; simp only [Act.put, List.setIfInBounds_toArray, List.set_cons_zero, List.set_cons_succ]) | (refine trN (by rfl) ?_; simp only [Act.put, List.setIfInBounds_toArray, List.set_cons_zero, List.set_cons_succ]) | (refine trQ (v := ?_) (by rfl) (fun _ hSw => ?_) ?_; rotate_left; (focus ((have hS1 := hSw.1); (have hS2 := hSw.2); clear hSw; go_simp; (first | done | with_reducible rfl))); simp only [Act.put, List.setIfInBounds_toArray, List.set_cons_zero, List.set_cons_succ]))
            have b4 := b3'
            have hlr4 : Rd r4 (some ⟨r3.heap.size, 0, none⟩) 1 [.slice A8 (x.r.n + 1) c8] := by rw [hr4]; exact (Own.lit (B := 0) r3 22 #[.slice A8 (x.r.n + 1) c8] 1 (Nat.zero_le _) rfl (by unfold maxLen; omega)).rd
            have hO84 := hO8.below blr4
            have b04 : Below wo.heap.size wo r4 := b4
            have hOt4 : Own r4 v4.heap.size 22 A i c (t.map Ls.v) := hOtw.below b4
            have hrows4 : ∀ u ∈ t, OwnI r4 v4.heap.size u := fun u hu => (hrowsw u hu).below b4
            have hsz4 : v4.heap.size ≤ r4.heap.size := Nat.le_trans hsz b4.size
            refine trD (by rfl) ?_
            intro K hK
            refine wp_app r4 _ _ 23 rfl 22 i1 _ 24 Try.underlying23 hi1' hy0 hy1 hy2 rfl v4.heap.size A i c _ rfl hOt4 _ 1 1 [.slice A8 (x.r.n + 1) c8] rfl hlr4 ?n1 ?n2 ?n3 ?n4 ?_
            case n1 => intro u hu; rw [List.mem_singleton.1 hu]; rfl
            case n2 => simp only [maxLen]; omega
            case n3 => omega
            try case n4 => exact hsz4
            intro A9 c9 r5 hown9 hbel9 hfr9 _
            have hV5 : Below v4.heap.size v4 r5 := (hbel.trans (b4.mono hsz)).trans hbel9
            have hT9 : Own r5 v4.heap.size 22 A9 (i + 1) c9 ((t ++ [(⟨A8, x.r.n + 1, c8, uz ++ [z]⟩ : Ls)]).map Ls.v) := by rw [List.map_append]; exact hown9
            have HR9 : Hid (∀ u ∈ t ++ [⟨A8, x.r.n + 1, c8, uz ++ [z]⟩], OwnI r5 v4.heap.size u) := Lib.hid (fun u hu => by
              rcases List.mem_append.1 hu with hu | hu
              · exact (hrows4 u hu).app hOt4 hfr9
              · rw [List.mem_singleton.1 hu]
                exact (hO84.app hOt4 hfr9).mono (Nat.le_trans hsz hBB))
            have HA9 : Hid (Ls.all (t ++ [⟨A8, x.r.n + 1, c8, uz ++ [z]⟩]) = oneMoreL g k (i + 1)) := Lib.hid (by
              rw [HN.out, ← hall.out]; simp [Ls.all])
            have hS5 := hSV _ hV5
            go_simp
            refine hK _ _ hS5 ?_
            clear hK K hown9 hlr4 hO84 hOt4 hrows4 hfr9 hbel9
            try simp only [Act.put, List.setIfInBounds_toArray, List.set_cons_zero, List.set_cons_succ]
            repeat (first | (refine trS (by rfl) ?_; simp only [Act.put, List.setIfInBounds_toArray, List.set_cons_zero, List.set_cons_succ]) | (refine trN (by rfl) ?_; simp only [Act.put, List.setIfInBounds_toArray, List.set_cons_zero, List.set_cons_succ]) | (refine trQ (v := ?_) (by rfl) (fun _ hSw => ?_) ?_; rotate_left; (focus ((have hS1 := hSw.1); (have hS2 := hSw.2); clear hSw; go_simp; (first | done | with_reducible rfl))); simp only [Act.put, List.setIfInBounds_toArray, List.set_cons_zero, List.set_cons_succ]))
            refine trE ?_
            clear hS5 hS hSV hO8 b0 b1 b2 b3 b4 b04 hbel8 hOtw hrowsw hOt0 hrows0
            go_wp2
            go_roundw
            case rel => exact ⟨i + 1, c9, A9, _, by omega, by go_num, rfl, hT9, HR9, HA9, hV5⟩
            case measure => simp [intOf]; omega
          · skip
            refine trD (by rfl) ?_
            intro K hK
            go_simp
            obtain ⟨r1, hr1⟩ : ∃ r, r = r0.alloc (.cells #[.int .i64 z] 3) := ⟨_, rfl⟩
            have blr1 : Below r0.heap.size r0 r1 := by rw [hr1]; exact (Below.refl _ r0).alloc (Nat.le_refl _) _
            have b0' : Below wo.heap.size wo r1 := b0.trans (blr1.mono b0.size)
            rw [← hr1]
            refine hK _ _ (hS _ b0') ?_
            clear hK K
            try simp only [Act.put, List.setIfInBounds_toArray, List.set_cons_zero, List.set_cons_succ]
            repeat (first | (refine trS (by rfl) ?_; simp only [Act.put, List.setIfInBounds_toArray, List.set_cons_zero, List.set_cons_succ]) | (refine trN (by rfl) ?_; simp only [Act.put, List.setIfInBounds_toArray, List.set_cons_zero, List.set_cons_succ]) | (refine trQ (v := ?_) (by rfl) (fun _ hSw => ?_) ?_; rotate_left; (focus ((have hS1 := hSw.1); (have hS2 := hSw.2); clear hSw; go_simp; (first | done | with_reducible rfl))); simp only [Act.put, List.setIfInBounds_toArray, List.set_cons_zero, List.set_cons_succ]))
            have b1 := b0'
            have hlr1 : Rd r1 (some ⟨r0.heap.size, 0, none⟩) 1 (ci64 [z]) := by rw [hr1]; exact (Own.lit (B := 0) r0 3 #[.int .i64 z] 1 (Nat.zero_le _) rfl (by unfold maxLen; omega)).rd
            clear hr1
            refine trD (by rfl) ?_
            intro K hK
            go_simp
            have hc := twinints_any (some ⟨p4, q4, none⟩) x.r.n uc uz r1 (hurd.below b1) hun9
            refine hc.mono ?_
            rintro e r2 ⟨A7, c7, rfl, hT7, hb⟩
            have b1' : Below wo.heap.size wo r2 := b1.trans (hb.mono b1.size)
            go_wp2_with fail
            refine hK _ _ (hS _ b1') ?_
            clear hK K hc
            try simp only [Act.put, List.setIfInBounds_toArray, List.set_cons_zero, List.set_cons_succ]
            repeat (first | (refine trS (by rfl) ?_; simp only [Act.put, List.setIfInBounds_toArray, List.set_cons_zero, List.set_cons_succ]) | (refine trN (by rfl) ?_; simp only [Act.put, List.setIfInBounds_toArray, List.set_cons_zero, List.set_cons_succ]) | (refine trQ (v := ?_) (by rfl) (fun _ hSw => ?_) ?_; rotate_left; (focus ((have hS1 := hSw.1); (have hS2 := hSw.2); clear hSw; go_simp; (first | done | with_reducible rfl))); simp only [Act.put, List.setIfInBounds_toArray, List.set_cons_zero, List.set_cons_succ]))
            have b2 := b1'
            have hT72 := hT7
            have hlr := hlr1.below hb
            have hszb : r1.heap.size ≤ r2.heap.size := hb.size
            clear hb hlr1
            have hO7 : Own r2 r1.heap.size 3 A7 x.r.n c7 (ci64 uz) := by
              have h3 := hT72.less (m := x.r.n) (by omega)
              rw [ci64_take, List.take_append_of_le_length (by omega), List.take_of_length_le (by omega)] at h3
              exact h3
            clear hT7 hT72
            refine trD (by rfl) ?_
            intro K hK
            refine wp_app r2 _ _ 22 rfl 3 i0 _ 8 Try.underlying22 hi0 hz0 hz1 hz2 rfl r1.heap.size A7 x.r.n c7 (ci64 uz) rfl hO7 _ 1 1 (ci64 [z]) rfl hlr ?m1 ?m2 ?m3 ?m4 ?_
            case m1 => intro u hu; obtain ⟨z, _, rfl⟩ := List.mem_map.1 hu; rfl
            case m2 => simp only [maxLen]; omega
            case m3 => omega
            try case m4 => exact hszb
            intro A8 c8 r3 hown8 hbel8 _ _
            have hBB : r1.heap.size ≥ wo.heap.size := b1.size
            have b3 : Below wo.heap.size wo r3 := b2.trans (hbel8.mono hBB)
            have hO8 : OwnI r3 r1.heap.size ⟨A8, x.r.n + 1, c8, uz ++ [z]⟩ := ⟨by
              show Own r3 r1.heap.size _ A8 (x.r.n + 1) c8 (ci64 (uz ++ [z]))
              rw [ci64_app]; exact hown8, fun y hy => by
              rcases List.mem_append.1 hy with hy | hy
              · exact hufit y hy
              · rw [List.mem_singleton.1 hy]; exact hzb⟩
            go_simp
            refine hK _ _ (hS _ b3) ?_
            clear hK K hown8 hlr hO7
            try simp only [Act.put, List.setIfInBounds_toArray, List.set_cons_zero, List.set_cons_succ]
            repeat (first | (refine trS (by rfl) ?_; simp only [Act.put, List.setIfInBounds_toArray, List.set_cons_zero, List.set_cons_succ]) | (refine trN (by rfl) ?_; simp only [Act.put, List.setIfInBounds_toArray, List.set_cons_zero, List.set_cons_succ]) | (refine trQ (v := ?_) (by rfl) (fun _ hSw => ?_) ?_; rotate_left; (focus ((have hS1 := hSw.1); (have hS2 := hSw.2); clear hSw; go_simp; (first | done | with_reducible rfl))); simp only [Act.put, List.setIfInBounds_toArray, List.set_cons_zero, List.set_cons_succ]))
            refine trD (by rfl) ?_
            intro K hK
            go_simp
            obtain ⟨r4, hr4⟩ : ∃ r, r = r3.alloc (.cells #[.slice A8 (x.r.n + 1) c8] 22) := ⟨_, rfl⟩
            have blr4 : Below r3.heap.size r3 r4 := by rw [hr4]; exact (Below.refl _ r3).alloc (Nat.le_refl _) _
            have b3' : Below wo.heap.size wo r4 := b3.trans (blr4.mono b3.size)
            rw [← hr4]
            refine hK _ _ (hS _ b3') ?_
            clear hK K
            try simp only [Act.put, List.setIfInBounds_toArray, List.set_cons_zero, List.set_cons_succ]
            repeat (first | (refine trS (by rfl) ?_; simp only [Act.put, List.setIfInBounds_toArray, List.set_cons_zero, List.set_cons_succ]) | (refine trN (by rfl) ?_; simp only [Act.put, List.setIfInBounds_toArray, List.set_cons_zero, List.set_cons_succ]) | (refine trQ (v := ?_) (by rfl) (fun _ hSw => ?_) ?_; rotate_left; (focus ((have hS1 := hSw.1); (have hS2 := hSw.2); clear hSw; go_simp; (first | done | with_reducible rfl))); simp only [Act.put, List.setIfInBounds_toArray, List.set_cons_zero, List.set_cons_succ]))
            have b4 := b3'
            have hlr4 : Rd r4 (some ⟨r3.heap.size, 0, none⟩) 1 [.slice A8 (x.r.n + 1) c8] := by rw [hr4]; exact (Own.lit (B := 0) r3 22 #[.slice A8 (x.r.n + 1) c8] 1 (Nat.zero_le _) rfl (by unfold maxLen; omega)).rd
            have hO84 := hO8.below blr4
            have b04 : Below wo.heap.size wo r4 := b4
            have hOt4 : Own r4 v4.heap.size 22 A i c (t.map Ls.v) := hOtw.below b4
            have hrows4 : ∀ u ∈ t, OwnI r4 v4.heap.size u := fun u hu => (hrowsw u hu).below b4
            have hsz4 : v4.heap.size ≤ r4.heap.size := Nat.le_trans hsz b4.size
            refine trD (by rfl) ?_
            intro K hK
            refine wp_app r4 _ _ 23 rfl 22 i1 _ 24 Try.underlying23 hi1' hy0 hy1 hy2 rfl v4.heap.size A i c _ rfl hOt4 _ 1 1 [.slice A8 (x.r.n + 1) c8] rfl hlr4 ?n1 ?n2 ?n3 ?n4 ?_
            case n1 => intro u hu; rw [List.mem_singleton.1 hu]; rfl
            case n2 => simp only [maxLen]; omega
            case n3 => omega
            try case n4 => exact hsz4
            intro A9 c9 r5 hown9 hbel9 hfr9 _
            have hV5 : Below v4.heap.size v4 r5 := (hbel.trans (b4.mono hsz)).trans hbel9
            have hT9 : Own r5 v4.heap.size 22 A9 (i + 1) c9 ((t ++ [(⟨A8, x.r.n + 1, c8, uz ++ [z]⟩ : Ls)]).map Ls.v) := by rw [List.map_append]; exact hown9
            have HR9 : Hid (∀ u ∈ t ++ [⟨A8, x.r.n + 1, c8, uz ++ [z]⟩], OwnI r5 v4.heap.size u) := Lib.hid (fun u hu => by
              rcases List.mem_append.1 hu with hu | hu
              · exact (hrows4 u hu).app hOt4 hfr9
              · rw [List.mem_singleton.1 hu]
                exact (hO84.app hOt4 hfr9).mono (Nat.le_trans hsz hBB))
            have HA9 : Hid (Ls.all (t ++ [⟨A8, x.r.n + 1, c8, uz ++ [z]⟩]) = oneMoreL g k (i + 1)) := Lib.hid (by
              rw [HN.out, ← hall.out]; simp [Ls.all])
            have hS5 := hSV _ hV5
            go_simp
            refine hK _ _ hS5 ?_
            clear hK K hown9 hlr4 hO84 hOt4 hrows4 hfr9 hbel9
            try simp only [Act.put, List.setIfInBounds_toArray, List.set_cons_zero, List.set_cons_succ]
            repeat (first | (refine trS (by rfl) ?_; simp only [Act.put, List.setIfInBounds_toArray, List.set_cons_zero, List.set_cons_succ]) | (refine trN (by rfl) ?_; simp only [Act.put, List.setIfInBounds_toArray, List.set_cons_zero, List.set_cons_succ]) | (refine trQ (v := ?_) (by rfl) (fun _ hSw => ?_) ?_; rotate_left; (focus ((have hS1 := hSw.1); (have hS2 := hSw.2); clear hSw; go_simp; (first | done | with_reducible rfl))); simp only [Act.put, List.setIfInBounds_toArray, List.set_cons_zero, List.set_cons_succ]))
            refine trE ?_
            clear hS5 hS hSV hO8 b0 b1 b2 b3 b4 b04 hbel8 hOtw hrowsw hOt0 hrows0
            go_wp2
            go_roundw
            case rel => exact ⟨i + 1, c9, A9, _, by omega, by go_num, rfl, hT9, HR9, HA9, hV5⟩
            case measure => simp [intOf]; omega
        · obtain rfl : i = x.n := by omega
          have hgo : Gr.Ok wr ⟨A, x.n, c, t⟩ := own_lists hOt fun u hu => (hrows.out u hu).ok
          have HGA : Hid (Gr.g ⟨A, x.n, c, t⟩ = oneMoreL g k g.length) := Lib.hid (by rw [HGL.out]; exact hall.out)
          have sM : IntKind.i64.wrap ((x.r.n : Int) + 1) = ((x.r.n + 1 : Nat) : Int) := by rw [IntKind.wrap_i64]; omega
          clear hOt hrows hall
          replace hx := hx.below hbel
          replace h1 := h1.below hbel
          replace bx := bx.below hbel
          replace hB := hB.trans (hbel.mono hB.size)
          clear hbel ht2 hsz
          have ex0 := bx.c0
          have ex1 := bx.c1
          have ex2 := bx.c2
          have hc := pbestC ⟨A, x.n, c, t⟩ ((x.r.n + 1 : Nat) : Int) wr hgo (by omega) (by omega)
          rw [HGA.out, EM.out, EMW.out, show Gr.v ⟨A, x.n, c, t⟩ = .slice A x.n c from rfl] at hc
          go_wp2_with fail
          clear ex0 ex1 ex2
          refine hc.mono ?_
          rintro e v5 ⟨rfl, hb⟩
          clear hc
          replace hx := hx.below hb
          replace h1 := h1.below hb
          replace hgo := hgo.below hb
          replace bx := bx.below hb
          replace hB := hB.trans (hb.mono hB.size)
          clear hb
          clear hgo HGA
          obtain ⟨g1, rfl, hg1, hc1⟩ := own_num h1 HLK.out hk
          have hrd := hx.r.rd
          obtain ⟨p6, q6, hA6, hp6, t6, ht6, hc6⟩ := hrd.get hk
          have hkr6 : k < x.r.zs.length := by rw [HRL.out]; exact hk
          rw [ci64_get _ _ hkr6] at ht6
          obtain rfl : iV x.r.zs[k] = t6 := Option.some.inj ht6
          unfold iV at hc6
          rw [show x.r.zs[k] = rk by have h9 := HRK.out; rw [List.getElem?_eq_getElem hkr6] at h9; exact Option.some.inj h9] at hc6
          have hkn : (k : Int) < x.r.n := by omega
          have hk0' : (0 : Int) ≤ k := by omega
          have gk : decide ((k : Int) < (x.r.n : Int)) = true := decide_eq_true hkn
          have gk2 : decide (k < x.r.n) = true := decide_eq_true hk
          have s3 : IntKind.i64.wrap (rk + (a0 + nk)) = rk + (a0 + nk) := by rw [IntKind.wrap_i64]; omega
          have s4 : IntKind.i64.wrap (rk + (a0 + nk) - a0) = rk + nk := by rw [IntKind.wrap_i64]; omega
          have s5 : ((rk + nk) == (rk + nk)) = true := by simp
          have HA6 := Lib.hid hA6
          clear hrd ht6 hA6 hkr6
          clear h1
          have ex0 := bx.c0
          have ex1 := bx.c1
          have ex2 := bx.c2
          rw [HA6.out] at ex0
          have hS : ∀ w', Below v5.heap.size v5 w' → w'.cell? ⟨w.heap.size, 0, none⟩ = some (.slice (some ⟨p6, q6, none⟩) x.r.n x.r.c) ∧ w'.cell? ⟨g1, k, none⟩ = some (.int .i64 (rk + nk)) ∧ w'.cell? ⟨p6, q6 + k, none⟩ = some (.int .i64 rk) := fun w' hb => ⟨(bx.below hb).c0.trans (by rw [HA6.out]), (hb.cell (p := ⟨g1, k, none⟩) hg1).trans hc1, (hb.cell (p := ⟨p6, q6 + k, none⟩) hp6).trans hc6⟩
          go_wp2_with fail
          refine wp_region_ord (S := fun w' => w'.cell? ⟨w.heap.size, 0, none⟩ = some (.slice (some ⟨p6, q6, none⟩) x.r.n x.r.c) ∧ w'.cell? ⟨g1, k, none⟩ = some (.int .i64 (rk + nk)) ∧ w'.cell? ⟨p6, q6 + k, none⟩ = some (.int .i64 rk)) [(0, true), (1, true), (2, true), (3, true), (4, true), (5, true), (6, true), (7, true), (8, true), (9, true), (10, true), (11, true), (12, true), (13, true), (14, true), (15, true), (16, true), (17, true), (18, true), (19, true), (20, true), (21, true), (22, true), (23, true), (24, true), (25, true), (26, true), (27, true), (28, true), (29, true), (30, true), (31, true), (32, true), (33, false), (34, true), (35, true)] default (by kernel_rfl) (by kernel_rfl) (by kernel_rfl) (hS _ ((Below.refl _ v5).drew)) ?_
          simp only [getOrd, nth]
          obtain ⟨q1_0, hu0⟩ : ∃ q1_0, q1_0 = v5.drew := ⟨_, rfl⟩
          have b0 : Below v5.heap.size v5 q1_0 := by rw [hu0]; exact ((Below.refl _ v5).drew)
          rw [← hu0]
          clear hu0
          repeat (first | (refine ordS (by rfl) ?_; simp only [Act.put, List.setIfInBounds_toArray, List.set_cons_zero, List.set_cons_succ]) | (refine ordN (by rfl) ?_; simp only [Act.put, List.setIfInBounds_toArray, List.set_cons_zero, List.set_cons_succ]) | (refine ordQ (v := ?_) (by rfl) (fun _ hSw => ?_) ?_; rotate_left; (focus ((have hS1 := hSw.1); (have hS2 := hSw.2.1); (have hS3 := hSw.2.2); clear hSw; go_simp; (first | done | with_reducible rfl))); simp only [Act.put, List.setIfInBounds_toArray, List.set_cons_zero, List.set_cons_succ]))
          refine ordD (by rfl) ?_
          intro K hK
          go_simp
          have hc := alive13_any q1_0
          refine hc.mono ?_
          rintro e q1_1 ⟨rfl, hb⟩
          have b1 : Below v5.heap.size v5 q1_1 := b0.trans (hb.mono b0.size)
          go_wp2_with fail
          refine hK _ _ (hS _ b1) ?_
          clear hK K hc hb
          try simp only [Act.put, List.setIfInBounds_toArray, List.set_cons_zero, List.set_cons_succ]
          repeat (first | (refine ordS (by rfl) ?_; simp only [Act.put, List.setIfInBounds_toArray, List.set_cons_zero, List.set_cons_succ]) | (refine ordN (by rfl) ?_; simp only [Act.put, List.setIfInBounds_toArray, List.set_cons_zero, List.set_cons_succ]) | (refine ordQ (v := ?_) (by rfl) (fun _ hSw => ?_) ?_; rotate_left; (focus ((have hS1 := hSw.1); (have hS2 := hSw.2.1); (have hS3 := hSw.2.2); clear hSw; go_simp; (first | done | with_reducible rfl))); simp only [Act.put, List.setIfInBounds_toArray, List.set_cons_zero, List.set_cons_succ]))
          refine ordE ?_
          replace hx := hx.below b1
          replace bx := bx.below b1
          replace hB := hB.trans (b1.mono hB.size)
          clear hS b0 b1
          clear ex0 ex1 ex2 hg1 hc1 hp6 hc6
          go_wp2
          go_ret
          exact ⟨rfl, hB⟩

theorem own : ownKnob Try.prog.godebug = none := by kernel_rfl
theorem laidOut : laidOutB Try.prog = true := by kernel_rfl

set_option maxRecDepth 100000 in
theorem lifted (os : Os) (started : os.Started) (H : Type) (enc : TypeId × Value → H) :
    ReturnsInHanded {} Try.checked os 4 .any (Rows.risesMoreSpec.pre6 enc Try.prog Try.f4 Rows.risesMoreRow.domain false) (Rows.risesMoreSpec.post enc Try.prog Try.f4 false true false false) := by
  refine returnsInHanded_of_change (C := Try.checked) own started (by kernel_rfl) Try.func4
    (ChangeSpec.witness6 (enc := enc) (C := Try.checked) false ⟨#[], #[.agg #[.slice none 0 0, .slice none 0 0, .slice none 0 0], .int .u8 0], []⟩ 8 (by kernel_rfl) (by kernel_rfl) (by kernel_rfl) (by kernel_rfl)) ?_
  intro W base args ds gs before hval0 hW hcnd _
  have hval : ∀ (j : Nat) t v, Try.f4.params[j]? = some t → args[j]? = some v → Value.okWide Try.prog W .any base t v := hval0
  have hW' := hW
  obtain ⟨p, q, hA0, hV, rfl, hfz, hnd⟩ := hW
  have hA : DataW.TrodAll enc Try.prog W 0 (fun _ => true) true Try.f4.params.toList args.toList ds p := hA0
  rw [Try.params4] at hA hval
  obtain ⟨v0, vs0, d0, ds0, p0, q0, hargs, rfl, rfl, h0, r0⟩ := trodAll_cons hA
  obtain ⟨v1, vs1, d1, ds1, p1, q1, rfl, rfl, rfl, h1, r1⟩ := trodAll_cons r0
  obtain ⟨rfl, rfl, rfl⟩ := trodAll_nil r1
  obtain rfl : args = #[v0, v1] := by cases args; simp_all
  obtain ⟨u0, rfl, k0⟩ := arg_mk Try.underlying25 (by kernel_rfl) (by kernel_rfl) Try.underlying22 Try.underlying23 Try.underlying22 Try.underlying22 (by kernel_rfl) Try.underlying3 (by kernel_rfl) (hval 0 25 v0 rfl rfl) h0
  obtain ⟨x1, rfl, rfl, rfl, w1⟩ := open_int Try.underlying5 (hval 1 5 v1 rfl rfl) h1
  obtain ⟨y1, rfl, z1⟩ := fit_u8 w1
  have hwalk : Calls Try.prog 4 #[u0.v, .int .u8 y1] W fun e w' => e = .returned (.bool true) ∧ Below W.heap.size W w' := walk u0 y1 W k0 z1
  refine hwalk.mono fun e W' ⟨he, hg⟩ => ?_
  subst he
  exact ⟨_, rfl, law_post laidOut (by kernel_rfl) hW' rfl rfl (by kernel_rfl) Try.underlying4 hg⟩

theorem over : Rows.risesMoreRow.holds Try.pinned (OpenSpec.ofChange Rows.risesMoreSpec) :=
  OpenClaim.holds_of_wide 4 Try.f4 rfl rfl rfl rfl rfl rfl rfl ⟨rfl, rfl, rfl, rfl, rfl⟩ rfl rfl rfl rfl rfl (by kernel_rfl) Try.func4 (by kernel_rfl)
    (of_decide_eq_true (by kernel_rfl)) (by unfold Func.isWrapper; first | (rw [if_pos (by decide +kernel)]; kernel_rfl) | (rw [if_neg (by decide +kernel)]; exact ⟨rfl, rfl⟩))
    (fun os started H enc _ => lifted os started H enc)

theorem proved : Rows.RisesMoreSaid :=
  over

end Go.Proofs.Ytdckoaljcklmhaa.risesMore
