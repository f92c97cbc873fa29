/-
  Proved: salesroomlaw08.MatchingsLess answers true, for any lists, any items, any item, any bidder, in whatever memory. No conditions.
-/
import Derived.Test.YtcjfgkihmhdhlaaRows
import Derived.Test.YtcjfgkihmhdhlaaLift
import Derived.Test.YtcjfgkihmhdhlaaAlive8
import Derived.Test.YtcjfgkihmhdhlaaGrM
import Derived.Test.YtcjfgkihmhdhlaaMaP
import Derived.Test.YtcjfgkihmhdhlaaMaL
import Derived.Test.YtcjfgkihmhdhlaaGrN
import Derived.Test.YtcjfgkihmhdhlaaReg
namespace Go.Proofs.Ytcjfgkihmhdhlaa.matchingsLess
open Go.ChangeShapes Go.WideShapes Go.ChangeAt Go.RowKit
set_option linter.unusedVariables false

/-- A list without one item. -/
def rowF (y : Nat) (l : List Int) : List Int := l.filter fun k => decide (k ≠ (y : Int))
theorem rowF_succ {y : Nat} {l : List Int} {j : Nat} (hj : j < l.length) : rowF y (l.take (j + 1)) = rowF y (l.take j) ++ if l[j] ≠ (y : Int) then [l[j]] else [] := by
  rw [rowF, rowF, List.take_succ_eq_append_getElem hj, List.filter_append]
  by_cases h : l[j] = (y : Int) <;> simp [h]
theorem rowF_len (y : Nat) (l : List Int) : (rowF y l).length ≤ l.length := List.length_filter_le _ _
theorem rowF_rises {m : Int} {y : Nat} {l : List Int} (h : Rises m l) : Rises m (rowF y l) := ⟨fun x hx => h.1 x (List.mem_filter.1 hx).1, h.2.sublist List.filter_sublist⟩
def lessG (y : Nat) (g : List (List Int)) : List (List Int) := g.map (rowF y)
theorem lessG_get (y : Nat) (g : List (List Int)) (i : Nat) : (lessG y g).getD i [] = rowF y (g.getD i []) := by
  rw [lessG, List.getD_eq_getElem?_getD, List.getElem?_map, List.getD_eq_getElem?_getD]
  cases g[i]? <;> rfl
theorem lessG_check {y : Nat} {g : List (List Int)} {m : Nat} (h : checkG g m = true) : checkG (lessG y g) m = true := by
  obtain ⟨h1, h2, h3, h4⟩ := checkG_iff.1 h
  refine checkG_iff.2 ⟨h1, h2, by simpa [lessG] using h3, fun l hl => ?_⟩
  obtain ⟨l', hl', rfl⟩ := List.mem_map.1 hl
  exact rowF_rises (h4 l' hl')
theorem set_check {g : List (List Int)} {m b : Nat} (h : checkG g m = true) : checkG (g.set b []) m = true := by
  obtain ⟨h1, h2, h3, h4⟩ := checkG_iff.1 h
  refine checkG_iff.2 ⟨h1, h2, by simpa using h3, fun l hl => ?_⟩
  rcases List.mem_or_eq_of_mem_set hl with h | h
  · exact h4 l h
  · rw [h]; exact rises_nil _
theorem setG_get (g : List (List Int)) (b i : Nat) : (g.set b []).getD i [] = if i = b then [] else g.getD i [] := by
  rw [List.getD_eq_getElem?_getD, List.getElem?_set, List.getD_eq_getElem?_getD]
  by_cases h : b = i
  · subst h
    by_cases h2 : b < g.length
    · simp [h2]
    · simp [h2]
  · rw [if_neg h, if_neg (fun h' => h h'.symm)]
/-- How many have one still. -/
theorem less_item {g : List (List Int)} {m y : Nat} (hc : checkG g m = true) : manyG (mostP (lessG y g) m) ≤ manyG (mostP g m) ∧ manyG (mostP g m) ≤ manyG (mostP (lessG y g) m) + 1 :=
  ⟨most_mono hc (lessG_check hc) (by simp [lessG]) fun i k hk => by rw [lessG_get] at hk; exact (List.mem_filter.1 hk).1,
   most_item (lessG_check hc) hc (by simp [lessG]) (y := (y : Int)) fun i k hky hk => by rw [lessG_get]; exact List.mem_filter.2 ⟨hk, decide_eq_true hky⟩⟩
theorem less_row {g : List (List Int)} {m b : Nat} (hc : checkG g m = true) : manyG (mostP (g.set b []) m) ≤ manyG (mostP g m) ∧ manyG (mostP g m) ≤ manyG (mostP (g.set b []) m) + 1 :=
  ⟨most_mono hc (set_check hc) (by simp) fun i k hk => by
     rw [setG_get] at hk
     by_cases h : i = b
     · rw [if_pos h] at hk; simp at hk
     · rwa [if_neg h] at hk,
   most_row (set_check hc) hc (by simp) (j := b) fun i k hi hk => by rw [setG_get, if_neg hi]; exact hk⟩
theorem setT_g {t : List Ls} {g : List (List Int)} (h : Ls.all t = g) (b : Nat) : Ls.all (t.set b Ls.nil) = g.set b [] := by
  rw [← h, Ls.all, Ls.all, List.map_set]; rfl

set_option maxRecDepth 100000 in
set_option maxHeartbeats 4000000 in
theorem walk (x : Gr) (m : Int) (y z : Nat) (w : World) (h : x.Ok w) (hm1 : -9223372036854775808 ≤ m) (hm2 : m ≤ 9223372036854775807) (hy : y < 256) (hz : z < 256) :
    Calls Try.prog 7 #[.agg #[x.v, .int .i64 m], .int .u8 y, .int .u8 z] w fun e w' => e = .returned (.bool true) ∧ Below w.heap.size w w' := by
  have hx := h
  have hB := Below.refl w.heap.size w
  have hxv : x.v = .slice x.A x.n x.c := rfl
  have Vx := Lib.hid hxv
  rw [hxv]
  have hgl := h.glen
  have HGL := Lib.hid hgl
  have htop := Nat.le_trans h.cap h.top
  unfold maxLen at htop
  obtain ⟨B, hB0⟩ : ∃ B, checkG x.g m = B := ⟨_, rfl⟩
  clear hxv hgl h
  go_enter Try.func7, Try.ntmps7
  have bg := GBox.new w x m
  have hbx : Below w.heap.size w (w.alloc (.cells #[.slice x.A x.n x.c, .int .i64 m] 24)) := (Below.refl _ w).alloc (Nat.le_refl _) _
  replace hx := hx.below hbx
  replace hB := hB.trans (hbx.mono hB.size)
  clear hbx
  cases B
  · obtain ⟨e1, e2⟩ := most_bad hB0
    have E1 := Lib.hid e1
    have E2 := Lib.hid e2
    have HC := Lib.hid hB0
    clear e1 e2 hB0
    have eg0 := bg.c0
    have eg1 := bg.c1
    have hc := pmostC x m (w.alloc (.cells #[.slice x.A x.n x.c, .int .i64 m] 24)) hx hm1 hm2
    rw [Vx.out, E1.out, E2.out] at hc
    go_wp2_with fail
    clear eg0 eg1
    generalize w.alloc (.cells #[.slice x.A x.n x.c, .int .i64 m] 24) = W1 at *
    refine hc.mono ?_
    rintro e v2 ⟨A2, n2, c2, rfl, h2, hb⟩
    clear hc
    replace hx := hx.below hb
    replace bg := bg.below hb
    replace hB := hB.trans (hb.mono hB.size)
    clear hb
    clear h2
    have eg0 := bg.c0
    have eg1 := bg.c1
    have hc := alive8_any v2
    go_wp2_with fail
    clear eg0 eg1
    refine hc.mono ?_
    rintro e v3 ⟨rfl, hb⟩
    clear hc
    replace hx := hx.below hb
    replace bg := bg.below hb
    replace hB := hB.trans (hb.mono hB.size)
    clear hb
    have eg0 := bg.c0
    have eg1 := bg.c1
    go_wp2
    go_ret
    exact ⟨rfl, hB⟩
  · obtain ⟨M, rfl⟩ : ∃ M : Nat, m = M := ⟨m.toNat, by have := (checkG_iff.1 hB0).1; omega⟩
    obtain ⟨e1, e2⟩ := most_ok hB0
    have E1 := Lib.hid e1
    have E2 := Lib.hid e2
    have HC := Lib.hid hB0
    have hM8 : M ≤ 8 := by have := (checkG_iff.1 HC.out).2.1; omega
    have hx8 : x.n ≤ 8 := by have := (checkG_iff.1 HC.out).2.2.1; rw [HGL.out] at this; exact this
    clear e1 e2 hB0 hm1 hm2
    have hll : (mostP x.g M).length = x.n := by rw [most_len HC.out, HGL.out]
    have hitem : ∀ y, manyG (mostP (lessG y x.g) M) ≤ manyG (mostP x.g M) ∧ manyG (mostP x.g M) ≤ manyG (mostP (lessG y x.g) M) + 1 := fun y => less_item HC.out
    have hrow : ∀ b, manyG (mostP (x.g.set b []) M) ≤ manyG (mostP x.g M) ∧ manyG (mostP x.g M) ≤ manyG (mostP (x.g.set b []) M) + 1 := fun b => less_row HC.out
    obtain ⟨l, hl⟩ : ∃ l, mostP x.g M = l := ⟨_, rfl⟩
    rw [hl] at E2 hll hitem hrow
    obtain ⟨k, hk⟩ : ∃ k, manyG l = k := ⟨_, rfl⟩
    rw [hk] at hitem hrow
    have hkl : k ≤ x.n := by rw [← hk, ← hll]; exact many_le l
    have HK := Lib.hid hk
    have HI := Lib.hid hitem
    have HR := Lib.hid hrow
    have HLL := Lib.hid hll
    clear hll hitem hrow hl hk
    have eg0 := bg.c0
    have eg1 := bg.c1
    have hc := pmostC x M (w.alloc (.cells #[.slice x.A x.n x.c, .int .i64 (M : Int)] 24)) hx (by omega) (by omega)
    rw [Vx.out, E1.out, E2.out] at hc
    go_wp2_with fail
    clear eg0 eg1
    generalize w.alloc (.cells #[.slice x.A x.n x.c, .int .i64 (M : Int)] 24) = W1 at *
    refine hc.mono ?_
    rintro e v2 ⟨A2, n2, c2, rfl, h2, hb⟩
    clear hc
    replace hx := hx.below hb
    replace bg := bg.below hb
    replace hB := hB.trans (hb.mono hB.size)
    clear hb
    obtain rfl : n2 = x.n := by have := h2.len; rw [← HLL.out]; exact this.symm
    by_cases hn0 : x.n = 0
    · have g0 : ((x.n : Int) == 0) = true := by rw [beq_iff_eq]; omega
      have g0' : (x.n == 0) = true := by rw [beq_iff_eq]; exact hn0
      have eg0 := bg.c0
      have eg1 := bg.c1
      have hc := alive8_any v2
      go_wp2_with fail
      clear eg0 eg1
      refine hc.mono ?_
      rintro e v3 ⟨rfl, hb⟩
      clear hc
      replace hx := hx.below hb
      replace h2 := h2.below hb
      replace bg := bg.below hb
      replace hB := hB.trans (hb.mono hB.size)
      clear hb
      have eg0 := bg.c0
      have eg1 := bg.c1
      go_wp2
      go_ret
      exact ⟨rfl, hB⟩
    have g0 : ((x.n : Int) == 0) = false := by rw [beq_eq_false_iff_ne]; omega
    have g0' : (x.n == 0) = false := by rw [beq_eq_false_iff_ne]; exact hn0
    by_cases hM0 : M < 1
    · have g1 : decide ((M : Int) < 1) = true := decide_eq_true (by omega)
      have g1' : decide (M < 1) = true := decide_eq_true hM0
      have g1'' : (M == 0) = true := by rw [beq_iff_eq]; omega
      have eg0 := bg.c0
      have eg1 := bg.c1
      have hc := alive8_any v2
      go_wp2_with fail
      clear eg0 eg1
      refine hc.mono ?_
      rintro e v3 ⟨rfl, hb⟩
      clear hc
      replace hx := hx.below hb
      replace h2 := h2.below hb
      replace bg := bg.below hb
      replace hB := hB.trans (hb.mono hB.size)
      clear hb
      have eg0 := bg.c0
      have eg1 := bg.c1
      go_wp2
      go_ret
      exact ⟨rfl, hB⟩
    have g1 : decide ((M : Int) < 1) = false := decide_eq_false (by omega)
    have g1' : decide (M < 1) = false := decide_eq_false hM0
    have g1'' : (M == 0) = false := by rw [beq_eq_false_iff_ne]; omega
    have gM : ((M : Int) == 0) = false := by rw [beq_eq_false_iff_ne]; omega
    obtain ⟨Y, hY⟩ : ∃ Y : Nat, y % M = Y := ⟨_, rfl⟩
    have hYM : Y < M := by rw [← hY]; exact Nat.mod_lt _ (by omega)
    have s2 : ((y : Int)).tmod (M : Int) = (Y : Int) := by
      rw [Int.tmod_eq_emod_of_nonneg (by omega), ← hY]; simp
    have sw : IntKind.i64.wrap (y : Int) = (y : Int) := by rw [IntKind.wrap_i64]; omega
    have hm00 : ¬ M = 0 := by omega
    obtain ⟨b0, hb0⟩ : ∃ b0 : Nat, z % x.n = b0 := ⟨_, rfl⟩
    have hb0n : b0 < x.n := by rw [← hb0]; exact Nat.mod_lt _ (by omega)
    have s3 : ((z : Int)).tmod (x.n : Int) = (b0 : Int) := by
      rw [Int.tmod_eq_emod_of_nonneg (by omega), ← hb0]; simp
    clear hY hb0
    have eg0 := bg.c0
    have eg1 := bg.c1
    have hc := gmanyC ⟨A2, x.n, c2, l⟩ v2 h2.ok
    rw [HK.out] at hc
    go_wp2_with fail
    clear eg0 eg1
    refine hc.mono ?_
    rintro e v3 ⟨rfl, hb⟩
    clear hc
    replace hx := hx.below hb
    replace h2 := h2.below hb
    replace bg := bg.below hb
    replace hB := hB.trans (hb.mono hB.size)
    clear hb
    clear h2
    obtain ⟨i0, hi0, hz0, hz1, hz2⟩ := info_parts infoM_int
    obtain ⟨i1, hi1, hy0, hy1, hy2⟩ := info_parts infoM_ints
    have hrs : Hid (∀ i, i < x.n → Rises M (x.g.getD i [])) := Lib.hid (fun i hi => (checkG_iff.1 HC.out).2.2.2 _ (getD_mem (by rw [HGL.out]; exact hi)))
    have eg0 := bg.c0
    have eg1 := bg.c1
    go_wp2_with fail
    clear eg0 eg1
    go_loopw [10, 11] (fun o v wr => ∃ (i : Nat) (A : Option Addr) (c : Nat) (t : List Ls), i ≤ x.n ∧ v = .int .i64 i ∧ o = .slice A i c ∧ Outs wr v3.heap.size A i c t ∧ Hid (Ls.all t = (x.g.take i).map (rowF Y)) ∧ Below v3.heap.size v3 wr) (fun _ v _ => x.n - (intOf v).toNat)
    case atStart => exact ⟨0, none, 0, [], Nat.zero_le _, rfl, rfl, Outs.none_ _ _, Lib.hid (by simp [Ls.all]), Below.refl _ _⟩
    case round =>
      obtain ⟨i, A, c, t, hi, rfl, rfl, ho, hall, hb1⟩ := hrel
      obtain ⟨wo, rfl⟩ : ∃ wo, wo = wr := ⟨_, rfl⟩
      by_cases hin : i < x.n
      · have hin' : (i : Int) < x.n := by omega
        obtain ⟨p, q, u, hA2, _, hgu, hp, hcu, hku⟩ := hx.get hin
        have hru := hrs.out i hin
        rw [hgu] at hru
        have hun8 : u.n ≤ 8 := by have := rises_len hru; rw [hku.len] at this; omega
        obtain ⟨uA, un, uc, ul⟩ := u
        unfold Ls.v at hcu
        simp only at hgu hru hcu hun8
        have hul : ul.length = un := hku.len
        have hurd := hku.rd
        simp only at hurd
        have HGU := Lib.hid hgu
        have HUL := Lib.hid hul
        have HRU := Lib.hid hru
        have hg0 : ∀ w', Below v3.heap.size v3 w' → w'.cell? ⟨w.heap.size, 0, none⟩ = some (.slice (some ⟨p, q, none⟩) x.n x.c) := fun w' hb => by rw [← hA2]; exact (bg.below hb).c0
        have hg1 : ∀ w', Below v3.heap.size v3 w' → w'.cell? ⟨w.heap.size, 1, none⟩ = some (.int .i64 (M : Int)) := fun w' hb => (bg.below hb).c1
        have hsz1 := hb1.size
        have e0 := (bg.below hb1).c0
        clear hgu hul hru hku hA2
        go_wp2_with fail
        clear e0
        go_loopw [12, 13] (fun o v wr => ∃ (j : Nat) (A2 : Option Addr) (n2 c2 : Nat), j ≤ un ∧ v = .int .i64 j ∧ o = .slice A2 n2 c2 ∧ OwnI wr wo.heap.size ⟨A2, n2, c2, rowF Y (ul.take j)⟩ ∧ Below wo.heap.size wo wr) (fun _ v _ => un - (intOf v).toNat)
        case atStart => exact ⟨0, none, 0, 0, Nat.zero_le _, rfl, rfl, OwnI.nil _ _, Below.refl _ _⟩
        case round =>
          obtain ⟨j, A2, n2, c2, hj, rfl, rfl, hO, hB2⟩ := hrel
          have hbel := hb1.trans (hB2.mono hsz1)
          have hlen := hO.len
          have hlf := rowF_len Y (ul.take j)
          rw [List.length_take] at hlf
          have hn2 : n2 ≤ 8 := by
            have h3 : (rowF Y (ul.take j)).length = n2 := hlen
            have := HUL.out
            omega
          clear hlen hlf
          have e0 := hg0 _ hbel
          have e1 := (hbel.cell (p := ⟨p, q + i, none⟩) hp).trans hcu
          by_cases hjn : j < un
          · have hjn' : (j : Int) < un := by omega
            have hjl : j < ul.length := by rw [HUL.out]; exact hjn
            obtain ⟨p2, q2, hA3, hp2, y0, hy0', hcy⟩ := hurd.get hjn
            subst hA3
            rw [ci64_get _ _ hjl] at hy0'
            obtain rfl : iV ul[j] = y0 := Option.some.inj hy0'
            unfold iV at hcy
            have hfit := HRU.out.1 _ (List.getElem_mem hjl)
            have hsuc := rowF_succ (y := Y) hjl
            obtain ⟨a, ha⟩ : ∃ a, ul[j] = a := ⟨_, rfl⟩
            rw [ha] at hcy hfit hsuc
            have HSUC := Lib.hid hsuc
            clear hy0' ha hsuc
            have HB2 := Lib.hid hB2
            have hS : ∀ w', Below v3.heap.size v3 w' → w'.cell? ⟨w.heap.size, 0, none⟩ = some (.slice (some ⟨p, q, none⟩) x.n x.c) ∧ w'.cell? ⟨w.heap.size, 1, none⟩ = some (.int .i64 (M : Int)) ∧ w'.cell? ⟨p, q + i, none⟩ = some (.slice (some ⟨p2, q2, none⟩) un uc) ∧ w'.cell? ⟨p2, q2 + j, none⟩ = some (.int .i64 a) := fun w' hb => ⟨hg0 _ hb, hg1 _ hb, (hb.cell (p := ⟨p, q + i, none⟩) hp).trans hcu, (hb.cell (p := ⟨p2, q2 + j, none⟩) hp2).trans hcy⟩
            go_wp2_with fail
            refine wp_region_ord (S := fun w' => w'.cell? ⟨w.heap.size, 0, none⟩ = some (.slice (some ⟨p, q, none⟩) x.n x.c) ∧ w'.cell? ⟨w.heap.size, 1, none⟩ = some (.int .i64 (M : Int)) ∧ w'.cell? ⟨p, q + i, none⟩ = some (.slice (some ⟨p2, q2, none⟩) un uc) ∧ w'.cell? ⟨p2, q2 + j, none⟩ = some (.int .i64 a)) [(0, true), (1, true), (2, true), (3, true), (4, true), (5, true), (6, true), (7, true), (8, true), (9, true), (10, true), (11, true), (12, true), (13, true)] default (by kernel_rfl) (by kernel_rfl) (by kernel_rfl) (hS _ (hbel.drew)) ?_
            simp only [getOrd, nth]
            obtain ⟨q1_0, hu0⟩ : ∃ q1_0, q1_0 = wr.drew := ⟨_, rfl⟩
            have b0 : Below v3.heap.size v3 q1_0 := by rw [hu0]; exact (hbel.drew)
            rw [← hu0]
            replace hO := hO.drew
            rw [← hu0] at hO
            replace hB2 := hB2.drew
            rw [← hu0] at hB2
            clear hu0
            repeat (first | (refine ordS (by rfl) ?_; simp only [Act.put, List.setIfInBounds_toArray, List.set_cons_zero, List.set_cons_succ]) | (refine ordN (by rfl) ?_; simp only [Act.put, List.setIfInBounds_toArray, List.set_cons_zero, List.set_cons_succ]) | (refine ordQ (v := ?_) (by rfl) (fun _ hSw => ?_) ?_; rotate_left; (focus ((have hS1 := hSw.1); (have hS2 := hSw.2.1); (have hS3 := hSw.2.2.1); (have hS4 := hSw.2.2.2); clear hSw; go_simp; (first | done | with_reducible rfl))); simp only [Act.put, List.setIfInBounds_toArray, List.set_cons_zero, List.set_cons_succ]))
            refine ordE ?_
            replace hbel := b0
            clear hS b0
            have f0 := hg0 _ hbel
            have f1 := (hbel.cell (p := ⟨p, q + i, none⟩) hp).trans hcu
            have f2 := (hbel.cell (p := ⟨p2, q2 + j, none⟩) hp2).trans hcy
            clear e0 e1
            by_cases hay : a = (Y : Int)
            · have k1 : (a != (Y : Int)) = false := by rw [hay]; simp
              have hO2 : OwnI q1_0 wo.heap.size ⟨A2, n2, c2, rowF Y (ul.take (j + 1))⟩ := by rw [HSUC.out, if_neg (by simpa using hay)]; simpa using hO
              clear hO HSUC hay HB2
              go_wp2
              go_roundw
              case rel => exact ⟨j + 1, A2, n2, c2, by omega, by go_num, rfl, hO2, hB2⟩
              case measure => simp [intOf]; omega
            · have k1 : (a != (Y : Int)) = true := by rw [bne_iff_ne]; exact hay
              have hszq := hB2.size
              have HAY := Lib.hid hay
              clear hay HB2
              go_wp2_with (at_builtin; go_must (refine wpList_app1 q1_0 rfl _ _ 25 rfl 3 i0 _ 8 Try.underlying25 hi0 hz0 hz1 hz2 rfl wo.heap.size A2 n2 c2 _ rfl hO.own 1 rfl rfl ?d3 ?d4 ?d5 ?_))
              case d3 => simp only [maxLen]; omega
              case d4 => omega
              try case d5 => exact hszq
              intro A7 c7 w7 hown7 hbel7 hfr7 hat7
              have hO2 : OwnI w7 wo.heap.size ⟨A7, n2 + 1, c7, rowF Y (ul.take (j + 1))⟩ := by
                refine ⟨?_, fun z hz => ?_⟩
                · show Own w7 wo.heap.size _ A7 (n2 + 1) c7 (ci64 (rowF Y (ul.take (j + 1))))
                  rw [HSUC.out, if_pos HAY.out, ci64_snoc6]; exact hown7
                · have h5 := HRU.out.1 z (List.mem_of_mem_take (List.mem_filter.1 hz).1)
                  omega
              have hB3 := hB2.trans hbel7
              clear hown7 hbel7 hfr7 hat7 hO HSUC
              go_wp2
              go_roundw
              case rel => exact ⟨j + 1, A7, n2 + 1, c7, by omega, by go_num, rfl, hO2, hB3⟩
              case measure => simp [intOf]; omega
          · obtain rfl : j = un := by omega
            rw [List.take_of_length_le (by rw [HUL.out]; exact Nat.le_refl _)] at hO
            have hall2 : Hid (Ls.all (t ++ [(⟨A2, n2, c2, rowF Y ul⟩ : Ls)]) = (x.g.take (i + 1)).map (rowF Y)) := Lib.hid (by
              have hil : i < x.g.length := by rw [HGL.out]; exact hin
              have hgi : x.g[i] = ul := by
                have := HGU.out
                rwa [List.getD_eq_getElem?_getD, List.getElem?_eq_getElem hil] at this
              rw [List.take_succ_eq_append_getElem hil, List.map_append, ← hall.out, hgi]
              simp [Ls.all])
            have houtr : Outs wr v3.heap.size A i c t := ho.below hB2
            have hsep : ∀ y ∈ t, ∀ g, Blk y g → g < wo.heap.size := fun y hy g hg => ((ho.each y hy).blk hg).2
            have hwor := hB2.size
            clear ho hall
            go_wp2_with (at_builtin; go_must (refine wpList_app1 wr rfl _ _ 22 rfl 25 i1 _ 24 Try.underlying22 hi1 hy0 hy1 hy2 rfl v3.heap.size A i c _ rfl houtr.own 1 rfl rfl ?e3 ?e4 ?e5 ?_))
            case e3 => simp only [maxLen]; omega
            case e4 => omega
            try case e5 => omega
            intro A3 c3 w3 hown3 hbel3 hfr3 hat3
            have hf3 : ∀ k, k < wr.heap.size → ((i = 0 ∧ c = 0) ∨ A ≠ some ⟨k, 0, none⟩) → w3.heap[k]? = wr.heap[k]? := fun k hk hh => hfr3 k hk hh
            have hout3 : Outs w3 v3.heap.size A3 (i + 1) c3 (t ++ [(⟨A2, n2, c2, rowF Y ul⟩ : Ls)]) := houtr.snoc hO hsz1 hsep hown3 hf3
            have hbel4 : Below v3.heap.size v3 w3 := hbel.trans hbel3
            clear hown3 hbel3 hfr3 hat3 houtr hO hsep hB2 e0 e1
            go_wp2
            go_roundw
            case rel => exact ⟨i + 1, A3, c3, _, by omega, by go_num, rfl, hout3, hall2, hbel4⟩
            case measure => simp [intOf]; omega
      · obtain rfl : i = x.n := by omega
        have hall2 : Ls.all t = lessG Y x.g := by
          rw [hall.out, List.take_of_length_le (by rw [HGL.out]; exact Nat.le_refl _)]; rfl
        have hxr := hx.below hb1
        have bgr := bg.below hb1
        have hB := hB.trans (hb1.mono hB.size)
        obtain ⟨e3, e4⟩ := most_ok (lessG_check (y := Y) HC.out)
        obtain ⟨e5, e6⟩ := most_ok (set_check (b := b0) HC.out)
        have hi1 := HI.out Y
        have hr1 := HR.out b0
        obtain ⟨la, hla⟩ : ∃ l, mostP (lessG Y x.g) M = l := ⟨_, rfl⟩
        obtain ⟨lb, hlb⟩ : ∃ l, mostP (x.g.set b0 []) M = l := ⟨_, rfl⟩
        rw [hla] at e4 hi1
        rw [hlb] at e6 hr1
        obtain ⟨ka, hka⟩ : ∃ k, manyG la = k := ⟨_, rfl⟩
        obtain ⟨kb, hkb⟩ : ∃ k, manyG lb = k := ⟨_, rfl⟩
        rw [hka] at hi1
        rw [hkb] at hr1
        have HALL := Lib.hid hall2
        have E3 := Lib.hid e3
        have E4 := Lib.hid e4
        have E5 := Lib.hid e5
        have E6 := Lib.hid e6
        have HKA := Lib.hid hka
        have HKB := Lib.hid hkb
        have hun : ∀ u ∈ x.t, u.n ≤ 1000000000 := fun u hu => by
          obtain ⟨i, hi, rfl⟩ := List.getElem_of_mem hu
          have h1 := hrs.out i (by rw [hx.len] at hi; exact hi)
          have h2 := rises_len h1
          have h3 : x.g.getD i [] = x.t[i].zs := by rw [Gr.g, Ls.all, List.getD_eq_getElem?_getD, List.getElem?_map, List.getElem?_eq_getElem hi]; rfl
          rw [h3, (hx.lss.ok _ hu).len] at h2
          omega
        have s4 : IntKind.i64.wrap ((k : Int) - 1) = (k : Int) - 1 := by rw [IntKind.wrap_i64]; omega
        have t1 : decide ((ka : Int) ≤ (k : Int)) = true := decide_eq_true (by omega)
        have t1' : decide (ka ≤ k) = true := decide_eq_true (by omega)
        have t2 : decide ((k : Int) - 1 ≤ (ka : Int)) = true := decide_eq_true (by omega)
        have t3 : decide ((kb : Int) ≤ (k : Int)) = true := decide_eq_true (by omega)
        have t3' : decide (kb ≤ k) = true := decide_eq_true (by omega)
        have t4 : decide ((k : Int) - 1 ≤ (kb : Int)) = true := decide_eq_true (by omega)
        clear hall hall2 e3 e4 e5 e6 hla hlb hka hkb
        have hxo := hxr
        have hoo := ho
        have bgo := bgr
        have hBo := hB
        have eg0 := bgr.c0
        have eg1 := bgr.c1
        have hc := twin_gr x wo hxr (by omega) hun
        rw [Vx.out] at hc
        go_wp2_with fail
        clear eg0 eg1
        refine hc.mono ?_
        rintro e v4 ⟨h, rfl, hh, hhg, hhn, hb⟩
        clear hc
        have hb99 := hb
        replace hxr := hxr.below hb
        replace ho := ho.below hb
        replace bgr := bgr.below hb
        replace hB := hB.trans (hb.mono hB.size)
        clear hb
        clear hun
        have hl9 := hh.lists
        obtain ⟨hA, hn, cH, ht⟩ := h
        simp only at hhn hl9
        subst hhn
        have hle9 := hl9.le
        obtain ⟨g9, rfl, hg9, hg9r⟩ := hl9.lt (by omega)
        have HHG : Hid (Ls.all ht = x.g) := Lib.hid hhg
        clear hhg
        have hfr9 := hl9.free (by omega) b0
        obtain ⟨vo, hvo⟩ : ∃ v, v4.cell? ⟨g9, b0, none⟩ = some v := by
          rw [hl9.cell hb0n]
          exact ⟨_, List.getElem?_eq_getElem (by rw [hl9.len]; exact hb0n)⟩
        have hb0n' : (b0 : Int) < x.n := by omega
        have b00 : (0 : Int) ≤ b0 := by omega
        have hput := own_put (u := Ls.nil) hl9 hb0n
        have hnil : Ls.v Ls.nil = .slice none 0 0 := rfl
        rw [hnil] at hput
        have heach : ∀ v ∈ ht.set b0 Ls.nil, v.Ok (v4.setCell ⟨g9, b0, none⟩ (.slice none 0 0)) := fun v hv => by
          rcases List.mem_or_eq_of_mem_set hv with h | h
          · exact ((hh.each v h).setL hl9 (by omega)).ok
          · rw [h]; exact (OwnI.nil _ 0).ok
        have hgr := own_lists hput heach
        have hbx : Below wo.heap.size wo (v4.setCell ⟨g9, b0, none⟩ (.slice none 0 0)) := hb99.setCell (p := ⟨g9, b0, none⟩) hg9 (.slice none 0 0)
        have hx6 := hxo.below hbx
        have ho6 := hoo.below hbx
        have bg6 := bgo.below hbx
        have hB := hBo.trans (hbx.mono hBo.size)
        have HG6 : Hid (Gr.g ⟨some ⟨g9, 0, none⟩, x.n, cH, ht.set b0 Ls.nil⟩ = x.g.set b0 []) := Lib.hid (setT_g HHG.out b0)
        clear hbx hb99 hxo hoo bgo hBo hput heach hnil hh hl9 hxr ho bgr
        unfold Gr.v
        simp only
        have eg0 := bg6.c0
        have eg1 := bg6.c1
        have eg0 := bg6.c0
        have eg1 := bg6.c1
        have hc := pmostC ⟨A, x.n, c, t⟩ M (v4.setCell ⟨g9, b0, none⟩ (.slice none 0 0)) ho6.gr (by omega) (by omega)
        rw [show Gr.v ⟨A, x.n, c, t⟩ = .slice A x.n c from rfl, show Gr.g ⟨A, x.n, c, t⟩ = lessG Y x.g from HALL.out, E3.out, E4.out] at hc
        go_wp2_with fail
        clear eg0 eg1
        generalize v4.setCell ⟨g9, b0, none⟩ (.slice none 0 0) = W5 at *
        refine hc.mono ?_
        rintro e v6 ⟨A7, n7, c7, rfl, h7, hb⟩
        clear hc
        replace hx6 := hx6.below hb
        replace ho6 := ho6.below hb
        replace hgr := hgr.below hb
        replace bg6 := bg6.below hb
        replace hB := hB.trans (hb.mono hB.size)
        clear hb
        have eg0 := bg6.c0
        have eg1 := bg6.c1
        have hc := pmostC ⟨some ⟨g9, 0, none⟩, x.n, cH, ht.set b0 Ls.nil⟩ M v6 hgr (by omega) (by omega)
        rw [show Gr.v ⟨some ⟨g9, 0, none⟩, x.n, cH, ht.set b0 Ls.nil⟩ = .slice (some ⟨g9, 0, none⟩) x.n cH from rfl, HG6.out, E5.out, E6.out] at hc
        go_wp2_with fail
        clear eg0 eg1
        refine hc.mono ?_
        rintro e v7 ⟨A8, n8, c8, rfl, h8, hb⟩
        clear hc
        replace hx6 := hx6.below hb
        replace ho6 := ho6.below hb
        replace hgr := hgr.below hb
        replace h7 := h7.below hb
        replace bg6 := bg6.below hb
        replace hB := hB.trans (hb.mono hB.size)
        clear hb
        have eg0 := bg6.c0
        have eg1 := bg6.c1
        have hc := alive8_any v7
        go_wp2_with fail
        clear eg0 eg1
        refine hc.mono ?_
        rintro e v8 ⟨rfl, hb⟩
        clear hc
        replace hx6 := hx6.below hb
        replace ho6 := ho6.below hb
        replace hgr := hgr.below hb
        replace h7 := h7.below hb
        replace h8 := h8.below hb
        replace bg6 := bg6.below hb
        replace hB := hB.trans (hb.mono hB.size)
        clear hb
        have eg0 := bg6.c0
        have eg1 := bg6.c1
        have hc := gmanyC ⟨A7, n7, c7, la⟩ v8 h7.ok
        rw [HKA.out] at hc
        go_wp2_with fail
        clear eg0 eg1
        refine hc.mono ?_
        rintro e v9 ⟨rfl, hb⟩
        clear hc
        replace hx6 := hx6.below hb
        replace ho6 := ho6.below hb
        replace hgr := hgr.below hb
        replace h7 := h7.below hb
        replace h8 := h8.below hb
        replace bg6 := bg6.below hb
        replace hB := hB.trans (hb.mono hB.size)
        clear hb
        have eg0 := bg6.c0
        have eg1 := bg6.c1
        have hc := gmanyC ⟨A7, n7, c7, la⟩ v9 h7.ok
        rw [HKA.out] at hc
        go_wp2_with fail
        clear eg0 eg1
        refine hc.mono ?_
        rintro e v10 ⟨rfl, hb⟩
        clear hc
        replace hx6 := hx6.below hb
        replace ho6 := ho6.below hb
        replace hgr := hgr.below hb
        replace h7 := h7.below hb
        replace h8 := h8.below hb
        replace bg6 := bg6.below hb
        replace hB := hB.trans (hb.mono hB.size)
        clear hb
        have eg0 := bg6.c0
        have eg1 := bg6.c1
        have hc := gmanyC ⟨A8, n8, c8, lb⟩ v10 h8.ok
        rw [HKB.out] at hc
        go_wp2_with fail
        clear eg0 eg1
        refine hc.mono ?_
        rintro e v11 ⟨rfl, hb⟩
        clear hc
        replace hx6 := hx6.below hb
        replace ho6 := ho6.below hb
        replace hgr := hgr.below hb
        replace h7 := h7.below hb
        replace h8 := h8.below hb
        replace bg6 := bg6.below hb
        replace hB := hB.trans (hb.mono hB.size)
        clear hb
        have eg0 := bg6.c0
        have eg1 := bg6.c1
        have hc := gmanyC ⟨A8, n8, c8, lb⟩ v11 h8.ok
        rw [HKB.out] at hc
        go_wp2_with fail
        clear eg0 eg1
        refine hc.mono ?_
        rintro e v12 ⟨rfl, hb⟩
        clear hc
        replace hx6 := hx6.below hb
        replace ho6 := ho6.below hb
        replace hgr := hgr.below hb
        replace h7 := h7.below hb
        replace h8 := h8.below hb
        replace bg6 := bg6.below hb
        replace hB := hB.trans (hb.mono hB.size)
        clear hb
        have eg0 := bg6.c0
        have eg1 := bg6.c1
        go_wp2
        go_ret
        exact ⟨rfl, hB⟩

theorem own : ownKnob Try.prog.godebug = none := by kernel_rfl
theorem laidOut : laidOutB Try.prog = true := by kernel_rfl

set_option maxRecDepth 100000 in
theorem lifted (os : Os) (started : os.Started) (H : Type) (enc : TypeId × Value → H) :
    ReturnsInHanded {} Try.checked os 7 .any (Rows.matchingsLessSpec.pre6 enc Try.prog Try.f7 Rows.matchingsLessRow.domain false) (Rows.matchingsLessSpec.post enc Try.prog Try.f7 false true false false) := by
  refine returnsInHanded_of_change (C := Try.checked) own started (by kernel_rfl) Try.func7
    (ChangeSpec.witness6 (enc := enc) (C := Try.checked) false ⟨#[], #[.agg #[.slice none 0 0, .int .i64 0], .int .u8 0, .int .u8 0], []⟩ 8 (by kernel_rfl) (by kernel_rfl) (by kernel_rfl) (by kernel_rfl)) ?_
  intro W base args ds gs before hval0 hW hcnd _
  have hval : ∀ (j : Nat) t v, Try.f7.params[j]? = some t → args[j]? = some v → Value.okWide Try.prog W .any base t v := hval0
  have hW' := hW
  obtain ⟨p, q, hA0, hV, rfl, hfz, hnd⟩ := hW
  have hA : DataW.TrodAll enc Try.prog W 0 (fun _ => true) true Try.f7.params.toList args.toList ds p := hA0
  rw [Try.params7] at hA hval
  obtain ⟨v0, vs0, d0, ds0, p0, q0, hargs, rfl, rfl, h0, r0⟩ := trodAll_cons hA
  obtain ⟨v1, vs1, d1, ds1, p1, q1, rfl, rfl, rfl, h1, r1⟩ := trodAll_cons r0
  obtain ⟨v2, vs2, d2, ds2, p2, q2, rfl, rfl, rfl, h2, r2⟩ := trodAll_cons r1
  obtain ⟨rfl, rfl, rfl⟩ := trodAll_nil r2
  obtain rfl : args = #[v0, v1, v2] := by cases args; simp_all
  obtain ⟨u0, m0, rfl, k0, a0, b0⟩ := arg_gr Try.underlying24 (by kernel_rfl) (by kernel_rfl) Try.underlying22 Try.underlying3 Try.underlying25 (by kernel_rfl) Try.underlying3 (by kernel_rfl) (hval 0 24 v0 rfl rfl) h0
  obtain ⟨x1, rfl, rfl, rfl, w1⟩ := open_int Try.underlying5 (hval 1 5 v1 rfl rfl) h1
  obtain ⟨y1, rfl, z1⟩ := fit_u8 w1
  obtain ⟨x2, rfl, rfl, rfl, w2⟩ := open_int Try.underlying5 (hval 2 5 v2 rfl rfl) h2
  obtain ⟨y2, rfl, z2⟩ := fit_u8 w2
  have hwalk : Calls Try.prog 7 #[.agg #[u0.v, .int .i64 m0], .int .u8 y1, .int .u8 y2] W fun e w' => e = .returned (.bool true) ∧ Below W.heap.size W w' := walk u0 m0 y1 y2 W k0 a0 b0 z1 z2
  refine hwalk.mono fun e W' ⟨he, hg⟩ => ?_
  subst he
  exact ⟨_, rfl, law_post laidOut (by kernel_rfl) hW' rfl rfl (by kernel_rfl) Try.underlying4 hg⟩

theorem over : Rows.matchingsLessRow.holds Try.pinned (OpenSpec.ofChange Rows.matchingsLessSpec) :=
  OpenClaim.holds_of_wide 7 Try.f7 rfl rfl rfl rfl rfl rfl rfl ⟨rfl, rfl, rfl, rfl, rfl⟩ rfl rfl rfl rfl rfl (by kernel_rfl) Try.func7 (by kernel_rfl)
    (of_decide_eq_true (by kernel_rfl)) (by unfold Func.isWrapper; first | (rw [if_pos (by decide +kernel)]; kernel_rfl) | (rw [if_neg (by decide +kernel)]; exact ⟨rfl, rfl⟩))
    (fun os started H enc _ => lifted os started H enc)

theorem proved : Rows.MatchingsLessSaid :=
  over

end Go.Proofs.Ytcjfgkihmhdhlaa.matchingsLess
