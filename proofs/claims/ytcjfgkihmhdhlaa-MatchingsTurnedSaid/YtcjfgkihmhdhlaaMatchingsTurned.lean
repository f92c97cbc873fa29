/-
  Proved: salesroomlaw08.MatchingsTurned answers true, for any lists, any items, any item that one more may have, in whatever memory. No conditions.
-/
import Derived.Test.YtcjfgkihmhdhlaaRows
import Derived.Test.YtcjfgkihmhdhlaaLift
import Derived.Test.YtcjfgkihmhdhlaaAlive8
import Derived.Test.YtcjfgkihmhdhlaaGrM
import Derived.Test.YtcjfgkihmhdhlaaMaP
import Derived.Test.YtcjfgkihmhdhlaaMaL
import Derived.Test.YtcjfgkihmhdhlaaGrN
import Derived.Test.YtcjfgkihmhdhlaaReg
namespace Go.Proofs.Ytcjfgkihmhdhlaa.matchingsTurned
open Go.ChangeShapes Go.WideShapes Go.ChangeAt Go.RowKit
set_option linter.unusedVariables false

/-- A row with one item more. -/
def oneB (y : Nat) (l : List Int) (k : Nat) : Bool := decide (k = y) || decide ((k : Int) ∈ l)
def oneG (g : List (List Int)) (m b y : Nat) : List (List Int) := g.set b (upto m (oneB y (g.getD b [])))
theorem oneG_get {g : List (List Int)} {m b y : Nat} (hb : b < g.length) (i : Nat) : (oneG g m b y).getD i [] = if i = b then upto m (oneB y (g.getD b [])) else g.getD i [] := by
  rw [oneG, List.getD_eq_getElem?_getD, List.getElem?_set, List.getD_eq_getElem?_getD]
  by_cases h : b = i
  · subst h; simp [hb]
  · rw [if_neg h, if_neg (fun h' => h h'.symm), List.getD_eq_getElem?_getD]
theorem oneG_check {g : List (List Int)} {m b y : Nat} (h : checkG g m = true) : checkG (oneG g m b y) m = true := by
  obtain ⟨h1, h2, h3, h4⟩ := checkG_iff.1 h
  refine checkG_iff.2 ⟨h1, h2, by simpa [oneG] using h3, fun l hl => ?_⟩
  rcases List.mem_or_eq_of_mem_set hl with h | h
  · exact h4 l h
  · rw [h]; exact upto_rises _ _
theorem more_many {g : List (List Int)} {m b y : Nat} (hc : checkG g m = true) (hb : b < g.length) : manyG (mostP g m) ≤ manyG (mostP (oneG g m b y) m) ∧ manyG (mostP (oneG g m b y) m) ≤ manyG (mostP g m) + 1 := by
  refine ⟨most_mono (oneG_check hc) hc (by simp [oneG]) fun i k hk => ?_, most_row hc (oneG_check hc) (by simp [oneG]) (j := b) fun i k hi hk => ?_⟩
  · rw [oneG_get hb]
    by_cases h : i = b
    · rw [if_pos h]
      rw [h] at hk
      have hr := ((checkG_iff.1 hc).2.2.2 _ (getD_mem hb)).1 k hk
      obtain ⟨k, rfl⟩ : ∃ y : Nat, k = y := ⟨k.toNat, by omega⟩
      exact mem_upto_nat.2 ⟨by omega, by rw [oneB, Bool.or_eq_true]; exact .inr (decide_eq_true hk)⟩
    · rwa [if_neg h]
  · rw [oneG_get hb, if_neg hi] at hk
    exact hk
theorem many_items {g : List (List Int)} {m : Nat} (hc : checkG g m = true) : manyG (mostP g m) ≤ m := by
  have h1 := hall_le (most_end hc).fit fun _ => true
  have h2 := upto_all_len g.length
  have h3 : (nearG g m (upto g.length fun _ => true)).length ≤ m := upto_len _ _
  omega
theorem setT_u {t : List Ls} {g : List (List Int)} (h : Ls.all t = g) (b : Nat) (u : Ls) : Ls.all (t.set b u) = g.set b u.zs := by
  rw [← h, Ls.all, Ls.all, List.map_set]

set_option maxRecDepth 100000 in
set_option maxHeartbeats 4000000 in
theorem walk (x : Gr) (m : Int) (y z : Nat) (w : World) (h : x.Ok w) (hm1 : -9223372036854775808 ≤ m) (hm2 : m ≤ 9223372036854775807) (hy : y < 256) (hz : z < 256) :
    Calls Try.prog 5 #[.agg #[x.v, .int .i64 m], .int .u8 y, .int .u8 z] w fun e w' => e = .returned (.bool true) ∧ Below w.heap.size w w' := by
  have hx := h
  have hB := Below.refl w.heap.size w
  have hxv : x.v = .slice x.A x.n x.c := rfl
  have Vx := Lib.hid hxv
  rw [hxv]
  have hgl := h.glen
  have HGL := Lib.hid hgl
  have htop := Nat.le_trans h.cap h.top
  unfold maxLen at htop
  obtain ⟨B, hB0⟩ : ∃ B, checkG x.g m = B := ⟨_, rfl⟩
  clear hxv hgl h
  go_enter Try.func5, Try.ntmps5
  have bg := GBox.new w x m
  have hbx : Below w.heap.size w (w.alloc (.cells #[.slice x.A x.n x.c, .int .i64 m] 24)) := (Below.refl _ w).alloc (Nat.le_refl _) _
  replace hx := hx.below hbx
  replace hB := hB.trans (hbx.mono hB.size)
  clear hbx
  cases B
  · obtain ⟨e1, e2⟩ := most_bad hB0
    have E1 := Lib.hid e1
    have E2 := Lib.hid e2
    have HC := Lib.hid hB0
    clear e1 e2 hB0
    have E3 := Lib.hid (turned_err_bad HC.out)
    have E4 := Lib.hid (turned_bad HC.out)
    have eg0 := bg.c0
    have eg1 := bg.c1
    have hc := pmostC x m (w.alloc (.cells #[.slice x.A x.n x.c, .int .i64 m] 24)) hx hm1 hm2
    rw [Vx.out, E1.out, E2.out] at hc
    go_wp2_with fail
    clear eg0 eg1
    generalize w.alloc (.cells #[.slice x.A x.n x.c, .int .i64 m] 24) = W1 at *
    refine hc.mono ?_
    rintro e v2 ⟨A2, n2, c2, rfl, h2, hb⟩
    clear hc
    replace hx := hx.below hb
    replace bg := bg.below hb
    replace hB := hB.trans (hb.mono hB.size)
    clear hb
    clear h2
    have eg0 := bg.c0
    have eg1 := bg.c1
    have hc := gturnedC x m v2 hx hm1 hm2
    rw [Vx.out, E3.out] at hc
    go_wp2_with fail
    clear eg0 eg1
    refine hc.mono ?_
    rintro e v3 ⟨A3, n3, c3, rfl, t3, h3, hq3, hb⟩
    clear hc
    replace hx := hx.below hb
    replace bg := bg.below hb
    replace hB := hB.trans (hb.mono hB.size)
    clear hb
    clear h3 hq3
    have eg0 := bg.c0
    have eg1 := bg.c1
    have hc := alive8_any v3
    go_wp2_with fail
    clear eg0 eg1
    refine hc.mono ?_
    rintro e v4 ⟨rfl, hb⟩
    clear hc
    replace hx := hx.below hb
    replace bg := bg.below hb
    replace hB := hB.trans (hb.mono hB.size)
    clear hb
    have eg0 := bg.c0
    have eg1 := bg.c1
    go_wp2
    go_ret
    exact ⟨rfl, hB⟩
  · obtain ⟨M, rfl⟩ : ∃ M : Nat, m = M := ⟨m.toNat, by have := (checkG_iff.1 hB0).1; omega⟩
    obtain ⟨e1, e2⟩ := most_ok hB0
    have E1 := Lib.hid e1
    have E2 := Lib.hid e2
    have HC := Lib.hid hB0
    have hM8 : M ≤ 8 := by have := (checkG_iff.1 HC.out).2.1; omega
    have hx8 : x.n ≤ 8 := by have := (checkG_iff.1 HC.out).2.2.1; rw [HGL.out] at this; exact this
    clear e1 e2 hB0 hm1 hm2
    have hll : (mostP x.g M).length = x.n := by rw [most_len HC.out, HGL.out]
    have hct := turnedG_check HC.out
    obtain ⟨e3, e4⟩ := most_ok hct
    have hmt := most_turned HC.out
    have hone : ∀ b y, b < x.n → manyG (mostP x.g M) ≤ manyG (mostP (oneG x.g M b y) M) ∧ manyG (mostP (oneG x.g M b y) M) ≤ manyG (mostP x.g M) + 1 := fun b y hb => more_many HC.out (by rw [HGL.out]; exact hb)
    have hit := many_items HC.out
    obtain ⟨l, hl⟩ : ∃ l, mostP x.g M = l := ⟨_, rfl⟩
    rw [hl] at E2 hll hone hmt hit
    obtain ⟨k, hk⟩ : ∃ k, manyG l = k := ⟨_, rfl⟩
    rw [hk] at hone hmt hit
    have hkl : k ≤ x.n := by rw [← hk, ← hll]; exact many_le l
    obtain ⟨l2, hl2⟩ : ∃ l, mostP (turnedG x.g M) x.g.length = l := ⟨_, rfl⟩
    rw [hl2] at e4 hmt
    rw [HGL.out] at e3 e4
    have HK := Lib.hid hk
    have HK2 := Lib.hid hmt
    have HO := Lib.hid hone
    have HLL := Lib.hid hll
    have E3 := Lib.hid e3
    have E4 := Lib.hid e4
    have T1 := Lib.hid (turned_err HC.out)
    have T2 := Lib.hid (turned_ans HC.out)
    clear hll hone hl hk hct e3 e4 hmt hl2
    have eg0 := bg.c0
    have eg1 := bg.c1
    have hc := pmostC x M (w.alloc (.cells #[.slice x.A x.n x.c, .int .i64 (M : Int)] 24)) hx (by omega) (by omega)
    rw [Vx.out, E1.out, E2.out] at hc
    go_wp2_with fail
    clear eg0 eg1
    generalize w.alloc (.cells #[.slice x.A x.n x.c, .int .i64 (M : Int)] 24) = W1 at *
    refine hc.mono ?_
    rintro e v2 ⟨A2, n2, c2, rfl, h2, hb⟩
    clear hc
    replace hx := hx.below hb
    replace bg := bg.below hb
    replace hB := hB.trans (hb.mono hB.size)
    clear hb
    obtain rfl : n2 = x.n := by have := h2.len; rw [← HLL.out]; exact this.symm
    have eg0 := bg.c0
    have eg1 := bg.c1
    have hc := gturnedC x M v2 hx (by omega) (by omega)
    rw [Vx.out, T1.out, T2.out] at hc
    go_wp2_with fail
    clear eg0 eg1
    refine hc.mono ?_
    rintro e v3 ⟨A3, n3, c3, rfl, t3, h3, hq3, hb⟩
    clear hc
    replace hx := hx.below hb
    replace h2 := h2.below hb
    replace bg := bg.below hb
    replace hB := hB.trans (hb.mono hB.size)
    clear hb
    have HQ3 := Lib.hid hq3
    clear hq3
    have eg0 := bg.c0
    have eg1 := bg.c1
    have hc := pmostC ⟨A3, n3, c3, t3⟩ x.n v3 h3.gr (by omega) (by omega)
    rw [show Gr.v ⟨A3, n3, c3, t3⟩ = .slice A3 n3 c3 from rfl, show Gr.g ⟨A3, n3, c3, t3⟩ = turnedG x.g M from HQ3.out, E3.out, E4.out] at hc
    go_wp2_with fail
    clear eg0 eg1
    refine hc.mono ?_
    rintro e v4 ⟨A4, n4, c4, rfl, h4, hb⟩
    clear hc
    replace hx := hx.below hb
    replace h2 := h2.below hb
    replace h3 := h3.below hb
    replace bg := bg.below hb
    replace hB := hB.trans (hb.mono hB.size)
    clear hb
    clear h3
    have eg0 := bg.c0
    have eg1 := bg.c1
    have hc := gmanyC ⟨A4, n4, c4, l2⟩ v4 h4.ok
    rw [HK2.out] at hc
    go_wp2_with fail
    clear eg0 eg1
    refine hc.mono ?_
    rintro e v5 ⟨rfl, hb⟩
    clear hc
    replace hx := hx.below hb
    replace h2 := h2.below hb
    replace h4 := h4.below hb
    replace bg := bg.below hb
    replace hB := hB.trans (hb.mono hB.size)
    clear hb
    have eg0 := bg.c0
    have eg1 := bg.c1
    have hc := gmanyC ⟨A2, x.n, c2, l⟩ v5 h2.ok
    rw [HK.out] at hc
    go_wp2_with fail
    clear eg0 eg1
    refine hc.mono ?_
    rintro e v6 ⟨rfl, hb⟩
    clear hc
    replace hx := hx.below hb
    replace h2 := h2.below hb
    replace h4 := h4.below hb
    replace bg := bg.below hb
    replace hB := hB.trans (hb.mono hB.size)
    clear hb
    clear h4
    have hkk : ((k : Int) != (k : Int)) = false := by simp
    by_cases hn0 : x.n = 0
    · have g0 : ((x.n : Int) == 0) = true := by rw [beq_iff_eq]; omega
      have g0' : (x.n == 0) = true := by rw [beq_iff_eq]; exact hn0
      obtain rfl : k = 0 := by omega
      clear hn0
      have eg0 := bg.c0
      have eg1 := bg.c1
      have hc := alive8_any v6
      go_wp2_with fail
      clear eg0 eg1
      refine hc.mono ?_
      rintro e v7 ⟨rfl, hb⟩
      clear hc
      replace hx := hx.below hb
      replace h2 := h2.below hb
      replace bg := bg.below hb
      replace hB := hB.trans (hb.mono hB.size)
      clear hb
      have eg0 := bg.c0
      have eg1 := bg.c1
      have hc := gmanyC ⟨A2, x.n, c2, l⟩ v7 h2.ok
      rw [HK.out] at hc
      go_wp2_with fail
      clear eg0 eg1
      refine hc.mono ?_
      rintro e v8 ⟨rfl, hb⟩
      clear hc
      replace hx := hx.below hb
      replace h2 := h2.below hb
      replace bg := bg.below hb
      replace hB := hB.trans (hb.mono hB.size)
      clear hb
      have eg0 := bg.c0
      have eg1 := bg.c1
      go_wp2
      go_ret
      exact ⟨rfl, hB⟩
    have g0 : ((x.n : Int) == 0) = false := by rw [beq_eq_false_iff_ne]; omega
    have g0' : (x.n == 0) = false := by rw [beq_eq_false_iff_ne]; exact hn0
    by_cases hM0 : M < 1
    · have g1 : decide ((M : Int) < 1) = true := decide_eq_true (by omega)
      have g1' : decide (M < 1) = true := decide_eq_true hM0
      have g1'' : (M == 0) = true := by rw [beq_iff_eq]; omega
      obtain rfl : k = 0 := by omega
      have eg0 := bg.c0
      have eg1 := bg.c1
      have hc := alive8_any v6
      go_wp2_with fail
      clear eg0 eg1
      refine hc.mono ?_
      rintro e v7 ⟨rfl, hb⟩
      clear hc
      replace hx := hx.below hb
      replace h2 := h2.below hb
      replace bg := bg.below hb
      replace hB := hB.trans (hb.mono hB.size)
      clear hb
      have eg0 := bg.c0
      have eg1 := bg.c1
      have hc := gmanyC ⟨A2, x.n, c2, l⟩ v7 h2.ok
      rw [HK.out] at hc
      go_wp2_with fail
      clear eg0 eg1
      refine hc.mono ?_
      rintro e v8 ⟨rfl, hb⟩
      clear hc
      replace hx := hx.below hb
      replace h2 := h2.below hb
      replace bg := bg.below hb
      replace hB := hB.trans (hb.mono hB.size)
      clear hb
      have eg0 := bg.c0
      have eg1 := bg.c1
      go_wp2
      go_ret
      exact ⟨rfl, hB⟩
    have g1 : decide ((M : Int) < 1) = false := decide_eq_false (by omega)
    have g1' : decide (M < 1) = false := decide_eq_false hM0
    have g1'' : (M == 0) = false := by rw [beq_eq_false_iff_ne]; omega
    have gM : ((M : Int) == 0) = false := by rw [beq_eq_false_iff_ne]; omega
    obtain ⟨Y, hY⟩ : ∃ Y : Nat, z % M = Y := ⟨_, rfl⟩
    have hYM : Y < M := by rw [← hY]; exact Nat.mod_lt _ (by omega)
    have s2 : ((z : Int)).tmod (M : Int) = (Y : Int) := by
      rw [Int.tmod_eq_emod_of_nonneg (by omega), ← hY]; simp
    have hm00 : ¬ M = 0 := by omega
    obtain ⟨b0, hb0⟩ : ∃ b0 : Nat, y % x.n = b0 := ⟨_, rfl⟩
    have hb0n : b0 < x.n := by rw [← hb0]; exact Nat.mod_lt _ (by omega)
    have s3 : ((y : Int)).tmod (x.n : Int) = (b0 : Int) := by
      rw [Int.tmod_eq_emod_of_nonneg (by omega), ← hb0]; simp
    have hrs : Hid (∀ i, i < x.n → Rises M (x.g.getD i [])) := Lib.hid (fun i hi => (checkG_iff.1 HC.out).2.2.2 _ (getD_mem (by rw [HGL.out]; exact hi)))
    have hun : ∀ u ∈ x.t, u.n ≤ 1000000000 := fun u hu => by
      obtain ⟨i, hi, rfl⟩ := List.getElem_of_mem hu
      have h1 := hrs.out i (by rw [hx.len] at hi; exact hi)
      have h2 := rises_len h1
      have h3 : x.g.getD i [] = x.t[i].zs := by rw [Gr.g, Ls.all, List.getD_eq_getElem?_getD, List.getElem?_map, List.getElem?_eq_getElem hi]; rfl
      rw [h3, (hx.lss.ok _ hu).len] at h2
      omega
    clear hY hb0
    have hxo := hx
    have h2o := h2
    have bgo := bg
    have hBo := hB
    have eg0 := bg.c0
    have eg1 := bg.c1
    have hc := twin_gr x v6 hx (by omega) hun
    rw [Vx.out] at hc
    go_wp2_with fail
    clear eg0 eg1
    refine hc.mono ?_
    rintro e v7 ⟨h, rfl, hh, hhg, hhn, hb⟩
    clear hc
    have hb99 := hb
    replace hx := hx.below hb
    replace h2 := h2.below hb
    replace bg := bg.below hb
    replace hB := hB.trans (hb.mono hB.size)
    clear hb
    clear hun
    have hl9 := hh.lists
    obtain ⟨hA, hn, cH, ht⟩ := h
    simp only at hhn hl9
    subst hhn
    have hle9 := hl9.le
    obtain ⟨g9, rfl, hg9, hg9r⟩ := hl9.lt (by omega)
    have HHG : Hid (Ls.all ht = x.g) := Lib.hid hhg
    clear hhg
    have hfr9 := hl9.free (by omega) b0
    obtain ⟨vo, hvo⟩ : ∃ v, v7.cell? ⟨g9, b0, none⟩ = some v := by
      rw [hl9.cell hb0n]
      exact ⟨_, List.getElem?_eq_getElem (by rw [hl9.len]; exact hb0n)⟩
    have hb0n' : (b0 : Int) < x.n := by omega
    have b00 : (0 : Int) ≤ b0 := by omega
    have hput := own_put (u := Ls.nil) hl9 hb0n
    have hnil : Ls.v Ls.nil = .slice none 0 0 := rfl
    rw [hnil] at hput
    have heach : Hid (∀ v ∈ ht, Twn (v7.setCell ⟨g9, b0, none⟩ (.slice none 0 0)) v6.heap.size v) := Lib.hid fun v hv => (hh.each v hv).setL hl9 (by omega)
    have hbx : Below v6.heap.size v6 (v7.setCell ⟨g9, b0, none⟩ (.slice none 0 0)) := hb99.setCell (p := ⟨g9, b0, none⟩) hg9 (.slice none 0 0)
    have hg9s : g9 < (v7.setCell ⟨g9, b0, none⟩ (.slice none 0 0)).heap.size := by simpa [World.setCell] using hg9r
    -- the bidder's own list
    obtain ⟨p, q, u, hA2, _, hgu, hp, hcu, hku⟩ := hxo.get hb0n
    have hru := hrs.out b0 hb0n
    rw [hgu] at hru
    obtain ⟨uA, un, uc, ul⟩ := u
    unfold Ls.v at hcu
    simp only at hgu hru hcu
    have hun8 : un ≤ 8 := by have h1 := rises_len hru; have h2 : ul.length = un := hku.len; omega
    have HUL : Hid (ul.length = un) := Lib.hid hku.len
    have hurd := hku.rd
    simp only at hurd
    have HGU := Lib.hid hgu
    have HRU := Lib.hid hru
    have hg0 : ∀ w', Below v6.heap.size v6 w' → w'.cell? ⟨w.heap.size, 0, none⟩ = some (.slice (some ⟨p, q, none⟩) x.n x.c) := fun w' hb => by rw [← hA2]; exact (bgo.below hb).c0
    have hg1 : ∀ w', Below v6.heap.size v6 w' → w'.cell? ⟨w.heap.size, 1, none⟩ = some (.int .i64 (M : Int)) := fun w' hb => (bgo.below hb).c1
    obtain ⟨i0, hi0, hz0, hz1, hz2⟩ := info_parts infoM_int
    have e0 := hg0 _ hb99
    clear hb99 hh hl9 hx h2 bg hB hgu hru hku hA2 hnil
    unfold Gr.v
    simp only
    go_wp2_with fail
    clear e0 hfr9 hvo
    obtain ⟨w6, hw6⟩ : ∃ w6, w6 = v7.setCell ⟨g9, b0, none⟩ (.slice none 0 0) := ⟨_, rfl⟩
    rw [← hw6] at hput heach hbx hg9s ⊢
    clear hw6 hg9r
    go_loopw [15] (fun v wr => ∃ (j : Nat) (Au : Option Addr) (nu cu : Nat), j ≤ M ∧ v = .int .i64 j ∧ Own wr v6.heap.size 25 (some ⟨g9, 0, none⟩) x.n cH ((ht.set b0 ⟨Au, nu, cu, upto j (oneB Y ul)⟩).map Ls.v) ∧ OwnI wr w6.heap.size ⟨Au, nu, cu, upto j (oneB Y ul)⟩ ∧ (∀ g, g < w6.heap.size → g ≠ g9 → wr.heap[g]? = w6.heap[g]?) ∧ w6.heap.size ≤ wr.heap.size ∧ Below v6.heap.size v6 wr) (fun v _ => M - (intOf v).toNat)
    case atStart => exact ⟨0, none, 0, 0, Nat.zero_le _, rfl, hput, OwnI.nil _ _, fun _ _ _ => rfl, Nat.le_refl _, hbx⟩
    case round =>
      obtain ⟨j, Au, nu, cu, hj, rfl, own, hO, hkp, hsz, hbel⟩ := hrel
      obtain ⟨wo, rfl⟩ : ∃ wo, wo = wr := ⟨_, rfl⟩
      have e0 := hg0 _ hbel
      have e1 := hg1 _ hbel
      have e2 := (hbel.cell (p := ⟨p, q + b0, none⟩) hp).trans hcu
      by_cases hjM : j < M
      · have hjM' : (j : Int) < M := by omega
        have hst : Hid (((j : Int) == (Y : Int)) = (decide (j = Y) || decide ((j : Int) ∈ ul.take 0))) := Lib.hid (by
          rw [List.take_zero, Bool.eq_iff_iff, beq_iff_eq, Bool.or_eq_true, decide_eq_true_eq, decide_eq_true_eq]
          simp; omega)
        have hlen := hO.len
        have hul := upto_len j (oneB Y ul)
        have hsnoc : Hid (upto (j + 1) (oneB Y ul) = upto j (oneB Y ul) ++ if oneB Y ul j = true then [(j : Int)] else []) := Lib.hid (upto_succ j _)
        have hnu : nu ≤ 8 := by have h3 : (upto j (oneB Y ul)).length = nu := hlen; omega
        obtain ⟨β0, hβ0⟩ : ∃ β, ((j : Int) == (Y : Int)) = β := ⟨_, rfl⟩
        have HB0 : Hid (β0 = (decide (j = Y) || decide ((j : Int) ∈ ul.take 0))) := Lib.hid (by rw [← hβ0]; exact hst.out)
        clear hst hlen hul
        go_wp2_with fail
        clear hβ0
        go_loop [16, 17] (fun o v => ∃ (r : Nat), r ≤ un ∧ v = .int .i64 r ∧ ∃ β, o = .bool β ∧ Hid (β = (decide (j = Y) || decide ((j : Int) ∈ ul.take r)))) (fun _ v => un - (intOf v).toNat)
        case atStart => exact ⟨0, Nat.zero_le _, rfl, β0, rfl, HB0⟩
        case round =>
          obtain ⟨r, hr, rfl, β, rfl, hβ⟩ := hrel
          by_cases hru : r < un
          · have hru' : (r : Int) < un := by omega
            have hrl : r < ul.length := by rw [HUL.out]; exact hru
            obtain ⟨p2, q2, hA3, hp2, y0, hy0', hcy⟩ := hurd.get hru
            subst hA3
            rw [ci64_get _ _ hrl] at hy0'
            obtain rfl : iV ul[r] = y0 := Option.some.inj hy0'
            unfold iV at hcy
            have hfit := HRU.out.1 _ (List.getElem_mem hrl)
            have htk : ul.take (r + 1) = ul.take r ++ [ul[r]] := List.take_succ_eq_append_getElem hrl
            obtain ⟨a, ha⟩ : ∃ a, ul[r] = a := ⟨_, rfl⟩
            rw [ha] at hcy hfit htk
            have hcw := (hbel.cell (p := ⟨p2, q2 + r, none⟩) hp2).trans hcy
            obtain ⟨γ, hγ⟩ : ∃ γ, (a == (j : Int)) = γ := ⟨_, rfl⟩
            have HN : Hid ((β || γ) = (decide (j = Y) || decide ((j : Int) ∈ ul.take (r + 1)))) := Lib.hid (by
              rw [htk, hβ.out, ← hγ, Bool.eq_iff_iff]
              simp only [Bool.or_eq_true, decide_eq_true_eq, beq_iff_eq, List.mem_append, List.mem_singleton]
              constructor
              · rintro ((h | h) | h)
                · exact .inl h
                · exact .inr (.inl h)
                · exact .inr (.inr h.symm)
              · rintro (h | h | h)
                · exact .inl (.inl h)
                · exact .inl (.inr h)
                · exact .inr h.symm)
            clear hy0' ha hcy htk hβ
            cases β
            · go_wp2
              go_round
              case rel => exact ⟨r + 1, by omega, by go_num, γ, rfl, by simpa using HN⟩
              case measure => simp [intOf]; omega
            · go_wp2
              go_round
              case rel => exact ⟨r + 1, by omega, by go_num, true, rfl, by simpa using HN⟩
              case measure => simp [intOf]; omega
          · obtain rfl : r = un := by omega
            have hβ2 : β = oneB Y ul j := by
              have h5 := hβ.out
              rw [List.take_of_length_le (by rw [HUL.out]; exact Nat.le_refl _)] at h5
              exact h5
            have HSN : Hid (upto (j + 1) (oneB Y ul) = upto j (oneB Y ul) ++ if β = true then [(j : Int)] else []) := Lib.hid (by rw [hβ2]; exact hsnoc.out)
            clear hβ hβ2 hsnoc HB0
            cases β
            · have hup : upto (j + 1) (oneB Y ul) = upto j (oneB Y ul) := by rw [HSN.out]; simp
              rw [← hup] at own hO
              clear HSN hup
              go_wp2
              go_roundw
              case rel => exact ⟨j + 1, Au, nu, cu, by omega, by go_num, own, hO, hkp, hsz, hbel⟩
              case measure => simp [intOf]; omega
            · have hcell := own.cell hb0n
              have hfree := own.free (by omega) b0
              have hcl : wo.cell? ⟨g9, b0, none⟩ = some (.slice Au nu cu) := by
                rw [hcell, List.getElem?_map, List.getElem?_set, if_pos rfl, if_pos (by have h1 := own.len; rw [List.length_map, List.length_set] at h1; omega)]; rfl
              clear hcell
              go_wp2_with (at_builtin; go_must (refine wpList_app1 wo rfl _ _ 25 rfl 3 i0 _ 8 Try.underlying25 hi0 hz0 hz1 hz2 rfl w6.heap.size Au nu cu _ rfl hO.own 1 rfl rfl ?d3 ?d4 ?d5 ?_))
              case d3 => simp only [maxLen]; omega
              case d4 => omega
              try case d5 => exact hsz
              intro A7 c7 w7 hown7 hbel7 hfr7 hat7
              have hO7 : OwnI w7 w6.heap.size ⟨A7, nu + 1, c7, upto (j + 1) (oneB Y ul)⟩ := by
                refine ⟨?_, fun z hz => ?_⟩
                · show Own w7 w6.heap.size _ A7 (nu + 1) c7 (ci64 (upto (j + 1) (oneB Y ul)))
                  rw [HSN.out, if_pos trivial, ci64_snoc6]; exact hown7
                · have h5 := (upto_rises (j + 1) (oneB Y ul)).1 z hz
                  omega
              have own7 := own.other hO.own (by decide) (fun k hk hh => hfr7 k hk (by simpa using hh))
              have hsz7 := Nat.le_trans hsz hbel7.size
              have hkp7 : ∀ g, g < w6.heap.size → g ≠ g9 → w7.heap[g]? = w6.heap[g]? := fun g hg hne => (hbel7.block g hg).trans (hkp g hg hne)
              have hfree7 := own7.free (by omega) b0
              have hcl7 : w7.cell? ⟨g9, b0, none⟩ = some (.slice Au nu cu) := by
                rw [own7.cell hb0n, List.getElem?_map, List.getElem?_set, if_pos rfl, if_pos (by have h1 := own7.len; rw [List.length_map, List.length_set] at h1; omega)]; rfl
              have own8 := own_put (u := ⟨A7, nu + 1, c7, upto (j + 1) (oneB Y ul)⟩) own7 hb0n
              rw [List.set_set] at own8
              have hO8 := hO7.setL (b := b0) (v := .slice A7 (nu + 1) c7) own7 (by omega)
              have hkp8 : ∀ g, g < w6.heap.size → g ≠ g9 → (w7.setCell ⟨g9, b0, none⟩ (.slice A7 (nu + 1) c7)).heap[g]? = w6.heap[g]? := fun g hg hne => (heap_setCell_other w7 ⟨g9, b0, none⟩ g _ hne).trans (hkp7 g hg hne)
              have hsz8 : w6.heap.size ≤ (w7.setCell ⟨g9, b0, none⟩ (.slice A7 (nu + 1) c7)).heap.size := by simpa [World.setCell] using hsz7
              have hbel8 := (hbel.trans (hbel7.mono hbx.size)).setCell (p := ⟨g9, b0, none⟩) hg9 (.slice A7 (nu + 1) c7)
              clear hown7 hbel7 hfr7 hat7 hO7 own7 hkp7 hsz7 own hO hkp hcl HSN hfree
              go_wp2
              go_roundw
              case rel => exact ⟨j + 1, A7, nu + 1, c7, by omega, by go_num, own8, hO8, hkp8, hsz8, hbel8⟩
              case measure => simp [intOf]; omega
      · obtain rfl : j = M := by omega
        clear e0 e1 e2
        have hx6 := hxo.below hbel
        have h26 := h2o.below hbel
        have bg6 := bgo.below hbel
        have hB := hBo.trans (hbel.mono hBo.size)
        have hgr : Gr.Ok wo ⟨some ⟨g9, 0, none⟩, x.n, cH, ht.set b0 ⟨Au, nu, cu, upto j (oneB Y ul)⟩⟩ := own_lists own fun v hv => by
          rcases List.mem_or_eq_of_mem_set hv with h | h
          · refine ((heach.out v h).keep fun g hA hg => hkp g hg ?_).ok
            rintro rfl
            rcases (heach.out v h).own.2 with h0 | ⟨g', cur, hA', _, hh', _⟩
            · exact absurd h0.1 (by omega)
            · rw [hA] at hA'
              cases hA'
              rcases own_apart hput hh' (by decide) with h1 | h1
              · omega
              · exact h1 rfl
          · rw [h]; exact hO.ok
        have hgg : Gr.g ⟨some ⟨g9, 0, none⟩, x.n, cH, ht.set b0 ⟨Au, nu, cu, upto j (oneB Y ul)⟩⟩ = oneG x.g j b0 Y := by
          show Ls.all _ = _
          rw [setT_u HHG.out, oneG, HGU.out]
        obtain ⟨e5, e6⟩ := most_ok (oneG_check (b := b0) (y := Y) HC.out)
        have hob := HO.out b0 Y hb0n
        obtain ⟨lb, hlb⟩ : ∃ l, mostP (oneG x.g j b0 Y) j = l := ⟨_, rfl⟩
        rw [hlb] at e6 hob
        obtain ⟨kb, hkb⟩ : ∃ k, manyG lb = k := ⟨_, rfl⟩
        rw [hkb] at hob
        have HG6 := Lib.hid hgg
        have E5 := Lib.hid e5
        have E6 := Lib.hid e6
        have HKB := Lib.hid hkb
        have s4 : IntKind.i64.wrap ((k : Int) + 1) = (k : Int) + 1 := by rw [IntKind.wrap_i64]; omega
        have t1 : decide ((k : Int) ≤ (kb : Int)) = true := decide_eq_true (by omega)
        have t1' : decide (k ≤ kb) = true := decide_eq_true (by omega)
        have t2 : decide ((kb : Int) ≤ (k : Int) + 1) = true := decide_eq_true (by omega)
        have t2' : decide (kb ≤ k + 1) = true := decide_eq_true (by omega)
        clear hgg e5 e6 hlb hkb own hO hkp hxo h2o bgo hBo
        have eg0 := bg6.c0
        have eg1 := bg6.c1
        have hc := pmostC ⟨some ⟨g9, 0, none⟩, x.n, cH, ht.set b0 ⟨Au, nu, cu, upto j (oneB Y ul)⟩⟩ j wo hgr (by omega) (by omega)
        rw [show Gr.v ⟨some ⟨g9, 0, none⟩, x.n, cH, ht.set b0 ⟨Au, nu, cu, upto j (oneB Y ul)⟩⟩ = .slice (some ⟨g9, 0, none⟩) x.n cH from rfl, HG6.out, E5.out, E6.out] at hc
        go_wp2_with fail
        clear eg0 eg1
        refine hc.mono ?_
        rintro e v8 ⟨A8, n8, c8, rfl, h8, hb⟩
        clear hc
        replace hx6 := hx6.below hb
        replace h26 := h26.below hb
        replace hgr := hgr.below hb
        replace bg6 := bg6.below hb
        replace hB := hB.trans (hb.mono hB.size)
        clear hb
        have eg0 := bg6.c0
        have eg1 := bg6.c1
        have hc := alive8_any v8
        go_wp2_with fail
        clear eg0 eg1
        refine hc.mono ?_
        rintro e v9 ⟨rfl, hb⟩
        clear hc
        replace hx6 := hx6.below hb
        replace h26 := h26.below hb
        replace hgr := hgr.below hb
        replace h8 := h8.below hb
        replace bg6 := bg6.below hb
        replace hB := hB.trans (hb.mono hB.size)
        clear hb
        have eg0 := bg6.c0
        have eg1 := bg6.c1
        have hc := gmanyC ⟨A8, n8, c8, lb⟩ v9 h8.ok
        rw [HKB.out] at hc
        go_wp2_with fail
        clear eg0 eg1
        refine hc.mono ?_
        rintro e v10 ⟨rfl, hb⟩
        clear hc
        replace hx6 := hx6.below hb
        replace h26 := h26.below hb
        replace hgr := hgr.below hb
        replace h8 := h8.below hb
        replace bg6 := bg6.below hb
        replace hB := hB.trans (hb.mono hB.size)
        clear hb
        have eg0 := bg6.c0
        have eg1 := bg6.c1
        have hc := gmanyC ⟨A2, x.n, c2, l⟩ v10 h26.ok
        rw [HK.out] at hc
        go_wp2_with fail
        clear eg0 eg1
        refine hc.mono ?_
        rintro e v11 ⟨rfl, hb⟩
        clear hc
        replace hx6 := hx6.below hb
        replace h26 := h26.below hb
        replace hgr := hgr.below hb
        replace h8 := h8.below hb
        replace bg6 := bg6.below hb
        replace hB := hB.trans (hb.mono hB.size)
        clear hb
        have eg0 := bg6.c0
        have eg1 := bg6.c1
        have hc := gmanyC ⟨A8, n8, c8, lb⟩ v11 h8.ok
        rw [HKB.out] at hc
        go_wp2_with fail
        clear eg0 eg1
        refine hc.mono ?_
        rintro e v12 ⟨rfl, hb⟩
        clear hc
        replace hx6 := hx6.below hb
        replace h26 := h26.below hb
        replace hgr := hgr.below hb
        replace h8 := h8.below hb
        replace bg6 := bg6.below hb
        replace hB := hB.trans (hb.mono hB.size)
        clear hb
        have eg0 := bg6.c0
        have eg1 := bg6.c1
        have hc := gmanyC ⟨A2, x.n, c2, l⟩ v12 h26.ok
        rw [HK.out] at hc
        go_wp2_with fail
        clear eg0 eg1
        refine hc.mono ?_
        rintro e v13 ⟨rfl, hb⟩
        clear hc
        replace hx6 := hx6.below hb
        replace h26 := h26.below hb
        replace hgr := hgr.below hb
        replace h8 := h8.below hb
        replace bg6 := bg6.below hb
        replace hB := hB.trans (hb.mono hB.size)
        clear hb
        have eg0 := bg6.c0
        have eg1 := bg6.c1
        go_wp2
        go_ret
        exact ⟨rfl, hB⟩

theorem own : ownKnob Try.prog.godebug = none := by kernel_rfl
theorem laidOut : laidOutB Try.prog = true := by kernel_rfl

set_option maxRecDepth 100000 in
theorem lifted (os : Os) (started : os.Started) (H : Type) (enc : TypeId × Value → H) :
    ReturnsInHanded {} Try.checked os 5 .any (Rows.matchingsTurnedSpec.pre6 enc Try.prog Try.f5 Rows.matchingsTurnedRow.domain false) (Rows.matchingsTurnedSpec.post enc Try.prog Try.f5 false true false false) := by
  refine returnsInHanded_of_change (C := Try.checked) own started (by kernel_rfl) Try.func5
    (ChangeSpec.witness6 (enc := enc) (C := Try.checked) false ⟨#[], #[.agg #[.slice none 0 0, .int .i64 0], .int .u8 0, .int .u8 0], []⟩ 8 (by kernel_rfl) (by kernel_rfl) (by kernel_rfl) (by kernel_rfl)) ?_
  intro W base args ds gs before hval0 hW hcnd _
  have hval : ∀ (j : Nat) t v, Try.f5.params[j]? = some t → args[j]? = some v → Value.okWide Try.prog W .any base t v := hval0
  have hW' := hW
  obtain ⟨p, q, hA0, hV, rfl, hfz, hnd⟩ := hW
  have hA : DataW.TrodAll enc Try.prog W 0 (fun _ => true) true Try.f5.params.toList args.toList ds p := hA0
  rw [Try.params5] at hA hval
  obtain ⟨v0, vs0, d0, ds0, p0, q0, hargs, rfl, rfl, h0, r0⟩ := trodAll_cons hA
  obtain ⟨v1, vs1, d1, ds1, p1, q1, rfl, rfl, rfl, h1, r1⟩ := trodAll_cons r0
  obtain ⟨v2, vs2, d2, ds2, p2, q2, rfl, rfl, rfl, h2, r2⟩ := trodAll_cons r1
  obtain ⟨rfl, rfl, rfl⟩ := trodAll_nil r2
  obtain rfl : args = #[v0, v1, v2] := by cases args; simp_all
  obtain ⟨u0, m0, rfl, k0, a0, b0⟩ := arg_gr Try.underlying24 (by kernel_rfl) (by kernel_rfl) Try.underlying22 Try.underlying3 Try.underlying25 (by kernel_rfl) Try.underlying3 (by kernel_rfl) (hval 0 24 v0 rfl rfl) h0
  obtain ⟨x1, rfl, rfl, rfl, w1⟩ := open_int Try.underlying5 (hval 1 5 v1 rfl rfl) h1
  obtain ⟨y1, rfl, z1⟩ := fit_u8 w1
  obtain ⟨x2, rfl, rfl, rfl, w2⟩ := open_int Try.underlying5 (hval 2 5 v2 rfl rfl) h2
  obtain ⟨y2, rfl, z2⟩ := fit_u8 w2
  have hwalk : Calls Try.prog 5 #[.agg #[u0.v, .int .i64 m0], .int .u8 y1, .int .u8 y2] W fun e w' => e = .returned (.bool true) ∧ Below W.heap.size W w' := walk u0 m0 y1 y2 W k0 a0 b0 z1 z2
  refine hwalk.mono fun e W' ⟨he, hg⟩ => ?_
  subst he
  exact ⟨_, rfl, law_post laidOut (by kernel_rfl) hW' rfl rfl (by kernel_rfl) Try.underlying4 hg⟩

theorem over : Rows.matchingsTurnedRow.holds Try.pinned (OpenSpec.ofChange Rows.matchingsTurnedSpec) :=
  OpenClaim.holds_of_wide 5 Try.f5 rfl rfl rfl rfl rfl rfl rfl ⟨rfl, rfl, rfl, rfl, rfl⟩ rfl rfl rfl rfl rfl (by kernel_rfl) Try.func5 (by kernel_rfl)
    (of_decide_eq_true (by kernel_rfl)) (by unfold Func.isWrapper; first | (rw [if_pos (by decide +kernel)]; kernel_rfl) | (rw [if_neg (by decide +kernel)]; exact ⟨rfl, rfl⟩))
    (fun os started H enc _ => lifted os started H enc)

theorem proved : Rows.MatchingsTurnedSaid :=
  over

end Go.Proofs.Ytcjfgkihmhdhlaa.matchingsTurned
