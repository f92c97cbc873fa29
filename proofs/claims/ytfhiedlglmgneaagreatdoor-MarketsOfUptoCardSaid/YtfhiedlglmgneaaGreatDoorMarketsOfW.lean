/-
  The walk of MarketsOf: it answers true, for any market that is not too much, and any bidder.
-/
import Derived.Test.YtfhiedlglmgneaaGreatDoorMarkWa
import Derived.Test.YtfhiedlglmgneaaGreatDoorMarkWb
import Derived.Test.YtfhiedlglmgneaaGreatDoorMarkWc
import Derived.Test.YtfhiedlglmgneaaGreatDoorRef05a
import Derived.Test.YtfhiedlglmgneaaGreatDoorRef05b
import Derived.Test.YtfhiedlglmgneaaGreatDoorRef05c
import Derived.Test.YtfhiedlglmgneaaGreatDoorRef05e
import Derived.Test.YtfhiedlglmgneaaGreatDoorReg
import Derived.Test.YtfhiedlglmgneaaGreatDoorSame
import Derived.Test.YtfhiedlglmgneaaGreatDoorLeftM
import Derived.Test.YtfhiedlglmgneaaGreatDoorPcs
import Derived.Test.YtfhiedlglmgneaaGreatDoorSizes2
namespace Go.Proofs.YtfhiedlglmgneaaGreatDoor.marketsOf
open Go.RowKit
set_option linter.unusedVariables false

theorem less_n {x y : Mk} {w w' : World} (hx : x.Ok w) (hy : y.Ok w') {i : Int} {l : List Int × List (List Int) × List Int} (hl : x.less i = l) (hp : y.parts = l) : y.r.n ≤ 8 ∧ y.n ≤ 8 ∧ y.o.n ≤ 8 ∧ ∀ u ∈ y.b, u.n ≤ 8 := by
  subst hl
  have h2 : (x.less i).1.length ≤ 8 ∧ (x.less i).2.1.length ≤ 8 ∧ (x.less i).2.2.length ≤ 8 ∧ ∀ l ∈ (x.less i).2.1, l.length ≤ 8 := by
    unfold Mk.less
    by_cases hh : x.has i = true
    · rw [if_pos hh]
      have hm : x.may = true := by rw [Mk.has, Bool.and_eq_true] at hh; exact hh.1
      obtain ⟨a1, a2, a3, a4, a5, a6, _⟩ := mk_len hx hm
      have hbl : (Ls.all x.b).length = x.n := by rw [Ls.all, List.length_map]; exact hx.len
      refine ⟨by rw [hx.r.len]; exact a1, by rw [less_len, hbl]; exact a4, by rw [hx.o.len, a5]; exact a4, fun l hl => ?_⟩
      have h3 : l = [] ∨ l ∈ Ls.all x.b := by
        rw [less] at hl
        rcases List.mem_or_eq_of_mem_set hl with h | h
        · exact .inr h
        · exact .inl h
      rcases h3 with rfl | h3
      · simp
      · rw [Ls.all] at h3
        obtain ⟨u, hu, rfl⟩ := List.mem_map.1 h3
        rw [(hx.bs u hu).len]
        rcases a6 u hu with h | h <;> omega
    · rw [if_neg hh]; simp
  rw [← hp] at h2
  obtain ⟨b1, b2, b3, b4⟩ := h2
  simp only [Mk.parts] at b1 b2 b3 b4
  refine ⟨by rw [← hy.r.len]; exact b1, ?_, by rw [← hy.o.len]; exact b3, fun u hu => ?_⟩
  · rw [Ls.all, List.length_map, hy.len] at b2; exact b2
  · rw [← (hy.bs u hu).len]; exact b4 u.zs (List.mem_map_of_mem hu)
theorem gains_n {x : Mk} {w w' : World} {B : Nat} {A : Option Addr} {n c : Nat} {t : List Ls} (hx : x.Ok w) (h : Outs w' B A n c t) (hg : Ls.all t = x.gains) : n ≤ 8 ∧ ∀ u ∈ t, u.n ≤ 8 := by
  have h2 : x.gains.length ≤ 8 ∧ ∀ l ∈ x.gains, l.length ≤ 8 := by
    unfold Mk.gains
    by_cases hm : x.may = true
    · rw [if_pos hm]
      obtain ⟨a1, a2, a3, a4, a5, a6, _⟩ := mk_len hx hm
      have hbl : (Ls.all x.b).length = x.n := by rw [Ls.all, List.length_map]; exact hx.len
      refine ⟨by rw [gains, List.length_map, hbl]; exact a4, fun l hl => ?_⟩
      rw [gains] at hl
      obtain ⟨v, hv, rfl⟩ := List.mem_map.1 hl
      have hr : (gain x.r.zs v).length ≤ x.r.zs.length := by
        unfold gain
        split
        · simp
        · rw [List.length_zipWith]; exact Nat.min_le_right _ _
      rw [hx.r.len] at hr
      omega
    · rw [if_neg hm]; simp
  rw [← hg] at h2
  have hl := h.len
  refine ⟨by rw [← hl]; simpa [Ls.all] using h2.1, fun u hu => ?_⟩
  rw [← (h.each u hu).len]
  exact h2.2 u.zs (List.mem_map_of_mem hu)

theorem bytes_n {x : Mk} {w : World} (hx : x.Ok w) : x.bytes.length ≤ 1000 := by
  unfold Mk.bytes
  by_cases hm : x.may = true
  · rw [if_pos hm, putM_len hm]
    obtain ⟨a1, a2, a3, a4, a5, a6, _⟩ := mk_len hx hm
    rw [hx.r.len, hx.o.len, Ls.all, List.map_map]
    have h1 : ∀ l : List Ls, (∀ u ∈ l, u.zs.length ≤ 8) → (l.map ((fun l => 1 + 4 * l.length) ∘ Ls.zs)).sum ≤ 33 * l.length := by
      intro l hl
      induction l with
      | nil => simp
      | cons u l ih =>
        have h2 := ih fun v hv => hl v (by simp [hv])
        have h3 := hl u (by simp)
        simp only [List.map_cons, List.sum_cons, List.length_cons, Function.comp] at h2 ⊢
        omega
    have h2 := h1 x.b fun u hu => by
      rw [(hx.bs u hu).len]
      rcases a6 u hu with h | h <;> omega
    rw [hx.len] at h2
    omega
  · rw [if_neg hm]; simp
/-- A twin is as the market. -/
theorem twin_eq {x y : Mk} (hr : y.r.zs = x.r.zs) (hb : Ls.all y.b = Ls.all x.b) (ho : y.o.zs = x.o.zs) (hn : y.n = x.n) :
    y.may = x.may ∧ y.err = x.err ∧ y.gains = x.gains ∧ y.bytes = x.bytes ∧ (∀ i, y.less i = x.less i) ∧ ∀ i, y.lessErr i = x.lessErr i := by
  have hm : y.may = x.may := by rw [Mk.may, Mk.may, hr, hb, ho]
  have hh : ∀ i, y.has i = x.has i := fun i => by rw [Mk.has, Mk.has, hm, hn]
  refine ⟨hm, by rw [Mk.err, Mk.err, hm], by rw [Mk.gains, Mk.gains, hm, hr, hb], by rw [Mk.bytes, Mk.bytes, hm, hr, hb, ho], fun i => by rw [Mk.less, Mk.less, hh, hr, hb, ho], fun i => by rw [Mk.lessErr, Mk.lessErr, hh]⟩
theorem size_parts (x : Mk) {w : World} (h : x.Ok w) (hz : x.size ≤ 3000) : x.n ≤ 3000 ∧ x.r.n ≤ 3000 ∧ x.o.n ≤ 3000 ∧ ∀ u ∈ x.b, u.n ≤ 3000 := by
  have hs := sizeL_sum x.b
  have hl := h.len
  unfold Mk.size at hz
  refine ⟨by omega, by omega, by omega, fun u hu => ?_⟩
  have := size_mem hu
  omega

theorem twin_small {x y : Mk} {w w' : World} (hr : y.r.zs = x.r.zs) (hb : Ls.all y.b = Ls.all x.b) (ho : y.o.zs = x.o.zs) (hy : y.Ok w) (hx : x.Ok w') (h1 : x.r.n ≤ 1000000000) (h2 : x.o.n ≤ 1000000000) (h3 : ∀ u ∈ x.b, u.n ≤ 1000000000) : ∀ u ∈ (y.r :: (y.b ++ [y.o])), u.n ≤ 1000000000 := by
  intro u hu
  simp only [List.mem_cons, List.mem_append, List.not_mem_nil, or_false] at hu
  rcases hu with rfl | hu | rfl
  · rw [← hy.r.len, hr, hx.r.len]; exact h1
  · have h4 : u.zs ∈ Ls.all x.b := by rw [← hb]; exact List.mem_map_of_mem hu
    obtain ⟨v, hv, he⟩ := List.mem_map.1 h4
    rw [← (hy.bs u hu).len, ← he, (hx.bs v hv).len]
    exact h3 v hv
  · rw [← hy.o.len, ho, hx.o.len]; exact h2

set_option maxRecDepth 100000 in
set_option maxHeartbeats 4000000 in
theorem walk (x : Mk) (i : Int) (w : World) (h : x.Ok w) (hi1 : -9223372036854775808 ≤ i) (hi2 : i ≤ 9223372036854775807) (hz : x.size ≤ 1048576) :
    Calls Tryz.prog 3 #[x.v, .int .i64 i] w fun e w' => e = .returned (.bool true) ∧ Below w.heap.size w w' := by
  obtain ⟨Z, hZ⟩ : ∃ Z, x.size = Z := ⟨_, rfl⟩
  have HZ := Lib.hid hZ
  by_cases hbig : 3000 < Z
  · clear hZ
    have hx := h
    have hB := Below.refl w.heap.size w
    have hxv : x.v = .agg #[.slice x.r.A x.r.n x.r.c, .slice x.A x.n x.c, .slice x.o.A x.o.n x.o.c] := rfl
    have Vx := Lib.hid hxv
    rw [hxv]
    clear hxv
    go_enter Tryz.func3, Tryz.ntmps3
    have bx := InBox.new w x
    have hbx : Below w.heap.size w (w.alloc (.cells #[.slice x.r.A x.r.n x.r.c, .slice x.A x.n x.c, .slice x.o.A x.o.n x.o.c] 25)) := (Below.refl _ w).alloc (Nat.le_refl _) _
    have sz1 := Lib.hid hbx.size
    replace hx := hx.below hbx
    replace hB := hB.trans (hbx.mono hB.size)
    clear hbx
    have ex0 := bx.c0
    have ex1 := bx.c1
    have ex2 := bx.c2
    have hc := marketsize_all x (w.alloc (.cells #[.slice x.r.A x.r.n x.r.c, .slice x.A x.n x.c, .slice x.o.A x.o.n x.o.c] 25)) hx hz
    rw [Vx.out, HZ.out] at hc
    go_wp2_with fail
    clear ex0 ex1 ex2
    generalize w.alloc (.cells #[.slice x.r.A x.r.n x.r.c, .slice x.A x.n x.c, .slice x.o.A x.o.n x.o.c] 25) = W1 at *
    refine hc.mono ?_
    rintro e v2 ⟨rfl, hb⟩
    clear hc
    have sz2 := Lib.hid hb.size
    replace hx := hx.below hb
    replace bx := bx.below hb
    replace hB := hB.trans (hb.mono hB.size)
    clear hb
    have hz1 : decide (3000 < (Z : Int)) = true := decide_eq_true (by omega)
    go_wp2
    go_ret
    exact ⟨rfl, hB⟩
  · obtain ⟨p1, p2, p3, p4⟩ := size_parts x h (by omega)
    have H6 : Hid (∀ u ∈ x.b, u.n ≤ 1000000000) := Lib.hid (fun u hu => by have := p4 u hu; omega)
    obtain ⟨M, hM⟩ : ∃ M, x.may = M := ⟨_, rfl⟩
    obtain ⟨E, hE⟩ : ∃ E, x.err = E := ⟨_, rfl⟩
    obtain ⟨G, hG⟩ : ∃ G, x.gains = G := ⟨_, rfl⟩
    obtain ⟨P, hP⟩ : ∃ P, x.bytes = P := ⟨_, rfl⟩
    obtain ⟨L, hL⟩ : ∃ L, x.less i = L := ⟨_, rfl⟩
    obtain ⟨LE, hLE⟩ : ∃ LE, x.lessErr i = LE := ⟨_, rfl⟩
    have HMAY := Lib.hid hM
    have HE := Lib.hid hE
    have HG := Lib.hid hG
    have HP := Lib.hid hP
    have HLS := Lib.hid hL
    have HLE := Lib.hid hLE
    clear p4 hM hE hG hP hL hLE hZ
    have hx := h
    have hB := Below.refl w.heap.size w
    have hxv : x.v = .agg #[.slice x.r.A x.r.n x.r.c, .slice x.A x.n x.c, .slice x.o.A x.o.n x.o.c] := rfl
    have Vx := Lib.hid hxv
    rw [hxv]
    clear hxv
    go_enter Tryz.func3, Tryz.ntmps3
    have bx := InBox.new w x
    have hbx : Below w.heap.size w (w.alloc (.cells #[.slice x.r.A x.r.n x.r.c, .slice x.A x.n x.c, .slice x.o.A x.o.n x.o.c] 25)) := (Below.refl _ w).alloc (Nat.le_refl _) _
    have sz1 := Lib.hid hbx.size
    replace hx := hx.below hbx
    replace hB := hB.trans (hbx.mono hB.size)
    clear hbx
    have ex0 := bx.c0
    have ex1 := bx.c1
    have ex2 := bx.c2
    have hc := marketsize_all x (w.alloc (.cells #[.slice x.r.A x.r.n x.r.c, .slice x.A x.n x.c, .slice x.o.A x.o.n x.o.c] 25)) hx hz
    rw [Vx.out, HZ.out] at hc
    go_wp2_with fail
    clear ex0 ex1 ex2
    generalize w.alloc (.cells #[.slice x.r.A x.r.n x.r.c, .slice x.A x.n x.c, .slice x.o.A x.o.n x.o.c] 25) = W1 at *
    refine hc.mono ?_
    rintro e v2 ⟨rfl, hb⟩
    clear hc
    have sz2 := Lib.hid hb.size
    replace hx := hx.below hb
    replace bx := bx.below hb
    replace hB := hB.trans (hb.mono hB.size)
    clear hb
    have hz1 : decide (3000 < (Z : Int)) = false := decide_eq_false (by omega)
    have ex0 := bx.c0
    have ex1 := bx.c1
    have ex2 := bx.c2
    have hc := twinmarket_any x v2 hx (by omega) (by omega) (by omega) H6.out
    rw [Vx.out] at hc
    go_wp2_with fail
    clear ex0 ex1 ex2
    refine hc.mono ?_
    rintro e v3 ⟨y, rfl, hy, hyr, hyb, hyo, hyn, hb⟩
    clear hc
    have sz3 := Lib.hid hb.size
    replace hx := hx.below hb
    replace bx := bx.below hb
    replace hB := hB.trans (hb.mono hB.size)
    clear hb
    have v_y : y.v = .agg #[.slice y.r.A y.r.n y.r.c, .slice y.A y.n y.c, .slice y.o.A y.o.n y.o.c] := rfl
    have Vy := Lib.hid v_y
    clear v_y
    rw [Vy.out]
    have rgY := Lib.hid hy.rng
    obtain ⟨t1, t2, t3, t4, t5, t6⟩ := twin_eq hyr hyb hyo hyn
    rw [HMAY.out] at t1
    rw [HE.out] at t2
    rw [HG.out] at t3
    rw [HP.out] at t4
    have t5 := t5 i
    have t6 := t6 i
    rw [HLS.out] at t5
    rw [HLE.out] at t6
    have T1 := Lib.hid t1
    have T2 := Lib.hid t2
    have T3 := Lib.hid t3
    have T4 := Lib.hid t4
    have T5 := Lib.hid t5
    have T6 := Lib.hid t6
    have Hyr := Lib.hid hyr
    have Hyb := Lib.hid hyb
    have Hyo := Lib.hid hyo
    have Hyn := Lib.hid hyn
    clear hyr hyb hyo hyn t1 t2 t3 t4 t5 t6
    have by1 := InBox.new v3 y
    have hbx : Below v3.heap.size v3 (v3.alloc (.cells #[.slice y.r.A y.r.n y.r.c, .slice y.A y.n y.c, .slice y.o.A y.o.n y.o.c] 25)) := (Below.refl _ v3).alloc (Nat.le_refl _) _
    have sz4 := Lib.hid hbx.size
    replace hx := hx.below hbx
    replace hy := hy.below hbx
    replace bx := bx.below hbx
    replace hB := hB.trans (hbx.mono hB.size)
    clear hbx
    have ex0 := bx.c0
    have ex1 := bx.c1
    have ex2 := bx.c2
    have ey0 := by1.c0
    have ey1 := by1.c1
    have ey2 := by1.c2
    have hc := mgainsC y (v3.alloc (.cells #[.slice y.r.A y.r.n y.r.c, .slice y.A y.n y.c, .slice y.o.A y.o.n y.o.c] 25)) hy.ok
    rw [T2.out, T3.out, Vy.out] at hc
    go_wp2_with fail
    clear ex0 ex1 ex2
    clear ey0 ey1 ey2
    generalize v3.alloc (.cells #[.slice y.r.A y.r.n y.r.c, .slice y.A y.n y.c, .slice y.o.A y.o.n y.o.c] 25) = W4 at *
    refine hc.mono ?_
    rintro e v5 ⟨A1, n1, c1, rfl, ta, hta, hga, hb⟩
    clear hc
    have sz5 := Lib.hid hb.size
    replace hx := hx.below hb
    replace hy := hy.below hb
    replace bx := bx.below hb
    replace by1 := by1.below hb
    replace hB := hB.trans (hb.mono hB.size)
    clear hb
    have rgA := Lib.hid hta.rng
    have HGA := Lib.hid hga
    clear hga
    have ex0 := bx.c0
    have ex1 := bx.c1
    have ex2 := bx.c2
    have ey0 := by1.c0
    have ey1 := by1.c1
    have ey2 := by1.c2
    have hc := rgainsC x v5 hx
    rw [HE.out, HG.out, Vx.out] at hc
    go_wp2_with fail
    clear ex0 ex1 ex2
    clear ey0 ey1 ey2
    refine hc.mono ?_
    rintro e v6 ⟨A2, n2, c2, rfl, tb, htb, hgb, hb⟩
    clear hc
    have sz6 := Lib.hid hb.size
    replace hx := hx.below hb
    replace hy := hy.below hb
    replace hta := hta.below hb
    replace bx := bx.below hb
    replace by1 := by1.below hb
    replace hB := hB.trans (hb.mono hB.size)
    clear hb
    have HGB := Lib.hid hgb
    clear hgb
    have ex0 := bx.c0
    have ex1 := bx.c1
    have ex2 := bx.c2
    have ey0 := by1.c0
    have ey1 := by1.c1
    have ey2 := by1.c2
    have hc := mwithoutC y i v6 hy.ok hi1 hi2
    rw [T6.out, Vy.out] at hc
    go_wp2_with fail
    clear ex0 ex1 ex2
    clear ey0 ey1 ey2
    refine hc.mono ?_
    rintro e v7 ⟨y2, rfl, hy2, hq2, hb⟩
    clear hc
    have sz7 := Lib.hid hb.size
    replace hx := hx.below hb
    replace hy := hy.below hb
    replace hta := hta.below hb
    replace htb := htb.below hb
    replace bx := bx.below hb
    replace by1 := by1.below hb
    replace hB := hB.trans (hb.mono hB.size)
    clear hb
    have v_y2 : y2.v = .agg #[.slice y2.r.A y2.r.n y2.r.c, .slice y2.A y2.n y2.c, .slice y2.o.A y2.o.n y2.o.c] := rfl
    have Vy2 := Lib.hid v_y2
    clear v_y2
    rw [Vy2.out]
    rw [T5.out] at hq2
    have rgC := Lib.hid hy2.rng
    have HQ2 := Lib.hid hq2
    clear hq2
    have bc := InBox.new v7 y2
    have hbx : Below v7.heap.size v7 (v7.alloc (.cells #[.slice y2.r.A y2.r.n y2.r.c, .slice y2.A y2.n y2.c, .slice y2.o.A y2.o.n y2.o.c] 25)) := (Below.refl _ v7).alloc (Nat.le_refl _) _
    have sz8 := Lib.hid hbx.size
    replace hx := hx.below hbx
    replace hy := hy.below hbx
    replace hta := hta.below hbx
    replace htb := htb.below hbx
    replace hy2 := hy2.below hbx
    replace bx := bx.below hbx
    replace by1 := by1.below hbx
    replace hB := hB.trans (hbx.mono hB.size)
    clear hbx
    have ex0 := bx.c0
    have ex1 := bx.c1
    have ex2 := bx.c2
    have ey0 := by1.c0
    have ey1 := by1.c1
    have ey2 := by1.c2
    have ec0 := bc.c0
    have ec1 := bc.c1
    have ec2 := bc.c2
    have hc := rwithoutC x i (v7.alloc (.cells #[.slice y2.r.A y2.r.n y2.r.c, .slice y2.A y2.n y2.c, .slice y2.o.A y2.o.n y2.o.c] 25)) hx hi1 hi2
    rw [HLE.out, Vx.out] at hc
    go_wp2_with fail
    clear ex0 ex1 ex2
    clear ey0 ey1 ey2
    clear ec0 ec1 ec2
    generalize v7.alloc (.cells #[.slice y2.r.A y2.r.n y2.r.c, .slice y2.A y2.n y2.c, .slice y2.o.A y2.o.n y2.o.c] 25) = W8 at *
    refine hc.mono ?_
    rintro e v9 ⟨z2, rfl, hz2, hq3, hb⟩
    clear hc
    have sz9 := Lib.hid hb.size
    replace hx := hx.below hb
    replace hy := hy.below hb
    replace hta := hta.below hb
    replace htb := htb.below hb
    replace hy2 := hy2.below hb
    replace bx := bx.below hb
    replace by1 := by1.below hb
    replace bc := bc.below hb
    replace hB := hB.trans (hb.mono hB.size)
    clear hb
    have v_z2 : z2.v = .agg #[.slice z2.r.A z2.r.n z2.r.c, .slice z2.A z2.n z2.c, .slice z2.o.A z2.o.n z2.o.c] := rfl
    have Vz2 := Lib.hid v_z2
    clear v_z2
    rw [Vz2.out]
    rw [HLS.out] at hq3
    have HQ3 := Lib.hid hq3
    clear hq3
    have bd := InBox.new v9 z2
    have hbx : Below v9.heap.size v9 (v9.alloc (.cells #[.slice z2.r.A z2.r.n z2.r.c, .slice z2.A z2.n z2.c, .slice z2.o.A z2.o.n z2.o.c] 25)) := (Below.refl _ v9).alloc (Nat.le_refl _) _
    have sz10 := Lib.hid hbx.size
    replace hx := hx.below hbx
    replace hy := hy.below hbx
    replace hta := hta.below hbx
    replace htb := htb.below hbx
    replace hy2 := hy2.below hbx
    replace hz2 := hz2.below hbx
    replace bx := bx.below hbx
    replace by1 := by1.below hbx
    replace bc := bc.below hbx
    replace hB := hB.trans (hbx.mono hB.size)
    clear hbx
    have ex0 := bx.c0
    have ex1 := bx.c1
    have ex2 := bx.c2
    have ey0 := by1.c0
    have ey1 := by1.c1
    have ey2 := by1.c2
    have ec0 := bc.c0
    have ec1 := bc.c1
    have ec2 := bc.c2
    have ed0 := bd.c0
    have ed1 := bd.c1
    have ed2 := bd.c2
    have hc := mputC y (v9.alloc (.cells #[.slice z2.r.A z2.r.n z2.r.c, .slice z2.A z2.n z2.c, .slice z2.o.A z2.o.n z2.o.c] 25)) hy.ok
    rw [T2.out, T4.out, Vy.out] at hc
    go_wp2_with fail
    clear ex0 ex1 ex2
    clear ey0 ey1 ey2
    clear ec0 ec1 ec2
    clear ed0 ed1 ed2
    generalize v9.alloc (.cells #[.slice z2.r.A z2.r.n z2.r.c, .slice z2.A z2.n z2.c, .slice z2.o.A z2.o.n z2.o.c] 25) = W10 at *
    refine hc.mono ?_
    rintro e v11 ⟨A3, n3, c3, rfl, ho3, hb⟩
    clear hc
    have sz11 := Lib.hid hb.size
    replace hx := hx.below hb
    replace hy := hy.below hb
    replace hta := hta.below hb
    replace htb := htb.below hb
    replace hy2 := hy2.below hb
    replace hz2 := hz2.below hb
    replace bx := bx.below hb
    replace by1 := by1.below hb
    replace bc := bc.below hb
    replace bd := bd.below hb
    replace hB := hB.trans (hb.mono hB.size)
    clear hb
    have rgX := Lib.hid (show ∀ g, 0 < c3 → A3 = some ⟨g, 0, none⟩ → g < v11.heap.size from fun g hc hA => (ho3.blk hc hA).2)
    have hn3 : n3 = P.length := by
      have h := ho3.len
      rw [cu8_len] at h
      exact h.symm
    subst hn3
    have ex0 := bx.c0
    have ex1 := bx.c1
    have ex2 := bx.c2
    have ey0 := by1.c0
    have ey1 := by1.c1
    have ey2 := by1.c2
    have ec0 := bc.c0
    have ec1 := bc.c1
    have ec2 := bc.c2
    have ed0 := bd.c0
    have ed1 := bd.c1
    have ed2 := bd.c2
    have hc := rputC x v11 hx
    rw [HE.out, HP.out, Vx.out] at hc
    go_wp2_with fail
    clear ex0 ex1 ex2
    clear ey0 ey1 ey2
    clear ec0 ec1 ec2
    clear ed0 ed1 ed2
    refine hc.mono ?_
    rintro e v12 ⟨A4, n4, c4, rfl, ho4, hb⟩
    clear hc
    have sz12 := Lib.hid hb.size
    replace hx := hx.below hb
    replace hy := hy.below hb
    replace hta := hta.below hb
    replace htb := htb.below hb
    replace hy2 := hy2.below hb
    replace hz2 := hz2.below hb
    replace ho3 := ho3.below hb
    replace bx := bx.below hb
    replace by1 := by1.below hb
    replace bc := bc.below hb
    replace bd := bd.below hb
    replace hB := hB.trans (hb.mono hB.size)
    clear hb
    have hn4 : n4 = P.length := by
      have h := ho4.len
      rw [cu8_len] at h
      exact h.symm
    subst hn4
    obtain ⟨hn1, hn1u⟩ := gains_n hx hta (HGA.out.trans HG.out.symm)
    have HN1 := Lib.hid hn1u
    clear hn1u
    have hn1m : n1 ≤ maxLen := by unfold maxLen; omega
    obtain ⟨yr, yn, yo, yb⟩ := less_n hx hy2.ok HLS.out HQ2.out
    have YB := Lib.hid yb
    clear yb
    have hP1 := bytes_n hx
    rw [HP.out] at hP1
    have hPm : P.length ≤ maxLen := by unfold maxLen; omega
    have HSM : Hid ((y2.r.zs == z2.r.zs && (Ls.all y2.b == Ls.all z2.b && y2.o.zs == z2.o.zs)) = true) := Lib.hid (by
      have h := HQ2.out.trans HQ3.out.symm
      simp only [Mk.parts, Prod.mk.injEq] at h
      rw [h.1, h.2.1, h.2.2]
      simp)
    have hS : ∀ w', Below v12.heap.size v12 w' → w'.cell? ⟨w.heap.size, 0, none⟩ = some (.slice x.r.A x.r.n x.r.c) ∧ w'.cell? ⟨w.heap.size, 1, none⟩ = some (.slice x.A x.n x.c) ∧ w'.cell? ⟨w.heap.size, 2, none⟩ = some (.slice x.o.A x.o.n x.o.c) ∧ w'.cell? ⟨v3.heap.size, 0, none⟩ = some (.slice y.r.A y.r.n y.r.c) ∧ w'.cell? ⟨v3.heap.size, 1, none⟩ = some (.slice y.A y.n y.c) ∧ w'.cell? ⟨v3.heap.size, 2, none⟩ = some (.slice y.o.A y.o.n y.o.c) ∧ w'.cell? ⟨v7.heap.size, 0, none⟩ = some (.slice y2.r.A y2.r.n y2.r.c) ∧ w'.cell? ⟨v7.heap.size, 1, none⟩ = some (.slice y2.A y2.n y2.c) ∧ w'.cell? ⟨v7.heap.size, 2, none⟩ = some (.slice y2.o.A y2.o.n y2.o.c) ∧ w'.cell? ⟨v9.heap.size, 0, none⟩ = some (.slice z2.r.A z2.r.n z2.r.c) ∧ w'.cell? ⟨v9.heap.size, 1, none⟩ = some (.slice z2.A z2.n z2.c) ∧ w'.cell? ⟨v9.heap.size, 2, none⟩ = some (.slice z2.o.A z2.o.n z2.o.c) := fun w' hb => ⟨(bx.below hb).c0, (bx.below hb).c1, (bx.below hb).c2, (by1.below hb).c0, (by1.below hb).c1, (by1.below hb).c2, (bc.below hb).c0, (bc.below hb).c1, (bc.below hb).c2, (bd.below hb).c0, (bd.below hb).c1, (bd.below hb).c2⟩
    go_wp2_with fail
    refine wp_region_ord (S := fun w' => w'.cell? ⟨w.heap.size, 0, none⟩ = some (.slice x.r.A x.r.n x.r.c) ∧ w'.cell? ⟨w.heap.size, 1, none⟩ = some (.slice x.A x.n x.c) ∧ w'.cell? ⟨w.heap.size, 2, none⟩ = some (.slice x.o.A x.o.n x.o.c) ∧ w'.cell? ⟨v3.heap.size, 0, none⟩ = some (.slice y.r.A y.r.n y.r.c) ∧ w'.cell? ⟨v3.heap.size, 1, none⟩ = some (.slice y.A y.n y.c) ∧ w'.cell? ⟨v3.heap.size, 2, none⟩ = some (.slice y.o.A y.o.n y.o.c) ∧ w'.cell? ⟨v7.heap.size, 0, none⟩ = some (.slice y2.r.A y2.r.n y2.r.c) ∧ w'.cell? ⟨v7.heap.size, 1, none⟩ = some (.slice y2.A y2.n y2.c) ∧ w'.cell? ⟨v7.heap.size, 2, none⟩ = some (.slice y2.o.A y2.o.n y2.o.c) ∧ w'.cell? ⟨v9.heap.size, 0, none⟩ = some (.slice z2.r.A z2.r.n z2.r.c) ∧ w'.cell? ⟨v9.heap.size, 1, none⟩ = some (.slice z2.A z2.n z2.c) ∧ w'.cell? ⟨v9.heap.size, 2, none⟩ = some (.slice z2.o.A z2.o.n z2.o.c)) [(0, true), (2, true), (1, false), (3, false), (4, true), (5, true), (6, true), (7, true), (8, true), (9, true), (10, true), (11, true), (12, true), (13, true), (14, true), (15, true), (16, true), (17, true), (18, true), (19, true), (20, true), (21, true), (22, true), (23, false), (24, true), (25, true), (26, true), (27, true), (28, true), (29, false), (30, true), (31, true), (32, true), (33, true), (34, true), (35, false), (36, true), (37, true), (38, true), (39, true), (40, true), (41, false), (42, true), (43, true)] default (by kernel_rfl) (by kernel_rfl) (by kernel_rfl) (hS _ ((Below.refl _ v12).drew)) ?_
    simp only [getOrd, nth]
    obtain ⟨u0, hu0⟩ : ∃ u0, u0 = v12.drew := ⟨_, rfl⟩
    have b0 : Below v12.heap.size v12 u0 := by rw [hu0]; exact (Below.refl _ v12).drew
    rw [← hu0]
    clear hu0
    repeat (first | (refine ordS (by rfl) ?_; simp only [Act.put, List.setIfInBounds_toArray, List.set_cons_zero, List.set_cons_succ]) | (refine ordN (by rfl) ?_; simp only [Act.put, List.setIfInBounds_toArray, List.set_cons_zero, List.set_cons_succ]) | (refine ordQ (v := ?_) (by rfl) (fun _ hSw => ?_) ?_; rotate_left; (focus ((have hS1 := hSw.1); (have hS2 := hSw.2.1); (have hS3 := hSw.2.2.1); (have hS4 := hSw.2.2.2.1); (have hS5 := hSw.2.2.2.2.1); (have hS6 := hSw.2.2.2.2.2.1); (have hS7 := hSw.2.2.2.2.2.2.1); (have hS8 := hSw.2.2.2.2.2.2.2.1); (have hS9 := hSw.2.2.2.2.2.2.2.2.1); (have hS10 := hSw.2.2.2.2.2.2.2.2.2.1); (have hS11 := hSw.2.2.2.2.2.2.2.2.2.2.1); (have hS12 := hSw.2.2.2.2.2.2.2.2.2.2.2); clear hSw; go_simp; (first | done | with_reducible rfl))); simp only [Act.put, List.setIfInBounds_toArray, List.set_cons_zero, List.set_cons_succ]))
    refine ordD (by rfl) ?_
    intro K hK
    go_simp
    have hc := mcheckC y u0 (hy.ok.below b0)
    rw [T1.out, Vy.out] at hc
    refine hc.mono ?_
    rintro e u1 ⟨rfl, hb⟩
    have b1 : Below v12.heap.size v12 u1 := b0.trans (hb.mono b0.size)
    go_wp2_with fail
    refine hK _ _ (hS _ b1) ?_
    clear hK K hc hb
    try simp only [Act.put, List.setIfInBounds_toArray, List.set_cons_zero, List.set_cons_succ]
    repeat (first | (refine ordS (by rfl) ?_; simp only [Act.put, List.setIfInBounds_toArray, List.set_cons_zero, List.set_cons_succ]) | (refine ordN (by rfl) ?_; simp only [Act.put, List.setIfInBounds_toArray, List.set_cons_zero, List.set_cons_succ]) | (refine ordQ (v := ?_) (by rfl) (fun _ hSw => ?_) ?_; rotate_left; (focus ((have hS1 := hSw.1); (have hS2 := hSw.2.1); (have hS3 := hSw.2.2.1); (have hS4 := hSw.2.2.2.1); (have hS5 := hSw.2.2.2.2.1); (have hS6 := hSw.2.2.2.2.2.1); (have hS7 := hSw.2.2.2.2.2.2.1); (have hS8 := hSw.2.2.2.2.2.2.2.1); (have hS9 := hSw.2.2.2.2.2.2.2.2.1); (have hS10 := hSw.2.2.2.2.2.2.2.2.2.1); (have hS11 := hSw.2.2.2.2.2.2.2.2.2.2.1); (have hS12 := hSw.2.2.2.2.2.2.2.2.2.2.2); clear hSw; go_simp; (first | done | with_reducible rfl))); simp only [Act.put, List.setIfInBounds_toArray, List.set_cons_zero, List.set_cons_succ]))
    refine ordD (by rfl) ?_
    intro K hK
    go_simp
    have hc := rcheckC x u1 (hx.below b1)
    rw [HMAY.out, Vx.out] at hc
    refine hc.mono ?_
    rintro e u2 ⟨rfl, hb⟩
    have b2 : Below v12.heap.size v12 u2 := b1.trans (hb.mono b1.size)
    go_wp2_with fail
    refine hK _ _ (hS _ b2) ?_
    clear hK K hc hb
    try simp only [Act.put, List.setIfInBounds_toArray, List.set_cons_zero, List.set_cons_succ]
    repeat (first | (refine ordS (by rfl) ?_; simp only [Act.put, List.setIfInBounds_toArray, List.set_cons_zero, List.set_cons_succ]) | (refine ordN (by rfl) ?_; simp only [Act.put, List.setIfInBounds_toArray, List.set_cons_zero, List.set_cons_succ]) | (refine ordQ (v := ?_) (by rfl) (fun _ hSw => ?_) ?_; rotate_left; (focus ((have hS1 := hSw.1); (have hS2 := hSw.2.1); (have hS3 := hSw.2.2.1); (have hS4 := hSw.2.2.2.1); (have hS5 := hSw.2.2.2.2.1); (have hS6 := hSw.2.2.2.2.2.1); (have hS7 := hSw.2.2.2.2.2.2.1); (have hS8 := hSw.2.2.2.2.2.2.2.1); (have hS9 := hSw.2.2.2.2.2.2.2.2.1); (have hS10 := hSw.2.2.2.2.2.2.2.2.2.1); (have hS11 := hSw.2.2.2.2.2.2.2.2.2.2.1); (have hS12 := hSw.2.2.2.2.2.2.2.2.2.2.2); clear hSw; go_simp; (first | done | with_reducible rfl))); simp only [Act.put, List.setIfInBounds_toArray, List.set_cons_zero, List.set_cons_succ]))
    refine ordD (by rfl) ?_
    intro K hK
    go_simp
    have hc := sameintlists A1 n1 c1 ta A2 n2 c2 tb u2 (hta.below b2).lss (htb.below b2).lss hn1m
    rw [show (Ls.all ta == Ls.all tb) = true by rw [HGA.out, HGB.out]; simp] at hc
    refine hc.mono ?_
    rintro e u3 ⟨rfl, q3, hq⟩
    have hb : Below u2.heap.size u2 u3 := by rw [hq]; exact belowN (Below.refl _ _) q3
    clear hq
    have b3 : Below v12.heap.size v12 u3 := b2.trans (hb.mono b2.size)
    go_wp2_with fail
    refine hK _ _ (hS _ b3) ?_
    clear hK K hc hb
    try simp only [Act.put, List.setIfInBounds_toArray, List.set_cons_zero, List.set_cons_succ]
    repeat (first | (refine ordS (by rfl) ?_; simp only [Act.put, List.setIfInBounds_toArray, List.set_cons_zero, List.set_cons_succ]) | (refine ordN (by rfl) ?_; simp only [Act.put, List.setIfInBounds_toArray, List.set_cons_zero, List.set_cons_succ]) | (refine ordQ (v := ?_) (by rfl) (fun _ hSw => ?_) ?_; rotate_left; (focus ((have hS1 := hSw.1); (have hS2 := hSw.2.1); (have hS3 := hSw.2.2.1); (have hS4 := hSw.2.2.2.1); (have hS5 := hSw.2.2.2.2.1); (have hS6 := hSw.2.2.2.2.2.1); (have hS7 := hSw.2.2.2.2.2.2.1); (have hS8 := hSw.2.2.2.2.2.2.2.1); (have hS9 := hSw.2.2.2.2.2.2.2.2.1); (have hS10 := hSw.2.2.2.2.2.2.2.2.2.1); (have hS11 := hSw.2.2.2.2.2.2.2.2.2.2.1); (have hS12 := hSw.2.2.2.2.2.2.2.2.2.2.2); clear hSw; go_simp; (first | done | with_reducible rfl))); simp only [Act.put, List.setIfInBounds_toArray, List.set_cons_zero, List.set_cons_succ]))
    refine ordD (by rfl) ?_
    intro K hK
    go_simp
    have hc := samemarket y2 z2 u3 (hy2.ok.below b3) (hz2.ok.below b3)
    rw [HSM.out, Vy2.out, Vz2.out] at hc
    refine hc.mono ?_
    rintro e u4 ⟨rfl, hb⟩
    have b4 : Below v12.heap.size v12 u4 := b3.trans (hb.mono b3.size)
    go_wp2_with fail
    refine hK _ _ (hS _ b4) ?_
    clear hK K hc hb
    try simp only [Act.put, List.setIfInBounds_toArray, List.set_cons_zero, List.set_cons_succ]
    repeat (first | (refine ordS (by rfl) ?_; simp only [Act.put, List.setIfInBounds_toArray, List.set_cons_zero, List.set_cons_succ]) | (refine ordN (by rfl) ?_; simp only [Act.put, List.setIfInBounds_toArray, List.set_cons_zero, List.set_cons_succ]) | (refine ordQ (v := ?_) (by rfl) (fun _ hSw => ?_) ?_; rotate_left; (focus ((have hS1 := hSw.1); (have hS2 := hSw.2.1); (have hS3 := hSw.2.2.1); (have hS4 := hSw.2.2.2.1); (have hS5 := hSw.2.2.2.2.1); (have hS6 := hSw.2.2.2.2.2.1); (have hS7 := hSw.2.2.2.2.2.2.1); (have hS8 := hSw.2.2.2.2.2.2.2.1); (have hS9 := hSw.2.2.2.2.2.2.2.2.1); (have hS10 := hSw.2.2.2.2.2.2.2.2.2.1); (have hS11 := hSw.2.2.2.2.2.2.2.2.2.2.1); (have hS12 := hSw.2.2.2.2.2.2.2.2.2.2.2); clear hSw; go_simp; (first | done | with_reducible rfl))); simp only [Act.put, List.setIfInBounds_toArray, List.set_cons_zero, List.set_cons_succ]))
    refine ordD (by rfl) ?_
    intro K hK
    go_simp
    have hc := samebytes_eqB A3 P.length c3 P A4 c4 u4 (ho3.below b4).rd (ho4.below b4).rd hPm
    refine hc.mono ?_
    rintro e u5 ⟨rfl, hb⟩
    have b5 : Below v12.heap.size v12 u5 := b4.trans (hb.mono b4.size)
    go_wp2_with fail
    refine hK _ _ (hS _ b5) ?_
    clear hK K hc hb
    try simp only [Act.put, List.setIfInBounds_toArray, List.set_cons_zero, List.set_cons_succ]
    repeat (first | (refine ordS (by rfl) ?_; simp only [Act.put, List.setIfInBounds_toArray, List.set_cons_zero, List.set_cons_succ]) | (refine ordN (by rfl) ?_; simp only [Act.put, List.setIfInBounds_toArray, List.set_cons_zero, List.set_cons_succ]) | (refine ordQ (v := ?_) (by rfl) (fun _ hSw => ?_) ?_; rotate_left; (focus ((have hS1 := hSw.1); (have hS2 := hSw.2.1); (have hS3 := hSw.2.2.1); (have hS4 := hSw.2.2.2.1); (have hS5 := hSw.2.2.2.2.1); (have hS6 := hSw.2.2.2.2.2.1); (have hS7 := hSw.2.2.2.2.2.2.1); (have hS8 := hSw.2.2.2.2.2.2.2.1); (have hS9 := hSw.2.2.2.2.2.2.2.2.1); (have hS10 := hSw.2.2.2.2.2.2.2.2.2.1); (have hS11 := hSw.2.2.2.2.2.2.2.2.2.2.1); (have hS12 := hSw.2.2.2.2.2.2.2.2.2.2.2); clear hSw; go_simp; (first | done | with_reducible rfl))); simp only [Act.put, List.setIfInBounds_toArray, List.set_cons_zero, List.set_cons_succ]))
    refine ordD (by rfl) ?_
    intro K hK
    go_simp
    have hc := leftmarket_any y x u5 _ (hy.below b5) (hx.below b5) Hyr.out Hyb.out Hyo.out Hyn.out (by omega) (by omega) (by omega) H6.out
    rw [Vy.out, Vx.out] at hc
    refine hc.mono ?_
    rintro e u6 ⟨rfl, hb⟩
    have b6 : Below v12.heap.size v12 u6 := b5.trans (hb.mono b5.size)
    go_wp2_with fail
    refine hK _ _ (hS _ b6) ?_
    clear hK K hc hb
    try simp only [Act.put, List.setIfInBounds_toArray, List.set_cons_zero, List.set_cons_succ]
    repeat (first | (refine ordS (by rfl) ?_; simp only [Act.put, List.setIfInBounds_toArray, List.set_cons_zero, List.set_cons_succ]) | (refine ordN (by rfl) ?_; simp only [Act.put, List.setIfInBounds_toArray, List.set_cons_zero, List.set_cons_succ]) | (refine ordQ (v := ?_) (by rfl) (fun _ hSw => ?_) ?_; rotate_left; (focus ((have hS1 := hSw.1); (have hS2 := hSw.2.1); (have hS3 := hSw.2.2.1); (have hS4 := hSw.2.2.2.1); (have hS5 := hSw.2.2.2.2.1); (have hS6 := hSw.2.2.2.2.2.1); (have hS7 := hSw.2.2.2.2.2.2.1); (have hS8 := hSw.2.2.2.2.2.2.2.1); (have hS9 := hSw.2.2.2.2.2.2.2.2.1); (have hS10 := hSw.2.2.2.2.2.2.2.2.2.1); (have hS11 := hSw.2.2.2.2.2.2.2.2.2.2.1); (have hS12 := hSw.2.2.2.2.2.2.2.2.2.2.2); clear hSw; go_simp; (first | done | with_reducible rfl))); simp only [Act.put, List.setIfInBounds_toArray, List.set_cons_zero, List.set_cons_succ]))
    refine ordE ?_
    have hxz := hx.below b6
    replace hy := hy.below b6
    replace hta := hta.below b6
    replace hy2 := hy2.below b6
    replace ho3 := ho3.below b6
    replace by1 := by1.below b6
    replace bc := bc.below b6
    replace hB := hB.trans (b6.mono hB.size)
    have szR := Lib.hid b6.size
    clear hS htb hz2 ho4 hx bx bd b0 b1 b2 b3 b4 b5 b6
    have hk0 := Bkn.new 50 tHs u6
    have hbk : Below u6.heap.size u6 (u6.alloc (.cells #[.int .i64 0, .slice none 0 0, .slice none 0 0, .slice none 0 0, .slice none 0 0, .slice none 0 0, .slice none 0 0, .slice none 0 0, .slice none 0 0, .slice none 0 0] 50)) := (Below.refl _ u6).alloc (Nat.le_refl _) _
    have q0 := (by1.below hbk).c0
    have q1 := (by1.below hbk).c1
    have q2 := (by1.below hbk).c2
    go_wp2_with fail
    generalize u6.alloc (.cells #[.int .i64 0, .slice none 0 0, .slice none 0 0, .slice none 0 0, .slice none 0 0, .slice none 0 0, .slice none 0 0, .slice none 0 0, .slice none 0 0, .slice none 0 0] 50) = s0 at hk0 hbk q0 q1 q2 ⊢
    obtain ⟨kb, hkb⟩ : ∃ kb, kb = u6.heap.size := ⟨_, rfl⟩
    rw [← hkb] at hk0 hbk ⊢
    have HKB := Lib.hid hkb
    have hgy : v3.heap.size < kb := by rw [hkb]; exact by1.lt
    have hgc : v7.heap.size < kb := by rw [hkb]; exact bc.lt
    clear hkb
    have hyn3 : y.n ≤ 3000 := by rw [Hyn.out]; omega
    have hyK : ∀ w', Below kb u6 w' → TwnM w' v2.heap.size y := fun w' h => hy.below (HKB.out ▸ h)
    have hcK : ∀ w', Below kb u6 w' → MkOwn w' v6.heap.size y2 := fun w' h => hy2.below (HKB.out ▸ h)
    have haK : ∀ w', Below kb u6 w' → Outs w' W4.heap.size A1 n1 c1 ta := fun w' h => hta.below (HKB.out ▸ h)
    have hoK : ∀ w', Below kb u6 w' → Own w' W10.heap.size 5 A3 P.length c3 (cu8 P) := fun w' h => ho3.below (HKB.out ▸ h)
    have hyA : ∀ p q, 0 < y.n → y.A = some ⟨p, q, none⟩ → p < kb := fun p q h0 hA => by
      obtain ⟨p', q', h1, h2⟩ := hy.ok.at_ h0
      rw [h1] at hA; cases hA; rw [HKB.out]; exact h2
    have hcA : ∀ p q, 0 < y2.n → y2.A = some ⟨p, q, none⟩ → p < kb := fun p q h0 hA => by
      obtain ⟨p', q', h1, h2⟩ := hy2.ok.at_ h0
      rw [h1] at hA; cases hA; rw [HKB.out]; exact h2
    have haA : ∀ p q, 0 < n1 → A1 = some ⟨p, q, none⟩ → p < kb := fun p q h0 hA => by
      obtain ⟨g, h1, _, h2⟩ := hta.own.lt (by have := hta.own.le; omega)
      rw [h1] at hA; cases hA; rw [HKB.out]; exact h2
    clear q0 q1 q2 hy hy2 hta ho3
    have htm := toldMarket kb 0 noTabs noLists y s0 hk0 (hyK _ hbk).ok.b hyA (by unfold maxLen; omega) (by omega) (by show 0 + _ + 3 ≤ _; omega) (by show 0 + 3 ≤ _; omega)
    rw [Vy.out] at htm
    refine htm.mono ?_
    rintro e s1 ⟨rfl, T1', st1, hk1, hb1, _⟩
    clear htm
    have hK1 := hbk.trans hb1
    go_wp2_with fail
    refine (toldIntLists kb _ T1' _ A1 n1 c1 ta s1 hk1 (outs_at (haK _ hK1).own) haA hn1m (by omega) (by show ([] ++ y.held 0).length + _ ≤ _; rw [List.nil_append, held_len y (hyK _ hK1).ok]; omega) (by show ([] ++ [_]).length ≤ _; simp)).mono ?_
    rintro e s2 ⟨rfl, T2', st2, hk2, hb2, _⟩
    have hK2 := hK1.trans hb2
    rw [more_more] at hk2
    have q0 := (bc.keepK hK2 hgc).c0
    have q1 := (bc.keepK hK2 hgc).c1
    have q2 := (bc.keepK hK2 hgc).c2
    have htl : (told (0 + y.n + 3) ta).length = n1 := by rw [told_len]; exact (haK _ hK2).len
    have htm := toldMarket kb _ T2' _ y2 s2 hk2 (hcK _ hK2).ok.b hcA (by unfold maxLen; omega) (by omega) (by show ([] ++ (y.held 0 ++ told (0 + y.n + 3) ta)).length + _ + 3 ≤ _; rw [List.nil_append, List.length_append, held_len y (hyK _ hK2).ok, htl]; omega) (by show ([] ++ ([_] ++ [_])).length + 3 ≤ _; simp)
    rw [Vy2.out] at htm
    go_wp2_with fail
    refine htm.mono ?_
    rintro e s3 ⟨rfl, T3', st3, hk3, hb3, _⟩
    clear htm q0 q1 q2
    have hK3 := hK2.trans hb3
    rw [more_more] at hk3
    go_wp2_with fail
    refine (toldBytes kb _ T3' _ ⟨A3, P.length, c3, []⟩ s3 hk3 (by omega) (by show ([] ++ ([] ++ [] ++ [])).length ≤ _; simp)).mono ?_
    rintro e s4 ⟨rfl, T4', st4, hk4, hb4, _⟩
    have hK4 := hK3.trans hb4
    rw [more_more] at hk4
    go_wp2_with fail
    have hps : Pcs s4 kb v2.heap.size [pcM y 0, pcL A1 n1 c1 ta (0 + y.n + 3), pcM y2 (0 + y.n + 3 + n1 + 1), pcB ⟨A3, P.length, c3, []⟩ (0 + y.n + 3 + n1 + 1 + y2.n + 3 + 1)] := by
      have k1 := HKB.out
      have z1 := sz1.out
      have z2 := sz2.out
      have z3 := sz3.out
      have z4 := sz4.out
      have z5 := sz5.out
      have z6 := sz6.out
      have z7 := sz7.out
      have z8 := sz8.out
      have z9 := sz9.out
      have z10 := sz10.out
      have z11 := sz11.out
      have z12 := sz12.out
      have zR := szR.out
      refine .cons (pcM_twn (hyK _ hK4) (hi := v3.heap.size) (by omega) rgY.out (by omega) (fun u hu => ?nu1)) (lo2 := W4.heap.size) (by omega) (.cons (pcL_outs (haK _ hK4) (hi := v5.heap.size) (by omega) rgA.out (by omega) (fun u hu => ?nu2)) (lo2 := v6.heap.size) (by omega) (.cons (pcM_own (hcK _ hK4) (hi := v7.heap.size) (by omega) rgC.out (by omega) (fun u hu => ?nu3)) (lo2 := W10.heap.size) (by omega) (.cons (pcB_ok (hoK _ hK4) (hi := v11.heap.size) (by omega) rgX.out (by omega) (by omega)) (lo2 := kb) (by omega) (.nil (Nat.le_refl _)))))
      case nu1 => exact twin_small Hyr.out Hyb.out Hyo.out (hyK _ hK4).ok hxz (by omega) (by omega) H6.out u hu
      case nu2 => have := HN1.out u hu; omega
      case nu3 =>
        simp only [List.mem_cons, List.mem_append, List.not_mem_nil, or_false] at hu
        rcases hu with rfl | hu | rfl
        · omega
        · have := YB.out u hu; omega
        · omega
    refine (apart_pcs kb _ w.heap.size v2.heap.size T4' _ _ _ _ s4 hk4 (((st1.trans st2).trans st3).trans st4) ?eb ?ei ?el hps ?hB ?hl).mono ?_
    case eb => simp [PcsB, pcM, pcL, pcB]
    case ei => simp [PcsI, pcM, pcL, pcB, Mk.held]
    case el => simp [PcsL, pcM, pcL, pcB, Mk.lists]
    case hB =>
      have z1 := sz1.out
      have z2 := sz2.out
      have z3 := sz3.out
      have z4 := sz4.out
      have z5 := sz5.out
      have z6 := sz6.out
      have z7 := sz7.out
      have z8 := sz8.out
      have z9 := sz9.out
      have z10 := sz10.out
      have z11 := sz11.out
      have z12 := sz12.out
      have zR := szR.out
      omega
    case hl =>
      have h1 := held_len y (hyK _ hK4).ok 0
      have h2 := held_len y2 (hcK _ hK4).ok (0 + y.n + 3 + n1 + 1)
      simp only [Mk.held] at h1 h2
      simp only [List.length_append, List.length_cons, List.length_nil] at h1 h2 ⊢
      omega
    rintro e s5 ⟨rfl, hb5⟩
    have hBk := hB.trans (hK4.mono (by rw [HKB.out]; exact hB.size))
    go_wp2
    go_ret
    exact ⟨rfl, hBk.trans hb5⟩
end Go.Proofs.YtfhiedlglmgneaaGreatDoor.marketsOf
