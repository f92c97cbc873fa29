/-
  Proved: salesroomlaw06.GraphsNear answers true, for any lists, any items and any two lists of some, in whatever memory. No conditions.
-/
import Derived.Test.YtllnpghpbhikmaaRows
import Derived.Test.YtllnpghpbhikmaaLift
import Derived.Test.YtllnpghpbhikmaaAlive6
import Derived.Test.YtllnpghpbhikmaaGrM
import Derived.Test.YtllnpghpbhikmaaGrH
import Derived.Test.YtllnpghpbhikmaaReg
namespace Go.Proofs.Ytllnpghpbhikmaa.graphsNear
open Go.ChangeShapes Go.WideShapes Go.ChangeAt Go.RowKit
set_option linter.unusedVariables false

theorem info6_int : (Try.prog.info? 3).map (fun i => (i.zero, i.size, i.bytes)) = some (some (.int .i64 0), 1, 8) := by kernel_rfl
theorem has_upto {l : List Int} {n k : Nat} : decide ((k : Int) ∈ upto n fun i => decide ((i : Int) ∈ l)) = (decide (k < n) && decide ((k : Int) ∈ l)) := by
  rw [← Bool.decide_and, decide_eq_decide, mem_upto_nat, decide_eq_true_eq]
theorem near_both {g : List (List Int)} {m k : Nat} {a b : List Int} (ha : Rises g.length a) (hb : Rises g.length b) :
    decide ((k : Int) ∈ nearG g m (upto g.length fun i => decide ((i : Int) ∈ a) || decide ((i : Int) ∈ b))) = (decide ((k : Int) ∈ nearG g m a) || decide ((k : Int) ∈ nearG g m b)) := by
  rw [← Bool.decide_or, decide_eq_decide, mem_nearG, mem_nearG, mem_nearG]
  constructor
  · rintro ⟨hk, i, hi, h⟩
    obtain ⟨j, hj, hp, rfl⟩ := mem_upto.1 hi
    rw [Bool.or_eq_true, decide_eq_true_eq, decide_eq_true_eq] at hp
    rcases hp with hp | hp
    · exact .inl ⟨hk, _, hp, h⟩
    · exact .inr ⟨hk, _, hp, h⟩
  · rintro (⟨hk, i, hi, h⟩ | ⟨hk, i, hi, h⟩)
    · have h1 := ha.1 i hi
      refine ⟨hk, i, mem_upto.2 ⟨i.toNat, by omega, ?_, by omega⟩, h⟩
      rw [Int.toNat_of_nonneg h1.1, decide_eq_true hi]; rfl
    · have h1 := hb.1 i hi
      refine ⟨hk, i, mem_upto.2 ⟨i.toNat, by omega, ?_, by omega⟩, h⟩
      rw [Int.toNat_of_nonneg h1.1, decide_eq_true hi, Bool.or_true]
theorem any_near {g : List (List Int)} {m k : Nat} {a : List Int} (hk : k < m) : (a.any fun i => decide ((k : Int) ∈ g.getD i.toNat [])) = decide ((k : Int) ∈ nearG g m a) := by
  rw [Bool.eq_iff_iff, decide_eq_true_eq, mem_nearG, List.any_eq_true]
  constructor
  · rintro ⟨i, hi, h⟩; exact ⟨hk, i, hi, of_decide_eq_true h⟩
  · rintro ⟨_, i, hi, h⟩; exact ⟨i, hi, decide_eq_true h⟩
theorem any_take {a : List Int} {i : Nat} (hi : i < a.length) (p : Int → Bool) : (a.take (i + 1)).any p = ((a.take i).any p || p a[i]) := by
  rw [List.take_succ_eq_append_getElem hi, List.any_append]; simp

set_option maxRecDepth 100000 in
set_option maxHeartbeats 4000000 in
theorem walk (x : Gr) (m : Int) (A1 : Option Addr) (n1 c1 : Nat) (zs1 : List Int) (A2 : Option Addr) (n2 c2 : Nat) (zs2 : List Int) (w : World) (h : x.Ok w) (hm1 : -9223372036854775808 ≤ m) (hm2 : m ≤ 9223372036854775807) (h1 : Ls.Ok w ⟨A1, n1, c1, zs1⟩) (h2 : Ls.Ok w ⟨A2, n2, c2, zs2⟩) :
    Calls Try.prog 5 #[.agg #[x.v, .int .i64 m], .slice A1 n1 c1, .slice A2 n2 c2] w fun e w' => e = .returned (.bool true) ∧ Below w.heap.size w w' := by
  have hx := h
  have hB := Below.refl w.heap.size w
  have hxv : x.v = .slice x.A x.n x.c := rfl
  have Vx := Lib.hid hxv
  rw [hxv]
  have hgl := h.glen
  have HGL := Lib.hid hgl
  have htop := Nat.le_trans h.cap h.top
  unfold maxLen at htop
  obtain ⟨B, hB0⟩ : ∃ B, checkG x.g m = B := ⟨_, rfl⟩
  clear hxv hgl h
  have HL1 : Hid (zs1.length = n1) := Lib.hid h1.len
  go_enter Try.func5, Try.ntmps5
  have bg := GBox.new w x m
  have hbx : Below w.heap.size w (w.alloc (.cells #[.slice x.A x.n x.c, .int .i64 m] 24)) := (Below.refl _ w).alloc (Nat.le_refl _) _
  replace hx := hx.below hbx
  replace h1 := h1.below hbx
  replace h2 := h2.below hbx
  replace hB := hB.trans (hbx.mono hB.size)
  clear hbx
  have eg0 := bg.c0
  have eg1 := bg.c1
  have hc := sizes_b x (w.alloc (.cells #[.slice x.A x.n x.c, .int .i64 m] 24)) hx
  rw [Vx.out] at hc
  go_wp2_with fail
  clear eg0 eg1
  generalize w.alloc (.cells #[.slice x.A x.n x.c, .int .i64 m] 24) = W1 at *
  refine hc.mono ?_
  rintro e v2 ⟨zz, rfl, hb⟩
  clear hc
  replace hx := hx.below hb
  replace h1 := h1.below hb
  replace h2 := h2.below hb
  replace bg := bg.below hb
  replace hB := hB.trans (hb.mono hB.size)
  clear hb
  by_cases hbig : 3000 < zz
  · have hb1 : decide (3000 < zz) = true := decide_eq_true hbig
    have eg0 := bg.c0
    have eg1 := bg.c1
    have hc := alive6_any v2
    go_wp2_with fail
    clear eg0 eg1
    refine hc.mono ?_
    rintro e v3 ⟨rfl, hb⟩
    clear hc
    replace hx := hx.below hb
    replace h1 := h1.below hb
    replace h2 := h2.below hb
    replace bg := bg.below hb
    replace hB := hB.trans (hb.mono hB.size)
    clear hb
    have eg0 := bg.c0
    have eg1 := bg.c1
    go_wp2
    go_ret
    exact ⟨rfl, hB⟩
  have hb1 : decide (3000 < zz) = false := decide_eq_false hbig
  clear hbig
  by_cases hn1 : 100 < n1
  · have hb2 : decide (100 < n1) = true := decide_eq_true hn1
    have hb3 : decide (100 < (n1 : Int)) = true := decide_eq_true (by omega)
    have eg0 := bg.c0
    have eg1 := bg.c1
    have hc := alive6_any v2
    go_wp2_with fail
    clear eg0 eg1
    refine hc.mono ?_
    rintro e v3 ⟨rfl, hb⟩
    clear hc
    replace hx := hx.below hb
    replace h1 := h1.below hb
    replace h2 := h2.below hb
    replace bg := bg.below hb
    replace hB := hB.trans (hb.mono hB.size)
    clear hb
    have eg0 := bg.c0
    have eg1 := bg.c1
    go_wp2
    go_ret
    exact ⟨rfl, hB⟩
  have hb2 : decide (100 < n1) = false := decide_eq_false hn1
  have hb3 : decide (100 < (n1 : Int)) = false := decide_eq_false (by omega)
  by_cases hn2 : 100 < n2
  · have hb4 : decide (100 < n2) = true := decide_eq_true hn2
    have hb5 : decide (100 < (n2 : Int)) = true := decide_eq_true (by omega)
    have eg0 := bg.c0
    have eg1 := bg.c1
    have hc := alive6_any v2
    go_wp2_with fail
    clear eg0 eg1
    refine hc.mono ?_
    rintro e v3 ⟨rfl, hb⟩
    clear hc
    replace hx := hx.below hb
    replace h1 := h1.below hb
    replace h2 := h2.below hb
    replace bg := bg.below hb
    replace hB := hB.trans (hb.mono hB.size)
    clear hb
    have eg0 := bg.c0
    have eg1 := bg.c1
    go_wp2
    go_ret
    exact ⟨rfl, hB⟩
  have hb4 : decide (100 < n2) = false := decide_eq_false hn2
  have hb5 : decide (100 < (n2 : Int)) = false := decide_eq_false (by omega)
  obtain ⟨R1, hR1⟩ : ∃ R, nearOk x.g m zs1 = R := ⟨_, rfl⟩
  obtain ⟨R2, hR2⟩ : ∃ R, nearOk x.g m zs2 = R := ⟨_, rfl⟩
  clear hB0
  cases R1
  · have E1 := Lib.hid (near_err_bad hR1)
    have E2 := Lib.hid (near_bad hR1)
    clear hR1 hR2
    have eg0 := bg.c0
    have eg1 := bg.c1
    have hc := gnearC x m ⟨A1, n1, c1, zs1⟩ v2 hx h1 hm1 hm2
    rw [Vx.out, E1.out, E2.out] at hc
    go_wp2_with fail
    clear eg0 eg1
    refine hc.mono ?_
    rintro e v3 ⟨A3, n3, c3, rfl, h3, hb⟩
    clear hc
    replace hx := hx.below hb
    replace h1 := h1.below hb
    replace h2 := h2.below hb
    replace bg := bg.below hb
    replace hB := hB.trans (hb.mono hB.size)
    clear hb
    obtain rfl : n3 = 0 := h3.len.symm
    clear h3
    have eg0 := bg.c0
    have eg1 := bg.c1
    have hc := gnearC x m ⟨A2, n2, c2, zs2⟩ v3 hx h2 hm1 hm2
    rw [Vx.out] at hc
    go_wp2_with fail
    clear eg0 eg1
    refine hc.mono ?_
    rintro e v4 ⟨A4, n4, c4, rfl, h4, hb⟩
    clear hc
    replace hx := hx.below hb
    replace h1 := h1.below hb
    replace h2 := h2.below hb
    replace bg := bg.below hb
    replace hB := hB.trans (hb.mono hB.size)
    clear hb
    clear h4
    generalize nearErr x.g m zs2 = e2
    have eg0 := bg.c0
    have eg1 := bg.c1
    have hc := alive6_any v4
    go_wp2_with fail
    clear eg0 eg1
    refine hc.mono ?_
    rintro e v5 ⟨rfl, hb⟩
    clear hc
    replace hx := hx.below hb
    replace h1 := h1.below hb
    replace h2 := h2.below hb
    replace bg := bg.below hb
    replace hB := hB.trans (hb.mono hB.size)
    clear hb
    have eg0 := bg.c0
    have eg1 := bg.c1
    go_wp2
    go_ret
    exact ⟨rfl, hB⟩
  have hc1 : checkG x.g m = true := by
    have h := hR1
    rw [nearOk, Bool.and_eq_true] at h
    exact h.1
  have hr1 : Rises x.g.length zs1 := by
    have h := hR1
    rw [nearOk, Bool.and_eq_true] at h
    exact of_decide_eq_true h.2
  have HC := Lib.hid hc1
  have HR1 := Lib.hid hr1
  obtain ⟨q1, q2, q3, _⟩ := checkG_iff.1 hc1
  rw [HGL.out] at q3
  obtain ⟨M, rfl⟩ : ∃ M : Nat, m = M := ⟨m.toNat, by omega⟩
  have hM8 : M ≤ 8 := by omega
  have E1 := Lib.hid (near_err (m := M) hR1)
  have E2 := Lib.hid (near_ans hR1)
  clear hc1 hr1 q1 q2 hR1 hm1 hm2
  have eg0 := bg.c0
  have eg1 := bg.c1
  have hc := gnearC x M ⟨A1, n1, c1, zs1⟩ v2 hx h1 (by omega) (by omega)
  rw [Vx.out, E1.out, E2.out] at hc
  go_wp2_with fail
  clear eg0 eg1
  refine hc.mono ?_
  rintro e v3 ⟨A3, n3, c3, rfl, h3, hb⟩
  clear hc
  replace hx := hx.below hb
  replace h1 := h1.below hb
  replace h2 := h2.below hb
  replace bg := bg.below hb
  replace hB := hB.trans (hb.mono hB.size)
  clear hb
  have hn3 : n3 ≤ M := by
    have h := h3.len
    exact Nat.le_trans (Nat.le_of_eq h.symm) (upto_len _ _)
  cases R2
  · have F1 := Lib.hid (near_err_bad hR2)
    have F2 := Lib.hid (near_bad hR2)
    clear hR2
    have eg0 := bg.c0
    have eg1 := bg.c1
    have hc := gnearC x M ⟨A2, n2, c2, zs2⟩ v3 hx h2 (by omega) (by omega)
    rw [Vx.out, F1.out, F2.out] at hc
    go_wp2_with fail
    clear eg0 eg1
    refine hc.mono ?_
    rintro e v4 ⟨A4, n4, c4, rfl, h4, hb⟩
    clear hc
    replace hx := hx.below hb
    replace h1 := h1.below hb
    replace h2 := h2.below hb
    replace h3 := h3.below hb
    replace bg := bg.below hb
    replace hB := hB.trans (hb.mono hB.size)
    clear hb
    obtain rfl : n4 = 0 := h4.len.symm
    clear h4
    have eg0 := bg.c0
    have eg1 := bg.c1
    have hc := alive6_any v4
    go_wp2_with fail
    clear eg0 eg1
    refine hc.mono ?_
    rintro e v5 ⟨rfl, hb⟩
    clear hc
    replace hx := hx.below hb
    replace h1 := h1.below hb
    replace h2 := h2.below hb
    replace h3 := h3.below hb
    replace bg := bg.below hb
    replace hB := hB.trans (hb.mono hB.size)
    clear hb
    have eg0 := bg.c0
    have eg1 := bg.c1
    go_wp2
    go_ret
    exact ⟨rfl, hB⟩
  have hr2 : Rises x.g.length zs2 := by
    have h := hR2
    rw [nearOk, Bool.and_eq_true] at h
    exact of_decide_eq_true h.2
  have HR2 := Lib.hid hr2
  have F1 := Lib.hid (near_err (m := M) hR2)
  have F2 := Lib.hid (near_ans hR2)
  clear hr2 hR2
  have eg0 := bg.c0
  have eg1 := bg.c1
  have hc := gnearC x M ⟨A2, n2, c2, zs2⟩ v3 hx h2 (by omega) (by omega)
  rw [Vx.out, F1.out, F2.out] at hc
  go_wp2_with fail
  clear eg0 eg1
  refine hc.mono ?_
  rintro e v4 ⟨A4, n4, c4, rfl, h4, hb⟩
  clear hc
  replace hx := hx.below hb
  replace h1 := h1.below hb
  replace h2 := h2.below hb
  replace h3 := h3.below hb
  replace bg := bg.below hb
  replace hB := hB.trans (hb.mono hB.size)
  clear hb
  have hn4 : n4 ≤ M := by
    have h := h4.len
    exact Nat.le_trans (Nat.le_of_eq h.symm) (upto_len _ _)
  obtain ⟨i0, hi0, hz0, hz1, hz2⟩ := info_parts info6_int
  have eg0 := bg.c0
  have eg1 := bg.c1
  go_wp2_with fail
  clear eg0 eg1
  go_loopw [11, 12] (fun o i wr => ∃ (j k : Nat) (A' : Option Addr) (c' : Nat) (l : List Int), j ≤ x.n ∧ k ≤ j ∧ i = .int .i64 j ∧ o = .slice A' k c' ∧ Own wr v4.heap.size 3 A' k c' (ci64 l) ∧ Hid (l = upto j (fun i => decide ((i : Int) ∈ zs1) || decide ((i : Int) ∈ zs2))) ∧ Below v4.heap.size v4 wr) (fun _ i _ => x.n - (intOf i).toNat)
  case atStart => exact ⟨0, 0, none, 0, [], Nat.zero_le _, Nat.le_refl _, rfl, rfl, Own.none_ _ _ _ _, Lib.hid rfl, Below.refl _ _⟩
  case round =>
    obtain ⟨j, k, A', c', l, hj, hkj, rfl, rfl, hown, hl, hbel⟩ := hrel
    have hgr := bg.below hbel
    have eg0 := hgr.c0
    have eg1 := hgr.c1
    have hwo := hbel.size
    by_cases hlt : j < x.n
    · obtain ⟨β, hβ⟩ : ∃ β, decide ((j : Int) ∈ zs1) = β := ⟨_, rfl⟩
      obtain ⟨γ, hγ⟩ : ∃ γ, decide ((j : Int) ∈ zs2) = γ := ⟨_, rfl⟩
      have hst : upto (j + 1) (fun i => decide ((i : Int) ∈ zs1) || decide ((i : Int) ∈ zs2)) = l ++ (if (β || γ) = true then [(j : Int)] else []) := by
        rw [upto_succ, hl.out, hβ, hγ]
      have HST := Lib.hid hst
      have hh1 := lhas_any A1 n1 c1 zs1 (j : Int) wr (h1.rd.below hbel) (Nat.le_trans h1.cap h1.top)
      have hh2 := lhas_any A2 n2 c2 zs2 (j : Int) wr (h2.rd.below hbel) (Nat.le_trans h2.cap h2.top)
      rw [hβ] at hh1
      rw [hγ] at hh2
      clear hst hβ hγ hl
      have happ : ∀ b : Bool, b = true → Hid (l ++ [(j : Int)] = upto (j + 1) (fun i => decide ((i : Int) ∈ zs1) || decide ((i : Int) ∈ zs2))) → (β || γ) = b → True := fun _ _ _ _ => trivial
      clear happ
      go_wp2_with fail
      refine hh1.mono ?_
      rintro e w2 ⟨rfl, rfl⟩
      clear hh1
      cases β
      · go_wp2_with fail
        refine hh2.mono ?_
        rintro e w2 ⟨rfl, rfl⟩
        clear hh2
        cases γ
        · have HN := Lib.hid (show l = upto (j + 1) (fun i => decide ((i : Int) ∈ zs1) || decide ((i : Int) ∈ zs2)) by rw [HST.out]; simp)
          go_wp2
          go_roundw
          case rel => exact ⟨j + 1, k, A', c', l, by omega, by omega, by go_num, rfl, hown, HN, hbel⟩
          case measure => simp [intOf]; omega
        · have HN := Lib.hid (show l ++ [(j : Int)] = upto (j + 1) (fun i => decide ((i : Int) ∈ zs1) || decide ((i : Int) ∈ zs2)) by rw [HST.out]; simp)
          go_wp2_with (at_builtin; go_must (refine wpList_app1 wr rfl _ _ 33 rfl 3 i0 _ 8 Try.underlying33 hi0 hz0 hz1 hz2 rfl v4.heap.size A' k c' _ rfl hown 1 rfl rfl ?c3 ?c4 ?c5 ?_))
          case c3 => simp only [maxLen]; omega
          case c4 => omega
          try case c5 => exact hwo
          intro A5 c5 w3 hown3 hbel3 hfr3 hat3
          have hown4 : Own w3 v4.heap.size 3 A5 (k + 1) c5 (ci64 (l ++ [(j : Int)])) := by
            rw [ci64_snoc6]
            exact hown3
          have hbk3 := hbel.trans hbel3
          clear hown3 hbel3 hfr3 hat3 hown eg0 eg1
          go_wp2
          go_roundw
          case rel => exact ⟨j + 1, k + 1, A5, c5, _, by omega, by omega, by go_num, rfl, hown4, HN, hbk3⟩
          case measure => simp [intOf]; omega
      · have HN := Lib.hid (show l ++ [(j : Int)] = upto (j + 1) (fun i => decide ((i : Int) ∈ zs1) || decide ((i : Int) ∈ zs2)) by rw [HST.out]; simp)
        clear hh2
        go_wp2_with (at_builtin; go_must (refine wpList_app1 wr rfl _ _ 33 rfl 3 i0 _ 8 Try.underlying33 hi0 hz0 hz1 hz2 rfl v4.heap.size A' k c' _ rfl hown 1 rfl rfl ?d3 ?d4 ?d5 ?_))
        case d3 => simp only [maxLen]; omega
        case d4 => omega
        try case d5 => exact hwo
        intro A5 c5 w3 hown3 hbel3 hfr3 hat3
        have hown4 : Own w3 v4.heap.size 3 A5 (k + 1) c5 (ci64 (l ++ [(j : Int)])) := by
          rw [ci64_snoc6]
          exact hown3
        have hbk3 := hbel.trans hbel3
        clear hown3 hbel3 hfr3 hat3 hown eg0 eg1
        go_wp2
        go_roundw
        case rel => exact ⟨j + 1, k + 1, A5, c5, _, by omega, by omega, by go_num, rfl, hown4, HN, hbk3⟩
        case measure => simp [intOf]; omega
    · obtain rfl : j = x.n := by omega
      have hall : OwnI wr v4.heap.size ⟨A', k, c', l⟩ := ⟨hown, fun z hz => by
        rw [hl.out] at hz
        have := (upto_rises _ _).1 z hz
        omega⟩
      have hlz := hl.out
      clear hown hwo hgr eg0 eg1 hl
      rw [← HGL.out] at hlz
      have hob : nearOk x.g M l = true := nearOk_of HC.out (by rw [hlz]; exact upto_rises _ _)
      have G1 := Lib.hid (near_err (m := M) hob)
      have G2 := Lib.hid (near_ans hob)
      have HLZ := Lib.hid hlz
      clear hlz hob
      obtain ⟨wq, hwq⟩ : ∃ wq, wq = wr := ⟨_, rfl⟩
      rw [← hwq] at hall hbel ⊢
      clear hwq
      replace hx := hx.below hbel
      replace h1 := h1.below hbel
      replace h2 := h2.below hbel
      replace h3 := h3.below hbel
      replace h4 := h4.below hbel
      replace bg := bg.below hbel
      replace hB := hB.trans (hbel.mono hB.size)
      clear hbel
      have eg0 := bg.c0
      have eg1 := bg.c1
      have hc := gnearC x M ⟨A', k, c', l⟩ wq hx hall.ok (by omega) (by omega)
      rw [Vx.out, G1.out, G2.out] at hc
      go_wp2_with fail
      clear eg0 eg1
      refine hc.mono ?_
      rintro e v5 ⟨A6, n6, c6, rfl, h6, hb⟩
      clear hc
      replace hx := hx.below hb
      replace h1 := h1.below hb
      replace h2 := h2.below hb
      replace h3 := h3.below hb
      replace h4 := h4.below hb
      replace hall := hall.below hb
      replace bg := bg.below hb
      replace hB := hB.trans (hb.mono hB.size)
      clear hb
      have eg0 := bg.c0
      have eg1 := bg.c1
      go_wp2_with fail
      clear eg0 eg1
      go_loopw [15] (fun v wr => ∃ (i : Nat), i ≤ M ∧ v = .int .i64 i ∧ Below v5.heap.size v5 wr) (fun v _ => M - (intOf v).toNat)
      case atStart => exact ⟨0, Nat.zero_le _, rfl, Below.refl _ _⟩
      case round =>
        obtain ⟨t, ht, rfl, hbel⟩ := hrel
        obtain ⟨wo, rfl⟩ : ∃ wo, wo = wr := ⟨_, rfl⟩
        have hgo := bg.below hbel
        have eg0 := hgo.c0
        have eg1 := hgo.c1
        by_cases htM : t < M
        · have hxo := hx.below hbel
          have h1o := h1.rd.below hbel
          have htM' : (t : Int) < M := by omega
          go_wp2_with fail
          clear eg0 eg1
          go_loopw [16, 17] (fun o v wr => ∃ (i : Nat) (β : Bool), i ≤ n1 ∧ v = .int .i64 i ∧ o = .bool β ∧ Hid ((zs1.take i).any (fun i => decide ((t : Int) ∈ x.g.getD i.toNat [])) = β) ∧ Below wo.heap.size wo wr) (fun _ v _ => n1 - (intOf v).toNat)
          case atStart => exact ⟨0, false, Nat.zero_le _, rfl, rfl, Lib.hid rfl, Below.refl _ _⟩
          case round =>
            obtain ⟨i, β, hi, rfl, rfl, hβ, hbj⟩ := hrel
            have hgr := hgo.below hbj
            have eg0 := hgr.c0
            have eg1 := hgr.c1
            by_cases hin : i < n1
            · have hin' : (i : Int) < n1 := by omega
              have hil : i < zs1.length := by rw [HL1.out]; exact hin
              obtain ⟨p, q, rfl, hp, y0, hy0, hcy⟩ := h1o.get hin
              rw [ci64_get _ _ hil] at hy0
              obtain rfl : iV zs1[i] = y0 := Option.some.inj hy0
              unfold iV at hcy
              have hyr := HR1.out.1 zs1[i] (List.getElem_mem hil)
              rw [HGL.out] at hyr
              have hat := any_take hil fun i => decide ((t : Int) ∈ x.g.getD i.toNat [])
              rw [hβ.out] at hat
              obtain ⟨y, hy⟩ : ∃ y, zs1[i] = y := ⟨_, rfl⟩
              rw [hy] at hcy hyr hat
              obtain ⟨y, rfl⟩ : ∃ y' : Nat, y = y' := ⟨y.toNat, by omega⟩
              have hyn : y < x.n := by omega
              have hyn' : (y : Int) < x.n := by omega
              have g1 : decide ((y : Int) < 0) = false := decide_eq_false (by omega)
              have g2 : decide ((x.n : Int) ≤ (y : Int)) = false := decide_eq_false (by omega)
              have g3 : decide (x.n ≤ y) = false := decide_eq_false (by omega)
              have hcw : wr.cell? ⟨p, q + i, none⟩ = some (.int .i64 (y : Int)) := (hbj.cell (p := ⟨p, q + i, none⟩) hp).trans hcy
              obtain ⟨p3, q3, u, hA, hu, hg, hp3, hcl, hk⟩ := (hxo.below hbj).get hyn
              have hcu : wr.cell? ⟨p3, q3 + y, none⟩ = some (.slice u.A u.n u.c) := hcl
              rw [Int.toNat_natCast, hg] at hat
              have HAT := Lib.hid hat
              have hi0' : (0 : Int) ≤ y := by omega
              have eg0' : wr.drew.cell? ⟨w.heap.size, 0, none⟩ = some (.slice (some ⟨p3, q3, none⟩) x.n x.c) := by rw [← hA]; exact eg0
              clear hA hy0 hy hyr hat hu hg hcl hcy hil hβ
              go_wp2_with fail
              refine wp_region_ord (S := fun w' => w'.cell? ⟨p, q + i, none⟩ = some (.int .i64 (y : Int)) ∧ w'.cell? ⟨w.heap.size, 0, none⟩ = some (.slice x.A x.n x.c)) [(0, true), (1, true), (2, true), (3, true), (4, true), (5, true), (6, true), (7, true), (8, true), (9, true), (10, true), (11, true), (12, true), (13, true), (14, true)] default (by kernel_rfl) (by kernel_rfl) (by kernel_rfl) ⟨hcw, eg0⟩ ?_
              simp only [getOrd, nth]
              repeat (first | (refine ordS (by rfl) ?_; simp only [Act.put, List.setIfInBounds_toArray, List.set_cons_zero, List.set_cons_succ]) | (refine ordN (by rfl) ?_; simp only [Act.put, List.setIfInBounds_toArray, List.set_cons_zero, List.set_cons_succ]) | (refine ordQ (v := ?_) (by rfl) (fun _ hSw => ?_) ?_; rotate_left; (focus ((have hS1 := hSw.1); (have hS2 := hSw.2); clear hSw; go_simp; (first | done | with_reducible rfl))); simp only [Act.put, List.setIfInBounds_toArray, List.set_cons_zero, List.set_cons_succ]))
              refine ordE ?_
              have hbd := hbj.drew
              cases β
              · obtain ⟨γ, hγ⟩ : ∃ γ, decide ((t : Int) ∈ u.zs) = γ := ⟨_, rfl⟩
                have HN := Lib.hid (show (zs1.take (i + 1)).any (fun i => decide ((t : Int) ∈ x.g.getD i.toNat [])) = γ by rw [HAT.out, hγ]; rfl)
                have hh := lhas_any u.A u.n u.c u.zs (t : Int) wr.drew.drew hk.rd.drew.drew (Nat.le_trans hk.cap hk.top)
                rw [hγ] at hh
                have hcw1 : wr.drew.cell? ⟨p, q + i, none⟩ = some (.int .i64 (y : Int)) := hcw
                have hcu1 : wr.drew.cell? ⟨p3, q3 + y, none⟩ = some (.slice u.A u.n u.c) := hcu
                clear hγ hk eg0 eg1 hcw hcu
                go_wp2_with fail
                refine wp_region_ord (S := fun w' => w'.cell? ⟨p, q + i, none⟩ = some (.int .i64 (y : Int)) ∧ w'.cell? ⟨w.heap.size, 0, none⟩ = some (.slice (some ⟨p3, q3, none⟩) x.n x.c) ∧ w'.cell? ⟨p3, q3 + y, none⟩ = some (.slice u.A u.n u.c)) [(0, true), (1, true), (2, true), (3, true), (4, true), (5, true), (6, true), (7, true), (8, true), (9, true), (10, true), (11, false), (12, true), (13, true)] default (by kernel_rfl) (by kernel_rfl) (by kernel_rfl) ⟨hcw1, eg0', hcu1⟩ ?_
                simp only [getOrd, nth]
                repeat (first | (refine ordS (by rfl) ?_; simp only [Act.put, List.setIfInBounds_toArray, List.set_cons_zero, List.set_cons_succ]) | (refine ordN (by rfl) ?_; simp only [Act.put, List.setIfInBounds_toArray, List.set_cons_zero, List.set_cons_succ]) | (refine ordQ (v := ?_) (by rfl) (fun _ hSw => ?_) ?_; rotate_left; (focus ((have hS1 := hSw.1); (have hS2 := hSw.2.1); (have hS3 := hSw.2.2); clear hSw; go_simp; (first | done | with_reducible rfl))); simp only [Act.put, List.setIfInBounds_toArray, List.set_cons_zero, List.set_cons_succ]))
                refine ordD (by rfl) ?_
                intro K hK
                go_simp
                refine hh.mono ?_
                rintro e w2 ⟨rfl, rfl⟩
                go_wp2_with fail
                refine hK _ _ ⟨hcw1, eg0', hcu1⟩ ?_
                clear hK K hh
                try simp only [Act.put, List.setIfInBounds_toArray, List.set_cons_zero, List.set_cons_succ]
                repeat (first | (refine ordS (by rfl) ?_; simp only [Act.put, List.setIfInBounds_toArray, List.set_cons_zero, List.set_cons_succ]) | (refine ordN (by rfl) ?_; simp only [Act.put, List.setIfInBounds_toArray, List.set_cons_zero, List.set_cons_succ]) | (refine ordQ (v := ?_) (by rfl) (fun _ hSw => ?_) ?_; rotate_left; (focus ((have hS1 := hSw.1); (have hS2 := hSw.2.1); (have hS3 := hSw.2.2); clear hSw; go_simp; (first | done | with_reducible rfl))); simp only [Act.put, List.setIfInBounds_toArray, List.set_cons_zero, List.set_cons_succ]))
                refine ordE ?_
                have hbd2 := hbd.drew
                clear hcw1 eg0' hcu1
                go_wp2
                go_roundw
                case rel => exact ⟨i + 1, γ, by omega, by go_num, rfl, HN, hbd2⟩
                case measure => simp [intOf]; omega
              · have HN := Lib.hid (show (zs1.take (i + 1)).any (fun i => decide ((t : Int) ∈ x.g.getD i.toNat [])) = true by rw [HAT.out]; rfl)
                clear hk eg0 eg1 hcw hcu eg0'
                go_wp2_with fail
                refine wp_region_ord (S := fun w' => True) [(0, true), (1, true), (2, true), (3, true), (4, true), (5, true), (6, true), (7, true), (8, true), (9, true), (10, true), (11, false), (12, true), (13, true)] default (by kernel_rfl) (by kernel_rfl) (by kernel_rfl) trivial ?_
                simp only [getOrd, nth]
                repeat (first | (refine ordS (by rfl) ?_; simp only [Act.put, List.setIfInBounds_toArray, List.set_cons_zero, List.set_cons_succ]) | (refine ordN (by rfl) ?_; simp only [Act.put, List.setIfInBounds_toArray, List.set_cons_zero, List.set_cons_succ]) | (refine ordQ (v := ?_) (by rfl) (fun _ hSw => ?_) ?_; rotate_left; (focus ((have hS1 := hSw); clear hSw; go_simp; (first | done | with_reducible rfl))); simp only [Act.put, List.setIfInBounds_toArray, List.set_cons_zero, List.set_cons_succ]))
                refine ordE ?_
                have hbd2 := hbd.drew
                go_wp2
                go_roundw
                case rel => exact ⟨i + 1, true, by omega, by go_num, rfl, HN, hbd2⟩
                case measure => simp [intOf]; omega
            · obtain rfl : i = n1 := by omega
              have hβ2 : β = decide ((t : Int) ∈ nearG x.g M zs1) := by
                have h5 := hβ.out
                rw [List.take_of_length_le (by rw [HL1.out]; exact Nat.le_refl _), any_near htM] at h5
                exact h5.symm
              have hb2 := hbel.trans (hbj.mono hbel.size)
              obtain ⟨γ, hγ⟩ : ∃ γ, decide ((t : Int) ∈ nearG x.g M zs2) = γ := ⟨_, rfl⟩
              have hβ3 := hβ2.symm
              have hbo : decide ((t : Int) ∈ nearG x.g M l) = (β || γ) := by
                rw [HLZ.out, near_both HR1.out HR2.out, hβ3, hγ]
              have k1 := lhas_any A3 n3 c3 (nearG x.g M zs1) (t : Int) wr (h3.own.rd.below hb2) (by unfold maxLen; omega)
              have k2 := lhas_any A6 n6 c6 (nearG x.g M l) (t : Int) wr (h6.own.rd.below hb2) (Nat.le_trans h6.own.le h6.own.cap)
              have k3 := lhas_any A4 n4 c4 (nearG x.g M zs2) (t : Int) wr (h4.own.rd.below hb2) (by unfold maxLen; omega)
              rw [hβ3] at k1
              rw [hbo] at k2
              rw [hγ] at k3
              have hbb : (β != β) = false := by simp
              clear hβ2 hβ3 hγ hbo hβ
              go_wp2_with fail
              refine k1.mono ?_
              rintro e w2 ⟨rfl, rfl⟩
              go_wp2_with fail
              refine k2.mono ?_
              rintro e w2 ⟨rfl, rfl⟩
              go_wp2_with fail
              refine k1.mono ?_
              rintro e w2 ⟨rfl, rfl⟩
              clear k1 k2
              cases β
              · go_wp2_with fail
                refine k3.mono ?_
                rintro e w2 ⟨rfl, rfl⟩
                clear k3
                have hgg : ((false || γ) != γ) = false := by simp
                go_wp2
                go_roundw
                case rel => exact ⟨t + 1, by omega, by go_num, hb2⟩
                case measure => simp [intOf]; omega
              · clear k3
                go_wp2
                go_roundw
                case rel => exact ⟨t + 1, by omega, by go_num, hb2⟩
                case measure => simp [intOf]; omega
        · obtain rfl : t = M := by omega
          clear hgo eg0 eg1
          obtain ⟨wp, hwp⟩ : ∃ wp, wp = wo := ⟨_, rfl⟩
          rw [← hwp] at hbel ⊢
          clear hwp
          replace hx := hx.below hbel
          replace h1 := h1.below hbel
          replace h2 := h2.below hbel
          replace h3 := h3.below hbel
          replace h4 := h4.below hbel
          replace hall := hall.below hbel
          replace h6 := h6.below hbel
          replace bg := bg.below hbel
          replace hB := hB.trans (hbel.mono hB.size)
          clear hbel
          have eg0 := bg.c0
          have eg1 := bg.c1
          have hr3 : Hid (Rises t (nearG x.g t zs1)) := Lib.hid (upto_rises _ _)
          have h3l : Hid ((nearG x.g t zs1).length = n3) := Lib.hid h3.len
          generalize nearG x.g t zs1 = a3 at h3 hr3 h3l
          go_wp2_with fail
          clear eg0 eg1
          go_loopw [18] (fun v wr => ∃ (i : Nat), v = .int .i64 i ∧ 1 ≤ i ∧ Below wp.heap.size wp wr) (fun v _ => n3 - (intOf v).toNat)
          case atStart => exact ⟨1, rfl, Nat.le_refl _, Below.refl _ _⟩
          case round =>
            obtain ⟨i, rfl, hi, hbel⟩ := hrel
            by_cases hin : i < n3
            · have hin' : (i : Int) < n3 := by omega
              obtain ⟨j, hij⟩ : ∃ j, i = j + 1 := ⟨i - 1, by omega⟩
              have hjn : j < n3 := by omega
              have hjn' : (j : Int) < n3 := by omega
              have hil : i < a3.length := by rw [h3l.out]; exact hin
              have hjl : j < a3.length := by rw [h3l.out]; exact hjn
              have s1 : IntKind.i64.wrap ((i : Int) - 1) = (j : Int) := by rw [IntKind.wrap_i64]; omega
              have hlt := List.pairwise_iff_getElem.1 hr3.out.2 j i hjl hil (by omega)
              obtain ⟨p, q, rfl, hp, y0, hy0, hcy⟩ := h3.own.rd.get hin
              obtain ⟨p', q', hA', hp', y1, hy1, hcy1⟩ := h3.own.rd.get hjn
              cases hA'
              rw [ci64_get _ _ hil] at hy0
              rw [ci64_get _ _ hjl] at hy1
              obtain rfl : iV a3[i] = y0 := Option.some.inj hy0
              obtain rfl : iV a3[j] = y1 := Option.some.inj hy1
              unfold iV at hcy hcy1
              obtain ⟨y, hy⟩ : ∃ y, a3[i] = y := ⟨_, rfl⟩
              obtain ⟨y1, hy1'⟩ : ∃ y, a3[j] = y := ⟨_, rfl⟩
              rw [hy] at hcy hlt
              rw [hy1'] at hcy1 hlt
              have g1 : decide (y ≤ y1) = false := decide_eq_false (by omega)
              have hcw : wr.cell? ⟨p, q + i, none⟩ = some (.int .i64 y) := (hbel.cell (p := ⟨p, q + i, none⟩) hp).trans hcy
              have hcw1 : wr.cell? ⟨p, q + j, none⟩ = some (.int .i64 y1) := (hbel.cell (p := ⟨p, q + j, none⟩) hp).trans hcy1
              have i0' : (0 : Int) ≤ j := by omega
              have i1' : (0 : Int) ≤ i := by omega
              clear hy0 hy1 hy hy1' hcy hcy1 hij hil hjl hlt
              go_wp2_with fail
              refine wp_region_ord (S := fun w' => w'.cell? ⟨p, q + i, none⟩ = some (.int .i64 y) ∧ w'.cell? ⟨p, q + j, none⟩ = some (.int .i64 y1)) [(0, true), (1, true), (2, true), (3, true), (4, true), (5, true), (6, true), (7, true), (8, true), (9, true)] default (by kernel_rfl) (by kernel_rfl) (by kernel_rfl) ⟨hcw, hcw1⟩ ?_
              simp only [getOrd, nth]
              repeat (first | (refine ordS (by rfl) ?_; simp only [Act.put, List.setIfInBounds_toArray, List.set_cons_zero, List.set_cons_succ]) | (refine ordN (by rfl) ?_; simp only [Act.put, List.setIfInBounds_toArray, List.set_cons_zero, List.set_cons_succ]) | (refine ordQ (v := ?_) (by rfl) (fun _ hSw => ?_) ?_; rotate_left; (focus ((have hS1 := hSw.1); (have hS2 := hSw.2); clear hSw; go_simp; (first | done | with_reducible rfl))); simp only [Act.put, List.setIfInBounds_toArray, List.set_cons_zero, List.set_cons_succ]))
              refine ordE ?_
              have hbd := hbel.drew
              clear hcw hcw1
              go_wp2
              go_roundw
              case rel => exact ⟨i + 1, by go_num, by omega, hbd⟩
              case measure => simp [intOf]; omega
            · have hgr := bg.below hbel
              have eg0 := hgr.c0
              have eg1 := hgr.c1
              have hal := alive6_any wr
              have hle : decide ((n3 : Int) ≤ (t : Int)) = true := decide_eq_true (by omega)
              have hle2 : decide (n3 ≤ t) = true := decide_eq_true (by omega)
              have hge : ¬ (i : Int) < n3 := by omega
              go_wp2_with fail
              refine hal.mono ?_
              rintro e w9 ⟨rfl, hb⟩
              have hg9 := hgr.below hb
              have eg0 := hg9.c0
              have eg1 := hg9.c1
              have hB9 := hB.trans ((hbel.trans (hb.mono hbel.size)).mono hB.size)
              go_wp2
              go_ret
              exact ⟨rfl, hB9⟩

theorem own : ownKnob Try.prog.godebug = none := by kernel_rfl
theorem laidOut : laidOutB Try.prog = true := by kernel_rfl

set_option maxRecDepth 100000 in
theorem lifted (os : Os) (started : os.Started) (H : Type) (enc : TypeId × Value → H) :
    ReturnsInHanded {} Try.checked os 5 .any (Rows.graphsNearSpec.pre6 enc Try.prog Try.f5 Rows.graphsNearRow.domain false) (Rows.graphsNearSpec.post enc Try.prog Try.f5 false true false false) := by
  refine returnsInHanded_of_change (C := Try.checked) own started (by kernel_rfl) Try.func5
    (ChangeSpec.witness6 (enc := enc) (C := Try.checked) false ⟨#[], #[.agg #[.slice none 0 0, .int .i64 0], .slice none 0 0, .slice none 0 0], []⟩ 8 (by kernel_rfl) (by kernel_rfl) (by kernel_rfl) (by kernel_rfl)) ?_
  intro W base args ds gs before hval0 hW hcnd _
  have hval : ∀ (j : Nat) t v, Try.f5.params[j]? = some t → args[j]? = some v → Value.okWide Try.prog W .any base t v := hval0
  have hW' := hW
  obtain ⟨p, q, hA0, hV, rfl, hfz, hnd⟩ := hW
  have hA : DataW.TrodAll enc Try.prog W 0 (fun _ => true) true Try.f5.params.toList args.toList ds p := hA0
  rw [Try.params5] at hA hval
  obtain ⟨v0, vs0, d0, ds0, p0, q0, hargs, rfl, rfl, h0, r0⟩ := trodAll_cons hA
  obtain ⟨v1, vs1, d1, ds1, p1, q1, rfl, rfl, rfl, h1, r1⟩ := trodAll_cons r0
  obtain ⟨v2, vs2, d2, ds2, p2, q2, rfl, rfl, rfl, h2, r2⟩ := trodAll_cons r1
  obtain ⟨rfl, rfl, rfl⟩ := trodAll_nil r2
  obtain rfl : args = #[v0, v1, v2] := by cases args; simp_all
  obtain ⟨u0, m0, rfl, k0, a0, b0⟩ := arg_gr Try.underlying24 (by kernel_rfl) (by kernel_rfl) Try.underlying22 Try.underlying3 Try.underlying33 (by kernel_rfl) Try.underlying3 (by kernel_rfl) (hval 0 24 v0 rfl rfl) h0
  obtain ⟨A1, n1, c1, l1, rfl, a1, b1, e1, g1⟩ := arg_i64s Try.underlying33 Try.underlying3 (by kernel_rfl) (hval 1 33 v1 rfl rfl) h1
  obtain ⟨A2, n2, c2, l2, rfl, a2, b2, e2, g2⟩ := arg_i64s Try.underlying33 Try.underlying3 (by kernel_rfl) (hval 2 33 v2 rfl rfl) h2
  have hwalk : Calls Try.prog 5 #[.agg #[u0.v, .int .i64 m0], .slice A1 n1 c1, .slice A2 n2 c2] W fun e w' => e = .returned (.bool true) ∧ Below W.heap.size W w' := walk u0 m0 A1 n1 c1 l1 A2 n2 c2 l2 W k0 a0 b0 ⟨a1, b1, e1, g1⟩ ⟨a2, b2, e2, g2⟩
  refine hwalk.mono fun e W' ⟨he, hg⟩ => ?_
  subst he
  exact ⟨_, rfl, law_post laidOut (by kernel_rfl) hW' rfl rfl (by kernel_rfl) Try.underlying4 hg⟩

theorem over : Rows.graphsNearRow.holds Try.pinned (OpenSpec.ofChange Rows.graphsNearSpec) :=
  OpenClaim.holds_of_wide 5 Try.f5 rfl rfl rfl rfl rfl rfl rfl ⟨rfl, rfl, rfl, rfl, rfl⟩ rfl rfl rfl rfl rfl (by kernel_rfl) Try.func5 (by kernel_rfl)
    (of_decide_eq_true (by kernel_rfl)) (by unfold Func.isWrapper; first | (rw [if_pos (by decide +kernel)]; kernel_rfl) | (rw [if_neg (by decide +kernel)]; exact ⟨rfl, rfl⟩))
    (fun os started H enc _ => lifted os started H enc)

theorem proved : Rows.GraphsNearSaid :=
  over

end Go.Proofs.Ytllnpghpbhikmaa.graphsNear
