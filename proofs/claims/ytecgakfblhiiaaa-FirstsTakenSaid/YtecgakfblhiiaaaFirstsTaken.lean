/-
  Proved: salesroomlaw11.FirstsTaken answers true, for any gains, any items and any order, in whatever memory. No other conditions.
-/
import Derived.Test.YtecgakfblhiiaaaRows
import Derived.Test.YtecgakfblhiiaaaLift
import Derived.Test.YtecgakfblhiiaaaAlive11
import Derived.Test.YtecgakfblhiiaaaZeros
import Derived.Test.YtecgakfblhiiaaaFiE
import Derived.Test.YtecgakfblhiiaaaReg
namespace Go.Proofs.Ytecgakfblhiiaaa.firstsTaken
open Go.ChangeShapes Go.WideShapes Go.ChangeAt Go.RowKit
set_option linter.unusedVariables false

theorem info6_int : (Try.prog.info? 3).map (fun i => (i.zero, i.size, i.bytes)) = some (some (.int .i64 0), 1, 8) := by kernel_rfl
def takenB (hl : List Int) (k i : Nat) : Bool := (hl.take i).any fun z => z == (k : Int)
theorem taken_succ {hl : List Int} {k i : Nat} {z : Int} (h : hl[i]? = some z) : takenB hl k (i + 1) = (takenB hl k i || (z == (k : Int))) := by
  obtain ⟨hi, rfl⟩ := List.getElem?_eq_some_iff.1 h
  rw [takenB, List.take_succ_eq_append_getElem hi, List.any_append]; simp [takenB]
theorem taken_no {hl : List Int} {k n : Nat} (h : takenB hl k n = false) (hn : hl.length = n) {i : Nat} {z : Int} (hz : hl[i]? = some z) : z ≠ (k : Int) := fun e => by
  rw [takenB, List.take_of_length_le (by omega), Bool.eq_false_iff] at h
  exact h (List.any_eq_true.2 ⟨z, List.mem_of_getElem? hz, by rw [e]; simp⟩)

set_option maxRecDepth 100000 in
set_option maxHeartbeats 4000000 in
theorem walk (x : Gr) (m : Int) (y : Ls) (w : World) (h : x.Ok w) (hm1 : -9223372036854775808 ≤ m) (hm2 : m ≤ 9223372036854775807) (h1' : y.Ok w) :
    Calls Try.prog 5 #[.agg #[x.v, .int .i64 m], y.v] w fun e w' => e = .returned (.bool true) ∧ Below w.heap.size w w' := by
  have hx := h
  have hy := h1'
  have hB := Below.refl w.heap.size w
  have hxv : x.v = .slice x.A x.n x.c := rfl
  have hyv : y.v = .slice y.A y.n y.c := rfl
  have Vx := Lib.hid hxv
  have Vy := Lib.hid hyv
  rw [hxv, hyv]
  have hgl := h.glen
  have HGL := Lib.hid hgl
  have HYL := Lib.hid hy.len
  have htop := Nat.le_trans h.cap h.top
  have ttop := Nat.le_trans hy.cap hy.top
  unfold maxLen at htop ttop
  obtain ⟨B, hB0⟩ : ∃ B, mayF x.g m y.zs = B := ⟨_, rfl⟩
  clear hxv hyv hgl h h1'
  go_enter Try.func5, Try.ntmps5
  have bg := WBox.new w x m
  have hbx : Below w.heap.size w (w.alloc (.cells #[.slice x.A x.n x.c, .int .i64 m] 24)) := (Below.refl _ w).alloc (Nat.le_refl _) _
  replace hx := hx.below hbx
  replace hy := hy.below hbx
  replace hB := hB.trans (hbx.mono hB.size)
  clear hbx
  cases B
  · have E1 := Lib.hid (fi_bad hB0)
    obtain ⟨f0, hf0⟩ : ∃ q, wErr x.g m = q := ⟨_, rfl⟩
    obtain ⟨a0, ha0⟩ : ∃ q, bestE x.g m = q := ⟨_, rfl⟩
    have EF := Lib.hid hf0
    have EA := Lib.hid ha0
    clear hB0 hf0 ha0
    have eg0 := bg.c0
    have eg1 := bg.c1
    have hc := pfirstC x m y (w.alloc (.cells #[.slice x.A x.n x.c, .int .i64 m] 24)) hx (by omega) (by omega) hy
    rw [Vx.out, Vy.out, E1.out.1, E1.out.2] at hc
    go_wp2_with fail
    clear eg0 eg1
    generalize w.alloc (.cells #[.slice x.A x.n x.c, .int .i64 m] 24) = W1 at *
    refine hc.mono ?_
    rintro e v2 ⟨A1, n1, c1, rfl, h1, hb⟩
    clear hc
    replace hx := hx.below hb
    replace hy := hy.below hb
    replace bg := bg.below hb
    replace hB := hB.trans (hb.mono hB.size)
    clear hb
    obtain rfl : n1 = 0 := h1.len.symm
    clear h1
    have eg0 := bg.c0
    have eg1 := bg.c1
    have hc := alive11_any v2
    go_wp2_with fail
    clear eg0 eg1
    refine hc.mono ?_
    rintro e v3 ⟨rfl, hb⟩
    clear hc
    replace hx := hx.below hb
    replace hy := hy.below hb
    replace bg := bg.below hb
    replace hB := hB.trans (hb.mono hB.size)
    clear hb
    have eg0 := bg.c0
    have eg1 := bg.c1
    go_wp2
    go_ret
    exact ⟨rfl, hB⟩
  · obtain ⟨hBw, hBo⟩ := mayF_iff.1 hB0
    obtain ⟨M, rfl⟩ : ∃ M : Nat, m = M := ⟨m.toNat, by have := (mayW_iff.1 hBw).1; omega⟩
    have HB0 := Lib.hid hB0
    have HBW := Lib.hid hBw
    have HBO := Lib.hid hBo
    obtain ⟨hM1, hM8, hx8⟩ := may_m hBw
    rw [HGL.out] at hx8
    have EE := Lib.hid (we_ok hBw).2.1
    have FE := Lib.hid (fi_ok hB0).1
    obtain ⟨a0, ha0⟩ : ∃ a, bestE x.g M = a := ⟨_, rfl⟩
    obtain ⟨hl, hhl⟩ : ∃ a, firstE x.g M y.zs = a := ⟨_, rfl⟩
    have EB := Lib.hid ha0
    have EH := Lib.hid hhl
    have FO := Lib.hid (show FirstOf (gG x.g) M x.n (whoN y.zs) (firstV x.g M y.zs) from by rw [← HGL.out]; exact first_is hB0)
    have HLN : Hid (hl.length = x.n) := Lib.hid (by rw [← hhl, firstE_len hB0, HGL.out])
    have HGET : Hid (∀ b, b < x.n → hl[b]? = some (optI (firstV x.g M y.zs b))) := Lib.hid (fun b hb => by rw [← hhl, firstE_get hB0 (by rw [HGL.out]; exact hb)])
    have HFIT : Hid (∀ b, b < x.n → -1 ≤ optI (firstV x.g M y.zs b) ∧ optI (firstV x.g M y.zs b) < M) := Lib.hid (fun b hb => optI_fit hB0 (by rw [HGL.out]; exact hb))
    have BV : Hid (a0 = bestV (gG x.g) M x.n) := Lib.hid (by rw [← ha0, (we_ok hBw).1, HGL.out])
    have hab : 0 ≤ a0 ∧ a0 ≤ 8000000 := by rw [← ha0, (we_ok hBw).1]; exact best_bound hBw
    have hyn : y.n = x.n := by have h1 := (ordB_iff.1 hBo).1; rw [HYL.out, HGL.out] at h1; exact h1
    have HYN := Lib.hid hyn
    have HRW : Hid (∀ u ∈ x.t, u.n = M) := Lib.hid (fun u hu => by
      have h1 := (mayW_iff.1 hBw).2.2.2 u.zs (by rw [Gr.g, Ls.all]; exact List.mem_map_of_mem hu)
      have h2 := (hx.lss.ok u hu).len
      omega)
    clear hB0 hBw hBo ha0 hhl hm1 hm2 hyn
    have eg0 := bg.c0
    have eg1 := bg.c1
    have hc := pfirstC x M y (w.alloc (.cells #[.slice x.A x.n x.c, .int .i64 (M : Int)] 24)) hx (by omega) (by omega) hy
    rw [Vx.out, Vy.out, FE.out, EH.out] at hc
    go_wp2_with fail
    clear eg0 eg1
    generalize w.alloc (.cells #[.slice x.A x.n x.c, .int .i64 (M : Int)] 24) = W1 at *
    refine hc.mono ?_
    rintro e v2 ⟨A1, n1, c1, rfl, h1, hb⟩
    clear hc
    replace hx := hx.below hb
    replace hy := hy.below hb
    replace bg := bg.below hb
    replace hB := hB.trans (hb.mono hB.size)
    clear hb
    obtain rfl : n1 = x.n := by have h5 := h1.len; have h6 := HLN.out; simp only at h5; omega
    have gne : (((x.n : Int)) != (x.n : Int)) = false := by simp
    have gne2 : (x.n != x.n) = false := by simp
    obtain ⟨A, hA⟩ : ∃ A, firstV x.g M y.zs = A := ⟨_, rfl⟩
    have HTK : Hid (∀ k, k < M → (∀ b, b < x.n → A b ≠ some k) → ∀ i, i < x.n → (A i = none → gG x.g i k < 0) ∧ ∀ c, A i = some c → gG x.g i k ≤ gG x.g i c) := Lib.hid (fun k hk hno i hi => by
      have h5 := FO.out
      rw [hA] at h5
      exact first_taken h5 (ord_nodup HBO.out) (fun b hb => ord_all HBO.out (by rw [HGL.out]; exact hb)) hk hno hi)
    have HAG : Hid (∀ b, b < x.n → hl[b]? = some (optI (A b))) := Lib.hid (by rw [← hA]; exact HGET.out)
    have HAL : Hid (∀ b c, b < x.n → A b = some c → c < M) := Lib.hid (fun b c hb e => by
      rw [← hA] at e
      exact first_lt HB0.out (by rw [HGL.out]; exact hb) e)
    have HROW : Hid (∀ b, b < x.n → (x.g.getD b []).length = M) := Lib.hid fun b hb => by
      have h1 := (may_row HBW.out (b := b) (by rw [HGL.out]; exact hb)).1
      rw [List.getD_eq_getElem?_getD, List.getElem?_eq_getElem (by rw [HGL.out]; exact hb)]; exact h1
    clear hA
    have eg0 := bg.c0
    have eg1 := bg.c1
    go_wp2_with fail
    clear eg0 eg1
    go_loopw [7] (fun v wr => ∃ k : Nat, k ≤ M ∧ v = .int .i64 k ∧ Below v2.heap.size v2 wr) (fun v _ => M - (intOf v).toNat)
    case atStart => exact ⟨0, Nat.zero_le _, rfl, Below.refl _ _⟩
    case round =>
      obtain ⟨k, hk, rfl, hbel⟩ := hrel
      have hk0 : (0 : Int) ≤ k := by omega
      have e1 := (bg.below hbel).c1
      by_cases hkM : k < M
      · have hkM' : (k : Int) < M := by omega
        obtain ⟨wo, rfl⟩ : ∃ wo, wo = wr := ⟨_, rfl⟩
        have hO := h1.below hbel
        go_wp2_with fail
        go_loopw [8, 9] (fun o v ws => ∃ i : Nat, i ≤ x.n ∧ v = .int .i64 i ∧ o = .bool (takenB hl k i) ∧ ws = wo) (fun _ v _ => x.n - (intOf v).toNat)
        case atStart => exact ⟨0, Nat.zero_le _, rfl, by simp [takenB], rfl⟩
        case round =>
          obtain ⟨i, hi, rfl, rfl, hwr⟩ := hrel
          have hwr2 := hwr.symm
          subst hwr2
          have hi0 : (0 : Int) ≤ i := by omega
          by_cases hin : i < x.n
          · have hin' : (i : Int) < x.n := by omega
            obtain ⟨p1, q1, hA1, hp1, y0, hy0, hcy⟩ := hO.ok.rd.get hin
            simp only at hA1
            rw [show ci64 hl = hl.map iV from rfl, List.getElem?_map, HAG.out i hin] at hy0
            obtain rfl : iV (optI (A i)) = y0 := Option.some.inj hy0
            unfold iV at hcy
            have hts := taken_succ (k := k) (HAG.out i hin)
            obtain ⟨z, hz⟩ : ∃ z, optI (A i) = z := ⟨_, rfl⟩
            rw [hz] at hcy hts
            obtain ⟨β, hβ⟩ : ∃ β, (z == (k : Int)) = β := ⟨_, rfl⟩
            obtain ⟨τ, hτ⟩ : ∃ β, takenB hl k i = β := ⟨_, rfl⟩
            rw [hβ, hτ] at hts
            rw [hτ, hA1]
            have HTS := Lib.hid hts
            have HA1 := Lib.hid hA1
            clear hy0 hz hts hτ hA1
            cases τ
            · go_wp2
              go_roundw
              case rel => exact ⟨i + 1, by omega, by go_num, by rw [HTS.out]; simp, by first | rfl | trivial⟩
              case measure => simp [intOf]; omega
            · go_wp2
              go_roundw
              case rel => exact ⟨i + 1, by omega, by go_num, by rw [HTS.out]; simp, by first | rfl | trivial⟩
              case measure => simp [intOf]; omega
          · obtain rfl : x.n = i := by omega
            obtain ⟨τ, hτ⟩ : ∃ β, takenB hl k x.n = β := ⟨_, rfl⟩
            rw [hτ]
            have HT := Lib.hid hτ
            clear hτ
            cases τ
            rotate_left
            · go_wp2_with fail
              go_loopw [10] (fun v ws => v = .int .i64 0 ∧ ws = wo) (fun v _ => 0)
              case atStart => exact ⟨rfl, rfl⟩
              case round =>
                obtain ⟨rfl, hwr⟩ := hrel
                have hwr2 := hwr.symm
                subst hwr2
                by_cases hn : 0 < x.n
                · have hn' : (0 : Int) < x.n := by omega
                  go_wp2
                  go_roundw
                  case rel => exact ⟨k + 1, by omega, by go_num, hbel⟩
                  case measure => simp [intOf]; omega
                · have hn1 : decide ((0 : Int) < x.n) = false := decide_eq_false (by omega)
                  have hn2 : decide (0 < x.n) = false := decide_eq_false (by omega)
                  go_wp2
                  go_roundw
                  case rel => exact ⟨k + 1, by omega, by go_num, hbel⟩
                  case measure => simp [intOf]; omega
            · have HNO : Hid (∀ b, b < x.n → A b ≠ some k) := Lib.hid fun b hb e => by
                have h5 := taken_no HT.out HLN.out (HAG.out b hb)
                rw [e] at h5
                exact h5 rfl
              go_wp2_with fail
              go_loopw [10] (fun v ws => ∃ i : Nat, i ≤ x.n ∧ v = .int .i64 i ∧ Below wo.heap.size wo ws) (fun v _ => x.n - (intOf v).toNat)
              case atStart => exact ⟨0, Nat.zero_le _, rfl, Below.refl _ _⟩
              case round =>
                obtain ⟨i, hi, rfl, hbi⟩ := hrel
                have hi0 : (0 : Int) ≤ i := by omega
                by_cases hin : i < x.n
                · have hin' : (i : Int) < x.n := by omega
                  have hbV := hbel.trans (hbi.mono hbel.size)
                  have e0 := (bg.below hbV).c0
                  obtain ⟨p2, q2, u, hAx, _, hgy, hp2, hcx0, hku0⟩ := hx.get hin
                  have hcx := (hbV.cell (p := ⟨p2, q2 + i, none⟩) hp2).trans hcx0
                  have hku := hku0.below hbV
                  have hrw := HROW.out i hin
                  rw [hgy] at hrw
                  have hun : u.n = M := by have := hku.len; rw [← this]; exact hrw
                  have hGi : ∀ k (hk : k < u.zs.length), gG x.g i k = u.zs[k] := fun k hk => by
                    rw [gG, hgy, List.getD_eq_getElem?_getD, List.getElem?_eq_getElem hk]; rfl
                  have hti := HTK.out k hkM HNO.out i hin
                  obtain ⟨p1, q1, hA1, hp1, y0, hy0, hcy0⟩ := hO.ok.rd.get hin
                  simp only at hA1
                  rw [show ci64 hl = hl.map iV from rfl, List.getElem?_map, HAG.out i hin] at hy0
                  obtain rfl : iV (optI (A i)) = y0 := Option.some.inj hy0
                  unfold iV at hcy0
                  have hcy := (hbi.cell (p := ⟨p1, q1 + i, none⟩) hp1).trans hcy0
                  have hcl := fun c => HAL.out i c hin
                  obtain ⟨uA, un, uc, ul⟩ := u
                  simp only at hun hrw hGi
                  subst hun
                  have hurd := hku.rd
                  simp only at hurd
                  obtain ⟨p4, q4, hA4, hp4, t0, ht0, hct⟩ := hurd.get hkM
                  subst hA4
                  have hkl : k < ul.length := by rw [hrw]; exact hkM
                  rw [ci64_get _ _ hkl] at ht0
                  obtain rfl : iV ul[k] = t0 := Option.some.inj ht0
                  unfold iV at hct
                  rw [hGi k hkl] at hti
                  obtain ⟨t, ht⟩ : ∃ t, ul[k] = t := ⟨_, rfl⟩
                  rw [ht] at hct hti
                  replace hcx : wr.cell? ⟨p2, q2 + i, none⟩ = some (.slice (some ⟨p4, q4, none⟩) un uc) := hcx
                  rw [hAx] at e0
                  have HAX := Lib.hid hAx
                  rw [hA1]
                  have HA1 := Lib.hid hA1
                  have gk : decide ((un : Int) ≤ (k : Int)) = false := decide_eq_false (by omega)
                  have gk2 : decide (un ≤ k) = false := decide_eq_false (by omega)
                  have HRL := Lib.hid hrw
                  have hbn := hbi.drew
                  clear hy0 hcy0 hcx0 hku0 hku hgy hrw ht0 ht hAx hA1 hkl
                  obtain ⟨oi, hAi⟩ : ∃ o, A i = o := ⟨_, rfl⟩
                  rw [hAi] at hcy hti hcl
                  cases oi with
                  | none =>
                    have htn := hti.1 rfl
                    have gt : decide (0 ≤ t) = false := decide_eq_false (by omega)
                    replace hcy : wr.cell? ⟨p1, q1 + i, none⟩ = some (.int .i64 (-1)) := hcy
                    clear hti hcl hAi hGi htn
                    go_wp2_with fail
                    refine wp_region_ord (S := fun w' => w'.cell? ⟨w.heap.size, 0, none⟩ = some (.slice (some ⟨p2, q2, none⟩) x.n x.c) ∧ w'.cell? ⟨p1, q1 + i, none⟩ = some (.int .i64 (-1)) ∧ w'.cell? ⟨p2, q2 + i, none⟩ = some (.slice (some ⟨p4, q4, none⟩) un uc) ∧ w'.cell? ⟨p4, q4 + k, none⟩ = some (.int .i64 t)) [(0, true), (1, true), (2, true), (3, true), (4, true), (5, true), (6, true), (7, true), (8, true), (9, true), (10, true), (11, true), (12, true), (13, true), (14, true), (15, true), (16, true), (17, true), (18, true), (19, true), (20, true), (21, true), (22, true), (23, true), (24, true), (25, true), (26, true), (27, true), (28, true), (29, true), (30, true), (31, true), (32, true), (33, true), (34, true), (35, true), (36, true), (37, true), (38, true), (39, true)] default (by kernel_rfl) (by kernel_rfl) (by kernel_rfl) ⟨e0, hcy, hcx, hct⟩ ?_
                    simp only [getOrd, nth]
                    repeat (first | (refine ordS (by rfl) ?_; simp only [Act.put, List.setIfInBounds_toArray, List.set_cons_zero, List.set_cons_succ]) | (refine ordN (by rfl) ?_; simp only [Act.put, List.setIfInBounds_toArray, List.set_cons_zero, List.set_cons_succ]) | (refine ordQ (v := ?_) (by rfl) (fun _ hSw => ?_) ?_; rotate_left; (focus ((have hS1 := hSw.1); (have hS2 := hSw.2.1); (have hS3 := hSw.2.2.1); (have hS4 := hSw.2.2.2); clear hSw; go_simp; (first | done | with_reducible rfl))); simp only [Act.put, List.setIfInBounds_toArray, List.set_cons_zero, List.set_cons_succ]))
                    refine ordE ?_
                    go_wp2
                    go_roundw
                    case rel => exact ⟨i + 1, by omega, by go_num, hbn⟩
                    case measure => simp [intOf]; omega
                  | some c =>
                    have htc := hti.2 c rfl
                    have hcM := hcl c rfl
                    have hcl2 : c < ul.length := by rw [HRL.out]; exact hcM
                    rw [hGi c hcl2] at htc
                    replace hcy : wr.cell? ⟨p1, q1 + i, none⟩ = some (.int .i64 (c : Int)) := hcy
                    obtain ⟨p5, q5, hA5, hp5, t1, ht1, hct2⟩ := hurd.get hcM
                    cases hA5
                    rw [ci64_get _ _ hcl2] at ht1
                    obtain rfl : iV ul[c] = t1 := Option.some.inj ht1
                    unfold iV at hct2
                    obtain ⟨t2, ht2⟩ : ∃ t, ul[c] = t := ⟨_, rfl⟩
                    rw [ht2] at hct2 htc
                    have gt : decide (t2 < t) = false := decide_eq_false (by omega)
                    have hcM' : (c : Int) < un := by omega
                    have hc0 : (0 : Int) ≤ c := by omega
                    have gc : decide ((0 : Int) ≤ (c : Int)) = true := decide_eq_true (by omega)
                    have gc1 : ((c : Int) == -1) = false := by rw [beq_eq_false_iff_ne]; omega
                    have gc2 : decide ((c : Int) < (un : Int)) = true := decide_eq_true (by omega)
                    have gc3 : decide (c < un) = true := decide_eq_true (by omega)
                    clear hti hcl hAi hGi htc ht1 ht2 hcl2
                    go_wp2_with fail
                    refine wp_region_ord (S := fun w' => w'.cell? ⟨w.heap.size, 0, none⟩ = some (.slice (some ⟨p2, q2, none⟩) x.n x.c) ∧ w'.cell? ⟨p1, q1 + i, none⟩ = some (.int .i64 (c : Int)) ∧ w'.cell? ⟨p2, q2 + i, none⟩ = some (.slice (some ⟨p4, q4, none⟩) un uc) ∧ w'.cell? ⟨p4, q4 + k, none⟩ = some (.int .i64 t) ∧ w'.cell? ⟨p4, q4 + c, none⟩ = some (.int .i64 t2)) [(0, true), (1, true), (2, true), (3, true), (4, true), (5, true), (6, true), (7, true), (8, true), (9, true), (10, true), (11, true), (12, true), (13, true), (14, true), (15, true), (16, true), (17, true), (18, true), (19, true), (20, true), (21, true), (22, true), (23, true), (24, true), (25, true), (26, true), (27, true), (28, true), (29, true), (30, true), (31, true), (32, true), (33, true), (34, true), (35, true), (36, true), (37, true), (38, true), (39, true)] default (by kernel_rfl) (by kernel_rfl) (by kernel_rfl) ⟨e0, hcy, hcx, hct, hct2⟩ ?_
                    simp only [getOrd, nth]
                    repeat (first | (refine ordS (by rfl) ?_; simp only [Act.put, List.setIfInBounds_toArray, List.set_cons_zero, List.set_cons_succ]) | (refine ordN (by rfl) ?_; simp only [Act.put, List.setIfInBounds_toArray, List.set_cons_zero, List.set_cons_succ]) | (refine ordQ (v := ?_) (by rfl) (fun _ hSw => ?_) ?_; rotate_left; (focus ((have hS1 := hSw.1); (have hS2 := hSw.2.1); (have hS3 := hSw.2.2.1); (have hS4 := hSw.2.2.2.1); (have hS5 := hSw.2.2.2.2); clear hSw; go_simp; (first | done | with_reducible rfl))); simp only [Act.put, List.setIfInBounds_toArray, List.set_cons_zero, List.set_cons_succ]))
                    refine ordE ?_
                    go_wp2
                    go_roundw
                    case rel => exact ⟨i + 1, by omega, by go_num, hbn⟩
                    case measure => simp [intOf]; omega
                · obtain rfl : x.n = i := by omega
                  have hbV := hbel.trans (hbi.mono hbel.size)
                  go_wp2
                  go_roundw
                  case rel => exact ⟨k + 1, by omega, by go_num, hbV⟩
                  case measure => simp [intOf]; omega
      · obtain rfl : M = k := by omega
        clear e1
        have e1 := (bg.below hbel).c1
        replace bg := bg.below hbel
        replace hB := hB.trans (hbel.mono hB.size)
        clear h1
        have hc := alive11_any wr
        go_wp2_with fail
        refine hc.mono ?_
        rintro e v9 ⟨rfl, hb⟩
        clear hc
        replace hB := hB.trans (hb.mono hB.size)
        clear hb
        go_wp2
        go_ret
        exact ⟨rfl, hB⟩

theorem own : ownKnob Try.prog.godebug = none := by kernel_rfl
theorem laidOut : laidOutB Try.prog = true := by kernel_rfl

set_option maxRecDepth 100000 in
theorem lifted (os : Os) (started : os.Started) (H : Type) (enc : TypeId × Value → H) :
    ReturnsInHanded {} Try.checked os 5 .any (Rows.firstsTakenSpec.pre6 enc Try.prog Try.f5 Rows.firstsTakenRow.domain false) (Rows.firstsTakenSpec.post enc Try.prog Try.f5 false true false false) := by
  refine returnsInHanded_of_change (C := Try.checked) own started (by kernel_rfl) Try.func5
    (ChangeSpec.witness6 (enc := enc) (C := Try.checked) false ⟨#[], #[.agg #[.slice none 0 0, .int .i64 0], .slice none 0 0], []⟩ 8 (by kernel_rfl) (by kernel_rfl) (by kernel_rfl) (by kernel_rfl)) ?_
  intro W base args ds gs before hval0 hW hcnd _
  have hval : ∀ (j : Nat) t v, Try.f5.params[j]? = some t → args[j]? = some v → Value.okWide Try.prog W .any base t v := hval0
  have hW' := hW
  obtain ⟨p, q, hA0, hV, rfl, hfz, hnd⟩ := hW
  have hA : DataW.TrodAll enc Try.prog W 0 (fun _ => true) true Try.f5.params.toList args.toList ds p := hA0
  rw [Try.params5] at hA hval
  obtain ⟨v0, vs0, d0, ds0, p0, q0, hargs, rfl, rfl, h0, r0⟩ := trodAll_cons hA
  obtain ⟨v1, vs1, d1, ds1, p1, q1, rfl, rfl, rfl, h1, r1⟩ := trodAll_cons r0
  obtain ⟨rfl, rfl, rfl⟩ := trodAll_nil r1
  obtain rfl : args = #[v0, v1] := by cases args; simp_all
  obtain ⟨u0, m0, rfl, k0, a0, b0⟩ := arg_gr Try.underlying24 (by kernel_rfl) (by kernel_rfl) Try.underlying22 Try.underlying3 Try.underlying25 (by kernel_rfl) Try.underlying3 (by kernel_rfl) (hval 0 24 v0 rfl rfl) h0
  obtain ⟨A1, n1, c1, l1, rfl, a1, b1, e1, g1⟩ := arg_i64s Try.underlying25 Try.underlying3 (by kernel_rfl) (hval 1 25 v1 rfl rfl) h1
  have hwalk : Calls Try.prog 5 #[.agg #[u0.v, .int .i64 m0], .slice A1 n1 c1] W fun e w' => e = .returned (.bool true) ∧ Below W.heap.size W w' := walk u0 m0 ⟨A1, n1, c1, l1⟩ W k0 a0 b0 ⟨a1, b1, e1, g1⟩
  refine hwalk.mono fun e W' ⟨he, hg⟩ => ?_
  subst he
  exact ⟨_, rfl, law_post laidOut (by kernel_rfl) hW' rfl rfl (by kernel_rfl) Try.underlying4 hg⟩

theorem over : Rows.firstsTakenRow.holds Try.pinned (OpenSpec.ofChange Rows.firstsTakenSpec) :=
  OpenClaim.holds_of_wide 5 Try.f5 rfl rfl rfl rfl rfl rfl rfl ⟨rfl, rfl, rfl, rfl, rfl⟩ rfl rfl rfl rfl rfl (by kernel_rfl) Try.func5 (by kernel_rfl)
    (of_decide_eq_true (by kernel_rfl)) (by unfold Func.isWrapper; first | (rw [if_pos (by decide +kernel)]; kernel_rfl) | (rw [if_neg (by decide +kernel)]; exact ⟨rfl, rfl⟩))
    (fun os started H enc _ => lifted os started H enc)

theorem proved : Rows.FirstsTakenSaid :=
  over

end Go.Proofs.Ytecgakfblhiiaaa.firstsTaken
