/-
  What the laws of layer 10 lean on: gains that came in, in their box; the laws' own functions.
-/
import Derived.Test.YtiaoplghaigclaaWeI
import Derived.Test.YtiaoplghaigclaaGrL
import Derived.Test.YtiaoplghaigclaaMaL
import Derived.Test.YtiaoplghaigclaaReg
import Derived.Deep.CutRange
namespace Go.Proofs.Ytiaoplghaigclaa
open Go.RowKit
set_option linter.unusedVariables false

structure WBox (w : World) (g : Nat) (x : Gr) (m : Int) : Prop where
  c0 : w.cell? ⟨g, 0, none⟩ = some (.slice x.A x.n x.c)
  c1 : w.cell? ⟨g, 1, none⟩ = some (.int .i64 m)
  lt : g < w.heap.size
theorem WBox.below {w w' : World} {g : Nat} {x : Gr} {m : Int} (h : WBox w g x m) (hb : Below w.heap.size w w') : WBox w' g x m :=
  ⟨(hb.cell (p := ⟨g, 0, none⟩) h.lt).trans h.c0, (hb.cell (p := ⟨g, 1, none⟩) h.lt).trans h.c1, Nat.lt_of_lt_of_le h.lt hb.size⟩
theorem WBox.new (w : World) (x : Gr) (m : Int) : WBox (w.alloc (.cells #[.slice x.A x.n x.c, .int .i64 m] 24)) w.heap.size x m := by
  have h := heap_alloc_new w (.cells #[.slice x.A x.n x.c, .int .i64 m] 24)
  exact ⟨by rw [cell_of_row _ _ 0 _ _ _ h]; rfl, by rw [cell_of_row _ _ 1 _ _ _ h]; rfl, by simp⟩

/-- May a row be, up to so many of it? -/
def okZ (l : List Int) : Bool := l.all fun z => decide (-1000000 ≤ z) && decide (z ≤ 1000000)
def okRow (m : Int) (l : List Int) : Bool := decide ((l.length : Int) = m) && okZ l
theorem mayW_rows (g : List (List Int)) (m : Int) : mayW g m = (decide (1 ≤ m) && (decide (m ≤ 8) && (decide (g.length ≤ 8) && g.all (okRow m)))) := rfl
theorem okZ_snoc {l : List Int} {j : Nat} (h : j < l.length) : okZ (l.take (j + 1)) = (okZ (l.take j) && (decide (-1000000 ≤ l[j]) && decide (l[j] ≤ 1000000))) := by
  rw [okZ, List.take_succ_eq_append_getElem h, List.all_append, ← okZ]; simp
theorem rows_snoc {g : List (List Int)} {m : Int} {j : Nat} {l : List Int} (h : g[j]? = some l) : (g.take (j + 1)).all (okRow m) = ((g.take j).all (okRow m) && okRow m l) := by
  obtain ⟨hj, rfl⟩ := List.getElem?_eq_some_iff.1 h
  rw [List.take_succ_eq_append_getElem hj, List.all_append]; simp
set_option maxRecDepth 100000 in
set_option maxHeartbeats 4000000 in
theorem wmay_any (x : Gr) (m : Int) (w : World) (hx : x.Ok w) (hm1 : -9223372036854775808 ≤ m) (hm2 : m ≤ 9223372036854775807) :
    Calls Try.prog 16 #[.agg #[.slice x.A x.n x.c, .int .i64 m]] w fun e w' => e = .returned (.bool (mayW x.g m)) ∧ Below w.heap.size w w' := by
  have HG := Lib.hid hx.glen
  have tx := Nat.le_trans hx.cap hx.top
  unfold maxLen at tx
  have hbx : Below w.heap.size w (w.alloc (.cells #[.slice x.A x.n x.c, .int .i64 m] 24)) := (Below.refl _ w).alloc (Nat.le_refl _) _
  have bg := WBox.new w x m
  have e0 := bg.c0
  have e1 := bg.c1
  obtain ⟨P, hP⟩ : ∃ P, (decide (1 ≤ m) && (decide (m ≤ 8) && decide (x.g.length ≤ 8))) = P := ⟨_, rfl⟩
  have hfin : Hid (mayW x.g m = (P && x.g.all (okRow m))) := Lib.hid (by rw [mayW_rows, ← hP]; simp [Bool.and_assoc])
  have HP := Lib.hid hP
  clear hP
  go_enter Try.func16, Try.ntmps16
  go_upto_region 1 with fail
  generalize w.alloc (.cells #[.slice x.A x.n x.c, .int .i64 m] 24) = w1 at *
  go_cut [3] from 6 (fun v wx => ∃ c : Bool, v = .bool c ∧ Hid (c = P) ∧ wx = w1)
  case first =>
    by_cases q1 : 1 ≤ m
    · by_cases q2 : m ≤ 8
      · by_cases q3 : x.n ≤ 8
        · have q3' : decide ((x.n : Int) ≤ 8) = true := decide_eq_true (by omega)
          have hc : Hid (true = P) := Lib.hid (by rw [← HP.out, HG.out]; simp [q1, q2, q3])
          go_wp2_with fail
          go_meet
          case rel => exact ⟨_, rfl, hc, rfl⟩
        · have q3' : decide ((x.n : Int) ≤ 8) = false := decide_eq_false (by omega)
          have hc : Hid (false = P) := Lib.hid (by rw [← HP.out, HG.out]; simp [q3])
          go_wp2_with fail
          go_meet
          case rel => exact ⟨_, rfl, hc, rfl⟩
      · have hc : Hid (false = P) := Lib.hid (by rw [← HP.out]; simp [q2])
        go_wp2_with fail
        go_meet
        case rel => exact ⟨_, rfl, hc, rfl⟩
    · have hc : Hid (false = P) := Lib.hid (by rw [← HP.out]; simp [q1])
      go_wp2_with fail
      go_meet
      case rel => exact ⟨_, rfl, hc, rfl⟩
  case rest =>
    obtain ⟨c0, rfl, hc0, hwc⟩ := hcut
    obtain rfl : wc = w1 := hwc
    rename_i wc
    have HBx := Lib.hid hbx
    go_wp2_with fail
    go_loopw [3, 4] (fun v i wr => ∃ (j : Nat) (c : Bool), j ≤ x.n ∧ i = .int .i64 j ∧ v = .bool c ∧ Hid (c = (P && (x.g.take j).all (okRow m))) ∧ Below wc.heap.size wc wr) (fun _ i _ => x.n - (intOf i).toNat)
    case atStart => exact ⟨0, _, Nat.zero_le _, rfl, rfl, Lib.hid (by rw [hc0.out]; simp), Below.refl _ _⟩
    case round =>
      obtain ⟨j, c, hj, rfl, rfl, hcv, hbl⟩ := hrel
      clear e0 e1
      obtain ⟨wo, rfl⟩ : ∃ wo, wo = wr := ⟨_, rfl⟩
      have e0 := (bg.below hbl).c0
      have e1 := (bg.below hbl).c1
      have hj0 : (0 : Int) ≤ j := by omega
      by_cases hjn : j < x.n
      · have hjn' : (j : Int) < x.n := by omega
        have hxo := hx.below (HBx.out.trans (hbl.mono HBx.out.size))
        obtain ⟨p, q, y, hA, hgy, hp, hcy, hky⟩ := gr_get (A := x.A) (n := x.n) (c := x.c) (t := x.t) hxo rfl hjn
        have hgj : x.g[j]? = some y.zs := by
          have h1 : x.g.getD j [] = y.zs := hgy
          rw [← h1, List.getD_eq_getElem?_getD, List.getElem?_eq_getElem (by rw [HG.out]; exact hjn)]; rfl
        have HYL := Lib.hid hky.len
        have ty := Nat.le_trans hky.cap hky.top
        unfold maxLen at ty
        have HR := Lib.hid (rows_snoc (m := m) hgj)
        obtain ⟨β, hβ⟩ : ∃ β, decide ((y.n : Int) = m) = β := ⟨_, rfl⟩
        have HLM := Lib.hid hβ
        have hβ' : ((y.n : Int) == m) = β := by rw [← hβ, Bool.eq_iff_iff, beq_iff_eq, decide_eq_true_eq]
        have HAo := Lib.hid hA
        rw [hA] at e0
        clear hgy hgj hA hβ hxo
        go_wp2_with fail
        cases c
        · refine wp_region_ord (S := fun w' => w'.cell? ⟨w.heap.size, 0, none⟩ = some (.slice (some ⟨p, q, none⟩) x.n x.c) ∧ w'.cell? ⟨w.heap.size, 1, none⟩ = some (.int .i64 m) ∧ w'.cell? ⟨p, q + j, none⟩ = some (.slice y.A y.n y.c)) [(0, true), (1, true), (2, true), (3, true), (4, true), (5, true), (6, true), (7, true), (8, true), (9, true), (10, true), (11, true), (12, true)] default (by kernel_rfl) (by kernel_rfl) (by kernel_rfl) ⟨e0, e1, hcy⟩ ?_
          simp only [getOrd, nth]
          repeat (first | (refine ordS (by rfl) ?_; simp only [Act.put, List.setIfInBounds_toArray, List.set_cons_zero, List.set_cons_succ]) | (refine ordN (by rfl) ?_; simp only [Act.put, List.setIfInBounds_toArray, List.set_cons_zero, List.set_cons_succ]) | (refine ordQ (v := ?_) (by rfl) (fun _ hSw => ?_) ?_; rotate_left; (focus ((have hS1 := hSw.1); (have hS2 := hSw.2.1); (have hS3 := hSw.2.2); clear hSw; go_simp; (first | done | with_reducible rfl))); simp only [Act.put, List.setIfInBounds_toArray, List.set_cons_zero, List.set_cons_succ]))
          refine ordE ?_
          have HBD := hbl.trans ((Below.refl _ wo).drew.mono hbl.size)
          replace hky := hky.below (Below.refl _ wo).drew
          have HCV := Lib.hid hcv.out
          clear hcv
          go_wp2_with fail
          go_loopw [3, 5] (fun v i wr => ∃ (k : Nat) (c : Bool), k ≤ y.n ∧ i = .int .i64 k ∧ v = .bool c ∧ Hid (c = (false && okZ (y.zs.take k))) ∧ wr = wo.drew) (fun _ i _ => y.n - (intOf i).toNat)
          case atStart => exact ⟨0, _, Nat.zero_le _, rfl, rfl, Lib.hid (by simp [okZ]), rfl⟩
          case round =>
            obtain ⟨k, c, hk, rfl, rfl, hcv, rfl⟩ := hrel
            have hk0 : (0 : Int) ≤ k := by omega
            by_cases hkn : k < y.n
            · have hkn' : (k : Int) < y.n := by omega
              obtain ⟨p2, q2, hA2, hp2, u0, hu0, hcz⟩ := hky.rd.get hkn
              have hkl : k < y.zs.length := by rw [HYL.out]; exact hkn
              rw [ci64_get _ _ hkl] at hu0
              obtain rfl : iV y.zs[k] = u0 := Option.some.inj hu0
              unfold iV at hcz
              have hsn := okZ_snoc hkl
              obtain ⟨z, hz⟩ : ∃ z, y.zs[k] = z := ⟨_, rfl⟩
              rw [hz] at hcz hsn
              have HSN := Lib.hid hsn
              have HA2 := Lib.hid hA2
              rw [hA2] at hcy
              clear hu0 hz hsn hA2
              cases c
              · have HN : Hid (false = (false && okZ (y.zs.take (k + 1)))) := Lib.hid (by rw [HSN.out, ← Bool.and_assoc, ← hcv.out]; rfl)
                clear hcv HSN
                go_wp2
                go_roundw
                case rel => exact ⟨k + 1, _, by omega, by go_num, rfl, HN, by first | rfl | trivial⟩
                case measure => simp [intOf]; omega
              · by_cases z1 : -1000000 ≤ z
                · by_cases z2 : z ≤ 1000000
                  · have HN : Hid (true = (false && okZ (y.zs.take (k + 1)))) := Lib.hid (by rw [HSN.out, ← Bool.and_assoc, ← hcv.out, decide_eq_true z1, decide_eq_true z2]; rfl)
                    clear hcv HSN
                    go_wp2
                    go_roundw
                    case rel => exact ⟨k + 1, _, by omega, by go_num, rfl, HN, by first | rfl | trivial⟩
                    case measure => simp [intOf]; omega
                  · have HN : Hid (false = (false && okZ (y.zs.take (k + 1)))) := Lib.hid (by rw [HSN.out, ← Bool.and_assoc, ← hcv.out, decide_eq_true z1, decide_eq_false z2]; rfl)
                    clear hcv HSN
                    go_wp2
                    go_roundw
                    case rel => exact ⟨k + 1, _, by omega, by go_num, rfl, HN, by first | rfl | trivial⟩
                    case measure => simp [intOf]; omega
                · have HN : Hid (false = (false && okZ (y.zs.take (k + 1)))) := Lib.hid (by rw [HSN.out, ← Bool.and_assoc, ← hcv.out, decide_eq_false z1]; rfl)
                  clear hcv HSN
                  go_wp2
                  go_roundw
                  case rel => exact ⟨k + 1, _, by omega, by go_num, rfl, HN, by first | rfl | trivial⟩
                  case measure => simp [intOf]; omega
            · obtain rfl : k = y.n := by omega
              have HN : Hid (c = (P && (x.g.take (j + 1)).all (okRow m))) := Lib.hid (by
                rw [hcv.out, List.take_of_length_le (by rw [HYL.out]; exact Nat.le_refl _), HR.out, okRow, HYL.out, HLM.out]
                rw [← Bool.and_assoc, ← HCV.out]; simp)
              clear hcv
              go_wp2
              go_roundw
              case rel => exact ⟨j + 1, _, by omega, by go_num, rfl, HN, HBD⟩
              case measure => simp [intOf]; omega
        · refine wp_region_ord (S := fun w' => w'.cell? ⟨w.heap.size, 0, none⟩ = some (.slice (some ⟨p, q, none⟩) x.n x.c) ∧ w'.cell? ⟨w.heap.size, 1, none⟩ = some (.int .i64 m) ∧ w'.cell? ⟨p, q + j, none⟩ = some (.slice y.A y.n y.c)) [(0, true), (1, true), (2, true), (3, true), (4, true), (5, true), (6, true), (7, true), (8, true), (9, true), (10, true), (11, true), (12, true)] default (by kernel_rfl) (by kernel_rfl) (by kernel_rfl) ⟨e0, e1, hcy⟩ ?_
          simp only [getOrd, nth]
          repeat (first | (refine ordS (by rfl) ?_; simp only [Act.put, List.setIfInBounds_toArray, List.set_cons_zero, List.set_cons_succ]) | (refine ordN (by rfl) ?_; simp only [Act.put, List.setIfInBounds_toArray, List.set_cons_zero, List.set_cons_succ]) | (refine ordQ (v := ?_) (by rfl) (fun _ hSw => ?_) ?_; rotate_left; (focus ((have hS1 := hSw.1); (have hS2 := hSw.2.1); (have hS3 := hSw.2.2); clear hSw; go_simp; (first | done | with_reducible rfl))); simp only [Act.put, List.setIfInBounds_toArray, List.set_cons_zero, List.set_cons_succ]))
          refine ordE ?_
          have HBD := hbl.trans ((Below.refl _ wo).drew.mono hbl.size)
          replace hky := hky.below (Below.refl _ wo).drew
          have HCV := Lib.hid hcv.out
          clear hcv
          go_wp2_with fail
          go_loopw [3, 5] (fun v i wr => ∃ (k : Nat) (c : Bool), k ≤ y.n ∧ i = .int .i64 k ∧ v = .bool c ∧ Hid (c = (β && okZ (y.zs.take k))) ∧ wr = wo.drew) (fun _ i _ => y.n - (intOf i).toNat)
          case atStart => exact ⟨0, _, Nat.zero_le _, rfl, rfl, Lib.hid (by simp [okZ]), rfl⟩
          case round =>
            obtain ⟨k, c, hk, rfl, rfl, hcv, rfl⟩ := hrel
            have hk0 : (0 : Int) ≤ k := by omega
            by_cases hkn : k < y.n
            · have hkn' : (k : Int) < y.n := by omega
              obtain ⟨p2, q2, hA2, hp2, u0, hu0, hcz⟩ := hky.rd.get hkn
              have hkl : k < y.zs.length := by rw [HYL.out]; exact hkn
              rw [ci64_get _ _ hkl] at hu0
              obtain rfl : iV y.zs[k] = u0 := Option.some.inj hu0
              unfold iV at hcz
              have hsn := okZ_snoc hkl
              obtain ⟨z, hz⟩ : ∃ z, y.zs[k] = z := ⟨_, rfl⟩
              rw [hz] at hcz hsn
              have HSN := Lib.hid hsn
              have HA2 := Lib.hid hA2
              rw [hA2] at hcy
              clear hu0 hz hsn hA2
              cases c
              · have HN : Hid (false = (β && okZ (y.zs.take (k + 1)))) := Lib.hid (by rw [HSN.out, ← Bool.and_assoc, ← hcv.out]; rfl)
                clear hcv HSN
                go_wp2
                go_roundw
                case rel => exact ⟨k + 1, _, by omega, by go_num, rfl, HN, by first | rfl | trivial⟩
                case measure => simp [intOf]; omega
              · by_cases z1 : -1000000 ≤ z
                · by_cases z2 : z ≤ 1000000
                  · have HN : Hid (true = (β && okZ (y.zs.take (k + 1)))) := Lib.hid (by rw [HSN.out, ← Bool.and_assoc, ← hcv.out, decide_eq_true z1, decide_eq_true z2]; rfl)
                    clear hcv HSN
                    go_wp2
                    go_roundw
                    case rel => exact ⟨k + 1, _, by omega, by go_num, rfl, HN, by first | rfl | trivial⟩
                    case measure => simp [intOf]; omega
                  · have HN : Hid (false = (β && okZ (y.zs.take (k + 1)))) := Lib.hid (by rw [HSN.out, ← Bool.and_assoc, ← hcv.out, decide_eq_true z1, decide_eq_false z2]; rfl)
                    clear hcv HSN
                    go_wp2
                    go_roundw
                    case rel => exact ⟨k + 1, _, by omega, by go_num, rfl, HN, by first | rfl | trivial⟩
                    case measure => simp [intOf]; omega
                · have HN : Hid (false = (β && okZ (y.zs.take (k + 1)))) := Lib.hid (by rw [HSN.out, ← Bool.and_assoc, ← hcv.out, decide_eq_false z1]; rfl)
                  clear hcv HSN
                  go_wp2
                  go_roundw
                  case rel => exact ⟨k + 1, _, by omega, by go_num, rfl, HN, by first | rfl | trivial⟩
                  case measure => simp [intOf]; omega
            · obtain rfl : k = y.n := by omega
              have HN : Hid (c = (P && (x.g.take (j + 1)).all (okRow m))) := Lib.hid (by
                rw [hcv.out, List.take_of_length_le (by rw [HYL.out]; exact Nat.le_refl _), HR.out, okRow, HYL.out, HLM.out]
                rw [← Bool.and_assoc, ← HCV.out]; rfl)
              clear hcv
              go_wp2
              go_roundw
              case rel => exact ⟨j + 1, _, by omega, by go_num, rfl, HN, HBD⟩
              case measure => simp [intOf]; omega
      · obtain rfl : j = x.n := by omega
        have HN : Hid (c = mayW x.g m) := Lib.hid (by rw [hcv.out, hfin.out, List.take_of_length_le (by rw [HG.out]; exact Nat.le_refl _)])
        have hB := HBx.out.trans (hbl.mono HBx.out.size)
        clear hcv
        go_wp2
        go_ret
        exact ⟨ret_bool HN.out, hB⟩
end Go.Proofs.Ytiaoplghaigclaa
