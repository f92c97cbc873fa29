/-
  Walks of the document's own disk: Copy; any write.
-/
import Derived.Test.YthgbenncheoemaaDoorRef03c
namespace Go.Proofs.YthgbenncheoemaaDoor
open Go.RowKit
set_option linter.unusedVariables false

theorem refwrite_any (B q : Nat) (d : Dk) (A : Option Addr) (c : Nat) (gs : List Nat) (n : Nat) (A1 : Option Addr) (m c1 : Nat) (bs : List UInt8) (w : World) (h : RfAt w B q d A c gs) (hsn : d.Sane) (hn : n < d.ss.length) (hm : m ≤ 64) (hr : Rd w A1 m (cu8 bs)) (hw : d.writes < 1000000000) (hA1 : 0 < m → ∀ b o, A1 = some ⟨b, o, none⟩ → b < B) (hBw : B ≤ w.heap.size) :
    Calls Tryd.prog 19 #[.pointer (some ⟨q, 0, none⟩), .int .i64 n, .slice A1 m c1] w fun e w' => e = .returned (.int .i64 d.says) ∧ ∃ gs', RfAt w' B q (d.write n bs) A c gs' ∧ FrT [60, 42] w w' ∧ Below B w w' := by
  rcases Int.lt_trichotomy d.left 0 with hl | hl | hl
  · have hs : d.says = 0 := by rw [Dk.says, if_neg (by omega)]
    rw [hs]
    exact refwrite_neg B q d A c gs n A1 m c1 bs w h hsn hn hm hl hr hw hA1 hBw
  · have hs : d.says = 8 := by rw [Dk.says, if_pos hl]
    rw [hs]
    exact (refwrite_zero B q d A c gs n A1 m c1 bs w h hsn hn hm hl).mono fun e w' ⟨a, b⟩ => ⟨a, gs, b⟩
  · have hs : d.says = 0 := by rw [Dk.says, if_neg (by omega)]
    rw [hs]
    exact refwrite_pos B q d A c gs n A1 m c1 bs w h hsn hn hm hl hr hw hA1 hBw

/-- A copy that is under way. -/
def midD (d : Dk) (j : Nat) : Dk := ⟨d.ss.take j ++ List.replicate (d.ss.length - j) (List.replicate 64 0), -1, false, 0⟩
theorem mid_zero (d : Dk) : midD d 0 = blankD d.ss.length := by simp [midD, blankD]
theorem mid_all (d : Dk) : midD d d.ss.length = d.copy := by simp [midD, Dk.copy]
theorem mid_len (d : Dk) (j : Nat) (hj : j ≤ d.ss.length) : (midD d j).ss.length = d.ss.length := by simp [midD]; omega
theorem mid_step (d : Dk) (j : Nat) (hj : j < d.ss.length) : { midD d j with ss := (midD d j).ss.set j d.ss[j] } = midD d (j + 1) := by
  have h1 : (d.ss.take j).length = j := by simp; omega
  have h2 : (midD d j).ss.set j d.ss[j] = (midD d (j + 1)).ss := by
    show (d.ss.take j ++ List.replicate (d.ss.length - j) (List.replicate 64 0)).set j d.ss[j] = d.ss.take (j + 1) ++ List.replicate (d.ss.length - (j + 1)) (List.replicate 64 0)
    rw [List.set_append_right _ _ (by omega), h1, Nat.sub_self, show d.ss.length - j = (d.ss.length - (j + 1)) + 1 by omega, List.replicate_succ, List.set_cons_zero, List.take_succ_eq_append_getElem hj, List.append_assoc]
    rfl
  show (⟨_, -1, false, 0⟩ : Dk) = ⟨_, -1, false, 0⟩
  rw [h2]
  rfl

set_option maxRecDepth 100000 in
set_option maxHeartbeats 1000000 in
theorem refcopy_ok (B q : Nat) (d : Dk) (A : Option Addr) (c : Nat) (gs : List Nat) (w : World) (h : RfAt w B q d A c gs) (hpos : 0 < d.ss.length) : Calls Tryd.prog 18 #[.pointer (some ⟨q, 0, none⟩)] w fun e w' =>
    ∃ q' A' c' gs', e = .returned (.pointer (some ⟨q', 0, none⟩)) ∧ RfAt w' w.heap.size q' d.copy A' c' gs' ∧ Below w.heap.size w w' := by
  have k0 := h.c0
  have kt := h.top
  go_enter Tryd.func18, Tryd.ntmps18
  go_wp2_with fail
  refine (refnew_ok d.ss.length w hpos kt).mono ?_
  rintro e w1 ⟨q1, A1, c1, gs1, rfl, h1, hnd, hb1⟩
  have HND := Lib.hid hnd
  have h1' : RfAt w1 w.heap.size q1 (midD d 0) A1 c1 gs1 := by rw [mid_zero]; exact h1
  have H1 := Lib.hid h1'
  have HB1 := Lib.hid hb1
  have H := Lib.hid h
  clear h h1 hnd hb1 k0 h1'
  go_wp2_with fail
  go_loopw [5] (fun i wr => ∃ j : Nat, j ≤ d.ss.length ∧ i = .int .i64 j ∧ RfAt wr w.heap.size q1 (midD d j) A1 c1 gs1 ∧ Below w.heap.size w wr) (fun i _ => d.ss.length - (intOf i).toNat)
  case atStart => exact ⟨0, Nat.zero_le _, rfl, H1.out, HB1.out⟩
  case round =>
    obtain ⟨j, hj, rfl, hr, hB⟩ := hrel
    have hd := H.out.below hB
    have k0 := hd.c0
    by_cases hlt : j < d.ss.length
    · obtain ⟨b, g, rfl, hg, hcell, hrd⟩ := hd.sec hlt
      have hlm : j < (midD d j).ss.length := by rw [mid_len d j hj]; exact hlt
      obtain ⟨b1, g1, rfl, hg1, hcell1, _⟩ := hr.sec hlm
      have k1 := hr.c0
      rw [mid_len d j hj] at k1
      have hs64 := hd.len d.ss[j] (List.getElem_mem hlt)
      obtain ⟨hBg1, hrow⟩ := hr.row j g1 _ hg1 (List.getElem?_eq_getElem hlm)
      have hfill := hr.fill HND.out hlm hg1 d.ss[j] hs64
      rw [mid_step d j hlt] at hfill
      have hm64 := hr.len (midD d j).ss[j] (List.getElem_mem hlm)
      have cp := run_copy_rd wr.drew 3 g1 0 64 64 _ _ hrow (some ⟨g, 0, none⟩) 64 64 (cu8 d.ss[j]) hrd.drew (Nat.le_refl _) (by rw [cu8_len, hm64]; omega) (cu8_one _)
      have es : splice (cu8 (midD d j).ss[j]) 0 (cu8 d.ss[j]) = cu8 d.ss[j] := by
        simp only [splice, List.take_zero, List.nil_append, Nat.zero_add]
        rw [List.drop_eq_nil_of_le (by rw [cu8_len, cu8_len, hm64, hs64]; omega), List.append_nil]
      rw [es] at cp
      have x0 := hfill.c0
      rw [mid_len d (j + 1) (by omega)] at x0
      obtain ⟨b1', g1', hb1e, hg1e, x1, _⟩ := hfill.sec (n := j) (by rw [mid_len d (j + 1) (by omega)]; exact hlt)
      obtain rfl : b1 = b1' := by cases hb1e; rfl
      obtain rfl : g1 = g1' := by rw [hg1] at hg1e; exact Option.some.inj hg1e
      have hBn : Below w.heap.size w (wr.setRow g1 (cu8 d.ss[j]).toArray) := below_setRow hB hBg1 _
      have hdn := H.out.below hBn
      have y0 := hdn.c0
      obtain ⟨b', g', hbe, hge, y1, _⟩ := hdn.sec hlt
      obtain rfl : b = b' := by cases hbe; rfl
      obtain rfl : g = g' := by rw [hg] at hge; exact Option.some.inj hge
      have hlti : (j : Int) < (d.ss.length : Int) := by omega
      unfold sl64 at hcell hcell1 x1 y1
      have cp' : (Builtin.copy_ #[42, 42] 3 #[.slice (some ⟨g1, 0, none⟩) 64 64, .slice (some ⟨g, 0, none⟩) 64 64]).run Tryd.prog wr.drew = .ok (goInt 64) ((wr.setRow g1 (cu8 d.ss[j]).toArray).drew) := cp
      generalize wr.setRow g1 (cu8 d.ss[j]).toArray = w3 at cp' hfill hBn x0 x1 y0 y1 hdn
      have CP := Lib.hid cp'
      have HF := Lib.hid hfill
      have HBN := Lib.hid hBn
      clear cp cp' hfill hBn hdn es hrow hrd hs64 hm64 hg hg1 hg1e hge hb1e hbe hr hd hB
      go_wp2_with fail
      refine wp_region_ord (S := fun w' => w'.cell? ⟨q1, 0, none⟩ = some (.slice (some ⟨b1, 0, none⟩) d.ss.length c1) ∧ w'.cell? ⟨b1, j, none⟩ = some (.slice (some ⟨g1, 0, none⟩) 64 64) ∧ w'.cell? ⟨q, 0, none⟩ = some (.slice (some ⟨b, 0, none⟩) d.ss.length c) ∧ w'.cell? ⟨b, j, none⟩ = some (.slice (some ⟨g, 0, none⟩) 64 64)) [(0, true), (1, true), (2, true), (3, true), (4, true), (5, true), (6, true), (7, true), (8, true), (9, true), (10, true), (11, true), (12, true), (13, true), (14, false)] default (by kernel_rfl) (by kernel_rfl) (by kernel_rfl) ⟨k1, hcell1, k0, hcell⟩ ?_
      simp only [getOrd, nth]
      repeat (first | (refine ordS (by rfl) ?_; simp only [Act.put, List.setIfInBounds_toArray, List.set_cons_zero, List.set_cons_succ]) | (refine ordN (by rfl) ?_; simp only [Act.put, List.setIfInBounds_toArray, List.set_cons_zero, List.set_cons_succ]) | (refine ordQ (v := ?_) (by rfl) (fun _ hSw => ?_) ?_; rotate_left; (focus (have hS1 := hSw.1; have hS2 := hSw.2.1; have hS3 := hSw.2.2.1; have hS4 := hSw.2.2.2; go_simp; (first | done | with_reducible rfl))); simp only [Act.put, List.setIfInBounds_toArray, List.set_cons_zero, List.set_cons_succ]))
      refine ordD (by rfl) ?_
      intro K hK
      refine Lib.wp_copy_run _ _ _ _ _ rfl _ _ (by rfl) (by rfl) CP.out ?_
      refine hK _ _ ⟨x0, x1, y0, y1⟩ ?_
      clear hK K
      try simp only [Act.put, List.setIfInBounds_toArray, List.set_cons_zero, List.set_cons_succ]
      refine ordE ?_
      clear x0 x1 y0 y1 hcell hcell1 k0 k1
      go_wp2
      go_roundw
      case rel => exact ⟨j + 1, by omega, by go_num, HF.out.drew, HBN.out.drew⟩
      case measure => simp [intOf]; omega
    · obtain rfl : j = d.ss.length := by omega
      rw [mid_all] at hr
      have HR := Lib.hid hr
      clear hr
      go_wp2
      go_ret
      exact ⟨q1, A1, c1, gs1, rfl, HR.out, hB⟩
end Go.Proofs.YthgbenncheoemaaDoor
