/-
  Proved: salesroomlaw03.DisksFirst answers true, for any writes and any fuse, in whatever memory. No conditions.
-/
import Derived.Test.YthgbenncheoemaaRows
import Derived.Test.YthgbenncheoemaaAlive3
import Derived.Test.YthgbenncheoemaaWrites
namespace Go.Proofs.Ythgbenncheoemaa.disksFirst
open Go.ChangeShapes Go.WideShapes Go.ChangeAt Go.RowKit
set_option linter.unusedVariables false

set_option maxRecDepth 100000 in
set_option maxHeartbeats 1000000 in
theorem walk_out (A : Option Addr) (n c : Nat) (f : Nat) (W : World) (hn : 100 < n) (hc2 : c ≤ maxLen) (hc : n ≤ c) :
    Calls Try.prog 4 #[.slice A n c, .int .u8 f] W fun e w' => e = .returned (.bool true) ∧ Below W.heap.size W w' := by
  unfold maxLen at hc2
  have h1 : decide (100 < n) = true := by simpa using hn
  go_enter Try.func4, Try.ntmps4
  go_wp2_with fail
  refine (alive_any W).mono ?_
  rintro e w2 ⟨rfl, b2⟩
  go_wp2_with fail
  refine (alive_any w2).mono ?_
  rintro e w3 ⟨rfl, b3⟩
  go_wp2
  go_ret
  exact ⟨rfl, b2.trans (b3.mono b2.size)⟩

set_option maxRecDepth 100000 in
set_option maxHeartbeats 1000000 in
theorem walk_in (A : Option Addr) (n c : Nat) (l : List Wr) (f : Nat) (W : World) (hr : RdR W 2 A n (l.map Wr.cells)) (hl : ∀ u ∈ l, u.Ok W) (hn : n ≤ 100) (hf : f < 256) (hc2 : c ≤ maxLen) (hc : n ≤ c) :
    Calls Try.prog 4 #[.slice A n c, .int .u8 f] W fun e w' => e = .returned (.bool true) ∧ Below W.heap.size W w' := by
  unfold maxLen at hc2
  have h1 : decide (100 < n) = false := by simp; omega
  go_enter Try.func4, Try.ntmps4
  go_wp2_with fail
  refine (alive_any W).mono ?_
  rintro e w0 ⟨rfl, b0⟩
  have s0 := b0.size
  have HBW := Lib.hid b0
  clear b0
  go_wp2_with fail
  refine (new_ok 5 w0 (by omega) (by omega)).mono ?_
  rintro e w1 ⟨p, g, rfl, d1, hp, hg, hB1⟩
  have s1 := hB1.size
  have l1 := d1.ltp
  have l2 := d1.ltg
  go_wp2_with fail
  refine (new_ok 5 w1 (by omega) (by omega)).mono ?_
  rintro e w2 ⟨p2, g2, rfl, c2, hp2, hg2, hB2⟩
  have s2 := hB2.size
  have d2 := d1.below hB2
  have HB2 := Lib.hid (hB1.trans (hB2.mono s1))
  clear d1 hB1 hB2
  go_wp2_with fail
  refine (fuse_ok p g (blankD 5) f w2 d2 rfl (by omega)).mono ?_
  rintro e w3 ⟨rfl, d3, t3⟩
  have s3 := t3.size
  have c3 := c2.tch t3 (by omega) (by omega) (by omega) (by omega)
  have HB3 := Lib.hid (HB2.out.trans (t3.low hp hg HB2.out.size))
  have hne1 : p2 ≠ p := by omega
  have hne2 : p2 ≠ g := by omega
  have hne3 : g2 ≠ p := by omega
  have hne4 : g2 ≠ g := by omega
  have hp20 : w0.heap.size ≤ p2 := by omega
  have hg20 : w0.heap.size ≤ g2 := by omega
  have hS : Side f 0 ({ blankD 5 with left := max (f : Int) (-1) } : Dk) (blankD 5) := by
    refine ⟨rfl, by simp [blankD], rfl, Nat.le_refl _, rfl, ?_, Nat.zero_le _, fun h => by simp [blankD] at h⟩
    show max (f : Int) (-1) = _
    omega
  generalize ({ blankD 5 with left := max (f : Int) (-1) } : Dk) = dd at d3 hS
  generalize blankD 5 = cc at c3 hS c2 d2
  have D3 := Lib.hid d3
  have C3 := Lib.hid c3
  have HS := Lib.hid hS
  clear d2 c2 d3 c3 hS t3
  go_wp2_with fail
  go_loopw [9, 10] (fun v i wr => ∃ (j k : Nat) (d c : Dk), j ≤ n ∧ k ≤ j ∧ i = .int .i64 j ∧ v = .int .i64 k ∧ DkAt wr p g d ∧ DkAt wr p2 g2 c ∧ Side f k d c ∧ Below w0.heap.size w0 wr) (fun _ i _ => n - (intOf i).toNat)
  case atStart => exact ⟨0, 0, _, _, Nat.zero_le _, Nat.le_refl _, rfl, rfl, D3.out, C3.out, HS.out, HB3.out⟩
  case round =>
    obtain ⟨j, k, d, cd, hj, hkj, rfl, rfl, hd, hcd, hS, hB⟩ := hrel
    have HS := Lib.hid hS
    clear hS
    by_cases hlt : j < n
    · obtain ⟨b, o, u, rfl, hu, hb, c0, c1⟩ := ws_get hr hlt
      have hbb : b < w0.heap.size := by omega
      have e0 : wr.cell? ⟨b, o + j * 2, none⟩ = some (.int .u8 u.n) := by rw [hB.cell (p := ⟨b, o + j * 2, none⟩) hbb, HBW.out.cell (p := ⟨b, o + j * 2, none⟩) hb]; exact c0
      have e1 : wr.cell? ⟨b, o + j * 2 + 1, none⟩ = some (.slice u.A u.m u.c) := by rw [hB.cell (p := ⟨b, o + j * 2 + 1, none⟩) hbb, HBW.out.cell (p := ⟨b, o + j * 2 + 1, none⟩) hb]; exact c1
      have hok := hl u (List.mem_of_getElem? hu)
      have hokr := hok.below (HBW.out.trans (hB.mono s0))
      have ho := hok.rd.old (B := w0.heap.size) (p := p) (g := g) s0 hp hg
      have ho2 := hok.rd.old (B := w0.heap.size) (p := p2) (g := g2) s0 (by omega) (by omega)
      have hun := hok.n
      have hcap := hok.cap
      have htop := hok.top
      unfold maxLen at htop
      have HO := Lib.hid ho
      have HO2 := Lib.hid ho2
      have HU := Lib.hid hu
      have HOK := Lib.hid hokr.rd
      have hul := hok.len
      obtain ⟨mm, hmm, hm1, hm2, hm3⟩ : ∃ mm : Nat, min (64 : Int) (u.m : Int) = (mm : Int) ∧ mm ≤ u.m ∧ mm ≤ 64 ∧ (mm : Int) ≤ (u.c : Int) := ⟨min 64 u.m, by omega, by omega, by omega, by omega⟩
      have hm4 : (0 : Int) ≤ (mm : Int) := by omega
      have HOT := Lib.hid (HOK.out.take hm1)
      clear ho ho2 hu c0 c1 hok hokr hul
      go_wp2_with fail
      refine wp_region_ord (S := fun w' => w'.cell? ⟨b, o + j * 2 + 1, none⟩ = some (.slice u.A u.m u.c)) [(0, true), (1, true), (2, true), (3, true), (4, true), (5, true), (6, true), (7, true), (8, true), (9, true), (10, true), (11, true), (12, true), (13, true)] default (by kernel_rfl) (by kernel_rfl) (by kernel_rfl) e1 ?_
      simp only [getOrd, nth]
      repeat (first | (refine ordS (by rfl) ?_; simp only [Act.put, List.setIfInBounds_toArray, List.set_cons_zero, List.set_cons_succ]) | (refine ordN (by rfl) ?_; simp only [Act.put, List.setIfInBounds_toArray, List.set_cons_zero, List.set_cons_succ]) | (refine ordQ (v := ?_) (by rfl) (fun _ hSw => ?_) ?_; rotate_left; (focus (go_simp; (first | done | with_reducible rfl))); simp only [Act.put, List.setIfInBounds_toArray, List.set_cons_zero, List.set_cons_succ]))
      refine ordE ?_
      go_wp2_with fail
      rw [show (u.n : Int) % 5 = ((u.n % 5 : Nat) : Int) by omega]
      have hk5 : u.n % 5 < 5 := Nat.mod_lt _ (by omega)
      generalize u.n % 5 = r at hk5
      have hot := HOT.out
      rw [cu8_take] at hot
      generalize u.bs.take mm = bs at hot
      have hd5 : d.ss.length = 5 := HS.out.five
      have hc5 : cd.ss.length = 5 := by rw [← HS.out.same]; exact hd5
      have HC5 := Lib.hid hc5
      have hdw := HS.out.let_
      refine (write_any p g d r u.A mm u.c bs wr.drew hd.drew (by omega) hot.drew hm2 (fun h0 => HO.out (by omega)) (by omega)).mono ?_
      rintro e w4 ⟨rfl, h4, t4⟩
      have t4 : Tch p g wr w4 := (Tch.of_below ((Below.refl _ wr).drew)).trans t4
      have sz := hB.size
      have s4 := t4.size
      have hq1 := hcd.ltp
      have hq2 := hcd.ltg
      have l1 := hd.ltp
      have l2 := hd.ltg
      have hx4 := hcd.tch t4 hne1 hne2 hne3 hne4
      have hot4 := hot.tch t4 (fun h0 => HO.out (by omega))
      have HB4 := Lib.hid (hB.trans (t4.low hp hg sz))
      clear hd hcd hB t4 hot e0 e1 hmm hc5 hd5 hdw
      by_cases hk : k < f
      · have hcl := HS.out.clear hk r bs
        have hyes := Lib.hid (HS.out.yes hk r bs)
        have hb0 := Lib.hid hcl.2
        have q1 : decide (k < f) = true := by simpa using hk
        have q2 : decide ((k : Int) < (f : Int)) = true := by simp; omega
        rw [hcl.1]
        clear hcl
        go_wp2_with fail
        refine (blown_ok p g _ w4 h4).mono ?_
        rw [hb0.out]
        rintro e w5 ⟨rfl, rfl⟩
        go_wp2_with fail
        have hcw := HS.out.most
        refine (write_any p2 g2 cd r u.A mm u.c bs w4 hx4 (by have := HC5.out; omega) hot4 hm2 (fun h0 => HO2.out (by omega)) (by omega)).mono ?_
        rintro e w5 ⟨rfl, h5, t5⟩
        have d5 := h4.tch t5 (Ne.symm hne1) (Ne.symm hne3) (Ne.symm hne2) (Ne.symm hne4)
        have HB5 := Lib.hid (HB4.out.trans (t5.low hp20 hg20 HB4.out.size))
        have H5 := Lib.hid h5
        have D5 := Lib.hid d5
        generalize cd.says = zz
        clear h4 h5 d5 t5 hx4 hot4 q1 q2
        go_wp2
        go_roundw
        case rel => exact ⟨j + 1, k + 1, _, _, by omega, by omega, by go_num, by go_num, D5.out, H5.out, hyes.out, HB5.out⟩
        case measure => simp [intOf]; omega
      · have hst := HS.out.stop hk
        have hno := HS.out.no hk r bs
        have HNO := Lib.hid hno.1
        have hb1 := Lib.hid hno.2
        have q1 : decide (k < f) = false := by simpa using hk
        have q2 : decide ((k : Int) < (f : Int)) = false := by simp; omega
        rw [hst]
        clear hst hno
        go_wp2_with fail
        refine (blown_ok p g _ w4 h4).mono ?_
        rw [hb1.out]
        rintro e w5 ⟨rfl, rfl⟩
        have H4 := Lib.hid h4
        have X4 := Lib.hid hx4
        clear h4 hx4 hot4 q1 q2
        go_wp2
        go_roundw
        case rel => exact ⟨j + 1, k, _, _, by omega, by omega, by go_num, rfl, H4.out, X4.out, HNO.out, HB4.out⟩
        case measure => simp [intOf]; omega
    · obtain rfl : j = n := by omega
      have hd5 : d.ss.length = 5 := HS.out.five
      have hc5 : cd.ss.length = 5 := by rw [← HS.out.same]; exact hd5
      have hdw := HS.out.let_
      have HD5 := Lib.hid hd5
      have HC5 := Lib.hid hc5
      clear hd5 hc5
      have sz := hB.size
      go_wp2_with fail
      refine (writes_n p g k d wr hd hdw).mono ?_
      rintro e w5 ⟨rfl, rfl⟩
      clear hdw
      go_wp2_with fail
      refine (all_n p g 5 d wr hd HD5.out).mono ?_
      rintro e w5 ⟨A5, k5, rfl, o5, b5⟩
      have s5 := b5.size
      have c5 := hcd.below b5
      have HB5 := Lib.hid (hB.trans (b5.mono sz))
      clear hd hcd hB b5
      go_wp2_with fail
      refine (all_n p2 g2 5 cd w5 c5 HC5.out).mono ?_
      rintro e w6 ⟨A6, k6, rfl, o6, b6⟩
      have s6 := b6.size
      have r5 := (o5.below b6).rdl
      have r6 := o6.rdl
      rw [HS.out.same] at r5
      have lens := c5.len
      have HB6 := Lib.hid (HB5.out.trans (b6.mono HB5.out.size))
      clear c5 b6 o5 o6
      go_wp2_with fail
      refine (samelists_n 5 A5 k5 A6 k6 cd.ss w6 r5 r6 HC5.out (by omega) (fun s hs => by rw [lens s hs]; omega)).mono ?_
      rintro e w7 ⟨rfl, q7, rfl⟩
      have HB7 := Lib.hid (belowN HB6.out q7)
      clear r5 r6 lens
      go_wp2
      go_ret
      exact ⟨rfl, HBW.out.trans (HB7.out.mono s0)⟩

theorem walk (A : Option Addr) (n c : Nat) (l : List Wr) (f : Nat) (hf : f < 256) (W : World) (hr : RdR W 2 A n (l.map Wr.cells)) (hl : ∀ u ∈ l, u.Ok W) (hc2 : c ≤ maxLen) (hc : n ≤ c) :
    Calls Try.prog 4 #[.slice A n c, .int .u8 f] W fun e w' => e = .returned (.bool true) ∧ Below W.heap.size W w' := by
  by_cases h : n ≤ 100
  · exact walk_in A n c l f W hr hl h hf hc2 hc
  · exact walk_out A n c f W (by omega) hc2 hc

theorem own : ownKnob Try.prog.godebug = none := by kernel_rfl
theorem laidOut : laidOutB Try.prog = true := by kernel_rfl

set_option maxRecDepth 100000 in
theorem lifted (os : Os) (started : os.Started) (H : Type) (enc : TypeId × Value → H) :
    ReturnsInHanded {} Try.checked os 4 .any (Rows.disksFirstSpec.pre6 enc Try.prog Try.f4 Rows.disksFirstRow.domain false) (Rows.disksFirstSpec.post enc Try.prog Try.f4 false true false false) := by
  refine returnsInHanded_of_change (C := Try.checked) own started (by kernel_rfl) Try.func4
    (ChangeSpec.witness6 (enc := enc) (C := Try.checked) false ⟨#[], #[.slice none 0 0, .int .u8 0], []⟩ 8 (by kernel_rfl) (by kernel_rfl) (by kernel_rfl) (by kernel_rfl)) ?_
  intro W base args ds gs before hval0 hW hcnd _
  have hval : ∀ (j : Nat) t v, Try.f4.params[j]? = some t → args[j]? = some v → Value.okWide Try.prog W .any base t v := hval0
  have hW' := hW
  obtain ⟨p, q, hA0, hV, rfl, hfz, hnd⟩ := hW
  have hA : DataW.TrodAll enc Try.prog W 0 (fun _ => true) true Try.f4.params.toList args.toList ds p := hA0
  rw [Try.params4] at hA hval
  obtain ⟨v0, vs0, d0, ds0, p0, q0, hargs, rfl, rfl, h0, r0⟩ := trodAll_cons hA
  obtain ⟨v1, vs1, d1, ds1, p1, q1, rfl, rfl, rfl, h1, r1⟩ := trodAll_cons r0
  obtain ⟨rfl, rfl, rfl⟩ := trodAll_nil r1
  obtain rfl : args = #[v0, v1] := by cases args; simp_all
  obtain ⟨A0, n0, c0, l0, rfl, a0, g0, b0, e0, _⟩ := arg_ws Try.underlying40 Try.underlying43 (by kernel_rfl) (by kernel_rfl) Try.underlying5 Try.underlying22 Try.underlying5 (by kernel_rfl) (hval 0 40 v0 rfl rfl) h0
  obtain ⟨x1, rfl, rfl, rfl, w1⟩ := open_int Try.underlying5 (hval 1 5 v1 rfl rfl) h1
  obtain ⟨y1, rfl, z1⟩ := fit_u8 w1
  have hwalk : Calls Try.prog 4 #[.slice A0 n0 c0, .int .u8 y1] W fun e w' => e = .returned (.bool true) ∧ Below W.heap.size W w' := walk A0 n0 c0 l0 y1 z1 W a0 g0 e0 b0
  refine hwalk.mono fun e W' ⟨he, hg⟩ => ?_
  subst he
  exact ⟨_, rfl, law_post laidOut (by kernel_rfl) hW' rfl rfl (by kernel_rfl) Try.underlying4 hg⟩

theorem over : Rows.disksFirstRow.holds Try.pinned (OpenSpec.ofChange Rows.disksFirstSpec) :=
  OpenClaim.holds_of_wide 4 Try.f4 rfl rfl rfl rfl rfl rfl rfl ⟨rfl, rfl, rfl, rfl, rfl⟩ rfl rfl rfl rfl rfl (by kernel_rfl) Try.func4 (by kernel_rfl)
    (of_decide_eq_true (by kernel_rfl)) (by unfold Func.isWrapper; first | (rw [if_pos (by decide +kernel)]; kernel_rfl) | (rw [if_neg (by decide +kernel)]; exact ⟨rfl, rfl⟩))
    (fun os started H enc _ => lifted os started H enc)

theorem proved : Rows.DisksFirstSaid :=
  over
end Go.Proofs.Ythgbenncheoemaa.disksFirst
