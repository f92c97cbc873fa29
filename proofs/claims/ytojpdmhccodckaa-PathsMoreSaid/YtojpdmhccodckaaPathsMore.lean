/-
  Proved: salesroomlaw07.PathsMore answers true, for any lists, any items, any matching and any number of a bidder, in whatever memory. No conditions.
-/
import Derived.Test.YtojpdmhccodckaaRows
import Derived.Test.YtojpdmhccodckaaLift
import Derived.Test.YtojpdmhccodckaaAlive7
import Derived.Test.YtojpdmhccodckaaPaH
import Derived.Test.YtojpdmhccodckaaReg
namespace Go.Proofs.Ytojpdmhccodckaa.pathsMore
open Go.ChangeShapes Go.WideShapes Go.ChangeAt Go.RowKit
set_option linter.unusedVariables false

theorem info6_int : (Try.prog.info? 3).map (fun i => (i.zero, i.size, i.bytes)) = some (some (.int .i64 0), 1, 8) := by kernel_rfl

set_option maxRecDepth 100000 in
set_option maxHeartbeats 4000000 in
theorem walk (x : Gr) (m : Int) (A1 : Option Addr) (n1 c1 : Nat) (zs : List Int) (z : Int) (w : World) (h : x.Ok w) (hm1 : -9223372036854775808 ≤ m) (hm2 : m ≤ 9223372036854775807) (h1 : Ls.Ok w ⟨A1, n1, c1, zs⟩) (hz1 : -9223372036854775808 ≤ z) (hz2 : z ≤ 9223372036854775807) :
    Calls Try.prog 3 #[.agg #[x.v, .int .i64 m], .slice A1 n1 c1, .int .i64 z] w fun e w' => e = .returned (.bool true) ∧ Below w.heap.size w w' := by
  have hx := h
  have hB := Below.refl w.heap.size w
  have hxv : x.v = .slice x.A x.n x.c := rfl
  have Vx := Lib.hid hxv
  rw [hxv]
  have hgl := h.glen
  have HGL := Lib.hid hgl
  have htop := Nat.le_trans h.cap h.top
  unfold maxLen at htop
  obtain ⟨B, hB0⟩ : ∃ B, mayP x.g m zs z = B := ⟨_, rfl⟩
  clear hxv hgl h
  have HZL : Hid (zs.length = n1) := Lib.hid h1.len
  have h1c := Nat.le_trans h1.cap h1.top
  unfold maxLen at h1c
  go_enter Try.func3, Try.ntmps3
  have bg := GBox.new w x m
  have hbx : Below w.heap.size w (w.alloc (.cells #[.slice x.A x.n x.c, .int .i64 m] 24)) := (Below.refl _ w).alloc (Nat.le_refl _) _
  replace hx := hx.below hbx
  replace h1 := h1.below hbx
  replace hB := hB.trans (hbx.mono hB.size)
  clear hbx
  cases B
  · obtain ⟨e1, e2, e3, e4, e5⟩ := path_bad hB0
    have E1 := Lib.hid e1
    have E2 := Lib.hid e2
    have E3 := Lib.hid e3
    have E4 := Lib.hid e4
    have E5 := Lib.hid e5
    clear e1 e2 e3 e4 e5 hB0
    have eg0 := bg.c0
    have eg1 := bg.c1
    have hc := pmoreC x m ⟨A1, n1, c1, zs⟩ z (w.alloc (.cells #[.slice x.A x.n x.c, .int .i64 m] 24)) hx h1 hm1 hm2 hz1 hz2
    rw [Vx.out, E1.out, E2.out, E3.out] at hc
    go_wp2_with fail
    clear eg0 eg1
    generalize w.alloc (.cells #[.slice x.A x.n x.c, .int .i64 m] 24) = W1 at *
    refine hc.mono ?_
    rintro e v2 ⟨A2, n2, c2, rfl, h2, hb⟩
    clear hc
    replace hx := hx.below hb
    replace h1 := h1.below hb
    replace bg := bg.below hb
    replace hB := hB.trans (hb.mono hB.size)
    clear hb
    obtain rfl : n2 = 0 := h2.len.symm
    clear h2
    have eg0 := bg.c0
    have eg1 := bg.c1
    have hc := alive7_any v2
    go_wp2_with fail
    clear eg0 eg1
    refine hc.mono ?_
    rintro e v3 ⟨rfl, hb⟩
    clear hc
    replace hx := hx.below hb
    replace h1 := h1.below hb
    replace bg := bg.below hb
    replace hB := hB.trans (hb.mono hB.size)
    clear hb
    have eg0 := bg.c0
    have eg1 := bg.c1
    go_wp2
    go_ret
    exact ⟨rfl, hB⟩
  · obtain ⟨M, rfl, hM8, hg8, hzl, i, rfl, hif⟩ := may_nat hB0
    rw [HZL.out, HGL.out] at hzl
    subst hzl
    rw [HGL.out] at hif hg8
    obtain ⟨e1, e2, e3, e4, e5⟩ := path_ok hB0
    have E1 := Lib.hid e1
    have E2 := Lib.hid e2
    have E3 := Lib.hid e3
    have E4 := Lib.hid e4
    have E5 := Lib.hid e5
    have HMY := Lib.hid hB0
    clear e1 e2 e3 e4 e5 hB0 hm1 hm2 hz1 hz2
    obtain ⟨D, hD⟩ : ∃ D, foundP x.g M zs i = D := ⟨_, rfl⟩
    rw [hD] at E2
    cases D
    · have hmn := more_none hD
      rw [hmn] at E3
      clear hD hmn
      have eg0 := bg.c0
      have eg1 := bg.c1
      have hc := pmoreC x M ⟨A1, x.n, c1, zs⟩ i (w.alloc (.cells #[.slice x.A x.n x.c, .int .i64 (M : Int)] 24)) hx h1 (by omega) (by omega) (by omega) (by omega)
      rw [Vx.out, E1.out, E2.out, E3.out] at hc
      go_wp2_with fail
      clear eg0 eg1
      generalize w.alloc (.cells #[.slice x.A x.n x.c, .int .i64 (M : Int)] 24) = W1 at *
      refine hc.mono ?_
      rintro e v2 ⟨A2, n2, c2, rfl, h2, hb⟩
      clear hc
      replace hx := hx.below hb
      replace h1 := h1.below hb
      replace bg := bg.below hb
      replace hB := hB.trans (hb.mono hB.size)
      clear hb
      obtain rfl : n2 = 0 := h2.len.symm
      clear h2
      have eg0 := bg.c0
      have eg1 := bg.c1
      have hc := alive7_any v2
      go_wp2_with fail
      clear eg0 eg1
      refine hc.mono ?_
      rintro e v3 ⟨rfl, hb⟩
      clear hc
      replace hx := hx.below hb
      replace h1 := h1.below hb
      replace bg := bg.below hb
      replace hB := hB.trans (hb.mono hB.size)
      clear hb
      have eg0 := bg.c0
      have eg1 := bg.c1
      go_wp2
      go_ret
      exact ⟨rfl, hB⟩
    · have mo := more_fits HMY.out hD
      have hfl := fits_fit (may_check HMY.out) mo.fit
      have hml := mo.many
      have hll : (moreP x.g M zs i).length = x.n := by rw [mo.fit.len, HGL.out]
      have hfr := mo.from_
      rw [Int.toNat_natCast] at hfr
      have hin : ∀ j, j < x.n → zs.getD j (-1) ≠ -1 → (moreP x.g M zs i).getD j (-1) ≠ -1 ∧ zs.getD j (-1) ∈ moreP x.g M zs i := fun j hj hn => by
        refine ⟨mo.bids j (by rw [HZL.out]; exact hj) hn, ?_⟩
        obtain ⟨j', h1, h2⟩ := mo.items j (by rw [HZL.out]; exact hj) hn
        rw [List.getD_eq_getElem?_getD, List.getElem?_eq_getElem h1] at h2
        rw [← h2]; exact List.getElem_mem h1
      generalize moreP x.g M zs i = l at *
      obtain ⟨c0, hc0⟩ : ∃ c, manyG zs = c := ⟨_, rfl⟩
      have hmz := manyG_le zs
      rw [HZL.out, hc0] at hmz
      rw [hc0] at hml
      have HFL := Lib.hid hfl
      have HML := Lib.hid hml
      have HC0 := Lib.hid hc0
      have HLL := Lib.hid hll
      have HIN := Lib.hid hin
      have HFR := Lib.hid hfr
      clear mo hD hfl hml hc0 hll hin hfr
      have eg0 := bg.c0
      have eg1 := bg.c1
      have hc := pmoreC x M ⟨A1, x.n, c1, zs⟩ i (w.alloc (.cells #[.slice x.A x.n x.c, .int .i64 (M : Int)] 24)) hx h1 (by omega) (by omega) (by omega) (by omega)
      rw [Vx.out, E1.out, E2.out, E3.out] at hc
      go_wp2_with fail
      clear eg0 eg1
      generalize w.alloc (.cells #[.slice x.A x.n x.c, .int .i64 (M : Int)] 24) = W1 at *
      refine hc.mono ?_
      rintro e v2 ⟨A2, n2, c2, rfl, h2, hb⟩
      clear hc
      replace hx := hx.below hb
      replace h1 := h1.below hb
      replace bg := bg.below hb
      replace hB := hB.trans (hb.mono hB.size)
      clear hb
      obtain rfl : n2 = x.n := by have := h2.len; rw [← HLL.out]; exact this.symm
      have h2c : x.n ≤ maxLen := Nat.le_trans h2.own.le h2.own.cap
      have eg0 := bg.c0
      have eg1 := bg.c1
      have hc := gfitsC x M ⟨A2, x.n, c2, l⟩ v2 hx h2.ok (by omega) (by omega)
      rw [Vx.out, HFL.out] at hc
      go_wp2_with fail
      clear eg0 eg1
      refine hc.mono ?_
      rintro e v3 ⟨rfl, hb⟩
      clear hc
      replace hx := hx.below hb
      replace h1 := h1.below hb
      replace h2 := h2.below hb
      replace bg := bg.below hb
      replace hB := hB.trans (hb.mono hB.size)
      clear hb
      have eg0 := bg.c0
      have eg1 := bg.c1
      have hc := gmanyC ⟨A2, x.n, c2, l⟩ v3 h2.ok
      rw [HML.out] at hc
      go_wp2_with fail
      clear eg0 eg1
      refine hc.mono ?_
      rintro e v4 ⟨rfl, hb⟩
      clear hc
      replace hx := hx.below hb
      replace h1 := h1.below hb
      replace h2 := h2.below hb
      replace bg := bg.below hb
      replace hB := hB.trans (hb.mono hB.size)
      clear hb
      have eg0 := bg.c0
      have eg1 := bg.c1
      have hc := gmanyC ⟨A1, x.n, c1, zs⟩ v4 h1
      rw [HC0.out] at hc
      go_wp2_with fail
      clear eg0 eg1
      refine hc.mono ?_
      rintro e v5 ⟨rfl, hb⟩
      clear hc
      replace hx := hx.below hb
      replace h1 := h1.below hb
      replace h2 := h2.below hb
      replace bg := bg.below hb
      replace hB := hB.trans (hb.mono hB.size)
      clear hb
      have s1 : IntKind.i64.wrap ((c0 : Int) + 1) = (c0 : Int) + 1 := by rw [IntKind.wrap_i64]; omega
      have hne : ((c0 : Int) + 1 != (c0 : Int) + 1) = false := by simp
      have hif' : (i : Int) < x.n := by omega
      have hi0 : (0 : Int) ≤ i := by omega
      have g0 : decide ((i : Int) < 0) = false := decide_eq_false (by omega)
      have g1 : decide ((x.n : Int) ≤ (i : Int)) = false := decide_eq_false (by omega)
      have g1' : decide (x.n ≤ i) = false := decide_eq_false (by omega)
      obtain ⟨p, q, rfl, hp, y0, hy0, hcy⟩ := h2.own.rd.get hif
      have hil : i < l.length := by rw [HLL.out]; exact hif
      rw [ci64_get _ _ hil] at hy0
      obtain rfl : iV l[i] = y0 := Option.some.inj hy0
      unfold iV at hcy
      have hly : l[i] ≠ -1 := by
        have h := HFR.out
        rw [List.getD_eq_getElem?_getD, List.getElem?_eq_getElem hil] at h
        exact h
      have g2 : (l[i] == -1) = false := by rw [beq_eq_false_iff_ne]; exact hly
      generalize l[i] = y at hcy g2
      clear hy0 hly hil
      have eg0 := bg.c0
      have eg1 := bg.c1
      go_wp2_with fail
      clear eg0 eg1 hcy g2
      go_loopw [10] (fun v wr => ∃ (j : Nat), j ≤ x.n ∧ v = .int .i64 j ∧ Below v5.heap.size v5 wr) (fun v _ => x.n - (intOf v).toNat)
      case atStart => exact ⟨0, Nat.zero_le _, rfl, Below.refl _ _⟩
      case round =>
        obtain ⟨j, hj, rfl, hbel⟩ := hrel
        by_cases hjn : j < x.n
        · have hjn' : (j : Int) < x.n := by omega
          have hjz : j < zs.length := by rw [HZL.out]; exact hjn
          have hjl : j < l.length := by rw [HLL.out]; exact hjn
          obtain ⟨p1, q1, rfl, hp1, y0, hy0, hcy⟩ := h1.rd.get hjn
          obtain ⟨p2, q2, hA2, hp2, y1, hy1, hcy1⟩ := h2.own.rd.get hjn
          cases hA2
          rw [ci64_get _ _ hjz] at hy0
          rw [ci64_get _ _ hjl] at hy1
          obtain rfl : iV zs[j] = y0 := Option.some.inj hy0
          obtain rfl : iV l[j] = y1 := Option.some.inj hy1
          unfold iV at hcy hcy1
          have hw := HIN.out j hjn
          rw [List.getD_eq_getElem?_getD, List.getElem?_eq_getElem hjz, List.getD_eq_getElem?_getD, List.getElem?_eq_getElem hjl] at hw
          have hw : zs[j] ≠ -1 → l[j] ≠ -1 ∧ zs[j] ∈ l := hw
          obtain ⟨a, ha⟩ : ∃ a, zs[j] = a := ⟨_, rfl⟩
          obtain ⟨c, hc⟩ : ∃ c, l[j] = c := ⟨_, rfl⟩
          rw [ha] at hcy hw
          rw [hc] at hcy1 hw
          have hcw : wr.cell? ⟨p1, q1 + j, none⟩ = some (.int .i64 a) := (hbel.cell (p := ⟨p1, q1 + j, none⟩) hp1).trans hcy
          have hcw1 : wr.cell? ⟨p, q + j, none⟩ = some (.int .i64 c) := (hbel.cell (p := ⟨p, q + j, none⟩) hp2).trans hcy1
          have hh := lhas7_any (some ⟨p, q, none⟩) x.n c2 l a wr (h2.own.rd.below hbel) h2c
          clear hy0 hy1 ha hc hcy hcy1
          by_cases ha1 : a = -1
          · have k1 : (a != -1) = false := by rw [ha1]; rfl
            clear ha1 hw hh
            go_wp2
            go_roundw
            case rel => exact ⟨j + 1, by omega, by go_num, hbel⟩
            case measure => simp [intOf]; omega
          · have k1 : (a != -1) = true := by rw [bne_iff_ne]; exact ha1
            have k2 : (c == -1) = false := by rw [beq_eq_false_iff_ne]; exact (hw ha1).1
            rw [show decide (a ∈ l) = true from decide_eq_true (hw ha1).2] at hh
            clear ha1 hw
            go_wp2_with fail
            refine hh.mono ?_
            rintro e w2 ⟨rfl, rfl⟩
            clear hh
            go_wp2
            go_roundw
            case rel => exact ⟨j + 1, by omega, by go_num, hbel⟩
            case measure => simp [intOf]; omega
        · obtain rfl : j = x.n := by omega
          have hal := alive7_any wr
          go_wp2_with fail
          refine hal.mono ?_
          rintro e w9 ⟨rfl, hb⟩
          have hB9 := hB.trans ((hbel.trans (hb.mono hbel.size)).mono hB.size)
          go_wp2
          go_ret
          exact ⟨rfl, hB9⟩

theorem own : ownKnob Try.prog.godebug = none := by kernel_rfl
theorem laidOut : laidOutB Try.prog = true := by kernel_rfl

set_option maxRecDepth 100000 in
theorem lifted (os : Os) (started : os.Started) (H : Type) (enc : TypeId × Value → H) :
    ReturnsInHanded {} Try.checked os 3 .any (Rows.pathsMoreSpec.pre6 enc Try.prog Try.f3 Rows.pathsMoreRow.domain false) (Rows.pathsMoreSpec.post enc Try.prog Try.f3 false true false false) := by
  refine returnsInHanded_of_change (C := Try.checked) own started (by kernel_rfl) Try.func3
    (ChangeSpec.witness6 (enc := enc) (C := Try.checked) false ⟨#[], #[.agg #[.slice none 0 0, .int .i64 0], .slice none 0 0, .int .i64 0], []⟩ 8 (by kernel_rfl) (by kernel_rfl) (by kernel_rfl) (by kernel_rfl)) ?_
  intro W base args ds gs before hval0 hW hcnd _
  have hval : ∀ (j : Nat) t v, Try.f3.params[j]? = some t → args[j]? = some v → Value.okWide Try.prog W .any base t v := hval0
  have hW' := hW
  obtain ⟨p, q, hA0, hV, rfl, hfz, hnd⟩ := hW
  have hA : DataW.TrodAll enc Try.prog W 0 (fun _ => true) true Try.f3.params.toList args.toList ds p := hA0
  rw [Try.params3] at hA hval
  obtain ⟨v0, vs0, d0, ds0, p0, q0, hargs, rfl, rfl, h0, r0⟩ := trodAll_cons hA
  obtain ⟨v1, vs1, d1, ds1, p1, q1, rfl, rfl, rfl, h1, r1⟩ := trodAll_cons r0
  obtain ⟨v2, vs2, d2, ds2, p2, q2, rfl, rfl, rfl, h2, r2⟩ := trodAll_cons r1
  obtain ⟨rfl, rfl, rfl⟩ := trodAll_nil r2
  obtain rfl : args = #[v0, v1, v2] := by cases args; simp_all
  obtain ⟨u0, m0, rfl, k0, a0, b0⟩ := arg_gr Try.underlying24 (by kernel_rfl) (by kernel_rfl) Try.underlying22 Try.underlying3 Try.underlying25 (by kernel_rfl) Try.underlying3 (by kernel_rfl) (hval 0 24 v0 rfl rfl) h0
  obtain ⟨A1, n1, c1, l1, rfl, a1, b1, e1, g1⟩ := arg_i64s Try.underlying25 Try.underlying3 (by kernel_rfl) (hval 1 25 v1 rfl rfl) h1
  obtain ⟨x2, rfl, rfl, rfl, w2⟩ := open_int Try.underlying3 (hval 2 3 v2 rfl rfl) h2
  have y2 := bounds_i64 w2
  have hwalk : Calls Try.prog 3 #[.agg #[u0.v, .int .i64 m0], .slice A1 n1 c1, .int .i64 x2] W fun e w' => e = .returned (.bool true) ∧ Below W.heap.size W w' := walk u0 m0 A1 n1 c1 l1 x2 W k0 a0 b0 ⟨a1, b1, e1, g1⟩ y2.1 y2.2
  refine hwalk.mono fun e W' ⟨he, hg⟩ => ?_
  subst he
  exact ⟨_, rfl, law_post laidOut (by kernel_rfl) hW' rfl rfl (by kernel_rfl) Try.underlying4 hg⟩

theorem over : Rows.pathsMoreRow.holds Try.pinned (OpenSpec.ofChange Rows.pathsMoreSpec) :=
  OpenClaim.holds_of_wide 3 Try.f3 rfl rfl rfl rfl rfl rfl rfl ⟨rfl, rfl, rfl, rfl, rfl⟩ rfl rfl rfl rfl rfl (by kernel_rfl) Try.func3 (by kernel_rfl)
    (of_decide_eq_true (by kernel_rfl)) (by unfold Func.isWrapper; first | (rw [if_pos (by decide +kernel)]; kernel_rfl) | (rw [if_neg (by decide +kernel)]; exact ⟨rfl, rfl⟩))
    (fun os started H enc _ => lifted os started H enc)

theorem proved : Rows.PathsMoreSaid :=
  over

end Go.Proofs.Ytojpdmhccodckaa.pathsMore
