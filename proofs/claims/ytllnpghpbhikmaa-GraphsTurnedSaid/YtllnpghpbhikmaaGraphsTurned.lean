/-
  Proved: salesroomlaw06.GraphsTurned answers true, for any lists and any items, in whatever memory. No conditions.
-/
import Derived.Test.YtllnpghpbhikmaaRows
import Derived.Test.YtllnpghpbhikmaaLift
import Derived.Test.YtllnpghpbhikmaaAlive6
import Derived.Test.YtllnpghpbhikmaaGrM
import Derived.Test.YtllnpghpbhikmaaGrH
import Derived.Test.YtllnpghpbhikmaaReg
namespace Go.Proofs.Ytllnpghpbhikmaa.graphsTurned
open Go.ChangeShapes Go.WideShapes Go.ChangeAt Go.RowKit
set_option linter.unusedVariables false

theorem info6_int : (Try.prog.info? 3).map (fun i => (i.zero, i.size, i.bytes)) = some (some (.int .i64 0), 1, 8) := by kernel_rfl

set_option maxRecDepth 100000 in
set_option maxHeartbeats 4000000 in
theorem walk (x : Gr) (m : Int) (w : World) (h : x.Ok w) (hm1 : -9223372036854775808 ≤ m) (hm2 : m ≤ 9223372036854775807) :
    Calls Try.prog 3 #[.agg #[x.v, .int .i64 m]] w fun e w' => e = .returned (.bool true) ∧ Below w.heap.size w w' := by
  have hx := h
  have hB := Below.refl w.heap.size w
  have hxv : x.v = .slice x.A x.n x.c := rfl
  have Vx := Lib.hid hxv
  rw [hxv]
  have hgl := h.glen
  have HGL := Lib.hid hgl
  have htop := Nat.le_trans h.cap h.top
  unfold maxLen at htop
  obtain ⟨B, hB0⟩ : ∃ B, checkG x.g m = B := ⟨_, rfl⟩
  clear hxv hgl h
  go_enter Try.func3, Try.ntmps3
  have bg := GBox.new w x m
  have hbx : Below w.heap.size w (w.alloc (.cells #[.slice x.A x.n x.c, .int .i64 m] 24)) := (Below.refl _ w).alloc (Nat.le_refl _) _
  replace hx := hx.below hbx
  replace hB := hB.trans (hbx.mono hB.size)
  clear hbx
  have eg0 := bg.c0
  have eg1 := bg.c1
  have hc := sizes_b x (w.alloc (.cells #[.slice x.A x.n x.c, .int .i64 m] 24)) hx
  rw [Vx.out] at hc
  go_wp2_with fail
  clear eg0 eg1
  generalize w.alloc (.cells #[.slice x.A x.n x.c, .int .i64 m] 24) = W1 at *
  refine hc.mono ?_
  rintro e v2 ⟨zz, rfl, hb⟩
  clear hc
  replace hx := hx.below hb
  replace bg := bg.below hb
  replace hB := hB.trans (hb.mono hB.size)
  clear hb
  by_cases hbig : 3000 < zz
  · have hb1 : decide (3000 < zz) = true := decide_eq_true hbig
    have eg0 := bg.c0
    have eg1 := bg.c1
    have hc := alive6_any v2
    go_wp2_with fail
    clear eg0 eg1
    refine hc.mono ?_
    rintro e v3 ⟨rfl, hb⟩
    clear hc
    replace hx := hx.below hb
    replace bg := bg.below hb
    replace hB := hB.trans (hb.mono hB.size)
    clear hb
    have eg0 := bg.c0
    have eg1 := bg.c1
    go_wp2
    go_ret
    exact ⟨rfl, hB⟩
  have hb1 : decide (3000 < zz) = false := decide_eq_false hbig
  clear hbig
  cases B
  · have E1 := Lib.hid (turned_err_bad hB0)
    have E2 := Lib.hid (turned_bad hB0)
    have HC := Lib.hid hB0
    clear hB0
    have eg0 := bg.c0
    have eg1 := bg.c1
    have hc := gturnedC x m v2 hx hm1 hm2
    rw [Vx.out, E1.out, E2.out] at hc
    go_wp2_with fail
    clear eg0 eg1
    refine hc.mono ?_
    rintro e v3 ⟨A1, n1, c1, rfl, t, ht, hq, hb⟩
    clear hc
    replace hx := hx.below hb
    replace bg := bg.below hb
    replace hB := hB.trans (hb.mono hB.size)
    clear hb
    clear ht hq
    have eg0 := bg.c0
    have eg1 := bg.c1
    have hc := alive6_any v3
    go_wp2_with fail
    clear eg0 eg1
    refine hc.mono ?_
    rintro e v4 ⟨rfl, hb⟩
    clear hc
    replace hx := hx.below hb
    replace bg := bg.below hb
    replace hB := hB.trans (hb.mono hB.size)
    clear hb
    have eg0 := bg.c0
    have eg1 := bg.c1
    have hc := gcheckC x m v4 hx hm1 hm2
    rw [Vx.out, HC.out] at hc
    go_wp2_with fail
    clear eg0 eg1
    refine hc.mono ?_
    rintro e v5 ⟨rfl, hb⟩
    clear hc
    replace hx := hx.below hb
    replace bg := bg.below hb
    replace hB := hB.trans (hb.mono hB.size)
    clear hb
    have eg0 := bg.c0
    have eg1 := bg.c1
    go_wp2
    go_ret
    exact ⟨rfl, hB⟩
  · obtain ⟨q1, q2, q3, _⟩ := checkG_iff.1 hB0
    rw [HGL.out] at q3
    obtain ⟨M, rfl⟩ : ∃ M : Nat, m = M := ⟨m.toNat, by omega⟩
    have HC := Lib.hid hB0
    have E1 := Lib.hid (turned_err hB0)
    have E2 := Lib.hid (turned_ans hB0)
    have hM8 : M ≤ 8 := by omega
    have hct := turnedG_check hB0
    have R1 := Lib.hid (turned_err hct)
    have R2 := Lib.hid ((turned_ans hct).trans (turnedG_twice hB0))
    clear hB0 q1 q2 hct hm1 hm2
    have eg0 := bg.c0
    have eg1 := bg.c1
    have hc := gturnedC x M v2 hx (by omega) (by omega)
    rw [Vx.out, E1.out, E2.out] at hc
    go_wp2_with fail
    clear eg0 eg1
    refine hc.mono ?_
    rintro e v3 ⟨A1, n1, c1, rfl, t, ht, hq, hb⟩
    clear hc
    replace hx := hx.below hb
    replace bg := bg.below hb
    replace hB := hB.trans (hb.mono hB.size)
    clear hb
    have hn1 : n1 = M := by rw [outs_zs ht hq, turnedG_len]
    subst hn1
    have HQ := Lib.hid hq
    clear hq
    have hne : ((n1 : Int) != (n1 : Int)) = false := by simp
    have R3 : Hid (errG (Gr.g ⟨A1, n1, c1, t⟩) (x.n : Int) = 0) := Lib.hid (by rw [show Gr.g ⟨A1, n1, c1, t⟩ = turnedG x.g n1 from HQ.out, ← HGL.out]; exact R1.out)
    have R4 : Hid (turnedE (Gr.g ⟨A1, n1, c1, t⟩) (x.n : Int) = x.g) := Lib.hid (by rw [show Gr.g ⟨A1, n1, c1, t⟩ = turnedG x.g n1 from HQ.out, ← HGL.out]; exact R2.out)
    clear R1 R2
    have eg0 := bg.c0
    have eg1 := bg.c1
    have hc := gturnedC ⟨A1, n1, c1, t⟩ (x.n : Int) v3 ht.gr (by omega) (by omega)
    rw [R3.out, R4.out] at hc
    go_wp2_with fail
    clear eg0 eg1
    refine hc.mono ?_
    rintro e v4 ⟨A2, n2, c2, rfl, t2, ht2, hq2, hb⟩
    clear hc
    replace hx := hx.below hb
    replace ht := ht.below hb
    replace bg := bg.below hb
    replace hB := hB.trans (hb.mono hB.size)
    clear hb
    have HQ2 := Lib.hid hq2
    clear hq2
    have eg0 := bg.c0
    have eg1 := bg.c1
    have hc := sameintlists_b ⟨A2, n2, c2, t2⟩ x v4 ht2.gr hx
    rw [Vx.out, show (Gr.g ⟨A2, n2, c2, t2⟩ == x.g) = true by rw [show Gr.g ⟨A2, n2, c2, t2⟩ = x.g from HQ2.out]; simp] at hc
    go_wp2_with fail
    clear eg0 eg1
    refine hc.mono ?_
    rintro e v5 ⟨rfl, hb⟩
    clear hc
    replace hx := hx.below hb
    replace ht := ht.below hb
    replace ht2 := ht2.below hb
    replace bg := bg.below hb
    replace hB := hB.trans (hb.mono hB.size)
    clear hb
    have eg0 := bg.c0
    have eg1 := bg.c1
    go_wp2_with fail
    clear eg0 eg1
    go_loopw [7] (fun v wr => ∃ (i : Nat), i ≤ x.n ∧ v = .int .i64 i ∧ Below v5.heap.size v5 wr) (fun v _ => x.n - (intOf v).toNat)
    case atStart => exact ⟨0, Nat.zero_le _, rfl, Below.refl _ _⟩
    case round =>
      obtain ⟨i, hi, rfl, hbel⟩ := hrel
      obtain ⟨wo, rfl⟩ : ∃ wo, wo = wr := ⟨_, rfl⟩
      have hgo := bg.below hbel
      have eg0 := hgo.c0
      have eg1 := hgo.c1
      by_cases hin : i < x.n
      · have hxo := hx.below hbel
        have hto := ht.below hbel
        go_wp2_with fail
        clear eg0 eg1
        go_loopw [8] (fun v wr => ∃ (j : Nat), j ≤ n1 ∧ v = .int .i64 j ∧ Below wo.heap.size wo wr) (fun v _ => n1 - (intOf v).toNat)
        case atStart => exact ⟨0, Nat.zero_le _, rfl, Below.refl _ _⟩
        case round =>
          obtain ⟨j, hj, rfl, hbj⟩ := hrel
          have hgr := hgo.below hbj
          have eg0 := hgr.c0
          have eg1 := hgr.c1
          by_cases hjn : j < n1
          · have hin' : (i : Int) < x.n := by omega
            have hjn' : (j : Int) < n1 := by omega
            obtain ⟨p, q, u, hA, hu, hg, hp, hcl, hk⟩ := (hxo.below hbj).get hin
            obtain ⟨p2, q2, y, rfl, hy, hp2, hcy, hky⟩ := (hto.below hbj).lss.get hjn
            have hcu : wr.cell? ⟨p, q + i, none⟩ = some (.slice u.A u.n u.c) := hcl
            have hcy2 : wr.cell? ⟨p2, q2 + j, none⟩ = some (.slice y.A y.n y.c) := hcy
            have hyz : rowT x.g j = y.zs := by
              have h5 := all_get HQ.out hy
              rw [turnedG_get? hjn] at h5
              exact Option.some.inj h5
            obtain ⟨β, hβ⟩ : ∃ β, decide ((j : Int) ∈ u.zs) = β := ⟨_, rfl⟩
            have hβ2 : decide ((i : Int) ∈ y.zs) = β := by
              rw [← hβ, ← hyz, decide_eq_decide, mem_rowT, hg]
              exact ⟨fun h => h.2, fun h => ⟨by rw [HGL.out]; exact hin, h⟩⟩
            have hh := lhas_any u.A u.n u.c u.zs (j : Int) wr.drew hk.rd.drew (Nat.le_trans hk.cap hk.top)
            have hh2 := lhas_any y.A y.n y.c y.zs (i : Int) wr.drew hky.rd.drew (Nat.le_trans hky.cap hky.top)
            rw [hβ] at hh
            rw [hβ2] at hh2
            rw [hA] at eg0
            have hbb : (β != β) = false := by simp
            clear hu hg hcl hk hy hcy hky hyz hβ hβ2 hA
            go_wp2_with fail
            refine wp_region_ord (S := fun w' => w'.cell? ⟨w.heap.size, 0, none⟩ = some (.slice (some ⟨p, q, none⟩) x.n x.c) ∧ w'.cell? ⟨p, q + i, none⟩ = some (.slice u.A u.n u.c) ∧ w'.cell? ⟨p2, q2 + j, none⟩ = some (.slice y.A y.n y.c)) [(0, true), (1, true), (2, true), (3, true), (4, true), (5, true), (7, true), (8, true), (9, true), (10, true), (11, true), (6, false), (12, false), (13, true)] default (by kernel_rfl) (by kernel_rfl) (by kernel_rfl) ⟨eg0, hcu, hcy2⟩ ?_
            simp only [getOrd, nth]
            repeat (first | (refine ordS (by rfl) ?_; simp only [Act.put, List.setIfInBounds_toArray, List.set_cons_zero, List.set_cons_succ]) | (refine ordN (by rfl) ?_; simp only [Act.put, List.setIfInBounds_toArray, List.set_cons_zero, List.set_cons_succ]) | (refine ordQ (v := ?_) (by rfl) (fun _ hSw => ?_) ?_; rotate_left; (focus ((have hS1 := hSw.1); (have hS2 := hSw.2.1); (have hS3 := hSw.2.2); clear hSw; go_simp; (first | done | with_reducible rfl))); simp only [Act.put, List.setIfInBounds_toArray, List.set_cons_zero, List.set_cons_succ]))
            refine ordD (by rfl) ?_
            intro K hK
            go_simp
            refine hh.mono ?_
            rintro e w2 ⟨rfl, rfl⟩
            go_wp2_with fail
            refine hK _ _ ⟨eg0, hcu, hcy2⟩ ?_
            clear hK K hh
            try simp only [Act.put, List.setIfInBounds_toArray, List.set_cons_zero, List.set_cons_succ]
            repeat (first | (refine ordS (by rfl) ?_; simp only [Act.put, List.setIfInBounds_toArray, List.set_cons_zero, List.set_cons_succ]) | (refine ordN (by rfl) ?_; simp only [Act.put, List.setIfInBounds_toArray, List.set_cons_zero, List.set_cons_succ]) | (refine ordQ (v := ?_) (by rfl) (fun _ hSw => ?_) ?_; rotate_left; (focus ((have hS1 := hSw.1); (have hS2 := hSw.2.1); (have hS3 := hSw.2.2); clear hSw; go_simp; (first | done | with_reducible rfl))); simp only [Act.put, List.setIfInBounds_toArray, List.set_cons_zero, List.set_cons_succ]))
            refine ordD (by rfl) ?_
            intro K hK
            go_simp
            refine hh2.mono ?_
            rintro e w2 ⟨rfl, rfl⟩
            go_wp2_with fail
            refine hK _ _ ⟨eg0, hcu, hcy2⟩ ?_
            clear hK K hh2
            try simp only [Act.put, List.setIfInBounds_toArray, List.set_cons_zero, List.set_cons_succ]
            repeat (first | (refine ordS (by rfl) ?_; simp only [Act.put, List.setIfInBounds_toArray, List.set_cons_zero, List.set_cons_succ]) | (refine ordN (by rfl) ?_; simp only [Act.put, List.setIfInBounds_toArray, List.set_cons_zero, List.set_cons_succ]) | (refine ordQ (v := ?_) (by rfl) (fun _ hSw => ?_) ?_; rotate_left; (focus ((have hS1 := hSw.1); (have hS2 := hSw.2.1); (have hS3 := hSw.2.2); clear hSw; go_simp; (first | done | with_reducible rfl))); simp only [Act.put, List.setIfInBounds_toArray, List.set_cons_zero, List.set_cons_succ]))
            refine ordE ?_
            have hbd := hbj.drew
            clear eg0 eg1
            go_wp2
            go_roundw
            case rel => exact ⟨j + 1, by omega, by go_num, hbd⟩
            case measure => simp [intOf]; omega
          · obtain rfl : j = n1 := by omega
            have hb2 := hbel.trans (hbj.mono hbel.size)
            go_wp2
            go_roundw
            case rel => exact ⟨i + 1, by omega, by go_num, hb2⟩
            case measure => simp [intOf]; omega
      · obtain rfl : i = x.n := by omega
        clear hgo
        have hal := alive6_any wo
        go_wp2_with fail
        refine hal.mono ?_
        rintro e w9 ⟨rfl, hb⟩
        have hB9 := hB.trans ((hbel.trans (hb.mono hbel.size)).mono hB.size)
        go_wp2
        go_ret
        exact ⟨rfl, hB9⟩

theorem own : ownKnob Try.prog.godebug = none := by kernel_rfl
theorem laidOut : laidOutB Try.prog = true := by kernel_rfl

set_option maxRecDepth 100000 in
theorem lifted (os : Os) (started : os.Started) (H : Type) (enc : TypeId × Value → H) :
    ReturnsInHanded {} Try.checked os 3 .any (Rows.graphsTurnedSpec.pre6 enc Try.prog Try.f3 Rows.graphsTurnedRow.domain false) (Rows.graphsTurnedSpec.post enc Try.prog Try.f3 false true false false) := by
  refine returnsInHanded_of_change (C := Try.checked) own started (by kernel_rfl) Try.func3
    (ChangeSpec.witness6 (enc := enc) (C := Try.checked) false ⟨#[], #[.agg #[.slice none 0 0, .int .i64 0]], []⟩ 8 (by kernel_rfl) (by kernel_rfl) (by kernel_rfl) (by kernel_rfl)) ?_
  intro W base args ds gs before hval0 hW hcnd _
  have hval : ∀ (j : Nat) t v, Try.f3.params[j]? = some t → args[j]? = some v → Value.okWide Try.prog W .any base t v := hval0
  have hW' := hW
  obtain ⟨p, q, hA0, hV, rfl, hfz, hnd⟩ := hW
  have hA : DataW.TrodAll enc Try.prog W 0 (fun _ => true) true Try.f3.params.toList args.toList ds p := hA0
  rw [Try.params3] at hA hval
  obtain ⟨v0, vs0, d0, ds0, p0, q0, hargs, rfl, rfl, h0, r0⟩ := trodAll_cons hA
  obtain ⟨rfl, rfl, rfl⟩ := trodAll_nil r0
  obtain rfl : args = #[v0] := by cases args; simp_all
  obtain ⟨u0, m0, rfl, k0, a0, b0⟩ := arg_gr Try.underlying24 (by kernel_rfl) (by kernel_rfl) Try.underlying22 Try.underlying3 Try.underlying33 (by kernel_rfl) Try.underlying3 (by kernel_rfl) (hval 0 24 v0 rfl rfl) h0
  have hwalk : Calls Try.prog 3 #[.agg #[u0.v, .int .i64 m0]] W fun e w' => e = .returned (.bool true) ∧ Below W.heap.size W w' := walk u0 m0 W k0 a0 b0
  refine hwalk.mono fun e W' ⟨he, hg⟩ => ?_
  subst he
  exact ⟨_, rfl, law_post laidOut (by kernel_rfl) hW' rfl rfl (by kernel_rfl) Try.underlying4 hg⟩

theorem over : Rows.graphsTurnedRow.holds Try.pinned (OpenSpec.ofChange Rows.graphsTurnedSpec) :=
  OpenClaim.holds_of_wide 3 Try.f3 rfl rfl rfl rfl rfl rfl rfl ⟨rfl, rfl, rfl, rfl, rfl⟩ rfl rfl rfl rfl rfl (by kernel_rfl) Try.func3 (by kernel_rfl)
    (of_decide_eq_true (by kernel_rfl)) (by unfold Func.isWrapper; first | (rw [if_pos (by decide +kernel)]; kernel_rfl) | (rw [if_neg (by decide +kernel)]; exact ⟨rfl, rfl⟩))
    (fun os started H enc _ => lifted os started H enc)

theorem proved : Rows.GraphsTurnedSaid :=
  over

end Go.Proofs.Ytllnpghpbhikmaa.graphsTurned
