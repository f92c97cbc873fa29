/-
  Proved: salesroomlaw08.MatchingsAhead answers true, for any lists, any items, any number of how many go, in whatever memory. No conditions.
-/
import Derived.Test.YtcjfgkihmhdhlaaRows
import Derived.Test.YtcjfgkihmhdhlaaLift
import Derived.Test.YtcjfgkihmhdhlaaAlive8
import Derived.Test.YtcjfgkihmhdhlaaGrM
import Derived.Test.YtcjfgkihmhdhlaaMaP
import Derived.Test.YtcjfgkihmhdhlaaReg
namespace Go.Proofs.Ytcjfgkihmhdhlaa.matchingsAhead
open Go.ChangeShapes Go.WideShapes Go.ChangeAt Go.RowKit
set_option linter.unusedVariables false


set_option maxRecDepth 100000 in
set_option maxHeartbeats 4000000 in
theorem walk (x : Gr) (m : Int) (y : Nat) (w : World) (h : x.Ok w) (hm1 : -9223372036854775808 ≤ m) (hm2 : m ≤ 9223372036854775807) (hy : y < 256) :
    Calls Try.prog 6 #[.agg #[x.v, .int .i64 m], .int .u8 y] w fun e w' => e = .returned (.bool true) ∧ Below w.heap.size w w' := by
  have hx := h
  have hB := Below.refl w.heap.size w
  have hxv : x.v = .slice x.A x.n x.c := rfl
  have Vx := Lib.hid hxv
  rw [hxv]
  have hgl := h.glen
  have HGL := Lib.hid hgl
  have htop := Nat.le_trans h.cap h.top
  unfold maxLen at htop
  obtain ⟨B, hB0⟩ : ∃ B, checkG x.g m = B := ⟨_, rfl⟩
  clear hxv hgl h
  go_enter Try.func6, Try.ntmps6
  have bg := GBox.new w x m
  have hbx : Below w.heap.size w (w.alloc (.cells #[.slice x.A x.n x.c, .int .i64 m] 24)) := (Below.refl _ w).alloc (Nat.le_refl _) _
  replace hx := hx.below hbx
  replace hB := hB.trans (hbx.mono hB.size)
  clear hbx
  cases B
  · obtain ⟨e1, e2⟩ := most_bad hB0
    have E1 := Lib.hid e1
    have E2 := Lib.hid e2
    have HC := Lib.hid hB0
    clear e1 e2 hB0
    have eg0 := bg.c0
    have eg1 := bg.c1
    have hc := pmostC x m (w.alloc (.cells #[.slice x.A x.n x.c, .int .i64 m] 24)) hx hm1 hm2
    rw [Vx.out, E1.out, E2.out] at hc
    go_wp2_with fail
    clear eg0 eg1
    generalize w.alloc (.cells #[.slice x.A x.n x.c, .int .i64 m] 24) = W1 at *
    refine hc.mono ?_
    rintro e v2 ⟨A2, n2, c2, rfl, h2, hb⟩
    clear hc
    replace hx := hx.below hb
    replace bg := bg.below hb
    replace hB := hB.trans (hb.mono hB.size)
    clear hb
    clear h2
    have eg0 := bg.c0
    have eg1 := bg.c1
    have hc := alive8_any v2
    go_wp2_with fail
    clear eg0 eg1
    refine hc.mono ?_
    rintro e v3 ⟨rfl, hb⟩
    clear hc
    replace hx := hx.below hb
    replace bg := bg.below hb
    replace hB := hB.trans (hb.mono hB.size)
    clear hb
    have eg0 := bg.c0
    have eg1 := bg.c1
    go_wp2
    go_ret
    exact ⟨rfl, hB⟩
  · obtain ⟨M, rfl⟩ : ∃ M : Nat, m = M := ⟨m.toNat, by have := (checkG_iff.1 hB0).1; omega⟩
    obtain ⟨e1, e2⟩ := most_ok hB0
    have E1 := Lib.hid e1
    have E2 := Lib.hid e2
    have HC := Lib.hid hB0
    have hM8 : M ≤ 8 := by have := (checkG_iff.1 HC.out).2.1; omega
    have hx8 : x.n ≤ 8 := by have := (checkG_iff.1 HC.out).2.2.1; rw [HGL.out] at this; exact this
    clear e1 e2 hB0 hm1 hm2
    have hll : (mostP x.g M).length = x.n := by rw [most_len HC.out, HGL.out]
    obtain ⟨k, hk⟩ : ∃ k : Nat, y % (x.n + 1) = k := ⟨_, rfl⟩
    have hkn : k ≤ x.n := by rw [← hk]; have := Nat.mod_lt y (show 0 < x.n + 1 by omega); omega
    have hct := check_take HC.out k
    have hlt : (x.g.take k).length = k := by rw [List.length_take, HGL.out]; omega
    have hsup : ∀ i, i < k → ((mostP (x.g.take k) M).getD i (-1) = -1 ↔ (mostP x.g M).getD i (-1) = -1) := fun i hi => by
      have h1 := most_sup HC.out (n := k) (x.n - k) (by rw [HGL.out]; omega) i hi
      rw [show k + (x.n - k) = x.g.length by rw [HGL.out]; omega] at h1
      rw [show mostP x.g M = mostN x.g M x.g.length from rfl, h1, most_take HC.out (by rw [HGL.out]; exact hkn) k (Nat.le_refl _)]
      have h2 : (mostP (x.g.take k) M) = mostN (x.g.take k) M k := by rw [mostP, hlt]
      rw [h2, List.getD_eq_getElem?_getD, List.getD_eq_getElem?_getD, List.getElem?_append_left (by rw [← h2, most_len hct, hlt]; exact hi)]
    obtain ⟨e3, e4⟩ := most_ok hct
    have hl2 : (mostP (x.g.take k) M).length = k := by rw [most_len hct, hlt]
    have htk : Ls.all (x.t.take k) = x.g.take k := by simp [Ls.all, Gr.g]
    have HTK := Lib.hid htk
    have E3 := Lib.hid e3
    have E4 := Lib.hid e4
    generalize mostP (x.g.take k) M = l2 at *
    generalize mostP x.g M = l at *
    have HLL := Lib.hid hll
    have HL2 := Lib.hid hl2
    have HSUP := Lib.hid hsup
    have s1 : IntKind.i64.wrap ((x.n : Int) + 1) = (x.n : Int) + 1 := by rw [IntKind.wrap_i64]; omega
    have s2 : ((y : Int)).tmod ((x.n : Int) + 1) = (k : Int) := by
      rw [Int.tmod_eq_emod_of_nonneg (by omega), ← hk]
      simp
    clear hll hl2 hsup hct hlt e3 e4 htk hk
    have eg0 := bg.c0
    have eg1 := bg.c1
    have hc := pmostC x M (w.alloc (.cells #[.slice x.A x.n x.c, .int .i64 (M : Int)] 24)) hx (by omega) (by omega)
    rw [Vx.out, E1.out, E2.out] at hc
    go_wp2_with fail
    clear eg0 eg1
    generalize w.alloc (.cells #[.slice x.A x.n x.c, .int .i64 (M : Int)] 24) = W1 at *
    refine hc.mono ?_
    rintro e v2 ⟨A2, n2, c2, rfl, h2, hb⟩
    clear hc
    replace hx := hx.below hb
    replace bg := bg.below hb
    replace hB := hB.trans (hb.mono hB.size)
    clear hb
    obtain rfl : n2 = x.n := by have := h2.len; rw [← HLL.out]; exact this.symm
    have hkc : k ≤ x.c := Nat.le_trans hkn hx.cap
    have htop2 := hx.top
    unfold maxLen at htop2
    have k0 : (0 : Int) ≤ (k : Int) := by omega
    have k1 : (k : Int) ≤ (x.c : Int) := by omega
    have eg0 := bg.c0
    have eg1 := bg.c1
    have hS : ∀ w', Below v2.heap.size v2 w' → w'.cell? ⟨w.heap.size, 0, none⟩ = some (.slice x.A x.n x.c) ∧ w'.cell? ⟨w.heap.size, 1, none⟩ = some (.int .i64 (M : Int)) := fun w' hb => ⟨(bg.below hb).c0, (bg.below hb).c1⟩
    go_wp2_with fail
    refine wp_region_ord (S := fun w' => w'.cell? ⟨w.heap.size, 0, none⟩ = some (.slice x.A x.n x.c) ∧ w'.cell? ⟨w.heap.size, 1, none⟩ = some (.int .i64 (M : Int))) [(0, true), (1, true), (2, true), (3, true), (4, true), (5, true), (6, false), (7, true), (8, true), (9, true), (10, true), (11, true)] default (by kernel_rfl) (by kernel_rfl) (by kernel_rfl) (hS _ ((Below.refl _ v2).drew)) ?_
    simp only [getOrd, nth]
    obtain ⟨q1_0, hu0⟩ : ∃ q1_0, q1_0 = v2.drew := ⟨_, rfl⟩
    have b0 : Below v2.heap.size v2 q1_0 := by rw [hu0]; exact ((Below.refl _ v2).drew)
    rw [← hu0]
    clear hu0
    repeat (first | (refine ordS (by rfl) ?_; simp only [Act.put, List.setIfInBounds_toArray, List.set_cons_zero, List.set_cons_succ]) | (refine ordN (by rfl) ?_; simp only [Act.put, List.setIfInBounds_toArray, List.set_cons_zero, List.set_cons_succ]) | (refine ordQ (v := ?_) (by rfl) (fun _ hSw => ?_) ?_; rotate_left; (focus ((have hS1 := hSw.1); (have hS2 := hSw.2); clear hSw; go_simp; (first | done | with_reducible rfl))); simp only [Act.put, List.setIfInBounds_toArray, List.set_cons_zero, List.set_cons_succ]))
    refine ordD (by rfl) ?_
    intro K hK
    go_simp
    have hc := pmostC ⟨x.A, k, x.c, x.t.take k⟩ M q1_0 (gr_take (hx.below b0) hkn) (by omega) (by omega)
    rw [show Gr.v ⟨x.A, k, x.c, x.t.take k⟩ = .slice x.A k x.c from rfl, gr_take_g, E3.out, E4.out] at hc
    refine hc.mono ?_
    rintro e q1_1 ⟨A3, n3, c3, rfl, h3, hb⟩
    have b1 : Below v2.heap.size v2 q1_1 := b0.trans (hb.mono b0.size)
    obtain rfl : n3 = k := by have := h3.len; rw [← HL2.out]; exact this.symm
    have hl3 := h3
    go_wp2_with fail
    refine hK _ _ (hS _ b1) ?_
    clear hK K hc hb
    try simp only [Act.put, List.setIfInBounds_toArray, List.set_cons_zero, List.set_cons_succ]
    repeat (first | (refine ordS (by rfl) ?_; simp only [Act.put, List.setIfInBounds_toArray, List.set_cons_zero, List.set_cons_succ]) | (refine ordN (by rfl) ?_; simp only [Act.put, List.setIfInBounds_toArray, List.set_cons_zero, List.set_cons_succ]) | (refine ordQ (v := ?_) (by rfl) (fun _ hSw => ?_) ?_; rotate_left; (focus ((have hS1 := hSw.1); (have hS2 := hSw.2); clear hSw; go_simp; (first | done | with_reducible rfl))); simp only [Act.put, List.setIfInBounds_toArray, List.set_cons_zero, List.set_cons_succ]))
    refine ordE ?_
    replace hx := hx.below b1
    replace h2 := h2.below b1
    replace bg := bg.below b1
    replace hB := hB.trans (b1.mono hB.size)
    clear hS b0 b1
    go_wp2_with fail
    go_loopw [10] (fun v wr => ∃ j : Nat, j ≤ n3 ∧ v = .int .i64 j ∧ Below q1_1.heap.size q1_1 wr) (fun v _ => n3 - (intOf v).toNat)
    case atStart => exact ⟨0, Nat.zero_le _, rfl, Below.refl _ _⟩
    case round =>
      obtain ⟨j, hj, rfl, hbel⟩ := hrel
      have hBr := hB.trans (hbel.mono hB.size)
      by_cases hjn : j < n3
      · have hjn' : (j : Int) < n3 := by omega
        have hjx : j < x.n := by omega
        have hjx' : (j : Int) < x.n := by omega
        have hjl : j < l.length := by rw [HLL.out]; exact hjx
        have hjl2 : j < l2.length := by rw [HL2.out]; exact hjn
        obtain ⟨p1, q1, hA1, hp1, y0, hy0, hcy⟩ := (h3.below hbel).own.rd.get hjn
        obtain ⟨p2, q2, hA2, hp2, y1, hy1, hcy1⟩ := (h2.below hbel).own.rd.get hjx
        simp only at hA1 hA2
        subst hA1 hA2
        rw [ci64_get _ _ hjl2] at hy0
        rw [ci64_get _ _ hjl] at hy1
        obtain rfl : iV l2[j] = y0 := Option.some.inj hy0
        obtain rfl : iV l[j] = y1 := Option.some.inj hy1
        unfold iV at hcy hcy1
        have hw := HSUP.out j hjn
        rw [List.getD_eq_getElem?_getD, List.getElem?_eq_getElem hjl2, List.getD_eq_getElem?_getD, List.getElem?_eq_getElem hjl] at hw
        have hw : l2[j] = -1 ↔ l[j] = -1 := hw
        obtain ⟨a, ha⟩ : ∃ a, l2[j] = a := ⟨_, rfl⟩
        obtain ⟨d, hd⟩ : ∃ c, l[j] = c := ⟨_, rfl⟩
        rw [ha] at hcy hw
        rw [hd] at hcy1 hw
        obtain ⟨β, hβ⟩ : ∃ β, (a == -1) = β := ⟨_, rfl⟩
        have k3 : (d == -1) = β := by rw [← hβ, Bool.eq_iff_iff, beq_iff_eq, beq_iff_eq]; exact hw.symm
        have k2 := hβ
        have k4 : (β != β) = false := by simp
        clear hy0 hy1 ha hd hw hβ
        have hB := hBr
        have hS : ∀ w', Below wr.heap.size wr w' → w'.cell? ⟨p1, q1 + j, none⟩ = some (.int .i64 a) ∧ w'.cell? ⟨p2, q2 + j, none⟩ = some (.int .i64 d) := fun w' hb => ⟨(hb.cell (p := ⟨p1, q1 + j, none⟩) hp1).trans hcy, (hb.cell (p := ⟨p2, q2 + j, none⟩) hp2).trans hcy1⟩
        go_wp2_with fail
        refine wp_region_ord (S := fun w' => w'.cell? ⟨p1, q1 + j, none⟩ = some (.int .i64 a) ∧ w'.cell? ⟨p2, q2 + j, none⟩ = some (.int .i64 d)) [(0, true), (1, true), (2, true), (3, true), (4, true), (5, true), (6, true), (7, true), (8, true), (9, true), (10, true)] default (by kernel_rfl) (by kernel_rfl) (by kernel_rfl) (hS _ ((Below.refl _ wr).drew)) ?_
        simp only [getOrd, nth]
        obtain ⟨q2_0, hu0⟩ : ∃ q2_0, q2_0 = wr.drew := ⟨_, rfl⟩
        have b0 : Below wr.heap.size wr q2_0 := by rw [hu0]; exact ((Below.refl _ wr).drew)
        rw [← hu0]
        clear hu0
        repeat (first | (refine ordS (by rfl) ?_; simp only [Act.put, List.setIfInBounds_toArray, List.set_cons_zero, List.set_cons_succ]) | (refine ordN (by rfl) ?_; simp only [Act.put, List.setIfInBounds_toArray, List.set_cons_zero, List.set_cons_succ]) | (refine ordQ (v := ?_) (by rfl) (fun _ hSw => ?_) ?_; rotate_left; (focus ((have hS1 := hSw.1); (have hS2 := hSw.2); clear hSw; go_simp; (first | done | with_reducible rfl))); simp only [Act.put, List.setIfInBounds_toArray, List.set_cons_zero, List.set_cons_succ]))
        have bR := b0
        refine ordE ?_
        replace hB := hB.trans (b0.mono hB.size)
        clear hS b0
        go_wp2
        go_roundw
        case rel => exact ⟨j + 1, by omega, by go_num, hbel.trans (bR.mono hbel.size)⟩
        case measure => simp [intOf]; omega
      · obtain rfl : j = n3 := by omega
        have hal := alive8_any wr
        go_wp2_with fail
        refine hal.mono ?_
        rintro e w9 ⟨rfl, hb⟩
        have hB9 := hBr.trans (hb.mono hBr.size)
        go_wp2
        go_ret
        exact ⟨rfl, hB9⟩

theorem own : ownKnob Try.prog.godebug = none := by kernel_rfl
theorem laidOut : laidOutB Try.prog = true := by kernel_rfl

set_option maxRecDepth 100000 in
theorem lifted (os : Os) (started : os.Started) (H : Type) (enc : TypeId × Value → H) :
    ReturnsInHanded {} Try.checked os 6 .any (Rows.matchingsAheadSpec.pre6 enc Try.prog Try.f6 Rows.matchingsAheadRow.domain false) (Rows.matchingsAheadSpec.post enc Try.prog Try.f6 false true false false) := by
  refine returnsInHanded_of_change (C := Try.checked) own started (by kernel_rfl) Try.func6
    (ChangeSpec.witness6 (enc := enc) (C := Try.checked) false ⟨#[], #[.agg #[.slice none 0 0, .int .i64 0], .int .u8 0], []⟩ 8 (by kernel_rfl) (by kernel_rfl) (by kernel_rfl) (by kernel_rfl)) ?_
  intro W base args ds gs before hval0 hW hcnd _
  have hval : ∀ (j : Nat) t v, Try.f6.params[j]? = some t → args[j]? = some v → Value.okWide Try.prog W .any base t v := hval0
  have hW' := hW
  obtain ⟨p, q, hA0, hV, rfl, hfz, hnd⟩ := hW
  have hA : DataW.TrodAll enc Try.prog W 0 (fun _ => true) true Try.f6.params.toList args.toList ds p := hA0
  rw [Try.params6] at hA hval
  obtain ⟨v0, vs0, d0, ds0, p0, q0, hargs, rfl, rfl, h0, r0⟩ := trodAll_cons hA
  obtain ⟨v1, vs1, d1, ds1, p1, q1, rfl, rfl, rfl, h1, r1⟩ := trodAll_cons r0
  obtain ⟨rfl, rfl, rfl⟩ := trodAll_nil r1
  obtain rfl : args = #[v0, v1] := by cases args; simp_all
  obtain ⟨u0, m0, rfl, k0, a0, b0⟩ := arg_gr Try.underlying24 (by kernel_rfl) (by kernel_rfl) Try.underlying22 Try.underlying3 Try.underlying25 (by kernel_rfl) Try.underlying3 (by kernel_rfl) (hval 0 24 v0 rfl rfl) h0
  obtain ⟨x1, rfl, rfl, rfl, w1⟩ := open_int Try.underlying5 (hval 1 5 v1 rfl rfl) h1
  obtain ⟨y1, rfl, z1⟩ := fit_u8 w1
  have hwalk : Calls Try.prog 6 #[.agg #[u0.v, .int .i64 m0], .int .u8 y1] W fun e w' => e = .returned (.bool true) ∧ Below W.heap.size W w' := walk u0 m0 y1 W k0 a0 b0 z1
  refine hwalk.mono fun e W' ⟨he, hg⟩ => ?_
  subst he
  exact ⟨_, rfl, law_post laidOut (by kernel_rfl) hW' rfl rfl (by kernel_rfl) Try.underlying4 hg⟩

theorem over : Rows.matchingsAheadRow.holds Try.pinned (OpenSpec.ofChange Rows.matchingsAheadSpec) :=
  OpenClaim.holds_of_wide 6 Try.f6 rfl rfl rfl rfl rfl rfl rfl ⟨rfl, rfl, rfl, rfl, rfl⟩ rfl rfl rfl rfl rfl (by kernel_rfl) Try.func6 (by kernel_rfl)
    (of_decide_eq_true (by kernel_rfl)) (by unfold Func.isWrapper; first | (rw [if_pos (by decide +kernel)]; kernel_rfl) | (rw [if_neg (by decide +kernel)]; exact ⟨rfl, rfl⟩))
    (fun os started H enc _ => lifted os started H enc)

theorem proved : Rows.MatchingsAheadSaid :=
  over

end Go.Proofs.Ytcjfgkihmhdhlaa.matchingsAhead
