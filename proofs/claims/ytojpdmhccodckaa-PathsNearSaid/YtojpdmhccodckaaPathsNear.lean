/-
  Proved: salesroomlaw07.PathsNear answers true, for any lists, any items, any matching and any number of a bidder, in whatever memory. No conditions.
-/
import Derived.Test.YtojpdmhccodckaaRows
import Derived.Test.YtojpdmhccodckaaLift
import Derived.Test.YtojpdmhccodckaaAlive7
import Derived.Test.YtojpdmhccodckaaPaH
import Derived.Test.YtojpdmhccodckaaReg
namespace Go.Proofs.Ytojpdmhccodckaa.pathsNear
open Go.ChangeShapes Go.WideShapes Go.ChangeAt Go.RowKit
set_option linter.unusedVariables false

theorem info6_int : (Try.prog.info? 3).map (fun i => (i.zero, i.size, i.bytes)) = some (some (.int .i64 0), 1, 8) := by kernel_rfl
/-- The first of these that is not among those. -/
def First (l zs : List Int) (L : Int) : Prop := (L = -1 ∧ ∀ y ∈ l, y ∈ zs) ∨ ∃ l1 l2, l = l1 ++ L :: l2 ∧ (∀ y ∈ l1, y ∈ zs) ∧ L ∉ zs
theorem first_in {l zs : List Int} {L e : Int} (h : First l zs L) (he : e ∈ zs) : First (e :: l) zs L := by
  rcases h with ⟨h1, h2⟩ | ⟨l1, l2, h1, h2, h3⟩
  · refine .inl ⟨h1, fun y hy => ?_⟩
    rcases List.mem_cons.1 hy with rfl | hy
    · exact he
    · exact h2 y hy
  · refine .inr ⟨e :: l1, l2, by rw [h1]; rfl, fun y hy => ?_, h3⟩
    rcases List.mem_cons.1 hy with rfl | hy
    · exact he
    · exact h2 y hy
theorem first_out {l zs : List Int} {e : Int} (he : e ∉ zs) : First (e :: l) zs e := .inr ⟨[], l, rfl, by simp, he⟩

set_option maxRecDepth 100000 in
set_option maxHeartbeats 4000000 in
theorem walk (x : Gr) (m : Int) (A1 : Option Addr) (n1 c1 : Nat) (zs : List Int) (z : Int) (w : World) (h : x.Ok w) (hm1 : -9223372036854775808 ≤ m) (hm2 : m ≤ 9223372036854775807) (h1 : Ls.Ok w ⟨A1, n1, c1, zs⟩) (hz1 : -9223372036854775808 ≤ z) (hz2 : z ≤ 9223372036854775807) :
    Calls Try.prog 7 #[.agg #[x.v, .int .i64 m], .slice A1 n1 c1, .int .i64 z] w fun e w' => e = .returned (.bool true) ∧ Below w.heap.size w w' := by
  have hx := h
  have hB := Below.refl w.heap.size w
  have hxv : x.v = .slice x.A x.n x.c := rfl
  have Vx := Lib.hid hxv
  rw [hxv]
  have hgl := h.glen
  have HGL := Lib.hid hgl
  have htop := Nat.le_trans h.cap h.top
  unfold maxLen at htop
  obtain ⟨B, hB0⟩ : ∃ B, mayP x.g m zs z = B := ⟨_, rfl⟩
  clear hxv hgl h
  have HZL : Hid (zs.length = n1) := Lib.hid h1.len
  have h1c := Nat.le_trans h1.cap h1.top
  unfold maxLen at h1c
  go_enter Try.func7, Try.ntmps7
  have bg := GBox.new w x m
  have hbx : Below w.heap.size w (w.alloc (.cells #[.slice x.A x.n x.c, .int .i64 m] 24)) := (Below.refl _ w).alloc (Nat.le_refl _) _
  replace hx := hx.below hbx
  replace h1 := h1.below hbx
  replace hB := hB.trans (hbx.mono hB.size)
  clear hbx
  cases B
  · obtain ⟨e1, e2, e3, e4, e5⟩ := path_bad hB0
    have E1 := Lib.hid e1
    have E2 := Lib.hid e2
    have E3 := Lib.hid e3
    have E4 := Lib.hid e4
    have E5 := Lib.hid e5
    clear e1 e2 e3 e4 e5 hB0
    have eg0 := bg.c0
    have eg1 := bg.c1
    have hc := pmoreC x m ⟨A1, n1, c1, zs⟩ z (w.alloc (.cells #[.slice x.A x.n x.c, .int .i64 m] 24)) hx h1 hm1 hm2 hz1 hz2
    rw [Vx.out, E1.out, E2.out, E3.out] at hc
    go_wp2_with fail
    clear eg0 eg1
    generalize w.alloc (.cells #[.slice x.A x.n x.c, .int .i64 m] 24) = W1 at *
    refine hc.mono ?_
    rintro e v2 ⟨A2, n2, c2, rfl, h2, hb⟩
    clear hc
    replace hx := hx.below hb
    replace h1 := h1.below hb
    replace bg := bg.below hb
    replace hB := hB.trans (hb.mono hB.size)
    clear hb
    clear h2
    have eg0 := bg.c0
    have eg1 := bg.c1
    have hc := alive7_any v2
    go_wp2_with fail
    clear eg0 eg1
    refine hc.mono ?_
    rintro e v3 ⟨rfl, hb⟩
    clear hc
    replace hx := hx.below hb
    replace h1 := h1.below hb
    replace bg := bg.below hb
    replace hB := hB.trans (hb.mono hB.size)
    clear hb
    have eg0 := bg.c0
    have eg1 := bg.c1
    go_wp2
    go_ret
    exact ⟨rfl, hB⟩
  · obtain ⟨M, rfl, hM8, hg8, hzl, i, rfl, hif⟩ := may_nat hB0
    rw [HZL.out, HGL.out] at hzl
    subst hzl
    rw [HGL.out] at hif hg8
    obtain ⟨e1, e2, e3, e4, e5⟩ := path_ok hB0
    have E1 := Lib.hid e1
    have E2 := Lib.hid e2
    have E3 := Lib.hid e3
    have E4 := Lib.hid e4
    have E5 := Lib.hid e5
    have HMY := Lib.hid hB0
    clear e1 e2 e3 e4 e5 hB0 hm1 hm2 hz1 hz2
    have hnf := fun (l1 l2 : List Int) (k : Int) => near_first HMY.out (l1 := l1) (l2 := l2) (k := k)
    simp only [Int.toNat_natCast] at hnf
    have hri := (checkG_iff.1 (may_check HMY.out)).2.2.2 _ (getD_mem (g := x.g) (i := i) (by rw [HGL.out]; exact hif))
    obtain ⟨D, hD⟩ : ∃ D, foundP x.g M zs i = D := ⟨_, rfl⟩
    obtain ⟨l, hl⟩ : ∃ l, moreP x.g M zs i = l := ⟨_, rfl⟩
    rw [hD] at E2
    rw [hl] at E3
    simp only [hD, hl] at hnf
    have HNF := Lib.hid hnf
    have HRI := Lib.hid hri
    obtain ⟨i0, hi0', hy0, hy1, hy2⟩ := info_parts info6_int
    clear hnf hri hD hl
    have eg0 := bg.c0
    have eg1 := bg.c1
    have hc := pmoreC x M ⟨A1, x.n, c1, zs⟩ i (w.alloc (.cells #[.slice x.A x.n x.c, .int .i64 (M : Int)] 24)) hx h1 (by omega) (by omega) (by omega) (by omega)
    rw [Vx.out, E1.out, E2.out, E3.out] at hc
    go_wp2_with fail
    clear eg0 eg1
    generalize w.alloc (.cells #[.slice x.A x.n x.c, .int .i64 (M : Int)] 24) = W1 at *
    refine hc.mono ?_
    rintro e v2 ⟨A2, n2, c2, rfl, h2, hb⟩
    clear hc
    replace hx := hx.below hb
    replace h1 := h1.below hb
    replace bg := bg.below hb
    replace hB := hB.trans (hb.mono hB.size)
    clear hb
    have hif' : (i : Int) < x.n := by omega
    have hi0 : (0 : Int) ≤ i := by omega
    have g0 : decide ((i : Int) < 0) = false := decide_eq_false (by omega)
    have g1 : decide ((x.n : Int) ≤ (i : Int)) = false := decide_eq_false (by omega)
    have g1' : decide (x.n ≤ i) = false := decide_eq_false (by omega)
    have hne : ((x.n : Int) != (x.n : Int)) = false := by simp
    obtain ⟨p, q, u, hA, hu, hg, hp, hcl, hku⟩ := hx.get hif
    have hcu : v2.cell? ⟨p, q + i, none⟩ = some (.slice u.A u.n u.c) := hcl
    have hur := hku.rd
    have hul := hku.len
    have huc := Nat.le_trans hku.cap hku.top
    unfold maxLen at huc
    rw [← hg] at hur hul
    obtain ⟨uA, un, uc, uz⟩ := u
    simp only at hcu hur hul huc hg
    have HUL := Lib.hid hul
    have s0 : IntKind.i64.wrap ((un : Int) - 1) = (un : Int) - 1 := by rw [IntKind.wrap_i64]; omega
    have eg0 := bg.c0
    have eg1 := bg.c1
    rw [hA] at eg0
    have hblt := bg.lt
    clear hu hcl hku hg hul hA
    generalize x.g.getD i [] = r at *
    go_wp2_with fail
    go_loopw [10, 11] (fun o v wr => ∃ (k : Nat) (L : Int), k ≤ un ∧ v = .int .i64 ((k : Int) - 1) ∧ o = .int .i64 L ∧ Hid (First (r.drop k) zs L) ∧ Below v2.heap.size v2 wr) (fun _ v _ => (intOf v + 1).toNat)
    case atStart => exact ⟨un, -1, Nat.le_refl _, rfl, rfl, Lib.hid (.inl ⟨rfl, fun y hy => by rw [List.drop_of_length_le (by rw [HUL.out]; exact Nat.le_refl _)] at hy; simp at hy⟩), Below.refl _ _⟩
    case round =>
      obtain ⟨k, L, hk, rfl, rfl, hfst, hbel⟩ := hrel
      have f0 : wr.cell? ⟨w.heap.size, 0, none⟩ = some (.slice (some ⟨p, q, none⟩) x.n x.c) := (hbel.cell (p := ⟨w.heap.size, 0, none⟩) hblt).trans eg0
      have fu : wr.cell? ⟨p, q + i, none⟩ = some (.slice uA un uc) := (hbel.cell (p := ⟨p, q + i, none⟩) hp).trans hcu
      by_cases hk0 : 1 ≤ k
      · obtain ⟨j, rfl⟩ : ∃ j, k = j + 1 := ⟨k - 1, by omega⟩
        have hjk : (((j + 1 : Nat) : Int) - 1) = (j : Int) := by omega
        rw [hjk]
        have hju : j < un := by omega
        have hju' : (j : Int) < un := by omega
        have hj0 : (0 : Int) ≤ j := by omega
        have gj : decide ((0 : Int) ≤ (j : Int)) = true := decide_eq_true (by omega)
        have s1 : IntKind.i64.wrap ((j : Int) - 1) = (j : Int) - 1 := by rw [IntKind.wrap_i64]; omega
        have hjr : j < r.length := by rw [HUL.out]; exact hju
        obtain ⟨p1, q1, rfl, hp1, y0, hy0, hcy⟩ := hur.get hju
        rw [ci64_get _ _ hjr] at hy0
        obtain rfl : iV r[j] = y0 := Option.some.inj hy0
        unfold iV at hcy
        have hdr : r.drop j = r[j] :: r.drop (j + 1) := List.drop_eq_getElem_cons hjr
        obtain ⟨a, ha⟩ : ∃ a, r[j] = a := ⟨_, rfl⟩
        rw [ha] at hcy hdr
        have fa : wr.cell? ⟨p1, q1 + j, none⟩ = some (.int .i64 a) := (hbel.cell (p := ⟨p1, q1 + j, none⟩) hp1).trans hcy
        have hh := lhas7_any A1 x.n c1 zs a wr (h1.rd.below hbel) (by unfold maxLen; omega)
        clear hy0 ha hcy hjk
        by_cases hm : a ∈ zs
        · rw [show decide (a ∈ zs) = true from decide_eq_true hm] at hh
          have HN := Lib.hid (show First (r.drop j) zs L by rw [hdr]; exact first_in hfst.out hm)
          clear hm hdr hfst
          go_wp2_with fail
          refine hh.mono ?_
          rintro e w2 ⟨rfl, rfl⟩
          clear hh
          go_wp2
          go_roundw
          case rel => exact ⟨j, L, by omega, rfl, rfl, HN, hbel⟩
          case measure => simp [intOf]
        · rw [show decide (a ∈ zs) = false from decide_eq_false hm] at hh
          have HN := Lib.hid (show First (r.drop j) zs a by rw [hdr]; exact first_out hm)
          clear hm hdr hfst
          go_wp2_with fail
          refine hh.mono ?_
          rintro e w2 ⟨rfl, rfl⟩
          clear hh
          go_wp2
          go_roundw
          case rel => exact ⟨j, a, by omega, rfl, rfl, HN, hbel⟩
          case measure => simp [intOf]
      · obtain rfl : k = 0 := by omega
        have gj : decide ((0 : Int) ≤ ((0 : Nat) : Int) - 1) = false := by decide
        rw [show (((0 : Nat) : Int) - 1) = -1 by rfl]
        have hf := hfst.out
        rw [List.drop_zero] at hf
        clear hfst f0 fu gj
        by_cases hL : L = -1
        · subst hL
          have hal := alive7_any wr
          clear hf
          go_wp2_with fail
          refine hal.mono ?_
          rintro e w9 ⟨rfl, hb⟩
          have hB9 := hB.trans ((hbel.trans (hb.mono hbel.size)).mono hB.size)
          go_wp2
          go_ret
          exact ⟨rfl, hB9⟩
        · have gL : (L == -1) = false := by rw [beq_eq_false_iff_ne]; exact hL
          obtain ⟨l1, l2, e1, e2, e3⟩ := hf.resolve_left (fun h => hL h.1)
          obtain ⟨hDt, hlt⟩ := HNF.out l1 l2 L e1 e2 e3
          subst hDt
          have hLr := HRI.out.1 L (by rw [e1]; simp)
          have HLT := Lib.hid hlt
          clear e1 e2 e3 hL hlt hf
          have h1r := h1.below hbel
          go_wp2_with (at_builtin; go_must (refine wpList_app _ rfl _ _ 25 rfl 3 i0 _ 8 Try.underlying25 hi0' hy0 hy1 hy2 rfl wr.heap.size none 0 0 [] rfl (Own.none_ _ _ _ _) A1 x.n c1 _ rfl h1r.rd (ci64_one _) ?e3 ?e4 ?e5 ?_))
          case e3 => simp only [maxLen]; omega
          case e4 => omega
          try case e5 => exact Nat.le_refl _
          intro A3 c3 w3 hown3 hbel3 hfr3 hat3
          clear hfr3 hat3
          obtain ⟨g2, rfl, hg2, hg2'⟩ := hown3.lt (by have := hown3.le; omega)
          have hfr := hown3.free (by have := hown3.le; omega) i
          obtain ⟨vo, hvo⟩ : ∃ v, w3.cell? ⟨g2, i, none⟩ = some v := by
            have h5 := hown3.cell (j := i) (by omega)
            rw [List.getElem?_eq_getElem (by rw [hown3.len]; omega)] at h5
            exact ⟨_, h5⟩
          have hset := hown3.set (by have := hown3.le; omega) i (.int .i64 L)
          have hbs : Below wr.heap.size wr (w3.setCell ⟨g2, i, none⟩ (.int .i64 L)) := hbel3.trans ((Below.refl _ w3).setCell (p := ⟨g2, i, none⟩) hg2 _)
          have hset2 : Own (w3.setCell ⟨g2, i, none⟩ (.int .i64 L)) wr.heap.size 3 (some ⟨g2, 0, none⟩) x.n c3 (ci64 (zs.set i L)) := by
            have e : (ci64 zs).set i (.int .i64 L) = ci64 (zs.set i L) := by simp [ci64, iV]
            rw [← e]
            simpa using hset
          have hw : OwnI (w3.setCell ⟨g2, i, none⟩ (.int .i64 L)) wr.heap.size ⟨some ⟨g2, 0, none⟩, x.n, c3, zs.set i L⟩ := ⟨hset2, fun z hz => by
            rcases List.mem_or_eq_of_mem_set hz with hz | rfl
            · exact h1.fit z hz
            · omega⟩
          have hb4 := hbel.trans (hbs.mono hbel.size)
          have hB4 := hB.trans (hb4.mono hB.size)
          have h2r := h2.below hb4
          clear hset hset2 hown3 hbel3
          have hal := alive7_any (w3.setCell ⟨g2, i, none⟩ (.int .i64 L))
          go_wp2_with fail
          refine hal.mono ?_
          rintro e w9 ⟨rfl, hb⟩
          have hB9 := hB4.trans (hb.mono hB4.size)
          have hsm := sameints_b ⟨A2, n2, c2, l⟩ ⟨some ⟨g2, 0, none⟩, x.n, c3, zs.set i L⟩ w9 (h2r.below hb).ok (hw.below hb).ok
          rw [show (l == zs.set i L) = true by rw [HLT.out]; simp] at hsm
          clear hal
          go_wp2_with fail
          refine hsm.mono ?_
          rintro e w10 ⟨rfl, hb10⟩
          have hB10 := hB9.trans (hb10.mono hB9.size)
          go_wp2
          go_ret
          exact ⟨rfl, hB10⟩

theorem own : ownKnob Try.prog.godebug = none := by kernel_rfl
theorem laidOut : laidOutB Try.prog = true := by kernel_rfl

set_option maxRecDepth 100000 in
theorem lifted (os : Os) (started : os.Started) (H : Type) (enc : TypeId × Value → H) :
    ReturnsInHanded {} Try.checked os 7 .any (Rows.pathsNearSpec.pre6 enc Try.prog Try.f7 Rows.pathsNearRow.domain false) (Rows.pathsNearSpec.post enc Try.prog Try.f7 false true false false) := by
  refine returnsInHanded_of_change (C := Try.checked) own started (by kernel_rfl) Try.func7
    (ChangeSpec.witness6 (enc := enc) (C := Try.checked) false ⟨#[], #[.agg #[.slice none 0 0, .int .i64 0], .slice none 0 0, .int .i64 0], []⟩ 8 (by kernel_rfl) (by kernel_rfl) (by kernel_rfl) (by kernel_rfl)) ?_
  intro W base args ds gs before hval0 hW hcnd _
  have hval : ∀ (j : Nat) t v, Try.f7.params[j]? = some t → args[j]? = some v → Value.okWide Try.prog W .any base t v := hval0
  have hW' := hW
  obtain ⟨p, q, hA0, hV, rfl, hfz, hnd⟩ := hW
  have hA : DataW.TrodAll enc Try.prog W 0 (fun _ => true) true Try.f7.params.toList args.toList ds p := hA0
  rw [Try.params7] at hA hval
  obtain ⟨v0, vs0, d0, ds0, p0, q0, hargs, rfl, rfl, h0, r0⟩ := trodAll_cons hA
  obtain ⟨v1, vs1, d1, ds1, p1, q1, rfl, rfl, rfl, h1, r1⟩ := trodAll_cons r0
  obtain ⟨v2, vs2, d2, ds2, p2, q2, rfl, rfl, rfl, h2, r2⟩ := trodAll_cons r1
  obtain ⟨rfl, rfl, rfl⟩ := trodAll_nil r2
  obtain rfl : args = #[v0, v1, v2] := by cases args; simp_all
  obtain ⟨u0, m0, rfl, k0, a0, b0⟩ := arg_gr Try.underlying24 (by kernel_rfl) (by kernel_rfl) Try.underlying22 Try.underlying3 Try.underlying25 (by kernel_rfl) Try.underlying3 (by kernel_rfl) (hval 0 24 v0 rfl rfl) h0
  obtain ⟨A1, n1, c1, l1, rfl, a1, b1, e1, g1⟩ := arg_i64s Try.underlying25 Try.underlying3 (by kernel_rfl) (hval 1 25 v1 rfl rfl) h1
  obtain ⟨x2, rfl, rfl, rfl, w2⟩ := open_int Try.underlying3 (hval 2 3 v2 rfl rfl) h2
  have y2 := bounds_i64 w2
  have hwalk : Calls Try.prog 7 #[.agg #[u0.v, .int .i64 m0], .slice A1 n1 c1, .int .i64 x2] W fun e w' => e = .returned (.bool true) ∧ Below W.heap.size W w' := walk u0 m0 A1 n1 c1 l1 x2 W k0 a0 b0 ⟨a1, b1, e1, g1⟩ y2.1 y2.2
  refine hwalk.mono fun e W' ⟨he, hg⟩ => ?_
  subst he
  exact ⟨_, rfl, law_post laidOut (by kernel_rfl) hW' rfl rfl (by kernel_rfl) Try.underlying4 hg⟩

theorem over : Rows.pathsNearRow.holds Try.pinned (OpenSpec.ofChange Rows.pathsNearSpec) :=
  OpenClaim.holds_of_wide 7 Try.f7 rfl rfl rfl rfl rfl rfl rfl ⟨rfl, rfl, rfl, rfl, rfl⟩ rfl rfl rfl rfl rfl (by kernel_rfl) Try.func7 (by kernel_rfl)
    (of_decide_eq_true (by kernel_rfl)) (by unfold Func.isWrapper; first | (rw [if_pos (by decide +kernel)]; kernel_rfl) | (rw [if_neg (by decide +kernel)]; exact ⟨rfl, rfl⟩))
    (fun os started H enc _ => lifted os started H enc)

theorem proved : Rows.PathsNearSaid :=
  over

end Go.Proofs.Ytojpdmhccodckaa.pathsNear
