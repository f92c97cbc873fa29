/-
  Proved: salesroomlaw07.PathsReach answers true, for any lists, any items, any matching and any number of a bidder, in whatever memory. No conditions.
-/
import Derived.Test.YtojpdmhccodckaaRows
import Derived.Test.YtojpdmhccodckaaLift
import Derived.Test.YtojpdmhccodckaaAlive7
import Derived.Test.YtojpdmhccodckaaPaH
import Derived.Test.YtojpdmhccodckaaReg
namespace Go.Proofs.Ytojpdmhccodckaa.pathsReach
open Go.ChangeShapes Go.WideShapes Go.ChangeAt Go.RowKit
set_option linter.unusedVariables false

theorem info6_int : (Try.prog.info? 3).map (fun i => (i.zero, i.size, i.bytes)) = some (some (.int .i64 0), 1, 8) := by kernel_rfl
theorem info7_ints : (Try.prog.info? 25).map (fun i => (i.zero, i.size, i.bytes)) = some (some (.slice none 0 0), 1, 24) := by kernel_rfl
/-- The first i have all, the others nothing as yet. -/
def fillG (n M i : Nat) : List (List Int) := (List.range n).map fun j => if j < i then upto M (fun _ => true) else []
theorem fillG_get? {n M i j : Nat} (hj : j < n) : (fillG n M i)[j]? = some (if j < i then upto M (fun _ => true) else []) := by
  rw [fillG, List.getElem?_map, List.getElem?_range hj]; rfl
theorem fillG_len (n M i : Nat) : (fillG n M i).length = n := by simp [fillG]
theorem fillG_zero (n M : Nat) : fillG n M 0 = List.replicate n [] := by
  refine List.ext_getElem? fun j => ?_
  by_cases hj : j < n
  · rw [fillG_get? hj, if_neg (by omega), List.getElem?_replicate, if_pos hj]
  · rw [List.getElem?_eq_none (by rw [fillG_len]; omega), List.getElem?_eq_none (by simp; omega)]
theorem fillG_full (n M : Nat) : fillG n M n = fullG n M := by
  refine List.ext_getElem? fun j => ?_
  by_cases hj : j < n
  · rw [fillG_get? hj, if_pos hj, fullG, List.getElem?_replicate, if_pos hj]
  · rw [List.getElem?_eq_none (by rw [fillG_len]; omega), List.getElem?_eq_none (by rw [fullG_len]; omega)]
theorem fillG_succ {n M i : Nat} (hi : i < n) : fillG n M (i + 1) = (fillG n M i).set i (upto M fun _ => true) := by
  refine List.ext_getElem? fun j => ?_
  rw [List.getElem?_set]
  by_cases hj : j < n
  · rw [fillG_get? hj]
    by_cases he : i = j
    · subst he
      have hl : i < (fillG n M i).length := by rw [fillG_len]; exact hi
      rw [if_pos (show i < i + 1 by omega)]
      simp [hl]
    · rw [if_neg he, fillG_get? hj]
      congr 1
      by_cases h2 : j < i
      · rw [if_pos h2, if_pos (by omega)]
      · rw [if_neg h2, if_neg (by omega)]
  · rw [if_neg (by omega), List.getElem?_eq_none (by rw [fillG_len]; omega), List.getElem?_eq_none (by rw [fillG_len]; omega)]
theorem OwnI.keep7 {w w' : World} {B g9 : Nat} {u : Ls} {c2 n2 : Nat} {ys : List Value} (h : OwnI w B u) (ho : Own w B 25 (some ⟨g9, 0, none⟩) n2 c2 ys) (hc : 0 < c2) (hk : ∀ b, b < w.heap.size → b ≠ g9 → w'.heap[b]? = w.heap[b]?) : OwnI w' B u :=
  h.app ho fun k hk1 hk2 => hk k hk1 (fun he => by
    rcases hk2 with hk2 | hk2
    · omega
    · exact hk2 (by rw [he]))

set_option maxRecDepth 100000 in
set_option maxHeartbeats 4000000 in
theorem walk (x : Gr) (m : Int) (A1 : Option Addr) (n1 c1 : Nat) (zs : List Int) (z : Int) (w : World) (h : x.Ok w) (hm1 : -9223372036854775808 ≤ m) (hm2 : m ≤ 9223372036854775807) (h1 : Ls.Ok w ⟨A1, n1, c1, zs⟩) (hz1 : -9223372036854775808 ≤ z) (hz2 : z ≤ 9223372036854775807) :
    Calls Try.prog 5 #[.agg #[x.v, .int .i64 m], .slice A1 n1 c1, .int .i64 z] w fun e w' => e = .returned (.bool true) ∧ Below w.heap.size w w' := by
  have hx := h
  have hB := Below.refl w.heap.size w
  have hxv : x.v = .slice x.A x.n x.c := rfl
  have Vx := Lib.hid hxv
  rw [hxv]
  have hgl := h.glen
  have HGL := Lib.hid hgl
  have htop := Nat.le_trans h.cap h.top
  unfold maxLen at htop
  obtain ⟨B, hB0⟩ : ∃ B, mayP x.g m zs z = B := ⟨_, rfl⟩
  clear hxv hgl h
  have HZL : Hid (zs.length = n1) := Lib.hid h1.len
  have h1c := Nat.le_trans h1.cap h1.top
  unfold maxLen at h1c
  go_enter Try.func5, Try.ntmps5
  have bg := GBox.new w x m
  have hbx : Below w.heap.size w (w.alloc (.cells #[.slice x.A x.n x.c, .int .i64 m] 24)) := (Below.refl _ w).alloc (Nat.le_refl _) _
  replace hx := hx.below hbx
  replace h1 := h1.below hbx
  replace hB := hB.trans (hbx.mono hB.size)
  clear hbx
  cases B
  · obtain ⟨e1, e2, e3, e4, e5⟩ := path_bad hB0
    have E1 := Lib.hid e1
    have E2 := Lib.hid e2
    have E3 := Lib.hid e3
    have E4 := Lib.hid e4
    have E5 := Lib.hid e5
    clear e1 e2 e3 e4 e5 hB0
    have eg0 := bg.c0
    have eg1 := bg.c1
    have hc := preachC x m ⟨A1, n1, c1, zs⟩ z (w.alloc (.cells #[.slice x.A x.n x.c, .int .i64 m] 24)) hx h1 hm1 hm2 hz1 hz2
    rw [Vx.out, E1.out, E4.out, E5.out] at hc
    go_wp2_with fail
    clear eg0 eg1
    generalize w.alloc (.cells #[.slice x.A x.n x.c, .int .i64 m] 24) = W1 at *
    refine hc.mono ?_
    rintro e v2 ⟨A3, n3, c3, A4, n4, c4, rfl, h3, h4, h34, hb⟩
    clear hc
    replace hx := hx.below hb
    replace h1 := h1.below hb
    replace bg := bg.below hb
    replace hB := hB.trans (hb.mono hB.size)
    clear hb
    clear h3 h4 h34
    have eg0 := bg.c0
    have eg1 := bg.c1
    have hc := alive7_any v2
    go_wp2_with fail
    clear eg0 eg1
    refine hc.mono ?_
    rintro e v3 ⟨rfl, hb⟩
    clear hc
    replace hx := hx.below hb
    replace h1 := h1.below hb
    replace bg := bg.below hb
    replace hB := hB.trans (hb.mono hB.size)
    clear hb
    have eg0 := bg.c0
    have eg1 := bg.c1
    go_wp2
    go_ret
    exact ⟨rfl, hB⟩
  · obtain ⟨M, rfl, hM8, hg8, hzl, i, rfl, hif⟩ := may_nat hB0
    rw [HZL.out, HGL.out] at hzl
    subst hzl
    rw [HGL.out] at hif hg8
    obtain ⟨e1, e2, e3, e4, e5⟩ := path_ok hB0
    have E1 := Lib.hid e1
    have E2 := Lib.hid e2
    have E3 := Lib.hid e3
    have E4 := Lib.hid e4
    have E5 := Lib.hid e5
    have HMY := Lib.hid hB0
    clear e1 e2 e3 e4 e5 hB0 hm1 hm2 hz1 hz2
    have hfm := full_may HMY.out
    rw [HGL.out] at hfm
    obtain ⟨f1, _, _, f4, f5⟩ := path_ok hfm
    have hfw := full_what HMY.out
    rw [HGL.out] at hfw
    rw [hfw] at f5
    have hwr : ∀ b ∈ whoP x.g M zs i, 0 ≤ b ∧ b < x.n := fun b hb => by
      have := (upto_rises x.g.length fun j => decide ((j : Int) ∈ (reachS x.g M zs i).q)).1 b hb
      rw [HGL.out] at this
      exact this
    have hwh : ∀ b : Nat, (b : Int) ∈ whoP x.g M zs i → b ≠ i → zs.getD b (-1) ∈ whatP x.g M zs i := fun b hb hn => who_has HMY.out hb (by omega)
    have hql : (whoP x.g M zs i).length ≤ x.n := by rw [← HGL.out]; exact rises_len (upto_rises _ _)
    have hww : ∀ b ∈ whoP x.g M zs i, b ∈ whoP (fullG x.n M) M zs i := fun b hb => by
      have := full_who HMY.out hb
      rw [HGL.out] at this
      exact this
    obtain ⟨q, hq⟩ : ∃ q, whoP x.g M zs i = q := ⟨_, rfl⟩
    obtain ⟨t, ht⟩ : ∃ t, whatP x.g M zs i = t := ⟨_, rfl⟩
    obtain ⟨r, hr⟩ : ∃ r, whoP (fullG x.n M) M zs i = r := ⟨_, rfl⟩
    rw [hq] at hwr hwh hww hql E4
    rw [ht] at hwh E5
    rw [hr] at hww f4
    have F1 := Lib.hid f1
    have F4 := Lib.hid f4
    have F5 := Lib.hid f5
    have HWR := Lib.hid hwr
    have HWH := Lib.hid hwh
    have HWW := Lib.hid hww
    obtain ⟨i0, hi0, hz0, hz1, hz2⟩ := info_parts info6_int
    obtain ⟨i1, hi1, hy0, hy1, hy2⟩ := info_parts info7_ints
    clear hfm f1 f4 f5 hfw hwr hwh hww hq ht hr
    have eg0 := bg.c0
    have eg1 := bg.c1
    have hc := preachC x M ⟨A1, x.n, c1, zs⟩ i (w.alloc (.cells #[.slice x.A x.n x.c, .int .i64 (M : Int)] 24)) hx h1 (by omega) (by omega) (by omega) (by omega)
    rw [Vx.out, E1.out, E4.out, E5.out] at hc
    go_wp2_with fail
    clear eg0 eg1
    generalize w.alloc (.cells #[.slice x.A x.n x.c, .int .i64 (M : Int)] 24) = W1 at *
    refine hc.mono ?_
    rintro e v2 ⟨A3, n3, c3, A4, n4, c4, rfl, h3, h4, h34, hb⟩
    clear hc
    replace hx := hx.below hb
    replace h1 := h1.below hb
    replace bg := bg.below hb
    replace hB := hB.trans (hb.mono hB.size)
    clear hb
    have hn3 : n3 = q.length := h3.len.symm
    subst hn3
    clear h34
    have h3c := Nat.le_trans h3.own.le h3.own.cap
    have h4c := Nat.le_trans h4.own.le h4.own.cap
    have eg0 := bg.c0
    have eg1 := bg.c1
    go_wp2_with fail
    clear eg0 eg1
    go_loopw [10] (fun v wr => ∃ (j : Nat), j ≤ q.length ∧ v = .int .i64 j ∧ Below v2.heap.size v2 wr) (fun v _ => q.length - (intOf v).toNat)
    case atStart => exact ⟨0, Nat.zero_le _, rfl, Below.refl _ _⟩
    case round =>
      obtain ⟨j, hj, rfl, hbel⟩ := hrel
      by_cases hjn : j < q.length
      · have hjn' : (j : Int) < q.length := by omega
        obtain ⟨p, o, rfl, hp, y0, hy0', hcy⟩ := h3.own.rd.get hjn
        rw [ci64_get _ _ hjn] at hy0'
        obtain rfl : iV q[j] = y0 := Option.some.inj hy0'
        unfold iV at hcy
        have hbm : q[j] ∈ q := List.getElem_mem hjn
        have hbr := HWR.out _ hbm
        obtain ⟨a, ha⟩ : ∃ a, q[j] = a := ⟨_, rfl⟩
        rw [ha] at hcy hbr hbm
        obtain ⟨b, rfl⟩ : ∃ b : Nat, a = b := ⟨a.toNat, by omega⟩
        have hcw : wr.cell? ⟨p, o + j, none⟩ = some (.int .i64 (b : Int)) := (hbel.cell (p := ⟨p, o + j, none⟩) hp).trans hcy
        have g0 : decide ((b : Int) < 0) = false := decide_eq_false (by omega)
        have g1 : decide ((x.n : Int) ≤ (b : Int)) = false := decide_eq_false (by omega)
        have g1' : decide (x.n ≤ b) = false := decide_eq_false (by omega)
        have hbn : b < x.n := by omega
        have hbn' : (b : Int) < x.n := by omega
        have hb0 : (0 : Int) ≤ b := by omega
        clear hy0' ha hcy
        by_cases hbi : b = i
        · have k1 : ((b : Int) != (i : Int)) = false := by rw [hbi]; simp
          clear hbi hbm
          go_wp2
          go_roundw
          case rel => exact ⟨j + 1, by omega, by go_num, hbel⟩
          case measure => simp [intOf]; omega
        · have k1 : ((b : Int) != (i : Int)) = true := by rw [bne_iff_ne]; omega
          have hin := HWH.out b hbm hbi
          have hbz : b < zs.length := by rw [HZL.out]; exact hbn
          obtain ⟨p2, o2, rfl, hp2, y1, hy1', hcy1⟩ := h1.rd.get hbn
          rw [ci64_get _ _ hbz] at hy1'
          obtain rfl : iV zs[b] = y1 := Option.some.inj hy1'
          unfold iV at hcy1
          rw [List.getD_eq_getElem?_getD, List.getElem?_eq_getElem hbz] at hin
          replace hin : zs[b] ∈ t := hin
          obtain ⟨d, hd⟩ : ∃ d, zs[b] = d := ⟨_, rfl⟩
          rw [hd] at hcy1 hin
          have hcw1 : wr.cell? ⟨p2, o2 + b, none⟩ = some (.int .i64 d) := (hbel.cell (p := ⟨p2, o2 + b, none⟩) hp2).trans hcy1
          have hh := lhas7_any A4 n4 c4 t d wr (h4.own.rd.below hbel) h4c
          rw [show decide (d ∈ t) = true from decide_eq_true hin] at hh
          clear hy1' hd hcy1 hin hbi hbm hbz
          go_wp2_with fail
          refine hh.mono ?_
          rintro e w2 ⟨rfl, rfl⟩
          clear hh
          go_wp2
          go_roundw
          case rel => exact ⟨j + 1, by omega, by go_num, hbel⟩
          case measure => simp [intOf]; omega
      · obtain rfl : j = q.length := by omega
        obtain ⟨wq, hwq⟩ : ∃ wq, wq = wr := ⟨_, rfl⟩
        rw [← hwq] at hbel ⊢
        clear hwq
        replace hx := hx.below hbel
        replace h1 := h1.below hbel
        replace h3 := h3.below hbel
        replace h4 := h4.below hbel
        replace bg := bg.below hbel
        replace hB := hB.trans (hbel.mono hB.size)
        clear hbel
        have eg0 := bg.c0
        have eg1 := bg.c1
        go_wp2_with (at_make; go_must (refine wpList_mk _ rfl _ _ 22 rfl wq.heap.size 25 i1 _ Try.underlying22 hi1 hy0 hy1 rfl .i64 .i64 _ _ x.n rfl rfl rfl rfl ?f2 ?f3 ?f4 ?_))
        case f2 => first | omega | (rw [hy2]; omega)
        case f3 => simp only [maxLen]; omega
        try case f4 => exact Nat.le_refl _
        clear eg0 eg1
        intro w5 hown5 hbel5
        have hxn1 : 1 ≤ x.n := by omega
        have hb5 := bg.below hbel5
        have eg0 := hb5.c0
        have eg1 := hb5.c1
        go_wp2_with fail
        clear eg0 eg1
        go_loopw [12] (fun v wr => ∃ (j : Nat) (t : List Ls), j ≤ x.n ∧ v = .int .i64 j ∧ Own wr wq.heap.size 25 (some ⟨wq.heap.size, 0, none⟩) x.n x.n (t.map Ls.v) ∧ Hid (t.length = x.n ∧ (∀ u ∈ t, OwnI wr wq.heap.size u) ∧ Ls.all t = fillG x.n M j ∧ ∀ (k : Nat) (u : Ls), j ≤ k → t[k]? = some u → u = Ls.nil) ∧ Below wq.heap.size wq wr) (fun v _ => x.n - (intOf v).toNat)
        case atStart => exact ⟨0, List.replicate x.n Ls.nil, Nat.zero_le _, rfl, by rw [List.map_replicate]; exact hown5, Lib.hid ⟨by simp, fun u hu => by rw [(List.mem_replicate.1 hu).2]; exact OwnI.nil _ _, by rw [fillG_zero, Ls.all, List.map_replicate]; rfl, fun k u _ hu => (List.mem_replicate.1 (List.mem_of_getElem? hu)).2⟩, hbel5⟩
        case round =>
          obtain ⟨j, t2, hj, rfl, ho, hin, hbel⟩ := hrel
          obtain ⟨wo, rfl⟩ : ∃ wo, wo = wr := ⟨_, rfl⟩
          clear hown5 hbel5 hb5
          have hgo := bg.below hbel
          have eg0 := hgo.c0
          have eg1 := hgo.c1
          by_cases hjn : j < x.n
          · have hjn' : (j : Int) < x.n := by omega
            have hj0 : (0 : Int) ≤ j := by omega
            have hgl : wq.heap.size < wo.heap.size := by
              obtain ⟨g', hA', _, hl'⟩ := ho.lt (by omega)
              cases hA'; exact hl'
            have hnil : t2.set j Ls.nil = t2 := by
              have hjl : j < t2.length := by rw [hin.out.1]; exact hjn
              have h5 := hin.out.2.2.2 j t2[j] (Nat.le_refl _) (List.getElem?_eq_getElem hjl)
              rw [← h5, List.set_getElem_self]
            go_wp2_with fail
            clear eg0 eg1
            go_loopw [13] (fun v wr => ∃ (k : Nat) (A2 : Option Addr) (c2 : Nat), k ≤ M ∧ v = .int .i64 k ∧ Own wr wo.heap.size 3 A2 k c2 (ci64 (upto k fun _ => true)) ∧ Own wr wq.heap.size 25 (some ⟨wq.heap.size, 0, none⟩) x.n x.n ((t2.set j ⟨A2, k, c2, upto k fun _ => true⟩).map Ls.v) ∧ Hid (∀ b, b < wo.heap.size → b ≠ wq.heap.size → wr.heap[b]? = wo.heap[b]?) ∧ wo.heap.size ≤ wr.heap.size ∧ Below wq.heap.size wq wr) (fun v _ => M - (intOf v).toNat)
            case atStart => exact ⟨0, none, 0, Nat.zero_le _, rfl, Own.none_ _ _ _ _, by rw [show (⟨none, 0, 0, upto 0 fun _ => true⟩ : Ls) = Ls.nil from rfl, hnil]; exact ho, Lib.hid (fun _ _ _ => rfl), Nat.le_refl _, hbel⟩
            case round =>
              obtain ⟨k, A2, c2, hk, rfl, hu, ho2, hfx, hsz, hbk⟩ := hrel
              have hgk := bg.below hbk
              have eg0 := hgk.c0
              have eg1 := hgk.c1
              by_cases hkM : k < M
              · have hkM' : (k : Int) < M := by omega
                have htl := hin.out.1
                have hcl : wr.cell? ⟨wq.heap.size, j, none⟩ = some (.slice A2 k c2) := by
                  have h5 := ho2.cell (j := j) (by omega)
                  rw [List.getElem?_map, List.getElem?_set_self (by omega)] at h5
                  exact h5
                have hlast : upto (k + 1) (fun _ => true) = upto k (fun _ => true) ++ [(k : Int)] := by rw [upto_succ]; rfl
                have HLAST := Lib.hid hlast
                have HTL := Lib.hid htl
                clear hlast htl
                go_wp2_with (at_builtin; go_must (refine wpList_app1 wr rfl _ _ 25 rfl 3 i0 _ 8 Try.underlying25 hi0 hz0 hz1 hz2 rfl wo.heap.size A2 k c2 _ rfl hu 1 rfl rfl ?c3 ?c4 ?c5 ?_))
                case c3 => simp only [maxLen]; omega
                case c4 => omega
                try case c5 => exact hsz
                intro A3' c3' w3 hown3 hbel3 hfr3 hat3
                have hown4 : Own w3 wo.heap.size 3 A3' (k + 1) c3' (ci64 (upto (k + 1) fun _ => true)) := by
                  rw [HLAST.out, ci64_snoc6]
                  exact hown3
                have ho3 : Own w3 wq.heap.size 25 (some ⟨wq.heap.size, 0, none⟩) x.n x.n ((t2.set j ⟨A2, k, c2, upto k fun _ => true⟩).map Ls.v) := ho2.keep fun g hA _ _ hlt => by
                  cases hA
                  exact hbel3.block _ hgl
                have hfr4 := ho3.free (by omega) j
                obtain ⟨vo, hvo⟩ : ∃ v, w3.cell? ⟨wq.heap.size, j, none⟩ = some v := by
                  have h5 := ho3.cell (j := j) (by omega)
                  rw [List.getElem?_eq_getElem (by rw [ho3.len]; omega)] at h5
                  exact ⟨_, h5⟩
                have hset := ho3.set (by omega) j (.slice A3' (k + 1) c3')
                have hset2 : Own (w3.setCell ⟨wq.heap.size, j, none⟩ (.slice A3' (k + 1) c3')) wq.heap.size 25 (some ⟨wq.heap.size, 0, none⟩) x.n x.n ((t2.set j ⟨A3', k + 1, c3', upto (k + 1) fun _ => true⟩).map Ls.v) := by
                  have e5 : ((t2.set j ⟨A2, k, c2, upto k fun _ => true⟩).map Ls.v).set j (.slice A3' (k + 1) c3') = (t2.set j ⟨A3', k + 1, c3', upto (k + 1) fun _ => true⟩).map Ls.v := by
                    rw [List.map_set, List.map_set, List.set_set]; rfl
                  rw [← e5]; exact hset
                have hu2 : Own (w3.setCell ⟨wq.heap.size, j, none⟩ (.slice A3' (k + 1) c3')) wo.heap.size 3 A3' (k + 1) c3' (ci64 (upto (k + 1) fun _ => true)) := hown4.keep fun g hA _ hg _ => Below.heap_setCell _ _ _ _ (show g ≠ wq.heap.size by omega)
                have hfx2 : Hid (∀ b, b < wo.heap.size → b ≠ wq.heap.size → (w3.setCell ⟨wq.heap.size, j, none⟩ (.slice A3' (k + 1) c3')).heap[b]? = wo.heap[b]?) := Lib.hid (fun b hb hne => by
                  rw [Below.heap_setCell _ _ _ _ hne, hbel3.block b hb]
                  exact hfx.out b hb hne)
                have hsz2 : wo.heap.size ≤ (w3.setCell ⟨wq.heap.size, j, none⟩ (.slice A3' (k + 1) c3')).heap.size := by
                  simp only [World.setCell, Array.size_modify]
                  exact Nat.le_trans hsz hbel3.size
                have hbk2 : Below wq.heap.size wq (w3.setCell ⟨wq.heap.size, j, none⟩ (.slice A3' (k + 1) c3')) := (hbk.trans (hbel3.mono (by omega))).setCell (p := ⟨wq.heap.size, j, none⟩) (Nat.le_refl _) _
                clear hown3 hown4 hbel3 hfr3 hat3 hu ho2 ho3 hset hfx hsz hbk hcl eg0 eg1 hgk
                go_wp2
                go_roundw
                case rel => exact ⟨k + 1, A3', c3', by omega, by go_num, hu2, hset2, hfx2, hsz2, hbk2⟩
                case measure => simp [intOf]; omega
              · obtain rfl : k = M := by omega
                have HN : Hid ((t2.set j ⟨A2, k, c2, upto k fun _ => true⟩).length = x.n ∧ (∀ u ∈ t2.set j ⟨A2, k, c2, upto k fun _ => true⟩, OwnI wr wq.heap.size u) ∧ Ls.all (t2.set j ⟨A2, k, c2, upto k fun _ => true⟩) = fillG x.n k (j + 1) ∧ ∀ (l : Nat) (u : Ls), j + 1 ≤ l → (t2.set j ⟨A2, k, c2, upto k fun _ => true⟩)[l]? = some u → u = Ls.nil) := Lib.hid ⟨by rw [List.length_set]; exact hin.out.1, fun u hu' => by
                  rcases List.mem_or_eq_of_mem_set hu' with hu' | rfl
                  · exact OwnI.keep7 (hin.out.2.1 u hu') ho (by omega) hfx.out
                  · exact ⟨hu.mono (by omega), fun z hz => by have := mem_all.1 hz; omega⟩, by rw [fillG_succ hjn, ← hin.out.2.2.1, Ls.all, Ls.all, List.map_set], fun l u hl hu' => by
                  rw [List.getElem?_set_ne (by omega)] at hu'
                  exact hin.out.2.2.2 l u (by omega) hu'⟩
                clear hu hfx hgk
                go_wp2
                go_roundw
                case rel => exact ⟨j + 1, _, by omega, by go_num, ho2, HN, hbk⟩
                case measure => simp [intOf]; omega
          · obtain rfl : j = x.n := by omega
            have hgr : Gr.Ok wo ⟨some ⟨wq.heap.size, 0, none⟩, x.n, x.n, t2⟩ := ⟨⟨outs_at ho, fun u hu => (hin.out.2.1 u hu).ok⟩, Nat.le_refl _, by simp only [maxLen]; omega⟩
            have hgg : Gr.g ⟨some ⟨wq.heap.size, 0, none⟩, x.n, x.n, t2⟩ = fullG x.n M := by rw [← fillG_full]; exact hin.out.2.2.1
            have hc := preachC ⟨some ⟨wq.heap.size, 0, none⟩, x.n, x.n, t2⟩ M ⟨A1, x.n, c1, zs⟩ i wo hgr (h1.below hbel) (by omega) (by omega) (by omega) (by omega)
            rw [hgg, F1.out, F4.out, F5.out] at hc
            clear hgr hgg ho hin
            go_wp2_with fail
            refine hc.mono ?_
            rintro e w6 ⟨A5, n5, c5, A6, n6, c6, rfl, h5, h6, h56, hb6⟩
            have hn6 : n6 = M := by
              have h7 := h6.len
              simp only [upto_all_len] at h7
              exact h7.symm
            subst hn6
            clear hc h6 h56 eg0 eg1 hgo
            have hb7 := hbel.trans (hb6.mono hbel.size)
            have hg7 := bg.below hb7
            have eg0 := hg7.c0
            have eg1 := hg7.c1
            have hne : ((n6 : Int) != (n6 : Int)) = false := by simp
            have h5c := Nat.le_trans h5.own.le h5.own.cap
            go_wp2_with fail
            clear eg0 eg1 hg7
            go_loopw [17] (fun v wr => ∃ (j : Nat), j ≤ q.length ∧ v = .int .i64 j ∧ Below w6.heap.size w6 wr) (fun v _ => q.length - (intOf v).toNat)
            case atStart => exact ⟨0, Nat.zero_le _, rfl, Below.refl _ _⟩
            case round =>
              obtain ⟨j, hj, rfl, hbl⟩ := hrel
              by_cases hjq : j < q.length
              · have hjq' : (j : Int) < q.length := by omega
                obtain ⟨p, o, hA3, hp, y0, hy0', hcy⟩ := h3.own.rd.get hjq
                rw [ci64_get _ _ hjq] at hy0'
                obtain rfl : iV q[j] = y0 := Option.some.inj hy0'
                unfold iV at hcy
                have hbm := HWW.out q[j] (List.getElem_mem hjq)
                obtain ⟨a, ha⟩ : ∃ a, q[j] = a := ⟨_, rfl⟩
                rw [ha] at hcy hbm
                have hb8 := hb7.trans (hbl.mono hb7.size)
                have hcw : wr.cell? ⟨p, o + j, none⟩ = some (.int .i64 a) := (hb8.cell (p := ⟨p, o + j, none⟩) hp).trans hcy
                have hh := lhas7_any A5 n5 c5 r a wr (h5.own.rd.below hbl) h5c
                rw [show decide (a ∈ r) = true from decide_eq_true hbm] at hh
                simp only at hA3
                subst hA3
                clear hy0' ha hcy hbm
                go_wp2_with fail
                refine hh.mono ?_
                rintro e w2 ⟨rfl, rfl⟩
                clear hh
                go_wp2
                go_roundw
                case rel => exact ⟨j + 1, by omega, by go_num, hbl⟩
                case measure => simp [intOf]; omega
              · obtain rfl : j = q.length := by omega
                have hal := alive7_any wr
                have hb8 := hb7.trans (hbl.mono hb7.size)
                go_wp2_with fail
                refine hal.mono ?_
                rintro e w9 ⟨rfl, hb⟩
                have hB9 := hB.trans ((hb8.trans (hb.mono hb8.size)).mono hB.size)
                go_wp2
                go_ret
                exact ⟨rfl, hB9⟩

theorem own : ownKnob Try.prog.godebug = none := by kernel_rfl
theorem laidOut : laidOutB Try.prog = true := by kernel_rfl

set_option maxRecDepth 100000 in
theorem lifted (os : Os) (started : os.Started) (H : Type) (enc : TypeId × Value → H) :
    ReturnsInHanded {} Try.checked os 5 .any (Rows.pathsReachSpec.pre6 enc Try.prog Try.f5 Rows.pathsReachRow.domain false) (Rows.pathsReachSpec.post enc Try.prog Try.f5 false true false false) := by
  refine returnsInHanded_of_change (C := Try.checked) own started (by kernel_rfl) Try.func5
    (ChangeSpec.witness6 (enc := enc) (C := Try.checked) false ⟨#[], #[.agg #[.slice none 0 0, .int .i64 0], .slice none 0 0, .int .i64 0], []⟩ 8 (by kernel_rfl) (by kernel_rfl) (by kernel_rfl) (by kernel_rfl)) ?_
  intro W base args ds gs before hval0 hW hcnd _
  have hval : ∀ (j : Nat) t v, Try.f5.params[j]? = some t → args[j]? = some v → Value.okWide Try.prog W .any base t v := hval0
  have hW' := hW
  obtain ⟨p, q, hA0, hV, rfl, hfz, hnd⟩ := hW
  have hA : DataW.TrodAll enc Try.prog W 0 (fun _ => true) true Try.f5.params.toList args.toList ds p := hA0
  rw [Try.params5] at hA hval
  obtain ⟨v0, vs0, d0, ds0, p0, q0, hargs, rfl, rfl, h0, r0⟩ := trodAll_cons hA
  obtain ⟨v1, vs1, d1, ds1, p1, q1, rfl, rfl, rfl, h1, r1⟩ := trodAll_cons r0
  obtain ⟨v2, vs2, d2, ds2, p2, q2, rfl, rfl, rfl, h2, r2⟩ := trodAll_cons r1
  obtain ⟨rfl, rfl, rfl⟩ := trodAll_nil r2
  obtain rfl : args = #[v0, v1, v2] := by cases args; simp_all
  obtain ⟨u0, m0, rfl, k0, a0, b0⟩ := arg_gr Try.underlying24 (by kernel_rfl) (by kernel_rfl) Try.underlying22 Try.underlying3 Try.underlying25 (by kernel_rfl) Try.underlying3 (by kernel_rfl) (hval 0 24 v0 rfl rfl) h0
  obtain ⟨A1, n1, c1, l1, rfl, a1, b1, e1, g1⟩ := arg_i64s Try.underlying25 Try.underlying3 (by kernel_rfl) (hval 1 25 v1 rfl rfl) h1
  obtain ⟨x2, rfl, rfl, rfl, w2⟩ := open_int Try.underlying3 (hval 2 3 v2 rfl rfl) h2
  have y2 := bounds_i64 w2
  have hwalk : Calls Try.prog 5 #[.agg #[u0.v, .int .i64 m0], .slice A1 n1 c1, .int .i64 x2] W fun e w' => e = .returned (.bool true) ∧ Below W.heap.size W w' := walk u0 m0 A1 n1 c1 l1 x2 W k0 a0 b0 ⟨a1, b1, e1, g1⟩ y2.1 y2.2
  refine hwalk.mono fun e W' ⟨he, hg⟩ => ?_
  subst he
  exact ⟨_, rfl, law_post laidOut (by kernel_rfl) hW' rfl rfl (by kernel_rfl) Try.underlying4 hg⟩

theorem over : Rows.pathsReachRow.holds Try.pinned (OpenSpec.ofChange Rows.pathsReachSpec) :=
  OpenClaim.holds_of_wide 5 Try.f5 rfl rfl rfl rfl rfl rfl rfl ⟨rfl, rfl, rfl, rfl, rfl⟩ rfl rfl rfl rfl rfl (by kernel_rfl) Try.func5 (by kernel_rfl)
    (of_decide_eq_true (by kernel_rfl)) (by unfold Func.isWrapper; first | (rw [if_pos (by decide +kernel)]; kernel_rfl) | (rw [if_neg (by decide +kernel)]; exact ⟨rfl, rfl⟩))
    (fun os started H enc _ => lifted os started H enc)

theorem proved : Rows.PathsReachSaid :=
  over

end Go.Proofs.Ytojpdmhccodckaa.pathsReach
