/-
  Proved: salesroomlaw09.HallsSame answers true, for any items that they want, however many there are, in whatever memory. No conditions.
-/
import Derived.Test.YtdiklmfaehmmjaaRows
import Derived.Test.YtdiklmfaehmmjaaLift
import Derived.Test.YtdiklmfaehmmjaaAlive9
import Derived.Test.YtdiklmfaehmmjaaGrM
import Derived.Test.YtdiklmfaehmmjaaHaL
import Derived.Test.YtdiklmfaehmmjaaMaL
import Derived.Test.YtdiklmfaehmmjaaReg
namespace Go.Proofs.Ytdiklmfaehmmjaa.hallsSame
open Go.ChangeShapes Go.WideShapes Go.ChangeAt Go.RowKit
set_option linter.unusedVariables false

theorem infoH_ints : (Try.prog.info? 25).map (fun i => (i.zero, i.size, i.bytes)) = some (some (.slice none 0 0), 1, 24) := by kernel_rfl
theorem allL_succ (n : Nat) : allL (n + 1) = allL n ++ [(n : Int)] := by rw [allL, allL, upto_succ]; simp
theorem allL_fit {n : Nat} (h : n ≤ 1000) : ∀ z ∈ allL n, -9223372036854775808 ≤ z ∧ z ≤ 9223372036854775807 := fun z hz => by
  have := (allL_rises n).1 z hz
  omega
theorem rep_all (k : Nat) (u : Ls) : Ls.all (List.replicate k u) = List.replicate k u.zs := by rw [Ls.all, List.map_replicate]
theorem allL_len (n : Nat) : (allL n).length = n := upto_all_len n
theorem same_ok {m k : Nat} {w : List Int} (hw : Rises m w) (hm : m ≤ 8) (hk : k ≤ 8) : nearOk (List.replicate k w) m (allL k) = true :=
  nearOk_of (same_check hw hm hk) (by have := allL_rises k; rwa [List.length_replicate])

set_option maxRecDepth 100000 in
set_option maxHeartbeats 4000000 in
theorem walk (y z : Nat) (w : World) (hy : y < 256) (hz : z < 256) :
    Calls Try.prog 8 #[.int .u8 y, .int .u8 z] w fun e w' => e = .returned (.bool true) ∧ Below w.heap.size w w' := by
  have hB := Below.refl w.heap.size w
  obtain ⟨n, hn⟩ : ∃ n : Nat, z % 9 = n := ⟨_, rfl⟩
  have hn8 : n ≤ 8 := by omega
  have s3 : ((z : Int)).tmod 9 = (n : Int) := by
    rw [Int.tmod_eq_emod_of_nonneg (by omega), ← hn]; simp
  have sz : IntKind.i64.wrap (z : Int) = (z : Int) := by rw [IntKind.wrap_i64]; omega
  clear hn
  obtain ⟨i0, hi0, hz0, hz1, hz2⟩ := info_parts infoH_int
  obtain ⟨i1, hi1, hy0, hy1, hy2⟩ := info_parts infoH_ints
  go_enter Try.func8, Try.ntmps8
  go_wp2_with fail
  go_loopw [6, 7] (fun o v wr => ∃ (j : Nat) (Al : Option Addr) (nl cl : Nat), j ≤ n ∧ v = .int .i64 j ∧ o = .slice Al nl cl ∧ OwnI wr w.heap.size ⟨Al, nl, cl, partL j y⟩ ∧ Below w.heap.size w wr) (fun _ v _ => n - (intOf v).toNat)
  case atStart => exact ⟨0, none, 0, 0, Nat.zero_le _, rfl, rfl, OwnI.nil _ _, Below.refl _ _⟩
  case round =>
    obtain ⟨j, Al, nl, cl, hj, rfl, rfl, hol, hbel⟩ := hrel
    have hnl : nl ≤ j := by
      have h1 := hol.len
      have h2 := upto_len j fun i => y.testBit i
      have h3 : (partL j y).length = nl := h1
      unfold partL at h3
      omega
    by_cases hjn : j < n
    · have hjn' : (j : Int) < n := by omega
      have hj0 : (0 : Int) ≤ j := by omega
      have hlsu : partL (j + 1) y = partL j y ++ if y.testBit j = true then [(j : Int)] else [] := upto_succ j _
      have hbit := bit_u8 y j hy
      have HLS := Lib.hid hlsu
      obtain ⟨β, hβ⟩ : ∃ β, y.testBit j = β := ⟨_, rfl⟩
      rw [hβ] at hbit HLS
      clear hlsu hβ
      cases β
      · have hol3 : OwnI wr w.heap.size ⟨Al, nl, cl, partL (j + 1) y⟩ := by rw [HLS.out]; simpa using hol
        clear hol HLS
        go_wp2
        go_roundw
        case rel => exact ⟨j + 1, Al, nl, cl, by omega, by go_num, rfl, hol3, hbel⟩
        case measure => simp [intOf]; omega
      · have hszq := hbel.size
        go_wp2_with (at_builtin; go_must (refine wpList_app1 wr rfl _ _ 25 rfl 3 i0 _ 8 Try.underlying25 hi0 hz0 hz1 hz2 rfl w.heap.size Al nl cl _ rfl hol.own 1 rfl rfl ?d3 ?d4 ?d5 ?_))
        case d3 => simp only [maxLen]; omega
        case d4 => omega
        try case d5 => exact hszq
        intro A7 c7 w7 hown7 hbel7 hfr7 hat7
        have hol3 : OwnI w7 w.heap.size ⟨A7, nl + 1, c7, partL (j + 1) y⟩ := by
          refine ⟨?_, fun z hz => ?_⟩
          · show Own w7 w.heap.size _ A7 (nl + 1) c7 (ci64 (partL (j + 1) y))
            rw [HLS.out, if_pos trivial, ci64_snoc6]; exact hown7
          · have h5 := (upto_rises (j + 1) fun i => y.testBit i).1 z hz
            omega
        have hbel3 := hbel.trans hbel7
        clear hown7 hbel7 hfr7 hat7 hol HLS hbel
        go_wp2
        go_roundw
        case rel => exact ⟨j + 1, A7, nl + 1, c7, by omega, by go_num, rfl, hol3, hbel3⟩
        case measure => simp [intOf]; omega
    · obtain rfl : j = n := by omega
      obtain ⟨v0, rfl⟩ : ∃ v, v = wr := ⟨_, rfl⟩
      have hB := hbel
      have HWL : Hid ((partL j y).length = nl) := Lib.hid hol.len
      have HWR : Hid (Rises j (partL j y)) := Lib.hid (upto_rises _ _)
      obtain ⟨wl, hwl⟩ : ∃ l, partL j y = l := ⟨_, rfl⟩
      rw [hwl] at HWL HWR hol
      have hwo : ∀ w', Below v0.heap.size v0 w' → Ls.Ok w' ⟨Al, nl, cl, wl⟩ := fun w' hb => (hol.below hb).ok
      clear hwl hbel hjn
      go_wp2_with fail
      go_loopw [8, 9, 10] (fun g s v wr => ∃ (i : Nat) (Ag As : Option Addr) (cg cs : Nat), i ≤ nl ∧ v = .int .i64 i ∧ g = .slice Ag i cg ∧ s = .slice As i cs ∧ Own wr v0.heap.size 25 Ag i cg (List.replicate i (.slice Al nl cl)) ∧ OwnI wr v0.heap.size ⟨As, i, cs, allL i⟩ ∧ Below v0.heap.size v0 wr) (fun _ _ v _ => nl - (intOf v).toNat)
      case atStart => exact ⟨0, none, none, 0, 0, Nat.zero_le _, rfl, rfl, rfl, Own.none_ _ _ _ _, OwnI.nil _ _, Below.refl _ _⟩
      case round =>
        obtain ⟨i, Ag, As, cg, cs, hi, rfl, rfl, rfl, hog, hos, hbel⟩ := hrel
        by_cases hin : i < nl
        · have hin' : (i : Int) < nl := by omega
          have hszq := hbel.size
          go_wp2_with (at_builtin; go_must (refine wpList_app1 wr rfl _ _ 22 rfl 25 i1 _ 24 Try.underlying22 hi1 hy0 hy1 hy2 rfl v0.heap.size Ag i cg _ rfl hog 1 rfl rfl ?e3 ?e4 ?e5 ?_))
          case e3 => simp only [maxLen]; omega
          case e4 => omega
          try case e5 => exact hszq
          intro A3 c3 w3 hown3 hbel3 hfr3 hat3
          have hf3 : ∀ k, k < wr.heap.size → ((i = 0 ∧ cg = 0) ∨ Ag ≠ some ⟨k, 0, none⟩) → w3.heap[k]? = wr.heap[k]? := fun k hk hh => hfr3 k hk hh
          have hog2 : Own w3 v0.heap.size 25 A3 (i + 1) c3 (List.replicate (i + 1) (.slice Al nl cl)) := by rw [List.replicate_succ']; exact hown3
          have hos2 : OwnI w3 v0.heap.size ⟨As, i, cs, allL i⟩ := hos.app hog hf3
          have hbel4 := hbel.trans hbel3
          have hszq3 := hbel4.size
          clear hown3 hbel3 hfr3 hat3 hf3 hog hos hbel hszq
          go_wp2_with (at_builtin; go_must (refine wpList_app1 w3 rfl _ _ 25 rfl 3 i0 _ 8 Try.underlying25 hi0 hz0 hz1 hz2 rfl v0.heap.size As i cs _ rfl hos2.own 1 rfl rfl ?f3 ?f4 ?f5 ?_))
          case f3 => simp only [maxLen]; omega
          case f4 => omega
          try case f5 => exact hszq3
          intro A4 c4 w4 hown4 hbel5 hfr4 hat4
          have hos3 : OwnI w4 v0.heap.size ⟨A4, i + 1, c4, allL (i + 1)⟩ := by
            refine ⟨?_, allL_fit (by omega)⟩
            show Own w4 v0.heap.size _ A4 (i + 1) c4 (ci64 (allL (i + 1)))
            rw [allL_succ, ci64_snoc6]; exact hown4
          have hog3 := hog2.other hos2.own (by decide) (fun k hk hh => hfr4 k hk (by simpa using hh))
          have hbel6 := hbel4.trans hbel5
          clear hown4 hbel5 hfr4 hat4 hog2 hos2 hbel4 hszq3
          go_wp2
          go_roundw
          case rel => exact ⟨i + 1, A3, A4, c3, c4, by omega, by go_num, rfl, rfl, hog3, hos3, hbel6⟩
          case measure => simp [intOf]; omega
        · obtain rfl : i = nl := by omega
          have hlow : ∀ g', Al = some ⟨g', 0, none⟩ → 0 < cl → g' < v0.heap.size := fun g' hA hc => by
            obtain ⟨g2, h3, _, h4⟩ := hol.own.lt hc
            rw [hA] at h3; cases h3; exact h4
          have hB0v := hB.size
          have hszv := hbel.size
          have hwu := hol.below hbel
          have hB := hB.trans (hbel.mono hB.size)
          have HN1 : Hid (fewP (List.replicate i wl) j (allL i) = none) := Lib.hid (by have h5 := same_none HWR.out; rwa [HWL.out] at h5)
          have HN2 : Hid (fewP (List.replicate (i + 1) wl) j (allL (i + 1)) = some wl) := Lib.hid (by have h5 := same_few HWR.out; rwa [HWL.out] at h5)
          have HK1 := Lib.hid (same_ok (k := i) HWR.out (by omega) (by omega))
          obtain ⟨e1, e2⟩ := few_no HK1.out HN1.out
          have E1 := Lib.hid e1
          have E2 := Lib.hid e2
          have E3 := Lib.hid (near_err HK1.out)
          have hgo : ∀ w' A n c, Own w' v0.heap.size 25 A n c (List.replicate n (.slice Al i cl)) → Ls.Ok w' ⟨Al, i, cl, wl⟩ → Gr.Ok w' ⟨A, n, c, List.replicate n ⟨Al, i, cl, wl⟩⟩ := fun w' A n c ho hk => own_lists (by rw [List.map_replicate]; exact ho) fun v hv => by rw [(List.mem_replicate.1 hv).2]; exact hk
          have hgg : ∀ A n c, Gr.g ⟨A, n, c, List.replicate n ⟨Al, i, cl, wl⟩⟩ = List.replicate n wl := fun A n c => rep_all n _
          have HGG := Lib.hid hgg
          clear e1 e2 hbel hol hwo hgg
          have hc := pfewC ⟨Ag, i, cg, List.replicate i ⟨Al, i, cl, wl⟩⟩ j ⟨As, i, cs, allL i⟩ wr (hgo _ _ _ _ hog hwu.ok) hos.ok (by omega) (by omega)
          rw [HGG.out, E1.out, E2.out, E3.out, show Gr.v ⟨Ag, i, cg, List.replicate i ⟨Al, i, cl, wl⟩⟩ = .slice Ag i cg from rfl] at hc
          go_wp2_with fail
          refine hc.mono ?_
          rintro e v1 ⟨A5, n5, c5, rfl, h5, hb⟩
          clear hc
          replace hszv := Nat.le_trans hszv hb.size
          replace hog := hog.below hb
          replace hos := hos.below hb
          replace hwu := hwu.below hb
          replace hB := hB.trans (hb.mono hB.size)
          clear hb
          clear h5
          by_cases h7 : 7 < i
          · have g0 : decide ((7 : Int) < (i : Int)) = true := decide_eq_true (by omega)
            have g0' : decide (7 < i) = true := decide_eq_true h7
            have hc := alive9_any v1
            go_wp2_with fail
            refine hc.mono ?_
            rintro e v2 ⟨rfl, hb⟩
            clear hc
            replace hog := hog.below hb
            replace hos := hos.below hb
            replace hwu := hwu.below hb
            replace hB := hB.trans (hb.mono hB.size)
            clear hb
            go_wp2
            go_ret
            exact ⟨rfl, hB⟩
          · have g0 : decide ((7 : Int) < (i : Int)) = false := decide_eq_false (by omega)
            have g0' : decide (7 < i) = false := decide_eq_false h7
            have HK2 := Lib.hid (same_ok (k := i + 1) HWR.out (by omega) (by omega))
            obtain ⟨e4, e5⟩ := few_yes HK2.out HN2.out
            have E4 := Lib.hid e4
            have E5 := Lib.hid e5
            have E6 := Lib.hid (near_err HK2.out)
            have hsz := Nat.le_trans (Nat.le_refl _) hszv
            clear e4 e5
            go_wp2_with (at_builtin; go_must (refine wpList_app1 v1 rfl _ _ 22 rfl 25 i1 _ 24 Try.underlying22 hi1 hy0 hy1 hy2 rfl v0.heap.size Ag i cg _ rfl hog 1 rfl rfl ?h3 ?h4 ?h5 ?_))
            case h3 => simp only [maxLen]; omega
            case h4 => omega
            try case h5 => exact hsz
            intro A3 c3 w3 hown3 hbel3 hfr3 hat3
            have hf3 : ∀ k, k < v1.heap.size → ((i = 0 ∧ cg = 0) ∨ Ag ≠ some ⟨k, 0, none⟩) → w3.heap[k]? = v1.heap[k]? := fun k hk hh => hfr3 k hk hh
            have hog2 : Own w3 v0.heap.size 25 A3 (i + 1) c3 (List.replicate (i + 1) (.slice Al i cl)) := by rw [List.replicate_succ']; exact hown3
            have hos2 : OwnI w3 v0.heap.size ⟨As, i, cs, allL i⟩ := hos.app hog hf3
            have hwu2 := hwu.app hog hf3
            have hsz3 := Nat.le_trans hsz hbel3.size
            have hB3 := hB.trans (hbel3.mono (hB0v))
            clear hown3 hbel3 hfr3 hat3 hf3 hog hos hsz hB
            go_wp2_with (at_builtin; go_must (refine wpList_app1 w3 rfl _ _ 25 rfl 3 i0 _ 8 Try.underlying25 hi0 hz0 hz1 hz2 rfl v0.heap.size As i cs _ rfl hos2.own 1 rfl rfl ?k3 ?k4 ?k5 ?_))
            case k3 => simp only [maxLen]; omega
            case k4 => omega
            try case k5 => exact hsz3
            intro A4 c4 w4 hown4 hbel5 hfr4 hat4
            have hos3 : OwnI w4 v0.heap.size ⟨A4, i + 1, c4, allL (i + 1)⟩ := by
              refine ⟨?_, allL_fit (by omega)⟩
              show Own w4 v0.heap.size _ A4 (i + 1) c4 (ci64 (allL (i + 1)))
              rw [allL_succ, ci64_snoc6]; exact hown4
            have hog3 := hog2.other hos2.own (by decide) (fun k hk hh => hfr4 k hk (by simpa using hh))
            have hwu3 : OwnI w4 w.heap.size ⟨Al, i, cl, wl⟩ := by
              refine ⟨?_, hwu2.fit⟩
              obtain ⟨h2, h3⟩ := hwu2.own
              rcases h3 with h0 | ⟨g', cur, hA', hg', hh', rest⟩
              · exact ⟨h2, .inl h0⟩
              · by_cases hc0 : cl = 0
                · exact ⟨h2, .inl ⟨by have h9 : i ≤ cl := rest.1; show i = 0; omega, hc0⟩⟩
                · refine ⟨h2, .inr ⟨g', cur, hA', hg', ?_, rest⟩⟩
                  rw [hbel5.block g' (hlow g' hA' (by omega))]
                  exact hh'
            have hB := hB3.trans (hbel5.mono hB0v)
            clear hown4 hbel5 hfr4 hat4 hog2 hos2 hsz3 hB3 hwu hwu2
            have hc := pfewC ⟨A3, i + 1, c3, List.replicate (i + 1) ⟨Al, i, cl, wl⟩⟩ j ⟨A4, i + 1, c4, allL (i + 1)⟩ w4 (hgo _ _ _ _ hog3 hwu3.ok) hos3.ok (by omega) (by omega)
            rw [HGG.out, E4.out, E5.out, E6.out, show Gr.v ⟨A3, i + 1, c3, List.replicate (i + 1) ⟨Al, i, cl, wl⟩⟩ = .slice A3 (i + 1) c3 from rfl] at hc
            go_wp2_with fail
            refine hc.mono ?_
            rintro e v2 ⟨A6, n6, c6, rfl, h6, hb⟩
            clear hc
            replace hog3 := hog3.below hb
            replace hos3 := hos3.below hb
            replace hwu3 := hwu3.below hb
            replace hB := hB.trans (hb.mono hB.size)
            clear hb
            obtain rfl : n6 = i := by have h5 := h6.len; rw [← HWL.out]; exact h5.symm
            have hc := alive9_any v2
            go_wp2_with fail
            refine hc.mono ?_
            rintro e v3 ⟨rfl, hb⟩
            clear hc
            replace hog3 := hog3.below hb
            replace hos3 := hos3.below hb
            replace hwu3 := hwu3.below hb
            replace h6 := h6.below hb
            replace hB := hB.trans (hb.mono hB.size)
            clear hb
            have hc := sameints_b ⟨A6, n6, c6, wl⟩ ⟨Al, n6, cl, wl⟩ v3 h6.ok hwu3.ok
            rw [show (wl == wl) = true by simp] at hc
            go_wp2_with fail
            refine hc.mono ?_
            rintro e v4 ⟨rfl, hb⟩
            clear hc
            replace hog3 := hog3.below hb
            replace hos3 := hos3.below hb
            replace hwu3 := hwu3.below hb
            replace h6 := h6.below hb
            replace hB := hB.trans (hb.mono hB.size)
            clear hb
            go_wp2
            go_ret
            exact ⟨rfl, hB⟩

theorem own : ownKnob Try.prog.godebug = none := by kernel_rfl
theorem laidOut : laidOutB Try.prog = true := by kernel_rfl

set_option maxRecDepth 100000 in
theorem lifted (os : Os) (started : os.Started) (H : Type) (enc : TypeId × Value → H) :
    ReturnsInHanded {} Try.checked os 8 .any (Rows.hallsSameSpec.pre6 enc Try.prog Try.f8 Rows.hallsSameRow.domain false) (Rows.hallsSameSpec.post enc Try.prog Try.f8 false true false false) := by
  refine returnsInHanded_of_change (C := Try.checked) own started (by kernel_rfl) Try.func8
    (ChangeSpec.witness6 (enc := enc) (C := Try.checked) false ⟨#[], #[.int .u8 0, .int .u8 0], []⟩ 8 (by kernel_rfl) (by kernel_rfl) (by kernel_rfl) (by kernel_rfl)) ?_
  intro W base args ds gs before hval0 hW hcnd _
  have hval : ∀ (j : Nat) t v, Try.f8.params[j]? = some t → args[j]? = some v → Value.okWide Try.prog W .any base t v := hval0
  have hW' := hW
  obtain ⟨p, q, hA0, hV, rfl, hfz, hnd⟩ := hW
  have hA : DataW.TrodAll enc Try.prog W 0 (fun _ => true) true Try.f8.params.toList args.toList ds p := hA0
  rw [Try.params8] at hA hval
  obtain ⟨v0, vs0, d0, ds0, p0, q0, hargs, rfl, rfl, h0, r0⟩ := trodAll_cons hA
  obtain ⟨v1, vs1, d1, ds1, p1, q1, rfl, rfl, rfl, h1, r1⟩ := trodAll_cons r0
  obtain ⟨rfl, rfl, rfl⟩ := trodAll_nil r1
  obtain rfl : args = #[v0, v1] := by cases args; simp_all
  obtain ⟨x0, rfl, rfl, rfl, w0⟩ := open_int Try.underlying5 (hval 0 5 v0 rfl rfl) h0
  obtain ⟨y0, rfl, z0⟩ := fit_u8 w0
  obtain ⟨x1, rfl, rfl, rfl, w1⟩ := open_int Try.underlying5 (hval 1 5 v1 rfl rfl) h1
  obtain ⟨y1, rfl, z1⟩ := fit_u8 w1
  have hwalk : Calls Try.prog 8 #[.int .u8 y0, .int .u8 y1] W fun e w' => e = .returned (.bool true) ∧ Below W.heap.size W w' := walk y0 y1 W z0 z1
  refine hwalk.mono fun e W' ⟨he, hg⟩ => ?_
  subst he
  exact ⟨_, rfl, law_post laidOut (by kernel_rfl) hW' rfl rfl (by kernel_rfl) Try.underlying4 hg⟩

theorem over : Rows.hallsSameRow.holds Try.pinned (OpenSpec.ofChange Rows.hallsSameSpec) :=
  OpenClaim.holds_of_wide 8 Try.f8 rfl rfl rfl rfl rfl rfl rfl ⟨rfl, rfl, rfl, rfl, rfl⟩ rfl rfl rfl rfl rfl (by kernel_rfl) Try.func8 (by kernel_rfl)
    (of_decide_eq_true (by kernel_rfl)) (by unfold Func.isWrapper; first | (rw [if_pos (by decide +kernel)]; kernel_rfl) | (rw [if_neg (by decide +kernel)]; exact ⟨rfl, rfl⟩))
    (fun os started H enc _ => lifted os started H enc)

theorem proved : Rows.HallsSameSaid :=
  over

end Go.Proofs.Ytdiklmfaehmmjaa.hallsSame
