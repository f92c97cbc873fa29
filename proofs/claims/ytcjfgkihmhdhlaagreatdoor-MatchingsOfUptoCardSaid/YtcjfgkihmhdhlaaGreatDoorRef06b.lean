/-
  Walks of the document: Turned.
-/
import Derived.Test.YtcjfgkihmhdhlaaGreatDoorRef06
namespace Go.Proofs.YtcjfgkihmhdhlaaGreatDoor
open Go.RowKit
set_option linter.unusedVariables false
theorem info6_int : (Tryz.prog.info? 3).map (fun i => (i.zero, i.size, i.bytes)) = some (some (.int .i64 0), 1, 8) := by kernel_rfl
theorem info6_ints : (Tryz.prog.info? 25).map (fun i => (i.zero, i.size, i.bytes)) = some (some (.slice none 0 0), 1, 24) := by kernel_rfl

set_option maxRecDepth 100000 in
set_option maxHeartbeats 1000000 in
theorem rfitsG : FitsC 91 := by
  intro x m u w h hu h1 h2
  have hck := rcheckG x m w h h1 h2
  obtain ⟨F, hF⟩ : ∃ F, fitsG x.g m u.zs = F := ⟨_, rfl⟩
  obtain ⟨B, hB⟩ : ∃ B, checkG x.g m = B := ⟨_, rfl⟩
  rw [hF]
  rw [hB] at hck
  have hgl := h.glen
  obtain ⟨g, hg0⟩ : ∃ g, x.g = g := ⟨_, rfl⟩
  rw [hg0] at hgl hF hB
  obtain ⟨A, n, c, t0⟩ := x
  simp only at hgl
  have HG0 := Lib.hid (show Ls.all t0 = g from hg0)
  have HGL := Lib.hid hgl
  have hul := hu.len
  have hur := hu.rd
  have huc := hu.cap
  have hut := hu.top
  obtain ⟨A2, n2, c2, zs⟩ := u
  simp only at hul hur huc hut ⊢
  have HUL := Lib.hid hul
  have htop := h.top
  have hcap := h.cap
  unfold maxLen at htop hut
  simp only at htop hcap
  have tn := Nat.le_trans hcap htop
  have tn2 := Nat.le_trans huc hut

  simp only at hF
  have HF := Lib.hid hF
  have HB := Lib.hid hB
  unfold Gr.v at hck ⊢
  unfold Ls.v
  clear hF hB hgl hg0 hul
  cases B
  · have HR : Hid (F = false) := Lib.hid (by rw [← HF.out, fitsG, HB.out]; rfl)
    go_enter Tryz.func91, Tryz.ntmps91
    go_wp2_with fail
    refine hck.mono ?_
    rintro e w1 ⟨rfl, hb1⟩
    clear hck
    go_wp2
    go_ret
    exact ⟨ret_bool HR.out.symm, hb1⟩
  by_cases hne : n2 = n
  · subst hne
    have hne1 : ((n2 : Int) != (n2 : Int)) = false := by simp
    go_enter Tryz.func91, Tryz.ntmps91
    go_wp2_with fail
    refine hck.mono ?_
    rintro e w1 ⟨rfl, hB⟩
    have hx := h.below hB
    have hr := hur.below hB
    clear hck hur hu h
    go_wp2_with fail
    go_loopw [7] (fun i wr => ∃ j : Nat, j ≤ n2 ∧ i = .int .i64 j ∧ Hid (∀ i, i < j → okAt g zs i = true) ∧ Below w1.heap.size w1 wr) (fun i _ => n2 - (intOf i).toNat)
    case atStart => exact ⟨0, Nat.zero_le _, rfl, Lib.hid (fun i hi => absurd hi (by omega)), Below.refl _ _⟩
    case round =>
      obtain ⟨j, hj, rfl, hok, hbel⟩ := hrel
      have hBr := hB.trans (hbel.mono hB.size)
      have hxr := hx.below hbel
      have hrr := hr.below hbel
      by_cases hlt : j < n2
      · have hlt' : (j : Int) < n2 := by omega
        obtain ⟨p2, q2, rfl, hp2, u0, hu0, hc2⟩ := hrr.get hlt
        have hjl : j < zs.length := by rw [HUL.out]; exact hlt
        rw [ci64_get _ _ hjl] at hu0
        obtain rfl : iV zs[j] = u0 := Option.some.inj hu0
        unfold iV at hc2
        have hgd : zs.getD j (-1) = zs[j] := by rw [List.getD_eq_getElem?_getD, List.getElem?_eq_getElem hjl]; rfl
        obtain ⟨z, hz⟩ : ∃ z, zs[j] = z := ⟨_, rfl⟩
        rw [hz] at hc2 hgd
        have HZ := Lib.hid hgd
        clear hu0 hz hgd hjl
        by_cases hm1 : z = -1
        · have g1 : (z == -1) = true := by rw [hm1]; rfl
          have HN := Lib.hid (show ∀ i, i < j + 1 → okAt g zs i = true by
            intro i hi
            by_cases he : i = j
            · rw [he, okAt, HZ.out, hm1]; rfl
            · exact hok.out i (by omega))
          clear hm1
          go_wp2
          go_roundw
          case rel => exact ⟨j + 1, by omega, by go_num, HN, hbel⟩
          case measure => simp [intOf]; omega
        · have g1 : (z == -1) = false := by rw [beq_eq_false_iff_ne]; exact hm1
          obtain ⟨p, q, u, rfl, hg, hp, hcell, hk2⟩ := gr_get hxr HG0.out hlt
          obtain ⟨β, hβ⟩ : ∃ β, decide (z ∈ u.zs) = β := ⟨_, rfl⟩
          obtain ⟨γ, hγ⟩ : ∃ γ, decide (z ∈ zs.take j) = γ := ⟨_, rfl⟩
          have hokj : okAt g zs j = (β && !γ) := by
            rw [okAt, HZ.out, hg, hβ, hγ, decide_eq_false hm1]; simp
          have HOK := Lib.hid hokj
          have hrt := hrr.take (hi := j) (by omega)
          have hcz : (ci64 zs).take j = ci64 (zs.take j) := by simp [ci64]
          rw [hcz] at hrt
          have hh1 := rhas_any u.A u.n u.c u.zs z wr.drew hk2.rd.drew (Nat.le_trans hk2.cap hk2.top)
          have hh2 := rhas_any (some ⟨p2, q2, none⟩) j c2 (zs.take j) z wr.drew hrt.drew (by unfold maxLen; omega)
          rw [hβ] at hh1
          rw [hγ] at hh2
          have hjc : (j : Int) ≤ c2 := by omega
          have hjc2 : j ≤ c2 := by omega
          have hj0 : (0 : Int) ≤ j := by omega
          clear hβ hγ hg hk2 hokj hrt hcz hm1
          go_wp2_with fail
          refine wp_region_ord (S := fun w' => w'.cell? ⟨p, q + j, none⟩ = some (.slice u.A u.n u.c) ∧ w'.cell? ⟨p2, q2 + j, none⟩ = some (.int .i64 z)) [(0, true), (1, true), (2, true), (3, true), (4, true), (5, true), (6, true), (7, true), (8, false), (9, true), (10, true), (11, true), (12, true), (13, true), (14, true), (15, true), (16, true), (17, true), (18, false), (19, true)] default (by kernel_rfl) (by kernel_rfl) (by kernel_rfl) ⟨hcell, hc2⟩ ?_
          simp only [getOrd, nth]
          repeat (first | (refine ordS (by rfl) ?_; simp only [Act.put, List.setIfInBounds_toArray, List.set_cons_zero, List.set_cons_succ]) | (refine ordN (by rfl) ?_; simp only [Act.put, List.setIfInBounds_toArray, List.set_cons_zero, List.set_cons_succ]) | (refine ordQ (v := ?_) (by rfl) (fun _ hSw => ?_) ?_; rotate_left; (focus ((have hS1 := hSw.1); (have hS2 := hSw.2); clear hSw; go_simp; (first | done | with_reducible rfl))); simp only [Act.put, List.setIfInBounds_toArray, List.set_cons_zero, List.set_cons_succ]))
          refine ordD (by rfl) ?_
          intro K hK
          go_simp
          refine hh1.mono ?_
          rintro e w2 ⟨rfl, rfl⟩
          go_wp2_with fail
          refine hK _ _ ⟨hcell, hc2⟩ ?_
          clear hK K hh1
          try simp only [Act.put, List.setIfInBounds_toArray, List.set_cons_zero, List.set_cons_succ]
          have hBd := hbel.drew
          have hBrd := hBr.drew
          cases β
          · clear hh2
            repeat (first | (refine ordS (by rfl) ?_; simp only [Act.put, List.setIfInBounds_toArray, List.set_cons_zero, List.set_cons_succ]) | (refine ordN (by rfl) ?_; simp only [Act.put, List.setIfInBounds_toArray, List.set_cons_zero, List.set_cons_succ]) | (refine ordQ (v := ?_) (by rfl) (fun _ hSw => ?_) ?_; rotate_left; (focus ((have hS1 := hSw.1); (have hS2 := hSw.2); clear hSw; go_simp; (first | done | with_reducible rfl))); simp only [Act.put, List.setIfInBounds_toArray, List.set_cons_zero, List.set_cons_succ]))
            refine ordE ?_
            have HR : Hid (F = false) := Lib.hid (by
              rw [← HF.out]
              by_cases hc : fitsG g m zs = true
              · have h3 := (fitsG_iff.1 hc).2.2 j (by rw [HUL.out]; exact hlt)
                rw [HOK.out] at h3
                exact absurd h3 (by simp)
              · simpa using hc)
            go_wp2
            go_ret
            exact ⟨ret_bool HR.out.symm, hBrd⟩
          · repeat (first | (refine ordS (by rfl) ?_; simp only [Act.put, List.setIfInBounds_toArray, List.set_cons_zero, List.set_cons_succ]) | (refine ordN (by rfl) ?_; simp only [Act.put, List.setIfInBounds_toArray, List.set_cons_zero, List.set_cons_succ]) | (refine ordQ (v := ?_) (by rfl) (fun _ hSw => ?_) ?_; rotate_left; (focus ((have hS1 := hSw.1); (have hS2 := hSw.2); clear hSw; go_simp; (first | done | with_reducible rfl))); simp only [Act.put, List.setIfInBounds_toArray, List.set_cons_zero, List.set_cons_succ]))
            refine ordD (by rfl) ?_
            intro K hK
            go_simp
            refine hh2.mono ?_
            rintro e w2 ⟨rfl, rfl⟩
            go_wp2_with fail
            refine hK _ _ ⟨hcell, hc2⟩ ?_
            clear hK K hh2
            try simp only [Act.put, List.setIfInBounds_toArray, List.set_cons_zero, List.set_cons_succ]
            repeat (first | (refine ordS (by rfl) ?_; simp only [Act.put, List.setIfInBounds_toArray, List.set_cons_zero, List.set_cons_succ]) | (refine ordN (by rfl) ?_; simp only [Act.put, List.setIfInBounds_toArray, List.set_cons_zero, List.set_cons_succ]) | (refine ordQ (v := ?_) (by rfl) (fun _ hSw => ?_) ?_; rotate_left; (focus ((have hS1 := hSw.1); (have hS2 := hSw.2); clear hSw; go_simp; (first | done | with_reducible rfl))); simp only [Act.put, List.setIfInBounds_toArray, List.set_cons_zero, List.set_cons_succ]))
            refine ordE ?_
            cases γ
            · have HN := Lib.hid (show ∀ i, i < j + 1 → okAt g zs i = true by
                intro i hi
                by_cases he : i = j
                · rw [he, HOK.out]; rfl
                · exact hok.out i (by omega))
              go_wp2
              go_roundw
              case rel => exact ⟨j + 1, by omega, by go_num, HN, hBd⟩
              case measure => simp [intOf]; omega
            · have HR : Hid (F = false) := Lib.hid (by
                rw [← HF.out]
                by_cases hc : fitsG g m zs = true
                · have h3 := (fitsG_iff.1 hc).2.2 j (by rw [HUL.out]; exact hlt)
                  rw [HOK.out] at h3
                  exact absurd h3 (by simp)
                · simpa using hc)
              go_wp2
              go_ret
              exact ⟨ret_bool HR.out.symm, hBrd⟩
      · obtain rfl : j = n2 := by omega
        have HR : Hid (F = true) := Lib.hid (by
          rw [← HF.out]
          exact fitsG_iff.2 ⟨HB.out, by rw [HUL.out, HGL.out], fun i hi => hok.out i (by rw [HUL.out] at hi; exact hi)⟩)
        go_wp2
        go_ret
        exact ⟨ret_bool HR.out.symm, hBr⟩
  · have hne1 : ((n2 : Int) != (n : Int)) = true := by rw [bne_iff_ne]; omega
    have HR : Hid (F = false) := Lib.hid (by rw [← HF.out, fitsG, decide_eq_false (show ¬ zs.length = g.length by rw [HUL.out, HGL.out]; exact hne)]; simp)
    clear hne
    go_enter Tryz.func91, Tryz.ntmps91
    go_wp2_with fail
    refine hck.mono ?_
    rintro e w1 ⟨rfl, hb1⟩
    clear hck
    go_wp2
    go_ret
    exact ⟨ret_bool HR.out.symm, hb1⟩

set_option maxRecDepth 100000 in
set_option maxHeartbeats 1000000 in
theorem rnearG : NearC 26 := by
  intro x m u w h hu h1 h2
  have hck := rcheckG x m w h h1 h2
  obtain ⟨B, hB⟩ : ∃ B, checkG x.g m = B := ⟨_, rfl⟩
  obtain ⟨R, hR⟩ : ∃ R, riseB u.zs x.g.length = R := ⟨_, rfl⟩
  have hno : nearOk x.g m u.zs = (B && R) := by rw [nearOk, hB, hR]
  have herr : nearErr x.g m u.zs = if (B && R) = true then 0 else 1 := by rw [nearErr, hno]
  have hne : nearE x.g m u.zs = if (B && R) = true then nearG x.g m.toNat u.zs else [] := by rw [nearE, hno]
  rw [herr, hne]
  rw [hB] at hck
  clear hno herr hne
  have hgl := h.glen
  obtain ⟨g, hg0⟩ : ∃ g, x.g = g := ⟨_, rfl⟩
  rw [hg0] at hgl hB hR ⊢
  obtain ⟨A, n, c, t0⟩ := x
  simp only at hgl
  have HG0 := Lib.hid (show Ls.all t0 = g from hg0)
  have HGL := Lib.hid hgl
  have hul := hu.len
  have hur := hu.rd
  have huc := hu.cap
  have hut := hu.top
  obtain ⟨A2, n2, c2, zs⟩ := u
  simp only at hul hur huc hut ⊢
  have HUL := Lib.hid hul
  have htop := h.top
  have hcap := h.cap
  unfold maxLen at htop hut
  simp only at htop hcap
  have tn := Nat.le_trans hcap htop
  have tn2 := Nat.le_trans huc hut

  simp only at hR
  have HB := Lib.hid hB
  have HR := Lib.hid hR
  unfold Gr.v at hck ⊢
  unfold Ls.v
  clear hB hR hgl hg0 hul
  cases B
  · go_enter Tryz.func26, Tryz.ntmps26
    go_wp2_with fail
    refine hck.mono ?_
    rintro e w1 ⟨rfl, hb1⟩
    clear hck
    go_wp2
    go_ret2
    exact ⟨none, 0, 0, rfl, OwnI.nil _ _, hb1⟩
  obtain ⟨q1, q2, q3, q4⟩ := checkG_iff.1 HB.out
  obtain ⟨M, rfl⟩ : ∃ M : Nat, m = M := ⟨m.toNat, by omega⟩
  have hM8 : M ≤ 8 := by omega
  have hn8 : n ≤ 8 := by rw [← HGL.out]; exact q3
  clear q1 q2 q3 q4 h1 h2
  have hri : ∀ v : World, Below w.heap.size w v → Calls Tryz.prog 25 #[.slice A2 n2 c2, .int .i64 n] v fun e w' => e = .returned (.bool R) ∧ Below v.heap.size v w' := fun v hb => by
    have h3 := rrises_any A2 n2 c2 zs n v (hur.below hb) (by unfold maxLen; omega)
    rw [show (n : Int) = ((g.length : Nat) : Int) by rw [HGL.out], HR.out] at h3
    rw [HGL.out] at h3
    exact h3
  cases R
  · go_enter Tryz.func26, Tryz.ntmps26
    go_wp2_with fail
    refine hck.mono ?_
    rintro e w1 ⟨rfl, hb1⟩
    have hc3 := hri w1 hb1
    clear hck hri
    go_wp2_with fail
    refine hc3.mono ?_
    rintro e w2 ⟨rfl, hb2⟩
    have hB2 := hb1.trans (hb2.mono hb1.size)
    clear hc3
    go_wp2
    go_ret2
    exact ⟨none, 0, 0, rfl, OwnI.nil _ _, hB2⟩
  have hrs : Hid (Rises n zs) := Lib.hid (by rw [← HGL.out]; exact of_decide_eq_true HR.out)
  obtain ⟨i0, hi0, hz0, hz1, hz2⟩ := info_parts info6_int
  have hn28 : n2 ≤ n := by rw [← HUL.out]; exact rises_len hrs.out
  go_enter Tryz.func26, Tryz.ntmps26
  go_wp2_with fail
  refine hck.mono ?_
  rintro e w1 ⟨rfl, hb1⟩
  have hc3 := hri w1 hb1
  clear hck hri
  go_wp2_with fail
  refine hc3.mono ?_
  rintro e w2 ⟨rfl, hb2⟩
  have hB := hb1.trans (hb2.mono hb1.size)
  have hx := h.below hB
  have hr := hur.below hB
  clear hc3 hur hu h hb1 hb2
  go_wp2_with fail
  go_loopw [8, 9] (fun v i wr => ∃ (j k : Nat) (A' : Option Addr) (c' : Nat) (l : List Int), j ≤ M ∧ k ≤ j ∧ i = .int .i64 j ∧ v = .slice A' k c' ∧ Own wr w2.heap.size 3 A' k c' (ci64 l) ∧ Hid (l = nearG g j zs) ∧ Below w2.heap.size w2 wr) (fun _ i _ => M - (intOf i).toNat)
  case atStart => exact ⟨0, 0, none, 0, [], Nat.zero_le _, Nat.le_refl _, rfl, rfl, Own.none_ _ _ _ _, Lib.hid rfl, Below.refl _ _⟩
  case round =>
    obtain ⟨j, k, A', c', l, hj, hkj, rfl, rfl, hown, hl, hbel⟩ := hrel
    by_cases hlt : j < M
    · have hlt' : (j : Int) < M := by omega
      obtain ⟨wo, rfl⟩ : ∃ wo, wo = wr := ⟨_, rfl⟩
      have hxr := hx.below hbel
      have hrr := hr.below hbel
      have hst : nearG g (j + 1) zs = l ++ (if (zs.any fun i => decide ((j : Int) ∈ g.getD i.toNat [])) = true then [(j : Int)] else []) := by
        rw [nearG, upto_succ, hl.out, nearG]
      have HST := Lib.hid hst
      clear hst hl
      go_wp2_with fail
      go_loopw [8, 10] (fun v i wr => ∃ i' : Nat, i' ≤ n2 ∧ i = .int .i64 i' ∧ v = .slice A' k c' ∧ wo = wr ∧ Hid (∀ z ∈ zs.take i', ¬ (j : Int) ∈ g.getD z.toNat [])) (fun _ i _ => n2 - (intOf i).toNat)
      case atStart => exact ⟨0, Nat.zero_le _, rfl, rfl, rfl, Lib.hid (by simp)⟩
      case round =>
        obtain ⟨i, hi, rfl, rfl, rfl, hno⟩ := hrel
        by_cases hil : i < n2
        · obtain ⟨p2, q2, rfl, hp2, u0, hu0, hc2⟩ := hrr.get hil
          have hjl : i < zs.length := by rw [HUL.out]; exact hil
          rw [ci64_get _ _ hjl] at hu0
          obtain rfl : iV zs[i] = u0 := Option.some.inj hu0
          unfold iV at hc2
          have hb := hrs.out.1 zs[i] (List.getElem_mem hjl)
          have htk : zs.take (i + 1) = zs.take i ++ [zs[i]] := List.take_succ_eq_append_getElem hjl
          have hmem : zs[i] ∈ zs := List.getElem_mem hjl
          obtain ⟨z, hz⟩ : ∃ z, zs[i] = z := ⟨_, rfl⟩
          rw [hz] at hc2 hb htk hmem
          obtain ⟨y, rfl⟩ : ∃ y : Nat, z = y := ⟨z.toNat, by omega⟩
          have hyn : y < n := by omega
          have hyn' : (y : Int) < n := by omega
          obtain ⟨p, q, u, rfl, hg, hp, hcell, hk2⟩ := gr_get hxr HG0.out hyn
          obtain ⟨β, hβ⟩ : ∃ β, decide ((j : Int) ∈ u.zs) = β := ⟨_, rfl⟩
          have hh1 := rhas_any u.A u.n u.c u.zs (j : Int) wo hk2.rd (Nat.le_trans hk2.cap hk2.top)
          rw [hβ] at hh1
          have HT := Lib.hid htk
          have HM := Lib.hid hmem
          have HGU := Lib.hid hg
          have HBE := Lib.hid hβ
          clear hu0 hz hb htk hmem hg hβ hk2
          go_wp2_with fail
          refine hh1.mono ?_
          rintro e w3 ⟨rfl, rfl⟩
          clear hh1
          cases β
          · have HN := Lib.hid (show ∀ z ∈ zs.take (i + 1), ¬ (j : Int) ∈ g.getD z.toNat [] by
              rw [HT.out]
              intro z hz
              rcases List.mem_append.1 hz with hz | hz
              · exact hno.out z hz
              · rw [List.mem_singleton.1 hz, Int.toNat_natCast, HGU.out]
                exact of_decide_eq_false HBE.out)
            go_wp2
            go_roundw
            case rel => exact ⟨i + 1, by omega, by go_num, rfl, trivial, HN⟩
            case measure => simp [intOf]; omega
          · have HN := Lib.hid (show l ++ [(j : Int)] = nearG g (j + 1) zs by
              rw [HST.out, if_pos]
              rw [List.any_eq_true]
              exact ⟨_, HM.out, by rw [Int.toNat_natCast, HGU.out]; exact HBE.out⟩)
            have hwo := hbel.size
            go_wp2_with (at_builtin; go_must (refine wpList_app1 wo rfl _ _ 25 rfl 3 i0 _ 8 Tryz.underlying25 hi0 hz0 hz1 hz2 rfl w2.heap.size A' k c' _ rfl hown 1 rfl rfl ?c3 ?c4 ?c5 ?_))
            case c3 => simp only [maxLen]; omega
            case c4 => omega
            case c5 => exact hwo
            intro A3 c3 w3 hown3 hbel3 hfr3 hat3
            have hown4 : Own w3 w2.heap.size 3 A3 (k + 1) c3 (ci64 (l ++ [(j : Int)])) := by
              rw [ci64_snoc6]
              exact hown3
            have hbk3 : Below w2.heap.size w2 w3 := hbel.trans hbel3
            clear hown3 hbel3 hfr3 hat3 hown hcell hc2
            go_wp2
            go_roundw
            case rel => exact ⟨j + 1, k + 1, A3, c3, _, by omega, by omega, by go_num, rfl, hown4, HN, hbk3⟩
            case measure => simp [intOf]; omega
        · obtain rfl : i = n2 := by omega
          have HN := Lib.hid (show l = nearG g (j + 1) zs by
            rw [HST.out, if_neg, List.append_nil]
            rw [List.any_eq_true]
            rintro ⟨z, hz, hd⟩
            have h3 := hno.out
            rw [List.take_of_length_le (by rw [HUL.out]; exact Nat.le_refl _)] at h3
            exact h3 z hz (of_decide_eq_true hd))
          go_wp2
          go_roundw
          case rel => exact ⟨j + 1, k, A', c', l, by omega, by omega, by go_num, rfl, hown, HN, hbel⟩
          case measure => simp [intOf]; omega
    · obtain rfl : j = M := by omega
      have HF := Lib.hid hl.out
      have hBr := hB.trans (hbel.mono hB.size)
      have hfit : Hid (∀ z ∈ l, -9223372036854775808 ≤ z ∧ z ≤ 9223372036854775807) := Lib.hid (by
        intro z hz
        rw [HF.out] at hz
        have h3 := (upto_rises _ _).1 z hz
        omega)
      go_wp2
      go_ret2
      refine ⟨A', k, c', rfl, ?_, hBr⟩
      show OwnI _ _ ⟨A', k, c', nearG g ((j : Int)).toNat zs⟩
      rw [Int.toNat_natCast, ← HF.out]
      exact ⟨hown.mono hB.size, hfit.out⟩
end Go.Proofs.YtcjfgkihmhdhlaaGreatDoor
