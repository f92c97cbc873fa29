/-
  Walks of package weights: Best, Proved.
-/
import Derived.Test.YtiaoplghaigclaaWeWd
import Derived.Test.YtiaoplghaigclaaWeI
namespace Go.Proofs.Ytiaoplghaigclaa
open Go.RowKit
set_option linter.unusedVariables false

theorem OwnI.putW {w : World} {B g n c k : Nat} {zs : List Int} {z : Int} (h : OwnI w B ⟨some ⟨g, 0, none⟩, n, c, zs⟩) (hc : 0 < c) (hz : -9223372036854775808 ≤ z ∧ z ≤ 9223372036854775807) : OwnI (w.setCell ⟨g, k, none⟩ (.int .i64 z)) B ⟨some ⟨g, 0, none⟩, n, c, zs.set k z⟩ := by
  refine ⟨?_, fun y hy => ?_⟩
  · have h1 := h.own.set hc k (.int .i64 z)
    have h2 : ci64 (zs.set k z) = (ci64 zs).set k (.int .i64 z) := by simp [ci64, iV]
    show Own _ B _ _ n c (ci64 (zs.set k z))
    rw [h2]; exact h1
  · rcases List.mem_or_eq_of_mem_set hy with h1 | h1
    · exact h.fit y h1
    · rw [h1]; exact hz
set_option maxRecDepth 100000 in
set_option maxHeartbeats 1000000 in
theorem pbestC : BestC 13 := by
  intro x m w hx hm1 hm2
  have hc := wmaybe_any x m w hx hm1 hm2
  obtain ⟨B, hB0⟩ : ∃ B, mayW x.g m = B := ⟨_, rfl⟩
  rw [hB0] at hc
  have hgl := hx.glen
  have hv : x.v = .slice x.A x.n x.c := rfl
  rw [hv] at hc ⊢
  cases B
  · obtain ⟨e1, e2, _⟩ := we_bad hB0
    rw [e1, e2]
    clear hB0 e1 e2 hv hgl
    go_enter Try.func13, Try.ntmps13
    go_wp2_with fail
    refine hc.mono ?_
    rintro e w1 ⟨rfl, rfl⟩
    clear hc
    go_wp2
    go_ret2
    exact ⟨rfl, Below.refl _ _⟩
  · obtain ⟨M, rfl⟩ : ∃ M : Nat, m = M := ⟨m.toNat, by have := (mayW_iff.1 hB0).1; omega⟩
    obtain ⟨e1, e2, _⟩ := we_ok hB0
    rw [e1, e2, hgl]
    have r3 := (mayW_iff.1 hB0).2.2.1
    rw [hgl] at r3
    have hn8 : x.n ≤ 8 := r3
    have htb := wtable_any x M w hx hB0
    rw [hv] at htb
    have hev := fun w1 => wevery_any x.A x.n x.c w1 hn8
    have hall := hadT_all (gG x.g) M x.n
    have hp : 2 ^ x.n ≤ 2 ^ 8 := Nat.pow_le_pow_right (by omega) hn8
    obtain ⟨N, hN⟩ : ∃ N, 2 ^ x.n - 1 = N := ⟨_, rfl⟩
    have hN2 : N < 256 := by rw [← hN]; exact Nat.lt_of_lt_of_le (Nat.sub_lt (Nat.two_pow_pos _) (by omega)) hp
    rw [hN] at hev hall
    have hN0 : (0 : Int) ≤ N := by omega
    have hN256 : (N : Int) < 256 := by omega
    clear hB0 e1 e2 hgl r3 hp hN hv
    go_enter Try.func13, Try.ntmps13
    go_wp2_with fail
    refine hc.mono ?_
    rintro e w1 ⟨rfl, rfl⟩
    clear hc
    go_wp2_with fail
    refine htb.mono ?_
    rintro e w2 ⟨rfl, hb2⟩
    clear htb
    go_wp2_with (refine wpList_newTab rfl rfl ?_)
    intro w3 t6 hb3
    have hB3 := hb2.trans (hb3.mono hb2.size)
    have h26 := hb2.size
    obtain ⟨b6, hb6⟩ : ∃ b6, b6 = w2.heap.size := ⟨_, rfl⟩
    rw [← hb6] at t6 h26 ⊢
    clear hb6 hb2 hb3
    go_wp2_with (refine wpList_storeTab rfl _ _ rfl b6 rfl _ _ rfl t6 ?_)
    intro w4 t64 hq1 hq2 hb4
    clear hq1 hq2
    have hB4 := hB3.trans (hb4 _ h26)
    have hcell := t64.cell hN2
    rw [hall] at hcell
    have hct := hev w4
    clear hev t6 hB3 hb4 hall
    go_wp2_with fail
    refine hct.mono ?_
    rintro e w5 ⟨rfl, rfl⟩
    clear hct
    go_wp2
    go_ret2
    exact ⟨rfl, hB4⟩

set_option maxRecDepth 100000 in
set_option maxHeartbeats 1000000 in
theorem pprovedC : ProvedC 14 := by
  intro x m w hx hm1 hm2
  obtain ⟨i0, hi0, hz0, hz1, hz2⟩ := info_parts infoW_int
  have hc := wmaybe_any x m w hx hm1 hm2
  obtain ⟨B, hB0⟩ : ∃ B, mayW x.g m = B := ⟨_, rfl⟩
  rw [hB0] at hc
  have hgl := hx.glen
  have hv : x.v = .slice x.A x.n x.c := rfl
  rw [hv] at hc ⊢
  cases B
  · obtain ⟨_, e2, e3, e4⟩ := we_bad hB0
    rw [e2, e3, e4]
    clear hB0 e2 e3 e4 hv hgl
    go_enter Try.func14, Try.ntmps14
    go_wp2_with fail
    refine hc.mono ?_
    rintro e w1 ⟨rfl, rfl⟩
    clear hc
    go_wp2
    go_ret3
    exact ⟨none, 0, 0, none, 0, 0, rfl, OwnI.nil _ _, OwnI.nil _ _, List.pairwise_cons.2 ⟨fun b hb g hg => absurd hg.1 (by simp), List.pairwise_singleton _ _⟩, Below.refl _ _⟩
  · obtain ⟨M, rfl⟩ : ∃ M : Nat, m = M := ⟨m.toNat, by have := (mayW_iff.1 hB0).1; omega⟩
    obtain ⟨_, e2, e3, e4⟩ := we_ok hB0
    obtain ⟨r1, r2, r3, r4⟩ := mayW_iff.1 hB0
    have HROW := Lib.hid (show ∀ l ∈ x.g, l.length = M ∧ ∀ z ∈ l, -1000000 ≤ z ∧ z ≤ 1000000 from fun l hl => ⟨by have := (r4 l hl).1; omega, (r4 l hl).2⟩)
    rw [hgl] at r3
    have hn8 : x.n ≤ 8 := r3
    have hM8 : M ≤ 8 := by omega
    have hM1 : 1 ≤ M := by omega
    have htb := wtable_any x M w hx hB0
    rw [hv] at htb
    have hev := fun w1 => wevery_any x.A x.n x.c w1 hn8
    have hall := hadT_all (gG x.g) M x.n
    have HMO : Hid (∀ k, k < M → moreF (hadT (gG x.g) x.n M) (fun i => gG x.g i k) (2 ^ x.n - 1) x.n = bestV (gG x.g) M x.n + numP (gG x.g) M x.n k) := Lib.hid fun k hk => hadT_more hk
    have HF : Hid (∀ s, 0 ≤ hadT (gG x.g) x.n M s ∧ hadT (gG x.g) x.n M s ≤ 10000000) := Lib.hid fun s => by
      have := hadT_bound hB0 x.n M s hn8 hM8; omega
    have hp : 2 ^ x.n ≤ 2 ^ 8 := Nat.pow_le_pow_right (by omega) hn8
    obtain ⟨S, hS⟩ : ∃ S, 2 ^ x.n - 1 = S := ⟨_, rfl⟩
    have hS2 : S < 256 := by rw [← hS]; exact Nat.lt_of_lt_of_le (Nat.sub_lt (Nat.two_pow_pos _) (by omega)) hp
    rw [hS] at hev hall HMO
    have hS0 : (0 : Int) ≤ S := by omega
    have hS256 : (S : Int) < 256 := by omega
    obtain ⟨N, hN⟩ : ∃ N, numP (gG x.g) M x.n = N := ⟨_, rfl⟩
    obtain ⟨a0, ha0⟩ : ∃ a, bestV (gG x.g) M x.n = a := ⟨_, rfl⟩
    have HGL := Lib.hid hgl
    have hab : 0 ≤ a0 ∧ a0 ≤ 8000000 := by rw [← ha0, ← hgl]; exact best_bound hB0
    have HNB : Hid (∀ k, k < M → 0 ≤ N k ∧ N k ≤ 8000000) := Lib.hid fun k hk => by rw [← hN, ← hgl]; exact num_bound hB0 k hk
    have HGB : Hid (∀ b c, -1000000 ≤ gG x.g b c ∧ gG x.g b c ≤ 1000000) := Lib.hid fun b c => gG_bound hB0 b c
    have e3' : ofE x.g M = (List.range M).map N := by rw [e3, hgl, hN]
    have e4' : bidE x.g M = (List.range x.n).map fun i => topN (fun k => gG x.g i k - N k) M := by
      rw [e4, hgl]
      exact List.map_congr_left fun i _ => by rw [bidP, hN]
    rw [e2, e3', e4']
    rw [hN, ha0] at HMO
    rw [ha0] at hall
    clear hB0 e2 e3 e4 e3' e4' r1 r2 r3 r4 hN ha0 hp hS hgl hm1 hm2 hv
    obtain ⟨T, hT⟩ : ∃ T, hadT (gG x.g) x.n M = T := ⟨_, rfl⟩
    rw [hT] at htb hall HMO HF
    clear hT
    go_enter Try.func14, Try.ntmps14
    go_wp2_with fail
    refine hc.mono ?_
    rintro e w1 ⟨rfl, hw1⟩
    replace hw1 := hw1.symm
    subst hw1
    clear hc
    go_wp2_with fail
    refine htb.mono ?_
    rintro e w2 ⟨rfl, hb2⟩
    clear htb
    have hct := hev w2
    clear hev
    go_wp2_with fail
    refine hct.mono ?_
    rintro e w2' ⟨rfl, rfl⟩
    clear hct
    go_wp2_with (refine wpList_newTab rfl rfl ?_)
    intro w3 t6 hb3
    have hB3 := hb2.trans (hb3.mono hb2.size)
    have h26 := hb2.size
    obtain ⟨b7, hb7⟩ : ∃ b7, b7 = w2'.heap.size := ⟨_, rfl⟩
    rw [← hb7] at t6 h26 ⊢
    clear hb7 hb2 hb3
    go_wp2_with (refine wpList_storeTab rfl _ _ rfl b7 rfl _ _ rfl t6 ?_)
    intro w4 t7 hq1 hq2 hb4
    clear hq1 hq2
    have hB4 := hB3.trans (hb4 _ h26)
    have hb7l := t7.lt
    clear t6 hB3 hb4
    go_wp2_with (at_make; go_must (refine wpList_mk _ rfl _ _ 28 rfl w4.heap.size 3 i0 _ Try.underlying28 hi0 hz0 hz1 rfl .i64 .i64 _ _ M rfl rfl rfl rfl ?mk2 ?mk3 ?mk4 ?_))
    case mk2 => rw [hz2]; omega
    case mk3 => simp only [maxLen]; omega
    case mk4 => exact Nat.le_refl _
    intro w5 ho5 hb5
    have t75 := t7.below hb5
    have hB5 := hB4.trans (hb5.mono hB4.size)
    have h7g : b7 < w4.heap.size := hb7l
    obtain ⟨g5, hg5⟩ : ∃ g5, g5 = w4.heap.size := ⟨_, rfl⟩
    have hwg5 : w.heap.size ≤ g5 := by rw [hg5]; exact hB4.size
    rw [← hg5] at ho5 h7g ⊢
    have hO5 : OwnI w5 g5 ⟨some ⟨g5, 0, none⟩, M, M, mixL N (fun _ => 0) M 0⟩ := by
      refine ⟨?_, fun z hz => ?_⟩
      · rw [mix_zero]
        have e : ci64 ((List.range M).map fun _ => (0 : Int)) = List.replicate M (.int .i64 0) := by
          rw [ci64, List.map_map]
          exact List.eq_replicate_iff.2 ⟨by simp, fun v hv => by obtain ⟨s, _, rfl⟩ := List.mem_map.1 hv; rfl⟩
        show Own w5 g5 _ _ M M (ci64 _)
        rw [e]; exact ho5
      · rw [mix_zero] at hz
        obtain ⟨s, _, rfl⟩ := List.mem_map.1 hz
        omega
    clear ho5 hg5 hb5 t7 hB4
    go_wp2_with fail
    go_loopw [25] (fun v wr => ∃ j : Nat, j ≤ M ∧ v = .int .i64 j ∧ TabAt wr b7 T ∧ OwnI wr g5 ⟨some ⟨g5, 0, none⟩, M, M, mixL N (fun _ => 0) M j⟩ ∧ Below w.heap.size w wr) (fun v _ => M - (intOf v).toNat)
    case atStart => exact ⟨0, Nat.zero_le _, rfl, t75, hO5, hB5⟩
    case round =>
      clear t75 hO5 hB5
      obtain ⟨j, hj, rfl, t7, hO, hB⟩ := hrel
      by_cases hlt : j < M
      · have hlt' : (j : Int) < M := by omega
        have hj0 : (0 : Int) ≤ j := by omega
        obtain ⟨wd, hwd⟩ : ∃ wd, wd = wr.drew := ⟨_, rfl⟩
        have t7d : TabAt wd b7 T := by rw [hwd]; exact t7
        have hOd : OwnI wd g5 ⟨some ⟨g5, 0, none⟩, M, M, mixL N (fun _ => 0) M j⟩ := by rw [hwd]; exact ⟨hO.own.drew, hO.fit⟩
        have hBd : Below w.heap.size w wd := by rw [hwd]; exact hB.drew
        have hone := wone_any x b7 T j S M wd t7d (hx.below hBd) hn8 hS2 hlt HROW.out HF.out
        rw [HMO.out j hlt, show x.v = .slice x.A x.n x.c from rfl] at hone
        have hnb := HNB.out j hlt
        obtain ⟨nj, hnj⟩ : ∃ q, N j = q := ⟨_, rfl⟩
        rw [hnj] at hone hnb
        have s1 : IntKind.i64.wrap (a0 + nj - a0) = nj := by rw [IntKind.wrap_i64]; omega
        have hS : ∀ w', Below wd.heap.size wd w' → w'.cell? ⟨b7, S, none⟩ = some (.int .i64 a0) := fun w' hb => by
          have := (t7d.below hb).cell hS2
          rwa [hall] at this
        have HNJ := Lib.hid hnj
        clear hnj t7 hO hB
        go_wp2_with fail
        refine wp_region_ord (S := fun w' => w'.cell? ⟨b7, S, none⟩ = some (.int .i64 a0)) [(0, true), (1, true), (2, true), (3, true), (4, true), (6, true), (7, true), (8, true), (5, false), (9, true), (10, true), (11, false)] default (by kernel_rfl) (by kernel_rfl) (by kernel_rfl) (by rw [← hwd]; exact hS _ (Below.refl _ _)) ?_
        simp only [getOrd, nth]
        rw [← hwd]
        clear hwd
        repeat (first | (refine ordS (by rfl) ?_; simp only [Act.put, List.setIfInBounds_toArray, List.set_cons_zero, List.set_cons_succ]) | (refine ordN (by rfl) ?_; simp only [Act.put, List.setIfInBounds_toArray, List.set_cons_zero, List.set_cons_succ]) | (refine ordQ (v := ?_) (by rfl) (fun _ hSw => ?_) ?_; rotate_left; (focus ((have hS1 := hSw); clear hSw; go_simp; (first | done | with_reducible rfl))); simp only [Act.put, List.setIfInBounds_toArray, List.set_cons_zero, List.set_cons_succ]))
        refine ordD (by rfl) ?_
        intro K hK
        go_simp
        refine hone.mono ?_
        rintro e w6 ⟨rfl, hb6⟩
        clear hone
        have t76 := t7d.below hb6
        have hO6 := hOd.below hb6
        have hB6 := hBd.trans (hb6.mono hBd.size)
        have hc6 := hS _ hb6
        have hcell := hO6.own.cell (j := j) hlt
        rw [show ci64 (mixL N (fun _ => 0) M j) = (mixL N (fun _ => 0) M j).map iV from rfl, List.getElem?_map, mix_get hlt] at hcell
        replace hcell : w6.cell? ⟨g5, j, none⟩ = some (.int .i64 0) := hcell
        have hfree := hO6.own.free (show 0 < M by omega) j
        have hO7 : OwnI (w6.setCell ⟨g5, j, none⟩ (.int .i64 nj)) g5 ⟨some ⟨g5, 0, none⟩, M, M, mixL N (fun _ => 0) M (j + 1)⟩ := by
          have := hO6.putW (k := j) (z := nj) (by omega) (by omega)
          rw [← HNJ.out, mix_set] at this
          rw [← HNJ.out]; exact this
        have t77 : TabAt (w6.setCell ⟨g5, j, none⟩ (.int .i64 nj)) b7 T := t76.other (by omega)
        have hB7 := hB6.setCell (p := ⟨g5, j, none⟩) hwg5 (.int .i64 nj)
        have hc7 := t77.cell hS2
        rw [hall] at hc7
        clear hOd t7d hBd hS hb6 hB6 t76
        go_wp2_with fail
        refine hK _ _ hc6 ?_
        clear hK K
        try simp only [Act.put, List.setIfInBounds_toArray, List.set_cons_zero, List.set_cons_succ]
        repeat (first | (refine ordS (by rfl) ?_; simp only [Act.put, List.setIfInBounds_toArray, List.set_cons_zero, List.set_cons_succ]) | (refine ordN (by rfl) ?_; simp only [Act.put, List.setIfInBounds_toArray, List.set_cons_zero, List.set_cons_succ]) | (refine ordQ (v := ?_) (by rfl) (fun _ hSw => ?_) ?_; rotate_left; (focus ((have hS1 := hSw); clear hSw; go_simp; (first | done | with_reducible rfl))); simp only [Act.put, List.setIfInBounds_toArray, List.set_cons_zero, List.set_cons_succ]))
        refine ordD (by rfl) ?_
        intro K hK
        go_simp
        refine hK _ _ hc7 ?_
        clear hK K
        refine ordE ?_
        clear hc6 hc7 hcell hfree hO6
        go_wp2
        go_roundw
        case rel => exact ⟨j + 1, by omega, by go_num, t77, hO7, hB7⟩
        case measure => simp [intOf]; omega
      · obtain rfl : j = M := by omega
        rw [mix_all] at hO
        obtain ⟨wo, rfl⟩ : ∃ wo, wo = wr := ⟨_, rfl⟩
        clear t7 HMO HF hall
        go_wp2_with (at_make; go_must (refine wpList_mk _ rfl _ _ 28 rfl wo.heap.size 3 i0 _ Try.underlying28 hi0 hz0 hz1 rfl .i64 .i64 _ _ x.n rfl rfl rfl rfl ?mj2 ?mj3 ?mj4 ?_))
        case mj2 => rw [hz2]; omega
        case mj3 => simp only [maxLen]; omega
        case mj4 => exact Nat.le_refl _
        intro w8 ho8 hb8
        have hO8 := hO.below hb8
        have hB8 := hB.trans (hb8.mono hB.size)
        obtain ⟨g8, hg8⟩ : ∃ g8, g8 = wo.heap.size := ⟨_, rfl⟩
        have hwg8 : w.heap.size ≤ g8 := by rw [hg8]; exact hB.size
        have h58 : g5 < g8 := by
          obtain ⟨g', hA', _, h3⟩ := hO.own.lt (show 0 < j by omega)
          simp only at hA'
          cases hA'
          rw [hg8]; exact h3
        rw [← hg8] at ho8 ⊢
        have hZ8 : OwnI w8 g8 ⟨some ⟨g8, 0, none⟩, x.n, x.n, mixL (fun i => topN (fun k => gG x.g i k - N k) j) (fun _ => 0) x.n 0⟩ := by
          refine ⟨?_, fun z hz => ?_⟩
          · rw [mix_zero]
            have e : ci64 ((List.range x.n).map fun _ => (0 : Int)) = List.replicate x.n (.int .i64 0) := by
              rw [ci64, List.map_map]
              exact List.eq_replicate_iff.2 ⟨by simp, fun v hv => by obtain ⟨s, _, rfl⟩ := List.mem_map.1 hv; rfl⟩
            show Own w8 g8 _ _ x.n x.n (ci64 _)
            rw [e]; exact ho8
          · rw [mix_zero] at hz
            obtain ⟨s, _, rfl⟩ := List.mem_map.1 hz
            omega
        clear ho8 hg8 hb8 hO hB
        go_wp2_with fail
        go_loopw [45] (fun v wr => ∃ i : Nat, i ≤ x.n ∧ v = .int .i64 i ∧ OwnI wr g5 ⟨some ⟨g5, 0, none⟩, j, j, (List.range j).map N⟩ ∧ OwnI wr g8 ⟨some ⟨g8, 0, none⟩, x.n, x.n, mixL (fun i => topN (fun k => gG x.g i k - N k) j) (fun _ => 0) x.n i⟩ ∧ Below w.heap.size w wr) (fun v _ => x.n - (intOf v).toNat)
        case atStart => exact ⟨0, Nat.zero_le _, rfl, hO8, hZ8, hB8⟩
        case round =>
          clear hO8 hZ8 hB8
          obtain ⟨i, hi, rfl, hO, hZ, hB⟩ := hrel
          by_cases hin : i < x.n
          · have hin' : (i : Int) < x.n := by omega
            have hi0' : (0 : Int) ≤ i := by omega
            obtain ⟨p2, q2, u, hAx, _, hgy, hp2, hcx0, hku0⟩ := hx.get hin
            have hcx := (hB.cell (p := ⟨p2, q2 + i, none⟩) hp2).trans hcx0
            have hku := hku0.below hB
            have hgi : x.g[i]? = some u.zs := by
              rw [← hgy, List.getD_eq_getElem?_getD, List.getElem?_eq_getElem (by rw [HGL.out]; exact hin)]; rfl
            have hrw := HROW.out u.zs (List.mem_of_getElem? hgi)
            have huz : u.zs = (List.range j).map (gG x.g i) := by
              refine List.ext_getElem? fun k => ?_
              rw [List.getElem?_map]
              by_cases hk : k < j
              · rw [List.getElem?_range hk, List.getElem?_eq_getElem (by rw [hrw.1]; exact hk), Option.map_some, gG, hgy, List.getD_eq_getElem?_getD, List.getElem?_eq_getElem (by rw [hrw.1]; exact hk)]; rfl
              · rw [List.getElem?_eq_none (by rw [hrw.1]; omega), List.getElem?_eq_none (by simp; omega)]; rfl
            have hab2 := wabove_any u ⟨some ⟨g5, 0, none⟩, j, j, (List.range j).map N⟩ j (gG x.g i) N wr hku hO.ok hM8 huz rfl (fun k _ => HGB.out i k) fun k hk => by have := HNB.out k hk; omega
            simp only at hab2
            have htb := top_le (f := fun k => gG x.g i k - N k) (a := 1000000) (by omega) (m := j) fun k hk => by
              have := HGB.out i k; have := HNB.out k hk; omega
            have htn := top_nonneg (fun k => gG x.g i k - N k) j
            obtain ⟨q, hq⟩ : ∃ q, topN (fun k => gG x.g i k - N k) j = q := ⟨_, rfl⟩
            rw [hq] at hab2 htb htn
            have HQ := Lib.hid hq
            replace hcx : wr.cell? ⟨p2, q2 + i, none⟩ = some (.slice u.A u.n u.c) := hcx
            clear hcx0 hku0 hku hgi hrw huz hq hgy
            rw [hAx]
            go_wp2_with fail
            refine hab2.mono ?_
            rintro e w9 ⟨rfl, hb9⟩
            clear hab2
            have hO9 := hO.below hb9
            have hZ9 := hZ.below hb9
            have hB9 := hB.trans (hb9.mono hB.size)
            have hcell := hZ9.own.cell (j := i) hin
            rw [show ci64 (mixL (fun i => topN (fun k => gG x.g i k - N k) j) (fun _ => 0) x.n i) = (mixL (fun i => topN (fun k => gG x.g i k - N k) j) (fun _ => 0) x.n i).map iV from rfl, List.getElem?_map, mix_get hin] at hcell
            replace hcell : w9.cell? ⟨g8, i, none⟩ = some (.int .i64 0) := hcell
            have hfree := hZ9.own.free (show 0 < x.n by omega) i
            have hZ10 : OwnI (w9.setCell ⟨g8, i, none⟩ (.int .i64 q)) g8 ⟨some ⟨g8, 0, none⟩, x.n, x.n, mixL (fun i => topN (fun k => gG x.g i k - N k) j) (fun _ => 0) x.n (i + 1)⟩ := by
              have := hZ9.putW (k := i) (z := topN (fun k => gG x.g i k - N k) j) (by omega) (by rw [HQ.out]; omega)
              rw [mix_set (f := fun i => topN (fun k => gG x.g i k - N k) j)] at this
              rw [← HQ.out]; exact this
            have hO10 : OwnI (w9.setCell ⟨g8, i, none⟩ (.int .i64 q)) g5 ⟨some ⟨g5, 0, none⟩, j, j, (List.range j).map N⟩ := ⟨hO9.own.keep fun g hA _ hg _ => heap_setCell_other w9 _ _ _ (by cases hA; show g5 ≠ g8; omega), hO9.fit⟩
            have hB10 := hB9.setCell (p := ⟨g8, i, none⟩) hwg8 (.int .i64 q)
            clear hO hZ hB hb9 hO9 hZ9 hB9 hcx
            go_wp2
            go_roundw
            case rel => exact ⟨i + 1, by omega, by go_num, hO10, hZ10, hB10⟩
            case measure => simp [intOf]; omega
          · obtain rfl : i = x.n := by omega
            rw [mix_all] at hZ
            have hapt : AptL [⟨some ⟨g8, 0, none⟩, x.n, x.n, (List.range x.n).map fun i => topN (fun k => gG x.g i k - N k) j⟩, ⟨some ⟨g5, 0, none⟩, j, j, (List.range j).map N⟩] := List.pairwise_cons.2 ⟨fun b hb g hg hg2 => by
              rw [List.mem_singleton.1 hb] at hg2
              have h1 := hg.2
              have h2 := hg2.2
              cases h1
              cases h2
              omega, List.pairwise_singleton _ _⟩
            have hZ2 := hZ.mono hwg8
            have hO2 := hO.mono hwg5
            clear hZ hO
            go_wp2
            go_ret3
            exact ⟨_, _, _, _, _, _, rfl, hZ2, hO2, hapt, hB⟩
end Go.Proofs.Ytiaoplghaigclaa
