/-
  Walks of package weights: the table of all items.
-/
import Derived.Test.YtecgakfblhiiaaaWeWc
namespace Go.Proofs.Ytecgakfblhiiaaa
open Go.RowKit
set_option linter.unusedVariables false

set_option maxRecDepth 100000 in
set_option maxHeartbeats 1000000 in
theorem wtable_any (x : Gr) (M : Nat) (w : World) (hx : x.Ok w) (hmay : mayW x.g M = true) :
    Calls Try.prog 21 #[x.v, .int .i64 M] w fun e w' => e = .returned (tabV (hadT (gG x.g) x.n M)) ∧ Below w.heap.size w w' := by
  obtain ⟨r1, r2, r3, r4⟩ := mayW_iff.1 hmay
  have hgl := hx.glen
  rw [hgl] at r3
  have hn8 : x.n ≤ 8 := r3
  have hM8 : M ≤ 8 := by omega
  have HROW := Lib.hid (show ∀ l ∈ x.g, l.length = M ∧ ∀ z ∈ l, -1000000 ≤ z ∧ z ≤ 1000000 from fun l hl => ⟨by have := (r4 l hl).1; omega, (r4 l hl).2⟩)
  have HB : Hid (∀ c s, c ≤ 8 → 0 ≤ hadT (gG x.g) x.n c s ∧ hadT (gG x.g) x.n c s ≤ 8000000) := Lib.hid fun c s hc => hadT_bound hmay x.n c s hn8 hc
  have HST : Hid (∀ c s, s < 2 ^ x.n → moreF (hadT (gG x.g) x.n c) (fun i => gG x.g i c) s x.n = hadT (gG x.g) x.n (c + 1) s) := Lib.hid fun c s hs => hadT_step hs
  obtain ⟨N, hN⟩ : ∃ N, 2 ^ x.n = N := ⟨_, rfl⟩
  have hN256 : N ≤ 256 := by rw [← hN]; exact Nat.pow_le_pow_right (n := 2) (by omega) hn8
  have hN1 : 1 ≤ N := by rw [← hN]; exact Nat.one_le_two_pow
  have hwN : IntKind.i64.wrap (((N - 1 : Nat) : Int) + 1) = N := by rw [IntKind.wrap_i64]; omega
  have HALL : Hid (∀ c, mixT (gG x.g) x.n c N = hadT (gG x.g) x.n (c + 1)) := Lib.hid fun c => by rw [← hN]; exact mixT_all _ _ c
  have hev := fun w1 => wevery_any x.A x.n x.c w1 hn8
  rw [hN] at HST hev
  clear r1 r2 r3 r4 hgl hmay hN
  rw [show x.v = .slice x.A x.n x.c from rfl]
  go_enter Try.func21, Try.ntmps21
  go_wp2_with (refine wpList_newTab rfl rfl ?_)
  intro w1 t41 hb1
  have t41l := t41.lt
  obtain ⟨b4, hb4⟩ : ∃ b4, b4 = w.heap.size := ⟨_, rfl⟩
  rw [← hb4] at t41 t41l ⊢
  have hwb4 : w.heap.size ≤ b4 := Nat.le_of_eq hb4.symm
  clear hb4
  go_wp2_with (refine wpList_newTab rfl rfl ?_)
  intro w2 t52 hb2
  have t52l := t52.lt
  have t42 := t41.below hb2
  have hbw2 := hb1.trans (hb2.mono hb1.size)
  obtain ⟨b5, hb5⟩ : ∃ b5, b5 = w1.heap.size := ⟨_, rfl⟩
  rw [← hb5] at t52 t52l hb2 t41l ⊢
  rw [← hadT_zero (gG x.g) x.n] at t52
  clear hb5 hb1 t41 hb2
  go_wp2_with fail
  go_loopw [10] (fun v wr => ∃ c : Nat, c ≤ M ∧ v = .int .i64 c ∧ TabAt wr b4 (fun _ => 0) ∧ TabAt wr b5 (hadT (gG x.g) x.n c) ∧ Below w.heap.size w wr) (fun v _ => M - (intOf v).toNat)
  case atStart => exact ⟨0, Nat.zero_le _, rfl, t42, t52, hbw2⟩
  case round =>
    clear t42 t52 hbw2
    obtain ⟨c, hc, rfl, t4, t5, hB⟩ := hrel
    by_cases hlt : c < M
    · have hlt' : (c : Int) < M := by omega
      obtain ⟨wo, rfl⟩ : ∃ wo, wo = wr := ⟨_, rfl⟩
      go_wp2_with (refine wpList_newTab rfl rfl ?_)
      intro w3 t7 hb3
      have t4' := t4.below hb3
      have t5' := t5.below hb3
      have hB3 := hB.trans (hb3.mono hB.size)
      have h57 : b5 < wo.heap.size := t5.lt
      obtain ⟨b7, hb7⟩ : ∃ b7, b7 = wo.heap.size := ⟨_, rfl⟩
      have hw7 : w.heap.size ≤ b7 := by rw [hb7]; exact hB.size
      rw [← hb7] at t7 h57 ⊢
      rw [← mixT_zero (gG x.g) x.n c] at t7
      have hct := hev w3
      clear hb7 hb3 t4 t5 hB
      go_wp2_with fail
      refine hct.mono ?_
      rintro e w4 ⟨rfl, rfl⟩
      clear hct
      go_wp2_with fail
      go_loopw [16] (fun v wr => ∃ s : Nat, s ≤ N ∧ v = .int .i64 s ∧ TabAt wr b4 (fun _ => 0) ∧ TabAt wr b5 (hadT (gG x.g) x.n c) ∧ TabAt wr b7 (mixT (gG x.g) x.n c s) ∧ Below w.heap.size w wr) (fun v _ => N - (intOf v).toNat)
      case atStart => exact ⟨0, Nat.zero_le _, rfl, t4', t5', t7, hB3⟩
      case round =>
        clear t4' t5' t7 hB3
        obtain ⟨s, hs, rfl, t4, t5, t7, hB⟩ := hrel
        by_cases hsN : s < N
        · have hsN' : (s : Int) < N := by omega
          have hs0 : (0 : Int) ≤ s := by omega
          have hs256 : (s : Int) < 256 := by omega
          have hs2 : s < 256 := by omega
          have hone := wone_any x b5 (hadT (gG x.g) x.n c) c s M wr t5 (hx.below hB) hn8 hs2 hlt HROW.out fun s => by
            have := HB.out c s (by omega); omega
          rw [HST.out c s hsN, show x.v = .slice x.A x.n x.c from rfl] at hone
          have hzb := HB.out (c + 1) s (by omega)
          have hmx : ∀ t, t < 256 → mixT (gG x.g) x.n c (s + 1) t = if t = s then hadT (gG x.g) x.n (c + 1) s else mixT (gG x.g) x.n c s t := fun t _ => mixT_succ _ _ _ _ _
          obtain ⟨z, hz⟩ : ∃ z, hadT (gG x.g) x.n (c + 1) s = z := ⟨_, rfl⟩
          rw [hz] at hone hmx
          have HMX := Lib.hid hmx
          clear hz hmx
          go_wp2_with fail
          refine hone.mono ?_
          rintro e w5 ⟨rfl, hb5⟩
          clear hone
          have t4' := t4.below hb5
          have t5' := t5.below hb5
          have t7' := t7.below hb5
          have hB5 := hB.trans (hb5.mono hB.size)
          have hcell := t7'.cell hs2
          have hfree := t7'.free (s := s)
          have u4 := t4'.other (g := b7) (s := s) (v := .int .i64 z) (by omega)
          have u5 := t5'.other (g := b7) (s := s) (v := .int .i64 z) (by omega)
          have u7 := t7'.set (z := z) HMX.out
          have hB6 := hB5.setCell (p := ⟨b7, s, none⟩) hw7 (.int .i64 z)
          clear t4 t5 t7 t4' t5' t7' hB hB5 hb5
          go_wp2
          go_roundw
          case rel => exact ⟨s + 1, by omega, by go_num, u4, u5, u7, hB6⟩
          case measure => simp [intOf]; omega
        · obtain rfl : s = N := by omega
          rw [HALL.out] at t7
          go_wp2_with (first | (refine wpList_loadTab rfl _ rfl b7 rfl _ t7 ?_) | (refine wpList_storeTab rfl _ _ rfl b5 rfl _ _ rfl t5 ?_))
          intro w6 u5 hk6 hs6 hb6
          have u4 := t4.keep (hk6 b4 (by omega))
          have hB6 := hB.trans (hb6 _ (Nat.le_trans hwb4 (by omega)))
          clear t4 t5 t7 hB hk6 hs6 hb6
          go_wp2
          go_roundw
          case rel => exact ⟨c + 1, by omega, by go_num, u4, u5, hB6⟩
          case measure => simp [intOf]; omega
    · obtain rfl : c = M := by omega
      go_wp2_with (first | (refine wpList_loadTab rfl _ rfl b5 rfl _ t5 ?_) | (refine wpList_storeTab rfl _ _ rfl b4 rfl _ _ rfl t4 ?_))
      intro w6 u4 hk6 hs6 hb6
      have hB6 := hB.trans (hb6 _ hwb4)
      clear t4 t5 hB hk6 hs6 hb6
      obtain ⟨i, hq, _, hsz⟩ := tab_info
      go_wp2
      refine bodyPost_ret (v := tabV (hadT (gG x.g) x.n c)) (results_cell_row rfl _ _ b4 _ (tabC (hadT (gG x.g) x.n c)) _ _ rfl u4 tab_under rfl (by rw [hq, tabC_size, ← hsz]; rfl)) rfl ⟨rfl, hB6⟩
end Go.Proofs.Ytecgakfblhiiaaa
