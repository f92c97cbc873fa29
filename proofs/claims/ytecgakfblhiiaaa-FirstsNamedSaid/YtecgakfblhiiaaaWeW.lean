/-
  Walks of package weights: Best, Proved.
-/
import Derived.Test.YtecgakfblhiiaaaWeWd
import Derived.Test.YtecgakfblhiiaaaWeI
namespace Go.Proofs.Ytecgakfblhiiaaa
open Go.RowKit
set_option linter.unusedVariables false

theorem OwnI.putW {w : World} {B g n c k : Nat} {zs : List Int} {z : Int} (h : OwnI w B ⟨some ⟨g, 0, none⟩, n, c, zs⟩) (hc : 0 < c) (hz : -9223372036854775808 ≤ z ∧ z ≤ 9223372036854775807) : OwnI (w.setCell ⟨g, k, none⟩ (.int .i64 z)) B ⟨some ⟨g, 0, none⟩, n, c, zs.set k z⟩ := by
  refine ⟨?_, fun y hy => ?_⟩
  · have h1 := h.own.set hc k (.int .i64 z)
    have h2 : ci64 (zs.set k z) = (ci64 zs).set k (.int .i64 z) := by simp [ci64, iV]
    show Own _ B _ _ n c (ci64 (zs.set k z))
    rw [h2]; exact h1
  · rcases List.mem_or_eq_of_mem_set hy with h1 | h1
    · exact h.fit y h1
    · rw [h1]; exact hz
set_option maxRecDepth 100000 in
set_option maxHeartbeats 1000000 in
theorem pbestC : BestC 11 := by
  intro x m w hx hm1 hm2
  have hc := wmaybe_any x m w hx hm1 hm2
  obtain ⟨B, hB0⟩ : ∃ B, mayW x.g m = B := ⟨_, rfl⟩
  rw [hB0] at hc
  have hgl := hx.glen
  have hv : x.v = .slice x.A x.n x.c := rfl
  rw [hv] at hc ⊢
  cases B
  · obtain ⟨e1, e2, _⟩ := we_bad hB0
    rw [e1, e2]
    clear hB0 e1 e2 hv hgl
    go_enter Try.func11, Try.ntmps11
    go_wp2_with fail
    refine hc.mono ?_
    rintro e w1 ⟨rfl, rfl⟩
    clear hc
    go_wp2
    go_ret2
    exact ⟨rfl, Below.refl _ _⟩
  · obtain ⟨M, rfl⟩ : ∃ M : Nat, m = M := ⟨m.toNat, by have := (mayW_iff.1 hB0).1; omega⟩
    obtain ⟨e1, e2, _⟩ := we_ok hB0
    rw [e1, e2, hgl]
    have r3 := (mayW_iff.1 hB0).2.2.1
    rw [hgl] at r3
    have hn8 : x.n ≤ 8 := r3
    have htb := wtable_any x M w hx hB0
    rw [hv] at htb
    have hev := fun w1 => wevery_any x.A x.n x.c w1 hn8
    have hall := hadT_all (gG x.g) M x.n
    have hp : 2 ^ x.n ≤ 2 ^ 8 := Nat.pow_le_pow_right (by omega) hn8
    obtain ⟨N, hN⟩ : ∃ N, 2 ^ x.n - 1 = N := ⟨_, rfl⟩
    have hN2 : N < 256 := by rw [← hN]; exact Nat.lt_of_lt_of_le (Nat.sub_lt (Nat.two_pow_pos _) (by omega)) hp
    rw [hN] at hev hall
    have hN0 : (0 : Int) ≤ N := by omega
    have hN256 : (N : Int) < 256 := by omega
    clear hB0 e1 e2 hgl r3 hp hN hv
    go_enter Try.func11, Try.ntmps11
    go_wp2_with fail
    refine hc.mono ?_
    rintro e w1 ⟨rfl, rfl⟩
    clear hc
    go_wp2_with fail
    refine htb.mono ?_
    rintro e w2 ⟨rfl, hb2⟩
    clear htb
    go_wp2_with (refine wpList_newTab rfl rfl ?_)
    intro w3 t6 hb3
    have hB3 := hb2.trans (hb3.mono hb2.size)
    have h26 := hb2.size
    obtain ⟨b6, hb6⟩ : ∃ b6, b6 = w2.heap.size := ⟨_, rfl⟩
    rw [← hb6] at t6 h26 ⊢
    clear hb6 hb2 hb3
    go_wp2_with (refine wpList_storeTab rfl _ _ rfl b6 rfl _ _ rfl t6 ?_)
    intro w4 t64 hq1 hq2 hb4
    clear hq1 hq2
    have hB4 := hB3.trans (hb4 _ h26)
    have hcell := t64.cell hN2
    rw [hall] at hcell
    have hct := hev w4
    clear hev t6 hB3 hb4 hall
    go_wp2_with fail
    refine hct.mono ?_
    rintro e w5 ⟨rfl, rfl⟩
    clear hct
    go_wp2
    go_ret2
    exact ⟨rfl, hB4⟩

end Go.Proofs.Ytecgakfblhiiaaa
