/-
  Walks of package paths: where a thing stands in a list; may a search begin; how it begins.
-/
import Derived.Test.YtojpdmhccodckaaPaWa
import Derived.Test.YtojpdmhccodckaaGrW
namespace Go.Proofs.Ytojpdmhccodckaa
open Go.RowKit
set_option linter.unusedVariables false

set_option maxRecDepth 100000 in
set_option maxHeartbeats 1000000 in
theorem pindex_any (A : Option Addr) (n c : Nat) (zs : List Int) (k : Int) (w : World) (hr : Rd w A n (ci64 zs)) (hn : n ≤ maxLen) :
    Calls Try.prog 32 #[.slice A n c, .int .i64 k] w fun e w' => e = .returned (.int .i64 (holder zs k)) ∧ w' = w := by
  have hl : zs.length = n := by have h := hr.len; rw [ci64_len] at h; exact h
  have HL := Lib.hid hl
  unfold maxLen at hn
  clear hl
  go_enter Try.func32, Try.ntmps32
  go_wp2_with fail
  go_loopw [8] (fun i wr => ∃ j : Nat, j ≤ n ∧ i = .int .i64 j ∧ Hid (k ∉ zs.take j) ∧ wr = w) (fun i _ => n - (intOf i).toNat)
  case atStart => exact ⟨0, Nat.zero_le _, rfl, Lib.hid (by simp), rfl⟩
  case round =>
    obtain ⟨j, hj, rfl, hno, rfl⟩ := hrel
    by_cases hlt : j < n
    · obtain ⟨p, q, rfl, hp, u0, hu0, hc0⟩ := hr.get hlt
      have hjl : j < zs.length := by rw [HL.out]; exact hlt
      rw [ci64_get _ _ hjl] at hu0
      obtain rfl : iV zs[j] = u0 := Option.some.inj hu0
      unfold iV at hc0
      have hi1 : (j : Int) < n := by omega
      have htk : zs.take (j + 1) = zs.take j ++ [zs[j]] := List.take_succ_eq_append_getElem hjl
      have hat : zs[j] = k → holder zs k = j := holder_at hjl hno.out
      generalize zs[j] = z at hc0 htk hat
      by_cases hz : k = z
      · have hz1 : (k == z) = true := by rw [hz]; simp
        have HM := Lib.hid (hat hz.symm)
        clear hu0 hz htk hat
        go_wp2
        go_ret
        exact ⟨ret_int HM.out.symm, rfl⟩
      · have hz1 : (k == z) = false := by rw [beq_eq_false_iff_ne]; exact hz
        have HN := Lib.hid (show k ∉ zs.take (j + 1) by
          rw [htk]
          intro hm
          rcases List.mem_append.1 hm with hm | hm
          · exact hno.out hm
          · exact hz (List.mem_singleton.1 hm))
        clear hu0 hz htk hat
        go_wp2
        go_roundw
        case rel => exact ⟨j + 1, by omega, by go_num, HN, trivial⟩
        case measure => simp [intOf]; omega
    · obtain rfl : j = n := by omega
      have HM := Lib.hid (holder_no (by
        have h := hno.out
        rwa [List.take_of_length_le (by rw [HL.out]; exact Nat.le_refl _)] at h))
      go_wp2
      go_ret
      exact ⟨ret_int HM.out.symm, rfl⟩

set_option maxRecDepth 100000 in
set_option maxHeartbeats 1000000 in
theorem pmay_any (x : Gr) (m : Int) (u : Ls) (z : Int) (w : World) (hx : x.Ok w) (hu : u.Ok w) (hm1 : -9223372036854775808 ≤ m) (hm2 : m ≤ 9223372036854775807) :
    Calls Try.prog 18 #[x.v, .int .i64 m, u.v, .int .i64 z] w fun e w' => e = .returned (.bool (mayP x.g m u.zs z)) ∧ Below w.heap.size w w' := by
  obtain ⟨B, hB⟩ : ∃ B, mayP x.g m u.zs z = B := ⟨_, rfl⟩
  obtain ⟨F, hF⟩ : ∃ F, fitsG x.g m u.zs = F := ⟨_, rfl⟩
  rw [hB]
  have hc := gfitsC x m u w hx hu hm1 hm2
  rw [hF] at hc
  have HB := Lib.hid hB
  have HF := Lib.hid hF
  have HG := Lib.hid hx.glen
  have HU := Lib.hid hu.len
  have hxv : x.v = .slice x.A x.n x.c := rfl
  have hur := hu.rd
  have hut := Nat.le_trans hu.cap hu.top
  have hxt := Nat.le_trans hx.cap hx.top
  unfold maxLen at hut hxt
  rw [hxv] at hc ⊢
  obtain ⟨A, n, c, zs⟩ := u
  simp only at HB HF HU hur hut
  unfold Ls.v at hc ⊢
  simp only at hc ⊢
  clear hB hF hxv
  go_enter Try.func18, Try.ntmps18
  go_wp2_with fail
  refine hc.mono ?_
  rintro e w1 ⟨rfl, hb⟩
  clear hc
  cases F
  · have HR : Hid (B = false) := Lib.hid (by rw [← HB.out, mayP, HF.out]; rfl)
    go_wp2
    go_ret
    exact ⟨ret_bool HR.out.symm, hb⟩
  have HL := Lib.hid (fitsG_iff.1 HF.out).2.1
  have HNN : Hid (n = x.n) := Lib.hid (by rw [← HU.out, HL.out, HG.out])
  by_cases h0 : 0 ≤ z
  · have g0 : decide (0 ≤ z) = true := decide_eq_true h0
    by_cases h1 : z < n
    · have g1 : decide (z < (n : Int)) = true := decide_eq_true h1
      obtain ⟨i, rfl⟩ : ∃ i : Nat, z = i := ⟨z.toNat, by omega⟩
      have hin : i < n := by omega
      have hin' : (i : Int) < n := by omega
      have hil : i < zs.length := by rw [HU.out]; exact hin
      obtain ⟨p, q, rfl, hp, u0, hu0, hc0⟩ := hur.get hin
      rw [ci64_get _ _ hil] at hu0
      obtain rfl : iV zs[i] = u0 := Option.some.inj hu0
      unfold iV at hc0
      have hgd : zs.getD i (-1) = zs[i] := by rw [List.getD_eq_getElem?_getD, List.getElem?_eq_getElem hil]; rfl
      obtain ⟨a, ha⟩ : ∃ a, zs[i] = a := ⟨_, rfl⟩
      rw [ha] at hc0 hgd
      have hcw : w1.cell? ⟨p, q + i, none⟩ = some (.int .i64 a) := (hb.cell (p := ⟨p, q + i, none⟩) hp).trans hc0
      obtain ⟨β, hβ⟩ : ∃ β, (a == -1) = β := ⟨_, rfl⟩
      have HR : Hid (B = β) := Lib.hid (by
        rw [← HB.out, mayP, HF.out, Int.toNat_natCast, hgd, decide_eq_true (show 0 ≤ (i : Int) ∧ (i : Int) < x.g.length by rw [HG.out, ← HNN.out]; omega), Bool.true_and, Bool.true_and, ← hβ, Bool.eq_iff_iff, decide_eq_true_eq, beq_iff_eq])
      clear hu0 ha hc0 hgd hil
      go_wp2
      go_ret
      exact ⟨ret_bool HR.out.symm, hb⟩
    · have g1 : decide (z < (n : Int)) = false := decide_eq_false h1
      have HR : Hid (B = false) := Lib.hid (by
        rw [← HB.out, mayP, HF.out, decide_eq_false (show ¬ (0 ≤ z ∧ z < x.g.length) by rw [HG.out, ← HNN.out]; omega)]; rfl)
      go_wp2
      go_ret
      exact ⟨ret_bool HR.out.symm, hb⟩
  · have g0 : decide (0 ≤ z) = false := decide_eq_false h0
    have HR : Hid (B = false) := Lib.hid (by
      rw [← HB.out, mayP, HF.out, decide_eq_false (show ¬ (0 ≤ z ∧ z < x.g.length) by omega)]; rfl)
    go_wp2
    go_ret
    exact ⟨ret_bool HR.out.symm, hb⟩
end Go.Proofs.Ytojpdmhccodckaa
