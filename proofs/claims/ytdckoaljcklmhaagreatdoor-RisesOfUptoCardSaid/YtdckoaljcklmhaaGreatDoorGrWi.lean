/-
  Walk of package graphs: Near.
-/
import Derived.Test.YtdckoaljcklmhaaGreatDoorGrO
import Derived.Test.YtdckoaljcklmhaaGreatDoorReg2
import Derived.RangeFuncBound
import Derived.RangeFuncCalls
import Derived.RangeFuncLeaves
import Derived.Shelf.Abstract
import Derived.WalkKit
import Derived.OwnWalkIn
import Derived.TacticsInMore
import Derived.LoopNIn
import Derived.LoopIn
import Derived.Test.YtdckoaljcklmhaaGreatDoorSeqR
import Derived.Test.YtdckoaljcklmhaaGreatDoorSizesL
namespace Go.Proofs.YtdckoaljcklmhaaGreatDoor
open Go.RowKit
set_option linter.unusedVariables false

/-- The one ahead of the j-th; none: -1. -/
def lastG (zs : List Int) (j : Nat) : Int := if h : 0 < j then zs.getD (j - 1) 0 else -1
theorem lastG_succ {zs : List Int} {j : Nat} (hj : j < zs.length) : lastG zs (j + 1) = zs[j] := by
  rw [lastG, dif_pos (by omega), Nat.add_sub_cancel, List.getD_eq_getElem?_getD, List.getElem?_eq_getElem hj]; rfl
theorem lastG_zero (zs : List Int) : lastG zs 0 = -1 := rfl
theorem rise_go {k : Int} {zs : List Int} {j : Nat} (hj : j < zs.length) (h : Rises k (zs.take j)) (h1 : ¬ zs[j] ≤ lastG zs j) (h2 : ¬ k ≤ zs[j]) : Rises k (zs.take (j + 1)) := by
  by_cases h0 : 0 < j
  · have e : lastG zs j = zs[j - 1] := by
      rw [lastG, dif_pos h0, List.getD_eq_getElem?_getD, List.getElem?_eq_getElem (by omega)]; rfl
    have hm : zs[j - 1] ∈ zs.take j := by
      rw [List.mem_take_iff_getElem]
      exact ⟨j - 1, by omega, rfl⟩
    have := h.1 _ hm
    exact rise_step hj h (by omega) (by omega) fun _ => by omega
  · obtain rfl : j = 0 := by omega
    rw [lastG_zero] at h1
    exact rise_step hj h (by omega) (by omega) fun hh => absurd hh h0
theorem rise_no {k : Int} {zs : List Int} {j : Nat} (hj : j < zs.length) (h : zs[j] ≤ lastG zs j ∨ k ≤ zs[j]) : riseB zs k = false := by
  rcases h with h | h
  · by_cases h0 : 0 < j
    · have e : lastG zs j = zs[j - 1] := by
        rw [lastG, dif_pos h0, List.getD_eq_getElem?_getD, List.getElem?_eq_getElem (by omega)]; rfl
      exact rise_bad hj (.inr (.inr ⟨h0, by omega⟩))
    · obtain rfl : j = 0 := by omega
      rw [lastG_zero] at h
      exact rise_bad hj (.inl (by omega))
  · exact rise_bad hj (.inr (.inl h))

set_option maxRecDepth 100000 in
set_option maxHeartbeats 1000000 in
theorem grises_any (A : Option Addr) (n c : Nat) (zs : List Int) (k : Int) (w : World) (hr : Rd w A n (ci64 zs)) (hn : n ≤ maxLen) :
    Calls Tryz.prog 112 #[.slice A n c, .int .i64 k] w fun e w' => e = .returned (.bool (riseB zs k)) ∧ w' = w := by
  have hl : zs.length = n := by have h := hr.len; rw [ci64_len] at h; exact h
  have HL := Lib.hid hl
  unfold maxLen at hn
  clear hl
  go_enter Tryz.func112, Tryz.ntmps112
  go_wp2_with fail
  go_loopw [5, 10] (fun y i wr => ∃ j : Nat, j ≤ n ∧ i = .int .i64 j ∧ (∃ v : Int, y = .int .i64 v ∧ Hid (v = lastG zs j)) ∧ Hid (Rises k (zs.take j)) ∧ wr = w) (fun _ i _ => n - (intOf i).toNat)
  case atStart => exact ⟨0, Nat.zero_le _, rfl, ⟨-1, rfl, Lib.hid rfl⟩, Lib.hid (by rw [List.take_zero]; exact rises_nil k), rfl⟩
  case round =>
    obtain ⟨j, hj, rfl, ⟨v, rfl, hv⟩, hno, rfl⟩ := hrel
    by_cases hlt : j < n
    · obtain ⟨p, q, rfl, hp, u0, hu0, hc0⟩ := hr.get hlt
      have hjl : j < zs.length := by rw [HL.out]; exact hlt
      rw [ci64_get _ _ hjl] at hu0
      obtain rfl : iV zs[j] = u0 := Option.some.inj hu0
      unfold iV at hc0
      have hi1 : (j : Int) < n := by omega
      obtain ⟨z, hz⟩ : ∃ z, zs[j] = z := ⟨_, rfl⟩
      rw [hz] at hc0
      have HZ := Lib.hid hz
      clear hu0 hz
      by_cases h1 : z ≤ v
      · have g1 : decide (z ≤ v) = true := decide_eq_true h1
        have HB := Lib.hid (show riseB zs k = false from rise_no hjl (.inl (by rw [HZ.out, ← hv.out]; exact h1)))
        clear HZ h1 hjl hv
        go_wp2
        go_ret
        exact ⟨ret_bool HB.out.symm, rfl⟩
      · have g1 : decide (z ≤ v) = false := decide_eq_false h1
        by_cases h2 : k ≤ z
        · have g2 : decide (k ≤ z) = true := decide_eq_true h2
          have HB := Lib.hid (show riseB zs k = false from rise_no hjl (.inr (by rw [HZ.out]; exact h2)))
          clear HZ h1 h2 hjl hv
          go_wp2
          go_ret
          exact ⟨ret_bool HB.out.symm, rfl⟩
        · have g2 : decide (k ≤ z) = false := decide_eq_false h2
          have HR := Lib.hid (And.intro (rise_go hjl hno.out (by rw [HZ.out, ← hv.out]; exact h1) (by rw [HZ.out]; exact h2)) (show z = lastG zs (j + 1) by rw [lastG_succ hjl, HZ.out]))
          clear HZ h1 h2 hjl hv
          go_wp2
          go_roundw
          case rel => exact ⟨j + 1, by omega, by go_num, ⟨z, rfl, Lib.hid HR.out.2⟩, Lib.hid HR.out.1, trivial⟩
          case measure => simp [intOf]; omega
    · obtain rfl : j = n := by omega
      have HM := Lib.hid (rise_all (Nat.le_of_eq HL.out) hno.out)
      go_wp2
      go_ret
      exact ⟨ret_bool HM.out.symm, rfl⟩

set_option maxRecDepth 100000 in
set_option maxHeartbeats 1000000 in
theorem gcheckC : CheckGC 111 := by
  intro x m w h h1 h2
  have hgl := h.glen
  have hlen := h.len
  have tn := Nat.le_trans h.cap h.top
  unfold maxLen at tn
  obtain ⟨B, hB⟩ : ∃ B, checkG x.g m = B := ⟨_, rfl⟩
  have HB := Lib.hid hB
  have HG := Lib.hid hgl
  rw [hB]
  clear hB hgl
  unfold Gr.v
  go_enter Tryz.func111, Tryz.ntmps111
  by_cases q1 : m < 0
  · have g1 : decide (m < 0) = true := decide_eq_true q1
    have HF : Hid (B = false) := Lib.hid (by
      rw [← HB.out, checkG, decide_eq_false (by omega)]; rfl)
    clear q1
    go_wp2
    go_ret
    exact ⟨ret_bool HF.out.symm, Below.refl _ _⟩
  have g1 : decide (m < 0) = false := decide_eq_false q1
  by_cases q2 : 8 < m
  · have g2 : decide (8 < m) = true := decide_eq_true q2
    have HF : Hid (B = false) := Lib.hid (by
      rw [← HB.out, checkG, decide_eq_false (show ¬ m ≤ 8 by omega)]; simp)
    clear q1 q2
    go_wp2
    go_ret
    exact ⟨ret_bool HF.out.symm, Below.refl _ _⟩
  have g2 : decide (8 < m) = false := decide_eq_false q2
  by_cases q3 : 8 < x.n
  · have g3 : decide (8 < (x.n : Int)) = true := decide_eq_true (by omega)
    have g3' : decide (8 < x.n) = true := decide_eq_true q3
    have HF : Hid (B = false) := Lib.hid (by
      rw [← HB.out, checkG, decide_eq_false (show ¬ x.g.length ≤ 8 by rw [HG.out]; omega)]; simp)
    clear q1 q2 q3
    go_wp2
    go_ret
    exact ⟨ret_bool HF.out.symm, Below.refl _ _⟩
  have g3 : decide (8 < (x.n : Int)) = false := decide_eq_false (by omega)
  have g3' : decide (8 < x.n) = false := decide_eq_false q3
  have HQ := Lib.hid (And.intro q1 (And.intro q2 q3))
  clear q1 q2 q3
  go_wp2_with fail
  go_loopw [20] (fun i wr => ∃ j : Nat, j ≤ x.n ∧ i = .int .i64 j ∧ Hid (∀ l ∈ x.g.take j, Rises m l) ∧ Below w.heap.size w wr) (fun i _ => x.n - (intOf i).toNat)
  case atStart => exact ⟨0, Nat.zero_le _, rfl, Lib.hid (by simp), Below.refl _ _⟩
  case round =>
    obtain ⟨j, hj, rfl, hok, hb⟩ := hrel
    by_cases hlt : j < x.n
    · obtain ⟨p, q, u, hA, hu, hg, hp, hcl, hk⟩ := h.get hlt
      have hcell : wr.cell? ⟨p, q + j, none⟩ = some (.slice u.A u.n u.c) := (hb.cell (p := ⟨p, q + j, none⟩) hp).trans hcl
      have hjl : j < x.g.length := by rw [HG.out]; exact hlt
      have hmem : u.zs ∈ x.g := by rw [← hg]; exact getD_mem hjl
      have htk : x.g.take (j + 1) = x.g.take j ++ [u.zs] := by
        rw [List.take_succ_eq_append_getElem hjl, ← hg, List.getD_eq_getElem?_getD, List.getElem?_eq_getElem hjl]; rfl
      have HM := Lib.hid hmem
      have HT := Lib.hid htk
      obtain ⟨β, hβ⟩ : ∃ β, riseB u.zs m = β := ⟨_, rfl⟩
      have HBE := Lib.hid hβ
      have hcap := Nat.le_trans hk.cap hk.top
      have hck := grises_any u.A u.n u.c u.zs m wr (hk.rd.below hb) hcap
      rw [hβ] at hck
      rw [hA]
      have HA := Lib.hid hA
      clear hβ hmem htk hjl hu hg hcl hk hcap
      go_wp2_with fail
      refine hck.mono ?_
      rintro e w2 ⟨rfl, rfl⟩
      have hB2 := hb
      clear hck hcell
      cases β
      · have HF : Hid (B = false) := Lib.hid (by
          rw [← HB.out]
          by_cases hc : checkG x.g m = true
          · have h3 := (checkG_iff.1 hc).2.2.2 _ HM.out
            rw [riseB, decide_eq_true h3] at HBE
            exact absurd HBE.out (by simp)
          · simpa using hc)
        go_wp2
        go_ret
        exact ⟨ret_bool HF.out.symm, hB2⟩
      · have HN := Lib.hid (show ∀ l ∈ x.g.take (j + 1), Rises m l by
          rw [HT.out]
          intro l hl
          rcases List.mem_append.1 hl with hl | hl
          · exact hok.out l hl
          · rw [List.mem_singleton.1 hl]; exact of_decide_eq_true HBE.out)
        rw [← HA.out]
        go_wp2
        go_roundw
        case rel => exact ⟨j + 1, by omega, by go_num, HN, hB2⟩
        case measure => simp [intOf]; omega
    · obtain rfl : j = x.n := by omega
      have HF : Hid (B = true) := Lib.hid (by
        rw [← HB.out]
        have h3 := hok.out
        rw [List.take_of_length_le (by rw [HG.out]; exact Nat.le_refl _)] at h3
        obtain ⟨q1, q2, q3⟩ := HQ.out
        exact checkG_iff.2 ⟨by omega, by omega, by rw [HG.out]; omega, h3⟩)
      go_wp2
      go_ret
      exact ⟨ret_bool HF.out.symm, hb⟩
end Go.Proofs.YtdckoaljcklmhaaGreatDoor


namespace Go.Proofs.YtdckoaljcklmhaaGreatDoor
open Go.RowKit
set_option linter.unusedVariables false

set_option maxRecDepth 100000 in
set_option maxHeartbeats 1000000 in
theorem gindex_any (A : Option Addr) (n c : Nat) (zs : List Int) (k : Int) (w : World) (hr : Rd w A n (ci64 zs)) (hn : n ≤ maxLen) :
    Calls Tryz.prog 123 #[.slice A n c, .int .i64 k] w fun e w' => ∃ r : Int, e = .returned (.int .i64 r) ∧ decide (0 ≤ r) = decide (k ∈ zs) ∧ w' = w := by
  have hl : zs.length = n := by have h := hr.len; rw [ci64_len] at h; exact h
  have HL := Lib.hid hl
  unfold maxLen at hn
  clear hl
  go_enter Tryz.func123, Tryz.ntmps123
  go_wp2_with fail
  go_loopw [8] (fun i wr => ∃ j : Nat, j ≤ n ∧ i = .int .i64 j ∧ Hid (k ∉ zs.take j) ∧ wr = w) (fun i _ => n - (intOf i).toNat)
  case atStart => exact ⟨0, Nat.zero_le _, rfl, Lib.hid (by simp), rfl⟩
  case round =>
    obtain ⟨j, hj, rfl, hno, rfl⟩ := hrel
    by_cases hlt : j < n
    · obtain ⟨p, q, rfl, hp, u0, hu0, hc0⟩ := hr.get hlt
      have hjl : j < zs.length := by rw [HL.out]; exact hlt
      rw [ci64_get _ _ hjl] at hu0
      obtain rfl : iV zs[j] = u0 := Option.some.inj hu0
      unfold iV at hc0
      have hi1 : (j : Int) < n := by omega
      have hmem : zs[j] ∈ zs := List.getElem_mem hjl
      have htk : zs.take (j + 1) = zs.take j ++ [zs[j]] := List.take_succ_eq_append_getElem hjl
      generalize zs[j] = z at hc0 hmem htk
      by_cases hz : k = z
      · have hz1 : (k == z) = true := by rw [hz]; simp
        have HM := Lib.hid (show decide (0 ≤ (j : Int)) = decide (k ∈ zs) by rw [decide_eq_true (show k ∈ zs from hz ▸ hmem)]; exact decide_eq_true (by omega))
        clear hu0 hz htk hmem
        go_wp2
        go_ret
        exact ⟨_, rfl, HM.out, rfl⟩
      · have hz1 : (k == z) = false := by rw [beq_eq_false_iff_ne]; exact hz
        have HN := Lib.hid (show k ∉ zs.take (j + 1) by
          rw [htk]
          intro hm
          rcases List.mem_append.1 hm with hm | hm
          · exact hno.out hm
          · exact hz (List.mem_singleton.1 hm))
        clear hu0 hz htk hmem
        go_wp2
        go_roundw
        case rel => exact ⟨j + 1, by omega, by go_num, HN, trivial⟩
        case measure => simp [intOf]; omega
    · obtain rfl : j = n := by omega
      have HM := Lib.hid (show decide (0 ≤ (-1 : Int)) = decide (k ∈ zs) from (decide_eq_false (by omega)).trans (decide_eq_false (by
        have h := hno.out
        rwa [List.take_of_length_le (by rw [HL.out]; exact Nat.le_refl _)] at h)).symm)
      go_wp2
      go_ret
      exact ⟨_, rfl, HM.out, rfl⟩

set_option maxRecDepth 100000 in
set_option maxHeartbeats 1000000 in
theorem gcontains_any (A : Option Addr) (n c : Nat) (zs : List Int) (k : Int) (w : World) (hr : Rd w A n (ci64 zs)) (hn : n ≤ maxLen) :
    Calls Tryz.prog 107 #[.slice A n c, .int .i64 k] w fun e w' => e = .returned (.bool (decide (k ∈ zs))) ∧ w' = w := by
  go_enter Tryz.func107, Tryz.ntmps107
  have hck := gindex_any A n c zs k w hr hn
  go_wp2_with fail
  refine hck.mono ?_
  rintro e w2 ⟨r, rfl, hr2, rfl⟩
  have HR := Lib.hid hr2
  clear hck hr2 hr
  go_wp2
  go_ret
  exact ⟨ret_bool HR.out, rfl⟩
end Go.Proofs.YtdckoaljcklmhaaGreatDoor


namespace Go.Proofs.YtdckoaljcklmhaaGreatDoor
open Go.RowKit Go.Shelf
set_option linter.unusedVariables false
attribute [local go_sem] Oper.semAt_some

/-- Who has what, up to the k-th. -/
def hadTo (zs : List Int) (k : Nat) : List (Nat × Int) := (List.range k).filterMap fun i => if zs.getD i (-1) = -1 then none else some (i, zs.getD i (-1))
theorem hadTo_zero (zs : List Int) : hadTo zs 0 = [] := rfl
theorem hadTo_none {zs : List Int} {k : Nat} (h : zs.getD k (-1) = -1) : hadTo zs (k + 1) = hadTo zs k := by
  rw [hadTo, List.range_succ, List.filterMap_append, ← hadTo]; simp [-List.getD_eq_getElem?_getD, h]
theorem hadTo_some {zs : List Int} {k : Nat} (h : zs.getD k (-1) ≠ -1) : hadTo zs (k + 1) = hadTo zs k ++ [(k, zs.getD k (-1))] := by
  rw [hadTo, List.range_succ, List.filterMap_append, ← hadTo]
  congr 1
  simp only [List.filterMap_cons, List.filterMap_nil, if_neg h]
theorem hadTo_len (zs : List Int) (k : Nat) : (hadTo zs k).length ≤ k := by
  have := List.length_filterMap_le (fun i => if zs.getD i (-1) = -1 then none else some (i, zs.getD i (-1))) (List.range k)
  rwa [List.length_range] at this
theorem hadTo_pre (zs : List Int) {j k : Nat} (h : j ≤ k) : hadTo zs j <+: hadTo zs k := by
  obtain ⟨m, rfl⟩ := Nat.exists_eq_add_of_le h
  rw [hadTo, hadTo, List.range_add, List.filterMap_append]
  exact ⟨_, rfl⟩
abbrev HadOf (zs : List Int) := { x : Nat × Int // x.1 < zs.length ∧ zs.getD x.1 (-1) = x.2 ∧ x.2 ≠ -1 }
def encHad {zs : List Int} (x : HadOf zs) : Array Value := #[.int .i64 (x.1.1 : Int), .int .i64 x.1.2]

set_option maxRecDepth 100000 in
set_option maxHeartbeats 1000000 in
theorem had1_any (n : Nat) (hn : 1 ≤ n) (l Bn : Nat) (u : Ls) (J Jx : List (HadOf u.zs) → World → Prop)
    (hY : ∀ pre x W, J pre W → pre.length < u.n → YieldAt Fence.wide (n - 1) Tryz.prog l (encHad x) W fun e W' =>
      (e = .returned (.bool true) ∧ J (pre ++ [x]) W' ∧ (u.Ok W → u.Ok W')) ∨ (e = .returned (.bool false) ∧ Jx (pre ++ [x]) W'))
    (W : World) (hB : W.cell? ⟨Bn, 0, none⟩ = some u.v) (hu : u.Ok W) (h0 : J [] W) :
    CallsIn Fence.wide n Tryz.prog 140 #[.func (.yield l) #[] #[], .pointer (some ⟨Bn, 0, none⟩)] W fun e W' => (∃ v, e = .returned v) ∧
      ((∃ ys : List (HadOf u.zs), ys.map (·.1) = hadTo u.zs u.n ∧ J ys W') ∨ (∃ pre : List (HadOf u.zs), pre.map (·.1) <+: hadTo u.zs u.n ∧ Jx pre W')) := by
  have hl := hu.len
  have HL := Lib.hid hl
  have tn := Nat.le_trans hu.cap hu.top
  unfold maxLen at tn
  clear hl
  unfold Ls.v at hB
  refine callsIn_of_wp Tryz.func140 rfl trivial ?_ rfl
  simp only [Tryz.ntmps140, List.size_toArray, List.length_cons, List.length_nil, Nat.reduceAdd, Nat.reduceSub, Array.replicate_succ, Array.replicate_zero, List.push_toArray, List.append_toArray, List.nil_append, List.cons_append]
  gi_wp2
  gi_loopw [7] (fun i wr => ∃ (k : Nat) (pre : List (HadOf u.zs)), k ≤ u.n ∧ i = .int .i64 k ∧ Hid (pre.map (·.1) = hadTo u.zs k) ∧ J pre wr ∧ u.Ok wr) (fun i _ => u.n - (intOf i).toNat)
  case atStart => exact ⟨0, [], Nat.zero_le _, rfl, Lib.hid rfl, h0, hu⟩
  case round =>
    obtain ⟨k, pre, hk, rfl, hpre, hJs, huw⟩ := hrel
    by_cases hlt : k < u.n
    · obtain ⟨p, q, hA, hp, u0, hu0, hc0⟩ := huw.rd.get hlt
      have hjl : k < u.zs.length := by rw [HL.out]; exact hlt
      rw [ci64_get _ _ hjl] at hu0
      obtain rfl : iV u.zs[k] = u0 := Option.some.inj hu0
      unfold iV at hc0
      have hi1 : (k : Int) < u.n := by omega
      have hgd : u.zs.getD k (-1) = u.zs[k] := by rw [List.getD_eq_getElem?_getD, List.getElem?_eq_getElem hjl]; rfl
      rw [← hgd] at hc0
      obtain ⟨z, hz⟩ : ∃ z, u.zs.getD k (-1) = z := ⟨_, rfl⟩
      rw [hz] at hc0
      have HZ := Lib.hid hz
      clear hu0 hgd hz
      rw [hA]
      have HA := Lib.hid hA
      clear hA
      by_cases h1 : z = -1
      · have HP := Lib.hid (show pre.map (·.1) = hadTo u.zs (k + 1) by rw [hadTo_none (by rw [HZ.out]; exact h1)]; exact hpre.out)
        subst h1
        gi_wp2
        refine ⟨fun _ h => (by cases h), ?_⟩
        gi_wp2
        go_roundw
        case rel => exact ⟨k + 1, pre, by omega, by go_num, HP, hJs, huw⟩
        case measure => simp [intOf]; omega
      · have g1 : (z == -1) = false := by rw [beq_eq_false_iff_ne]; exact h1
        have hlen : pre.length < u.n := by
          have h2 := hadTo_len u.zs k
          rw [← hpre.out, List.length_map] at h2
          omega
        have HX : Hid (k < u.zs.length ∧ u.zs.getD k (-1) = z ∧ z ≠ -1) := Lib.hid ⟨hjl, HZ.out, h1⟩
        obtain ⟨fn, tmps, assign, body, hy, hR⟩ := hY pre ⟨(k, z), HX.out⟩ wr hJs hlen
        unfold encHad at hy
        dsimp only at hy
        have HP := Lib.hid (show (pre ++ [(⟨(k, z), HX.out⟩ : HadOf u.zs)]).map (·.1) = hadTo u.zs (k + 1) by
          rw [hadTo_some (by rw [HZ.out]; exact h1), List.map_append, hpre.out]; show _ ++ [(k, z)] = _; rw [HZ.out])
        clear hjl
        gi_wp2
        refine hR.mono ?_
        rintro e W3 (⟨rfl, hJ3, hk3⟩ | ⟨rfl, hJx3⟩)
        · gi_wp2
          go_roundw
          case rel => exact ⟨k + 1, _, by omega, by go_num, HP, hJ3, hk3 huw⟩
          case measure => simp [intOf]; omega
        · gi_wp2
          refine bodyPost_ret (results_none rfl _ _ _) rfl ?_
          refine ⟨⟨_, rfl⟩, .inr ⟨_, ?_, hJx3⟩⟩
          rw [HP.out]
          exact hadTo_pre u.zs (by omega)
    · obtain rfl : k = u.n := by omega
      gi_wp2
      go_end0
      exact ⟨⟨_, rfl⟩, .inl ⟨pre, hpre.out, hJs⟩⟩

set_option maxHeartbeats 1000000 in
theorem had_any (u : Ls) (w : World) : Calls Tryz.prog 130 #[u.v] w fun e w' => e = .returned (.func (.func 140) #[] #[.pointer (some ⟨w.heap.size, 0, none⟩)]) ∧ w' = w.alloc (.cells #[u.v] 22) := by
  unfold Ls.v
  go_enter Tryz.func130, Tryz.ntmps130
  go_wp2
  go_ret
  exact ⟨rfl, rfl⟩
theorem had_stops (n : Nat) (hn : 1 ≤ n) (Bn : Nat) (u : Ls) (w : World) (hb : Bn < w.heap.size) (hB : w.cell? ⟨Bn, 0, none⟩ = some u.v) (hu : u.Ok w) :
    SeqStopsK Fence.wide n Tryz.prog 140 #[.pointer (some ⟨Bn, 0, none⟩)] (encHad (zs := u.zs)) (fun W W' => u.Ok W → u.Ok W') (fun ys => ys.map (·.1) = hadTo u.zs u.n) (fun pre => pre.map (·.1) <+: hadTo u.zs u.n) u.n w := fun l J Jx W hW _ _ hY h0 =>
  had1_any n hn l Bn u J Jx hY W ((hW.cell (p := ⟨Bn, 0, none⟩) hb).trans hB) (hu.below hW) h0

/-- Who may have what: of the i-th of them, up to the j-th. -/
def pairsTo (g : List (List Int)) (k : Nat) : List (Nat × Int) := (List.range k).flatMap fun i => (g.getD i []).map fun z => (i, z)
def pairsAt (g : List (List Int)) (k j : Nat) : List (Nat × Int) := pairsTo g k ++ ((g.getD k []).take j).map fun z => (k, z)
theorem pairsTo_succ (g : List (List Int)) (k : Nat) : pairsTo g (k + 1) = pairsTo g k ++ (g.getD k []).map fun z => (k, z) := by
  simp only [pairsTo, List.range_succ, List.flatMap_append, List.flatMap_cons, List.flatMap_nil, List.append_nil]
theorem pairsAt_zero (g : List (List Int)) (k : Nat) : pairsAt g k 0 = pairsTo g k := by simp [pairsAt]
theorem pairsAt_all {g : List (List Int)} {k j : Nat} (h : (g.getD k []).length ≤ j) : pairsAt g k j = pairsTo g (k + 1) := by rw [pairsAt, List.take_of_length_le h, pairsTo_succ]
theorem pairsAt_succ {g : List (List Int)} {k j : Nat} (h : j < (g.getD k []).length) : pairsAt g k (j + 1) = pairsAt g k j ++ [(k, (g.getD k [])[j])] := by
  rw [pairsAt, pairsAt, List.take_succ_eq_append_getElem h, List.map_append, List.append_assoc]; rfl
theorem pairsTo_pre (g : List (List Int)) {j k : Nat} (h : j ≤ k) : pairsTo g j <+: pairsTo g k := by
  obtain ⟨m, rfl⟩ := Nat.exists_eq_add_of_le h
  rw [pairsTo, pairsTo, List.range_add, List.flatMap_append]
  exact ⟨_, rfl⟩
theorem pairsAt_pre (g : List (List Int)) {k n : Nat} (j : Nat) (h : k < n) : pairsAt g k j <+: pairsTo g n := by
  refine List.IsPrefix.trans ?_ (pairsTo_pre g (show k + 1 ≤ n from h))
  rw [pairsTo_succ, pairsAt]
  refine (List.prefix_append_right_inj _).2 ?_
  exact (List.take_prefix j _).map _
abbrev PairOf (g : List (List Int)) := { x : Nat × Int // x.1 < g.length ∧ x.2 ∈ g.getD x.1 [] }
def encPair {g : List (List Int)} (x : PairOf g) : Array Value := #[.int .i64 (x.1.1 : Int), .int .i64 x.1.2]

set_option maxRecDepth 100000 in
set_option maxHeartbeats 1000000 in
theorem pairs1_any (n : Nat) (hn : 1 ≤ n) (l Bn : Nat) (x : Gr) (J Jx : List (PairOf x.g) → World → Prop)
    (hY : ∀ pre y W, J pre W → pre.length < (pairsTo x.g x.n).length → YieldAt Fence.wide (n - 1) Tryz.prog l (encPair y) W fun e W' =>
      (e = .returned (.bool true) ∧ J (pre ++ [y]) W' ∧ (x.Ok W → x.Ok W')) ∨ (e = .returned (.bool false) ∧ Jx (pre ++ [y]) W'))
    (W : World) (hB : W.cell? ⟨Bn, 0, none⟩ = some x.v) (hu : x.Ok W) (h0 : J [] W) :
    CallsIn Fence.wide n Tryz.prog 128 #[.func (.yield l) #[] #[], .pointer (some ⟨Bn, 0, none⟩)] W fun e W' => (∃ v, e = .returned v) ∧
      ((∃ ys : List (PairOf x.g), ys.map (·.1) = pairsTo x.g x.n ∧ J ys W') ∨ (∃ pre : List (PairOf x.g), pre.map (·.1) <+: pairsTo x.g x.n ∧ Jx pre W')) := by
  have hl := hu.glen
  have HL := Lib.hid hl
  have tn := Nat.le_trans hu.cap hu.top
  unfold maxLen at tn
  clear hl
  unfold Gr.v at hB
  refine callsIn_of_wp Tryz.func128 rfl trivial ?_ rfl
  simp only [Tryz.ntmps128, List.size_toArray, List.length_cons, List.length_nil, Nat.reduceAdd, Nat.reduceSub, Array.replicate_succ, Array.replicate_zero, List.push_toArray, List.append_toArray, List.nil_append, List.cons_append]
  gi_wp2
  gi_loopw [9] (fun i wr => ∃ (k : Nat) (pre : List (PairOf x.g)), k ≤ x.n ∧ i = .int .i64 k ∧ Hid (pre.map (·.1) = pairsTo x.g k) ∧ J pre wr ∧ x.Ok wr) (fun i _ => x.n - (intOf i).toNat)
  case atStart => exact ⟨0, [], Nat.zero_le _, rfl, Lib.hid rfl, h0, hu⟩
  case round =>
    obtain ⟨k, pre, hk, rfl, hpre, hJs, hxw⟩ := hrel
    obtain ⟨wo, rfl⟩ : ∃ wo, wo = wr := ⟨_, rfl⟩
    by_cases hlt : k < x.n
    · obtain ⟨p, q, u, hA, hu2, hg, hp, hcl, hkk⟩ := hxw.get hlt
      unfold Ls.v at hcl
      have hi1 : (k : Int) < x.n := by omega
      have hun := Nat.le_trans hkk.cap hkk.top
      unfold maxLen at hun
      rw [hA]
      have HA := Lib.hid hA
      have HG := Lib.hid hg
      have HU := Lib.hid hu2
      clear hA hu2 hg
      gi_wp2
      gi_loopw [16] (fun i wr => ∃ (j : Nat) (pre : List (PairOf x.g)), j ≤ u.n ∧ i = .int .i64 j ∧ Hid (pre.map (·.1) = pairsAt x.g k j) ∧ J pre wr ∧ x.Ok wr ∧ u.Ok wr) (fun i _ => u.n - (intOf i).toNat)
      case atStart => exact ⟨0, pre, Nat.zero_le _, rfl, Lib.hid (by rw [pairsAt_zero]; exact hpre.out), hJs, hxw, hkk⟩
      case round =>
        clear hJs hcl hpre
        obtain ⟨j, pre2, hj, rfl, hpre2, hJ2, hxr, hur⟩ := hrel
        by_cases hlt2 : j < u.n
        · obtain ⟨p2, q2, hA2, hp2, u0, hu0, hc0⟩ := hur.rd.get hlt2
          have hjl : j < u.zs.length := by rw [hur.len]; exact hlt2
          rw [ci64_get _ _ hjl] at hu0
          obtain rfl : iV u.zs[j] = u0 := Option.some.inj hu0
          unfold iV at hc0
          have hi2 : (j : Int) < u.n := by omega
          have hjg : j < (x.g.getD k []).length := by rw [HG.out]; exact hjl
          have hgz : (x.g.getD k [])[j] = u.zs[j] := by simp only [HG.out]
          obtain ⟨z, hz⟩ : ∃ z, u.zs[j] = z := ⟨_, rfl⟩
          rw [hz] at hc0 hgz
          have hmem : z ∈ x.g.getD k [] := by rw [← hgz]; exact List.getElem_mem hjg
          have HS : Hid (pairsAt x.g k (j + 1) = pre2.map (·.1) ++ [(k, z)]) := Lib.hid (by rw [pairsAt_succ hjg, hpre2.out, hgz])
          have hlen : pre2.length < (pairsTo x.g x.n).length := by
            have h2 := (pairsAt_pre x.g (j + 1) hlt).length_le
            rw [HS.out, List.length_append, List.length_map] at h2
            simp at h2
            omega
          have HX : Hid (k < x.g.length ∧ z ∈ x.g.getD k []) := Lib.hid ⟨by rw [HL.out]; exact hlt, hmem⟩
          obtain ⟨fn, tmps, assign, body, hy, hR⟩ := hY pre2 ⟨(k, z), HX.out⟩ wr hJ2 hlen
          unfold encPair at hy
          dsimp only at hy
          have HP := Lib.hid (show (pre2 ++ [(⟨(k, z), HX.out⟩ : PairOf x.g)]).map (·.1) = pairsAt x.g k (j + 1) by
            rw [HS.out, List.map_append]; rfl)
          rw [hA2]
          clear hu0 hz hgz hjl hjg hmem hA2
          gi_wp2
          refine hR.mono ?_
          rintro e W3 (⟨rfl, hJ3, hk3⟩ | ⟨rfl, hJx3⟩)
          · have hx3 := hk3 hxr
            have hu3 : u.Ok W3 := by
              obtain ⟨_, _, u', _, hu', _, _, _, hk'⟩ := hx3.get hlt
              rw [HU.out] at hu'
              cases hu'
              exact hk'
            gi_wp2
            go_roundw
            case rel => exact ⟨j + 1, _, by omega, by go_num, HP, hJ3, hx3, hu3⟩
            case measure => simp [intOf]; omega
          · gi_wp2
            refine bodyPost_ret (results_none rfl _ _ _) rfl ?_
            refine ⟨⟨_, rfl⟩, .inr ⟨_, ?_, hJx3⟩⟩
            rw [HP.out]
            exact pairsAt_pre x.g (j + 1) hlt
        · obtain rfl : j = u.n := by omega
          have HP := Lib.hid (show pre2.map (·.1) = pairsTo x.g (k + 1) by rw [hpre2.out]; exact pairsAt_all (by rw [HG.out, hur.len]; exact Nat.le_refl _))
          gi_wp2
          go_roundw
          case rel => exact ⟨k + 1, _, by omega, by go_num, HP, hJ2, hxr⟩
          case measure => simp [intOf]; omega
    · obtain rfl : k = x.n := by omega
      gi_wp2
      go_end0
      exact ⟨⟨_, rfl⟩, .inl ⟨pre, hpre.out, hJs⟩⟩

set_option maxHeartbeats 1000000 in
theorem pairs_any (x : Gr) (w : World) : Calls Tryz.prog 113 #[x.v] w fun e w' => e = .returned (.func (.func 128) #[] #[.pointer (some ⟨w.heap.size, 0, none⟩)]) ∧ w' = w.alloc (.cells #[x.v] 23) := by
  unfold Gr.v
  go_enter Tryz.func113, Tryz.ntmps113
  go_wp2
  go_ret
  exact ⟨rfl, rfl⟩
theorem pairs_stops (n : Nat) (hn : 1 ≤ n) (Bn : Nat) (x : Gr) (w : World) (hb : Bn < w.heap.size) (hB : w.cell? ⟨Bn, 0, none⟩ = some x.v) (hu : x.Ok w) :
    SeqStopsK Fence.wide n Tryz.prog 128 #[.pointer (some ⟨Bn, 0, none⟩)] (encPair (g := x.g)) (fun W W' => x.Ok W → x.Ok W') (fun ys => ys.map (·.1) = pairsTo x.g x.n) (fun pre => pre.map (·.1) <+: pairsTo x.g x.n) (pairsTo x.g x.n).length w := fun l J Jx W hW _ _ hY h0 =>
  pairs1_any n hn l Bn x J Jx hY W ((hW.cell (p := ⟨Bn, 0, none⟩) hb).trans hB) (hu.below hW) h0
end Go.Proofs.YtdckoaljcklmhaaGreatDoor


namespace Go.Proofs.YtdckoaljcklmhaaGreatDoor
open Go.RowKit Go.Shelf
set_option linter.unusedVariables false
attribute [local go_sem] Oper.semAt_some

theorem hadTo_many (zs : List Int) : (hadTo zs zs.length).length = manyG zs := by
  have h : ∀ k, k ≤ zs.length → (hadTo zs k).length = manyG (zs.take k) := by
    intro k
    induction k with
    | zero => intro _; rw [hadTo_zero, List.take_zero]; rfl
    | succ k ih =>
      intro hk
      have hg : zs.getD k (-1) = zs[k] := by rw [List.getD_eq_getElem?_getD, List.getElem?_eq_getElem (by omega)]; rfl
      rw [manyG_take (by omega), ← ih (by omega)]
      by_cases hz : zs[k] = -1
      · rw [hadTo_none (by rw [hg]; exact hz), if_neg (by simp [hz])]; rfl
      · rw [hadTo_some (by rw [hg]; exact hz), if_pos hz, List.length_append]; rfl
  rw [h _ (Nat.le_refl _), List.take_length]

set_option maxRecDepth 100000 in
set_option maxHeartbeats 1000000 in
theorem gmanyC : ManyC 118 := by
  intro u w hu
  have hl := hu.len
  have tn := Nat.le_trans hu.cap hu.top
  unfold maxLen at tn
  have HL := Lib.hid hl
  clear hl
  refine (callsIn_wide (n := 3)).1 ?_
  refine callsIn_of_wp_marks Tryz.func118 rfl trivial ?_ rfl
  have hhad := had_any u (w.alloc (.cells #[.int .i64 0] 3))
  unfold Ls.v at hhad ⊢
  simp only [Tryz.ntmps118, List.size_toArray, List.length_cons, List.length_nil, Nat.reduceAdd, Nat.reduceSub, Array.replicate_succ, Array.replicate_zero, List.push_toArray, List.append_toArray, List.nil_append, List.cons_append]
  refine wpIn_wide.2 ?_
  go_wp2_with fail
  refine hhad.mono ?_
  rintro e w' ⟨rfl, rfl⟩
  go_wp2
  refine (wpIn_wide (n := 3)).1 ?_
  have hB0 : Below w.heap.size w ((w.alloc (.cells #[.int .i64 0] 3)).alloc (.cells #[.slice u.A u.n u.c] 22)) := ((Below.refl _ w).alloc (Nat.le_refl _) _).alloc (by simp) _
  have b0 : Boxed ((w.alloc (.cells #[.int .i64 0] 3)).alloc (.cells #[.slice u.A u.n u.c] 22)) w.heap.size 3 (.int .i64 (([] : List (HadOf u.zs)).length : Int)) := (Boxed.new w _ _).alloc _
  have b1 := Boxed.new (w.alloc (.cells #[.int .i64 0] 3)) 22 (.slice u.A u.n u.c)
  rw [World.size_alloc] at b1
  generalize (w.alloc (.cells #[.int .i64 0] 3)).alloc (.cells #[.slice u.A u.n u.c] 22) = w1 at hB0 b0 b1 ⊢
  have hu1 := hu.below hB0
  refine wpIn_rangeFunc_ownG rfl (by omega) (gf := 140) (lb := #[.pointer (some ⟨w.heap.size + 1, 0, none⟩)]) rfl trivial (enters_of Tryz.func140 (by kernel_rfl) rfl)
    (had_stops 2 (by omega) (w.heap.size + 1) u w1 b1.lt b1.cell hu1) (fun h k a => k (h a)) (keepsK_b (fun a b h k => Ls.Ok.cel k h) w1) (Below.refl _ _) (fun _ => rfl)
    (fun pre W => Boxed W w.heap.size 3 (.int .i64 (pre.length : Int)) ∧ Below w.heap.size w W)
    (fun _ _ _ => False)
    (OwnFrom.and (Go.Own.from (boxed_own _ _ (fun pre : List (HadOf u.zs) => (.int .i64 (pre.length : Int)))) _) (ownFrom_below (Nat.le_refl _) hB0.size))
    (fun _ _ _ _ _ hs _ _ => hs)
    ⟨b0, hB0⟩
    (fun x => { tmps := #[.slice u.A u.n u.c, undef, .int .i64 0, .pointer (some ⟨w.heap.size, 0, none⟩), .slice u.A u.n u.c, .func (.func 140) #[] #[.pointer (some ⟨w.heap.size + 1, 0, none⟩)], .int .i64 (x.1.1 : Int), .int .i64 x.1.2, undef, undef, undef], defers := [] }) ?assign ?body ?done ?stop
  case assign =>
    intro l x W K hK
    simp only [encHad, List.zip_toArray, List.zip_cons_cons, List.zip_nil_right, List.foldl_toArray', List.foldl_cons, List.foldl_nil, List.size_toArray, List.setIfInBounds_toArray, List.set_cons_succ, List.set_cons_zero]
    gi_wp2
    exact hK
  case body =>
    rintro l pre x W ⟨hb, hB⟩ hlen
    have hc := hb.cell
    have hf := hb.frozen
    have hB2 := hB.setCell (p := ⟨w.heap.size, 0, none⟩) (Nat.le_refl _) (.int .i64 ((pre.length : Int) + 1))
    have hs : IntKind.i64.wrap ((pre.length : Int) + 1) = (pre.length : Int) + 1 := by rw [IntKind.wrap_i64]; omega
    gi_wp2
    refine ⟨(KeepsOthers.setCell _ _ _).from _, fun _ => hu.below hB2, ?_, hB2⟩
    have h2 := hb.set (.int .i64 ((pre.length : Int) + 1))
    rw [List.length_append]
    exact h2
  case done =>
    rintro D ys W hD hys ⟨hb, hB⟩ hK
    have hn : ys.length = manyG u.zs := by
      rw [← hadTo_many, HL.out, ← hys, List.length_map]
    rw [hn] at hb
    have hc := hb.cell
    go_wp2
    refine ⟨by simp, .inl ⟨_, _, rfl, run_takeDeferred hK, ?_⟩⟩
    exact ⟨_, results_tmp rfl _ _ _, rfl, hB.trans (belowK_b (w := w) (Nat.le_refl _) W D _ _ (Nat.le_trans hB0.size hD) hK rfl rfl)⟩
  case stop =>
    rintro D c pre W hD hsp h _
    exact h.elim
end Go.Proofs.YtdckoaljcklmhaaGreatDoor


namespace Go.Proofs.YtdckoaljcklmhaaGreatDoor
open Go.RowKit Go.Shelf
set_option linter.unusedVariables false
attribute [local go_sem] Oper.semAt_some

/-- So far it fits. -/
def GoodTo (g : List (List Int)) (l : List (Nat × Int)) : Prop := (∀ y ∈ l, y.2 ∈ g.getD y.1 []) ∧ (l.map (·.2)).Pairwise (· ≠ ·)
theorem goodTo_snoc {g : List (List Int)} {l : List (Nat × Int)} {y : Nat × Int} : GoodTo g (l ++ [y]) ↔ GoodTo g l ∧ y.2 ∈ g.getD y.1 [] ∧ y.2 ∉ l.map (·.2) := by
  rw [GoodTo, GoodTo, List.map_append, List.pairwise_append]
  constructor
  · rintro ⟨h1, h2, _, h4⟩
    refine ⟨⟨fun z hz => h1 z (by simp [hz]), h2⟩, h1 y (by simp), fun hm => h4 _ hm y.2 (by simp) rfl⟩
  · rintro ⟨⟨h1, h2⟩, h3, h4⟩
    refine ⟨fun z hz => ?_, h2, by simp, fun a ha b hb => ?_⟩
    · rcases List.mem_append.1 hz with hz | hz
      · exact h1 z hz
      · rw [List.mem_singleton.1 hz]; exact h3
    · have hb' : b = y.2 := by simpa using hb
      subst hb'
      intro e
      exact h4 (e ▸ ha)
theorem goodTo_pre {g : List (List Int)} {l l' : List (Nat × Int)} (h : l <+: l') (hg : GoodTo g l') : GoodTo g l := by
  obtain ⟨r, rfl⟩ := h
  refine ⟨fun y hy => hg.1 y (by simp [hy]), ?_⟩
  have := hg.2
  rw [List.map_append] at this
  exact (List.pairwise_append.1 this).1
theorem mem_hadTo {zs : List Int} {k : Nat} (hk : k ≤ zs.length) {z : Int} (hz : z ≠ -1) : z ∈ (hadTo zs k).map (·.2) ↔ z ∈ zs.take k := by
  induction k with
  | zero => simp [hadTo_zero]
  | succ k ih =>
    have hg : zs.getD k (-1) = zs[k] := by rw [List.getD_eq_getElem?_getD, List.getElem?_eq_getElem (by omega)]; rfl
    rw [List.take_succ_eq_append_getElem (by omega), List.mem_append, List.mem_singleton, ← ih (by omega)]
    by_cases h : zs[k] = -1
    · rw [hadTo_none (by rw [hg]; exact h), h]
      simp [hz]
    · rw [hadTo_some (by rw [hg]; exact h), List.map_append, List.mem_append, hg]
      simp
theorem goodTo_all {g : List (List Int)} {zs : List Int} {k : Nat} (hk : k ≤ zs.length) : GoodTo g (hadTo zs k) ↔ ∀ i, i < k → okAt g zs i = true := by
  induction k with
  | zero => simp [hadTo_zero, GoodTo]
  | succ k ih =>
    have hs : (∀ i, i < k + 1 → okAt g zs i = true) ↔ (∀ i, i < k → okAt g zs i = true) ∧ okAt g zs k = true := by
      constructor
      · intro h; exact ⟨fun i hi => h i (by omega), h k (by omega)⟩
      · rintro ⟨h1, h2⟩ i hi
        rcases Nat.lt_succ_iff_lt_or_eq.1 hi with hi | rfl
        · exact h1 i hi
        · exact h2
    rw [hs, ← ih (by omega)]
    by_cases h : zs.getD k (-1) = -1
    · rw [hadTo_none h]
      simp [okAt, h, -List.getD_eq_getElem?_getD]
    · rw [hadTo_some h, goodTo_snoc]
      show _ ∧ zs.getD k (-1) ∈ g.getD k [] ∧ zs.getD k (-1) ∉ _ ↔ _
      rw [mem_hadTo (by omega) h]
      simp [okAt, h, -List.getD_eq_getElem?_getD]
theorem goodTo_fits {g : List (List Int)} {m : Int} {zs : List Int} (hc : checkG g m = true) (hl : zs.length = g.length) : fitsG g m zs = true ↔ GoodTo g (hadTo zs zs.length) := by
  rw [goodTo_all (Nat.le_refl _), fitsG_iff]
  exact ⟨fun h => h.2.2, fun h => ⟨hc, hl, h⟩⟩

set_option maxRecDepth 100000 in
set_option maxHeartbeats 1000000 in
theorem gfitsC : FitsC 159 := by
  intro x m u w hx hu h1 h2
  have HL := Lib.hid hu.len
  have HG := Lib.hid hx.glen
  have tx := Nat.le_trans hx.cap hx.top
  have tu := Nat.le_trans hu.cap hu.top
  unfold maxLen at tx tu
  obtain ⟨β, hβ⟩ : ∃ β, fitsG x.g m u.zs = β := ⟨_, rfl⟩
  have HB := Lib.hid hβ
  rw [hβ]
  clear hβ
  refine (callsIn_wide (n := 3)).1 ?_
  refine callsIn_of_wp_marks Tryz.func159 rfl trivial ?_ rfl
  unfold Gr.v Ls.v
  simp only [Tryz.ntmps159, List.size_toArray, List.length_cons, List.length_nil, Nat.reduceAdd, Nat.reduceSub, Array.replicate_succ, Array.replicate_zero, List.push_toArray, List.append_toArray, List.nil_append, List.cons_append]
  refine wpIn_wide.2 ?_
  go_wp2_with fail
  have bG : Boxed ((w.alloc (.cells #[.slice x.A x.n x.c] 23)).alloc (.cells #[.bool false] 4)) w.heap.size 23 (.slice x.A x.n x.c) := (Boxed.new w _ _).alloc _
  have bR := Boxed.new (w.alloc (.cells #[.slice x.A x.n x.c] 23)) 4 (.bool false)
  rw [World.size_alloc] at bR
  have hB1 : Below w.heap.size w ((w.alloc (.cells #[.slice x.A x.n x.c] 23)).alloc (.cells #[.bool false] 4)) := ((Below.refl _ w).alloc (Nat.le_refl _) _).alloc (by simp) _
  generalize (w.alloc (.cells #[.slice x.A x.n x.c] 23)).alloc (.cells #[.bool false] 4) = w1 at bG bR hB1 ⊢
  have hck := gcheckC x m w1 (hx.below hB1) h1 h2
  unfold Gr.v at hck
  obtain ⟨γ, hγ⟩ : ∃ γ, checkG x.g m = γ := ⟨_, rfl⟩
  have HC := Lib.hid hγ
  rw [hγ] at hck
  clear hγ
  refine hck.mono ?_
  rintro e w2 ⟨rfl, hb2⟩
  replace bG := boxed_below bG hb2
  replace bR := boxed_below bR hb2
  replace hB1 := hB1.trans (hb2.mono hB1.size)
  clear hck hb2
  cases γ
  · have HF : Hid (β = false) := Lib.hid (by rw [← HB.out, fitsG, HC.out]; rfl)
    have c1 := bG.cell
    have c2 := bR.cell
    have f2 := bR.frozen
    go_wp2
    have hc3 := (bR.set (.bool false)).cell
    refine postM_ret (v := .bool false) (by simp only [results, Tryz.f159]; go_simp) rfl ?_
    exact ⟨ret_bool HF.out.symm, hB1.setCell (p := ⟨w.heap.size + 1, 0, none⟩) (by simp) _⟩
  rcases Decidable.em (¬ u.n = x.n) with hl | hl
  · have HF : Hid (β = false) := Lib.hid (by rw [← HB.out, fitsG, decide_eq_false (show ¬ u.zs.length = x.g.length by rw [HL.out, HG.out]; exact hl)]; simp)
    have c1 := bG.cell
    have c2 := bR.cell
    have f2 := bR.frozen
    have g1 : ((u.n : Int) == (x.n : Int)) = false := by rw [beq_eq_false_iff_ne]; omega
    go_wp2
    have hc3 := (bR.set (.bool false)).cell
    refine postM_ret (v := .bool false) (by simp only [results, Tryz.f159]; go_simp) rfl ?_
    exact ⟨ret_bool HF.out.symm, hB1.setCell (p := ⟨w.heap.size + 1, 0, none⟩) (by simp) _⟩
  replace hl := Decidable.not_not.1 hl
  have g1 : ((u.n : Int) == (x.n : Int)) = true := by rw [hl]; simp
  have HN := Lib.hid hl
  clear hl
  have c1 := bG.cell
  go_wp2_with fail
  have HS := bR.lt
  replace bG := boxed_below bG ((Below.refl _ w2).alloc (Nat.le_refl _) (.cells #[.bool false, .bool false, .bool false, .bool false, .bool false, .bool false, .bool false, .bool false] 145))
  replace bR := boxed_below bR ((Below.refl _ w2).alloc (Nat.le_refl _) (.cells #[.bool false, .bool false, .bool false, .bool false, .bool false, .bool false, .bool false, .bool false] 145))
  have bS := SetAt.new w2 145
  have hB2 := hB1.alloc hB1.size (.cells #[.bool false, .bool false, .bool false, .bool false, .bool false, .bool false, .bool false, .bool false] 145)
  clear c1
  generalize w2.alloc (.cells #[.bool false, .bool false, .bool false, .bool false, .bool false, .bool false, .bool false, .bool false] 145) = w3 at bG bR bS hB2 ⊢
  have hhad := had_any u w3
  unfold Ls.v at hhad
  refine hhad.mono ?_
  rintro e w' ⟨rfl, rfl⟩
  clear hhad
  go_wp2
  refine (wpIn_wide (n := 3)).1 ?_
  have hB4 := hB2.alloc hB2.size (.cells #[.slice u.A u.n u.c] 22)
  have bH := Boxed.new w3 22 (.slice u.A u.n u.c)
  replace bG : Boxed _ _ _ _ := bG.alloc (.cells #[.slice u.A u.n u.c] 22)
  replace bR : Boxed _ _ _ _ := bR.alloc (.cells #[.slice u.A u.n u.c] 22)
  replace bS := bS.cel (cel_alloc w3 (.cells #[.slice u.A u.n u.c] 22))
  generalize w3.alloc (.cells #[.slice u.A u.n u.c] 22) = w4 at bG bR bS bH hB4 ⊢
  have hu1 := hu.below hB4
  refine wpIn_rangeFunc_ownG rfl (by omega) (gf := 140) (lb := #[.pointer (some ⟨w3.heap.size, 0, none⟩)]) rfl trivial (enters_of Tryz.func140 (by kernel_rfl) rfl)
    (had_stops 2 (by omega) w3.heap.size u w4 bH.lt bH.cell hu1) (fun h k a => k (h a)) (keepsK_b (fun a b h k => Ls.Ok.cel k h) w4) (Below.refl _ _) (fun _ => rfl)
    (fun pre W => (Boxed W w.heap.size 23 (.slice x.A x.n x.c) ∧ Boxed W (w.heap.size + 1) 4 (.bool false) ∧ SetAt W w2.heap.size 145 (fun k => decide ((k : Int) ∈ (pre.map (·.1)).map (·.2))) ∧ GoodTo x.g (pre.map (·.1))) ∧ Below w.heap.size w W)
    (fun c pre W => (c = .ret ∧ Boxed W (w.heap.size + 1) 4 (.bool false) ∧ ¬ GoodTo x.g (pre.map (·.1))) ∧ Below w.heap.size w W)
    (OwnFrom.and (ownFrom_cel _ fun s A B hc h => ⟨boxed_cel h.1 hc, boxed_cel h.2.1 hc, h.2.2.1.cel hc, h.2.2.2⟩) (ownFrom_below (Nat.le_refl _) hB4.size))
    (fun c => OwnFrom.and (ownFrom_cel _ fun s A B hc h => by obtain ⟨a, b, d⟩ := h; exact ⟨a, boxed_cel b hc, d⟩) (ownFrom_below (Nat.le_refl _) hB4.size))
    ⟨⟨bG, bR, bS, by simp [GoodTo]⟩, hB4⟩
    (fun y => { tmps := #[.slice x.A x.n x.c, .int .i64 m, .slice u.A u.n u.c, .pointer (some ⟨w.heap.size, 0, none⟩), undef, undef, .pointer (some ⟨w.heap.size + 1, 0, none⟩), .pointer (some ⟨w2.heap.size, 0, none⟩), .int .i64 (y.1.1 : Int), .int .i64 y.1.2, .slice x.A x.n x.c, .int .i64 m, .bool true, .bool false, .bool false, .slice u.A u.n u.c, .int .i64 (u.n : Int), .slice x.A x.n x.c, .int .i64 (x.n : Int), .bool false, .bool false, .slice u.A u.n u.c, .func (.func 140) #[] #[.pointer (some ⟨w3.heap.size, 0, none⟩)], .int .i64 (y.1.1 : Int), .int .i64 y.1.2, undef, undef, undef, undef, undef, undef, undef, undef, undef, undef, undef, undef, undef, undef], defers := [] }) ?assign ?body ?done ?stop
  case assign =>
    intro l y W K hK
    simp only [encHad, List.zip_toArray, List.zip_cons_cons, List.zip_nil_right, List.foldl_toArray', List.foldl_cons, List.foldl_nil, List.size_toArray, List.setIfInBounds_toArray, List.set_cons_succ, List.set_cons_zero]
    gi_wp2
    exact hK
  case body =>
    rintro l pre ⟨⟨i, z⟩, hi, hz, hz1⟩ W ⟨⟨aG, aR, aS, hgood⟩, hB⟩ hlen
    dsimp only at hi hz hz1 ⊢
    have hxW := hx.below hB
    have hin : i < x.n := by rw [← HN.out, ← HL.out]; exact hi
    obtain ⟨p, q, v, hA, _, hg, hp, hcl, hk⟩ := hxW.get hin
    unfold Ls.v at hcl
    have c1 := aG.cell
    rw [hA] at c1
    have c2 := aR.cell
    have f2 := aR.frozen
    have hi1 : (i : Int) < x.n := by omega
    have hct := gcontains_any v.A v.n v.c v.zs z W hk.rd (Nat.le_trans hk.cap hk.top)
    have HSN : Hid (GoodTo x.g ((pre ++ [(⟨(i, z), hi, hz, hz1⟩ : HadOf u.zs)]).map (·.1)) ↔ GoodTo x.g (pre.map (·.1)) ∧ z ∈ v.zs ∧ z ∉ (pre.map (·.1)).map (·.2)) := Lib.hid (by
      rw [List.map_append, ← hg]; exact goodTo_snoc)
    rcases Decidable.em (z ∉ v.zs) with hm | hm
    · rw [decide_eq_false hm] at hct
      have HBad := Lib.hid (fun h => hm (HSN.out.1 h).2.1)
      gi_wp2_with (refine ⟨trivial, ?_⟩; refine (CallsIn.inRound l (callsIn_wide.2 hct)).mono ?_; rintro e w' ⟨rfl, rfl⟩)
      exact ⟨(KeepsOthers.setCell _ _ _).from _, ⟨rfl, aR.set _, HBad.out⟩, hB.setCell (p := ⟨w.heap.size + 1, 0, none⟩) (by simp) _⟩
    replace hm := Decidable.not_not.1 hm
    rw [decide_eq_true hm] at hct
    have hr8 : 0 ≤ z ∧ z < 8 := by
      obtain ⟨r1, r2, r3, r4⟩ := checkG_iff.1 HC.out
      have r5 := (r4 v.zs (by rw [← hg]; exact getD_mem (by rw [HG.out]; exact hin))).1 z hm
      omega
    obtain ⟨k, rfl⟩ : ∃ k : Nat, z = k := ⟨z.toNat, by omega⟩
    have hk8 : k < 8 := by omega
    have hk8' : (k : Int) < 8 := by omega
    have c3 := aS.cell hk8
    have f3 := aS.frozen k
    rcases Decidable.em ((k : Int) ∈ (pre.map (·.1)).map (·.2)) with hin2 | hin2
    · rw [decide_eq_true hin2] at c3
      have HBad := Lib.hid (fun h => (HSN.out.1 h).2.2 hin2)
      clear hm hin2
      gi_wp2_with (refine ⟨trivial, ?_⟩; refine (CallsIn.inRound l (callsIn_wide.2 hct)).mono ?_; rintro e w' ⟨rfl, rfl⟩)
      exact ⟨(KeepsOthers.setCell _ _ _).from _, ⟨rfl, aR.set _, HBad.out⟩, hB.setCell (p := ⟨w.heap.size + 1, 0, none⟩) (by simp) _⟩
    · rw [decide_eq_false hin2] at c3
      have HGood := Lib.hid (HSN.out.2 ⟨hgood, hm, hin2⟩)
      clear hm hin2
      gi_wp2_with (refine ⟨trivial, ?_⟩; refine (CallsIn.inRound l (callsIn_wide.2 hct)).mono ?_; rintro e w' ⟨rfl, rfl⟩)
      have hB5 := hB.setCell (p := ⟨w2.heap.size, k, none⟩) (by show w.heap.size ≤ w2.heap.size; omega) (.bool true)
      refine ⟨(KeepsOthers.setCell _ _ _).from _, fun _ => hu.below hB5, ⟨?_, ?_, ?_, HGood.out⟩, hB5⟩
      · exact boxed_keep aG (heap_setCell_other _ _ _ _ (by show w.heap.size ≠ w2.heap.size; omega))
      · exact boxed_keep aR (heap_setCell_other _ _ _ _ (by show w.heap.size + 1 ≠ w2.heap.size; omega))
      · refine aS.set hk8 fun j hj => ?_
        rw [List.map_append, List.map_append]
        by_cases he : j = k
        · rw [if_pos he, he]
          exact decide_eq_true (by simp)
        · rw [if_neg he]
          refine decide_eq_decide.2 ?_
          rw [List.mem_append]
          simp
          omega
  case done =>
    rintro D ys W hD hys ⟨⟨aG, aR, aS, hgood⟩, hB⟩ hK
    have HF : Hid (true = β) := Lib.hid (by
      rw [hys, ← HL.out] at hgood
      rw [← HB.out]
      exact ((goodTo_fits HC.out (by rw [HL.out, HG.out]; exact HN.out)).2 hgood).symm)
    have c2 := aR.cell
    have f2 := aR.frozen
    go_wp2
    have hK2 := (KeepsOthers.setCell W ⟨w.heap.size + 1, 0, none⟩ (.bool true)).same D _ hK rfl
    have hc5 := (boxed_cel (aR.set (.bool true)) (cel_putObj (.deferred none) hK2 rfl)).cell
    have hB5 := hB.setCell (p := ⟨w.heap.size + 1, 0, none⟩) (by simp) (.bool true)
    refine postM_mark (v := .bool true) hK2 (by simp only [results, Tryz.f159]; go_simp) rfl ?_
    exact ⟨ret_bool HF.out, hB5.trans (belowK_b (w := w) (Nat.le_refl _) _ D _ _ (Nat.le_trans hB4.size hD) hK2 rfl rfl)⟩
  case stop =>
    rintro D c pre W hD hsp ⟨⟨rfl, aR, hbad⟩, hB⟩ hK
    have HF : Hid (false = β) := Lib.hid (by
      rw [← HB.out]
      refine (Bool.eq_false_iff.2 fun h => hbad (goodTo_pre hsp ?_)).symm
      rw [← HL.out]
      exact (goodTo_fits HC.out (by rw [HL.out, HG.out]; exact HN.out)).1 h)
    gi_wp2
    have hc5 := (boxed_cel aR (cel_putObj (.deferred none) hK rfl)).cell
    refine postM_mark (v := .bool false) hK (by simp only [results, Tryz.f159]; go_simp) rfl ?_
    exact ⟨ret_bool HF.out, hB.trans (belowK_b (w := w) (Nat.le_refl _) _ D _ _ (Nat.le_trans hB4.size hD) hK rfl rfl)⟩
end Go.Proofs.YtdckoaljcklmhaaGreatDoor


namespace Go.Proofs.YtdckoaljcklmhaaGreatDoor
open Go.RowKit Go.Shelf
set_option linter.unusedVariables false

theorem infoW_int : (Tryz.prog.info? 3).map (fun i => (i.zero, i.size, i.bytes)) = some (some (.int .i64 0), 1, 8) := by kernel_rfl
theorem infoW_ints : (Tryz.prog.info? 22).map (fun i => (i.zero, i.size, i.bytes)) = some (some (.slice none 0 0), 1, 24) := by kernel_rfl

/-- a[i] of an array by value. -/
theorem run_index_arr (w : World) (cs : Array Value) (k : IntKind) (j : Nat) (v : Value) (hj : j < 8) (hv : cs[j]? = some v) :
    (Instr.index 145 (.agg cs) (.int k (j : Int))).run Tryz.prog w = .ok v w := by
  have h2 : (0 : Int) ≤ j ∧ (j : Int) < 8 := by omega
  simp [Instr.index, run_underlying Tryz.underlying145, asIntOf, h2, hj, hv, go_sem]
set_option maxRecDepth 100000 in
set_option maxHeartbeats 1000000 in
theorem gset_list (w : World) (b0 b1 b2 b3 b4 b5 b6 b7 : Bool) :
    Calls Tryz.prog 115 #[.agg #[.bool b0, .bool b1, .bool b2, .bool b3, .bool b4, .bool b5, .bool b6, .bool b7]] w fun e w' => ∃ A n c, e = .returned (.slice A n c) ∧ OwnI w' w.heap.size ⟨A, n, c, upto 8 fun k => [b0, b1, b2, b3, b4, b5, b6, b7].getD k false⟩ ∧ Below w.heap.size w w' := by
  obtain ⟨i0, hi0, hz0, hz1, hz2⟩ := info_parts infoW_int
  obtain ⟨F, hF⟩ : ∃ F : Nat → Bool, (fun k => [b0, b1, b2, b3, b4, b5, b6, b7].getD k false) = F := ⟨_, rfl⟩
  rw [hF]
  go_enter Tryz.func115, Tryz.ntmps115
  go_wp2
  obtain ⟨cur, hcur⟩ : ∃ cur, #[Value.bool b0, Value.bool b1, Value.bool b2, Value.bool b3, Value.bool b4, Value.bool b5, Value.bool b6, Value.bool b7] = cur := ⟨_, rfl⟩
  have hsz : cur.size = 8 := by rw [← hcur]; rfl
  have hget : ∀ k, k < 8 → cur[k]? = some (.bool (F k)) := by
    intro k hk
    rw [← hcur, ← hF]
    match k, hk with
    | 0, _ => rfl
    | 1, _ => rfl
    | 2, _ => rfl
    | 3, _ => rfl
    | 4, _ => rfl
    | 5, _ => rfl
    | 6, _ => rfl
    | 7, _ => rfl
    | k + 8, h => omega
  rw [hcur]
  clear hF hcur
  have hB0 : Below w.heap.size w (w.alloc (.cells cur 145)) := (Below.refl _ w).alloc (Nat.le_refl _) _
  generalize w.alloc (.cells cur 145) = w1 at hB0 ⊢
  go_loopw [3, 7] (fun l i wr => ∃ (j : Nat) (A : Option Addr) (n c : Nat), j ≤ 8 ∧ i = .int .i64 j ∧ l = .slice A n c ∧ OwnI wr w.heap.size ⟨A, n, c, upto j F⟩ ∧ Below w.heap.size w wr) (fun _ i _ => 8 - (intOf i).toNat)
  case atStart => exact ⟨0, none, 0, 0, by omega, rfl, rfl, OwnI.nil _ _, hB0⟩
  case round =>
    obtain ⟨j, A, n, c, hj, rfl, rfl, hO, hB⟩ := hrel
    by_cases hlt : j < 8
    · have hgj := hget j hlt
      have hlt' : (j : Int) < 8 := by omega
      have hj8 : j < cur.size := by omega
      have hlen := hO.len
      have hul := upto_len j F
      have hsnoc : Hid (upto (j + 1) F = upto j F ++ if F j = true then [(j : Int)] else []) := Lib.hid (upto_succ j F)
      obtain ⟨β, hβ⟩ : ∃ β, F j = β := ⟨_, rfl⟩
      rw [hβ] at hgj hsnoc
      have hidx : ∀ w', (Instr.index 145 (.agg cur) (.int .i64 (j : Int))).run Tryz.prog w' = .ok (.bool β) w' := fun w' => run_index_arr w' cur .i64 j _ hlt hgj
      cases β
      · have hO2 : OwnI wr w.heap.size ⟨A, n, c, upto (j + 1) F⟩ := by rw [hsnoc.out]; simpa using hO
        clear hO hlen hsnoc hget
        go_wp2
        go_roundw
        case rel => exact ⟨j + 1, A, n, c, by omega, by go_num, rfl, hO2, hB⟩
        case measure => simp [intOf]; omega
      · have hsz2 := hB.size
        clear hget
        go_wp2_with (at_builtin; go_must (refine wpList_app1 wr rfl _ _ 22 rfl 3 i0 _ 8 Tryz.underlying22 hi0 hz0 hz1 hz2 rfl w.heap.size A n c _ rfl hO.own _ rfl rfl ?xx3 ?xx4 ?xx5 ?_))
        case xx3 => have : (upto j F).length = n := hlen; simp only [maxLen]; omega
        case xx4 => have : (upto j F).length = n := hlen; omega
        try case xx5 => exact hsz2
        intro A3 c3 w5 hown5 hbel5 hfr5 hat5
        have hO2 : OwnI w5 w.heap.size ⟨A3, n + 1, c3, upto (j + 1) F⟩ := by
          refine ⟨?_, fun z hz => ?_⟩
          · show Own w5 w.heap.size _ A3 (n + 1) c3 (ci64 (upto (j + 1) F))
            rw [hsnoc.out, if_pos trivial, ci64_snoc6]; exact hown5
          · have := (upto_rises (j + 1) F).1 z hz; omega
        have hB2 := hB.trans hbel5
        clear hown5 hbel5 hfr5 hat5 hO hlen hsnoc
        go_wp2
        go_roundw
        case rel => exact ⟨j + 1, A3, n + 1, c3, by omega, by go_num, rfl, hO2, hB2⟩
        case measure => simp [intOf]; omega
    · obtain rfl : j = 8 := by omega
      go_wp2
      go_ret
      exact ⟨_, _, _, rfl, hO, hB⟩

/-- A list that is filled, one by one. -/
theorem own_fill {w : World} {B g m j : Nat} {e : TypeId} {vs : List Value} {z v : Value} (h : Own w B e (some ⟨g, 0, none⟩) m m (vs.take j ++ List.replicate (m - j) z)) (hj : j < m) (hv : vs[j]? = some v) :
    Own (w.setCell ⟨g, j, none⟩ v) B e (some ⟨g, 0, none⟩) m m (vs.take (j + 1) ++ List.replicate (m - (j + 1)) z) := by
  have h1 := h.set (by omega) j v
  have hl := (List.getElem?_eq_some_iff.1 hv).1
  have e1 : (vs.take j ++ List.replicate (m - j) z).set j v = vs.take (j + 1) ++ List.replicate (m - (j + 1)) z := by
    rw [show m - j = (m - (j + 1)) + 1 by omega, List.replicate_succ, List.take_succ_eq_append_getElem hl, (List.getElem?_eq_some_iff.1 hv).2, List.append_assoc, List.singleton_append]
    have hlen : (vs.take j).length = j := by rw [List.length_take]; omega
    rw [List.set_append_right _ _ (by omega), hlen, Nat.sub_self, List.set_cons_zero]
  rw [e1] at h1
  exact h1

set_option maxRecDepth 100000 in
set_option maxHeartbeats 1000000 in
theorem gof_any (x : Gr) (u : Ls) (w : World) (hx : x.Ok w) (hu : u.Ok w) (hr : Rises x.n u.zs) (hn8 : x.n ≤ 8) :
    Calls Tryz.prog 114 #[x.v, u.v] w fun e w' => ∃ A n c, e = .returned (.slice A n c) ∧ ∃ t : List Ls, Own w' w.heap.size 22 A n c (t.map Ls.v) ∧ (∀ v ∈ t, v ∈ x.t) ∧ Ls.all t = u.zs.map (fun i => x.g.getD i.toNat []) ∧ Below w.heap.size w w' := by
  obtain ⟨i1, hi1', hy0, hy1, hy2⟩ := info_parts infoW_ints
  have HL := Lib.hid hu.len
  have HG := Lib.hid hx.glen
  have hlen8 := rises_len hr
  rw [HL.out] at hlen8
  have tx := Nat.le_trans hx.cap hx.top
  unfold maxLen at tx
  obtain ⟨t, ht⟩ : ∃ t, t = u.zs.map (fun i => x.t.getD i.toNat Ls.nil) := ⟨_, rfl⟩
  have htl : t.length = u.n := by rw [ht, List.length_map, HL.out]
  have HT := Lib.hid ht
  have hmem : ∀ z ∈ u.zs, ∃ v, x.t[z.toNat]? = some v ∧ z.toNat < x.n ∧ (z.toNat : Int) = z := by
    intro z hz
    have h1 := hr.1 z hz
    have h2 : z.toNat < x.n := by omega
    exact ⟨_, List.getElem?_eq_getElem (by rw [hx.len]; exact h2), h2, by omega⟩
  have hokt : ∀ v ∈ t, v ∈ x.t := by
    intro v hv
    rw [ht] at hv
    obtain ⟨z, hz, rfl⟩ := List.mem_map.1 hv
    obtain ⟨v, h1, h2, _⟩ := hmem z hz
    rw [List.getD_eq_getElem?_getD, h1]
    exact List.mem_of_getElem? h1
  have hall : Ls.all t = u.zs.map (fun i => x.g.getD i.toNat []) := by
    rw [ht, Ls.all, List.map_map]
    refine List.map_congr_left fun z hz => ?_
    obtain ⟨v, h1, h2, _⟩ := hmem z hz
    show (x.t.getD z.toNat Ls.nil).zs = _
    rw [List.getD_eq_getElem?_getD, h1, List.getD_eq_getElem?_getD, Gr.g, Ls.all, List.getElem?_map, h1]
    rfl
  have HA := Lib.hid hall
  have HM := Lib.hid hmem
  clear hall ht hmem
  unfold Gr.v Ls.v
  go_enter Tryz.func114, Tryz.ntmps114
  go_wp2_with (at_make; go_must (refine wpList_mk _ rfl _ _ 23 rfl w.heap.size 22 i1 _ Tryz.underlying23 hi1' hy0 hy1 rfl .i64 .i64 _ _ u.n rfl rfl rfl rfl ?c2 ?c3 ?c4 ?_))
  case c2 => rw [hy2]; omega
  case c3 => simp only [maxLen]; omega
  case c4 => exact Nat.le_refl _
  intro w1 hown1 hbel1
  go_wp2_with fail
  go_loopw [13] (fun i wr => ∃ j : Nat, j ≤ u.n ∧ i = .int .i64 j ∧ Own wr w.heap.size 22 (some ⟨w.heap.size, 0, none⟩) u.n u.n ((t.map Ls.v).take j ++ List.replicate (u.n - j) (.slice none 0 0)) ∧ Below w.heap.size w wr) (fun i _ => u.n - (intOf i).toNat)
  case atStart => exact ⟨0, Nat.zero_le _, rfl, by simpa using hown1, hbel1⟩
  case round =>
    obtain ⟨j, hj, rfl, hown, hbel⟩ := hrel
    by_cases hlt : j < u.n
    · obtain ⟨p, q, hA, hp, u0, hu0, hc0⟩ := (hu.below hbel).rd.get hlt
      have hjl : j < u.zs.length := by rw [HL.out]; exact hlt
      rw [ci64_get _ _ hjl] at hu0
      obtain rfl : iV u.zs[j] = u0 := Option.some.inj hu0
      unfold iV at hc0
      have hi1 : (j : Int) < u.n := by omega
      obtain ⟨v, hv1, hv2, hv3⟩ := HM.out _ (List.getElem_mem hjl)
      obtain ⟨a, ha⟩ : ∃ a : Nat, u.zs[j].toNat = a := ⟨_, rfl⟩
      rw [ha] at hv1 hv2 hv3
      rw [← hv3] at hc0
      obtain ⟨p2, q2, v', hA2, hv', _, _, hcl, _⟩ := (hx.below hbel).get hv2
      rw [hv1] at hv'
      cases hv'
      unfold Ls.v at hcl
      have hi2 : (a : Int) < x.n := by omega
      have hfr := hown.free (by omega) j
      obtain ⟨vo, hvo⟩ : ∃ v, wr.cell? ⟨w.heap.size, j, none⟩ = some v := by
        have h := hown.cell hlt
        rw [h]
        exact ⟨_, List.getElem?_eq_getElem (by rw [List.length_append, List.length_take, List.length_replicate, List.length_map, htl]; omega)⟩
      have htv : (t.map Ls.v)[j]? = some (.slice v.A v.n v.c) := by
        rw [HT.out, List.getElem?_map, List.getElem?_map, List.getElem?_eq_getElem hjl]
        show some (x.t.getD u.zs[j].toNat Ls.nil).v = _
        rw [ha, List.getD_eq_getElem?_getD, hv1]; rfl
      have hown2 := own_fill hown hlt htv
      have hbel2 := hbel.setCell (p := ⟨w.heap.size, j, none⟩) (Nat.le_refl _) (.slice v.A v.n v.c)
      rw [hA, hA2]
      have HA1 := Lib.hid hA
      have HA2 := Lib.hid hA2
      clear hu0 hown hbel htv hv1 ha hv3 hA hA2
      go_wp2
      go_roundw
      case rel => exact ⟨j + 1, by omega, by go_num, hown2, hbel2⟩
      case measure => simp [intOf]; omega
    · obtain rfl : j = u.n := by omega
      have hown2 : Own wr w.heap.size 22 (some ⟨w.heap.size, 0, none⟩) u.n u.n (t.map Ls.v) := by
        have h3 := hown
        rw [Nat.sub_self, List.replicate_zero, List.append_nil, List.take_of_length_le (by rw [List.length_map, htl]; exact Nat.le_refl _)] at h3
        exact h3
      go_wp2
      go_ret
      exact ⟨_, _, _, rfl, t, hown2, hokt, HA.out, hbel⟩
end Go.Proofs.YtdckoaljcklmhaaGreatDoor


namespace Go.Proofs.YtdckoaljcklmhaaGreatDoor
open Go.RowKit Go.Shelf
set_option linter.unusedVariables false
attribute [local go_sem] Oper.semAt_some

theorem lss_own {w : World} {B : Nat} {A : Option Addr} {n c : Nat} {t : List Ls} (own : Own w B 22 A n c (t.map Ls.v)) (h : ∀ v ∈ t, v.Ok w) : Gr.Ok w ⟨A, n, c, t⟩ := ⟨⟨outs_at own, h⟩, own.le, own.cap⟩
theorem mem_pairs {g : List (List Int)} {k : Int} {n : Nat} (hn : n ≤ g.length) : k ∈ (pairsTo g n).map (·.2) ↔ ∃ i, i < n ∧ k ∈ g.getD i [] := by
  simp only [pairsTo, List.mem_map, List.mem_flatMap, List.mem_range]
  constructor
  · rintro ⟨y, ⟨i, hi, z, hz, rfl⟩, rfl⟩; exact ⟨i, hi, hz⟩
  · rintro ⟨i, hi, hk⟩; exact ⟨(i, k), ⟨i, hi, k, hk, rfl⟩, rfl⟩
theorem upto_more {m n : Nat} {p : Nat → Bool} (hmn : m ≤ n) (h : ∀ i, m ≤ i → i < n → p i = false) : upto n p = upto m p := by
  refine rise_ext (upto_rises n _).2 (upto_rises m _).2 fun x => ?_
  rw [mem_upto, mem_upto]
  constructor
  · rintro ⟨i, h1, h2, rfl⟩
    refine ⟨i, ?_, h2, rfl⟩
    rcases Nat.lt_or_ge i m with h3 | h3
    · exact h3
    · rw [h i h3 h1] at h2; cases h2
  · rintro ⟨i, h1, h2, rfl⟩; exact ⟨i, by omega, h2, rfl⟩
/-- What is near, by the pairs that were gone through. -/
theorem near_pairs {g gy : List (List Int)} {m k : Nat} {zs : List Int} (hk : k ≤ 8) (hm : m = k) (hgy : gy = zs.map (fun i => g.getD i.toNat [])) (hr : ∀ l ∈ gy, Rises k l) :
    upto 8 (fun j => decide ((j : Int) ∈ (pairsTo gy gy.length).map (·.2))) = nearG g m zs := by
  subst hm
  rw [upto_more hk, nearG]
  · refine upto_congr fun j hj => ?_
    rw [Bool.eq_iff_iff, decide_eq_true_eq, mem_pairs (Nat.le_refl _), List.any_eq_true]
    constructor
    · rintro ⟨i, hi, hj2⟩
      have hiz : i < zs.length := by rw [hgy, List.length_map] at hi; exact hi
      refine ⟨zs[i], List.getElem_mem hiz, decide_eq_true ?_⟩
      rw [hgy, List.getD_eq_getElem?_getD, List.getElem?_map, List.getElem?_eq_getElem hiz] at hj2
      exact hj2
    · rintro ⟨z, hz, hd⟩
      obtain ⟨i, hi, rfl⟩ := List.getElem_of_mem hz
      refine ⟨i, by rw [hgy, List.length_map]; exact hi, ?_⟩
      rw [hgy, List.getD_eq_getElem?_getD, List.getElem?_map, List.getElem?_eq_getElem hi]
      exact of_decide_eq_true hd
  · intro j h1 h2
    refine decide_eq_false fun hm => ?_
    obtain ⟨i, hi, hj2⟩ := (mem_pairs (Nat.le_refl _)).1 hm
    have := (hr _ (getD_mem hi)).1 _ hj2
    omega

set_option maxRecDepth 100000 in
set_option maxHeartbeats 1000000 in
theorem gnearC : NearC 101 := by
  intro x m u w hx hu h1 h2
  have HL := Lib.hid hu.len
  have HG := Lib.hid hx.glen
  have tx := Nat.le_trans hx.cap hx.top
  have tu := Nat.le_trans hu.cap hu.top
  unfold maxLen at tx
  refine (callsIn_wide (n := 3)).1 ?_
  refine callsIn_of_wp_marks Tryz.func101 rfl trivial ?_ rfl
  have hck := gcheckC x m w hx h1 h2
  unfold Gr.v at hck ⊢
  unfold Ls.v
  simp only [Tryz.ntmps101, List.size_toArray, List.length_cons, List.length_nil, Nat.reduceAdd, Nat.reduceSub, Array.replicate_succ, Array.replicate_zero, List.push_toArray, List.append_toArray, List.nil_append, List.cons_append]
  refine wpIn_wide.2 ?_
  go_wp2_with fail
  obtain ⟨γ, hγ⟩ : ∃ γ, checkG x.g m = γ := ⟨_, rfl⟩
  have HC := Lib.hid hγ
  rw [hγ] at hck
  clear hγ
  refine hck.mono ?_
  rintro e w2 ⟨rfl, hb2⟩
  clear hck
  cases γ
  · go_wp2
    refine postM_ret (results_tmp2 rfl _ _ _) rfl ?_
    refine ⟨none, 0, 0, by simp [nearErr, nearOk, HC.out], ?_, hb2⟩
    simp only [nearE, nearOk, HC.out, Bool.false_and, Bool.false_eq_true, if_false]
    exact OwnI.nil _ _
  obtain ⟨r1, r2, r3, r4⟩ := checkG_iff.1 HC.out
  obtain ⟨k, rfl⟩ : ∃ k : Nat, m = k := ⟨m.toNat, by omega⟩
  have hk8 : k ≤ 8 := by omega
  have hx8 : x.n ≤ 8 := by rw [← HG.out]; exact r3
  have HR := Lib.hid r4
  clear r1 r2 r3 r4
  have hrs := grises_any u.A u.n u.c u.zs x.n w2 (hu.below hb2).rd tu
  obtain ⟨δ, hδ⟩ : ∃ δ, riseB u.zs x.n = δ := ⟨_, rfl⟩
  have HD := Lib.hid hδ
  rw [hδ] at hrs
  clear hδ
  go_wp2_with fail
  refine hrs.mono ?_
  rintro e w' ⟨rfl, rfl⟩
  clear hrs
  cases δ
  · go_wp2
    refine postM_ret (results_tmp2 rfl _ _ _) rfl ?_
    have hnk : nearOk x.g k u.zs = false := by rw [nearOk, HC.out, HG.out, HD.out]; rfl
    refine ⟨none, 0, 0, by simp [nearErr, hnk], ?_, hb2⟩
    simp only [nearE, hnk, Bool.false_eq_true, if_false]
    exact OwnI.nil _ _
  have hnk : nearOk x.g k u.zs = true := by rw [nearOk, HC.out, HG.out, HD.out]; rfl
  have HK := Lib.hid hnk
  have hrise : Rises x.n u.zs := of_decide_eq_true HD.out
  clear hnk
  unfold maxLen at tu
  go_wp2_with fail
  have bS := SetAt.new w' 145
  have hB3 := hb2.alloc hb2.size (.cells #[.bool false, .bool false, .bool false, .bool false, .bool false, .bool false, .bool false, .bool false] 145)
  have hsw := hb2.size
  obtain ⟨sb, hsb⟩ : ∃ sb, sb = w'.heap.size := ⟨_, rfl⟩
  rw [← hsb] at bS hsw ⊢
  generalize w'.alloc (.cells #[.bool false, .bool false, .bool false, .bool false, .bool false, .bool false, .bool false, .bool false] 145) = w3 at bS hB3 ⊢
  clear hsb hb2
  have hof := gof_any x u w3 (hx.below hB3) (hu.below hB3) hrise hx8
  unfold Gr.v Ls.v at hof
  have hsb3 := bS.lt
  refine hof.mono ?_
  rintro e w4 ⟨A, n, c, rfl, t, own4, hokt, hall, hb4⟩
  clear hof
  replace bS := bS.below hb4
  have hs34 := hb4.size
  have hB4 := hB3.trans (hb4.mono hB3.size)
  go_wp2_with fail
  have hpr := pairs_any ⟨A, n, c, t⟩ w4
  unfold Gr.v at hpr
  refine hpr.mono ?_
  rintro e w' ⟨rfl, rfl⟩
  clear hpr
  have bP := Boxed.new w4 23 (.slice A n c)
  have hB5 := hB4.alloc hB4.size (.cells #[.slice A n c] 23)
  have bS5 := bS.cel (cel_alloc w4 (.cells #[.slice A n c] 23))
  have own5 := own4.alloc (.cells #[.slice A n c] 23)
  obtain ⟨pb, hpb⟩ : ∃ pb, pb = w4.heap.size := ⟨_, rfl⟩
  rw [← hpb] at bP ⊢
  generalize w4.alloc (.cells #[.slice A n c] 23) = w5 at bP hB5 bS5 own5 ⊢
  obtain ⟨s3, hs3⟩ : ∃ s3, s3 = w3.heap.size := ⟨_, rfl⟩
  rw [← hs3] at own5 hsb3
  clear hpb own4 bS hB4 hs3 hs34 hB3
  go_wp2
  have hriseY : ∀ l ∈ Gr.g ⟨A, n, c, t⟩, Rises k l := by
    intro l hl
    rw [show Gr.g ⟨A, n, c, t⟩ = _ from hall] at hl
    obtain ⟨z, hz, rfl⟩ := List.mem_map.1 hl
    have h3 := hrise.1 z hz
    exact HR.out _ (getD_mem (by rw [HG.out]; omega))
  have HY := Lib.hid hriseY
  have hokB : ∀ W, Below w.heap.size w W → ∀ v ∈ t, v.Ok W := by
    intro W hW v hv
    exact (hx.lss.ok v (hokt v hv)).below hW
  refine (wpIn_wide (n := 3)).1 ?_
  refine wpIn_rangeFunc_ownG rfl (by omega) (gf := 128) (lb := #[.pointer (some ⟨pb, 0, none⟩)]) rfl trivial (enters_of Tryz.func128 (by kernel_rfl) rfl)
    (pairs_stops 2 (by omega) pb ⟨A, n, c, t⟩ w5 bP.lt bP.cell (lss_own own5 (hokB _ hB5))) (fun h k a => k (h a)) (keepsK_b (fun a b h k => Gr.Ok.cel k h) w5) (Below.refl _ _) (fun _ => rfl)
    (fun pre W => (SetAt W sb 145 (fun k => decide ((k : Int) ∈ (pre.map (·.1)).map (·.2))) ∧ Own W s3 22 A n c (t.map Ls.v)) ∧ Below w.heap.size w W)
    (fun _ _ _ => False)
    (OwnFrom.and (ownFrom_cel _ fun s A B hc h => by obtain ⟨a, b⟩ := h; exact ⟨a.cel hc, b.cel hc⟩) (ownFrom_below (Nat.le_refl _) hB5.size))
    (fun _ _ _ _ _ hs _ _ => hs)
    ⟨⟨bS5, own5⟩, hB5⟩
    (fun y => { tmps := #[.slice x.A x.n x.c, .int .i64 (k : Int), .slice u.A u.n u.c, undef, undef, undef, .slice none 0 0, .int .i64 0, .pointer (some ⟨sb, 0, none⟩), undef, .int .i64 y.1.2, .slice x.A x.n x.c, .int .i64 (k : Int), .bool true, .bool false, .bool false, .slice u.A u.n u.c, .slice x.A x.n x.c, .int .i64 (x.n : Int), .bool true, .bool false, .bool false, .slice x.A x.n x.c, .slice u.A u.n u.c, .slice A n c, .func (.func 128) #[] #[.pointer (some ⟨pb, 0, none⟩)], .int .i64 (y.1.1 : Int), .int .i64 y.1.2, undef, undef, undef, undef], defers := [] }) ?assign ?body ?done ?stop
  case assign =>
    intro l y W K hK
    simp only [encPair, List.zip_toArray, List.zip_cons_cons, List.zip_nil_right, List.foldl_toArray', List.foldl_cons, List.foldl_nil, List.size_toArray, List.setIfInBounds_toArray, List.set_cons_succ, List.set_cons_zero]
    gi_wp2
    exact hK
  case body =>
    rintro l pre ⟨⟨i, z⟩, hi, hz⟩ W ⟨⟨aS, own⟩, hB⟩ hlen
    dsimp only at hi hz ⊢
    have hzr : 0 ≤ z ∧ z < k := by
      exact (hriseY _ (getD_mem hi)).1 z hz
    obtain ⟨j, rfl⟩ : ∃ j : Nat, z = j := ⟨z.toNat, by omega⟩
    have hj8 : j < 8 := by omega
    have hj8' : (j : Int) < 8 := by omega
    have c3 := aS.cell hj8
    have f3 := aS.frozen j
    have hB5 := hB.setCell (p := ⟨sb, j, none⟩) hsw (.bool true)
    have own2 := own.keep (w' := W.setCell ⟨sb, j, none⟩ (.bool true)) fun g _ _ hg _ => heap_setCell_other W ⟨sb, j, none⟩ g (.bool true) (by show g ≠ sb; omega)
    have hok2 := lss_own own2 (hokB _ hB5)
    gi_wp2
    refine ⟨(KeepsOthers.setCell _ _ _).from _, fun _ => hok2, ⟨?_, own2⟩, hB5⟩
    refine aS.set hj8 fun a ha => ?_
    rw [List.map_append, List.map_append]
    by_cases he : a = j
    · rw [if_pos he, he]
      exact decide_eq_true (by simp)
    · rw [if_neg he]
      refine decide_eq_decide.2 ?_
      rw [List.mem_append]
      simp
      omega
  case done =>
    rintro D ys W hD hys ⟨⟨aS, own⟩, hB⟩ hK
    rw [hys] at aS
    have hgl : (Gr.g ⟨A, n, c, t⟩).length = n := (lss_own own (hokB _ hB)).glen
    have HN : Hid (upto 8 (fun j => decide ((j : Int) ∈ (pairsTo (Gr.g ⟨A, n, c, t⟩) n).map (·.2))) = nearG x.g k u.zs) := Lib.hid (by
      have h4 := near_pairs (g := x.g) (gy := Gr.g ⟨A, n, c, t⟩) (m := k) (zs := u.zs) hk8 rfl hall HY.out
      rw [hgl] at h4
      exact h4)
    obtain ⟨f, hf⟩ : ∃ f : Nat → Bool, (fun j : Nat => decide ((j : Int) ∈ (pairsTo (Gr.g ⟨A, n, c, t⟩) n).map (·.2))) = f := ⟨_, rfl⟩
    rw [hf] at aS HN
    clear hf hys
    have c0 := aS.cell (k := 0) (by omega)
    have c1 := aS.cell (k := 1) (by omega)
    have c2 := aS.cell (k := 2) (by omega)
    have c3 := aS.cell (k := 3) (by omega)
    have c4 := aS.cell (k := 4) (by omega)
    have c5 := aS.cell (k := 5) (by omega)
    have c6 := aS.cell (k := 6) (by omega)
    have c7 := aS.cell (k := 7) (by omega)
    have hsl := gset_list W (f 0) (f 1) (f 2) (f 3) (f 4) (f 5) (f 6) (f 7)
    rw [upto_congr (q := f) (m := 8) fun i hi => by
      match i, hi with
      | 0, _ => rfl
      | 1, _ => rfl
      | 2, _ => rfl
      | 3, _ => rfl
      | 4, _ => rfl
      | 5, _ => rfl
      | 6, _ => rfl
      | 7, _ => rfl
      | i + 8, h => omega, HN.out] at hsl
    go_wp2_with fail
    refine hsl.mono ?_
    rintro e w6 ⟨A6, n6, c6', rfl, hO6, hb6⟩
    clear hsl c0 c1 c2 c3 c4 c5 c6 c7
    have hK6 : w6.heap[D]? = some (.deferred (some [])) := (hb6.block D (Array.getElem?_eq_some_iff.1 hK).1).trans hK
    have hB6 := hB.trans (hb6.mono hB.size)
    go_wp2
    have hc := cel_putObj (w := w6) (l := D) (.deferred none) hK6 rfl
    refine postM_mark hK6 (results_tmp2 rfl _ _ _) rfl ?_
    refine ⟨A6, n6, c6', by simp [nearErr, HK.out], ?_, hB6.trans (belowK_b (w := w) (Nat.le_refl _) _ D _ _ (Nat.le_trans hB5.size hD) hK6 rfl rfl)⟩
    rw [nearE, if_pos HK.out]
    exact (hO6.cel hc).mono hB.size
  case stop =>
    rintro D c pre W hD hsp h _
    exact h.elim
end Go.Proofs.YtdckoaljcklmhaaGreatDoor

