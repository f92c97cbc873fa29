/-
  The iterators of package graphs: who has what, who may have what.
-/
import Derived.RangeFuncBound
import Derived.RangeFuncCalls
import Derived.RangeFuncLeaves
import Derived.Shelf.Abstract
import Derived.WalkKit
import Derived.OwnWalkIn
import Derived.TacticsInMore
import Derived.LoopNIn
import Derived.LoopIn
import Derived.Test.YtdiklmfaehmmjaaCel
namespace Go.Proofs.Ytdiklmfaehmmjaa
open Go.RowKit Go.Shelf
set_option linter.unusedVariables false
attribute [local go_sem] Oper.semAt_some

/-- Who has what, up to the k-th. -/
def hadTo (zs : List Int) (k : Nat) : List (Nat × Int) := (List.range k).filterMap fun i => if zs.getD i (-1) = -1 then none else some (i, zs.getD i (-1))
theorem hadTo_zero (zs : List Int) : hadTo zs 0 = [] := rfl
theorem hadTo_none {zs : List Int} {k : Nat} (h : zs.getD k (-1) = -1) : hadTo zs (k + 1) = hadTo zs k := by
  rw [hadTo, List.range_succ, List.filterMap_append, ← hadTo]; simp [-List.getD_eq_getElem?_getD, h]
theorem hadTo_some {zs : List Int} {k : Nat} (h : zs.getD k (-1) ≠ -1) : hadTo zs (k + 1) = hadTo zs k ++ [(k, zs.getD k (-1))] := by
  rw [hadTo, List.range_succ, List.filterMap_append, ← hadTo]
  congr 1
  simp only [List.filterMap_cons, List.filterMap_nil, if_neg h]
theorem hadTo_len (zs : List Int) (k : Nat) : (hadTo zs k).length ≤ k := by
  have := List.length_filterMap_le (fun i => if zs.getD i (-1) = -1 then none else some (i, zs.getD i (-1))) (List.range k)
  rwa [List.length_range] at this
theorem hadTo_pre (zs : List Int) {j k : Nat} (h : j ≤ k) : hadTo zs j <+: hadTo zs k := by
  obtain ⟨m, rfl⟩ := Nat.exists_eq_add_of_le h
  rw [hadTo, hadTo, List.range_add, List.filterMap_append]
  exact ⟨_, rfl⟩
abbrev HadOf (zs : List Int) := { x : Nat × Int // x.1 < zs.length ∧ zs.getD x.1 (-1) = x.2 ∧ x.2 ≠ -1 }
def encHad {zs : List Int} (x : HadOf zs) : Array Value := #[.int .i64 (x.1.1 : Int), .int .i64 x.1.2]

set_option maxRecDepth 100000 in
set_option maxHeartbeats 1000000 in
theorem had1_any (n : Nat) (hn : 1 ≤ n) (l Bn : Nat) (u : Ls) (J Jx : List (HadOf u.zs) → World → Prop)
    (hY : ∀ pre x W, J pre W → pre.length < u.n → YieldAt Fence.wide (n - 1) Try.prog l (encHad x) W fun e W' =>
      (e = .returned (.bool true) ∧ J (pre ++ [x]) W' ∧ (u.Ok W → u.Ok W')) ∨ (e = .returned (.bool false) ∧ Jx (pre ++ [x]) W'))
    (W : World) (hB : W.cell? ⟨Bn, 0, none⟩ = some u.v) (hu : u.Ok W) (h0 : J [] W) :
    CallsIn Fence.wide n Try.prog 39 #[.func (.yield l) #[] #[], .pointer (some ⟨Bn, 0, none⟩)] W fun e W' => (∃ v, e = .returned v) ∧
      ((∃ ys : List (HadOf u.zs), ys.map (·.1) = hadTo u.zs u.n ∧ J ys W') ∨ (∃ pre : List (HadOf u.zs), pre.map (·.1) <+: hadTo u.zs u.n ∧ Jx pre W')) := by
  have hl := hu.len
  have HL := Lib.hid hl
  have tn := Nat.le_trans hu.cap hu.top
  unfold maxLen at tn
  clear hl
  unfold Ls.v at hB
  refine callsIn_of_wp Try.func39 rfl trivial ?_ rfl
  simp only [Try.ntmps39, List.size_toArray, List.length_cons, List.length_nil, Nat.reduceAdd, Nat.reduceSub, Array.replicate_succ, Array.replicate_zero, List.push_toArray, List.append_toArray, List.nil_append, List.cons_append]
  gi_wp2
  gi_loopw [7] (fun i wr => ∃ (k : Nat) (pre : List (HadOf u.zs)), k ≤ u.n ∧ i = .int .i64 k ∧ Hid (pre.map (·.1) = hadTo u.zs k) ∧ J pre wr ∧ u.Ok wr) (fun i _ => u.n - (intOf i).toNat)
  case atStart => exact ⟨0, [], Nat.zero_le _, rfl, Lib.hid rfl, h0, hu⟩
  case round =>
    obtain ⟨k, pre, hk, rfl, hpre, hJs, huw⟩ := hrel
    by_cases hlt : k < u.n
    · obtain ⟨p, q, hA, hp, u0, hu0, hc0⟩ := huw.rd.get hlt
      have hjl : k < u.zs.length := by rw [HL.out]; exact hlt
      rw [ci64_get _ _ hjl] at hu0
      obtain rfl : iV u.zs[k] = u0 := Option.some.inj hu0
      unfold iV at hc0
      have hi1 : (k : Int) < u.n := by omega
      have hgd : u.zs.getD k (-1) = u.zs[k] := by rw [List.getD_eq_getElem?_getD, List.getElem?_eq_getElem hjl]; rfl
      rw [← hgd] at hc0
      obtain ⟨z, hz⟩ : ∃ z, u.zs.getD k (-1) = z := ⟨_, rfl⟩
      rw [hz] at hc0
      have HZ := Lib.hid hz
      clear hu0 hgd hz
      rw [hA]
      have HA := Lib.hid hA
      clear hA
      by_cases h1 : z = -1
      · have HP := Lib.hid (show pre.map (·.1) = hadTo u.zs (k + 1) by rw [hadTo_none (by rw [HZ.out]; exact h1)]; exact hpre.out)
        subst h1
        gi_wp2
        refine ⟨fun _ h => (by cases h), ?_⟩
        gi_wp2
        go_roundw
        case rel => exact ⟨k + 1, pre, by omega, by go_num, HP, hJs, huw⟩
        case measure => simp [intOf]; omega
      · have g1 : (z == -1) = false := by rw [beq_eq_false_iff_ne]; exact h1
        have hlen : pre.length < u.n := by
          have h2 := hadTo_len u.zs k
          rw [← hpre.out, List.length_map] at h2
          omega
        have HX : Hid (k < u.zs.length ∧ u.zs.getD k (-1) = z ∧ z ≠ -1) := Lib.hid ⟨hjl, HZ.out, h1⟩
        obtain ⟨fn, tmps, assign, body, hy, hR⟩ := hY pre ⟨(k, z), HX.out⟩ wr hJs hlen
        unfold encHad at hy
        dsimp only at hy
        have HP := Lib.hid (show (pre ++ [(⟨(k, z), HX.out⟩ : HadOf u.zs)]).map (·.1) = hadTo u.zs (k + 1) by
          rw [hadTo_some (by rw [HZ.out]; exact h1), List.map_append, hpre.out]; show _ ++ [(k, z)] = _; rw [HZ.out])
        clear hjl
        gi_wp2
        refine hR.mono ?_
        rintro e W3 (⟨rfl, hJ3, hk3⟩ | ⟨rfl, hJx3⟩)
        · gi_wp2
          go_roundw
          case rel => exact ⟨k + 1, _, by omega, by go_num, HP, hJ3, hk3 huw⟩
          case measure => simp [intOf]; omega
        · gi_wp2
          refine bodyPost_ret (results_none rfl _ _ _) rfl ?_
          refine ⟨⟨_, rfl⟩, .inr ⟨_, ?_, hJx3⟩⟩
          rw [HP.out]
          exact hadTo_pre u.zs (by omega)
    · obtain rfl : k = u.n := by omega
      gi_wp2
      go_end0
      exact ⟨⟨_, rfl⟩, .inl ⟨pre, hpre.out, hJs⟩⟩

set_option maxHeartbeats 1000000 in
theorem had_any (u : Ls) (w : World) : Calls Try.prog 31 #[u.v] w fun e w' => e = .returned (.func (.func 39) #[] #[.pointer (some ⟨w.heap.size, 0, none⟩)]) ∧ w' = w.alloc (.cells #[u.v] 25) := by
  unfold Ls.v
  go_enter Try.func31, Try.ntmps31
  go_wp2
  go_ret
  exact ⟨rfl, rfl⟩
theorem had_stops (n : Nat) (hn : 1 ≤ n) (Bn : Nat) (u : Ls) (w : World) (hb : Bn < w.heap.size) (hB : w.cell? ⟨Bn, 0, none⟩ = some u.v) (hu : u.Ok w) :
    SeqStopsK Fence.wide n Try.prog 39 #[.pointer (some ⟨Bn, 0, none⟩)] (encHad (zs := u.zs)) (fun W W' => u.Ok W → u.Ok W') (fun ys => ys.map (·.1) = hadTo u.zs u.n) (fun pre => pre.map (·.1) <+: hadTo u.zs u.n) u.n w := fun l J Jx W hW _ _ hY h0 =>
  had1_any n hn l Bn u J Jx hY W ((hW.cell (p := ⟨Bn, 0, none⟩) hb).trans hB) (hu.below hW) h0

/-- Who may have what: of the i-th of them, up to the j-th. -/
def pairsTo (g : List (List Int)) (k : Nat) : List (Nat × Int) := (List.range k).flatMap fun i => (g.getD i []).map fun z => (i, z)
def pairsAt (g : List (List Int)) (k j : Nat) : List (Nat × Int) := pairsTo g k ++ ((g.getD k []).take j).map fun z => (k, z)
theorem pairsTo_succ (g : List (List Int)) (k : Nat) : pairsTo g (k + 1) = pairsTo g k ++ (g.getD k []).map fun z => (k, z) := by
  simp only [pairsTo, List.range_succ, List.flatMap_append, List.flatMap_cons, List.flatMap_nil, List.append_nil]
theorem pairsAt_zero (g : List (List Int)) (k : Nat) : pairsAt g k 0 = pairsTo g k := by simp [pairsAt]
theorem pairsAt_all {g : List (List Int)} {k j : Nat} (h : (g.getD k []).length ≤ j) : pairsAt g k j = pairsTo g (k + 1) := by rw [pairsAt, List.take_of_length_le h, pairsTo_succ]
theorem pairsAt_succ {g : List (List Int)} {k j : Nat} (h : j < (g.getD k []).length) : pairsAt g k (j + 1) = pairsAt g k j ++ [(k, (g.getD k [])[j])] := by
  rw [pairsAt, pairsAt, List.take_succ_eq_append_getElem h, List.map_append, List.append_assoc]; rfl
theorem pairsTo_pre (g : List (List Int)) {j k : Nat} (h : j ≤ k) : pairsTo g j <+: pairsTo g k := by
  obtain ⟨m, rfl⟩ := Nat.exists_eq_add_of_le h
  rw [pairsTo, pairsTo, List.range_add, List.flatMap_append]
  exact ⟨_, rfl⟩
theorem pairsAt_pre (g : List (List Int)) {k n : Nat} (j : Nat) (h : k < n) : pairsAt g k j <+: pairsTo g n := by
  refine List.IsPrefix.trans ?_ (pairsTo_pre g (show k + 1 ≤ n from h))
  rw [pairsTo_succ, pairsAt]
  refine (List.prefix_append_right_inj _).2 ?_
  exact (List.take_prefix j _).map _
abbrev PairOf (g : List (List Int)) := { x : Nat × Int // x.1 < g.length ∧ x.2 ∈ g.getD x.1 [] }
def encPair {g : List (List Int)} (x : PairOf g) : Array Value := #[.int .i64 (x.1.1 : Int), .int .i64 x.1.2]

set_option maxRecDepth 100000 in
set_option maxHeartbeats 1000000 in
theorem pairs1_any (n : Nat) (hn : 1 ≤ n) (l Bn : Nat) (x : Gr) (J Jx : List (PairOf x.g) → World → Prop)
    (hY : ∀ pre y W, J pre W → pre.length < (pairsTo x.g x.n).length → YieldAt Fence.wide (n - 1) Try.prog l (encPair y) W fun e W' =>
      (e = .returned (.bool true) ∧ J (pre ++ [y]) W' ∧ (x.Ok W → x.Ok W')) ∨ (e = .returned (.bool false) ∧ Jx (pre ++ [y]) W'))
    (W : World) (hB : W.cell? ⟨Bn, 0, none⟩ = some x.v) (hu : x.Ok W) (h0 : J [] W) :
    CallsIn Fence.wide n Try.prog 32 #[.func (.yield l) #[] #[], .pointer (some ⟨Bn, 0, none⟩)] W fun e W' => (∃ v, e = .returned v) ∧
      ((∃ ys : List (PairOf x.g), ys.map (·.1) = pairsTo x.g x.n ∧ J ys W') ∨ (∃ pre : List (PairOf x.g), pre.map (·.1) <+: pairsTo x.g x.n ∧ Jx pre W')) := by
  have hl := hu.glen
  have HL := Lib.hid hl
  have tn := Nat.le_trans hu.cap hu.top
  unfold maxLen at tn
  clear hl
  unfold Gr.v at hB
  refine callsIn_of_wp Try.func32 rfl trivial ?_ rfl
  simp only [Try.ntmps32, List.size_toArray, List.length_cons, List.length_nil, Nat.reduceAdd, Nat.reduceSub, Array.replicate_succ, Array.replicate_zero, List.push_toArray, List.append_toArray, List.nil_append, List.cons_append]
  gi_wp2
  gi_loopw [9] (fun i wr => ∃ (k : Nat) (pre : List (PairOf x.g)), k ≤ x.n ∧ i = .int .i64 k ∧ Hid (pre.map (·.1) = pairsTo x.g k) ∧ J pre wr ∧ x.Ok wr) (fun i _ => x.n - (intOf i).toNat)
  case atStart => exact ⟨0, [], Nat.zero_le _, rfl, Lib.hid rfl, h0, hu⟩
  case round =>
    obtain ⟨k, pre, hk, rfl, hpre, hJs, hxw⟩ := hrel
    obtain ⟨wo, rfl⟩ : ∃ wo, wo = wr := ⟨_, rfl⟩
    by_cases hlt : k < x.n
    · obtain ⟨p, q, u, hA, hu2, hg, hp, hcl, hkk⟩ := hxw.get hlt
      unfold Ls.v at hcl
      have hi1 : (k : Int) < x.n := by omega
      have hun := Nat.le_trans hkk.cap hkk.top
      unfold maxLen at hun
      rw [hA]
      have HA := Lib.hid hA
      have HG := Lib.hid hg
      have HU := Lib.hid hu2
      clear hA hu2 hg
      gi_wp2
      gi_loopw [16] (fun i wr => ∃ (j : Nat) (pre : List (PairOf x.g)), j ≤ u.n ∧ i = .int .i64 j ∧ Hid (pre.map (·.1) = pairsAt x.g k j) ∧ J pre wr ∧ x.Ok wr ∧ u.Ok wr) (fun i _ => u.n - (intOf i).toNat)
      case atStart => exact ⟨0, pre, Nat.zero_le _, rfl, Lib.hid (by rw [pairsAt_zero]; exact hpre.out), hJs, hxw, hkk⟩
      case round =>
        clear hJs hcl hpre
        obtain ⟨j, pre2, hj, rfl, hpre2, hJ2, hxr, hur⟩ := hrel
        by_cases hlt2 : j < u.n
        · obtain ⟨p2, q2, hA2, hp2, u0, hu0, hc0⟩ := hur.rd.get hlt2
          have hjl : j < u.zs.length := by rw [hur.len]; exact hlt2
          rw [ci64_get _ _ hjl] at hu0
          obtain rfl : iV u.zs[j] = u0 := Option.some.inj hu0
          unfold iV at hc0
          have hi2 : (j : Int) < u.n := by omega
          have hjg : j < (x.g.getD k []).length := by rw [HG.out]; exact hjl
          have hgz : (x.g.getD k [])[j] = u.zs[j] := by simp only [HG.out]
          obtain ⟨z, hz⟩ : ∃ z, u.zs[j] = z := ⟨_, rfl⟩
          rw [hz] at hc0 hgz
          have hmem : z ∈ x.g.getD k [] := by rw [← hgz]; exact List.getElem_mem hjg
          have HS : Hid (pairsAt x.g k (j + 1) = pre2.map (·.1) ++ [(k, z)]) := Lib.hid (by rw [pairsAt_succ hjg, hpre2.out, hgz])
          have hlen : pre2.length < (pairsTo x.g x.n).length := by
            have h2 := (pairsAt_pre x.g (j + 1) hlt).length_le
            rw [HS.out, List.length_append, List.length_map] at h2
            simp at h2
            omega
          have HX : Hid (k < x.g.length ∧ z ∈ x.g.getD k []) := Lib.hid ⟨by rw [HL.out]; exact hlt, hmem⟩
          obtain ⟨fn, tmps, assign, body, hy, hR⟩ := hY pre2 ⟨(k, z), HX.out⟩ wr hJ2 hlen
          unfold encPair at hy
          dsimp only at hy
          have HP := Lib.hid (show (pre2 ++ [(⟨(k, z), HX.out⟩ : PairOf x.g)]).map (·.1) = pairsAt x.g k (j + 1) by
            rw [HS.out, List.map_append]; rfl)
          rw [hA2]
          clear hu0 hz hgz hjl hjg hmem hA2
          gi_wp2
          refine hR.mono ?_
          rintro e W3 (⟨rfl, hJ3, hk3⟩ | ⟨rfl, hJx3⟩)
          · have hx3 := hk3 hxr
            have hu3 : u.Ok W3 := by
              obtain ⟨_, _, u', _, hu', _, _, _, hk'⟩ := hx3.get hlt
              rw [HU.out] at hu'
              cases hu'
              exact hk'
            gi_wp2
            go_roundw
            case rel => exact ⟨j + 1, _, by omega, by go_num, HP, hJ3, hx3, hu3⟩
            case measure => simp [intOf]; omega
          · gi_wp2
            refine bodyPost_ret (results_none rfl _ _ _) rfl ?_
            refine ⟨⟨_, rfl⟩, .inr ⟨_, ?_, hJx3⟩⟩
            rw [HP.out]
            exact pairsAt_pre x.g (j + 1) hlt
        · obtain rfl : j = u.n := by omega
          have HP := Lib.hid (show pre2.map (·.1) = pairsTo x.g (k + 1) by rw [hpre2.out]; exact pairsAt_all (by rw [HG.out, hur.len]; exact Nat.le_refl _))
          gi_wp2
          go_roundw
          case rel => exact ⟨k + 1, _, by omega, by go_num, HP, hJ2, hxr⟩
          case measure => simp [intOf]; omega
    · obtain rfl : k = x.n := by omega
      gi_wp2
      go_end0
      exact ⟨⟨_, rfl⟩, .inl ⟨pre, hpre.out, hJs⟩⟩

set_option maxHeartbeats 1000000 in
theorem pairs_any (x : Gr) (w : World) : Calls Try.prog 23 #[x.v] w fun e w' => e = .returned (.func (.func 32) #[] #[.pointer (some ⟨w.heap.size, 0, none⟩)]) ∧ w' = w.alloc (.cells #[x.v] 22) := by
  unfold Gr.v
  go_enter Try.func23, Try.ntmps23
  go_wp2
  go_ret
  exact ⟨rfl, rfl⟩
theorem pairs_stops (n : Nat) (hn : 1 ≤ n) (Bn : Nat) (x : Gr) (w : World) (hb : Bn < w.heap.size) (hB : w.cell? ⟨Bn, 0, none⟩ = some x.v) (hu : x.Ok w) :
    SeqStopsK Fence.wide n Try.prog 32 #[.pointer (some ⟨Bn, 0, none⟩)] (encPair (g := x.g)) (fun W W' => x.Ok W → x.Ok W') (fun ys => ys.map (·.1) = pairsTo x.g x.n) (fun pre => pre.map (·.1) <+: pairsTo x.g x.n) (pairsTo x.g x.n).length w := fun l J Jx W hW _ _ hY h0 =>
  pairs1_any n hn l Bn x J Jx hY W ((hW.cell (p := ⟨Bn, 0, none⟩) hb).trans hB) (hu.below hW) h0
end Go.Proofs.Ytdiklmfaehmmjaa
