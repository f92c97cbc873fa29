/-
  Walks of package demands: a list turned in its place, what goes through a list from its last one on, what a bid gains the most by.
-/
import Derived.Defers
import Derived.DefersIn
import Derived.Shelf.RegionOpenPlain
import Derived.RangeFuncBound
import Derived.RangeFuncCalls
import Derived.RangeFuncLeaves
import Derived.Shelf.Abstract
import Derived.WalkKit
import Derived.OwnWalkIn
import Derived.TacticsInMore
import Derived.LoopNIn
import Derived.LoopIn
import Derived.Test.YtjjaajmjcdihoaaRegR
import Derived.Test.YtjjaajmjcdihoaaSeqE
import Derived.Test.YtjjaajmjcdihoaaDeWa
namespace Go.Proofs.Ytjjaajmjcdihoaa
open Go.RowKit Go.Shelf
set_option linter.unusedVariables false
attribute [local go_sem] Oper.semAt_some

theorem ci64_setD (ys : List Int) (k : Nat) (a : Int) : (ci64 ys).set k (.int .i64 a) = ci64 (ys.set k a) := by
  unfold ci64; rw [List.map_set]; rfl
set_option maxRecDepth 100000 in
set_option maxHeartbeats 1000000 in
theorem dreverse_any (B : Nat) (A : Option Addr) (n c : Nat) (zs : List Int) (w : World) (own : Own w B 3 A n c (ci64 zs)) :
    Calls Try.prog 26 #[.slice A n c] w fun e w' => e = .returned (.tuple #[]) ∧ Own w' B 3 A n c (ci64 zs.reverse) ∧ w.heap.size ≤ w'.heap.size ∧
      (∀ k, ((n = 0 ∧ c = 0) ∨ A ≠ some ⟨k, 0, none⟩) → w'.heap[k]? = w.heap[k]?) ∧ Below B w w' := by
  have tn := Nat.le_trans own.le own.cap
  unfold maxLen at tn
  have HL : Hid (zs.length = n) := Lib.hid (by have := own.len; rwa [ci64_len] at this)
  have s0 : IntKind.i64.wrap ((n : Int) - 1) = (n : Int) - 1 := by rw [IntKind.wrap_i64]; omega
  have mixed : Try.prog.follows .mixedOrders = true := by kernel_rfl
  go_enter Try.func26, Try.ntmps26
  go_wp2_with fail
  go_loopw [2, 3] (fun i j wr => ∃ (k : Nat) (ys : List Int), k ≤ n ∧ i = .int .i64 k ∧ j = .int .i64 ((n : Int) - 1 - k) ∧ Hid (TurnedTo zs ys k) ∧ Own wr B 3 A n c (ci64 ys) ∧ w.heap.size ≤ wr.heap.size ∧
      (∀ k, ((n = 0 ∧ c = 0) ∨ A ≠ some ⟨k, 0, none⟩) → wr.heap[k]? = w.heap[k]?) ∧ Below B w wr) (fun i _ _ => n - (intOf i).toNat)
  case atStart => exact ⟨0, zs, Nat.zero_le _, rfl, by first | rfl | (rw [s0]; rfl) | simp, Lib.hid (TurnedTo.zero zs), own, Nat.le_refl _, fun _ _ => rfl, Below.refl _ _⟩
  case round =>
    obtain ⟨k, ys, hk, rfl, rfl, ht, ho, hsz, hfr, hbl⟩ := hrel
    clear own s0
    by_cases hlt : (k : Int) < (n : Int) - 1 - k
    · obtain ⟨j, hj⟩ : ∃ j : Nat, j = n - 1 - k := ⟨_, rfl⟩
      have hjz : (n : Int) - 1 - k = j := by omega
      have hkj : k < j := by omega
      have hjn : j < n := by omega
      have hkn : k < n := by omega
      have hc := ho.le
      obtain ⟨g, rfl, hBg, hgs⟩ := ho.lt (by omega)
      have hyl : ys.length = n := by have := ho.len; rwa [ci64_len] at this
      obtain ⟨a, ha⟩ : ∃ a, ys[k]? = some a := ⟨_, List.getElem?_eq_getElem (by omega)⟩
      obtain ⟨d, hd⟩ : ∃ d, ys[j]? = some d := ⟨_, List.getElem?_eq_getElem (by omega)⟩
      have ck : wr.cell? ⟨g, k, none⟩ = some (.int .i64 a) := by
        rw [ho.cell hkn, ci64, List.getElem?_map, ha]; rfl
      have cj : wr.cell? ⟨g, j, none⟩ = some (.int .i64 d) := by
        rw [ho.cell hjn, ci64, List.getElem?_map, hd]; rfl
      have fk := ho.free (by omega) k
      have fj := ho.free (by omega) j
      have HT : Hid (TurnedTo zs ((ys.set k d).set j a) (k + 1) ∧ TurnedTo zs ((ys.set j a).set k d) (k + 1)) := Lib.hid ⟨ht.out.step (by rw [HL.out]; exact hj) hkj ha hd, ht.out.swapped (by rw [HL.out]; exact hj) hkj ha hd⟩
      have hkj' : (k : Int) < (j : Int) := by omega
      have hkn' : (k : Int) < (n : Int) := by omega
      have hjn' : (j : Int) < (n : Int) := by omega
      have HJ := Lib.hid hjz
      have HO := Lib.hid ho
      have HF := Lib.hid hfr
      rw [hjz]
      clear ha hd hyl ht hjz hj ho hlt hfr
      go_wp2_with fail
      go_region_o
      go_wp2
      go_roundw
      case rel =>
        have o1 := (HO.out.set (by omega) k (.int .i64 d)).set (by omega) j (.int .i64 a)
        rw [ci64_setD, ci64_setD] at o1
        have b1 := (hbl.setCell (p := ⟨g, k, none⟩) hBg (.int .i64 d)).setCell (p := ⟨g, j, none⟩) hBg (.int .i64 a)
        refine ⟨k + 1, _, by omega, by go_num, ?_, Lib.hid HT.out.1, o1, b1.size, fun i hi => ?_, b1.drew⟩
        · have := HJ.out
          congr 1; omega
        · have hne : i ≠ g := fun e => (hi.resolve_left (by omega)) (by rw [e])
          refine Eq.trans ?_ (HF.out i hi)
          exact (heap_setCell_other _ ⟨g, j, none⟩ i _ hne).trans (heap_setCell_other _ ⟨g, k, none⟩ i _ hne)
      case measure => simp [intOf]; omega
    · have HR : Hid (ys = zs.reverse) := Lib.hid (ht.out.done (by rw [HL.out]; omega))
      have hno : ¬ (k : Int) < (n : Int) - 1 - k := hlt
      clear ht
      go_wp2
      go_end0
      rw [← HR.out]
      exact ⟨rfl, ho, hsz, hfr, hbl⟩

/-! What goes through a list from its last one on. -/
abbrev BackOf (zs : List Int) := { x : Nat × Int // x.1 < zs.length ∧ zs.getD x.1 0 = x.2 }
def encBack {zs : List Int} (x : BackOf zs) : Array Value := #[.int .i64 (x.1.1 : Int), .int .i64 x.1.2]
def backL (zs : List Int) (m : Nat) : List (Nat × Int) := (List.range m).map fun k => (zs.length - 1 - k, zs.getD (zs.length - 1 - k) 0)
theorem backL_succ (zs : List Int) (m : Nat) : backL zs (m + 1) = backL zs m ++ [(zs.length - 1 - m, zs.getD (zs.length - 1 - m) 0)] := by
  rw [backL, List.range_succ, List.map_append]; rfl
theorem backL_len (zs : List Int) (m : Nat) : (backL zs m).length = m := by simp [backL]
set_option maxHeartbeats 1000000 in
theorem dback_any (u : Ls) (w : World) : Calls Try.prog 27 #[.slice u.A u.n u.c] w fun e w' => e = .returned (.func (.func 31) #[] #[.pointer (some ⟨w.heap.size, 0, none⟩)]) ∧ w' = w.alloc (.cells #[.slice u.A u.n u.c] 22) := by
  go_enter Try.func27, Try.ntmps27
  go_wp2
  go_ret
  exact ⟨rfl, rfl⟩
set_option maxRecDepth 100000 in
set_option maxHeartbeats 1000000 in
theorem dback1_seq (u : Ls) (pb : Nat) (w : World) :
    SeqE Try.prog 31 #[.pointer (some ⟨pb, 0, none⟩)] (encBack (zs := u.zs)) (fun _ _ _ => True) (fun W => Boxed W pb 22 (.slice u.A u.n u.c) ∧ u.Ok W) (fun ys => ys.map (·.1) = backL u.zs u.n) u.n w := by
  intro l J W hW hk hJ hY h0
  obtain ⟨hb, hu⟩ := hk
  have HL := Lib.hid hu.len
  have tn := Nat.le_trans hu.cap hu.top
  unfold maxLen at tn
  have s0 : IntKind.i64.wrap ((u.n : Int) - 1) = (u.n : Int) - 1 := by rw [IntKind.wrap_i64]; omega
  refine (callsIn_wide (n := 4)).1 ?_
  refine callsIn_of_wp Try.func31 rfl trivial ?_ rfl
  simp only [Try.ntmps31, List.size_toArray, List.length_cons, List.length_nil, Nat.reduceAdd, Nat.reduceSub, Array.replicate_succ, Array.replicate_zero, List.push_toArray, List.append_toArray, List.nil_append, List.cons_append]
  have hcb := hb.cell
  gi_wp2
  gi_loopw [3] (fun i wr => ∃ (k : Nat) (pre : List (BackOf u.zs)), k ≤ u.n ∧ i = .int .i64 ((u.n : Int) - 1 - k) ∧ Hid (pre.map (·.1) = backL u.zs k) ∧ J pre wr ∧ Boxed wr pb 22 (.slice u.A u.n u.c) ∧ u.Ok wr) (fun i _ => match i with | .int _ z => (z + 1).toNat | _ => 0)
  case atStart => exact ⟨0, [], Nat.zero_le _, by simp, Lib.hid rfl, h0, hb, hu⟩
  case round =>
    clear hcb hb hu h0 s0
    obtain ⟨k, pre, hk, rfl, hpre, hJs, hbw, huw⟩ := hrel
    have hcb := hbw.cell
    by_cases hlt : k < u.n
    · obtain ⟨j, hj⟩ : ∃ j : Nat, j = u.n - 1 - k := ⟨_, rfl⟩
      have hjn : j < u.n := by omega
      have hjz : (u.n : Int) - 1 - k = j := by omega
      rw [hjz]
      obtain ⟨p, q, hA, hp, u0, hu0, hc0⟩ := huw.rd.get hjn
      have hjl : j < u.zs.length := by rw [HL.out]; exact hjn
      rw [ci64_get _ _ hjl] at hu0
      obtain rfl : iV u.zs[j] = u0 := Option.some.inj hu0
      unfold iV at hc0
      have hj1 : (j : Int) < u.n := by omega
      have hgd : u.zs.getD j 0 = u.zs[j] := by rw [List.getD_eq_getElem?_getD, List.getElem?_eq_getElem hjl]; rfl
      rw [← hgd] at hc0
      obtain ⟨z, hz⟩ : ∃ z, u.zs.getD j 0 = z := ⟨_, rfl⟩
      rw [hz] at hc0
      have HX : Hid (j < u.zs.length ∧ u.zs.getD j 0 = z) := Lib.hid ⟨hjl, hz⟩
      have hbk : backL u.zs (k + 1) = backL u.zs k ++ [(j, z)] := by rw [backL_succ, HL.out, ← hj, hz]
      have HP := Lib.hid (show (pre ++ [(⟨(j, z), HX.out⟩ : BackOf u.zs)]).map (·.1) = backL u.zs (k + 1) by
        rw [List.map_append, hpre.out, hbk]; rfl)
      have hlen : pre.length < u.n := by
        have h2 := backL_len u.zs k
        rw [← hpre.out, List.length_map] at h2
        omega
      obtain ⟨fn, tmps, assign, body, hy, hR⟩ := hY pre ⟨(j, z), HX.out⟩ wr wr hJs ⟨hbw, huw⟩ hlen (Cel.refl _) (Below.refl _ _) trivial
      unfold encBack at hy
      dsimp only at hy
      have s1 : IntKind.i64.wrap ((j : Int) - 1) = (j : Int) - 1 := by rw [IntKind.wrap_i64]; omega
      have HJ := Lib.hid (And.intro hj hjz)
      have HA := Lib.hid hA
      rw [hA] at hcb
      clear hu0 hgd hz hjl hA hjz hj hbk
      gi_wp2
      refine hR.mono ?_
      rintro e W3 ⟨rfl, hJ3, ⟨hb3, hu3⟩, -⟩
      have hcb3 := hb3.cell
      gi_wp2
      go_roundw
      case rel => exact ⟨k + 1, _, by omega, by have := HJ.out; first | (congr 1; omega) | (simp; omega), HP, hJ3, hb3, hu3⟩
      case measure =>
        show ((j : Int) - 1 + 1).toNat < ((j : Int) + 1).toNat
        omega
    · obtain rfl : k = u.n := by omega
      have hno : ¬ (0 : Int) ≤ (u.n : Int) - 1 - u.n := by omega
      gi_wp2
      go_end0
      exact ⟨⟨_, rfl⟩, pre, hpre.out, hJs⟩
end Go.Proofs.Ytjjaajmjcdihoaa
