/-
  The contracts of package matchings, of the landed code.
-/
import Derived.Test.YtdckoaljcklmhaaGreatDoorPaWm
import Derived.Test.YtdckoaljcklmhaaGreatDoorGrWi
import Derived.Test.YtdckoaljcklmhaaGreatDoorMaF
import Derived.Test.YtdckoaljcklmhaaGreatDoorMaO
import Derived.Laws.CopyOwn
import Derived.OneCell
import Derived.Test.YtdckoaljcklmhaaGreatDoorMaL
namespace Go.Proofs.YtdckoaljcklmhaaGreatDoor
open Go.RowKit
set_option linter.unusedVariables false

theorem nat9 {k : Nat} (h : k ≤ 8) : k = 0 ∨ k = 1 ∨ k = 2 ∨ k = 3 ∨ k = 4 ∨ k = 5 ∨ k = 6 ∨ k = 7 ∨ k = 8 := by omega
set_option maxRecDepth 100000 in
set_option maxHeartbeats 1000000 in
theorem pmul64_any (k : Nat) (hk : k ≤ 8) (w : World) : Calls Tryz.prog 158 #[.int .u64 1, .int .u64 k] w fun e w' => e = .returned (.tuple #[.int .u64 0, .int .u64 k]) ∧ w' = w := by
  rcases nat9 hk with rfl | rfl | rfl | rfl | rfl | rfl | rfl | rfl | rfl
  all_goals
    go_enter Tryz.func158, Tryz.ntmps158
    go_wp2
    go_ret2
    exact ⟨rfl, rfl⟩
set_option maxRecDepth 100000 in
set_option maxHeartbeats 1000000 in
theorem pmul_any (k : Nat) (hk : k ≤ 8) (w : World) : Calls Tryz.prog 147 #[.int .u64 1, .int .u64 k] w fun e w' => e = .returned (.tuple #[.int .u64 0, .int .u64 k]) ∧ w' = w := by
  have hm := pmul64_any k hk w
  go_enter Tryz.func147, Tryz.ntmps147
  go_wp2_with fail
  refine hm.mono ?_
  rintro e w1 ⟨rfl, rfl⟩
  clear hm
  go_wp2
  go_ret2
  exact ⟨rfl, rfl⟩

/-- So many that are filled, and so many that are not. -/
def rowR (j k : Nat) : List Value := List.replicate j (.int .i64 (-1)) ++ List.replicate (k - j) (.int .i64 0)
theorem rowR_len {j k : Nat} (h : j ≤ k) : (rowR j k).length = k := by simp [rowR]; omega
theorem rowR_zero (k : Nat) : rowR 0 k = List.replicate k (.int .i64 0) := by simp [rowR]
theorem rowR_full (k : Nat) : rowR k k = ci64 (List.replicate k (-1)) := by simp [rowR, ci64, iV]
theorem rowR_get {j k i : Nat} (hi : i < j) : (rowR j k)[i]? = some (.int .i64 (-1)) := by
  rw [rowR, List.getElem?_append_left (by simp; exact hi), List.getElem?_replicate, if_pos hi]
theorem rowR_splice {j k m : Nat} (h : j + m ≤ k) : splice (rowR j k) j (List.replicate m (.int .i64 (-1))) = rowR (j + m) k := by
  have hl : (List.replicate j (Value.int .i64 (-1))).length = j := by simp
  unfold splice rowR
  rw [List.length_replicate, List.take_append_of_le_length (by omega), List.take_of_length_le (by omega), List.drop_append, List.drop_eq_nil_of_le (by rw [hl]; omega), List.nil_append, hl, List.drop_replicate, ← List.append_assoc, List.replicate_append_replicate]
  congr 2
  omega
theorem sizeR_int : (Tryz.prog.info? 3).map (·.size) = some 1 := by kernel_rfl
theorem run_copy_rep (w : World) (ty : TypeId) (g dLen dCap k j m : Nat) (A : Addr) (sLen sCap : Nat) (hg : w.heap[g]? = some (.cells (rowR j k).toArray 3 (0, 0))) (hjk : j ≤ k) (hm : m = Nat.min sLen dLen)
    (hsrc : ∀ i, i < m → w.cell? (A.add i) = some (.int .i64 (-1))) (hfit : j + m ≤ k) :
    (Builtin.copy_ #[22, 22] ty #[.slice (some ⟨g, j, none⟩) dLen dCap, .slice (some A) sLen sCap]).run Tryz.prog w = .ok (goInt m) (w.setRow g (rowR (j + m) k).toArray) := by
  have h := run_copy_row (P := Tryz.prog) w 22 22 ty 3 g j dLen dCap A sLen sCap (rowR j k).toArray 3 (List.replicate m (.int .i64 (-1))) Tryz.underlying22 sizeR_int hg (by rw [List.length_replicate]; exact hm)
    (fun i v hv => by
      rw [List.getElem?_replicate] at hv
      split at hv
      · rename_i hi
        cases hv
        exact hsrc i hi
      · cases hv) (by rw [List.length_replicate]; simpa [rowR_len hjk] using hfit) (fun v hv => by rw [(List.mem_replicate.1 hv).2]; rfl)
  rw [h]
  have e := rowR_splice hfit
  unfold splice at e
  simp only [List.length_replicate] at e ⊢
  rw [List.append_assoc, e]
set_option maxRecDepth 100000 in
set_option maxHeartbeats 1000000 in
theorem prepeat_any (k b : Nat) (hk : k ≤ 8) (w : World) (hb : b < w.heap.size) (hc : w.cell? ⟨b, 0, none⟩ = some (.int .i64 (-1))) :
    Calls Tryz.prog 137 #[.slice (some ⟨b, 0, none⟩) 1 1, .int .i64 k] w fun e w' => ∃ A, e = .returned (.slice A k k) ∧ OwnI w' w.heap.size ⟨A, k, k, List.replicate k (-1)⟩ ∧ Below w.heap.size w w' := by
  have hmu := pmul_any k hk w
  obtain ⟨i0, hi0, hz0, hz1, hz2⟩ := info_parts infoR_int
  have s1 : IntKind.u64.wrap (k : Int) = k := by rw [IntKind.wrap_u64]; omega
  have s2 : IntKind.i64.wrap (k : Int) = k := by rw [IntKind.wrap_i64]; omega
  have k0 : (0 : Int) ≤ k := by omega
  have k1 : decide ((k : Int) < 0) = false := decide_eq_false (by omega)
  have k2 : decide (9223372036854775807 < (k : Int)) = false := decide_eq_false (by omega)
  go_enter Tryz.func137, Tryz.ntmps137
  go_wp2_with fail
  refine hmu.mono ?_
  rintro e w1 ⟨rfl, rfl⟩
  clear hmu
  go_wp2_with (at_make; go_must (refine wpList_mk _ rfl _ _ 22 rfl w1.heap.size 3 i0 _ Tryz.underlying22 hi0 hz0 hz1 rfl .i64 .i64 _ _ k rfl rfl rfl rfl ?c2 ?c3 ?c4 ?_))
  case c2 => rw [hz2]; omega
  case c3 => simp only [maxLen]; omega
  case c4 => exact Nat.le_refl _
  intro w2 hown hbel
  have hcb : w2.cell? ⟨b, 0, none⟩ = some (.int .i64 (-1)) := (hbel.cell (p := ⟨b, 0, none⟩) hb).trans hc
  have hlt : w1.heap.size < w2.heap.size ∨ k = 0 := by
    by_cases h0 : k = 0
    · exact .inr h0
    · obtain ⟨g, hA, _, hg⟩ := hown.lt (by omega)
      cases hA
      exact .inl hg
  by_cases h0 : k = 0
  · subst h0
    clear hlt
    go_wp2_with fail
    rw [run_copy_none (P := Tryz.prog) w2 _ _ _ 3 _ _ _ _ _ _ Tryz.underlying22 sizeR_int rfl]
    go_wp2
    go_loopw [8] (fun v wr => v = .int .i64 0 ∧ wr = w2) (fun _ _ => 0)
    case atStart => exact ⟨rfl, rfl⟩
    case round =>
      obtain ⟨rfl, rfl⟩ := hrel
      go_wp2
      go_ret
      exact ⟨_, rfl, ⟨hown, by simp⟩, hbel⟩
  · have hrow : w2.heap[w1.heap.size]? = some (.cells (rowR 0 k).toArray 3 (0, 0)) := by
      obtain ⟨g, cur, hA, _, hh, _, _, hs, ht⟩ := hown.2.resolve_left (by omega)
      cases hA
      rw [hh, rowR_zero, ← ht, List.take_of_length_le (by simp; omega)]
    have hcp := run_copy_rep w2 3 w1.heap.size k k k 0 1 ⟨b, 0, none⟩ 1 1 hrow (Nat.zero_le _) (by show 1 = min 1 k; omega) (fun i hi => by
      obtain rfl : i = 0 := by omega
      exact hcb) (by omega)
    have hb3 := below_setRow hbel (Nat.le_refl _) (rowR (0 + 1) k).toArray
    have hrow3 := setRow_heap w2 w1.heap.size _ (rowR (0 + 1) k).toArray _ _ hrow
    have hg : w1.heap.size < w2.heap.size := hlt.resolve_right h0
    go_wp2_with fail
    clear hcp hrow hown hlt hcb hc hbel
    generalize w2.setRow w1.heap.size (rowR 1 k).toArray = w3 at *
    go_loopw [8] (fun v wr => ∃ j : Nat, 1 ≤ j ∧ j ≤ k ∧ v = .int .i64 j ∧ wr.heap[w1.heap.size]? = some (.cells (rowR j k).toArray 3 (0, 0)) ∧ Below w1.heap.size w1 wr) (fun v _ => k - (intOf v).toNat)
    case atStart => exact ⟨1, Nat.le_refl _, by omega, rfl, hrow3, hb3⟩
    case round =>
      obtain ⟨j, hj1, hjk, rfl, hrow, hbel⟩ := hrel
      clear hrow3 hb3
      by_cases hlt : j < k
      · have hlt' : (j : Int) < k := by omega
        have hj0 : (0 : Int) ≤ j := by omega
        have hjk' : (j : Int) ≤ k := by omega
        obtain ⟨m, hm⟩ : ∃ m, Nat.min j (k - j) = m := ⟨_, rfl⟩
        have hm1 : 1 ≤ m ∧ j + m ≤ k := by
          have h5 : min j (k - j) = m := hm
          omega
        have hcp := run_copy_rep wr.drew 3 w1.heap.size (k - j) (k - j) k j m ⟨w1.heap.size, 0, none⟩ j k hrow hjk hm.symm (fun i hi => by
          rw [show (⟨w1.heap.size, 0, none⟩ : Addr).add i = ⟨w1.heap.size, i, none⟩ by simp [Addr.add]; omega, cell_of_row _ _ _ _ _ _ (show wr.drew.heap[w1.heap.size]? = _ from hrow)]
          have h5 : min j (k - j) = m := hm
          simpa using rowR_get (k := k) (show i < j by omega)) hm1.2
        go_wp2_with fail
        refine wp_region_ord (S := fun _ => True) [(0, true), (1, true), (2, true), (3, true), (4, true), (5, true), (6, true), (7, false), (8, true), (9, true)] default (by kernel_rfl) (by kernel_rfl) (by kernel_rfl) trivial ?_
        simp only [getOrd, nth]
        repeat (first | (refine ordS (by rfl) ?_; simp only [Act.put, List.setIfInBounds_toArray, List.set_cons_zero, List.set_cons_succ]) | (refine ordN (by rfl) ?_; simp only [Act.put, List.setIfInBounds_toArray, List.set_cons_zero, List.set_cons_succ]) | (refine ordQ (v := ?_) (by rfl) (fun _ hSw => ?_) ?_; rotate_left; (focus (clear hSw; go_simp; (first | done | with_reducible rfl))); simp only [Act.put, List.setIfInBounds_toArray, List.set_cons_zero, List.set_cons_succ]))
        refine ordD (by rfl) ?_
        intro K hK
        go_simp
        rw [if_neg (show ¬ k = j by omega), hcp]
        have hb4 := below_setRow (g := w1.heap.size) (w := wr.drew) (hbel.trans ((Below.refl _ wr).drew)) (Nat.le_refl _) (rowR (j + m) k).toArray
        have hrow4 := setRow_heap wr.drew w1.heap.size _ (rowR (j + m) k).toArray _ _ hrow
        generalize wr.drew.setRow w1.heap.size (rowR (j + m) k).toArray = w4 at *
        have s3 : IntKind.i64.wrap ((j : Int) + m) = (j : Int) + m := by rw [IntKind.wrap_i64]; omega
        go_simp
        refine hK _ _ trivial ?_
        clear hK K hcp
        try simp only [Act.put, List.setIfInBounds_toArray, List.set_cons_zero, List.set_cons_succ]
        repeat (first | (refine ordS (by rfl) ?_; simp only [Act.put, List.setIfInBounds_toArray, List.set_cons_zero, List.set_cons_succ]) | (refine ordN (by rfl) ?_; simp only [Act.put, List.setIfInBounds_toArray, List.set_cons_zero, List.set_cons_succ]) | (refine ordQ (v := ?_) (by rfl) (fun _ hSw => ?_) ?_; rotate_left; (focus (clear hSw; go_simp; (first | done | with_reducible rfl))); simp only [Act.put, List.setIfInBounds_toArray, List.set_cons_zero, List.set_cons_succ]))
        refine ordE ?_
        go_wp2
        go_roundw
        case rel => exact ⟨j + m, by omega, hm1.2, by go_num, hrow4, hb4⟩
        case measure => simp [intOf]; omega
      · obtain rfl : j = k := by omega
        clear hlt
        go_wp2
        go_ret
        refine ⟨_, rfl, ⟨⟨by simp [ci64], .inr ⟨w1.heap.size, _, rfl, Nat.le_refl _, hrow, Nat.le_refl _, by simp only [maxLen]; omega, by simp [rowR_len], ?_⟩⟩, fun z hz => ?_⟩, hbel⟩
        · show List.take j (rowR j j) = _
          rw [List.take_of_length_le (by rw [rowR_len (Nat.le_refl _)]; exact Nat.le_refl _), rowR_full]
        · rw [(List.mem_replicate.1 hz).2]; omega
end Go.Proofs.YtdckoaljcklmhaaGreatDoor


namespace Go.Proofs.YtdckoaljcklmhaaGreatDoor
open Go.RowKit
set_option linter.unusedVariables false

/-- What the closure keeps. -/
structure Keeps (w : World) (B : Nat) (x : Gr) (m : Int) (q1 q2 q3 : Nat) (u : Ls) : Prop where
  c1 : w.heap[q1]? = some (.cells #[.slice x.A x.n x.c] 23 (0, 0))
  c2 : w.heap[q2]? = some (.cells #[.int .i64 m] 3 (0, 0))
  c3 : w.heap[q3]? = some (.cells #[.slice u.A u.n u.c] 22 (0, 0))
  own : OwnI w B u
  n1 : q1 ≠ q3
  n2 : q2 ≠ q3
  lo : B ≤ q3
theorem Keeps.below {w w' : World} {B : Nat} {x : Gr} {m : Int} {q1 q2 q3 : Nat} {u : Ls} (h : Keeps w B x m q1 q2 q3 u) (hb : Below w.heap.size w w') : Keeps w' B x m q1 q2 q3 u :=
  ⟨(hb.block q1 (lt_of_block h.c1)).trans h.c1, (hb.block q2 (lt_of_block h.c2)).trans h.c2, (hb.block q3 (lt_of_block h.c3)).trans h.c3, h.own.below hb, h.n1, h.n2, h.lo⟩
/-- It keeps another one. -/
theorem Keeps.put {w : World} {B : Nat} {x : Gr} {m : Int} {q1 q2 q3 : Nat} {u v : Ls} (h : Keeps w B x m q1 q2 q3 u) (hv : OwnI w B v) : Keeps (w.setCell ⟨q3, 0, none⟩ (.slice v.A v.n v.c)) B x m q1 q2 q3 v := by
  have hne : ∀ k, k ≠ q3 → (w.setCell ⟨q3, 0, none⟩ (.slice v.A v.n v.c)).heap[k]? = w.heap[k]? := fun k hk => Below.heap_setCell _ _ _ _ hk
  refine ⟨(hne q1 h.n1).trans h.c1, (hne q2 h.n2).trans h.c2, one_setCell h.c3, ⟨?_, hv.fit⟩, h.n1, h.n2, h.lo⟩
  refine ⟨hv.own.1, ?_⟩
  rcases hv.own.2 with h0 | ⟨g, cur, hA, hg, hh, r⟩
  · exact .inl h0
  · refine .inr ⟨g, cur, hA, hg, ?_, r⟩
    rw [hne g (fun he => by
      have h3 := h.c3
      rw [← he, hh] at h3
      simp at h3)]
    exact hh
set_option maxRecDepth 100000 in
set_option maxHeartbeats 1000000 in
theorem pgo_any (x : Gr) (M k : Nat) (u : Ls) (q1 q2 q3 : Nat) (w0 w : World) (hx0 : x.Ok w0) (hb : Below w0.heap.size w0 w) (hc : checkG x.g M = true) (hk : k < x.n) (K : Keeps w w0.heap.size x M q1 q2 q3 u) (hu : u.zs = mostN x.g M k) :
    Calls Tryz.prog 138 #[.int .i64 k, .pointer (some ⟨q1, 0, none⟩), .pointer (some ⟨q2, 0, none⟩), .pointer (some ⟨q3, 0, none⟩)] w fun e w' =>
      ∃ A n c, e = .returned (.slice A n c) ∧ Keeps w' w0.heap.size x M q1 q2 q3 ⟨A, n, c, mostN x.g M (k + 1)⟩ ∧ Below w0.heap.size w0 w' := by
  obtain ⟨uA, un, uc, ul⟩ := u
  simp only at hu
  subst hu
  have hx := hx0.below hb
  have hgl := hx.glen
  have hM := (checkG_iff.1 hc).2.1
  have h8 := (checkG_iff.1 hc).2.2.1
  have st := most_stp hc k (by omega)
  have hmay := stp_may hc st (by omega)
  obtain ⟨_, p2, p3, _, _⟩ := path_ok hmay
  obtain ⟨_, _, hno⟩ := mayP_iff.1 hmay
  rw [Int.toNat_natCast] at hno
  have hmo := pmoreC x M ⟨uA, un, uc, mostN x.g M k⟩ k w hx K.own.ok (by omega) (by omega) (by omega) (by omega)
  rw [show x.v = .slice x.A x.n x.c from rfl] at hmo
  unfold Ls.v at hmo
  simp only at hmo
  rw [p2, p3] at hmo
  have hst : Hid (mostN x.g M (k + 1) = if foundP x.g M (mostN x.g M k) k = true then moreP x.g M (mostN x.g M k) k else mostN x.g M k) := Lib.hid (by
    rw [mostN_succ, stepM]
    by_cases hf : foundP x.g M (mostN x.g M k) k = true
    · rw [if_pos hf, if_pos ⟨hno, hf⟩]
    · rw [if_neg hf, if_neg (fun h => hf h.2)])
  obtain ⟨β, hβ⟩ : ∃ β, foundP x.g M (mostN x.g M k) k = β := ⟨_, rfl⟩
  rw [hβ] at hmo
  have HB := Lib.hid hβ
  have d1 := cell_of_one K.c1
  have d2 := cell_of_one K.c2
  have d3 := cell_of_one K.c3
  have f3 := free_of_one K.c3
  have HK := Lib.hid K
  simp only at d3
  clear hβ p2 p3 hno hmay st K hc hM h8 hgl hx0
  go_enter Tryz.func138, Tryz.ntmps138
  go_wp2_with fail
  refine hmo.mono ?_
  rintro e w1 ⟨A, n, c, rfl, hO, hb1⟩
  have hB := hb.trans (hb1.mono hb.size)
  have K1 := HK.out.below hb1
  have e3 := cell_of_one K1.c3
  have g3 := free_of_one K1.c3
  simp only at e3
  clear hmo d1 d2 d3 f3 hb1 HK
  cases β
  · have hz := hst.out
    rw [HB.out, if_neg (by simp)] at hz
    have K2 := Lib.hid K1
    clear K1 hst hO
    go_wp2
    go_ret
    rw [hz]
    exact ⟨_, _, _, rfl, K2.out, hB⟩
  · have hz := hst.out
    rw [HB.out, if_pos rfl] at hz
    have K2 := Lib.hid (K1.put (hO.mono hb.size))
    have hB2 := hB.setCell (p := ⟨q3, 0, none⟩) K1.lo (.slice A n c)
    clear K1 hst hO
    go_wp2
    go_ret
    rw [hz]
    exact ⟨_, _, _, rfl, K2.out, hB2⟩
end Go.Proofs.YtdckoaljcklmhaaGreatDoor


namespace Go.Proofs.YtdckoaljcklmhaaGreatDoor
open Go.RowKit
set_option linter.unusedVariables false

set_option maxRecDepth 100000 in
set_option maxHeartbeats 1000000 in
theorem pone_any (x : Gr) (M : Nat) (w : World) (hx : x.Ok w) (hc : checkG x.g M = true) :
    Calls Tryz.prog 129 #[.slice x.A x.n x.c, .int .i64 M] w fun e w' => ∃ (q1 q2 q3 : Nat) (A : Option Addr) (c : Nat), e = .returned (.func (.func 138) #[] #[.pointer (some ⟨q1, 0, none⟩), .pointer (some ⟨q2, 0, none⟩), .pointer (some ⟨q3, 0, none⟩)]) ∧
      Keeps w' w.heap.size x M q1 q2 q3 ⟨A, x.n, c, mostN x.g M 0⟩ ∧ Below w.heap.size w w' := by
  have hmf : ∀ (fn : Fn) (first cap : Array Value) (v : World), (Instr.makeFunc fn first cap).run Tryz.prog v = .ok (.func fn first cap) v := fun _ _ _ _ => rfl
  have HGL := Lib.hid hx.glen
  have h8 : x.n ≤ 8 := by have := (checkG_iff.1 hc).2.2.1; rw [HGL.out] at this; exact this
  have hz : ∀ (v : World) (o1 : Obj), (v.alloc o1).heap.size = v.heap.size + 1 := fun v o1 => Array.size_push ..
  obtain ⟨v1, hv1⟩ : ∃ v1, w.alloc (.cells #[.slice x.A x.n x.c] 23) = v1 := ⟨_, rfl⟩
  obtain ⟨v2, hv2⟩ : ∃ v2, v1.alloc (.cells #[.int .i64 M] 3) = v2 := ⟨_, rfl⟩
  obtain ⟨v3, hv3⟩ : ∃ v3, v2.alloc (.cells #[.int .i64 (-1)] 3) = v3 := ⟨_, rfl⟩
  have z1 : v1.heap.size = w.heap.size + 1 := by rw [← hv1, hz]
  have z2 : v2.heap.size = w.heap.size + 1 + 1 := by rw [← hv2, hz, z1]
  have z3 : v3.heap.size = w.heap.size + 1 + 1 + 1 := by rw [← hv3, hz, z2]
  have b1 : Below w.heap.size w v1 := by rw [← hv1]; exact (Below.refl _ w).alloc (Nat.le_refl _) _
  have b2 : Below v1.heap.size v1 v2 := by rw [← hv2]; exact (Below.refl _ v1).alloc (Nat.le_refl _) _
  have b3 : Below v2.heap.size v2 v3 := by rw [← hv3]; exact (Below.refl _ v2).alloc (Nat.le_refl _) _
  have h1 : v1.heap[w.heap.size]? = some (.cells #[.slice x.A x.n x.c] 23 (0, 0)) := by rw [← hv1]; exact heap_alloc_new _ _
  have h2 : v2.heap[v1.heap.size]? = some (.cells #[.int .i64 M] 3 (0, 0)) := by rw [← hv2]; exact heap_alloc_new _ _
  have h3 : v3.heap[v2.heap.size]? = some (.cells #[.int .i64 (-1)] 3 (0, 0)) := by rw [← hv3]; exact heap_alloc_new _ _
  have b13 := (b2.mono (by omega)).trans (b3.mono (B' := v1.heap.size) (by omega))
  have h13 := (b13.block w.heap.size (by omega)).trans h1
  have h23 := (b3.block v1.heap.size (by omega)).trans h2
  have hB3 := b1.trans (b13.mono b1.size)
  have d3 := cell_of_one h13
  rw [z2] at h3
  rw [z1] at h23
  have hrp := prepeat_any x.n (w.heap.size + 1 + 1) h8 v3 (by omega) (cell_of_one h3)
  go_enter Tryz.func129, Tryz.ntmps129
  go_wp2_with fail
  clear hv1 hv2 hv3 h1 h2 b1 b2 b3 b13 z1 z2 d3
  refine hrp.mono ?_
  rintro e w4 ⟨A, rfl, hO, hb4⟩
  have hB4 := hB3.trans (hb4.mono hB3.size)
  have h14 := (hb4.block w.heap.size (by omega)).trans h13
  have h24 := (hb4.block (w.heap.size + 1) (by omega)).trans h23
  have hs4 := hb4.size
  obtain ⟨v5, hv5⟩ : ∃ v5, w4.alloc (.cells #[.slice none 0 0] 22) = v5 := ⟨_, rfl⟩
  have b5 : Below w4.heap.size w4 v5 := by rw [← hv5]; exact (Below.refl _ w4).alloc (Nat.le_refl _) _
  have h35 : v5.heap[w4.heap.size]? = some (.cells #[.slice none 0 0] 22 (0, 0)) := by rw [← hv5]; exact heap_alloc_new _ _
  have hB5 := hB4.trans (b5.mono hB4.size)
  have K0 : Keeps v5 w.heap.size x M w.heap.size (w.heap.size + 1) w4.heap.size Ls.nil := ⟨(b5.block _ (by omega)).trans h14, (b5.block _ (by omega)).trans h24, h35, OwnI.nil _ _, by omega, by omega, by omega⟩
  have hu : OwnI v5 w.heap.size ⟨A, x.n, x.n, mostN x.g M 0⟩ := by
    rw [mostN_zero, HGL.out]
    exact (hO.below b5).mono (by omega)
  have K1 := Lib.hid (K0.put hu)
  have hB6 := hB5.setCell (p := ⟨w4.heap.size, 0, none⟩) (by show w.heap.size ≤ w4.heap.size; omega) (.slice A x.n x.n)
  have d5 := cell_of_one h35
  have f5 := free_of_one h35
  clear hrp h3 h13 h23 hB3 z3 hO hb4 hB4 h14 h24 hs4 b5 h35 hB5 K0 hu hc
  go_wp2_with fail
  go_ret
  exact ⟨_, _, _, _, _, rfl, K1.out, hB6⟩
theorem Keeps.mono {w : World} {B B' : Nat} {x : Gr} {m : Int} {q1 q2 q3 : Nat} {u : Ls} (h : Keeps w B x m q1 q2 q3 u) (hB : B' ≤ B) : Keeps w B' x m q1 q2 q3 u := ⟨h.c1, h.c2, h.c3, h.own.mono hB, h.n1, h.n2, Nat.le_trans hB h.lo⟩
set_option maxRecDepth 100000 in
set_option maxHeartbeats 1000000 in
theorem pmostC : MostC 116 := by
  intro x m w hx hm1 hm2
  have hck := gcheckC x m w hx hm1 hm2
  obtain ⟨β, hβ⟩ : ∃ β, checkG x.g m = β := ⟨_, rfl⟩
  have HC := Lib.hid hβ
  rw [show x.v = .slice x.A x.n x.c from rfl] at hck ⊢
  rw [hβ] at hck
  clear hβ
  go_enter Tryz.func116, Tryz.ntmps116
  go_wp2_with fail
  refine hck.mono ?_
  rintro e w1 ⟨rfl, hb1⟩
  clear hck
  cases β
  · obtain ⟨e1, e2⟩ := most_bad HC.out
    have E1 := Lib.hid e1
    have E2 := Lib.hid e2
    clear e1 e2
    go_wp2
    go_ret2
    refine ⟨none, 0, 0, by rw [E1.out]; rfl, ?_, hb1⟩
    rw [E2.out]
    exact OwnI.nil _ _
  · obtain ⟨M, rfl⟩ : ∃ M : Nat, m = M := ⟨m.toNat, by have := (checkG_iff.1 HC.out).1; omega⟩
    obtain ⟨e1, e2⟩ := most_ok HC.out
    have E1 := Lib.hid e1
    have E2 := Lib.hid e2
    have HGL := Lib.hid hx.glen
    have h8 : x.n ≤ 8 := by have := (checkG_iff.1 HC.out).2.2.1; rw [HGL.out] at this; exact this
    have hone := pone_any x M w1 (hx.below hb1) HC.out
    clear e1 e2 hm1 hm2
    go_wp2_with fail
    refine hone.mono ?_
    rintro e w2 ⟨q1, q2, q3, A0, c0, rfl, K0, hb2⟩
    have hB2 := hb1.trans (hb2.mono hb1.size)
    have K := Lib.hid (K0.mono hb1.size)
    clear hone K0 hb2 hb1
    go_wp2_with fail
    go_loopw [7, 18] (fun v i wr => ∃ (j : Nat) (A Av : Option Addr) (n c nv cv : Nat), j ≤ x.n ∧ i = .int .i64 j ∧ v = .slice Av nv cv ∧ Hid ((0 < j → Av = A ∧ nv = n ∧ cv = c) ∧ (j = 0 → Av = none ∧ nv = 0 ∧ cv = 0)) ∧ Hid (Keeps wr w.heap.size x M q1 q2 q3 ⟨A, n, c, mostN x.g M j⟩) ∧ Below w.heap.size w wr) (fun _ i _ => x.n - (intOf i).toNat)
    case atStart => exact ⟨0, A0, none, x.n, c0, 0, 0, Nat.zero_le _, rfl, rfl, Lib.hid ⟨fun h => by omega, fun _ => ⟨rfl, rfl, rfl⟩⟩, K, hB2⟩
    case round =>
      obtain ⟨j, A, Av, n, c, nv, cv, hj, rfl, rfl, hv, hK, hB⟩ := hrel
      clear K hB2
      by_cases hjn : j < x.n
      · have hjn' : (j : Int) < x.n := by omega
        have hgo := pgo_any x M j ⟨A, n, c, mostN x.g M j⟩ q1 q2 q3 w wr hx hB HC.out hjn hK.out rfl
        clear hv hK
        go_wp2_with fail
        refine hgo.mono ?_
        rintro e w3 ⟨A3, n3, c3, rfl, K3, hB3⟩
        have HK3 := Lib.hid K3
        clear hgo K3
        go_wp2
        go_roundw
        case rel => exact ⟨j + 1, A3, A3, n3, c3, n3, c3, by omega, by go_num, rfl, Lib.hid ⟨fun _ => ⟨rfl, rfl, rfl⟩, fun h => by omega⟩, HK3, hB3⟩
        case measure => simp [intOf]; omega
      · obtain rfl : j = x.n := by omega
        have hfin : Hid (OwnI wr w.heap.size ⟨Av, nv, cv, mostE x.g M⟩) := Lib.hid (by
          rw [E2.out, mostP, HGL.out]
          by_cases h0 : x.n = 0
          · obtain ⟨rfl, rfl, rfl⟩ := hv.out.2 h0
            have hl := hK.out.own.len
            simp only at hl
            have hnn : n = 0 := by
              rw [← hl, (most_stp HC.out x.n (by rw [HGL.out]; exact Nat.le_refl _)).fit.len, HGL.out, h0]
            have : mostN x.g M x.n = [] := List.eq_nil_of_length_eq_zero (by rw [hl, hnn])
            rw [this]
            exact OwnI.nil _ _
          · obtain ⟨rfl, rfl, rfl⟩ := hv.out.1 (by omega)
            exact hK.out.own)
        clear hv hK
        go_wp2
        go_ret2
        exact ⟨Av, nv, cv, by rw [E1.out]; rfl, hfin.out, hB⟩
end Go.Proofs.YtdckoaljcklmhaaGreatDoor


namespace Go.Proofs.YtdckoaljcklmhaaGreatDoor
open Go.RowKit
set_option linter.unusedVariables false

theorem minfo_ints : (Tryz.prog.info? 22).map (fun i => (i.zero, i.size, i.bytes)) = some (some (.slice none 0 0), 1, 24) := by kernel_rfl
theorem ls_put (t : List Ls) (b : Nat) (u : Ls) : Ls.all (t.set b u) = (Ls.all t).set b u.zs := by
  rw [Ls.all, Ls.all, List.map_set]
theorem only_put {g : List (List Int)} {s : List Int} {n j : Nat} (hj : j < n) (h : (j : Int) ∈ s) : (onlyR g s j ++ List.replicate (n - j) []).set j (g.getD j []) = onlyR g s (j + 1) ++ List.replicate (n - (j + 1)) [] := by
  have hl := onlyR_len (g := g) (s := s) j
  rw [List.set_append_right _ _ (by omega), hl, Nat.sub_self, onlyR_succ, if_pos h, show n - j = (n - (j + 1)) + 1 by omega, List.replicate_succ, List.set_cons_zero, List.append_assoc]
  rfl
theorem only_skip {g : List (List Int)} {s : List Int} {n j : Nat} (hj : j < n) (h : (j : Int) ∉ s) : onlyR g s j ++ List.replicate (n - j) [] = onlyR g s (j + 1) ++ List.replicate (n - (j + 1)) [] := by
  rw [onlyR_succ, if_neg h, show n - j = (n - (j + 1)) + 1 by omega, List.replicate_succ, List.append_assoc]
  rfl
set_option maxRecDepth 100000 in
set_option maxHeartbeats 1000000 in
theorem ponly_any (x : Gr) (u : Ls) (w : World) (hx : x.Ok w) (hu : u.Ok w) (h8 : x.n ≤ 8) :
    Calls Tryz.prog 117 #[.slice x.A x.n x.c, .slice u.A u.n u.c] w fun e w' => ∃ (A : Option Addr) (c : Nat) (t : List Ls), e = .returned (.slice A x.n c) ∧ Gr.Ok w' ⟨A, x.n, c, t⟩ ∧ Ls.all t = onlyG x.g u.zs ∧ Below w.heap.size w w' := by
  have HG := Lib.hid hx.glen
  have tx := Nat.le_trans hx.cap hx.top
  have tu := Nat.le_trans hu.cap hu.top
  unfold maxLen at tx
  obtain ⟨i1, hi1', hy0, hy1, hy2⟩ := info_parts minfo_ints
  obtain ⟨uA, un, uc, ul⟩ := u
  have hurd := hu.rd
  simp only at hurd tu ⊢
  go_enter Tryz.func117, Tryz.ntmps117
  go_wp2_with (at_make; go_must (refine wpList_mk _ rfl _ _ 23 rfl w.heap.size 22 i1 _ Tryz.underlying23 hi1' hy0 hy1 rfl .i64 .i64 _ _ x.n rfl rfl rfl rfl ?c2 ?c3 ?c4 ?_))
  case c2 => rw [hy2]; omega
  case c3 => simp only [maxLen]; omega
  case c4 => exact Nat.le_refl _
  intro w2 hown2 hbel2
  go_wp2_with fail
  obtain ⟨g, hg⟩ : ∃ g, g = w.heap.size := ⟨_, rfl⟩
  have hown : Own w2 w.heap.size 22 (some ⟨g, 0, none⟩) x.n x.n ((List.replicate x.n Ls.nil).map Ls.v) := by
    rw [List.map_replicate, hg]
    exact hown2
  have hgg : w.heap.size ≤ g := by omega
  rw [← hg]
  clear hown2 hg
  go_loopw [12] (fun i wr => ∃ (j : Nat) (T : List Ls), j ≤ x.n ∧ i = .int .i64 j ∧ Own wr w.heap.size 22 (some ⟨g, 0, none⟩) x.n x.n (T.map Ls.v) ∧ Hid (∀ v ∈ T, v.Ok w) ∧ Hid (Ls.all T = onlyR x.g ul j ++ List.replicate (x.n - j) []) ∧ Below w.heap.size w wr) (fun i _ => x.n - (intOf i).toNat)
  case atStart =>
    refine ⟨0, List.replicate x.n Ls.nil, Nat.zero_le _, rfl, hown, Lib.hid fun v hv => ?_, Lib.hid ?_, hbel2⟩
    · rw [(List.mem_replicate.1 hv).2]
      exact (OwnI.nil w 0).ok
    · rw [Ls.all, List.map_replicate]; rfl
  case round =>
    obtain ⟨j, T, hj, rfl, own, hT, hall, hB⟩ := hrel
    clear hown hbel2
    by_cases hjn : j < x.n
    · have hjn' : (j : Int) < x.n := by omega
      have hj0 : (0 : Int) ≤ j := by omega
      have hct := gcontains_any uA un uc ul j wr (hurd.below hB) tu
      obtain ⟨β, hβ⟩ : ∃ β, decide ((j : Int) ∈ ul) = β := ⟨_, rfl⟩
      rw [hβ] at hct
      obtain ⟨p, q, y, hA, hgy, hp, hcy, hky⟩ := gr_get (A := x.A) (n := x.n) (c := x.c) (t := x.t) hx rfl hjn
      have hcw := (hB.cell (p := ⟨p, q + j, none⟩) hp).trans hcy
      have hfr := own.free (by omega) j
      obtain ⟨vo, hvo⟩ : ∃ v, wr.cell? ⟨g, j, none⟩ = some v := by
        rw [own.cell hjn]
        exact ⟨_, List.getElem?_eq_getElem (by rw [own.len]; exact hjn)⟩
      have hlt : g < wr.heap.size := by
        obtain ⟨g', hA', _, h3⟩ := own.lt (by omega)
        cases hA'
        exact h3
      cases β
      · have hN := Lib.hid (hall.out.trans (only_skip hjn (of_decide_eq_false hβ)))
        have HO := Lib.hid own
        clear hβ hall own hgy hcy hky hcw hfr hvo hA
        go_wp2_with fail
        refine hct.mono ?_
        rintro e w3 ⟨rfl, rfl⟩
        clear hct
        go_wp2
        go_roundw
        case rel => exact ⟨j + 1, T, by omega, by go_num, HO.out, hT, hN, hB⟩
        case measure => simp [intOf]; omega
      · have hgj : x.g.getD j [] = y.zs := hgy
        have hN : Hid (Ls.all (T.set j y) = onlyR x.g ul (j + 1) ++ List.replicate (x.n - (j + 1)) []) := Lib.hid (by
          rw [ls_put, hall.out, ← hgj]
          exact only_put hjn (of_decide_eq_true hβ))
        have hT2 : Hid (∀ v ∈ T.set j y, v.Ok w) := Lib.hid fun v hv => by
          rcases List.mem_or_eq_of_mem_set hv with h | h
          · exact hT.out v h
          · rw [h]; exact hky
        have HO := Lib.hid (own_put (u := y) own hjn)
        have hB2 := hB.setCell (p := ⟨g, j, none⟩) hgg (.slice y.A y.n y.c)
        unfold Ls.v at HO
        clear hβ hall own hgy hgj hcy hT
        rw [hA]
        go_wp2_with fail
        refine hct.mono ?_
        rintro e w3 ⟨rfl, rfl⟩
        clear hct
        go_wp2
        go_roundw
        case rel => exact ⟨j + 1, T.set j y, by omega, by go_num, HO.out, hT2, hN, hB2⟩
        case measure => simp [intOf]; omega
    · obtain rfl : j = x.n := by omega
      have hfin : Hid (Gr.Ok wr ⟨some ⟨g, 0, none⟩, x.n, x.n, T⟩) := Lib.hid (own_lists own fun v hv => (hT.out v hv).below hB)
      have hal : Hid (Ls.all T = onlyG x.g ul) := Lib.hid (by
        rw [hall.out, Nat.sub_self, List.replicate_zero, List.append_nil, onlyG, HG.out])
      clear own hT hall
      go_wp2
      go_ret
      exact ⟨_, _, T, rfl, hfin.out, hal.out, hB⟩
set_option maxRecDepth 100000 in
set_option maxHeartbeats 1000000 in
theorem pallC : AllC 102 := by
  intro x m u w hx hu hm1 hm2
  have hne := gnearC x m u w hx hu hm1 hm2
  obtain ⟨β, hβ⟩ : ∃ β, nearOk x.g m u.zs = β := ⟨_, rfl⟩
  have HB := Lib.hid hβ
  have HUL := Lib.hid hu.len
  rw [show x.v = .slice x.A x.n x.c from rfl] at hne ⊢
  unfold Ls.v at hne ⊢
  cases β
  · rw [near_err_bad hβ] at hne ⊢
    have hal : Hid (allE x.g m u.zs = false) := Lib.hid (by rw [allE, hβ]; rfl)
    clear hβ
    go_enter Tryz.func102, Tryz.ntmps102
    go_wp2_with fail
    refine hne.mono ?_
    rintro e w1 ⟨A, n, c, rfl, hO, hb1⟩
    clear hne hO
    go_wp2
    go_ret2
    exact ⟨by rw [hal.out]; rfl, hb1⟩
  · have hb0 := hβ
    rw [nearOk, Bool.and_eq_true] at hb0
    have HC := Lib.hid hb0.1
    have HS := Lib.hid (of_decide_eq_true hb0.2 : Rises x.g.length u.zs)
    clear hb0
    obtain ⟨M, rfl⟩ : ∃ M : Nat, m = M := ⟨m.toNat, by have := (checkG_iff.1 HC.out).1; omega⟩
    rw [near_err hβ] at hne ⊢
    have h8 : x.n ≤ 8 := by have := (checkG_iff.1 HC.out).2.2.1; rw [hx.glen] at this; exact this
    obtain ⟨e1, e2⟩ := most_ok (only_check (s := u.zs) HC.out)
    obtain ⟨k, hk⟩ : ∃ k, manyG (mostP (onlyG x.g u.zs) M) = k := ⟨_, rfl⟩
    have hal : Hid (allE x.g M u.zs = decide (k = u.n)) := Lib.hid (by rw [allE, hβ, Bool.true_and, Int.toNat_natCast, only_iff HC.out HS.out, hk, HUL.out])
    have HK := Lib.hid hk
    have E1 := Lib.hid e1
    have E2 := Lib.hid e2
    clear hβ e1 e2 hk
    go_enter Tryz.func102, Tryz.ntmps102
    go_wp2_with fail
    refine hne.mono ?_
    rintro e w1 ⟨A, n, c, rfl, hO, hb1⟩
    have hon := ponly_any x u w1 (hx.below hb1) (hu.below hb1) h8
    clear hne hO
    go_wp2_with fail
    refine hon.mono ?_
    rintro e w2 ⟨A2, c2, t, rfl, hg2, hal2, hb2⟩
    have hmo := pmostC ⟨A2, x.n, c2, t⟩ M w2 hg2 (by omega) (by omega)
    rw [show Gr.v ⟨A2, x.n, c2, t⟩ = .slice A2 x.n c2 from rfl, show Gr.g ⟨A2, x.n, c2, t⟩ = onlyG x.g u.zs from hal2, E1.out, E2.out] at hmo
    have hB2 := hb1.trans (hb2.mono hb1.size)
    clear hon hg2 hal2 hb2
    go_wp2_with fail
    refine hmo.mono ?_
    rintro e w3 ⟨A3, n3, c3, rfl, hO3, hb3⟩
    have hma := gmanyC ⟨A3, n3, c3, mostP (onlyG x.g u.zs) M⟩ w3 hO3.ok
    unfold Ls.v at hma
    simp only at hma
    rw [HK.out] at hma
    have hB3 := hB2.trans (hb3.mono hB2.size)
    clear hmo hO3 hb3
    go_wp2_with fail
    refine hma.mono ?_
    rintro e w4 ⟨rfl, hb4⟩
    have hB4 := hB3.trans (hb4.mono hB3.size)
    clear hma hb4
    obtain ⟨γ, hγ⟩ : ∃ γ, decide (k = u.n) = γ := ⟨_, rfl⟩
    have HG := Lib.hid (hal.out.trans hγ)
    have k1 : ((k : Int) == (u.n : Int)) = γ := by rw [← hγ, Bool.eq_iff_iff, beq_iff_eq, decide_eq_true_eq]; omega
    have k2 : (k == u.n) = γ := by rw [← hγ, Bool.eq_iff_iff, beq_iff_eq, decide_eq_true_eq]
    clear hγ
    go_wp2
    go_ret2
    exact ⟨by rw [HG.out]; rfl, hB4⟩
end Go.Proofs.YtdckoaljcklmhaaGreatDoor



