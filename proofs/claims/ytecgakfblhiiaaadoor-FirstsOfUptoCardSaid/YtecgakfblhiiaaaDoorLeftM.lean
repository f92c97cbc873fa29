/-
  Walks of LeftIntLists and LeftMarket: is a twin as it was made, the mark behind it too?
-/
import Derived.Test.YtecgakfblhiiaaaDoorTwinM
namespace Go.Proofs.YtecgakfblhiiaaaDoor
open Go.RowKit
set_option linter.unusedVariables false

/-- A twin of a list of ints is left as it was. -/
theorem Twn.left {w : World} {B : Nat} {u : Ls} (h : Twn w B u) (A2 : Option Addr) (c2 : Nat) (hr2 : Rd w A2 u.n (ci64 u.zs)) (hn : u.n ≤ 1000000000) :
    Calls Tryd.prog 11 #[.slice u.A u.n u.c, .slice A2 u.n c2] w fun e w' => e = .returned (.bool true) ∧ Below w.heap.size w w' :=
  leftints_any u.A u.n u.c u.zs A2 c2 w B h.own hr2 hn

set_option maxRecDepth 100000 in
set_option maxHeartbeats 1000000 in
theorem leftintlists_any (A : Option Addr) (n c : Nat) (t : List Ls) (m : Nat) (A2 : Option Addr) (c2 : Nat) (l : List Ls) (w : World) (B : Nat)
    (ho : Own w B 25 A (n + 1) c (t.map Ls.v ++ [.slice (some ⟨m, 0, none⟩) 1 1])) (hm : w.heap[m]? = some (.cells #[.int .i64 77] 3 (0, 0))) (ht : ∀ u ∈ t, Twn w B u)
    (hr : Lss w A2 n l) (hall : Ls.all t = Ls.all l) (hn : n ≤ 1000000) (hn2 : ∀ u ∈ l, u.n ≤ 1000000000) :
    Calls Tryd.prog 10 #[.slice A n c, .slice A2 n c2] w fun e w' => e = .returned (.bool true) ∧ Below w.heap.size w w' := by
  have hlt := ho.len
  rw [List.length_append, List.length_map, List.length_singleton] at hlt
  have hll := hr.len
  have k1 := ho.le
  have k2 := ho.cap
  unfold maxLen at k2
  obtain ⟨g, rfl, hBg, hg⟩ := ho.lt (by omega)
  have k3 : decide (c ≤ n) = false := by simp; omega
  have htl : t.length = n := by omega
  have hlast : w.cell? ⟨g, n, none⟩ = some (.slice (some ⟨m, 0, none⟩) 1 1) := by
    rw [ho.cell (by omega), List.getElem?_append_right (by rw [List.length_map, htl]; exact Nat.le_refl _), List.length_map, htl, Nat.sub_self]
    rfl
  have hmc : w.cell? ⟨m, 0, none⟩ = some (.int .i64 77) := by rw [cell_of_row w m 0 _ _ _ hm]; rfl
  have hml : m < w.heap.size := (Array.getElem?_eq_some_iff.1 hm).1
  have HT := Lib.hid htl
  have HL := Lib.hid hll
  clear hlt hll htl hm
  go_enter Tryd.func10, Tryd.ntmps10
  go_wp2_with fail
  go_loopw [5] (fun i wr => ∃ j : Nat, j ≤ n ∧ i = .int .i64 j ∧ Below w.heap.size w wr) (fun i _ => n - (intOf i).toNat)
  case atStart => exact ⟨0, Nat.zero_le _, rfl, Below.refl _ _⟩
  case round =>
    obtain ⟨j, hj, rfl, hbel⟩ := hrel
    have hlast2 : wr.cell? ⟨g, n, none⟩ = some (.slice (some ⟨m, 0, none⟩) 1 1) := (hbel.cell (p := ⟨g, n, none⟩) hg).trans hlast
    have hmc2 : wr.cell? ⟨m, 0, none⟩ = some (.int .i64 77) := (hbel.cell (p := ⟨m, 0, none⟩) hml).trans hmc
    by_cases hlt : j < n
    · obtain ⟨b2, o2, u2, rfl, hu2, hb2, hc2, hk2⟩ := hr.get hlt
      have hjt : j < t.length := by rw [HT.out]; exact hlt
      have hct : w.cell? ⟨g, j, none⟩ = some t[j].v := by
        rw [ho.cell (by omega), List.getElem?_append_left (by rw [List.length_map]; exact hjt), List.getElem?_map, List.getElem?_eq_getElem hjt]
        rfl
      have hzs : t[j].zs = u2.zs := by
        have h : (Ls.all t)[j]? = (Ls.all l)[j]? := by rw [hall]
        rw [Ls.all, Ls.all, List.getElem?_map, List.getElem?_map, hu2, List.getElem?_eq_getElem hjt] at h
        exact Option.some.inj h
      have htw := (ht _ (List.getElem_mem hjt)).below hbel
      have hun := hn2 u2 (List.mem_of_getElem? hu2)
      generalize t[j] = u at hct hzs htw
      have hnn : u.n = u2.n := by
        have h1 := htw.own.len
        have h2 := hk2.len
        rw [ci64_len, List.length_append, List.length_singleton, hzs] at h1
        omega
      have hrd : Rd wr u2.A u.n (ci64 u.zs) := by
        rw [hzs, hnn]
        exact hk2.rd.below hbel
      have hc1' : wr.cell? ⟨g, j, none⟩ = some (.slice u.A u.n u.c) := (hbel.cell (p := ⟨g, j, none⟩) hg).trans hct
      have hc2' : wr.cell? ⟨b2, o2 + j, none⟩ = some (.slice u2.A u.n u2.c) := by
        rw [hbel.cell (p := ⟨b2, o2 + j, none⟩) hb2, hc2, hnn]
        rfl
      have hun' : u.n ≤ 1000000000 := by omega
      clear hct hc2 hzs hk2 hu2 hjt hnn hun
      go_wp2_with fail
      refine wp_region_ord (S := fun w' => w'.cell? ⟨g, j, none⟩ = some (.slice u.A u.n u.c) ∧ w'.cell? ⟨b2, o2 + j, none⟩ = some (.slice u2.A u.n u2.c)) [(0, true), (1, true), (2, true), (3, true), (4, true), (5, true), (6, true), (7, true), (8, false), (9, true)] default (by kernel_rfl) (by kernel_rfl) (by kernel_rfl) ⟨hc1', hc2'⟩ ?_
      simp only [getOrd, nth]
      repeat (first | (refine ordS (by rfl) ?_; simp only [Act.put, List.setIfInBounds_toArray, List.set_cons_zero, List.set_cons_succ]) | (refine ordN (by rfl) ?_; simp only [Act.put, List.setIfInBounds_toArray, List.set_cons_zero, List.set_cons_succ]) | (refine ordQ (v := ?_) (by rfl) (fun _ hSw => ?_) ?_; rotate_left; (focus ((have hS1 := hSw.1); (have hS2 := hSw.2); clear hSw; go_simp; (first | done | with_reducible rfl))); simp only [Act.put, List.setIfInBounds_toArray, List.set_cons_zero, List.set_cons_succ]))
      refine ordD (by rfl) ?_
      intro K hK
      go_simp
      refine ((htw.below ((Below.refl _ wr).drew)).left u2.A u2.c (hrd.below ((Below.refl _ wr).drew)) hun').mono ?_
      rintro e wm ⟨rfl, hbm⟩
      have hbm2 : Below wr.heap.size wr wm := ((Below.refl _ wr).drew).trans hbm
      have hg2 := Nat.lt_of_lt_of_le hg hbel.size
      have hb22 := Nat.lt_of_lt_of_le hb2 hbel.size
      have m1 := (hbm2.cell (p := ⟨g, j, none⟩) hg2).trans hc1'
      have m2 := (hbm2.cell (p := ⟨b2, o2 + j, none⟩) hb22).trans hc2'
      have hB := hbel.trans (hbm2.mono hbel.size)
      go_wp2_with fail
      refine hK _ _ ⟨m1, m2⟩ ?_
      clear hK K
      try simp only [Act.put, List.setIfInBounds_toArray, List.set_cons_zero, List.set_cons_succ]
      repeat (first | (refine ordS (by rfl) ?_; simp only [Act.put, List.setIfInBounds_toArray, List.set_cons_zero, List.set_cons_succ]) | (refine ordN (by rfl) ?_; simp only [Act.put, List.setIfInBounds_toArray, List.set_cons_zero, List.set_cons_succ]) | (refine ordQ (v := ?_) (by rfl) (fun _ hSw => ?_) ?_; rotate_left; (focus ((have hS1 := hSw.1); (have hS2 := hSw.2); clear hSw; go_simp; (first | done | with_reducible rfl))); simp only [Act.put, List.setIfInBounds_toArray, List.set_cons_zero, List.set_cons_succ]))
      refine ordE ?_
      clear m1 m2 hbm hbm2 hrd htw
      go_wp2
      go_roundw
      case rel => exact ⟨j + 1, by omega, by go_num, hB⟩
      case measure => simp [intOf]; omega
    · obtain rfl : j = n := by omega
      go_wp2
      go_ret
      exact ⟨rfl, hbel⟩

end Go.Proofs.YtecgakfblhiiaaaDoor
