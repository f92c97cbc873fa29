/-
  Walks of LeftIntLists and LeftMarket: is a twin as it was made, the mark behind it too?
-/
import Derived.Test.YtjjaajmjcdihoaaGreatDoorTwinM
namespace Go.Proofs.YtjjaajmjcdihoaaGreatDoor
open Go.RowKit
set_option linter.unusedVariables false

/-- A twin of a list of ints is left as it was. -/
theorem Twn.left {w : World} {B : Nat} {u : Ls} (h : Twn w B u) (A2 : Option Addr) (c2 : Nat) (hr2 : Rd w A2 u.n (ci64 u.zs)) (hn : u.n ≤ 1000000000) :
    Calls Tryz.prog 11 #[.slice u.A u.n u.c, .slice A2 u.n c2] w fun e w' => e = .returned (.bool true) ∧ Below w.heap.size w w' :=
  leftints_any u.A u.n u.c u.zs A2 c2 w B h.own hr2 hn

set_option maxRecDepth 100000 in
set_option maxHeartbeats 1000000 in
theorem leftintlists_any (A : Option Addr) (n c : Nat) (t : List Ls) (m : Nat) (A2 : Option Addr) (c2 : Nat) (l : List Ls) (w : World) (B : Nat)
    (ho : Own w B 22 A (n + 1) c (t.map Ls.v ++ [.slice (some ⟨m, 0, none⟩) 1 1])) (hm : w.heap[m]? = some (.cells #[.int .i64 77] 3 (0, 0))) (ht : ∀ u ∈ t, Twn w B u)
    (hr : Lss w A2 n l) (hall : Ls.all t = Ls.all l) (hn : n ≤ 1000000) (hn2 : ∀ u ∈ l, u.n ≤ 1000000000) :
    Calls Tryz.prog 26 #[.slice A n c, .slice A2 n c2] w fun e w' => e = .returned (.bool true) ∧ Below w.heap.size w w' := by
  have hlt := ho.len
  rw [List.length_append, List.length_map, List.length_singleton] at hlt
  have hll := hr.len
  have k1 := ho.le
  have k2 := ho.cap
  unfold maxLen at k2
  obtain ⟨g, rfl, hBg, hg⟩ := ho.lt (by omega)
  have k3 : decide (c ≤ n) = false := by simp; omega
  have htl : t.length = n := by omega
  have hlast : w.cell? ⟨g, n, none⟩ = some (.slice (some ⟨m, 0, none⟩) 1 1) := by
    rw [ho.cell (by omega), List.getElem?_append_right (by rw [List.length_map, htl]; exact Nat.le_refl _), List.length_map, htl, Nat.sub_self]
    rfl
  have hmc : w.cell? ⟨m, 0, none⟩ = some (.int .i64 77) := by rw [cell_of_row w m 0 _ _ _ hm]; rfl
  have hml : m < w.heap.size := (Array.getElem?_eq_some_iff.1 hm).1
  have HT := Lib.hid htl
  have HL := Lib.hid hll
  clear hlt hll htl hm
  go_enter Tryz.func26, Tryz.ntmps26
  go_wp2_with fail
  go_loopw [5] (fun i wr => ∃ j : Nat, j ≤ n ∧ i = .int .i64 j ∧ Below w.heap.size w wr) (fun i _ => n - (intOf i).toNat)
  case atStart => exact ⟨0, Nat.zero_le _, rfl, Below.refl _ _⟩
  case round =>
    obtain ⟨j, hj, rfl, hbel⟩ := hrel
    have hlast2 : wr.cell? ⟨g, n, none⟩ = some (.slice (some ⟨m, 0, none⟩) 1 1) := (hbel.cell (p := ⟨g, n, none⟩) hg).trans hlast
    have hmc2 : wr.cell? ⟨m, 0, none⟩ = some (.int .i64 77) := (hbel.cell (p := ⟨m, 0, none⟩) hml).trans hmc
    by_cases hlt : j < n
    · obtain ⟨b2, o2, u2, rfl, hu2, hb2, hc2, hk2⟩ := hr.get hlt
      have hjt : j < t.length := by rw [HT.out]; exact hlt
      have hct : w.cell? ⟨g, j, none⟩ = some t[j].v := by
        rw [ho.cell (by omega), List.getElem?_append_left (by rw [List.length_map]; exact hjt), List.getElem?_map, List.getElem?_eq_getElem hjt]
        rfl
      have hzs : t[j].zs = u2.zs := by
        have h : (Ls.all t)[j]? = (Ls.all l)[j]? := by rw [hall]
        rw [Ls.all, Ls.all, List.getElem?_map, List.getElem?_map, hu2, List.getElem?_eq_getElem hjt] at h
        exact Option.some.inj h
      have htw := (ht _ (List.getElem_mem hjt)).below hbel
      have hun := hn2 u2 (List.mem_of_getElem? hu2)
      generalize t[j] = u at hct hzs htw
      have hnn : u.n = u2.n := by
        have h1 := htw.own.len
        have h2 := hk2.len
        rw [ci64_len, List.length_append, List.length_singleton, hzs] at h1
        omega
      have hrd : Rd wr u2.A u.n (ci64 u.zs) := by
        rw [hzs, hnn]
        exact hk2.rd.below hbel
      have hc1' : wr.cell? ⟨g, j, none⟩ = some (.slice u.A u.n u.c) := (hbel.cell (p := ⟨g, j, none⟩) hg).trans hct
      have hc2' : wr.cell? ⟨b2, o2 + j, none⟩ = some (.slice u2.A u.n u2.c) := by
        rw [hbel.cell (p := ⟨b2, o2 + j, none⟩) hb2, hc2, hnn]
        rfl
      have hun' : u.n ≤ 1000000000 := by omega
      clear hct hc2 hzs hk2 hu2 hjt hnn hun
      go_wp2_with fail
      refine wp_region_ord (S := fun w' => w'.cell? ⟨g, j, none⟩ = some (.slice u.A u.n u.c) ∧ w'.cell? ⟨b2, o2 + j, none⟩ = some (.slice u2.A u.n u2.c)) [(0, true), (1, true), (2, true), (3, true), (4, true), (5, true), (6, true), (7, true), (8, false), (9, true)] default (by kernel_rfl) (by kernel_rfl) (by kernel_rfl) ⟨hc1', hc2'⟩ ?_
      simp only [getOrd, nth]
      repeat (first | (refine ordS (by rfl) ?_; simp only [Act.put, List.setIfInBounds_toArray, List.set_cons_zero, List.set_cons_succ]) | (refine ordN (by rfl) ?_; simp only [Act.put, List.setIfInBounds_toArray, List.set_cons_zero, List.set_cons_succ]) | (refine ordQ (v := ?_) (by rfl) (fun _ hSw => ?_) ?_; rotate_left; (focus ((have hS1 := hSw.1); (have hS2 := hSw.2); clear hSw; go_simp; (first | done | with_reducible rfl))); simp only [Act.put, List.setIfInBounds_toArray, List.set_cons_zero, List.set_cons_succ]))
      refine ordD (by rfl) ?_
      intro K hK
      go_simp
      refine ((htw.below ((Below.refl _ wr).drew)).left u2.A u2.c (hrd.below ((Below.refl _ wr).drew)) hun').mono ?_
      rintro e wm ⟨rfl, hbm⟩
      have hbm2 : Below wr.heap.size wr wm := ((Below.refl _ wr).drew).trans hbm
      have hg2 := Nat.lt_of_lt_of_le hg hbel.size
      have hb22 := Nat.lt_of_lt_of_le hb2 hbel.size
      have m1 := (hbm2.cell (p := ⟨g, j, none⟩) hg2).trans hc1'
      have m2 := (hbm2.cell (p := ⟨b2, o2 + j, none⟩) hb22).trans hc2'
      have hB := hbel.trans (hbm2.mono hbel.size)
      go_wp2_with fail
      refine hK _ _ ⟨m1, m2⟩ ?_
      clear hK K
      try simp only [Act.put, List.setIfInBounds_toArray, List.set_cons_zero, List.set_cons_succ]
      repeat (first | (refine ordS (by rfl) ?_; simp only [Act.put, List.setIfInBounds_toArray, List.set_cons_zero, List.set_cons_succ]) | (refine ordN (by rfl) ?_; simp only [Act.put, List.setIfInBounds_toArray, List.set_cons_zero, List.set_cons_succ]) | (refine ordQ (v := ?_) (by rfl) (fun _ hSw => ?_) ?_; rotate_left; (focus ((have hS1 := hSw.1); (have hS2 := hSw.2); clear hSw; go_simp; (first | done | with_reducible rfl))); simp only [Act.put, List.setIfInBounds_toArray, List.set_cons_zero, List.set_cons_succ]))
      refine ordE ?_
      clear m1 m2 hbm hbm2 hrd htw
      go_wp2
      go_roundw
      case rel => exact ⟨j + 1, by omega, by go_num, hB⟩
      case measure => simp [intOf]; omega
    · obtain rfl : j = n := by omega
      go_wp2
      go_ret
      exact ⟨rfl, hbel⟩

set_option maxRecDepth 100000 in
set_option maxHeartbeats 1000000 in
/-- A twin of a market is left as it was. -/
theorem leftmarket_any (y x : Mk) (w : World) (B : Nat) (h : TwnM w B y) (hx : x.Ok w) (hr : y.r.zs = x.r.zs) (hb : Ls.all y.b = Ls.all x.b) (ho : y.o.zs = x.o.zs) (hn : y.n = x.n) (h1 : x.n ≤ 1000000) (h2 : x.r.n ≤ 1000000000) (h3 : x.o.n ≤ 1000000000) (h4 : ∀ u ∈ x.b, u.n ≤ 1000000000) :
    Calls Tryz.prog 10 #[y.v, x.v] w fun e w' => e = .returned (.bool true) ∧ Below w.heap.size w w' := by
  have nr : y.r.n = x.r.n := by rw [← h.r.ok.len, ← hx.r.len, hr]
  have no : y.o.n = x.o.n := by rw [← h.o.ok.len, ← hx.o.len, ho]
  have rr : Rd w x.r.A y.r.n (ci64 y.r.zs) := by rw [hr, nr]; exact hx.r.rd
  have ro : Rd w x.o.A y.o.n (ci64 y.o.zs) := by rw [ho, no]; exact hx.o.rd
  have HN := Lib.hid hn
  have NR := Lib.hid nr
  have NO := Lib.hid no
  have q1 : y.r.n ≤ 1000000000 := by omega
  have q2 : y.n ≤ 1000000 := by omega
  have q3 : y.o.n ≤ 1000000000 := by omega
  have hl : Lss w x.A y.n x.b := by rw [hn]; exact hx.lss
  clear hn nr no hr ho h1 h2 h3
  unfold Mk.v Ls.v
  go_enter Tryz.func10, Tryz.ntmps10
  have hb0 : ∀ (o1 o2 : Obj), Below w.heap.size w ((w.alloc o1).alloc o2) := fun o1 o2 => ((Below.refl _ w).alloc (Nat.le_refl _) o1).alloc (by show _ ≤ (w.heap.push o1).size; rw [Array.size_push]; omega) o2
  have L : ∀ W, (w.alloc (Obj.cells #[Value.slice y.r.A y.r.n y.r.c, Value.slice y.A y.n y.c, Value.slice y.o.A y.o.n y.o.c] 25)).alloc (Obj.cells #[Value.slice x.r.A x.r.n x.r.c, Value.slice x.A x.n x.c, Value.slice x.o.A x.o.n x.o.c] 25) = W → (W.cell? ⟨w.heap.size, 0, none⟩ = some (.slice y.r.A y.r.n y.r.c) ∧ W.cell? ⟨w.heap.size, 1, none⟩ = some (.slice y.A y.n y.c) ∧ W.cell? ⟨w.heap.size, 2, none⟩ = some (.slice y.o.A y.o.n y.o.c)) ∧ (W.cell? ⟨w.heap.size + 1, 0, none⟩ = some (.slice x.r.A x.r.n x.r.c) ∧ W.cell? ⟨w.heap.size + 1, 1, none⟩ = some (.slice x.A x.n x.c) ∧ W.cell? ⟨w.heap.size + 1, 2, none⟩ = some (.slice x.o.A x.o.n x.o.c)) := by
    rintro _ rfl
    exact ⟨⟨by go_simp, by go_simp, by go_simp⟩, ⟨by go_simp, by go_simp, by go_simp⟩⟩
  go_wp2_with fail
  obtain ⟨W, hW⟩ : ∃ W, (w.alloc (Obj.cells #[Value.slice y.r.A y.r.n y.r.c, Value.slice y.A y.n y.c, Value.slice y.o.A y.o.n y.o.c] 25)).alloc (Obj.cells #[Value.slice x.r.A x.r.n x.r.c, Value.slice x.A x.n x.c, Value.slice x.o.A x.o.n x.o.c] 25) = W := ⟨_, rfl⟩
  have hWb : Below w.heap.size w W := hW ▸ hb0 _ _
  have hWs : W.heap.size = w.heap.size + 2 := by
    rw [← hW]
    show ((w.heap.push _).push _).size = _
    rw [Array.size_push, Array.size_push]
  obtain ⟨⟨l0, l1, l2⟩, l3, l4, l5⟩ := L W hW
  rw [hW]
  clear L hb0 hW
  have e1 : Value.slice x.r.A x.r.n x.r.c = Value.slice x.r.A y.r.n x.r.c := by rw [NR.out]
  have e2 : Value.slice x.A x.n x.c = Value.slice x.A y.n x.c := by rw [HN.out]
  have e3 : Value.slice x.o.A x.o.n x.o.c = Value.slice x.o.A y.o.n x.o.c := by rw [NO.out]
  rw [e1] at l3
  rw [e2] at l4
  rw [e3] at l5
  obtain ⟨m, hm1, hm2⟩ := h.b
  rw [e1]
  refine ((h.r.below hWb).left x.r.A x.r.c (rr.below hWb) q1).mono ?_
  rintro e w2 ⟨rfl, b2⟩
  have hk : ∀ w', Below W.heap.size W w' → w'.cell? ⟨w.heap.size, 1, none⟩ = some (.slice y.A y.n y.c) ∧ w'.cell? ⟨w.heap.size, 2, none⟩ = some (.slice y.o.A y.o.n y.o.c) ∧ w'.cell? ⟨w.heap.size + 1, 1, none⟩ = some (.slice x.A y.n x.c) ∧ w'.cell? ⟨w.heap.size + 1, 2, none⟩ = some (.slice x.o.A y.o.n x.o.c) := by
    intro w' hB
    exact ⟨(World.cell?_of_block (hB.block w.heap.size (by omega))).trans l1, (World.cell?_of_block (hB.block w.heap.size (by omega))).trans l2, (World.cell?_of_block (hB.block (w.heap.size + 1) (by omega))).trans l4, (World.cell?_of_block (hB.block (w.heap.size + 1) (by omega))).trans l5⟩
  obtain ⟨a1, a2, a4, a5⟩ := hk w2 b2
  have hB2 : Below w.heap.size w w2 := hWb.trans (b2.mono (by omega))
  go_wp2_with fail
  refine (leftintlists_any y.A y.n y.c y.b m x.A x.c x.b w2 B (hm1.below hB2) (by rw [hB2.block m (Array.getElem?_eq_some_iff.1 hm2).1]; exact hm2) (fun u hu => (h.bs u hu).below hB2) ⟨by have := (hx.below hB2).b; rw [HN.out]; exact this, (hx.below hB2).bs⟩ hb q2 h4).mono ?_
  rintro e w3 ⟨rfl, b3⟩
  have b3' : Below W.heap.size W w3 := b2.trans (b3.mono b2.size)
  obtain ⟨c1, c2, c4, c5⟩ := hk w3 b3'
  have hB3 : Below w.heap.size w w3 := hWb.trans (b3'.mono (by omega))
  go_wp2_with fail
  refine ((h.o.below hB3).left x.o.A x.o.c (ro.below hB3) q3).mono ?_
  rintro e w4 ⟨rfl, b4⟩
  have hB4 : Below w.heap.size w w4 := hB3.trans (b4.mono hB3.size)
  go_wp2
  go_ret
  exact ⟨rfl, hB4⟩
end Go.Proofs.YtjjaajmjcdihoaaGreatDoor
