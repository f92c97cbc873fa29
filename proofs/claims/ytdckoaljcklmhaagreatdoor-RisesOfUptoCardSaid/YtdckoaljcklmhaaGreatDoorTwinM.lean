/-
  Walks of TwinIntLists and TwinMarket: a copy of lists of ints in memory of its own, with a mark in the room behind each.
-/
import Derived.Test.YtdckoaljcklmhaaGreatDoorTwinI
import Derived.Test.YtdckoaljcklmhaaGreatDoorSameM
import Derived.Test.YtdckoaljcklmhaaGreatDoorReg2
namespace Go.Proofs.YtdckoaljcklmhaaGreatDoor
open Go.RowKit
set_option linter.unusedVariables false

theorem twin_info_ints : (Tryz.prog.info? 22).map (fun i => (i.zero, i.size, i.bytes)) = some (some (.slice none 0 0), 1, 24) := by kernel_rfl

/-- A twin of a list: the call's own, a mark behind it. -/
structure Twn (w : World) (B : Nat) (u : Ls) : Prop where
  own : Own w B 3 u.A (u.n + 1) u.c (ci64 (u.zs ++ [77]))
  fit : ∀ z ∈ u.zs, -9223372036854775808 ≤ z ∧ z ≤ 9223372036854775807
theorem Twn.keep {w w' : World} {B : Nat} {u : Ls} (h : Twn w B u) (hk : ∀ g, u.A = some ⟨g, 0, none⟩ → g < w.heap.size → w'.heap[g]? = w.heap[g]?) : Twn w' B u :=
  ⟨h.own.keep fun g hA _ _ hlt => hk g hA hlt, h.fit⟩
theorem Twn.below {w w' : World} {B : Nat} {u : Ls} (h : Twn w B u) (hb : Below w.heap.size w w') : Twn w' B u := h.keep fun g _ hlt => hb.block g hlt
theorem Twn.ok {w : World} {B : Nat} {u : Ls} (h : Twn w B u) : u.Ok w := by
  have h1 := h.own.rd
  have h2 := h.own.len
  rw [ci64_len, List.length_append, List.length_singleton] at h2
  refine ⟨?_, by have := h.own.le; omega, h.own.cap, h.fit⟩
  have h3 := h1.take (hi := u.n) (by omega)
  rw [ci64_take, List.take_append_of_le_length (by omega), List.take_of_length_le (by omega)] at h3
  exact h3

theorem Twn.blk {w : World} {B : Nat} {u : Ls} (h : Twn w B u) {g : Nat} (hg : Blk u g) : B ≤ g ∧ g < w.heap.size := h.own.blk hg.1 hg.2
theorem own_apart {w : World} {B : Nat} {e e' : TypeId} {A : Option Addr} {n c : Nat} {xs : List Value} (h : Own w B e A n c xs) {g : Nat} {cur : Array Value} (hg : w.heap[g]? = some (.cells cur e' (0, 0))) (hne : e ≠ e') : (n = 0 ∧ c = 0) ∨ A ≠ some ⟨g, 0, none⟩ := by
  rcases h.2 with h0 | ⟨g', cur', hA, _, hh, _⟩
  · exact .inl h0
  · refine .inr fun he => ?_
    rw [hA] at he
    cases he
    rw [hh] at hg
    injection hg with hg
    injection hg with _ h2
    exact hne h2
/-- What is appended to the list of lists leaves each of these as it was. -/
theorem Twn.app {w w' : World} {B B' : Nat} {u : Ls} {A : Option Addr} {n c : Nat} {xs : List Value} (h : Twn w B u) (ho : Own w B' 22 A n c xs) (hf : ∀ k, k < w.heap.size → ((n = 0 ∧ c = 0) ∨ A ≠ some ⟨k, 0, none⟩) → w'.heap[k]? = w.heap[k]?) : Twn w' B u := by
  refine ⟨?_, h.fit⟩
  obtain ⟨h1, h2⟩ := h.own
  rcases h2 with h0 | ⟨g, cur, hA, hg, hh, r⟩
  · omega
  · exact ⟨h1, .inr ⟨g, cur, hA, hg, by rw [hf g (Array.getElem?_eq_some_iff.1 hh).1 (own_apart ho hh (by decide))]; exact hh, r⟩⟩

set_option maxRecDepth 100000 in
set_option maxHeartbeats 1000000 in
theorem twinintlists_any (A : Option Addr) (n c : Nat) (l : List Ls) (w : World) (hr : Lss w A n l) (hn : n ≤ 1000000) (hn2 : ∀ u ∈ l, u.n ≤ 1000000000) :
    Calls Tryz.prog 21 #[.slice A n c] w fun e w' => ∃ A' c' t m, e = .returned (.slice A' n c') ∧ Own w' w.heap.size 22 A' (n + 1) c' (t.map Ls.v ++ [.slice (some ⟨m, 0, none⟩) 1 1]) ∧ w.heap.size ≤ m ∧ w'.heap[m]? = some (.cells #[.int .i64 77] 3 (0, 0)) ∧ (∀ u ∈ t, Twn w' w.heap.size u) ∧ Ls.all t = Ls.all l ∧ AptL t ∧ Below w.heap.size w w' := by
  obtain ⟨i0, hi0, hz0, hz1, hz2⟩ := info_parts twin_info_ints
  have hl := hr.len
  have HL := Lib.hid hl
  clear hl
  go_enter Tryz.func21, Tryz.ntmps21
  go_wp2_with (at_make; go_must (refine wpList_mk0 _ rfl _ _ 23 rfl w.heap.size 22 i0 _ Tryz.underlying23 hi0 hz0 hz1 .i64 .i64 _ (n + 1) rfl rfl ?c1 ?c2 ?c3 ?c4 ?_))
  case c1 => omega
  case c2 => rw [hz2]; omega
  case c3 => simp only [maxLen]; omega
  case c4 => exact Nat.le_refl _
  intro w1 hown1 hbel1
  go_wp2_with fail
  go_loopw [3, 4] (fun v i wr => ∃ (j : Nat) (A' : Option Addr) (c' : Nat) (t : List Ls), j ≤ n ∧ i = .int .i64 j ∧ v = .slice A' j c' ∧ Own wr w.heap.size 22 A' j c' (t.map Ls.v) ∧ (∀ u ∈ t, Twn wr w.heap.size u) ∧ Ls.all t = (Ls.all l).take j ∧ Hid (AptL t) ∧ Below w.heap.size w wr) (fun _ i _ => n - (intOf i).toNat)
  case atStart => exact ⟨0, _, _, [], Nat.zero_le _, rfl, rfl, hown1, by simp, rfl, Lib.hid List.Pairwise.nil, hbel1⟩
  case round =>
    obtain ⟨j, A', c', t, hj, rfl, rfl, hown, htw, hall, hapt, hbel⟩ := hrel
    have HA := Lib.hid hall
    clear hall
    by_cases hlt : j < n
    · obtain ⟨b0, o0, u, rfl, hu, hb0, hcell, hok⟩ := hr.get hlt
      have hun := hn2 u (List.mem_of_getElem? hu)
      unfold Ls.v at hcell
      have hcell' : wr.cell? ⟨b0, o0 + j, none⟩ = some (.slice u.A u.n u.c) := by rw [hbel.cell (p := ⟨b0, o0 + j, none⟩) hb0, hcell]
      go_wp2_with fail
      refine (twinints_any _ _ _ u.zs wr (hok.rd.below hbel) hun).mono ?_
      rintro e w2 ⟨A2, c2, rfl, hin, hb2⟩
      have hown2 := hown.below hb2
      have htw2 : ∀ u ∈ t, Twn w2 w.heap.size u := fun u hu => (htw u hu).below hb2
      have hnew : Twn w2 w.heap.size ⟨A2, u.n, c2, u.zs⟩ := ⟨hin.mono hbel.size, hok.fit⟩
      have hbel2 := hbel.trans (hb2.mono hbel.size)
      have hapt2 := Lib.hid (aptL_snoc (u := ⟨A2, u.n, c2, u.zs⟩) (s := wr.heap.size) hapt.out (fun x hx g hg => ((htw x hx).blk hg).2) (fun g hg => (hin.blk hg.1 hg.2).1))
      clear hown htw hb2 hin hapt
      go_wp2_with (at_builtin; go_must (refine wpList_app1 w2 rfl _ _ 23 rfl 22 i0 _ 24 Tryz.underlying23 hi0 hz0 hz1 hz2 rfl w.heap.size A' j c' _ rfl hown2 1 rfl rfl ?c3 ?c4 ?c5 ?_))
      case c3 => simp only [maxLen]; omega
      case c4 => omega
      case c5 => exact hbel2.size
      intro A3 c3 w3 hown3 hbel3 hfr3 hat3
      have htw3 : ∀ x ∈ t ++ [(⟨A2, u.n, c2, u.zs⟩ : Ls)], Twn w3 w.heap.size x := by
        intro x hx
        rcases List.mem_append.1 hx with hx | hx
        · exact (htw2 x hx).app hown2 hfr3
        · rw [List.mem_singleton.1 hx]
          exact hnew.app hown2 hfr3
      have hown4 : Own w3 w.heap.size 22 A3 (j + 1) c3 ((t ++ [(⟨A2, u.n, c2, u.zs⟩ : Ls)]).map Ls.v) := by
        rw [List.map_append]
        exact hown3
      have hall2 : Ls.all (t ++ [(⟨A2, u.n, c2, u.zs⟩ : Ls)]) = (Ls.all l).take (j + 1) := by
        have hjl : j < (Ls.all l).length := by rw [Ls.all, List.length_map, HL.out]; exact hlt
        rw [List.take_succ_eq_append_getElem hjl, ← HA.out]
        have h : (Ls.all l)[j]? = some u.zs := by rw [Ls.all, List.getElem?_map, hu]; rfl
        rw [List.getElem?_eq_getElem hjl] at h
        rw [Option.some.inj h]
        simp [Ls.all]
      have hbel4 := hbel2.trans (hbel3.mono (Nat.le_refl _))
      have H4 := Lib.hid hall2
      clear hown3 hbel3 hfr3 hat3 hown2 htw2 hnew hbel2 hall2
      go_wp2
      go_roundw
      case rel => exact ⟨j + 1, A3, c3, _, by omega, by go_num, rfl, hown4, htw3, H4.out, hapt2, hbel4⟩
      case measure => simp [intOf]; omega
    · obtain rfl : j = n := by omega
      have e1 : (Ls.all l).take j = Ls.all l := List.take_of_length_le (by rw [Ls.all, List.length_map, HL.out]; exact Nat.le_refl _)
      have HB := Lib.hid (HA.out.trans e1)
      clear e1
      have hownA := hown.alloc (.cells #[.int .i64 77] 3)
      have hbelA := hbel.trans ((Below.refl _ wr).alloc (Nat.le_refl _) (.cells #[.int .i64 77] 3) |>.mono hbel.size)
      have htwA : ∀ u ∈ t, Twn (wr.alloc (.cells #[.int .i64 77] 3)) w.heap.size u := fun u hu => (htw u hu).below ((Below.refl _ wr).alloc (Nat.le_refl _) _)
      go_wp2_with (at_builtin; go_must (refine wpList_app1 (wr.alloc (.cells #[.int .i64 77] 3)) rfl _ _ 23 rfl 22 i0 _ 24 Tryz.underlying23 hi0 hz0 hz1 hz2 rfl w.heap.size A' j c' _ rfl hownA 1 (by show _ = Value.slice (some ⟨(wr.heap.push _).size, 0, none⟩) 1 1; rw [Array.size_push]; rfl) rfl ?c3 ?c4 ?c5 ?_))
      case c3 => simp only [maxLen]; omega
      case c4 => omega
      case c5 => exact hbelA.size
      intro A3 c3 w3 hown3 hbel3 hfr3 hat3
      have htw3 : ∀ x ∈ t, Twn w3 w.heap.size x := fun x hx => (htwA x hx).app hownA fun k hk hh => hfr3 k (by have h : k < (wr.heap.push (.cells #[.int .i64 77] 3)).size := hk; rw [Array.size_push] at h; exact h) hh
      have hbel4 := hbelA.trans (hbel3.mono (Nat.le_refl _))
      have k1 := hown3.le
      have k2 := hown3.cap
      unfold maxLen at k2
      have hmk3 : w3.heap[wr.heap.size]? = some (.cells #[.int .i64 77] 3 (0, 0)) := by
        have h0 : (wr.alloc (.cells #[.int .i64 77] 3)).heap[wr.heap.size]? = some (.cells #[.int .i64 77] 3 (0, 0)) := heap_alloc_new wr _
        exact (hfr3 wr.heap.size (by first | omega | (show _ < (wr.heap.push _).size; rw [Array.size_push]; omega)) (own_apart hownA h0 (by decide))).trans h0
      clear hbel3 hfr3 hat3 hownA htwA hbelA hown htw
      go_wp2
      go_ret
      exact ⟨A3, c3, t, _, rfl, hown3, hbel.size, hmk3, htw3, HB.out, hapt.out, hbel4⟩

/-- A twin of a market. -/
structure TwnM (w : World) (B : Nat) (y : Mk) : Prop where
  r : Twn w B y.r
  o : Twn w B y.o
  b : ∃ m, Own w B 22 y.A (y.n + 1) y.c (y.b.map Ls.v ++ [.slice (some ⟨m, 0, none⟩) 1 1]) ∧ w.heap[m]? = some (.cells #[.int .i64 77] 3 (0, 0))
  bs : ∀ u ∈ y.b, Twn w B u
  apt : AptL (y.r :: (y.b ++ [y.o]))
theorem TwnM.below {w w' : World} {B : Nat} {y : Mk} (h : TwnM w B y) (hb : Below w.heap.size w w') : TwnM w' B y :=
  ⟨h.r.below hb, h.o.below hb, h.b.elim fun m hm => ⟨m, hm.1.below hb, by rw [hb.block m (Array.getElem?_eq_some_iff.1 hm.2).1]; exact hm.2⟩, fun u hu => (h.bs u hu).below hb, h.apt⟩
theorem TwnM.ok {w : World} {B : Nat} {y : Mk} (h : TwnM w B y) : y.Ok w := by
  obtain ⟨m, hm, _⟩ := h.b
  have h2 := hm.len
  rw [List.length_append, List.length_map, List.length_singleton] at h2
  have hc := hm.le
  have hl : y.b.length = y.n := by omega
  obtain ⟨g, hA, hB, hg⟩ := hm.lt (by omega)
  refine ⟨h.r.ok, h.o.ok, ⟨by rw [List.length_map]; exact hl, fun hn => ⟨g, 0, hA, fun j r hj i hi => ?_⟩⟩, fun u hu => (h.bs u hu).ok, by omega, hm.cap, fun _ => ⟨g, 0, hA, hg⟩⟩
  obtain rfl : i = 0 := by omega
  rw [List.getElem?_map] at hj
  obtain ⟨u, hu, rfl⟩ := Option.map_eq_some_iff.1 hj
  have hjl := (List.getElem?_eq_some_iff.1 hu).1
  rw [hA] at hm
  have h3 := hm.cell (j := j) (by omega)
  rw [List.getElem?_append_left (by rw [List.length_map]; exact hjl), List.getElem?_map, hu] at h3
  rw [Nat.mul_one, Nat.zero_add, Nat.add_zero, h3]
  rfl

set_option maxRecDepth 100000 in
set_option maxHeartbeats 1000000 in
theorem twinmarket_any (x : Mk) (w : World) (h : x.Ok w) (hn : x.n ≤ 1000000) (hr : x.r.n ≤ 1000000000) (ho : x.o.n ≤ 1000000000) (hb : ∀ u ∈ x.b, u.n ≤ 1000000000) :
    Calls Tryz.prog 6 #[x.v] w fun e w' => ∃ y : Mk, e = .returned y.v ∧ TwnM w' w.heap.size y ∧ y.r.zs = x.r.zs ∧ Ls.all y.b = Ls.all x.b ∧ y.o.zs = x.o.zs ∧ y.n = x.n ∧ Below w.heap.size w w' := by
  unfold Mk.v Ls.v
  go_enter Tryz.func6, Tryz.ntmps6
  go_wp2_with fail
  have hb0 : ∀ (o1 o2 : Obj), Below w.heap.size w ((w.alloc o1).alloc o2) := fun o1 o2 => ((Below.refl _ w).alloc (Nat.le_refl _) o1).alloc (by show _ ≤ (w.heap.push o1).size; rw [Array.size_push]; omega) o2
  have L : ∀ W, (w.alloc (Obj.cells #[Value.slice x.r.A x.r.n x.r.c, Value.slice x.A x.n x.c, Value.slice x.o.A x.o.n x.o.c] 25)).alloc (Obj.cells #[Value.slice none 0 0, Value.slice none 0 0, Value.slice none 0 0] 25) = W → W.cell? ⟨w.heap.size, 0, none⟩ = some (.slice x.r.A x.r.n x.r.c) ∧ W.cell? ⟨w.heap.size, 1, none⟩ = some (.slice x.A x.n x.c) ∧ W.cell? ⟨w.heap.size, 2, none⟩ = some (.slice x.o.A x.o.n x.o.c) := by
    rintro _ rfl
    exact ⟨by go_simp, by go_simp, by go_simp⟩
  have LB : ∀ W, (w.alloc (Obj.cells #[Value.slice x.r.A x.r.n x.r.c, Value.slice x.A x.n x.c, Value.slice x.o.A x.o.n x.o.c] 25)).alloc (Obj.cells #[Value.slice none 0 0, Value.slice none 0 0, Value.slice none 0 0] 25) = W → Own W (w.heap.size + 1) 25 (some ⟨w.heap.size + 1, 0, none⟩) 3 3 [.slice none 0 0, .slice none 0 0, .slice none 0 0] := by
    rintro _ rfl
    have hz : ∀ o1 : Obj, (w.alloc o1).heap.size = w.heap.size + 1 := fun o1 => Array.size_push ..
    have h := Own.lit (B := w.heap.size + 1) (w.alloc (Obj.cells #[Value.slice x.r.A x.r.n x.r.c, Value.slice x.A x.n x.c, Value.slice x.o.A x.o.n x.o.c] 25)) 25 #[Value.slice none 0 0, Value.slice none 0 0, Value.slice none 0 0] 3 (Nat.le_of_eq (hz _).symm) rfl (by unfold maxLen; omega)
    rw [hz] at h
    exact h
  obtain ⟨W, hW⟩ : ∃ W, (w.alloc (Obj.cells #[Value.slice x.r.A x.r.n x.r.c, Value.slice x.A x.n x.c, Value.slice x.o.A x.o.n x.o.c] 25)).alloc (Obj.cells #[Value.slice none 0 0, Value.slice none 0 0, Value.slice none 0 0] 25) = W := ⟨_, rfl⟩
  have hWb : Below w.heap.size w W := hW ▸ hb0 _ _
  have hWs : W.heap.size = w.heap.size + 2 := by
    rw [← hW]
    show ((w.heap.push _).push _).size = _
    rw [Array.size_push, Array.size_push]
  obtain ⟨l0, l1, l2⟩ := L W hW
  rw [hW]
  refine wp_region_ord (S := fun w' => w'.cell? ⟨w.heap.size, 0, none⟩ = some (.slice x.r.A x.r.n x.r.c) ∧ w'.cell? ⟨w.heap.size, 1, none⟩ = some (.slice x.A x.n x.c) ∧ w'.cell? ⟨w.heap.size, 2, none⟩ = some (.slice x.o.A x.o.n x.o.c)) [(0, true), (1, true), (3, true), (4, true), (6, true), (7, true), (2, false), (5, false), (8, false), (9, true), (10, false)] default (by kernel_rfl) (by kernel_rfl) (by kernel_rfl) ⟨l0, l1, l2⟩ ?_
  simp only [getOrd, nth]
  repeat (first | (refine ordS (by rfl) ?_; simp only [Act.put, List.setIfInBounds_toArray, List.set_cons_zero, List.set_cons_succ]) | (refine ordN (by rfl) ?_; simp only [Act.put, List.setIfInBounds_toArray, List.set_cons_zero, List.set_cons_succ]) | (refine ordQ (v := ?_) (by rfl) (fun _ hSw => ?_) ?_; rotate_left; (focus ((have hS1 := hSw.1); (have hS2 := hSw.2.1); (have hS3 := hSw.2.2); clear hSw; go_simp; (first | done | with_reducible rfl))); simp only [Act.put, List.setIfInBounds_toArray, List.set_cons_zero, List.set_cons_succ]))
  refine ordD (by rfl) ?_
  intro K hK
  go_simp
  refine (twinints_any _ _ _ x.r.zs _ ((h.r.rd.below hWb).drew) hr).mono ?_
  rintro e w2 ⟨A1, c1, rfl, t1, b1⟩
  have hk1 : ∀ w' B, Below B W w' → w.heap.size < B → w'.cell? ⟨w.heap.size, 0, none⟩ = some (.slice x.r.A x.r.n x.r.c) ∧ w'.cell? ⟨w.heap.size, 1, none⟩ = some (.slice x.A x.n x.c) ∧ w'.cell? ⟨w.heap.size, 2, none⟩ = some (.slice x.o.A x.o.n x.o.c) := by
    intro w' B hB hlt
    exact ⟨(World.cell?_of_block (hB.block _ hlt)).trans l0, (World.cell?_of_block (hB.block _ hlt)).trans l1, (World.cell?_of_block (hB.block _ hlt)).trans l2⟩
  have b1' : Below W.heap.size W w2 := ((Below.refl _ W).drew).trans b1
  refine hK _ _ (hk1 _ _ b1' (by omega)) ?_
  clear hK K
  try simp only [Act.put, List.setIfInBounds_toArray, List.set_cons_zero, List.set_cons_succ]
  refine ordD (by rfl) ?_
  intro K hK
  go_simp
  have bw2 : Below w.heap.size w w2 := hWb.trans (b1'.mono (by omega))
  refine (twinintlists_any _ _ _ x.b _ ⟨(h.below bw2).b, (h.below bw2).bs⟩ hn hb).mono ?_
  rintro e w3 ⟨A2, c2, t2, m2, rfl, ow2, mb2, mk2, tw2, al2, ap2, b2⟩
  have b2' : Below W.heap.size W w3 := b1'.trans (b2.mono b1'.size)
  refine hK _ _ (hk1 _ _ b2' (by omega)) ?_
  clear hK K
  try simp only [Act.put, List.setIfInBounds_toArray, List.set_cons_zero, List.set_cons_succ]
  refine ordD (by rfl) ?_
  intro K hK
  go_simp
  have bw3 : Below w.heap.size w w3 := hWb.trans (b2'.mono (by omega))
  refine (twinints_any _ _ _ x.o.zs _ (h.o.rd.below bw3) ho).mono ?_
  rintro e w4 ⟨A3, c3, rfl, t3, b3⟩
  have b3' : Below W.heap.size W w4 := b2'.trans (b3.mono b2'.size)
  refine hK _ _ (hk1 _ _ b3' (by omega)) ?_
  clear hK K
  try simp only [Act.put, List.setIfInBounds_toArray, List.set_cons_zero, List.set_cons_succ]
  repeat (first | (refine ordS (by rfl) ?_; simp only [Act.put, List.setIfInBounds_toArray, List.set_cons_zero, List.set_cons_succ]) | (refine ordN (by rfl) ?_; simp only [Act.put, List.setIfInBounds_toArray, List.set_cons_zero, List.set_cons_succ]) | (refine ordQ (v := ?_) (by rfl) (fun _ hSw => ?_) ?_; rotate_left; (focus ((have hS1 := hSw.1); (have hS2 := hSw.2.1); (have hS3 := hSw.2.2); clear hSw; go_simp; (first | done | with_reducible rfl))); simp only [Act.put, List.setIfInBounds_toArray, List.set_cons_zero, List.set_cons_succ]))
  refine ordD (by rfl) ?_
  intro K hK
  have s0 := (LB W hW).below b3'
  have g0 := s0.free (by omega) 0
  have g1 := s0.cell (j := 0) (by omega)
  have s1 := s0.set (by omega) 0 (.slice A1 x.r.n c1)
  have g2 := s1.free (by omega) 1
  have g3 := s1.cell (j := 1) (by omega)
  have s2 := s1.set (by omega) 1 (.slice A2 x.n c2)
  have g4 := s2.free (by omega) 2
  have g5 := s2.cell (j := 2) (by omega)
  have s3 := s2.set (by omega) 2 (.slice A3 x.o.n c3)
  simp only [List.getElem?_cons_zero, List.getElem?_cons_succ, List.set_cons_zero, List.set_cons_succ] at g1 g3 g5
  go_simp
  have hq : ∀ (k : Nat) (v1 v2 v3 : Value), k ≠ w.heap.size + 1 → (((w4.setCell ⟨w.heap.size + 1, 0, none⟩ v1).setCell ⟨w.heap.size + 1, 1, none⟩ v2).setCell ⟨w.heap.size + 1, 2, none⟩ v3).heap[k]? = w4.heap[k]? := fun k v1 v2 v3 hk =>
    ((Below.heap_setCell _ _ _ _ hk).trans (Below.heap_setCell _ _ _ _ hk)).trans (Below.heap_setCell _ _ _ _ hk)
  have hS4 := hk1 _ _ b3' (by omega)
  refine hK _ _ ⟨(World.cell?_of_block (hq _ _ _ _ (by show w.heap.size ≠ _; omega))).trans hS4.1, (World.cell?_of_block (hq _ _ _ _ (by show w.heap.size ≠ _; omega))).trans hS4.2.1, (World.cell?_of_block (hq _ _ _ _ (by show w.heap.size ≠ _; omega))).trans hS4.2.2⟩ ?_
  clear hK K
  refine ordE ?_
  have e0 := s3.cell (j := 0) (by omega)
  have e1 := s3.cell (j := 1) (by omega)
  have e2 := s3.cell (j := 2) (by omega)
  simp only [List.getElem?_cons_zero, List.getElem?_cons_succ, List.set_cons_zero, List.set_cons_succ] at e0 e1 e2
  have z2 := b1'.size
  have z3 := b2'.size
  have hbF : Below w.heap.size w (((w4.setCell ⟨w.heap.size + 1, 0, none⟩ (.slice A1 x.r.n c1)).setCell ⟨w.heap.size + 1, 1, none⟩ (.slice A2 x.n c2)).setCell ⟨w.heap.size + 1, 2, none⟩ (.slice A3 x.o.n c3)) :=
    (((hWb.trans (b3'.mono (by omega))).setCell (p := ⟨w.heap.size + 1, 0, none⟩) (Nat.le_succ _) _).setCell (p := ⟨w.heap.size + 1, 1, none⟩) (Nat.le_succ _) _).setCell (p := ⟨w.heap.size + 1, 2, none⟩) (Nat.le_succ _) _
  have hz1 : W.drew.heap.size = W.heap.size := rfl
  have u1 : Twn w4 W.heap.size ⟨A1, x.r.n, c1, x.r.zs⟩ := ⟨(t1.below b2).below b3, h.r.fit⟩
  have u2 : Own w4 W.heap.size 22 A2 (x.n + 1) c2 (t2.map Ls.v ++ [.slice (some ⟨m2, 0, none⟩) 1 1]) := (ow2.below b3).mono z2
  have mk4 : w4.heap[m2]? = some (.cells #[.int .i64 77] 3 (0, 0)) := by rw [b3.block m2 (Array.getElem?_eq_some_iff.1 mk2).1]; exact mk2
  have mkB : w.heap.size + 2 ≤ m2 := by omega
  have apt4 : AptL ((⟨A1, x.r.n, c1, x.r.zs⟩ : Ls) :: (t2 ++ [(⟨A3, x.o.n, c3, x.o.zs⟩ : Ls)])) := by
    have hr2 : ∀ g, Blk ⟨A1, x.r.n, c1, x.r.zs⟩ g → g < w2.heap.size := fun g hg => (t1.blk hg.1 hg.2).2
    have hb2' : ∀ u ∈ t2, ∀ g, Blk u g → w2.heap.size ≤ g ∧ g < w3.heap.size := fun u hu g hg => (tw2 u hu).blk hg
    have ho2 : ∀ g, Blk ⟨A3, x.o.n, c3, x.o.zs⟩ g → w3.heap.size ≤ g := fun g hg => (t3.blk hg.1 hg.2).1
    refine List.Pairwise.cons (fun a ha g hg hg2 => ?_) (aptL_snoc ap2 (fun u hu g hg => (hb2' u hu g hg).2) ho2)
    rcases List.mem_append.1 ha with ha | ha
    · have := hr2 g hg
      have := (hb2' a ha g hg2).1
      omega
    · rw [List.mem_singleton.1 ha] at hg2
      have := hr2 g hg
      have := ho2 g hg2
      have := b2.size
      omega
  have u3 : ∀ u ∈ t2, Twn w4 W.heap.size u := fun u hu => by
    have h1 := (tw2 u hu).below b3
    exact ⟨h1.own.mono z2, h1.fit⟩
  have u4 : Twn w4 W.heap.size ⟨A3, x.o.n, c3, x.o.zs⟩ := ⟨t3.mono z3, h.o.fit⟩
  go_wp2
  (try simp only [Exit.inBlock, Exit.then])
  refine bodyPost_ret (v := .agg #[.slice A1 x.r.n c1, .slice A2 x.n c2, .slice A3 x.o.n c3]) ?r rfl ?_
  case r =>
    simp only [results, Tryz.f6]
    go_simp
  refine ⟨⟨⟨A1, x.r.n, c1, x.r.zs⟩, A2, x.n, c2, t2, ⟨A3, x.o.n, c3, x.o.zs⟩⟩, rfl, ⟨?_, ?_, ⟨m2, ?_, (hq _ _ _ _ (by omega)).trans mk4⟩, ?_, apt4⟩, rfl, al2, rfl, rfl, hbF⟩
  · exact ⟨(u1.own.keep fun g _ _ hB _ => hq g _ _ _ (by omega)).mono (by omega), u1.fit⟩
  · exact ⟨(u4.own.keep fun g _ _ hB _ => hq g _ _ _ (by omega)).mono (by omega), u4.fit⟩
  · exact (u2.keep fun g _ _ hB _ => hq g _ _ _ (by omega)).mono (by omega)
  · intro u hu
    exact ⟨((u3 u hu).own.keep fun g _ _ hB _ => hq g _ _ _ (by omega)).mono (by omega), (u3 u hu).fit⟩
end Go.Proofs.YtdckoaljcklmhaaGreatDoor

