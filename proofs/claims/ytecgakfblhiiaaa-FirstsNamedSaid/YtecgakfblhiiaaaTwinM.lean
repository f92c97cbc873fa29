/-
  Walks of TwinIntLists and TwinMarket: a copy of lists of ints in memory of its own, with a mark in the room behind each.
-/
import Derived.Test.YtecgakfblhiiaaaTwinI
import Derived.Test.YtecgakfblhiiaaaSameM
import Derived.Test.YtecgakfblhiiaaaReg
namespace Go.Proofs.Ytecgakfblhiiaaa
open Go.RowKit
set_option linter.unusedVariables false

theorem twin_info_ints : (Try.prog.info? 25).map (fun i => (i.zero, i.size, i.bytes)) = some (some (.slice none 0 0), 1, 24) := by kernel_rfl

/-- A twin of a list: the call's own, a mark behind it. -/
structure Twn (w : World) (B : Nat) (u : Ls) : Prop where
  own : Own w B 3 u.A (u.n + 1) u.c (ci64 (u.zs ++ [77]))
  fit : ∀ z ∈ u.zs, -9223372036854775808 ≤ z ∧ z ≤ 9223372036854775807
theorem Twn.keep {w w' : World} {B : Nat} {u : Ls} (h : Twn w B u) (hk : ∀ g, u.A = some ⟨g, 0, none⟩ → g < w.heap.size → w'.heap[g]? = w.heap[g]?) : Twn w' B u :=
  ⟨h.own.keep fun g hA _ _ hlt => hk g hA hlt, h.fit⟩
theorem Twn.below {w w' : World} {B : Nat} {u : Ls} (h : Twn w B u) (hb : Below w.heap.size w w') : Twn w' B u := h.keep fun g _ hlt => hb.block g hlt
theorem Twn.ok {w : World} {B : Nat} {u : Ls} (h : Twn w B u) : u.Ok w := by
  have h1 := h.own.rd
  have h2 := h.own.len
  rw [ci64_len, List.length_append, List.length_singleton] at h2
  refine ⟨?_, by have := h.own.le; omega, h.own.cap, h.fit⟩
  have h3 := h1.take (hi := u.n) (by omega)
  rw [ci64_take, List.take_append_of_le_length (by omega), List.take_of_length_le (by omega)] at h3
  exact h3

theorem Twn.blk {w : World} {B : Nat} {u : Ls} (h : Twn w B u) {g : Nat} (hg : Blk u g) : B ≤ g ∧ g < w.heap.size := h.own.blk hg.1 hg.2
theorem own_apart {w : World} {B : Nat} {e e' : TypeId} {A : Option Addr} {n c : Nat} {xs : List Value} (h : Own w B e A n c xs) {g : Nat} {cur : Array Value} (hg : w.heap[g]? = some (.cells cur e' (0, 0))) (hne : e ≠ e') : (n = 0 ∧ c = 0) ∨ A ≠ some ⟨g, 0, none⟩ := by
  rcases h.2 with h0 | ⟨g', cur', hA, _, hh, _⟩
  · exact .inl h0
  · refine .inr fun he => ?_
    rw [hA] at he
    cases he
    rw [hh] at hg
    injection hg with hg
    injection hg with _ h2
    exact hne h2
/-- What is appended to the list of lists leaves each of these as it was. -/
theorem Twn.app {w w' : World} {B B' : Nat} {u : Ls} {A : Option Addr} {n c : Nat} {xs : List Value} (h : Twn w B u) (ho : Own w B' 25 A n c xs) (hf : ∀ k, k < w.heap.size → ((n = 0 ∧ c = 0) ∨ A ≠ some ⟨k, 0, none⟩) → w'.heap[k]? = w.heap[k]?) : Twn w' B u := by
  refine ⟨?_, h.fit⟩
  obtain ⟨h1, h2⟩ := h.own
  rcases h2 with h0 | ⟨g, cur, hA, hg, hh, r⟩
  · omega
  · exact ⟨h1, .inr ⟨g, cur, hA, hg, by rw [hf g (Array.getElem?_eq_some_iff.1 hh).1 (own_apart ho hh (by decide))]; exact hh, r⟩⟩

set_option maxRecDepth 100000 in
set_option maxHeartbeats 1000000 in
theorem twinintlists_any (A : Option Addr) (n c : Nat) (l : List Ls) (w : World) (hr : Lss w A n l) (hn : n ≤ 1000000) (hn2 : ∀ u ∈ l, u.n ≤ 1000000000) :
    Calls Try.prog 14 #[.slice A n c] w fun e w' => ∃ A' c' t m, e = .returned (.slice A' n c') ∧ Own w' w.heap.size 25 A' (n + 1) c' (t.map Ls.v ++ [.slice (some ⟨m, 0, none⟩) 1 1]) ∧ w.heap.size ≤ m ∧ w'.heap[m]? = some (.cells #[.int .i64 77] 3 (0, 0)) ∧ (∀ u ∈ t, Twn w' w.heap.size u) ∧ Ls.all t = Ls.all l ∧ AptL t ∧ Below w.heap.size w w' := by
  obtain ⟨i0, hi0, hz0, hz1, hz2⟩ := info_parts twin_info_ints
  have hl := hr.len
  have HL := Lib.hid hl
  clear hl
  go_enter Try.func14, Try.ntmps14
  go_wp2_with (at_make; go_must (refine wpList_mk0 _ rfl _ _ 22 rfl w.heap.size 25 i0 _ Try.underlying22 hi0 hz0 hz1 .i64 .i64 _ (n + 1) rfl rfl ?c1 ?c2 ?c3 ?c4 ?_))
  case c1 => omega
  case c2 => rw [hz2]; omega
  case c3 => simp only [maxLen]; omega
  case c4 => exact Nat.le_refl _
  intro w1 hown1 hbel1
  go_wp2_with fail
  go_loopw [3, 4] (fun v i wr => ∃ (j : Nat) (A' : Option Addr) (c' : Nat) (t : List Ls), j ≤ n ∧ i = .int .i64 j ∧ v = .slice A' j c' ∧ Own wr w.heap.size 25 A' j c' (t.map Ls.v) ∧ (∀ u ∈ t, Twn wr w.heap.size u) ∧ Ls.all t = (Ls.all l).take j ∧ Hid (AptL t) ∧ Below w.heap.size w wr) (fun _ i _ => n - (intOf i).toNat)
  case atStart => exact ⟨0, _, _, [], Nat.zero_le _, rfl, rfl, hown1, by simp, rfl, Lib.hid List.Pairwise.nil, hbel1⟩
  case round =>
    obtain ⟨j, A', c', t, hj, rfl, rfl, hown, htw, hall, hapt, hbel⟩ := hrel
    have HA := Lib.hid hall
    clear hall
    by_cases hlt : j < n
    · obtain ⟨b0, o0, u, rfl, hu, hb0, hcell, hok⟩ := hr.get hlt
      have hun := hn2 u (List.mem_of_getElem? hu)
      unfold Ls.v at hcell
      have hcell' : wr.cell? ⟨b0, o0 + j, none⟩ = some (.slice u.A u.n u.c) := by rw [hbel.cell (p := ⟨b0, o0 + j, none⟩) hb0, hcell]
      go_wp2_with fail
      refine (twinints_any _ _ _ u.zs wr (hok.rd.below hbel) hun).mono ?_
      rintro e w2 ⟨A2, c2, rfl, hin, hb2⟩
      have hown2 := hown.below hb2
      have htw2 : ∀ u ∈ t, Twn w2 w.heap.size u := fun u hu => (htw u hu).below hb2
      have hnew : Twn w2 w.heap.size ⟨A2, u.n, c2, u.zs⟩ := ⟨hin.mono hbel.size, hok.fit⟩
      have hbel2 := hbel.trans (hb2.mono hbel.size)
      have hapt2 := Lib.hid (aptL_snoc (u := ⟨A2, u.n, c2, u.zs⟩) (s := wr.heap.size) hapt.out (fun x hx g hg => ((htw x hx).blk hg).2) (fun g hg => (hin.blk hg.1 hg.2).1))
      clear hown htw hb2 hin hapt
      go_wp2_with (at_builtin; go_must (refine wpList_app1 w2 rfl _ _ 22 rfl 25 i0 _ 24 Try.underlying22 hi0 hz0 hz1 hz2 rfl w.heap.size A' j c' _ rfl hown2 1 rfl rfl ?c3 ?c4 ?c5 ?_))
      case c3 => simp only [maxLen]; omega
      case c4 => omega
      case c5 => exact hbel2.size
      intro A3 c3 w3 hown3 hbel3 hfr3 hat3
      have htw3 : ∀ x ∈ t ++ [(⟨A2, u.n, c2, u.zs⟩ : Ls)], Twn w3 w.heap.size x := by
        intro x hx
        rcases List.mem_append.1 hx with hx | hx
        · exact (htw2 x hx).app hown2 hfr3
        · rw [List.mem_singleton.1 hx]
          exact hnew.app hown2 hfr3
      have hown4 : Own w3 w.heap.size 25 A3 (j + 1) c3 ((t ++ [(⟨A2, u.n, c2, u.zs⟩ : Ls)]).map Ls.v) := by
        rw [List.map_append]
        exact hown3
      have hall2 : Ls.all (t ++ [(⟨A2, u.n, c2, u.zs⟩ : Ls)]) = (Ls.all l).take (j + 1) := by
        have hjl : j < (Ls.all l).length := by rw [Ls.all, List.length_map, HL.out]; exact hlt
        rw [List.take_succ_eq_append_getElem hjl, ← HA.out]
        have h : (Ls.all l)[j]? = some u.zs := by rw [Ls.all, List.getElem?_map, hu]; rfl
        rw [List.getElem?_eq_getElem hjl] at h
        rw [Option.some.inj h]
        simp [Ls.all]
      have hbel4 := hbel2.trans (hbel3.mono (Nat.le_refl _))
      have H4 := Lib.hid hall2
      clear hown3 hbel3 hfr3 hat3 hown2 htw2 hnew hbel2 hall2
      go_wp2
      go_roundw
      case rel => exact ⟨j + 1, A3, c3, _, by omega, by go_num, rfl, hown4, htw3, H4.out, hapt2, hbel4⟩
      case measure => simp [intOf]; omega
    · obtain rfl : j = n := by omega
      have e1 : (Ls.all l).take j = Ls.all l := List.take_of_length_le (by rw [Ls.all, List.length_map, HL.out]; exact Nat.le_refl _)
      have HB := Lib.hid (HA.out.trans e1)
      clear e1
      have hownA := hown.alloc (.cells #[.int .i64 77] 3)
      have hbelA := hbel.trans ((Below.refl _ wr).alloc (Nat.le_refl _) (.cells #[.int .i64 77] 3) |>.mono hbel.size)
      have htwA : ∀ u ∈ t, Twn (wr.alloc (.cells #[.int .i64 77] 3)) w.heap.size u := fun u hu => (htw u hu).below ((Below.refl _ wr).alloc (Nat.le_refl _) _)
      go_wp2_with (at_builtin; go_must (refine wpList_app1 (wr.alloc (.cells #[.int .i64 77] 3)) rfl _ _ 22 rfl 25 i0 _ 24 Try.underlying22 hi0 hz0 hz1 hz2 rfl w.heap.size A' j c' _ rfl hownA 1 (by show _ = Value.slice (some ⟨(wr.heap.push _).size, 0, none⟩) 1 1; rw [Array.size_push]; rfl) rfl ?c3 ?c4 ?c5 ?_))
      case c3 => simp only [maxLen]; omega
      case c4 => omega
      case c5 => exact hbelA.size
      intro A3 c3 w3 hown3 hbel3 hfr3 hat3
      have htw3 : ∀ x ∈ t, Twn w3 w.heap.size x := fun x hx => (htwA x hx).app hownA fun k hk hh => hfr3 k (by have h : k < (wr.heap.push (.cells #[.int .i64 77] 3)).size := hk; rw [Array.size_push] at h; exact h) hh
      have hbel4 := hbelA.trans (hbel3.mono (Nat.le_refl _))
      have k1 := hown3.le
      have k2 := hown3.cap
      unfold maxLen at k2
      have hmk3 : w3.heap[wr.heap.size]? = some (.cells #[.int .i64 77] 3 (0, 0)) := by
        have h0 : (wr.alloc (.cells #[.int .i64 77] 3)).heap[wr.heap.size]? = some (.cells #[.int .i64 77] 3 (0, 0)) := heap_alloc_new wr _
        exact (hfr3 wr.heap.size (by first | omega | (show _ < (wr.heap.push _).size; rw [Array.size_push]; omega)) (own_apart hownA h0 (by decide))).trans h0
      clear hbel3 hfr3 hat3 hownA htwA hbelA hown htw
      go_wp2
      go_ret
      exact ⟨A3, c3, t, _, rfl, hown3, hbel.size, hmk3, htw3, HB.out, hapt.out, hbel4⟩

/-- A twin of a market. -/
structure TwnM (w : World) (B : Nat) (y : Mk) : Prop where
  r : Twn w B y.r
  o : Twn w B y.o
  b : ∃ m, Own w B 25 y.A (y.n + 1) y.c (y.b.map Ls.v ++ [.slice (some ⟨m, 0, none⟩) 1 1]) ∧ w.heap[m]? = some (.cells #[.int .i64 77] 3 (0, 0))
  bs : ∀ u ∈ y.b, Twn w B u
  apt : AptL (y.r :: (y.b ++ [y.o]))
theorem TwnM.below {w w' : World} {B : Nat} {y : Mk} (h : TwnM w B y) (hb : Below w.heap.size w w') : TwnM w' B y :=
  ⟨h.r.below hb, h.o.below hb, h.b.elim fun m hm => ⟨m, hm.1.below hb, by rw [hb.block m (Array.getElem?_eq_some_iff.1 hm.2).1]; exact hm.2⟩, fun u hu => (h.bs u hu).below hb, h.apt⟩
theorem TwnM.ok {w : World} {B : Nat} {y : Mk} (h : TwnM w B y) : y.Ok w := by
  obtain ⟨m, hm, _⟩ := h.b
  have h2 := hm.len
  rw [List.length_append, List.length_map, List.length_singleton] at h2
  have hc := hm.le
  have hl : y.b.length = y.n := by omega
  obtain ⟨g, hA, hB, hg⟩ := hm.lt (by omega)
  refine ⟨h.r.ok, h.o.ok, ⟨by rw [List.length_map]; exact hl, fun hn => ⟨g, 0, hA, fun j r hj i hi => ?_⟩⟩, fun u hu => (h.bs u hu).ok, by omega, hm.cap, fun _ => ⟨g, 0, hA, hg⟩⟩
  obtain rfl : i = 0 := by omega
  rw [List.getElem?_map] at hj
  obtain ⟨u, hu, rfl⟩ := Option.map_eq_some_iff.1 hj
  have hjl := (List.getElem?_eq_some_iff.1 hu).1
  rw [hA] at hm
  have h3 := hm.cell (j := j) (by omega)
  rw [List.getElem?_append_left (by rw [List.length_map]; exact hjl), List.getElem?_map, hu] at h3
  rw [Nat.mul_one, Nat.zero_add, Nat.add_zero, h3]
  rfl

end Go.Proofs.Ytecgakfblhiiaaa
