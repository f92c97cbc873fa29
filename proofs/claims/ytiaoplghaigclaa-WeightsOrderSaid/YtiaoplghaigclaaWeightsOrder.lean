/-
  Proved: Gains moved, bidders and items, gain as much; their numbers move along.
-/
import Derived.Test.YtiaoplghaigclaaRows
import Derived.Test.YtiaoplghaigclaaLift
import Derived.Test.YtiaoplghaigclaaAlive10
import Derived.Test.YtiaoplghaigclaaZeros
import Derived.Test.YtiaoplghaigclaaReg
namespace Go.Proofs.Ytiaoplghaigclaa.weightsOrder
open Go.ChangeShapes Go.WideShapes Go.ChangeAt Go.RowKit
set_option linter.unusedVariables false

theorem info6_int : (Try.prog.info? 3).map (fun i => (i.zero, i.size, i.bytes)) = some (some (.int .i64 0), 1, 8) := by kernel_rfl
theorem infoI_ints : (Try.prog.info? 28).map (fun i => (i.zero, i.size, i.bytes)) = some (some (.slice none 0 0), 1, 24) := by kernel_rfl
theorem ok_tail {w : World} {u : Ls} (h : u.Ok w) {i : Nat} (hi : i ≤ u.n) : Ls.Ok w ⟨if u.c = i then u.A else u.A.map (fun x => x.add i), u.n - i, u.c - i, u.zs.drop i⟩ := by
  have hl := h.rd.len
  rw [ci64_len] at hl
  have hc := h.cap
  have ht := h.top
  refine ⟨?_, ?_, ?_, fun z hz => h.fit z (List.mem_of_mem_drop hz)⟩
  · show Rd w _ _ (ci64 (u.zs.drop i))
    have h2 := h.rd.cut (lo := i) (hi := u.n) (cap := u.c) hi (Nat.le_refl _) hc
    rw [show ((ci64 u.zs).drop i).take (u.n - i) = ci64 (u.zs.drop i) by
      rw [List.take_of_length_le (by rw [List.length_drop, ci64_len]; omega)]; exact (List.map_drop ..).symm] at h2
    exact h2
  · show u.n - i ≤ u.c - i
    omega
  · show u.c - i ≤ maxLen
    omega
/-- A list, moved. -/
def rotL {α : Type} (l : List α) (k : Nat) : List α := l.drop k ++ l.take k
theorem rotL_len {α : Type} (l : List α) (k : Nat) : (rotL l k).length = l.length := by simp [rotL]; omega
theorem rotL_get {α : Type} {l : List α} {k c : Nat} (hk : k < l.length) (hc : c < l.length) : (rotL l k)[c]? = l[(c + k) % l.length]? := by
  rw [rotL]
  by_cases h : c < l.length - k
  · rw [List.getElem?_append_left (by rw [List.length_drop]; exact h), List.getElem?_drop, Nat.mod_eq_of_lt (by omega), Nat.add_comm]
  · rw [List.getElem?_append_right (by rw [List.length_drop]; omega), List.length_drop, List.getElem?_take, if_pos (by omega)]
    congr 1
    rw [Nat.mod_eq_sub_mod (by omega), Nat.mod_eq_of_lt (by omega)]
    omega
def rotA (g : List (List Int)) (n m j : Nat) : List (List Int) := (List.range j).map fun i => rotL (g.getD ((i + n) % g.length) []) m
theorem rotA_succ (g : List (List Int)) (n m j : Nat) : rotA g n m (j + 1) = rotA g n m j ++ [rotL (g.getD ((j + n) % g.length) []) m] := by
  rw [rotA, List.range_succ, List.map_append]; rfl
theorem rotA_len (g : List (List Int)) (n m j : Nat) : (rotA g n m j).length = j := by simp [rotA]
theorem rotA_may {g : List (List Int)} {m : Int} {n k : Nat} (h : mayW g m = true) (h0 : 0 < g.length) : mayW (rotA g n k g.length) m = true := by
  obtain ⟨h1, h2, h3, h4⟩ := mayW_iff.1 h
  refine mayW_iff.2 ⟨h1, h2, by rw [rotA_len]; exact h3, fun l hl => ?_⟩
  obtain ⟨i, _, rfl⟩ := List.mem_map.1 hl
  have hr := Nat.mod_lt (i + n) h0
  have h5 := h4 _ (List.getElem_mem hr)
  rw [List.getD_eq_getElem?_getD, List.getElem?_eq_getElem hr]
  refine ⟨by rw [rotL_len]; exact h5.1, fun z hz => ?_⟩
  rcases List.mem_append.1 hz with hz | hz
  · exact h5.2 z (List.mem_of_mem_drop hz)
  · exact h5.2 z (List.mem_of_mem_take hz)
theorem rotA_gG {g : List (List Int)} {m n k b c : Nat} (h : mayW g m = true) (hb : b < g.length) (hc : c < m) (hk : k < m) : gG (rotA g n k g.length) b c = rotG (gG g) m g.length n k b c := by
  have hr := Nat.mod_lt (b + n) (show 0 < g.length by omega)
  have hl := (may_row h hr).1
  rw [gG_at (l := rotL (g.getD ((b + n) % g.length) []) k) (by rw [rotA, List.getElem?_map, List.getElem?_range hb]; rfl)]
  rw [rotG, gG, List.getD_eq_getElem?_getD (l := g), List.getElem?_eq_getElem hr, Option.getD_some, List.getD_eq_getElem?_getD, rotL_get (by omega) (by omega), hl, ← List.getD_eq_getElem?_getD]
theorem rot_map {f : Nat → Int} {N n : Nat} (hn : n < N) : (List.range N).map (fun i => f ((i + n) % N)) = rotL ((List.range N).map f) n := by
  refine List.ext_getElem? fun i => ?_
  by_cases hi : i < N
  · have hr := Nat.mod_lt (i + n) (show 0 < N by omega)
    rw [rotL_get (by simpa using hn) (by simpa using hi)]
    simp only [List.length_map, List.length_range]
    rw [List.getElem?_map, List.getElem?_map, List.getElem?_range hi, List.getElem?_range hr]; rfl
  · rw [List.getElem?_eq_none (by simp; omega), List.getElem?_eq_none (by rw [rotL_len]; simp; omega)]
theorem order_all {g : List (List Int)} {m n k : Nat} (h : mayW g m = true) (hn : n < g.length) (hk : k < m) :
    bestE (rotA g n k g.length) m = bestE g m ∧ wErr (rotA g n k g.length) m = 0 ∧ bidE (rotA g n k g.length) m = rotL (bidE g m) n ∧ ofE (rotA g n k g.length) m = rotL (ofE g m) k := by
  have hm := rotA_may (n := n) (k := k) h (by omega)
  have hg : ∀ b c, b < (rotA g n k g.length).length → c < m → gG (rotA g n k g.length) b c = rotG (gG g) m g.length n k b c := fun b c hb hc => rotA_gG h (by rw [rotA_len] at hb; exact hb) hc hk
  refine ⟨?_, (we_ok hm).2.1, ?_, ?_⟩
  · rw [bestE_of hm hg, rotA_len, rot_best (Nat.le_of_lt hn) (Nat.le_of_lt hk), (we_ok h).1]
  · rw [bidE_of hm hg, rotA_len, (we_ok h).2.2.2, ← rot_map hn]
    exact List.map_congr_left fun i hi => rot_bid (Nat.le_of_lt hn) (Nat.le_of_lt hk)
  · rw [ofE_of hm hg, rotA_len, (we_ok h).2.2.1, ← rot_map hk]
    exact List.map_congr_left fun c hc => rot_num (Nat.le_of_lt hn) (Nat.le_of_lt hk) (List.mem_range.1 hc)

set_option maxRecDepth 100000 in
set_option maxHeartbeats 4000000 in
theorem walk (x : Gr) (m : Int) (y1 y2 : Nat) (w : World) (h : x.Ok w) (hm1 : -9223372036854775808 ≤ m) (hm2 : m ≤ 9223372036854775807) (hy1 : y1 < 256) (hy2 : y2 < 256) :
    Calls Try.prog 6 #[.agg #[x.v, .int .i64 m], .int .u8 y1, .int .u8 y2] w fun e w' => e = .returned (.bool true) ∧ Below w.heap.size w w' := by
  have hx := h
  have hB := Below.refl w.heap.size w
  have hxv : x.v = .slice x.A x.n x.c := rfl
  have Vx := Lib.hid hxv
  rw [hxv]
  have hgl := h.glen
  have HGL := Lib.hid hgl
  have htop := Nat.le_trans h.cap h.top
  unfold maxLen at htop
  obtain ⟨B, hB0⟩ : ∃ B, mayW x.g m = B := ⟨_, rfl⟩
  clear hxv hgl h
  go_enter Try.func6, Try.ntmps6
  have bg := WBox.new w x m
  have hbx : Below w.heap.size w (w.alloc (.cells #[.slice x.A x.n x.c, .int .i64 m] 24)) := (Below.refl _ w).alloc (Nat.le_refl _) _
  replace hx := hx.below hbx
  replace hB := hB.trans (hbx.mono hB.size)
  clear hbx
  cases B
  · have E1 := Lib.hid (we_bad hB0)
    clear hB0
    have eg0 := bg.c0
    have eg1 := bg.c1
    have hc := pbestC x m (w.alloc (.cells #[.slice x.A x.n x.c, .int .i64 m] 24)) hx (by omega) (by omega)
    rw [Vx.out, E1.out.1, E1.out.2.1] at hc
    go_wp2_with fail
    clear eg0 eg1
    generalize w.alloc (.cells #[.slice x.A x.n x.c, .int .i64 m] 24) = W1 at *
    refine hc.mono ?_
    rintro e v2 ⟨rfl, hb⟩
    clear hc
    replace hx := hx.below hb
    replace bg := bg.below hb
    replace hB := hB.trans (hb.mono hB.size)
    clear hb
    have eg0 := bg.c0
    have eg1 := bg.c1
    have hc := pprovedC x m v2 hx (by omega) (by omega)
    rw [Vx.out, E1.out.2.1, E1.out.2.2.2, E1.out.2.2.1] at hc
    go_wp2_with fail
    clear eg0 eg1
    refine hc.mono ?_
    rintro e v3 ⟨A1, n1, c1, A1p, n1p, c1p, rfl, h1, h1p, hapt, hb⟩
    clear hc
    replace hx := hx.below hb
    replace bg := bg.below hb
    replace hB := hB.trans (hb.mono hB.size)
    clear hb
    clear hapt
    clear h1 h1p
    have eg0 := bg.c0
    have eg1 := bg.c1
    have hc := alive10_any v3
    go_wp2_with fail
    clear eg0 eg1
    refine hc.mono ?_
    rintro e v4 ⟨rfl, hb⟩
    clear hc
    replace hx := hx.below hb
    replace bg := bg.below hb
    replace hB := hB.trans (hb.mono hB.size)
    clear hb
    have eg0 := bg.c0
    have eg1 := bg.c1
    go_wp2
    go_ret
    exact ⟨rfl, hB⟩
  · obtain ⟨M, rfl⟩ : ∃ M : Nat, m = M := ⟨m.toNat, by have := (mayW_iff.1 hB0).1; omega⟩
    have HB0 := Lib.hid hB0
    obtain ⟨hM1, hM8, hx8⟩ := may_m hB0
    rw [HGL.out] at hx8
    have EE := Lib.hid (we_ok hB0).2.1
    obtain ⟨a0, ha0⟩ : ∃ a, bestE x.g M = a := ⟨_, rfl⟩
    obtain ⟨ul, hul⟩ : ∃ a, bidE x.g M = a := ⟨_, rfl⟩
    obtain ⟨pl, hpl⟩ : ∃ a, ofE x.g M = a := ⟨_, rfl⟩
    have EB := Lib.hid ha0
    have EU := Lib.hid hul
    have EP := Lib.hid hpl
    have ULN : Hid (ul.length = x.n) := Lib.hid (by rw [← hul, bidE_len hB0, HGL.out])
    have PLN : Hid (pl.length = M) := Lib.hid (by rw [← hpl, ofE_len hB0])
    have UGET : Hid (∀ i, i < x.n → ul[i]? = some (bidP (gG x.g) M x.n i)) := Lib.hid (fun i hi => by rw [← hul, bidE_get hB0 (by rw [HGL.out]; exact hi), HGL.out])
    have PGET : Hid (∀ k, k < M → pl[k]? = some (numP (gG x.g) M x.n k)) := Lib.hid (fun k hk => by rw [← hpl, ofE_get hB0 hk, HGL.out])
    have BV : Hid (a0 = bestV (gG x.g) M x.n) := Lib.hid (by rw [← ha0, (we_ok hB0).1, HGL.out])
    have hab : 0 ≤ a0 ∧ a0 ≤ 8000000 := by rw [← ha0, (we_ok hB0).1]; exact best_bound hB0
    have HRW : Hid (∀ u ∈ x.t, u.n = M) := Lib.hid (fun u hu => by
      have h1 := (mayW_iff.1 hB0).2.2.2 u.zs (by rw [Gr.g, Ls.all]; exact List.mem_map_of_mem hu)
      have h2 := (hx.lss.ok u hu).len
      omega)
    clear hB0 ha0 hul hpl hm1 hm2
    have eg0 := bg.c0
    have eg1 := bg.c1
    have hc := pbestC x M (w.alloc (.cells #[.slice x.A x.n x.c, .int .i64 (M : Int)] 24)) hx (by omega) (by omega)
    rw [Vx.out, EB.out, EE.out] at hc
    go_wp2_with fail
    clear eg0 eg1
    generalize w.alloc (.cells #[.slice x.A x.n x.c, .int .i64 (M : Int)] 24) = W1 at *
    refine hc.mono ?_
    rintro e v2 ⟨rfl, hb⟩
    clear hc
    replace hx := hx.below hb
    replace bg := bg.below hb
    replace hB := hB.trans (hb.mono hB.size)
    clear hb
    have eg0 := bg.c0
    have eg1 := bg.c1
    have hc := pprovedC x M v2 hx (by omega) (by omega)
    rw [Vx.out, EE.out, EU.out, EP.out] at hc
    go_wp2_with fail
    clear eg0 eg1
    refine hc.mono ?_
    rintro e v3 ⟨A1, n1, c1, A1p, n1p, c1p, rfl, h1, h1p, hapt, hb⟩
    clear hc
    replace hx := hx.below hb
    replace bg := bg.below hb
    replace hB := hB.trans (hb.mono hB.size)
    clear hb
    clear hapt
    obtain rfl : n1 = x.n := by have h5 := h1.len; have h6 := ULN.out; simp only at h5; omega
    obtain rfl : M = n1p := by have h5 := h1p.len; have h6 := PLN.out; simp only at h5; omega
    have gne : (((M : Int)) != (M : Int)) = false := by simp
    have gne2 : (((x.n : Int)) != (x.n : Int)) = false := by simp
    by_cases hn0 : x.n = 0
    · have gn : ((x.n : Int) == 0) = true := by rw [beq_iff_eq]; omega
      have gn2 : (x.n == 0) = true := by rw [beq_iff_eq]; exact hn0
      clear hn0 h1 h1p
      have eg0 := bg.c0
      have eg1 := bg.c1
      have hc := alive10_any v3
      go_wp2_with fail
      clear eg0 eg1
      refine hc.mono ?_
      rintro e v4 ⟨rfl, hb⟩
      clear hc
      replace hx := hx.below hb
      replace bg := bg.below hb
      replace hB := hB.trans (hb.mono hB.size)
      clear hb
      have eg0 := bg.c0
      have eg1 := bg.c1
      go_wp2
      go_ret
      exact ⟨rfl, hB⟩
    · have gn : ((x.n : Int) == 0) = false := by rw [beq_eq_false_iff_ne]; omega
      have gn2 : (x.n == 0) = false := by rw [beq_eq_false_iff_ne]; exact hn0
      have eg0 := bg.c0
      have eg1 := bg.c1
      have hc := wmay_any x M v3 hx (by omega) (by omega)
      rw [HB0.out] at hc
      go_wp2_with fail
      clear eg0 eg1
      refine hc.mono ?_
      rintro e v4 ⟨rfl, hb⟩
      clear hc
      replace hx := hx.below hb
      replace h1 := h1.below hb
      replace h1p := h1p.below hb
      replace bg := bg.below hb
      replace hB := hB.trans (hb.mono hB.size)
      clear hb
      have gM : ((M : Int) == 0) = false := by rw [beq_eq_false_iff_ne]; omega
      have gM2 : (M == 0) = false := by rw [beq_eq_false_iff_ne]; omega
      obtain ⟨n, hn⟩ : ∃ k : Nat, y1 % x.n = k := ⟨_, rfl⟩
      obtain ⟨k, hk⟩ : ∃ k : Nat, y2 % M = k := ⟨_, rfl⟩
      have hnn : n < x.n := by rw [← hn]; exact Nat.mod_lt _ (by omega)
      have hkM : k < M := by rw [← hk]; exact Nat.mod_lt _ (by omega)
      have t1 : ((y1 : Int)).tmod (x.n : Int) = (n : Int) := by rw [Int.tmod_eq_emod_of_nonneg (by omega), ← hn]; simp
      have t2 : ((y2 : Int)).tmod (M : Int) = (k : Int) := by rw [Int.tmod_eq_emod_of_nonneg (by omega), ← hk]; simp
      have s1 : IntKind.i64.wrap (y1 : Int) = (y1 : Int) := by rw [IntKind.wrap_i64]; omega
      have s2 : IntKind.i64.wrap (y2 : Int) = (y2 : Int) := by rw [IntKind.wrap_i64]; omega
      have s3 : IntKind.i64.wrap (n : Int) = (n : Int) := by rw [IntKind.wrap_i64]; omega
      have s4 : IntKind.i64.wrap (k : Int) = (k : Int) := by rw [IntKind.wrap_i64]; omega
      clear hn hk
      obtain ⟨f1, f2, f3, f4⟩ := order_all HB0.out (n := n) (by rw [HGL.out]; exact hnn) hkM
      rw [EB.out] at f1
      rw [EU.out] at f3
      rw [EP.out] at f4
      have F1 := Lib.hid f1
      have F2 := Lib.hid f2
      have F3 := Lib.hid f3
      have F4 := Lib.hid f4
      clear f1 f2 f3 f4
      obtain ⟨i0, hi0, hz0, hz1, hz2⟩ := info_parts info6_int
      obtain ⟨i1, hi1', hy0, hy1, hy2⟩ := info_parts infoI_ints
      have eg0 := bg.c0
      have eg1 := bg.c1
      go_wp2_with fail
      clear eg0 eg1
      go_loopw [14, 15] (fun o v wr => ∃ (i c : Nat) (A : Option Addr) (t : List Ls), i ≤ x.n ∧ v = .int .i64 i ∧ o = .slice A i c ∧ Own wr v4.heap.size 28 A i c (t.map Ls.v) ∧ Hid (∀ u ∈ t, OwnI wr v4.heap.size u) ∧ Hid (Ls.all t = rotA x.g n k i) ∧ Below v4.heap.size v4 wr) (fun _ v _ => x.n - (intOf v).toNat)
      case atStart => exact ⟨0, 0, none, [], Nat.zero_le _, rfl, rfl, Own.none_ _ _ _ _, Lib.hid (by simp), Lib.hid (by simp [rotA, Ls.all]), Below.refl _ _⟩
      case round =>
        obtain ⟨i, c, A, t, hi, rfl, rfl, hOt, hrows, hall, hbel⟩ := hrel
        have e0 := (bg.below hbel).c0
        have e1 := (bg.below hbel).c1
        have hsz := hbel.size
        by_cases hin : i < x.n
        · have hin' : (i : Int) < x.n := by omega
          have hi0' : (0 : Int) ≤ i := by omega
          obtain ⟨r, hr⟩ : ∃ r, (i + n) % x.n = r := ⟨_, rfl⟩
          have hrn : r < x.n := by rw [← hr]; exact Nat.mod_lt _ (by omega)
          have hrn' : (r : Int) < x.n := by omega
          have hr0 : (0 : Int) ≤ r := by omega
          have t3 : ((i : Int) + n).tmod (x.n : Int) = (r : Int) := by rw [Int.tmod_eq_emod_of_nonneg (by omega), ← hr]; simp
          have s5 : IntKind.i64.wrap ((i : Int) + n) = (i : Int) + n := by rw [IntKind.wrap_i64]; omega
          have s6 : IntKind.i64.wrap (r : Int) = (r : Int) := by rw [IntKind.wrap_i64]; omega
          obtain ⟨p2, q2, u, hAx, hgy, hp2, hcx0, hky0⟩ := gr_get (A := x.A) (n := x.n) (c := x.c) (t := x.t) hx rfl hrn
          have hcx := (hbel.cell (p := ⟨p2, q2 + r, none⟩) hp2).trans hcx0
          have hky := hky0.below hbel
          have hgr : x.g.getD r [] = u.zs := hgy
          have hun : u.n = M := by
            have h1 := hky.len
            have h2 := (may_row HB0.out (b := r) (by rw [HGL.out]; exact hrn)).1
            rw [← hgr, List.getD_eq_getElem?_getD, List.getElem?_eq_getElem (by rw [HGL.out]; exact hrn)] at h1
            simp only [Option.getD_some] at h1
            omega
          have hkn : k ≤ u.n := by omega
          have hkn' : (k : Int) ≤ (u.n : Int) := by omega
          have hk0 : (0 : Int) ≤ k := by omega
          have hcap : (u.n : Int) ≤ (u.c : Int) := by have := hky.cap; omega
          have hkc : (k : Int) ≤ (u.c : Int) := by omega
          have hu8 : u.n ≤ 8 := by omega
          have HN := Lib.hid (rotA_succ x.g n k i)
          have HRW2 : Hid (rotL (x.g.getD ((i + n) % x.g.length) []) k = u.zs.drop k ++ u.zs.take k) := Lib.hid (by rw [HGL.out, hr, hgr]; rfl)
          have hfit := hky.fit
          have htl := ok_tail hky hkn
          have htk := hky.rd.take (hi := k) hkn
          rw [ci64_take] at htk
          rw [hAx] at e0
          have HAx := Lib.hid hAx
          clear hcx0 hky0 hgy hgr hAx hun hr hky
          go_wp2_with fail
          refine wp_region_ord (S := fun w' => w'.cell? ⟨w.heap.size, 0, none⟩ = some (.slice (some ⟨p2, q2, none⟩) x.n x.c) ∧ w'.cell? ⟨p2, q2 + r, none⟩ = some (.slice u.A u.n u.c)) [(0, true), (1, true), (2, true), (3, true), (4, true), (5, true), (6, true), (7, true), (8, true), (9, true), (10, true), (11, true)] default (by kernel_rfl) (by kernel_rfl) (by kernel_rfl) ⟨e0, hcx⟩ ?_
          simp only [getOrd, nth]
          repeat (first | (refine ordS (by rfl) ?_; simp only [Act.put, List.setIfInBounds_toArray, List.set_cons_zero, List.set_cons_succ]) | (refine ordN (by rfl) ?_; simp only [Act.put, List.setIfInBounds_toArray, List.set_cons_zero, List.set_cons_succ]) | (refine ordQ (v := ?_) (by rfl) (fun _ hSw => ?_) ?_; rotate_left; (focus ((have hS1 := hSw.1); (have hS2 := hSw.2); clear hSw; go_simp; (first | done | with_reducible rfl))); simp only [Act.put, List.setIfInBounds_toArray, List.set_cons_zero, List.set_cons_succ]))
          refine ordE ?_
          obtain ⟨wq, hwq⟩ : ∃ q, q = wr.drew.drew := ⟨_, rfl⟩
          have hbq : Below wr.heap.size wr wq := by rw [hwq]; exact ((Below.refl _ wr).drew).drew
          obtain ⟨TA, hTA⟩ : ∃ TA, (if u.c = k then u.A else Option.map (fun x : Addr => x.add k) u.A) = TA := ⟨_, rfl⟩
          rw [hTA] at htl
          have hut := (htl.below hbq).rd
          simp only at hut
          have hutk := htk.below hbq
          have hOtq := hOt.below hbq
          have hrowsq : ∀ v ∈ t, OwnI wq v4.heap.size v := fun v hv => (hrows.out v hv).below hbq
          have hszq : v4.heap.size ≤ wq.heap.size := Nat.le_trans hsz hbq.size
          have hbVq := hbel.trans (hbq.mono hsz)
          clear htl htk hOt hrows hbq e0 e1 hcx
          go_wp2_with fail
          refine wp_region_ord (S := fun _ => True) [(0, true), (1, true), (2, true), (3, true), (5, true), (6, true), (7, true), (4, false), (8, false), (9, false), (10, false), (11, true)] default (by kernel_rfl) (by kernel_rfl) (by kernel_rfl) trivial ?_
          simp only [getOrd, nth]
          repeat (first | (refine ordS (by rfl) ?_; simp only [Act.put, List.setIfInBounds_toArray, List.set_cons_zero, List.set_cons_succ]) | (refine ordN (by rfl) ?_; simp only [Act.put, List.setIfInBounds_toArray, List.set_cons_zero, List.set_cons_succ]) | (refine ordQ (v := ?_) (by rfl) (fun _ hSw => ?_) ?_; rotate_left; (focus ((have hS1 := hSw); clear hSw; go_simp; (first | done | with_reducible rfl))); simp only [Act.put, List.setIfInBounds_toArray, List.set_cons_zero, List.set_cons_succ]))
          try rw [hTA]
          rw [← hwq]
          clear hwq hTA
          refine ordD (by rfl) ?_
          intro K hK
          refine wp_app (wq) _ _ 28 rfl 3 i0 _ 8 Try.underlying28 hi0 hz0 hz1 hz2 rfl wq.heap.size none 0 0 [] rfl (Own.none_ _ _ _ _) _ (u.n - k) (u.c - k) (ci64 (u.zs.drop k)) rfl hut ?a1 ?a2 ?a3 ?a4 ?_
          case a1 => intro u hu; first | (obtain ⟨z, _, rfl⟩ := List.mem_map.1 hu; rfl) | (rw [List.mem_singleton.1 hu]; rfl)
          case a2 => simp only [maxLen]; omega
          case a3 => omega
          try case a4 => first | exact Nat.le_refl _ | assumption | omega
          intro A3 c3 w3 hown3 hbel3 hfr3 _
          go_simp
          refine hK _ _ trivial ?_
          clear hK K
          try simp only [Act.put, List.setIfInBounds_toArray, List.set_cons_zero, List.set_cons_succ]
          have hO3 : Own w3 wq.heap.size 3 A3 (u.n - k) c3 (ci64 (u.zs.drop k)) := by simpa using hown3
          have hut3 := hutk.below hbel3
          have hsz3 := hbel3.size
          have hbn3 : Below wq.heap.size wq w3 := hbel3
          clear hown3 hut hutk hbel3 hfr3
          refine ordD (by rfl) ?_
          intro K hK
          refine wp_app (w3) _ _ 28 rfl 3 i0 _ 8 Try.underlying28 hi0 hz0 hz1 hz2 rfl wq.heap.size A3 (u.n - k) c3 (ci64 (u.zs.drop k)) rfl hO3 _ k u.c (ci64 (u.zs.take k)) rfl hut3 ?b1 ?b2 ?b3 ?b4 ?_
          case b1 => intro u hu; first | (obtain ⟨z, _, rfl⟩ := List.mem_map.1 hu; rfl) | (rw [List.mem_singleton.1 hu]; rfl)
          case b2 => simp only [maxLen]; omega
          case b3 => omega
          try case b4 => first | exact Nat.le_refl _ | assumption | omega
          intro A4 c4 w4 hown4 hbel4 hfr4 _
          go_simp
          refine hK _ _ trivial ?_
          clear hK K
          try simp only [Act.put, List.setIfInBounds_toArray, List.set_cons_zero, List.set_cons_succ]
          have hO4 : OwnI w4 wq.heap.size ⟨A4, u.n, c4, u.zs.drop k ++ u.zs.take k⟩ := by
            refine ⟨?_, fun z hz => ?_⟩
            · show Own w4 wq.heap.size _ A4 u.n c4 (ci64 (u.zs.drop k ++ u.zs.take k))
              rw [ci64_app, ← Nat.sub_add_cancel hkn]; exact hown4
            · rcases List.mem_append.1 hz with hz | hz
              · exact hfit z (List.mem_of_mem_drop hz)
              · exact hfit z (List.mem_of_mem_take hz)
          try rw [Nat.sub_add_cancel hkn]
          have hbn4 : Below wq.heap.size wq w4 := hbn3.trans hbel4
          have hOt4 := hOtq.below hbn4
          have hrows4 : ∀ v ∈ t, OwnI w4 v4.heap.size v := fun v hv => (hrowsq v hv).below hbn4
          have hsz4 : v4.heap.size ≤ w4.heap.size := Nat.le_trans hszq hbn4.size
          have hbV4 := hbVq.trans (hbn4.mono hszq)
          have hO4V : OwnI w4 v4.heap.size ⟨A4, u.n, c4, u.zs.drop k ++ u.zs.take k⟩ := hO4.mono hszq
          clear hown4 hbel4 hfr4 hO3 hut3 hsz3 hbn3 hOtq hrowsq hszq hbVq hfit hbn4 hO4
          refine ordD (by rfl) ?_
          intro K hK
          go_simp
          have hbb : Below w4.heap.size w4 (w4.alloc (.cells #[.slice A4 u.n c4] 28)) := (Below.refl _ w4).alloc (Nat.le_refl _) _
          refine hK _ _ trivial ?_
          clear hK K
          try simp only [Act.put, List.setIfInBounds_toArray, List.set_cons_zero, List.set_cons_succ]
          repeat (first | (refine ordS (by rfl) ?_; simp only [Act.put, List.setIfInBounds_toArray, List.set_cons_zero, List.set_cons_succ]) | (refine ordN (by rfl) ?_; simp only [Act.put, List.setIfInBounds_toArray, List.set_cons_zero, List.set_cons_succ]) | (refine ordQ (v := ?_) (by rfl) (fun _ hSw => ?_) ?_; rotate_left; (focus ((have hS1 := hSw); clear hSw; go_simp; (first | done | with_reducible rfl))); simp only [Act.put, List.setIfInBounds_toArray, List.set_cons_zero, List.set_cons_succ]))
          have hlr : Rd (w4.alloc (.cells #[.slice A4 u.n c4] 28)) (some ⟨w4.heap.size, 0, none⟩) 1 [.slice A4 u.n c4] := (Own.lit (B := 0) w4 28 #[.slice A4 u.n c4] 1 (Nat.zero_le _) rfl (by unfold maxLen; omega)).rd
          have hszl : v4.heap.size ≤ (w4.alloc (.cells #[.slice A4 u.n c4] 28)).heap.size := Nat.le_trans hsz4 hbb.size
          have hOtl := hOt4.below hbb
          have hrowsl : ∀ v ∈ t, OwnI (w4.alloc (.cells #[.slice A4 u.n c4] 28)) v4.heap.size v := fun v hv => (hrows4 v hv).below hbb
          have hO4l := hO4V.below hbb
          have hbVl := hbV4.trans (hbb.mono hsz4)
          generalize hwl : w4.alloc (.cells #[.slice A4 u.n c4] 28) = wl at hlr hszl hOtl hrowsl hO4l hbVl ⊢
          clear hwl hbb hOt4 hrows4 hO4V hbV4 hsz4
          refine ordD (by rfl) ?_
          intro K hK
          refine wp_app (wl) _ _ 22 rfl 28 i1 _ 24 Try.underlying22 hi1' hy0 hy1 hy2 rfl v4.heap.size A i c _ rfl hOtl _ 1 1 [.slice A4 u.n c4] rfl hlr ?c1 ?c2 ?c3 ?c4 ?_
          case c1 => intro u hu; first | (obtain ⟨z, _, rfl⟩ := List.mem_map.1 hu; rfl) | (rw [List.mem_singleton.1 hu]; rfl)
          case c2 => simp only [maxLen]; omega
          case c3 => omega
          try case c4 => first | exact Nat.le_refl _ | assumption | omega
          intro A5 c5 w5 hown5 hbel5 hfr5 _
          go_simp
          refine hK _ _ trivial ?_
          clear hK K
          try simp only [Act.put, List.setIfInBounds_toArray, List.set_cons_zero, List.set_cons_succ]
          have hbV5 := hbVl.trans hbel5
          have hT : Own w5 v4.heap.size 28 A5 (i + 1) c5 ((t ++ [(⟨A4, u.n, c4, u.zs.drop k ++ u.zs.take k⟩ : Ls)]).map Ls.v) := by rw [List.map_append]; exact hown5
          have HR5 : Hid (∀ v ∈ t ++ [⟨A4, u.n, c4, u.zs.drop k ++ u.zs.take k⟩], OwnI w5 v4.heap.size v) := Lib.hid (fun v hv => by
            rcases List.mem_append.1 hv with hv | hv
            · exact (hrowsl v hv).app hOtl hfr5
            · rw [List.mem_singleton.1 hv]
              exact hO4l.app hOtl hfr5)
          have HA5 : Hid (Ls.all (t ++ [⟨A4, u.n, c4, u.zs.drop k ++ u.zs.take k⟩]) = rotA x.g n k (i + 1)) := Lib.hid (by
            rw [HN.out, HRW2.out, ← hall.out]; simp [Ls.all])
          clear hown5 hbel5 hfr5 hO4l hOtl hrowsl hbVl hlr hszl hall HRW2
          repeat (first | (refine ordS (by rfl) ?_; simp only [Act.put, List.setIfInBounds_toArray, List.set_cons_zero, List.set_cons_succ]) | (refine ordN (by rfl) ?_; simp only [Act.put, List.setIfInBounds_toArray, List.set_cons_zero, List.set_cons_succ]) | (refine ordQ (v := ?_) (by rfl) (fun _ hSw => ?_) ?_; rotate_left; (focus ((have hS1 := hSw); clear hSw; go_simp; (first | done | with_reducible rfl))); simp only [Act.put, List.setIfInBounds_toArray, List.set_cons_zero, List.set_cons_succ]))
          refine ordE ?_
          go_wp2
          go_roundw
          case rel => exact ⟨i + 1, c5, A5, _, by omega, by go_num, rfl, hT, HR5, HA5, hbV5⟩
          case measure => simp [intOf]; omega
        · obtain rfl : i = x.n := by omega
          have hgo : Gr.Ok wr ⟨A, x.n, c, t⟩ := own_lists hOt fun u hu => (hrows.out u hu).ok
          have HGA : Hid (Gr.g ⟨A, x.n, c, t⟩ = rotA x.g n k x.g.length) := Lib.hid (by rw [HGL.out]; exact hall.out)
          clear hOt hrows hall e0 e1

          replace bg := bg.below hbel
          replace h1 := h1.below hbel
          replace h1p := h1p.below hbel
          replace hB := hB.trans (hbel.mono hB.size)
          clear hbel hin
          have eg0 := bg.c0
          have eg1 := bg.c1
          have hc := pbestC ⟨A, x.n, c, t⟩ (M : Int) wr hgo (by omega) (by omega)
          rw [show Gr.v ⟨A, x.n, c, t⟩ = .slice A x.n c from rfl, HGA.out, F1.out, F2.out] at hc
          go_wp2_with fail
          clear eg0 eg1
          refine hc.mono ?_
          rintro e v5 ⟨rfl, hb⟩
          clear hc
          replace hgo := hgo.below hb
          replace h1 := h1.below hb
          replace h1p := h1p.below hb
          replace bg := bg.below hb
          replace hB := hB.trans (hb.mono hB.size)
          clear hb
          have eg0 := bg.c0
          have eg1 := bg.c1
          have hc := pprovedC ⟨A, x.n, c, t⟩ (M : Int) v5 hgo (by omega) (by omega)
          rw [show Gr.v ⟨A, x.n, c, t⟩ = .slice A x.n c from rfl, HGA.out, F2.out, F3.out, F4.out] at hc
          go_wp2_with fail
          clear eg0 eg1
          refine hc.mono ?_
          rintro e v6 ⟨A7, n7, c7, A8, n8, c8, rfl, h7, h8, hapt, hb⟩
          clear hc
          replace hgo := hgo.below hb
          replace h1 := h1.below hb
          replace h1p := h1p.below hb
          replace bg := bg.below hb
          replace hB := hB.trans (hb.mono hB.size)
          clear hb
          clear hapt hgo
          obtain rfl : n7 = x.n := by have h5 := h7.len; simp only [rotL_len] at h5; have h6 := ULN.out; omega
          obtain rfl : M = n8 := by have h5 := h8.len; simp only [rotL_len] at h5; have h6 := PLN.out; omega
          have htu := ok_tail h1.ok (i := n) (Nat.le_of_lt hnn)
          have htu2 := h1.ok.rd.take (hi := n) (Nat.le_of_lt hnn)
          have htp := ok_tail h1p.ok (i := k) (Nat.le_of_lt hkM)
          have htp2 := h1p.ok.rd.take (hi := k) (Nat.le_of_lt hkM)
          rw [ci64_take] at htu2 htp2
          have hcu := h1.ok.cap
          have hcp := h1p.ok.cap
          have z1 : (n : Int) ≤ (x.n : Int) := by omega
          have z2 : (0 : Int) ≤ (n : Int) := by omega
          have z3 : (x.n : Int) ≤ (c1 : Int) := by have h5 : x.n ≤ c1 := hcu; omega
          have z4 : (n : Int) ≤ (c1 : Int) := by omega
          have z5 : (k : Int) ≤ (M : Int) := by omega
          have z6 : (0 : Int) ≤ (k : Int) := by omega
          have z7 : (M : Int) ≤ (c1p : Int) := by have h5 : M ≤ c1p := hcp; omega
          have z8 : (k : Int) ≤ (c1p : Int) := by omega
          have hn' : n ≤ x.n := Nat.le_of_lt hnn
          have hk' : k ≤ M := Nat.le_of_lt hkM
          have hufit := h1.fit
          have hpfit := h1p.fit
          clear hcu hcp h1 h1p
          obtain ⟨TU, hTU⟩ : ∃ TU, (if c1 = n then A1 else Option.map (fun x : Addr => x.add n) A1) = TU := ⟨_, rfl⟩
          obtain ⟨TP, hTP⟩ : ∃ TP, (if c1p = k then A1p else Option.map (fun x : Addr => x.add k) A1p) = TP := ⟨_, rfl⟩
          rw [hTU] at htu
          rw [hTP] at htp
          have HTU := Lib.hid hTU
          have HTP := Lib.hid hTP
          clear hTU hTP
          have htu := htu.rd
          have htp := htp.rd
          simp only at htu htp
          have hS : ∀ w', Below v6.heap.size v6 w' → True := fun w' hb => trivial
          go_wp2_with fail
          refine wp_region_ord (S := fun w' => True) [(0, false), (1, true), (2, true), (3, true), (4, true), (5, true), (6, true), (7, true), (8, true), (9, true), (10, true), (11, true), (12, true), (13, true), (14, true), (15, true), (16, true), (17, true), (18, true), (20, true), (21, true), (22, true), (19, false), (23, false), (24, false), (25, true), (26, true), (27, true), (28, true), (29, true), (30, true), (32, true), (33, true), (34, true), (31, false), (35, false), (36, false), (37, true), (38, true)] default (by kernel_rfl) (by kernel_rfl) (by kernel_rfl) (hS _ ((Below.refl _ v6).drew)) ?_
          simp only [getOrd, nth]
          obtain ⟨q1_0, hu0⟩ : ∃ q1_0, q1_0 = v6.drew := ⟨_, rfl⟩
          have b0 : Below v6.heap.size v6 q1_0 := by rw [hu0]; exact ((Below.refl _ v6).drew)
          rw [← hu0]
          clear hu0
          repeat (first | (refine ordS (by rfl) ?_; simp only [Act.put, List.setIfInBounds_toArray, List.set_cons_zero, List.set_cons_succ]) | (refine ordN (by rfl) ?_; simp only [Act.put, List.setIfInBounds_toArray, List.set_cons_zero, List.set_cons_succ]) | (refine ordQ (v := ?_) (by rfl) (fun _ hSw => ?_) ?_; rotate_left; (focus ((have hS1 := hSw); clear hSw; go_simp; (first | done | with_reducible rfl))); simp only [Act.put, List.setIfInBounds_toArray, List.set_cons_zero, List.set_cons_succ]))
          refine ordD (by rfl) ?_
          intro K hK
          go_simp
          have hc := alive10_any q1_0
          refine hc.mono ?_
          rintro e q1_1 ⟨rfl, hb⟩
          have b1 : Below v6.heap.size v6 q1_1 := b0.trans (hb.mono b0.size)
          go_wp2_with fail
          refine hK _ _ (hS _ b1) ?_
          clear hK K hc hb
          try simp only [Act.put, List.setIfInBounds_toArray, List.set_cons_zero, List.set_cons_succ]
          repeat (first | (refine ordS (by rfl) ?_; simp only [Act.put, List.setIfInBounds_toArray, List.set_cons_zero, List.set_cons_succ]) | (refine ordN (by rfl) ?_; simp only [Act.put, List.setIfInBounds_toArray, List.set_cons_zero, List.set_cons_succ]) | (refine ordQ (v := ?_) (by rfl) (fun _ hSw => ?_) ?_; rotate_left; (focus ((have hS1 := hSw); clear hSw; go_simp; (first | done | with_reducible rfl))); simp only [Act.put, List.setIfInBounds_toArray, List.set_cons_zero, List.set_cons_succ]))
          try rw [HTU.out]
          refine ordD (by rfl) ?_
          intro K hK
          have hsz1 := b1.size
          refine wp_app q1_1 _ _ 28 rfl 3 i0 _ 8 Try.underlying28 hi0 hz0 hz1 hz2 rfl v6.heap.size none 0 0 [] rfl (Own.none_ _ _ _ _) TU (x.n - n) (c1 - n) (ci64 (ul.drop n)) rfl (htu.below b1) ?ua1 ?ua2 ?ua3 ?ua4 ?_
          case ua1 => intro u hu; first | (obtain ⟨z, _, rfl⟩ := List.mem_map.1 hu; rfl) | (rw [List.mem_singleton.1 hu]; rfl)
          case ua2 => simp only [maxLen]; omega
          case ua3 => omega
          try case ua4 => first | exact Nat.le_refl _ | assumption | omega
          intro Aua cua q1_2 hown9 hbel9 hfr9 _
          have b2 : Below v6.heap.size v6 q1_2 := b1.trans hbel9
          have hOu : Own q1_2 v6.heap.size 3 Aua (x.n - n) cua (ci64 (ul.drop n)) := by simpa using hown9
          clear hown9 hbel9 hfr9 hsz1
          go_simp
          refine hK _ _ (hS _ b2) ?_
          clear hK K
          try simp only [Act.put, List.setIfInBounds_toArray, List.set_cons_zero, List.set_cons_succ]
          repeat (first | (refine ordS (by rfl) ?_; simp only [Act.put, List.setIfInBounds_toArray, List.set_cons_zero, List.set_cons_succ]) | (refine ordN (by rfl) ?_; simp only [Act.put, List.setIfInBounds_toArray, List.set_cons_zero, List.set_cons_succ]) | (refine ordQ (v := ?_) (by rfl) (fun _ hSw => ?_) ?_; rotate_left; (focus ((have hS1 := hSw); clear hSw; go_simp; (first | done | with_reducible rfl))); simp only [Act.put, List.setIfInBounds_toArray, List.set_cons_zero, List.set_cons_succ]))
          refine ordD (by rfl) ?_
          intro K hK
          have hsz2 := b2.size
          refine wp_app q1_2 _ _ 28 rfl 3 i0 _ 8 Try.underlying28 hi0 hz0 hz1 hz2 rfl v6.heap.size Aua (x.n - n) cua (ci64 (ul.drop n)) rfl hOu A1 n c1 (ci64 (ul.take n)) rfl (htu2.below b2) ?ub1 ?ub2 ?ub3 ?ub4 ?_
          case ub1 => intro u hu; first | (obtain ⟨z, _, rfl⟩ := List.mem_map.1 hu; rfl) | (rw [List.mem_singleton.1 hu]; rfl)
          case ub2 => simp only [maxLen]; omega
          case ub3 => omega
          try case ub4 => first | exact Nat.le_refl _ | assumption | omega
          intro Aub cub q1_3 hown9 hbel9 hfr9 _
          have b3 : Below v6.heap.size v6 q1_3 := b2.trans hbel9
          have hPu : OwnI q1_3 v6.heap.size ⟨Aub, x.n, cub, rotL ul n⟩ := by
            refine ⟨?_, fun z hz => ?_⟩
            · show Own q1_3 v6.heap.size _ Aub x.n cub (ci64 (ul.drop n ++ ul.take n))
              rw [ci64_app, ← Nat.sub_add_cancel hn']; exact hown9
            · rcases List.mem_append.1 hz with hz | hz
              · exact hufit z (List.mem_of_mem_drop hz)
              · exact hufit z (List.mem_of_mem_take hz)
          try rw [Nat.sub_add_cancel hn']
          clear hOu
          clear hown9 hbel9 hfr9 hsz2
          go_simp
          refine hK _ _ (hS _ b3) ?_
          clear hK K
          try simp only [Act.put, List.setIfInBounds_toArray, List.set_cons_zero, List.set_cons_succ]
          repeat (first | (refine ordS (by rfl) ?_; simp only [Act.put, List.setIfInBounds_toArray, List.set_cons_zero, List.set_cons_succ]) | (refine ordN (by rfl) ?_; simp only [Act.put, List.setIfInBounds_toArray, List.set_cons_zero, List.set_cons_succ]) | (refine ordQ (v := ?_) (by rfl) (fun _ hSw => ?_) ?_; rotate_left; (focus ((have hS1 := hSw); clear hSw; go_simp; (first | done | with_reducible rfl))); simp only [Act.put, List.setIfInBounds_toArray, List.set_cons_zero, List.set_cons_succ]))
          refine ordD (by rfl) ?_
          intro K hK
          go_simp
          have hc := sameints_b ⟨A7, x.n, c7, rotL ul n⟩ ⟨Aub, x.n, cub, rotL ul n⟩ q1_3 (h7.below b3).ok hPu.ok
          rw [show Ls.v ⟨A7, x.n, c7, rotL ul n⟩ = .slice A7 x.n c7 from rfl, show Ls.v ⟨Aub, x.n, cub, rotL ul n⟩ = .slice Aub x.n cub from rfl, show (rotL ul n == rotL ul n) = true by simp] at hc
          refine hc.mono ?_
          rintro e q1_4 ⟨rfl, hb⟩
          have b4 : Below v6.heap.size v6 q1_4 := b3.trans (hb.mono b3.size)
          clear hPu
          go_wp2_with fail
          refine hK _ _ (hS _ b4) ?_
          clear hK K hc hb
          try simp only [Act.put, List.setIfInBounds_toArray, List.set_cons_zero, List.set_cons_succ]
          repeat (first | (refine ordS (by rfl) ?_; simp only [Act.put, List.setIfInBounds_toArray, List.set_cons_zero, List.set_cons_succ]) | (refine ordN (by rfl) ?_; simp only [Act.put, List.setIfInBounds_toArray, List.set_cons_zero, List.set_cons_succ]) | (refine ordQ (v := ?_) (by rfl) (fun _ hSw => ?_) ?_; rotate_left; (focus ((have hS1 := hSw); clear hSw; go_simp; (first | done | with_reducible rfl))); simp only [Act.put, List.setIfInBounds_toArray, List.set_cons_zero, List.set_cons_succ]))
          try rw [HTP.out]
          refine ordD (by rfl) ?_
          intro K hK
          have hsz4 := b4.size
          refine wp_app q1_4 _ _ 28 rfl 3 i0 _ 8 Try.underlying28 hi0 hz0 hz1 hz2 rfl v6.heap.size none 0 0 [] rfl (Own.none_ _ _ _ _) TP (M - k) (c1p - k) (ci64 (pl.drop k)) rfl (htp.below b4) ?pa1 ?pa2 ?pa3 ?pa4 ?_
          case pa1 => intro u hu; first | (obtain ⟨z, _, rfl⟩ := List.mem_map.1 hu; rfl) | (rw [List.mem_singleton.1 hu]; rfl)
          case pa2 => simp only [maxLen]; omega
          case pa3 => omega
          try case pa4 => first | exact Nat.le_refl _ | assumption | omega
          intro Apa cpa q1_5 hown9 hbel9 hfr9 _
          have b5 : Below v6.heap.size v6 q1_5 := b4.trans hbel9
          have hOp : Own q1_5 v6.heap.size 3 Apa (M - k) cpa (ci64 (pl.drop k)) := by simpa using hown9
          clear hown9 hbel9 hfr9 hsz4
          go_simp
          refine hK _ _ (hS _ b5) ?_
          clear hK K
          try simp only [Act.put, List.setIfInBounds_toArray, List.set_cons_zero, List.set_cons_succ]
          repeat (first | (refine ordS (by rfl) ?_; simp only [Act.put, List.setIfInBounds_toArray, List.set_cons_zero, List.set_cons_succ]) | (refine ordN (by rfl) ?_; simp only [Act.put, List.setIfInBounds_toArray, List.set_cons_zero, List.set_cons_succ]) | (refine ordQ (v := ?_) (by rfl) (fun _ hSw => ?_) ?_; rotate_left; (focus ((have hS1 := hSw); clear hSw; go_simp; (first | done | with_reducible rfl))); simp only [Act.put, List.setIfInBounds_toArray, List.set_cons_zero, List.set_cons_succ]))
          refine ordD (by rfl) ?_
          intro K hK
          have hsz5 := b5.size
          refine wp_app q1_5 _ _ 28 rfl 3 i0 _ 8 Try.underlying28 hi0 hz0 hz1 hz2 rfl v6.heap.size Apa (M - k) cpa (ci64 (pl.drop k)) rfl hOp A1p k c1p (ci64 (pl.take k)) rfl (htp2.below b5) ?pb1 ?pb2 ?pb3 ?pb4 ?_
          case pb1 => intro u hu; first | (obtain ⟨z, _, rfl⟩ := List.mem_map.1 hu; rfl) | (rw [List.mem_singleton.1 hu]; rfl)
          case pb2 => simp only [maxLen]; omega
          case pb3 => omega
          try case pb4 => first | exact Nat.le_refl _ | assumption | omega
          intro Apb cpb q1_6 hown9 hbel9 hfr9 _
          have b6 : Below v6.heap.size v6 q1_6 := b5.trans hbel9
          have hPp : OwnI q1_6 v6.heap.size ⟨Apb, M, cpb, rotL pl k⟩ := by
            refine ⟨?_, fun z hz => ?_⟩
            · show Own q1_6 v6.heap.size _ Apb M cpb (ci64 (pl.drop k ++ pl.take k))
              rw [ci64_app, ← Nat.sub_add_cancel hk']; exact hown9
            · rcases List.mem_append.1 hz with hz | hz
              · exact hpfit z (List.mem_of_mem_drop hz)
              · exact hpfit z (List.mem_of_mem_take hz)
          try rw [Nat.sub_add_cancel hk']
          clear hOp
          clear hown9 hbel9 hfr9 hsz5
          go_simp
          refine hK _ _ (hS _ b6) ?_
          clear hK K
          try simp only [Act.put, List.setIfInBounds_toArray, List.set_cons_zero, List.set_cons_succ]
          repeat (first | (refine ordS (by rfl) ?_; simp only [Act.put, List.setIfInBounds_toArray, List.set_cons_zero, List.set_cons_succ]) | (refine ordN (by rfl) ?_; simp only [Act.put, List.setIfInBounds_toArray, List.set_cons_zero, List.set_cons_succ]) | (refine ordQ (v := ?_) (by rfl) (fun _ hSw => ?_) ?_; rotate_left; (focus ((have hS1 := hSw); clear hSw; go_simp; (first | done | with_reducible rfl))); simp only [Act.put, List.setIfInBounds_toArray, List.set_cons_zero, List.set_cons_succ]))
          refine ordD (by rfl) ?_
          intro K hK
          go_simp
          have hc := sameints_b ⟨A8, M, c8, rotL pl k⟩ ⟨Apb, M, cpb, rotL pl k⟩ q1_6 (h8.below b6).ok hPp.ok
          rw [show Ls.v ⟨A8, M, c8, rotL pl k⟩ = .slice A8 M c8 from rfl, show Ls.v ⟨Apb, M, cpb, rotL pl k⟩ = .slice Apb M cpb from rfl, show (rotL pl k == rotL pl k) = true by simp] at hc
          refine hc.mono ?_
          rintro e q1_7 ⟨rfl, hb⟩
          have b7 : Below v6.heap.size v6 q1_7 := b6.trans (hb.mono b6.size)
          clear hPp
          go_wp2_with fail
          refine hK _ _ (hS _ b7) ?_
          clear hK K hc hb
          try simp only [Act.put, List.setIfInBounds_toArray, List.set_cons_zero, List.set_cons_succ]
          repeat (first | (refine ordS (by rfl) ?_; simp only [Act.put, List.setIfInBounds_toArray, List.set_cons_zero, List.set_cons_succ]) | (refine ordN (by rfl) ?_; simp only [Act.put, List.setIfInBounds_toArray, List.set_cons_zero, List.set_cons_succ]) | (refine ordQ (v := ?_) (by rfl) (fun _ hSw => ?_) ?_; rotate_left; (focus ((have hS1 := hSw); clear hSw; go_simp; (first | done | with_reducible rfl))); simp only [Act.put, List.setIfInBounds_toArray, List.set_cons_zero, List.set_cons_succ]))
          refine ordE ?_
          replace h7 := h7.below b7
          replace h8 := h8.below b7
          replace hB := hB.trans (b7.mono hB.size)
          clear hS b0 b1 b2 b3 b4 b5 b6 b7
          go_wp2
          go_ret
          exact ⟨rfl, hB⟩

theorem own : ownKnob Try.prog.godebug = none := by kernel_rfl
theorem laidOut : laidOutB Try.prog = true := by kernel_rfl

set_option maxRecDepth 100000 in
theorem lifted (os : Os) (started : os.Started) (H : Type) (enc : TypeId × Value → H) :
    ReturnsInHanded {} Try.checked os 6 .any (Rows.weightsOrderSpec.pre6 enc Try.prog Try.f6 Rows.weightsOrderRow.domain false) (Rows.weightsOrderSpec.post enc Try.prog Try.f6 false true false false) := by
  refine returnsInHanded_of_change (C := Try.checked) own started (by kernel_rfl) Try.func6
    (ChangeSpec.witness6 (enc := enc) (C := Try.checked) false ⟨#[], #[.agg #[.slice none 0 0, .int .i64 0], .int .u8 0, .int .u8 0], []⟩ 8 (by kernel_rfl) (by kernel_rfl) (by kernel_rfl) (by kernel_rfl)) ?_
  intro W base args ds gs before hval0 hW hcnd _
  have hval : ∀ (j : Nat) t v, Try.f6.params[j]? = some t → args[j]? = some v → Value.okWide Try.prog W .any base t v := hval0
  have hW' := hW
  obtain ⟨p, q, hA0, hV, rfl, hfz, hnd⟩ := hW
  have hA : DataW.TrodAll enc Try.prog W 0 (fun _ => true) true Try.f6.params.toList args.toList ds p := hA0
  rw [Try.params6] at hA hval
  obtain ⟨v0, vs0, d0, ds0, p0, q0, hargs, rfl, rfl, h0, r0⟩ := trodAll_cons hA
  obtain ⟨v1, vs1, d1, ds1, p1, q1, rfl, rfl, rfl, h1, r1⟩ := trodAll_cons r0
  obtain ⟨v2, vs2, d2, ds2, p2, q2, rfl, rfl, rfl, h2, r2⟩ := trodAll_cons r1
  obtain ⟨rfl, rfl, rfl⟩ := trodAll_nil r2
  obtain rfl : args = #[v0, v1, v2] := by cases args; simp_all
  obtain ⟨u0, m0, rfl, k0, a0, b0⟩ := arg_gr Try.underlying24 (by kernel_rfl) (by kernel_rfl) Try.underlying22 Try.underlying3 Try.underlying28 (by kernel_rfl) Try.underlying3 (by kernel_rfl) (hval 0 24 v0 rfl rfl) h0
  obtain ⟨x1, rfl, rfl, rfl, w1⟩ := open_int Try.underlying5 (hval 1 5 v1 rfl rfl) h1
  obtain ⟨y1, rfl, z1⟩ := fit_u8 w1
  obtain ⟨x2, rfl, rfl, rfl, w2⟩ := open_int Try.underlying5 (hval 2 5 v2 rfl rfl) h2
  obtain ⟨y2, rfl, z2⟩ := fit_u8 w2
  have hwalk : Calls Try.prog 6 #[.agg #[u0.v, .int .i64 m0], .int .u8 y1, .int .u8 y2] W fun e w' => e = .returned (.bool true) ∧ Below W.heap.size W w' := walk u0 m0 y1 y2 W k0 a0 b0 z1 z2
  refine hwalk.mono fun e W' ⟨he, hg⟩ => ?_
  subst he
  exact ⟨_, rfl, law_post laidOut (by kernel_rfl) hW' rfl rfl (by kernel_rfl) Try.underlying4 hg⟩

theorem over : Rows.weightsOrderRow.holds Try.pinned (OpenSpec.ofChange Rows.weightsOrderSpec) :=
  OpenClaim.holds_of_wide 6 Try.f6 rfl rfl rfl rfl rfl rfl rfl ⟨rfl, rfl, rfl, rfl, rfl⟩ rfl rfl rfl rfl rfl (by kernel_rfl) Try.func6 (by kernel_rfl)
    (of_decide_eq_true (by kernel_rfl)) (by unfold Func.isWrapper; first | (rw [if_pos (by decide +kernel)]; kernel_rfl) | (rw [if_neg (by decide +kernel)]; exact ⟨rfl, rfl⟩))
    (fun os started H enc _ => lifted os started H enc)

theorem proved : Rows.WeightsOrderSaid :=
  over

end Go.Proofs.Ytiaoplghaigclaa.weightsOrder
