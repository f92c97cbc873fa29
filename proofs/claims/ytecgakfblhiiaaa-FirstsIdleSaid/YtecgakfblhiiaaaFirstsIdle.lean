/-
  Proved: salesroomlaw11.FirstsIdle answers true, for any gains, any items, any order, wherever the other one stands, in whatever memory. No other conditions.
-/
import Derived.Test.YtecgakfblhiiaaaRows
import Derived.Test.YtecgakfblhiiaaaLift
import Derived.Test.YtecgakfblhiiaaaAlive11
import Derived.Test.YtecgakfblhiiaaaZeros
import Derived.Test.YtecgakfblhiiaaaFiE
import Derived.Test.YtecgakfblhiiaaaReg2
import Derived.Test.YtecgakfblhiiaaaReg
namespace Go.Proofs.Ytecgakfblhiiaaa.firstsIdle
open Go.ChangeShapes Go.WideShapes Go.ChangeAt Go.RowKit
set_option linter.unusedVariables false

theorem info6_int : (Try.prog.info? 3).map (fun i => (i.zero, i.size, i.bytes)) = some (some (.int .i64 0), 1, 8) := by kernel_rfl
theorem infoI_ints : (Try.prog.info? 25).map (fun i => (i.zero, i.size, i.bytes)) = some (some (.slice none 0 0), 1, 24) := by kernel_rfl
theorem wpList_appw {P : Program} (w : World) {ops : Array Oper} {rest : List Oper} {o : Oper} {a : Act} {Q : Exit → Act → World → Prop} (hw : Region.wanted o (yielded ops a.tmps) = true) (s x : Operand) (t : TypeId)
    (ho : o.op = .call { callee := .builtin .append, args := #[s, x], argTypes := #[t, t] })
    (e : TypeId) (i : TypeInfo) (z : Value) (bytes : Nat) (ht : P.underlying t = some (.slice e)) (hi : P.info? e = some i) (hz : i.zero = some z)
    (hsize : i.size = 1) (hby : i.bytes = bytes) (hzs : z.cells.size = 1)
    (B : Nat) (A : Option Addr) (n c : Nat) (xs : List Value) (hs : a.eval s = .slice A n c) (hown : Own w B e A n c xs)
    (A' : Option Addr) (m c' : Nat) (ys : List Value) (hx : a.eval x = .slice A' m c') (hr : Rd w A' m ys) (h1 : ∀ u ∈ ys, u.oneCell' = true)
    (h63 : n + m ≤ maxLen) (hbytes : (n + m) * bytes ≤ 140737488355328) (hB : B ≤ w.heap.size)
    (h : ∀ A2 c2 w', Own w' B e A2 (n + m) c2 (xs ++ ys) → Below B w w' → wpList P ops Q rest (a.put o.dst (.slice A2 (n + m) c2)) w') : wpList P ops Q (o :: rest) a w :=
  BigFrame.wpList_want hw fun _ hK => wp_app w s x t ho e i z bytes ht hi hz hsize hby hzs B A n c xs hs hown A' m c' ys hx hr h1 h63 hbytes hB fun A2 c2 w' h2 h3 _ _ => hK _ _ (h A2 c2 w' h2 h3)
/-- Gains, with an item that nobody gains by. -/
def idleL (g : List (List Int)) (j : Nat) : List (List Int) := (g.take j).map (· ++ [-1])
theorem idleL_succ {g : List (List Int)} {j : Nat} {l : List Int} (h : g[j]? = some l) : idleL g (j + 1) = idleL g j ++ [l ++ [-1]] := by
  obtain ⟨hj, rfl⟩ := List.getElem?_eq_some_iff.1 h
  rw [idleL, List.take_succ_eq_append_getElem hj, List.map_append]; rfl
def idleA (g : List (List Int)) (m : Nat) : List (List Int) := idleL g g.length ++ [List.replicate (m + 1) (-1)]
theorem idleA_len (g : List (List Int)) (m : Nat) : (idleA g m).length = g.length + 1 := by simp [idleA, idleL]
theorem idleA_may {g : List (List Int)} {m : Nat} (h : mayW g m = true) (h7 : m ≤ 7) (hn7 : g.length ≤ 7) : mayW (idleA g m) ((m : Int) + 1) = true := by
  obtain ⟨h1, h2, h3, h4⟩ := mayW_iff.1 h
  refine mayW_iff.2 ⟨by omega, by omega, by rw [idleA_len]; omega, fun l hl => ?_⟩
  rcases List.mem_append.1 hl with hl | hl
  · rw [idleL, List.take_length] at hl
    obtain ⟨r, hr, rfl⟩ := List.mem_map.1 hl
    obtain ⟨h5, h6⟩ := h4 r hr
    refine ⟨by rw [List.length_append, List.length_singleton]; omega, fun z hz => ?_⟩
    rcases List.mem_append.1 hz with hz | hz
    · exact h6 z hz
    · rw [List.mem_singleton.1 hz]; omega
  · rw [List.mem_singleton.1 hl]
    refine ⟨by rw [List.length_replicate]; omega, fun z hz => ?_⟩
    rw [(List.mem_replicate.1 hz).2]; omega
theorem idleA_gG {g : List (List Int)} {m b c : Nat} (h : mayW g m = true) (hb : b < g.length + 1) (hc : c < m + 1) : gG (idleA g m) b c = idleG (gG g) m g.length b c := by
  unfold idleG
  by_cases e : b = g.length
  · subst e
    rw [if_pos (.inl rfl), gG_at (l := List.replicate (m + 1) (-1)) (by rw [idleA, List.getElem?_append_right (by simp [idleL])]; simp [idleL]), List.getD_eq_getElem?_getD, List.getElem?_replicate, if_pos hc]; rfl
  · have hb' : b < g.length := by omega
    have hl := (may_row h hb').1
    rw [gG_at (l := g[b] ++ [-1]) (by rw [idleA, List.getElem?_append_left (by simp [idleL]; omega), idleL, List.take_length, List.getElem?_map, List.getElem?_eq_getElem hb']; rfl), List.getD_eq_getElem?_getD]
    by_cases e2 : c = m
    · subst e2
      rw [if_pos (.inr rfl), List.getElem?_append_right (by omega), hl, Nat.sub_self]; rfl
    · rw [if_neg (fun h => h.elim e e2), List.getElem?_append_left (by omega), gG, List.getD_eq_getElem?_getD (l := g), List.getElem?_eq_getElem hb', ← List.getD_eq_getElem?_getD]; rfl
theorem rep_succ (m : Nat) : List.replicate m (-1 : Int) ++ [-1] = List.replicate (m + 1) (-1) := (List.replicate_succ' ..).symm
theorem ok_tail {w : World} {u : Ls} (h : u.Ok w) {i : Nat} (hi : i ≤ u.n) : Ls.Ok w ⟨if u.c = i then u.A else u.A.map (fun x => x.add i), u.n - i, u.c - i, u.zs.drop i⟩ := by
  have hl := h.rd.len
  rw [ci64_len] at hl
  have hc := h.cap
  have ht := h.top
  refine ⟨?_, ?_, ?_, fun z hz => h.fit z (List.mem_of_mem_drop hz)⟩
  · show Rd w _ _ (ci64 (u.zs.drop i))
    have h2 := h.rd.cut (lo := i) (hi := u.n) (cap := u.c) hi (Nat.le_refl _) hc
    rw [show ((ci64 u.zs).drop i).take (u.n - i) = ci64 (u.zs.drop i) by
      rw [List.take_of_length_le (by rw [List.length_drop, ci64_len]; omega)]; exact (List.map_drop ..).symm] at h2
    exact h2
  · show u.n - i ≤ u.c - i
    omega
  · show u.c - i ≤ maxLen
    omega
/-- One is put into an order. -/
def insO (o : List Int) (k : Nat) (n : Int) : List Int := o.take k ++ [n] ++ o.drop k
theorem insO_who (o : List Int) (k n : Nat) : whoN (insO o k n) = (whoN o).take k ++ n :: (whoN o).drop k := by
  simp [whoN, insO]
theorem insO_ord {o : List Int} {k n : Nat} (h : ordB o n = true) : ordB (insO o k n) (n + 1) = true := by
  obtain ⟨h1, h2⟩ := ordB_iff.1 h
  have h3 := ord_in h
  have htimes : ∀ i : Int, times (insO o k n) i = times o i + if (n : Int) = i then 1 else 0 := fun i => by
    have h4 : times o i = times (o.take k) i + times (o.drop k) i := by
      rw [times, times, times, ← List.countP_append, List.take_append_drop]
    rw [h4, insO, times, List.countP_append, List.countP_append, List.countP_cons, List.countP_nil]
    show times (o.take k) i + _ + times (o.drop k) i = _
    by_cases e : (n : Int) = i
    · simp [e]; omega
    · simp [e]
  refine ordB_iff.2 ⟨?_, fun i hi => ?_⟩
  · simp only [insO, List.length_append, List.length_take, List.length_drop, List.length_singleton]; omega
  · rw [htimes]
    by_cases e : i = n
    · subst e
      rw [if_pos rfl]
      have : times o (i : Int) = 0 := by
        rw [times, List.countP_eq_zero]
        intro z hz
        have := h3 z hz
        simp only [decide_eq_true_eq]; omega
      omega
    · rw [if_neg (by omega), h2 i (by omega)]
theorem idle_first {g : List (List Int)} {m k : Nat} {o : List Int} (h : mayF g m o = true) (h7 : m ≤ 7) (hn7 : g.length ≤ 7) :
    fErr (idleA g m) ((m : Int) + 1) (insO o k g.length) = 0 ∧ firstE (idleA g m) ((m : Int) + 1) (insO o k g.length) = firstE g m o ++ [-1] := by
  obtain ⟨h1, h2⟩ := mayF_iff.1 h
  have hm := idleA_may h1 h7 hn7
  rw [show ((m : Int) + 1) = ((m + 1 : Nat) : Int) from rfl] at hm ⊢
  have hf : mayF (idleA g m) ((m + 1 : Nat) : Int) (insO o k g.length) = true := mayF_iff.2 ⟨hm, by rw [idleA_len]; exact insO_ord h2⟩
  refine ⟨(fi_ok hf).1, ?_⟩
  have hR : IdleR m g.length (gG g) (gG (idleA g m)) := by
    refine ⟨fun b c hb hc _ => ?_, fun b hb => ?_, fun c hc => ?_⟩
    · rw [idleA_gG h1 (by omega) (by omega), idleG, if_neg (by omega)]
    · rw [idleA_gG h1 (by omega) (by omega), idleG, if_pos (.inr rfl)]; omega
    · rw [idleA_gG h1 (by omega) (by omega), idleG, if_pos (.inl rfl)]; omega
  rw [(fi_ok hf).2, (fi_ok h).2, idleA_len, List.range_succ, List.map_append]
  congr 1
  · refine List.map_congr_left fun b hb => ?_
    rw [firstV, firstV, insO_who, idleA_len, first_idle hR (by rw [List.take_append_drop]; exact ord_lt h2) (List.mem_range.1 hb), List.take_append_drop]
  · show [optI (firstV (idleA g m) (m + 1) (insO o k g.length) g.length)] = [_]
    rw [firstV, insO_who, idleA_len, first_idle_last hR]; rfl

set_option maxRecDepth 100000 in
set_option maxHeartbeats 4000000 in
theorem walk (x : Gr) (m : Int) (y : Ls) (tt : Nat) (w : World) (h : x.Ok w) (hm1 : -9223372036854775808 ≤ m) (hm2 : m ≤ 9223372036854775807) (h1' : y.Ok w) (ht : tt < 256) :
    Calls Try.prog 9 #[.agg #[x.v, .int .i64 m], y.v, .int .u8 tt] w fun e w' => e = .returned (.bool true) ∧ Below w.heap.size w w' := by
  have hx := h
  have hy := h1'
  have hB := Below.refl w.heap.size w
  have hxv : x.v = .slice x.A x.n x.c := rfl
  have hyv : y.v = .slice y.A y.n y.c := rfl
  have Vx := Lib.hid hxv
  have Vy := Lib.hid hyv
  rw [hxv, hyv]
  have hgl := h.glen
  have HGL := Lib.hid hgl
  have HYL := Lib.hid hy.len
  have htop := Nat.le_trans h.cap h.top
  have ttop := Nat.le_trans hy.cap hy.top
  unfold maxLen at htop ttop
  obtain ⟨B, hB0⟩ : ∃ B, mayF x.g m y.zs = B := ⟨_, rfl⟩
  clear hxv hyv hgl h h1'
  go_enter Try.func9, Try.ntmps9
  have bg := WBox.new w x m
  have hbx : Below w.heap.size w (w.alloc (.cells #[.slice x.A x.n x.c, .int .i64 m] 24)) := (Below.refl _ w).alloc (Nat.le_refl _) _
  replace hx := hx.below hbx
  replace hy := hy.below hbx
  replace hB := hB.trans (hbx.mono hB.size)
  clear hbx
  cases B
  · have E1 := Lib.hid (fi_bad hB0)
    obtain ⟨f0, hf0⟩ : ∃ q, wErr x.g m = q := ⟨_, rfl⟩
    obtain ⟨a0, ha0⟩ : ∃ q, bestE x.g m = q := ⟨_, rfl⟩
    have EF := Lib.hid hf0
    have EA := Lib.hid ha0
    clear hB0 hf0 ha0
    have eg0 := bg.c0
    have eg1 := bg.c1
    have hc := pfirstC x m y (w.alloc (.cells #[.slice x.A x.n x.c, .int .i64 m] 24)) hx (by omega) (by omega) hy
    rw [Vx.out, Vy.out, E1.out.1, E1.out.2] at hc
    go_wp2_with fail
    clear eg0 eg1
    generalize w.alloc (.cells #[.slice x.A x.n x.c, .int .i64 m] 24) = W1 at *
    refine hc.mono ?_
    rintro e v2 ⟨A1, n1, c1, rfl, h1, hb⟩
    clear hc
    replace hx := hx.below hb
    replace hy := hy.below hb
    replace bg := bg.below hb
    replace hB := hB.trans (hb.mono hB.size)
    clear hb
    have eg0 := bg.c0
    have eg1 := bg.c1
    have hc := alive11_any v2
    go_wp2_with fail
    clear eg0 eg1
    refine hc.mono ?_
    rintro e v3 ⟨rfl, hb⟩
    clear hc
    replace hx := hx.below hb
    replace hy := hy.below hb
    replace h1 := h1.below hb
    replace bg := bg.below hb
    replace hB := hB.trans (hb.mono hB.size)
    clear hb
    have eg0 := bg.c0
    have eg1 := bg.c1
    go_wp2
    go_ret
    exact ⟨rfl, hB⟩
  · obtain ⟨hBw, hBo⟩ := mayF_iff.1 hB0
    obtain ⟨M, rfl⟩ : ∃ M : Nat, m = M := ⟨m.toNat, by have := (mayW_iff.1 hBw).1; omega⟩
    have HB0 := Lib.hid hB0
    have HBW := Lib.hid hBw
    have HBO := Lib.hid hBo
    obtain ⟨hM1, hM8, hx8⟩ := may_m hBw
    rw [HGL.out] at hx8
    have EE := Lib.hid (we_ok hBw).2.1
    have FE := Lib.hid (fi_ok hB0).1
    obtain ⟨a0, ha0⟩ : ∃ a, bestE x.g M = a := ⟨_, rfl⟩
    obtain ⟨hl, hhl⟩ : ∃ a, firstE x.g M y.zs = a := ⟨_, rfl⟩
    have EB := Lib.hid ha0
    have EH := Lib.hid hhl
    have FO := Lib.hid (show FirstOf (gG x.g) M x.n (whoN y.zs) (firstV x.g M y.zs) from by rw [← HGL.out]; exact first_is hB0)
    have HLN : Hid (hl.length = x.n) := Lib.hid (by rw [← hhl, firstE_len hB0, HGL.out])
    have HGET : Hid (∀ b, b < x.n → hl[b]? = some (optI (firstV x.g M y.zs b))) := Lib.hid (fun b hb => by rw [← hhl, firstE_get hB0 (by rw [HGL.out]; exact hb)])
    have HFIT : Hid (∀ b, b < x.n → -1 ≤ optI (firstV x.g M y.zs b) ∧ optI (firstV x.g M y.zs b) < M) := Lib.hid (fun b hb => optI_fit hB0 (by rw [HGL.out]; exact hb))
    have BV : Hid (a0 = bestV (gG x.g) M x.n) := Lib.hid (by rw [← ha0, (we_ok hBw).1, HGL.out])
    have hab : 0 ≤ a0 ∧ a0 ≤ 8000000 := by rw [← ha0, (we_ok hBw).1]; exact best_bound hBw
    have hyn : y.n = x.n := by have h1 := (ordB_iff.1 hBo).1; rw [HYL.out, HGL.out] at h1; exact h1
    have HYN := Lib.hid hyn
    have HRW : Hid (∀ u ∈ x.t, u.n = M) := Lib.hid (fun u hu => by
      have h1 := (mayW_iff.1 hBw).2.2.2 u.zs (by rw [Gr.g, Ls.all]; exact List.mem_map_of_mem hu)
      have h2 := (hx.lss.ok u hu).len
      omega)
    clear hB0 hBw hBo ha0 hhl hm1 hm2 hyn
    have eg0 := bg.c0
    have eg1 := bg.c1
    have hc := pfirstC x M y (w.alloc (.cells #[.slice x.A x.n x.c, .int .i64 (M : Int)] 24)) hx (by omega) (by omega) hy
    rw [Vx.out, Vy.out, FE.out, EH.out] at hc
    go_wp2_with fail
    clear eg0 eg1
    generalize w.alloc (.cells #[.slice x.A x.n x.c, .int .i64 (M : Int)] 24) = W1 at *
    refine hc.mono ?_
    rintro e v2 ⟨A1, n1, c1, rfl, h1, hb⟩
    clear hc
    replace hx := hx.below hb
    replace hy := hy.below hb
    replace bg := bg.below hb
    replace hB := hB.trans (hb.mono hB.size)
    clear hb
    obtain rfl : n1 = x.n := by have h5 := h1.len; have h6 := HLN.out; simp only at h5; omega
    by_cases q7 : 7 < M
    · have gn : decide ((7 : Int) < (M : Int)) = true := decide_eq_true (by omega)
      have gnn : decide (7 < M) = true := decide_eq_true q7
      have eg0 := bg.c0
      have eg1 := bg.c1
      have hc := alive11_any v2
      go_wp2_with fail
      clear eg0 eg1
      refine hc.mono ?_
      rintro e v3 ⟨rfl, hb⟩
      clear hc
      replace hx := hx.below hb
      replace hy := hy.below hb
      replace h1 := h1.below hb
      replace bg := bg.below hb
      replace hB := hB.trans (hb.mono hB.size)
      clear hb
      have eg0 := bg.c0
      have eg1 := bg.c1
      go_wp2
      go_ret
      exact ⟨rfl, hB⟩
    · have gn : decide ((7 : Int) < (M : Int)) = false := decide_eq_false (by omega)
      have gnn : decide (7 < M) = false := decide_eq_false q7
      by_cases r7 : 7 < x.n
      · have gn2 : decide ((7 : Int) < (x.n : Int)) = true := decide_eq_true (by omega)
        have gnn2 : decide (7 < x.n) = true := decide_eq_true r7
        have eg0 := bg.c0
        have eg1 := bg.c1
        have hc := alive11_any v2
        go_wp2_with fail
        clear eg0 eg1
        refine hc.mono ?_
        rintro e v3 ⟨rfl, hb⟩
        clear hc
        replace hx := hx.below hb
        replace hy := hy.below hb
        replace h1 := h1.below hb
        replace bg := bg.below hb
        replace hB := hB.trans (hb.mono hB.size)
        clear hb
        have eg0 := bg.c0
        have eg1 := bg.c1
        go_wp2
        go_ret
        exact ⟨rfl, hB⟩
      · have gn2 : decide ((7 : Int) < (x.n : Int)) = false := decide_eq_false (by omega)
        have gnn2 : decide (7 < x.n) = false := decide_eq_false r7
        obtain ⟨i0, hi0, hz0, hz1, hz2⟩ := info_parts info6_int
        obtain ⟨i1, hi1', hy0, hy1, hy2⟩ := info_parts infoI_ints
        obtain ⟨kk, hkk⟩ : ∃ k : Nat, tt % (y.n + 1) = k := ⟨_, rfl⟩
        have hkyn : kk ≤ y.n := by rw [← hkk]; exact Nat.lt_succ_iff.1 (Nat.mod_lt _ (by omega))
        have hyn8 : y.n ≤ 8 := by rw [HYN.out]; exact hx8
        have t1 : ((tt : Int)).tmod ((y.n : Int) + 1) = (kk : Int) := by rw [Int.tmod_eq_emod_of_nonneg (by omega), ← hkk]; simp
        have s1 : IntKind.i64.wrap (tt : Int) = (tt : Int) := by rw [IntKind.wrap_i64]; omega
        have s2 : IntKind.i64.wrap (kk : Int) = (kk : Int) := by rw [IntKind.wrap_i64]; omega
        have s3 : IntKind.i64.wrap ((y.n : Int) + 1) = (y.n : Int) + 1 := by rw [IntKind.wrap_i64]; omega
        have gM : (((y.n : Int) + 1) == 0) = false := by rw [beq_eq_false_iff_ne]; omega
        have gM2 : ((y.n + 1) == 0) = false := by rw [beq_eq_false_iff_ne]; omega
        obtain ⟨f1, f2⟩ := idle_first (k := kk) HB0.out (by omega) (by rw [HGL.out]; omega)
        rw [EH.out, HGL.out] at f2
        rw [HGL.out] at f1
        have F1 := Lib.hid f1
        have F2 := Lib.hid f2
        clear f1 f2 hkk
        have eg0 := bg.c0
        have eg1 := bg.c1
        go_wp2_with fail
        clear eg0 eg1
        go_loopw [9, 10] (fun o v wr => ∃ (i c : Nat) (A : Option Addr) (t : List Ls), i ≤ x.n ∧ v = .int .i64 i ∧ o = .slice A i c ∧ Own wr v2.heap.size 25 A i c (t.map Ls.v) ∧ Hid (∀ u ∈ t, OwnI wr v2.heap.size u) ∧ Hid (Ls.all t = idleL x.g i) ∧ Below v2.heap.size v2 wr) (fun _ v _ => x.n - (intOf v).toNat)
        case atStart => exact ⟨0, 0, none, [], Nat.zero_le _, rfl, rfl, Own.none_ _ _ _ _, Lib.hid (by simp), Lib.hid (by simp [idleL, Ls.all]), Below.refl _ _⟩
        case round =>
          obtain ⟨i, c, A, t, hi, rfl, rfl, hOt, hrows, hall, hbel⟩ := hrel
          have e0 := (bg.below hbel).c0
          have e1 := (bg.below hbel).c1
          have hsz := hbel.size
          by_cases hin : i < x.n
          · have hin' : (i : Int) < x.n := by omega
            have hi0' : (0 : Int) ≤ i := by omega
            obtain ⟨p2, q2, yy, hAx, hgy, hp2, hcx0, hky0⟩ := gr_get (A := x.A) (n := x.n) (c := x.c) (t := x.t) hx rfl hin
            have hcx := (hbel.cell (p := ⟨p2, q2 + i, none⟩) hp2).trans hcx0
            have hky := hky0.below hbel
            have hgi : x.g[i]? = some yy.zs := by
              have h1 : x.g.getD i [] = yy.zs := hgy
              rw [← h1, List.getD_eq_getElem?_getD, List.getElem?_eq_getElem (by rw [HGL.out]; exact hin)]; rfl
            have hyn : yy.n = M := by
              have h1 := hky.len
              obtain ⟨hl, he⟩ := List.getElem?_eq_some_iff.1 hgi
              have h2 := (may_row HBW.out hl).1
              rw [he] at h2
              omega
            have HN := Lib.hid (idleL_succ hgi)
            have hy8 : yy.n ≤ 8 := by omega
            rw [hAx] at e0
            have HAx := Lib.hid hAx
            have hyrd := hky.rd
            have hyfit := hky.fit
            clear hcx0 hky0 hgy hgi hAx hky hyn
            go_wp2_with (at_builtin; go_must (refine wpList_app wr rfl _ _ 25 rfl 3 i0 _ 8 Try.underlying25 hi0 hz0 hz1 hz2 rfl wr.heap.size none 0 0 [] rfl (Own.none_ _ _ _ _) _ yy.n yy.c (ci64 yy.zs) rfl hyrd ?a1 ?a2 ?a3 ?a4 ?_))
            case a1 => intro u hu; obtain ⟨z, _, rfl⟩ := List.mem_map.1 hu; rfl
            case a2 => simp only [maxLen]; omega
            case a3 => omega
            try case a4 => exact Nat.le_refl _
            intro A3 c3 w3 hown3 hbel3 _ _
            have hO3 : Own w3 wr.heap.size 3 A3 yy.n c3 (ci64 yy.zs) := by simpa using hown3
            have hsz3 := hbel3.size
            clear hown3
            go_wp2_with (at_builtin; go_must (refine wpList_app1 w3 rfl _ _ 25 rfl 3 i0 _ 8 Try.underlying25 hi0 hz0 hz1 hz2 rfl wr.heap.size A3 yy.n c3 _ rfl hO3 1 rfl rfl ?b1 ?b2 ?b3 ?_))
            case b1 => simp only [maxLen]; omega
            case b2 => omega
            try case b3 => exact hsz3
            intro A4 c4 w4 hown4 hbel4 _ _
            have hO4 : OwnI w4 wr.heap.size ⟨A4, yy.n + 1, c4, yy.zs ++ [-1]⟩ := by
              refine ⟨?_, fun z hz => ?_⟩
              · show Own w4 wr.heap.size _ A4 (yy.n + 1) c4 (ci64 (yy.zs ++ [-1]))
                rw [ci64_app]; exact hown4
              · rcases List.mem_append.1 hz with hz | hz
                · exact hyfit z hz
                · rw [List.mem_singleton.1 hz]; omega
            have hb4 : Below wr.heap.size wr w4 := hbel3.trans hbel4
            have hOt4 := hOt.below hb4
            have hrows4 : ∀ u ∈ t, OwnI w4 v2.heap.size u := fun u hu => (hrows.out u hu).below hb4
            have hsz4 : v2.heap.size ≤ w4.heap.size := Nat.le_trans hsz hb4.size
            have hbV4 := hbel.trans (hb4.mono hsz)
            clear hown4 hbel3 hbel4 hO3 hOt hrows
            go_wp2_with (at_builtin; go_must (refine wpList_app1 w4 rfl _ _ 22 rfl 25 i1 _ 24 Try.underlying22 hi1' hy0 hy1 hy2 rfl v2.heap.size A i c _ rfl hOt4 1 rfl rfl ?d1 ?d2 ?d3 ?_))
            case d1 => simp only [maxLen]; omega
            case d2 => omega
            try case d3 => exact hsz4
            intro A5 c5 w5 hown5 hbel5 hfr5 _
            have hbV5 := hbV4.trans hbel5
            have hT : Own w5 v2.heap.size 25 A5 (i + 1) c5 ((t ++ [(⟨A4, yy.n + 1, c4, yy.zs ++ [-1]⟩ : Ls)]).map Ls.v) := by rw [List.map_append]; exact hown5
            have HR5 : Hid (∀ u ∈ t ++ [⟨A4, yy.n + 1, c4, yy.zs ++ [-1]⟩], OwnI w5 v2.heap.size u) := Lib.hid (fun u hu => by
              rcases List.mem_append.1 hu with hu | hu
              · exact (hrows4 u hu).app hOt4 hfr5
              · rw [List.mem_singleton.1 hu]
                exact (hO4.app hOt4 hfr5).mono hsz)
            have HA5 : Hid (Ls.all (t ++ [⟨A4, yy.n + 1, c4, yy.zs ++ [-1]⟩]) = idleL x.g (i + 1)) := Lib.hid (by
              rw [HN.out, ← hall.out]; simp [Ls.all])
            clear hown5 hbel5 hfr5 hO4 hOt4 hrows4 hb4 hbV4 hall e0 e1 hcx hyrd hyfit
            go_wp2
            go_roundw
            case rel => exact ⟨i + 1, c5, A5, _, by omega, by go_num, rfl, hT, HR5, HA5, hbV5⟩
            case measure => simp [intOf]; omega
          · obtain rfl : i = x.n := by omega
            have hall2 : Hid (Ls.all t = idleL x.g x.g.length) := Lib.hid (by rw [hall.out, HGL.out])
            have sM : IntKind.i64.wrap ((M : Int) + 1) = (M : Int) + 1 := by rw [IntKind.wrap_i64]; omega
            obtain ⟨wo, rfl⟩ : ∃ wo, wo = wr := ⟨_, rfl⟩
            clear hall
            go_wp2_with fail
            clear e0 e1
            go_loopw [11, 12] (fun o v wr => ∃ (k c : Nat) (A : Option Addr), k ≤ M + 1 ∧ v = .int .i64 k ∧ o = .slice A k c ∧ Own wr wo.heap.size 3 A k c (ci64 (List.replicate k (-1))) ∧ Below wo.heap.size wo wr) (fun _ v _ => M + 1 - (intOf v).toNat)
            case atStart => exact ⟨0, 0, none, Nat.zero_le _, rfl, rfl, Own.none_ _ _ _ _, Below.refl _ _⟩
            case round =>
              obtain ⟨k, ck, Ak, hk, rfl, rfl, hOk, hbk⟩ := hrel
              have hbVk := hbel.trans (hbk.mono hsz)
              have e0 := (bg.below hbVk).c0
              have e1 := (bg.below hbVk).c1
              have hk0 : (0 : Int) ≤ k := by omega
              by_cases hkn : k < M + 1
              · have hkn' : decide ((k : Int) ≤ (M : Int)) = true := decide_eq_true (by omega)
                have hszk := hbk.size
                go_wp2_with (at_builtin; go_must (refine wpList_app1 wr rfl _ _ 25 rfl 3 i0 _ 8 Try.underlying25 hi0 hz0 hz1 hz2 rfl wo.heap.size Ak k ck _ rfl hOk 1 rfl rfl ?f1 ?f2 ?f3 ?_))
                case f1 => simp only [maxLen]; omega
                case f2 => omega
                try case f3 => exact hszk
                intro A6 c6 w6 hown6 hbel6 _ _
                have hO6 : Own w6 wo.heap.size 3 A6 (k + 1) c6 (ci64 (List.replicate (k + 1) (-1))) := by
                  rw [← rep_succ, ci64_app]; exact hown6
                have hb6 := hbk.trans hbel6
                clear hown6 hbel6 hOk hbk e0 e1
                go_wp2
                go_roundw
                case rel => exact ⟨k + 1, c6, A6, by omega, by go_num, rfl, hO6, hb6⟩
                case measure => simp [intOf]; omega
              · obtain rfl : k = M + 1 := by omega
                have hkn' : decide (((M + 1 : Nat) : Int) ≤ (M : Int)) = false := decide_eq_false (by omega)
                have hOr : OwnI wr wo.heap.size ⟨Ak, M + 1, ck, List.replicate (M + 1) (-1)⟩ := ⟨hOk, fun z hz => by rw [(List.mem_replicate.1 hz).2]; omega⟩
                have hOt4 := hOt.below hbk
                have hrows4 : ∀ u ∈ t, OwnI wr v2.heap.size u := fun u hu => (hrows.out u hu).below hbk
                have hsz4 : v2.heap.size ≤ wr.heap.size := Nat.le_trans hsz hbk.size
                clear hOk
                obtain ⟨V9, hV9⟩ : ∃ q, q = wr := ⟨_, rfl⟩
                subst hV9
                have hyy9 := hy.below hbVk
                clear hbk hOt hrows
                have htk := hyy9.rd.take (hi := kk) hkyn
                rw [ci64_take] at htk
                have htl := ok_tail hyy9 (i := kk) hkyn
                have hyfit9 := hyy9.fit
                have z1 : (kk : Int) ≤ (y.n : Int) := by omega
                have z2 : (0 : Int) ≤ (kk : Int) := by omega
                have z3 : (y.n : Int) ≤ (y.c : Int) := by have h5 := hyy9.cap; omega
                have z4 : (kk : Int) ≤ (y.c : Int) := by omega
                obtain ⟨TA, hTA⟩ : ∃ TA, (if y.c = kk then y.A else Option.map (fun q : Addr => q.add kk) y.A) = TA := ⟨_, rfl⟩
                rw [hTA] at htl
                have hS : ∀ w', Below V9.heap.size V9 w' → w'.cell? ⟨w.heap.size, 0, none⟩ = some (.slice x.A x.n x.c) ∧ w'.cell? ⟨w.heap.size, 1, none⟩ = some (.int .i64 (M : Int)) := fun w' hb => ⟨(bg.below (hbVk.trans (hb.mono hbVk.size))).c0, (bg.below (hbVk.trans (hb.mono hbVk.size))).c1⟩
                go_wp2_with fail
                clear e0 e1
                refine wp_region_tr (S := fun w' => w'.cell? ⟨w.heap.size, 0, none⟩ = some (.slice x.A x.n x.c) ∧ w'.cell? ⟨w.heap.size, 1, none⟩ = some (.int .i64 (M : Int))) (.q 0 (.q 1 (.q 2 (.q 4 (.q 5 (.q 6 (.q 9 (.q 10 (.q 11 (.b 3 7 (.d 7 (.d 8 (.d 12 (.q 13 .nil)))) (.d 3 (.d 8 (.d 12 (.q 13 .nil)))))))))))))) default (by kernel_rfl) (by kernel_rfl) (by kernel_rfl) (hS _ (Below.refl _ V9).drew) ?_
                simp only [getTr, nth]
                repeat (first | (refine trS (by rfl) ?_; simp only [Act.put, List.setIfInBounds_toArray, List.set_cons_zero, List.set_cons_succ]) | (refine trN (by rfl) ?_; simp only [Act.put, List.setIfInBounds_toArray, List.set_cons_zero, List.set_cons_succ]) | (refine trQ (v := ?_) (by rfl) (fun _ hSw => ?_) ?_; rotate_left; (focus ((have hS1 := hSw.1); (have hS2 := hSw.2); clear hSw; go_simp; (first | done | with_reducible rfl))); simp only [Act.put, List.setIfInBounds_toArray, List.set_cons_zero, List.set_cons_succ]))
                try rw [hTA]
                obtain ⟨wq, hwq⟩ : ∃ q, q = V9.drew := ⟨_, rfl⟩
                have hqq : Below V9.heap.size V9 wq := by rw [hwq]; exact (Below.refl _ V9).drew
                rw [← hwq]
                clear hwq hTA
                refine trB ?_ ?_
                refine trD (by rfl) ?_
                intro K hK
                refine wp_app wq _ _ 25 rfl 3 i0 _ 8 Try.underlying25 hi0 hz0 hz1 hz2 rfl wq.heap.size none 0 0 [] (by rfl) (Own.none_ _ _ _ _) _ kk y.c (ci64 (y.zs.take kk)) (by rfl) (htk.below hqq) ?a1 ?a2 ?a3 ?a4 ?_
                case a1 => intro u hu; first | (obtain ⟨z, _, rfl⟩ := List.mem_map.1 hu; rfl) | (rw [List.mem_singleton.1 hu]; rfl)
                case a2 => simp only [maxLen]; omega
                case a3 => omega
                try case a4 => exact Nat.le_refl _
                intro Aa ca wa howna hbela _ _
                have hOa : Own wa wq.heap.size 3 Aa kk ca (ci64 (y.zs.take kk)) := by simpa using howna
                have hba : Below V9.heap.size V9 wa := hqq.trans (hbela.mono hqq.size)
                try simp only [Nat.zero_add]
                go_simp
                refine hK _ _ (hS _ hba) ?_
                clear hK K howna
                try simp only [Act.put, List.setIfInBounds_toArray, List.set_cons_zero, List.set_cons_succ]
                refine trD (by rfl) ?_
                intro K hK
                go_simp
                have hbl : Below V9.heap.size V9 (wa.alloc (.cells #[.int .i64 (x.n : Int)] 3)) := hba.alloc hba.size _
                have hlr : Rd (wa.alloc (.cells #[.int .i64 (x.n : Int)] 3)) (some ⟨wa.heap.size, 0, none⟩) 1 [.int .i64 (x.n : Int)] := (Own.lit (B := 0) wa 3 #[.int .i64 (x.n : Int)] 1 (Nat.zero_le _) rfl (by unfold maxLen; omega)).rd
                have hszl : wq.heap.size ≤ (wa.alloc (.cells #[.int .i64 (x.n : Int)] 3)).heap.size := by have h5 := hbela.size; rw [World.size_alloc]; omega
                refine hK _ _ (hS _ hbl) ?_
                clear hK K
                try simp only [Act.put, List.setIfInBounds_toArray, List.set_cons_zero, List.set_cons_succ]
                refine trD (by rfl) ?_
                intro K hK
                refine wp_app (wa.alloc (.cells #[.int .i64 (x.n : Int)] 3)) _ _ 25 rfl 3 i0 _ 8 Try.underlying25 hi0 hz0 hz1 hz2 rfl wq.heap.size Aa kk ca (ci64 (y.zs.take kk)) (by rfl) (hOa.alloc _) _ 1 1 [.int .i64 (x.n : Int)] (by rfl) hlr ?b1 ?b2 ?b3 ?b4 ?_
                case b1 => intro u hu; first | (obtain ⟨z, _, rfl⟩ := List.mem_map.1 hu; rfl) | (rw [List.mem_singleton.1 hu]; rfl)
                case b2 => simp only [maxLen]; omega
                case b3 => omega
                try case b4 => exact hszl
                intro Ab cb wb hownb hbelb _ _
                have hOb : Own wb V9.heap.size 3 Ab (kk + 1) cb ((ci64 (y.zs.take kk)) ++ [.int .i64 (x.n : Int)]) := hownb.mono hqq.size
                have hbb : Below V9.heap.size V9 wb := hbl.trans (hbelb.mono hqq.size)
                go_simp
                refine hK _ _ (hS _ hbb) ?_
                clear hK K hownb
                try simp only [Act.put, List.setIfInBounds_toArray, List.set_cons_zero, List.set_cons_succ]
                clear hOa hba hbela hbl hlr hszl hbelb
                rotate_left
                refine trD (by rfl) ?_
                intro K hK
                go_simp
                have hbl : Below V9.heap.size V9 (wq.alloc (.cells #[.int .i64 (x.n : Int)] 3)) := hqq.alloc hqq.size _
                have hlr : Rd (wq.alloc (.cells #[.int .i64 (x.n : Int)] 3)) (some ⟨wq.heap.size, 0, none⟩) 1 [.int .i64 (x.n : Int)] := (Own.lit (B := 0) wq 3 #[.int .i64 (x.n : Int)] 1 (Nat.zero_le _) rfl (by unfold maxLen; omega)).rd
                refine hK _ _ (hS _ hbl) ?_
                clear hK K
                try simp only [Act.put, List.setIfInBounds_toArray, List.set_cons_zero, List.set_cons_succ]
                refine trD (by rfl) ?_
                intro K hK
                refine wp_app (wq.alloc (.cells #[.int .i64 (x.n : Int)] 3)) _ _ 25 rfl 3 i0 _ 8 Try.underlying25 hi0 hz0 hz1 hz2 rfl (wq.alloc (.cells #[.int .i64 (x.n : Int)] 3)).heap.size none 0 0 [] (by rfl) (Own.none_ _ _ _ _) _ kk y.c (ci64 (y.zs.take kk)) (by rfl) (htk.below hbl) ?c1 ?c2 ?c3 ?c4 ?_
                case c1 => intro u hu; first | (obtain ⟨z, _, rfl⟩ := List.mem_map.1 hu; rfl) | (rw [List.mem_singleton.1 hu]; rfl)
                case c2 => simp only [maxLen]; omega
                case c3 => omega
                try case c4 => exact Nat.le_refl _
                intro Ac cc wc hownc hbelc _ _
                have hOa : Own wc (wq.alloc (.cells #[.int .i64 (x.n : Int)] 3)).heap.size 3 Ac kk cc (ci64 (y.zs.take kk)) := by simpa using hownc
                have hbc : Below V9.heap.size V9 wc := hbl.trans (hbelc.mono hbl.size)
                have hlr3 := hlr.below hbelc
                try simp only [Nat.zero_add]
                go_simp
                refine hK _ _ (hS _ hbc) ?_
                clear hK K hownc
                try simp only [Act.put, List.setIfInBounds_toArray, List.set_cons_zero, List.set_cons_succ]
                refine trD (by rfl) ?_
                intro K hK
                refine wp_app wc _ _ 25 rfl 3 i0 _ 8 Try.underlying25 hi0 hz0 hz1 hz2 rfl (wq.alloc (.cells #[.int .i64 (x.n : Int)] 3)).heap.size Ac kk cc (ci64 (y.zs.take kk)) (by rfl) hOa _ 1 1 [.int .i64 (x.n : Int)] (by rfl) hlr3 ?b1 ?b2 ?b3 ?b4 ?_
                case b1 => intro u hu; first | (obtain ⟨z, _, rfl⟩ := List.mem_map.1 hu; rfl) | (rw [List.mem_singleton.1 hu]; rfl)
                case b2 => simp only [maxLen]; omega
                case b3 => omega
                try case b4 => exact hbelc.size
                intro Ab cb wb hownb hbelb _ _
                have hOb : Own wb V9.heap.size 3 Ab (kk + 1) cb ((ci64 (y.zs.take kk)) ++ [.int .i64 (x.n : Int)]) := hownb.mono hbl.size
                have hbb : Below V9.heap.size V9 wb := hbc.trans (hbelb.mono hbl.size)
                go_simp
                refine hK _ _ (hS _ hbb) ?_
                clear hK K hownb
                try simp only [Act.put, List.setIfInBounds_toArray, List.set_cons_zero, List.set_cons_succ]
                clear hOa hbc hbelc hbl hlr hlr3 hbelb
                all_goals
                  refine trD (by rfl) ?_
                  intro K hK
                  refine wp_app wb _ _ 25 rfl 3 i0 _ 8 Try.underlying25 hi0 hz0 hz1 hz2 rfl V9.heap.size Ab (kk + 1) cb _ (by rfl) hOb _ (y.n - kk) (y.c - kk) (ci64 (y.zs.drop kk)) (by rfl) (htl.below hbb).rd ?_ ?_ ?_ ?_ ?_
                  · intro u hu; obtain ⟨z, _, rfl⟩ := List.mem_map.1 hu; rfl
                  · simp only [maxLen]; omega
                  · omega
                  · exact hbb.size
                  intro Ad cd9 wd hownd hbeld _ _
                  have hbd : Below V9.heap.size V9 wd := hbb.trans hbeld
                  have hod : OwnI wd V9.heap.size ⟨Ad, kk + 1 + (y.n - kk), cd9, insO y.zs kk x.n⟩ := by
                    refine ⟨?_, fun z hz => ?_⟩
                    · show Own wd V9.heap.size _ Ad _ cd9 (ci64 (insO y.zs kk x.n))
                      rw [insO, ci64_app, ci64_app]; exact hownd
                    · have hz : z ∈ y.zs.take kk ++ [(x.n : Int)] ++ y.zs.drop kk := hz
                      rcases List.mem_append.1 hz with hz | hz
                      · rcases List.mem_append.1 hz with hz | hz
                        · exact hyfit9 z (List.mem_of_mem_take hz)
                        · rw [List.mem_singleton.1 hz]; omega
                      · exact hyfit9 z (List.mem_of_mem_drop hz)
                  go_simp
                  refine hK _ _ (hS _ hbd) ?_
                  clear hK K hownd hbeld hOb hbb
                  try simp only [Act.put, List.setIfInBounds_toArray, List.set_cons_zero, List.set_cons_succ]
                  repeat (first | (refine trS (by rfl) ?_; simp only [Act.put, List.setIfInBounds_toArray, List.set_cons_zero, List.set_cons_succ]) | (refine trN (by rfl) ?_; simp only [Act.put, List.setIfInBounds_toArray, List.set_cons_zero, List.set_cons_succ]) | (refine trQ (v := ?_) (by rfl) (fun _ hSw => ?_) ?_; rotate_left; (focus ((have hS1 := hSw.1); (have hS2 := hSw.2); clear hSw; go_simp; (first | done | with_reducible rfl))); simp only [Act.put, List.setIfInBounds_toArray, List.set_cons_zero, List.set_cons_succ]))
                  refine trE ?_
                  have hOt5 := hOt4.below hbd
                  have hrows5 : ∀ u ∈ t, OwnI wd v2.heap.size u := fun u hu => (hrows4 u hu).below hbd
                  have hOr5 := hOr.below hbd
                  have hsz5 : v2.heap.size ≤ wd.heap.size := Nat.le_trans hsz4 hbd.size
                  have hbV5 := hbVk.trans (hbd.mono hsz4)
                  have hlen5 : kk + 1 + (y.n - kk) = y.n + 1 := by omega
                  rw [hlen5] at hod
                  try simp only [hlen5]
                  clear hS hOt4 hrows4 hOr hsz4 hbVk hbd htl htk hlen5 hqq
                  have hS2 : ∀ w', Below wd.heap.size wd w' → w'.cell? ⟨w.heap.size, 0, none⟩ = some (.slice x.A x.n x.c) ∧ w'.cell? ⟨w.heap.size, 1, none⟩ = some (.int .i64 (M : Int)) := fun w' hb => ⟨(bg.below (hbV5.trans (hb.mono hbV5.size))).c0, (bg.below (hbV5.trans (hb.mono hbV5.size))).c1⟩
                  go_wp2_with fail
                  refine wp_region_ord (S := fun w' => w'.cell? ⟨w.heap.size, 0, none⟩ = some (.slice x.A x.n x.c) ∧ w'.cell? ⟨w.heap.size, 1, none⟩ = some (.int .i64 (M : Int))) [(0, true), (1, true), (4, true), (5, true), (6, true), (7, true), (2, false), (3, false), (8, false), (9, true), (10, true), (11, true), (12, true), (13, true)] default (by kernel_rfl) (by kernel_rfl) (by kernel_rfl) (hS2 _ (Below.refl _ wd).drew) ?_
                  simp only [getOrd, nth]
                  repeat (first | (refine ordS (by rfl) ?_; simp only [Act.put, List.setIfInBounds_toArray, List.set_cons_zero, List.set_cons_succ]) | (refine ordN (by rfl) ?_; simp only [Act.put, List.setIfInBounds_toArray, List.set_cons_zero, List.set_cons_succ]) | (refine ordQ (v := ?_) (by rfl) (fun _ hSw => ?_) ?_; rotate_left; (focus ((have hS1 := hSw.1); (have hS2 := hSw.2); clear hSw; go_simp; (first | done | with_reducible rfl))); simp only [Act.put, List.setIfInBounds_toArray, List.set_cons_zero, List.set_cons_succ]))
                  obtain ⟨we, hwe⟩ : ∃ q, q = wd.drew := ⟨_, rfl⟩
                  have hde : Below wd.heap.size wd we := by rw [hwe]; exact (Below.refl _ wd).drew
                  rw [← hwe]
                  clear hwe
                  refine ordD (by rfl) ?_
                  intro K hK
                  go_simp
                  have hdf : Below wd.heap.size wd (we.alloc (.cells #[.slice Ak (M + 1) ck] 25)) := hde.alloc hde.size _
                  have hlr2 : Rd (we.alloc (.cells #[.slice Ak (M + 1) ck] 25)) (some ⟨we.heap.size, 0, none⟩) 1 [.slice Ak (M + 1) ck] := (Own.lit (B := 0) we 25 #[.slice Ak (M + 1) ck] 1 (Nat.zero_le _) rfl (by unfold maxLen; omega)).rd
                  refine hK _ _ (hS2 _ hdf) ?_
                  clear hK K
                  try simp only [Act.put, List.setIfInBounds_toArray, List.set_cons_zero, List.set_cons_succ]
                  refine ordD (by rfl) ?_
                  intro K hK
                  have hszf : v2.heap.size ≤ (we.alloc (.cells #[.slice Ak (M + 1) ck] 25)).heap.size := Nat.le_trans hsz5 hdf.size
                  have hOtf := hOt5.below hdf
                  refine wp_app (we.alloc (.cells #[.slice Ak (M + 1) ck] 25)) _ _ 22 rfl 25 i1 _ 24 Try.underlying22 hi1' hy0 hy1 hy2 rfl v2.heap.size A x.n c _ rfl hOtf _ 1 1 [.slice Ak (M + 1) ck] rfl hlr2 ?_ ?_ ?_ ?_ ?_
                  · intro u hu; rw [List.mem_singleton.1 hu]; rfl
                  · simp only [maxLen]; omega
                  · omega
                  · exact hszf
                  intro A5 c5 w5 hown5 hbel5 hfr5 _
                  have hbV6 := (hbV5.trans (hdf.mono hbV5.size)).trans hbel5
                  have hd5 : ∀ w', Below w5.heap.size w5 w' → w'.cell? ⟨w.heap.size, 0, none⟩ = some (.slice x.A x.n x.c) ∧ w'.cell? ⟨w.heap.size, 1, none⟩ = some (.int .i64 (M : Int)) := fun w' hb => ⟨(bg.below (hbV6.trans (hb.mono hbV6.size))).c0, (bg.below (hbV6.trans (hb.mono hbV6.size))).c1⟩
                  have hT : Own w5 v2.heap.size 25 A5 (x.n + 1) c5 ((t ++ [(⟨Ak, M + 1, ck, List.replicate (M + 1) (-1)⟩ : Ls)]).map Ls.v) := by rw [List.map_append]; exact hown5
                  have hgo : Gr.Ok w5 ⟨A5, x.n + 1, c5, t ++ [⟨Ak, M + 1, ck, List.replicate (M + 1) (-1)⟩]⟩ := own_lists hT fun u hu => by
                    rcases List.mem_append.1 hu with hu | hu
                    · exact (((hrows5 u hu).below hdf).app hOtf hfr5).ok
                    · rw [List.mem_singleton.1 hu]
                      exact ((hOr5.below hdf).app hOtf hfr5).ok
                  have HGA : Hid (Gr.g ⟨A5, x.n + 1, c5, t ++ [⟨Ak, M + 1, ck, List.replicate (M + 1) (-1)⟩]⟩ = idleA x.g M) := Lib.hid (by
                    rw [idleA, ← hall2.out]; simp [Gr.g, Ls.all])
                  have hod5 := (hod.below hdf).app hOtf hfr5
                  generalize hG9 : t ++ [(⟨Ak, M + 1, ck, List.replicate (M + 1) (-1)⟩ : Ls)] = t9 at hgo HGA
                  go_simp
                  refine hK _ _ (hd5 _ (Below.refl _ _)) ?_
                  clear hK K hown5 hbel5 hfr5 hlr2 hT hG9 hOtf hOt5 hrows5 hOr5 hdf hde hszf hsz5 hod
                  try simp only [Act.put, List.setIfInBounds_toArray, List.set_cons_zero, List.set_cons_succ]
                  refine ordD (by rfl) ?_
                  intro K hK
                  go_simp
                  have hc := pfirstC ⟨A5, x.n + 1, c5, t9⟩ ((M : Int) + 1) ⟨Ad, y.n + 1, cd9, insO y.zs kk x.n⟩ w5 hgo (by omega) (by omega) hod5.ok
                  rw [show Gr.v ⟨A5, x.n + 1, c5, t9⟩ = .slice A5 (x.n + 1) c5 from rfl, show Ls.v ⟨Ad, y.n + 1, cd9, insO y.zs kk x.n⟩ = .slice Ad (y.n + 1) cd9 from rfl, HGA.out, F1.out, F2.out] at hc
                  refine hc.mono ?_
                  rintro e w6 ⟨A7, n7, c7, rfl, h7, hb⟩
                  go_wp2_with fail
                  refine hK _ _ (hd5 _ hb) ?_
                  clear hK K hc hgo hod5
                  try simp only [Act.put, List.setIfInBounds_toArray, List.set_cons_zero, List.set_cons_succ]
                  repeat (first | (refine ordS (by rfl) ?_; simp only [Act.put, List.setIfInBounds_toArray, List.set_cons_zero, List.set_cons_succ]) | (refine ordN (by rfl) ?_; simp only [Act.put, List.setIfInBounds_toArray, List.set_cons_zero, List.set_cons_succ]) | (refine ordQ (v := ?_) (by rfl) (fun _ hSw => ?_) ?_; rotate_left; (focus ((have hS1 := hSw.1); (have hS2 := hSw.2); clear hSw; go_simp; (first | done | with_reducible rfl))); simp only [Act.put, List.setIfInBounds_toArray, List.set_cons_zero, List.set_cons_succ]))
                  refine ordE ?_
                  have hbV7 := hbV6.trans (hb.mono hbV6.size)
                  have h17 := h1.below hbV7
                  have hB7 := hB.trans (hbV7.mono hB.size)
                  obtain rfl : n7 = x.n + 1 := by have h5 := h7.len; simp only [List.length_append, List.length_singleton] at h5; have h6 := HLN.out; omega
                  clear hb hbV5 hbV6 hS2 hd5 h1 hB
                  have hc := alive11_any w6
                  go_wp2_with fail
                  refine hc.mono ?_
                  rintro e w7 ⟨rfl, hb⟩
                  clear hc
                  have h18 := h17.below hb
                  have h78 := h7.below hb
                  have hB8 := hB7.trans (hb.mono hB7.size)
                  clear hb h17 h7 hB7
                  have hB := hB8
                  clear hB8
                  go_wp2_with (at_builtin; go_must (refine wpList_appw w7 (by rfl) _ _ 25 rfl 3 i0 _ 8 Try.underlying25 hi0 hz0 hz1 hz2 rfl w7.heap.size none 0 0 [] rfl (Own.none_ _ _ _ _) _ x.n c1 (ci64 hl) rfl h18.own.rd ?k1 ?k2 ?k3 ?k4 ?_))
                  case k1 => intro u hu; obtain ⟨z, _, rfl⟩ := List.mem_map.1 hu; rfl
                  case k2 => simp only [maxLen]; omega
                  case k3 => omega
                  try case k4 => exact Nat.le_refl _
                  intro Ak ck wk hownk hbelk
                  have hOk : Own wk w7.heap.size 3 Ak x.n ck (ci64 hl) := by simpa using hownk
                  have hlrk : Rd (wk.alloc (.cells #[.int .i64 (-1)] 3)) (some ⟨wk.heap.size, 0, none⟩) 1 (ci64 [-1]) := (Own.lit (B := 0) wk 3 #[.int .i64 (-1)] 1 (Nat.zero_le _) rfl (by unfold maxLen; omega)).rd
                  have hszlk : w7.heap.size ≤ (wk.alloc (.cells #[.int .i64 (-1)] 3)).heap.size := by rw [World.size_alloc]; have := hbelk.size; omega
                  go_wp2_with (at_builtin; go_must (refine wpList_appw (wk.alloc (.cells #[.int .i64 (-1)] 3)) (by rfl) _ _ 25 rfl 3 i0 _ 8 Try.underlying25 hi0 hz0 hz1 hz2 rfl w7.heap.size Ak x.n ck _ rfl (hOk.alloc _) _ 1 1 (ci64 [-1]) rfl hlrk ?k5 ?k6 ?k7 ?k8 ?_))
                  case k5 => intro u hu; obtain ⟨z, _, rfl⟩ := List.mem_map.1 hu; rfl
                  case k6 => simp only [maxLen]; omega
                  case k7 => omega
                  try case k8 => exact hszlk
                  intro Bk dk xk hownbk hbelbk
                  have hbb : Below w7.heap.size w7 xk := (hbelk.alloc (hbelk.size) _).trans hbelbk
                  have hQk : OwnI xk w7.heap.size ⟨Bk, x.n + 1, dk, hl ++ [-1]⟩ := by
                    refine ⟨?_, fun z hz => ?_⟩
                    · show Own xk w7.heap.size _ Bk (x.n + 1) dk (ci64 (hl ++ [-1]))
                      rw [ci64_app]; exact hownbk
                    · rcases List.mem_append.1 hz with hz | hz
                      · exact h18.fit z hz
                      · rw [List.mem_singleton.1 hz]; omega
                  clear hownk hOk hlrk hszlk hownbk
                  have hb := hbb
                  clear hbb hbelk hbelbk
                  replace h78 := h78.below hb
                  replace hB := hB.trans (hb.mono hB.size)
                  clear hb
                  have hc := sameints_b ⟨A7, x.n + 1, c7, hl ++ [-1]⟩ ⟨Bk, x.n + 1, dk, hl ++ [-1]⟩ xk h78.ok hQk.ok
                  rw [show ((hl ++ [-1]) == (hl ++ [-1])) = true by simp] at hc
                  go_wp2_with fail
                  refine hc.mono ?_
                  rintro e yk ⟨rfl, hb⟩
                  clear hc hQk
                  replace h78 := h78.below hb
                  replace hB := hB.trans (hb.mono hB.size)
                  clear hb
                  go_wp2
                  go_ret
                  exact ⟨rfl, hB⟩

theorem own : ownKnob Try.prog.godebug = none := by kernel_rfl
theorem laidOut : laidOutB Try.prog = true := by kernel_rfl

set_option maxRecDepth 100000 in
theorem lifted (os : Os) (started : os.Started) (H : Type) (enc : TypeId × Value → H) :
    ReturnsInHanded {} Try.checked os 9 .any (Rows.firstsIdleSpec.pre6 enc Try.prog Try.f9 Rows.firstsIdleRow.domain false) (Rows.firstsIdleSpec.post enc Try.prog Try.f9 false true false false) := by
  refine returnsInHanded_of_change (C := Try.checked) own started (by kernel_rfl) Try.func9
    (ChangeSpec.witness6 (enc := enc) (C := Try.checked) false ⟨#[], #[.agg #[.slice none 0 0, .int .i64 0], .slice none 0 0, .int .u8 0], []⟩ 8 (by kernel_rfl) (by kernel_rfl) (by kernel_rfl) (by kernel_rfl)) ?_
  intro W base args ds gs before hval0 hW hcnd _
  have hval : ∀ (j : Nat) t v, Try.f9.params[j]? = some t → args[j]? = some v → Value.okWide Try.prog W .any base t v := hval0
  have hW' := hW
  obtain ⟨p, q, hA0, hV, rfl, hfz, hnd⟩ := hW
  have hA : DataW.TrodAll enc Try.prog W 0 (fun _ => true) true Try.f9.params.toList args.toList ds p := hA0
  rw [Try.params9] at hA hval
  obtain ⟨v0, vs0, d0, ds0, p0, q0, hargs, rfl, rfl, h0, r0⟩ := trodAll_cons hA
  obtain ⟨v1, vs1, d1, ds1, p1, q1, rfl, rfl, rfl, h1, r1⟩ := trodAll_cons r0
  obtain ⟨v2, vs2, d2, ds2, p2, q2, rfl, rfl, rfl, h2, r2⟩ := trodAll_cons r1
  obtain ⟨rfl, rfl, rfl⟩ := trodAll_nil r2
  obtain rfl : args = #[v0, v1, v2] := by cases args; simp_all
  obtain ⟨u0, m0, rfl, k0, a0, b0⟩ := arg_gr Try.underlying24 (by kernel_rfl) (by kernel_rfl) Try.underlying22 Try.underlying3 Try.underlying25 (by kernel_rfl) Try.underlying3 (by kernel_rfl) (hval 0 24 v0 rfl rfl) h0
  obtain ⟨A1, n1, c1, l1, rfl, a1, b1, e1, g1⟩ := arg_i64s Try.underlying25 Try.underlying3 (by kernel_rfl) (hval 1 25 v1 rfl rfl) h1
  obtain ⟨x2, rfl, rfl, rfl, w2⟩ := open_int Try.underlying5 (hval 2 5 v2 rfl rfl) h2
  obtain ⟨y2, rfl, z2⟩ := fit_u8 w2
  have hwalk : Calls Try.prog 9 #[.agg #[u0.v, .int .i64 m0], .slice A1 n1 c1, .int .u8 y2] W fun e w' => e = .returned (.bool true) ∧ Below W.heap.size W w' := walk u0 m0 ⟨A1, n1, c1, l1⟩ y2 W k0 a0 b0 ⟨a1, b1, e1, g1⟩ z2
  refine hwalk.mono fun e W' ⟨he, hg⟩ => ?_
  subst he
  exact ⟨_, rfl, law_post laidOut (by kernel_rfl) hW' rfl rfl (by kernel_rfl) Try.underlying4 hg⟩

theorem over : Rows.firstsIdleRow.holds Try.pinned (OpenSpec.ofChange Rows.firstsIdleSpec) :=
  OpenClaim.holds_of_wide 9 Try.f9 rfl rfl rfl rfl rfl rfl rfl ⟨rfl, rfl, rfl, rfl, rfl⟩ rfl rfl rfl rfl rfl (by kernel_rfl) Try.func9 (by kernel_rfl)
    (of_decide_eq_true (by kernel_rfl)) (by unfold Func.isWrapper; first | (rw [if_pos (by decide +kernel)]; kernel_rfl) | (rw [if_neg (by decide +kernel)]; exact ⟨rfl, rfl⟩))
    (fun os started H enc _ => lifted os started H enc)

theorem proved : Rows.FirstsIdleSaid :=
  over

end Go.Proofs.Ytecgakfblhiiaaa.firstsIdle
