/-
  Proved: salesroomlaw11.FirstsAhead answers true, for any gains, any items and any order, in whatever memory. No other conditions.
-/
import Derived.Test.YtecgakfblhiiaaaRows
import Derived.Test.YtecgakfblhiiaaaLift
import Derived.Test.YtecgakfblhiiaaaAlive11
import Derived.Test.YtecgakfblhiiaaaZeros
import Derived.Test.YtecgakfblhiiaaaFiE
import Derived.Test.YtecgakfblhiiaaaGrN
import Derived.Test.YtecgakfblhiiaaaReg
namespace Go.Proofs.Ytecgakfblhiiaaa.firstsAhead
open Go.ChangeShapes Go.WideShapes Go.ChangeAt Go.RowKit
set_option linter.unusedVariables false

theorem info6_int : (Try.prog.info? 3).map (fun i => (i.zero, i.size, i.bytes)) = some (some (.int .i64 0), 1, 8) := by kernel_rfl
theorem ok_tail {w : World} {u : Ls} (h : u.Ok w) {i : Nat} (hi : i ≤ u.n) : Ls.Ok w ⟨if u.c = i then u.A else u.A.map (fun x => x.add i), u.n - i, u.c - i, u.zs.drop i⟩ := by
  have hl := h.rd.len
  rw [ci64_len] at hl
  have hc := h.cap
  have ht := h.top
  refine ⟨?_, ?_, ?_, fun z hz => h.fit z (List.mem_of_mem_drop hz)⟩
  · show Rd w _ _ (ci64 (u.zs.drop i))
    have h2 := h.rd.cut (lo := i) (hi := u.n) (cap := u.c) hi (Nat.le_refl _) hc
    rw [show ((ci64 u.zs).drop i).take (u.n - i) = ci64 (u.zs.drop i) by
      rw [List.take_of_length_le (by rw [List.length_drop, ci64_len]; omega)]; exact (List.map_drop ..).symm] at h2
    exact h2
  · show u.n - i ≤ u.c - i
    omega
  · show u.c - i ≤ maxLen
    omega
/-- Some of it is a loss. -/
def cutG (G : Nat → Nat → Int) (P : Nat → Nat → Bool) (b c : Nat) : Int := if P b c = true then -1 else G b c
def P0 (w : Nat) (a : Option Nat) (k b c : Nat) : Bool := decide (c < k) && (decide (b = w) || decide (a = some c))
def P1 (w : Nat) (a : Option Nat) (k i b c : Nat) : Bool := P0 w a k b c || (decide (c = k) && (decide (b = w) || (decide (a = some k) && decide (b < i))))
def InvP (g : List (List Int)) (G : Nat → Nat → Int) (n m : Nat) (P : Nat → Nat → Bool) : Prop := ∀ b c, b < n → c < m → gG g b c = cutG G P b c
theorem set_gG {g : List (List Int)} {i k b c : Nat} {v : Int} (hi : i < g.length) (hk : k < (g.getD i []).length) : gG (g.set i ((g.getD i []).set k v)) b c = if b = i ∧ c = k then v else gG g b c := by
  by_cases e : b = i
  · subst e
    rw [gG_at (l := (g.getD b []).set k v) (by rw [List.getElem?_set, if_pos rfl, if_pos hi]), List.getD_eq_getElem?_getD, List.getElem?_set]
    by_cases e2 : c = k
    · subst e2
      rw [if_pos rfl, if_pos hk, if_pos ⟨rfl, rfl⟩]; rfl
    · rw [if_neg (fun h => e2 h.symm), if_neg (fun h => e2 h.2), gG, List.getD_eq_getElem?_getD (l := g.getD b [])]
  · rw [if_neg (fun h => e h.1), gG, gG, List.getD_eq_getElem?_getD (l := g.set i _), List.getElem?_set_ne (fun h => e h.symm), ← List.getD_eq_getElem?_getD]
theorem InvP.put {g : List (List Int)} {G : Nat → Nat → Int} {n m i k : Nat} {P P' : Nat → Nat → Bool} (h : InvP g G n m P) (hi : i < g.length) (hk : k < (g.getD i []).length) (hP : ∀ b c, P' b c = (P b c || (decide (b = i) && decide (c = k)))) : InvP (g.set i ((g.getD i []).set k (-1))) G n m P' := fun b c hb hc => by
  rw [set_gG hi hk, cutG, hP]
  by_cases e : b = i ∧ c = k
  · rw [if_pos e, decide_eq_true e.1, decide_eq_true e.2]; simp
  · rw [if_neg e, h b c hb hc, cutG]
    have h2 : (decide (b = i) && decide (c = k)) = false := by
      rw [Bool.and_eq_false_iff, decide_eq_false_iff_not, decide_eq_false_iff_not]
      by_cases e1 : b = i
      · exact .inr fun e2 => e ⟨e1, e2⟩
      · exact .inl e1
    rw [h2, Bool.or_false]
theorem InvP.to {g : List (List Int)} {G : Nat → Nat → Int} {n m : Nat} {P P' : Nat → Nat → Bool} (h : InvP g G n m P) (hP : ∀ b c, b < n → P b c = P' b c) : InvP g G n m P' := fun b c hb hc => by rw [h b c hb hc, cutG, cutG, hP b c hb]
theorem P1_start (w : Nat) (a : Option Nat) (k b c : Nat) : P1 w a k 0 b c = (P0 w a k b c || (decide (b = w) && decide (c = k))) := by
  rw [P1, Bool.and_comm (decide (b = w))]; simp
theorem P1_step {w k i : Nat} {a : Option Nat} (ha : a = some k) (b c : Nat) : P1 w a k (i + 1) b c = (P1 w a k i b c || (decide (b = i) && decide (c = k))) := by
  rw [P1, P1, Bool.eq_iff_iff]
  simp only [Bool.or_eq_true, Bool.and_eq_true, decide_eq_true_eq]
  constructor
  · rintro (h | ⟨h1, h2 | ⟨_, h2⟩⟩)
    · exact .inl (.inl h)
    · exact .inl (.inr ⟨h1, .inl h2⟩)
    · by_cases e : b = i
      · exact .inr ⟨e, h1⟩
      · exact .inl (.inr ⟨h1, .inr ⟨ha, by omega⟩⟩)
  · rintro ((h | ⟨h1, h2 | ⟨_, h2⟩⟩) | ⟨h1, h2⟩)
    · exact .inl h
    · exact .inr ⟨h1, .inl h2⟩
    · exact .inr ⟨h1, .inr ⟨ha, by omega⟩⟩
    · exact .inr ⟨h2, .inr ⟨ha, by omega⟩⟩
theorem P1_end {w k i n : Nat} {a : Option Nat} (h : a = some k → i = n) (b c : Nat) (hb : b < n) : P1 w a k i b c = P0 w a (k + 1) b c := by
  rw [P1, P0, P0, Bool.eq_iff_iff]
  simp only [Bool.or_eq_true, Bool.and_eq_true, decide_eq_true_eq]
  constructor
  · rintro (⟨h1, h2⟩ | ⟨h1, h2 | ⟨h2, _⟩⟩)
    · exact ⟨by omega, h2⟩
    · exact ⟨by omega, .inl h2⟩
    · exact ⟨by omega, .inr (by rw [h2, h1])⟩
  · rintro ⟨h1, h2⟩
    by_cases e : c = k
    · subst e
      refine .inr ⟨rfl, ?_⟩
      rcases h2 with h2 | h2
      · exact .inl h2
      · exact .inr ⟨h2, by have := h h2; omega⟩
    · exact .inl ⟨by omega, h2⟩
theorem may_put {g : List (List Int)} {m : Int} {i k : Nat} (h : mayW g m = true) (hi : i < g.length) : mayW (g.set i ((g.getD i []).set k (-1))) m = true := by
  obtain ⟨h1, h2, h3, h4⟩ := mayW_iff.1 h
  refine mayW_iff.2 ⟨h1, h2, by rw [List.length_set]; exact h3, fun l hl => ?_⟩
  rcases List.mem_or_eq_of_mem_set hl with hl | rfl
  · exact h4 l hl
  · have h5 : g.getD i [] ∈ g := by rw [List.getD_eq_getElem?_getD, List.getElem?_eq_getElem hi]; exact List.getElem_mem hi
    refine ⟨by rw [List.length_set]; exact (h4 _ h5).1, fun z hz => ?_⟩
    rcases List.mem_or_eq_of_mem_set hz with hz | rfl
    · exact (h4 _ h5).2 z hz
    · omega
theorem ahead_first {g g' : List (List Int)} {m w : Nat} {o : List Int} (h : mayF g m o = true) (hw : o[0]? = some (w : Int)) (hlen : g'.length = g.length) (hm : mayW g' m = true) (hi : InvP g' (gG g) g.length m (P0 w (firstV g m o w) m)) :
    mayF g' m (o.drop 1 ++ [(w : Int)]) = true ∧ ∀ b, b < g.length → (firstE g' m (o.drop 1 ++ [(w : Int)]))[b]? = some (if b = w then -1 else optI (firstV g m o b)) := by
  obtain ⟨h1, h2⟩ := mayF_iff.1 h
  obtain ⟨z, rest, rfl⟩ : ∃ z r, o = z :: r := by
    cases o with
    | nil => simp at hw
    | cons z r => exact ⟨z, r, rfl⟩
  have hz : z = (w : Int) := by simpa using hw
  subst hz
  simp only [List.drop_succ_cons, List.drop_zero]
  obtain ⟨h3, h4⟩ := ordB_iff.1 h2
  have hwn : w < g.length := ord_lt h2 w (by simp [whoN])
  have hmf : mayF g' m (rest ++ [(w : Int)]) = true := mayF_iff.2 ⟨hm, ordB_iff.2 ⟨by rw [List.length_append, hlen, ← h3]; simp, fun i hi => by
    rw [← h4 i (by omega), times, times, List.countP_append, List.countP_cons, List.countP_cons, List.countP_nil]; omega⟩⟩
  refine ⟨hmf, fun b hb => ?_⟩
  have hG : ∀ c, c < m → gG g' w c < 0 := fun c hc => by
    rw [hi w c hwn hc, cutG, if_pos (by simp [P0, hc])]; omega
  have hwho : whoN (rest ++ [(w : Int)]) = whoN rest ++ [w] := by simp [whoN]
  have hwho2 : whoN ((w : Int) :: rest) = w :: whoN rest := by simp [whoN]
  have hlt : ∀ b ∈ whoN rest, b < g.length := fun b hb => ord_lt h2 b (by rw [hwho2]; simp [hb])
  rw [firstE_get hmf (by omega), firstV, hwho, hlen]
  by_cases e : b = w
  · rw [if_pos e, e, first_neg _ _ hG]; rfl
  · rw [if_neg e, firstV, hwho2, first_ahead hwn (fun b c hb hc _ => ?_) hG hlt hb e]
    rw [hi b c hb hc, firstV, hwho2, first_head, cutG]
    cases hp : pickF (gG g) m g.length w with
    | some k =>
      show goneG (gG g) w k b c = _
      unfold goneG noneC noneG P0
      by_cases e1 : c = k
      · rw [if_pos e1, if_pos (by simp [e1]; rw [← e1]; exact hc)]
      · rw [if_neg e1]
        by_cases e2 : b = w
        · rw [if_pos e2, if_pos (by simp [hc, e2])]
        · rw [if_neg e2, if_neg (by simp [e2]; intro _ h5; exact e1 h5.symm)]
    | none =>
      show noneG (gG g) w b c = _
      unfold noneG P0
      by_cases e2 : b = w
      · rw [if_pos e2, if_pos (by simp [hc, e2])]
      · rw [if_neg e2, if_neg (by simp [e2])]

set_option maxRecDepth 100000 in
set_option maxHeartbeats 4000000 in
theorem walk (x : Gr) (m : Int) (y : Ls) (w : World) (h : x.Ok w) (hm1 : -9223372036854775808 ≤ m) (hm2 : m ≤ 9223372036854775807) (h1' : y.Ok w) :
    Calls Try.prog 7 #[.agg #[x.v, .int .i64 m], y.v] w fun e w' => e = .returned (.bool true) ∧ Below w.heap.size w w' := by
  have hx := h
  have hy := h1'
  have hB := Below.refl w.heap.size w
  have hxv : x.v = .slice x.A x.n x.c := rfl
  have hyv : y.v = .slice y.A y.n y.c := rfl
  have Vx := Lib.hid hxv
  have Vy := Lib.hid hyv
  rw [hxv, hyv]
  have hgl := h.glen
  have HGL := Lib.hid hgl
  have HYL := Lib.hid hy.len
  have htop := Nat.le_trans h.cap h.top
  have ttop := Nat.le_trans hy.cap hy.top
  unfold maxLen at htop ttop
  obtain ⟨B, hB0⟩ : ∃ B, mayF x.g m y.zs = B := ⟨_, rfl⟩
  clear hxv hyv hgl h h1'
  go_enter Try.func7, Try.ntmps7
  have bg := WBox.new w x m
  have hbx : Below w.heap.size w (w.alloc (.cells #[.slice x.A x.n x.c, .int .i64 m] 24)) := (Below.refl _ w).alloc (Nat.le_refl _) _
  replace hx := hx.below hbx
  replace hy := hy.below hbx
  replace hB := hB.trans (hbx.mono hB.size)
  clear hbx
  cases B
  · have E1 := Lib.hid (fi_bad hB0)
    obtain ⟨f0, hf0⟩ : ∃ q, wErr x.g m = q := ⟨_, rfl⟩
    obtain ⟨a0, ha0⟩ : ∃ q, bestE x.g m = q := ⟨_, rfl⟩
    have EF := Lib.hid hf0
    have EA := Lib.hid ha0
    clear hB0 hf0 ha0
    have eg0 := bg.c0
    have eg1 := bg.c1
    have hc := pfirstC x m y (w.alloc (.cells #[.slice x.A x.n x.c, .int .i64 m] 24)) hx (by omega) (by omega) hy
    rw [Vx.out, Vy.out, E1.out.1, E1.out.2] at hc
    go_wp2_with fail
    clear eg0 eg1
    generalize w.alloc (.cells #[.slice x.A x.n x.c, .int .i64 m] 24) = W1 at *
    refine hc.mono ?_
    rintro e v2 ⟨A1, n1, c1, rfl, h1, hb⟩
    clear hc
    replace hx := hx.below hb
    replace hy := hy.below hb
    replace bg := bg.below hb
    replace hB := hB.trans (hb.mono hB.size)
    clear hb
    have eg0 := bg.c0
    have eg1 := bg.c1
    have hc := alive11_any v2
    go_wp2_with fail
    clear eg0 eg1
    refine hc.mono ?_
    rintro e v3 ⟨rfl, hb⟩
    clear hc
    replace hx := hx.below hb
    replace hy := hy.below hb
    replace h1 := h1.below hb
    replace bg := bg.below hb
    replace hB := hB.trans (hb.mono hB.size)
    clear hb
    have eg0 := bg.c0
    have eg1 := bg.c1
    go_wp2
    go_ret
    exact ⟨rfl, hB⟩
  · obtain ⟨hBw, hBo⟩ := mayF_iff.1 hB0
    obtain ⟨M, rfl⟩ : ∃ M : Nat, m = M := ⟨m.toNat, by have := (mayW_iff.1 hBw).1; omega⟩
    have HB0 := Lib.hid hB0
    have HBW := Lib.hid hBw
    have HBO := Lib.hid hBo
    obtain ⟨hM1, hM8, hx8⟩ := may_m hBw
    rw [HGL.out] at hx8
    have EE := Lib.hid (we_ok hBw).2.1
    have FE := Lib.hid (fi_ok hB0).1
    obtain ⟨a0, ha0⟩ : ∃ a, bestE x.g M = a := ⟨_, rfl⟩
    obtain ⟨hl, hhl⟩ : ∃ a, firstE x.g M y.zs = a := ⟨_, rfl⟩
    have EB := Lib.hid ha0
    have EH := Lib.hid hhl
    have FO := Lib.hid (show FirstOf (gG x.g) M x.n (whoN y.zs) (firstV x.g M y.zs) from by rw [← HGL.out]; exact first_is hB0)
    have HLN : Hid (hl.length = x.n) := Lib.hid (by rw [← hhl, firstE_len hB0, HGL.out])
    have HGET : Hid (∀ b, b < x.n → hl[b]? = some (optI (firstV x.g M y.zs b))) := Lib.hid (fun b hb => by rw [← hhl, firstE_get hB0 (by rw [HGL.out]; exact hb)])
    have HFIT : Hid (∀ b, b < x.n → -1 ≤ optI (firstV x.g M y.zs b) ∧ optI (firstV x.g M y.zs b) < M) := Lib.hid (fun b hb => optI_fit hB0 (by rw [HGL.out]; exact hb))
    have BV : Hid (a0 = bestV (gG x.g) M x.n) := Lib.hid (by rw [← ha0, (we_ok hBw).1, HGL.out])
    have hab : 0 ≤ a0 ∧ a0 ≤ 8000000 := by rw [← ha0, (we_ok hBw).1]; exact best_bound hBw
    have hyn : y.n = x.n := by have h1 := (ordB_iff.1 hBo).1; rw [HYL.out, HGL.out] at h1; exact h1
    have HYN := Lib.hid hyn
    have HRW : Hid (∀ u ∈ x.t, u.n = M) := Lib.hid (fun u hu => by
      have h1 := (mayW_iff.1 hBw).2.2.2 u.zs (by rw [Gr.g, Ls.all]; exact List.mem_map_of_mem hu)
      have h2 := (hx.lss.ok u hu).len
      omega)
    clear hB0 hBw hBo ha0 hhl hm1 hm2 hyn
    have eg0 := bg.c0
    have eg1 := bg.c1
    have hc := pfirstC x M y (w.alloc (.cells #[.slice x.A x.n x.c, .int .i64 (M : Int)] 24)) hx (by omega) (by omega) hy
    rw [Vx.out, Vy.out, FE.out, EH.out] at hc
    go_wp2_with fail
    clear eg0 eg1
    generalize w.alloc (.cells #[.slice x.A x.n x.c, .int .i64 (M : Int)] 24) = W1 at *
    refine hc.mono ?_
    rintro e v2 ⟨A1, n1, c1, rfl, h1, hb⟩
    clear hc
    replace hx := hx.below hb
    replace hy := hy.below hb
    replace bg := bg.below hb
    replace hB := hB.trans (hb.mono hB.size)
    clear hb
    obtain rfl : n1 = x.n := by have h5 := h1.len; have h6 := HLN.out; simp only at h5; omega
    have gne : (((x.n : Int)) != (x.n : Int)) = false := by simp
    have gne2 : (x.n != x.n) = false := by simp
    by_cases hn0 : x.n = 0
    · have gn : ((y.n : Int) == 0) = true := by rw [beq_iff_eq, HYN.out]; omega
      have gn2 : (y.n == 0) = true := by rw [beq_iff_eq, HYN.out]; exact hn0
      clear hn0
      have eg0 := bg.c0
      have eg1 := bg.c1
      have hc := alive11_any v2
      go_wp2_with fail
      clear eg0 eg1
      refine hc.mono ?_
      rintro e v3 ⟨rfl, hb⟩
      clear hc
      replace hx := hx.below hb
      replace hy := hy.below hb
      replace h1 := h1.below hb
      replace bg := bg.below hb
      replace hB := hB.trans (hb.mono hB.size)
      clear hb
      have eg0 := bg.c0
      have eg1 := bg.c1
      go_wp2
      go_ret
      exact ⟨rfl, hB⟩
    · have gn : ((y.n : Int) == 0) = false := by rw [beq_eq_false_iff_ne, HYN.out]; omega
      have gn2 : (y.n == 0) = false := by rw [beq_eq_false_iff_ne, HYN.out]; exact hn0
      have hy0' : (0 : Int) < y.n := by rw [HYN.out]; omega
      obtain ⟨p0, q0, hA0, hp0, y0, hy0, hcy⟩ := hy.rd.get (show 0 < y.n by rw [HYN.out]; omega)
      have hil : 0 < y.zs.length := by rw [HYL.out, HYN.out]; omega
      rw [ci64_get _ _ hil] at hy0
      obtain rfl : iV y.zs[0] = y0 := Option.some.inj hy0
      unfold iV at hcy
      have hzin := ord_in HBO.out _ (List.getElem_mem hil)
      rw [HGL.out] at hzin
      have hz0' : y.zs[0]? = some y.zs[0] := List.getElem?_eq_getElem hil
      obtain ⟨v, hv⟩ : ∃ v, y.zs[0] = v := ⟨_, rfl⟩
      rw [hv] at hcy hzin hz0'
      rw [Nat.add_zero] at hcy
      obtain ⟨u, rfl⟩ : ∃ u : Nat, v = u := ⟨v.toNat, by omega⟩
      have HZ0 := Lib.hid hz0'
      have hux : u < x.n := by omega
      have hux' : (u : Int) < x.n := by omega
      have hu0 : (0 : Int) ≤ u := by omega
      have gu1 : decide ((u : Int) < 0) = false := decide_eq_false (by omega)
      have gu2 : decide ((x.n : Int) ≤ (u : Int)) = false := decide_eq_false (by omega)
      have gu3 : decide (x.n ≤ u) = false := decide_eq_false (by omega)
      have gMM : ((M : Int) != (M : Int)) = false := by simp
      have gMM2 : (M != M) = false := by simp
      obtain ⟨p2, q2, r, hAx, _, hgy, hp2, hcx, hkr⟩ := hx.get hux
      have hrn : r.n = M := by
        have h2 := hkr.len
        have h3 := (may_row HBW.out (b := u) (by rw [HGL.out]; exact hux)).1
        rw [← hgy, List.getD_eq_getElem?_getD, List.getElem?_eq_getElem (by rw [HGL.out]; exact hux)] at h2
        simp only [Option.getD_some] at h2
        omega
      replace hcx : v2.cell? ⟨p2, q2 + u, none⟩ = some (.slice r.A r.n r.c) := hcx
      rw [hrn] at hcx
      have hS5 : ∀ w', Below v2.heap.size v2 w' → w'.cell? ⟨w.heap.size, 0, none⟩ = some (.slice (some ⟨p2, q2, none⟩) x.n x.c) ∧ w'.cell? ⟨w.heap.size, 1, none⟩ = some (.int .i64 (M : Int)) ∧ w'.cell? ⟨p2, q2 + u, none⟩ = some (.slice r.A M r.c) := fun w' hb => ⟨by rw [← hAx]; exact (bg.below hb).c0, (bg.below hb).c1, (hb.cell (p := ⟨p2, q2 + u, none⟩) hp2).trans hcx⟩
      rw [hA0]
      have HA0 := Lib.hid hA0
      have HAX := Lib.hid hAx
      clear hy0 hv hz0' hA0 hAx hgy hkr hrn hcx hil hn0
      have e0 := bg.c0
      have e1 := bg.c1
      go_wp2_with fail
      refine wp_region_ord (S := fun w' => w'.cell? ⟨w.heap.size, 0, none⟩ = some (.slice (some ⟨p2, q2, none⟩) x.n x.c) ∧ w'.cell? ⟨w.heap.size, 1, none⟩ = some (.int .i64 (M : Int)) ∧ w'.cell? ⟨p2, q2 + u, none⟩ = some (.slice r.A M r.c)) [(0, true), (1, true), (2, true), (3, true), (4, true), (5, true), (6, true), (7, true), (8, true), (9, true), (10, true), (11, true), (12, true), (13, true), (14, true), (15, true), (16, true), (17, true), (18, true), (19, true)] default (by kernel_rfl) (by kernel_rfl) (by kernel_rfl) (hS5 _ (Below.refl _ _).drew) ?_
      simp only [getOrd, nth]
      repeat (first | (refine ordS (by rfl) ?_; simp only [Act.put, List.setIfInBounds_toArray, List.set_cons_zero, List.set_cons_succ]) | (refine ordN (by rfl) ?_; simp only [Act.put, List.setIfInBounds_toArray, List.set_cons_zero, List.set_cons_succ]) | (refine ordQ (v := ?_) (by rfl) (fun _ hSw => ?_) ?_; rotate_left; (focus ((have hS1 := hSw.1); (have hS2 := hSw.2.1); (have hS3 := hSw.2.2); clear hSw; go_simp; (first | done | with_reducible rfl))); simp only [Act.put, List.setIfInBounds_toArray, List.set_cons_zero, List.set_cons_succ]))
      refine ordE ?_
      obtain ⟨wd, hwd⟩ : ∃ q, q = v2.drew := ⟨_, rfl⟩
      have hbd : Below v2.heap.size v2 wd := by rw [hwd]; exact (Below.refl _ v2).drew
      rw [← hwd]
      clear hwd hS5 e0 e1
      replace bg := bg.below hbd
      replace hx := hx.below hbd
      replace hy := hy.below hbd
      replace h1 := h1.below hbd
      replace hB := hB.trans (hbd.mono hB.size)
      clear hbd hcy
      have e0 := bg.c0
      have e1 := bg.c1
      have htw := twin_gr x wd hx (by omega) (fun u hu => by have := HRW.out u hu; omega)
      rw [Vx.out] at htw
      go_wp2_with fail
      refine htw.mono ?_
      rintro e w5 ⟨⟨yA, yn, yc, yt⟩, he, hyt, hyg, hynn, hb5⟩
      obtain rfl : e = .returned (.slice yA yn yc) := he
      clear htw e0 e1
      simp only at hynn
      subst hynn
      have hO := hyt.outs
      simp only at hO
      have HYG := Lib.hid (show Ls.all yt = x.g from hyg)
      clear hyt hyg
      obtain ⟨a, ha⟩ : ∃ a, firstV x.g M y.zs u = a := ⟨_, rfl⟩
      have HA := Lib.hid ha
      have hug := HGET.out u hux
      rw [ha] at hug
      have hub := h1
      obtain ⟨p1, q1, hA1, hp1, y1, hy1, hc1⟩ := h1.ok.rd.get hux
      simp only at hA1
      rw [show ci64 hl = hl.map iV from rfl, List.getElem?_map, hug] at hy1
      obtain rfl := Option.some.inj hy1
      unfold iV at hc1
      obtain ⟨zw, hzw⟩ : ∃ z, optI a = z := ⟨_, rfl⟩
      rw [hzw] at hc1
      have HZW := Lib.hid hzw
      rw [hA1]
      have HA1 := Lib.hid hA1
      clear hug hy1 ha hzw hub hA1
      have eg0 := bg.c0
      have eg1 := bg.c1
      go_wp2_with fail
      clear eg0 eg1
      go_loopw [9] (fun v wr => ∃ (k : Nat) (t : List Ls), k ≤ M ∧ v = .int .i64 k ∧ Outs wr wd.heap.size yA x.n yc t ∧ Hid (InvP (Ls.all t) (gG x.g) x.n M (P0 u a k) ∧ mayW (Ls.all t) M = true) ∧ Below wd.heap.size wd wr) (fun v _ => M - (intOf v).toNat)
      case atStart => exact ⟨0, yt, Nat.zero_le _, rfl, hO, Lib.hid (by rw [HYG.out]; exact ⟨fun b c _ _ => by simp [cutG, P0], HBW.out⟩), hb5⟩
      case round =>
        clear hO hb5
        obtain ⟨k, t, hk, rfl, hOr, hinv, hbr⟩ := hrel
        have hk0 : (0 : Int) ≤ k := by omega
        have e0 := (bg.below hbr).c0
        have e1 := (bg.below hbr).c1
        by_cases hkM : k < M
        · have hkM' : (k : Int) < M := by omega
          have hcw := (hbr.cell (p := ⟨p1, q1 + u, none⟩) hp1).trans hc1
          have hlen := hOr.len
          obtain ⟨u9, hu9⟩ : ∃ q, t[u]? = some q := ⟨_, List.getElem?_eq_getElem (by omega)⟩
          have hou := hOr.each u9 (List.mem_of_getElem? hu9)
          have hat : (Ls.all t).getD u [] = u9.zs := by rw [Ls.all, List.getD_eq_getElem?_getD, List.getElem?_map, hu9]; rfl
          have hal : u < (Ls.all t).length := by rw [Ls.all, List.length_map]; omega
          have hun : u9.n = M := by
            have h5 := hou.len
            have h6 := (may_row hinv.out.2 hal).1
            rw [List.getD_eq_getElem?_getD, List.getElem?_eq_getElem hal] at hat
            simp only [Option.getD_some] at hat
            rw [hat] at h6
            omega
          have hkn5 : (k : Int) < u9.n := by rw [hun]; omega
          have hkn6 : k < u9.n := by rw [hun]; exact hkM
          obtain ⟨gg, hgA, _, _⟩ := hOr.own.lt (by have := hOr.own.le; omega)
          have hOr2 := hOr
          rw [hgA] at hOr2
          have hcO := hOr2.own.cell (j := u) (by omega)
          rw [List.getElem?_map, hu9] at hcO
          replace hcO : wr.cell? ⟨gg, u, none⟩ = some (.slice u9.A u9.n u9.c) := hcO
          have hule := hou.own.le
          obtain ⟨g2, hA2, _, _⟩ := hou.own.lt (by omega)
          have hown2 := hou.own
          rw [hA2] at hown2 hcO
          have hfr := hown2.free (by omega) k
          obtain ⟨vo, hvo⟩ : ∃ v, wr.cell? ⟨g2, k, none⟩ = some v := by
            rw [hown2.cell hkn6]
            exact ⟨_, List.getElem?_eq_getElem (by rw [hown2.len]; exact hkn6)⟩
          have hO2 := hOr.num (z := -1) hu9 hA2 hkn6 (by omega)
          have HN : Hid (InvP (Ls.all (t.set u ⟨u9.A, u9.n, u9.c, u9.zs.set k (-1)⟩)) (gG x.g) x.n M (P1 u a k 0) ∧ mayW (Ls.all (t.set u ⟨u9.A, u9.n, u9.c, u9.zs.set k (-1)⟩)) M = true) := Lib.hid (by
            rw [all_num, ← hat]
            refine ⟨hinv.out.1.put hal (by rw [hat, hou.len]; exact hkn6) (fun b c => P1_start u a k b c), may_put hinv.out.2 hal⟩)
          have hB2 := hbr.setCell (p := ⟨g2, k, none⟩) (hown2.base (by omega)) (.int .i64 (-1))
          have HGA := Lib.hid hgA
          rw [hgA]
          clear hou hown2 hOr hOr2 hu9 hA2 hinv hun hat hal hlen hgA hule
          go_wp2_with fail
          go_loopw [10] (fun v wr => ∃ (i : Nat) (t : List Ls), i ≤ x.n ∧ v = .int .i64 i ∧ Outs wr wd.heap.size (some ⟨gg, 0, none⟩) x.n yc t ∧ Hid (InvP (Ls.all t) (gG x.g) x.n M (P1 u a k i) ∧ mayW (Ls.all t) M = true) ∧ Below wd.heap.size wd wr) (fun v _ => x.n - (intOf v).toNat)
          case atStart => exact ⟨0, _, Nat.zero_le _, rfl, by rw [← HGA.out]; exact hO2, HN, hB2⟩
          case round =>
            clear hO2 HN hB2 e0 e1 hcw hbr hcO hfr hvo
            obtain ⟨i, t, hi, rfl, hOr, hinv, hbr⟩ := hrel
            have hi0 : (0 : Int) ≤ i := by omega
            have hcw := (hbr.cell (p := ⟨p1, q1 + u, none⟩) hp1).trans hc1
            by_cases hin : i < x.n
            · have hin' : (i : Int) < x.n := by omega
              by_cases hzk : zw = (k : Int)
              · have gz : (zw == (k : Int)) = true := by rw [beq_iff_eq]; exact hzk
                have hak : a = some k := by
                  have h5 := HZW.out
                  cases a with
                  | none => simp only [optI] at h5; omega
                  | some q => simp only [optI] at h5; rw [show q = k by omega]
                have HAK := Lib.hid hak
                clear hzk hak
                have hlen := hOr.len
                obtain ⟨u9, hu9⟩ : ∃ q, t[i]? = some q := ⟨_, List.getElem?_eq_getElem (by omega)⟩
                have hou := hOr.each u9 (List.mem_of_getElem? hu9)
                have hat : (Ls.all t).getD i [] = u9.zs := by rw [Ls.all, List.getD_eq_getElem?_getD, List.getElem?_map, hu9]; rfl
                have hal : i < (Ls.all t).length := by rw [Ls.all, List.length_map]; omega
                have hun : u9.n = M := by
                  have h5 := hou.len
                  have h6 := (may_row hinv.out.2 hal).1
                  rw [List.getD_eq_getElem?_getD, List.getElem?_eq_getElem hal] at hat
                  simp only [Option.getD_some] at hat
                  rw [hat] at h6
                  omega
                have hkn5 : (k : Int) < u9.n := by rw [hun]; omega
                have hkn6 : k < u9.n := by rw [hun]; exact hkM
                have hOr2 := hOr
                have hcO := hOr2.own.cell (j := i) (by omega)
                rw [List.getElem?_map, hu9] at hcO
                replace hcO : wr.cell? ⟨gg, i, none⟩ = some (.slice u9.A u9.n u9.c) := hcO
                have hule := hou.own.le
                obtain ⟨g2, hA2, _, _⟩ := hou.own.lt (by omega)
                have hown2 := hou.own
                rw [hA2] at hown2 hcO
                have hfr := hown2.free (by omega) k
                obtain ⟨vo, hvo⟩ : ∃ v, wr.cell? ⟨g2, k, none⟩ = some v := by
                  rw [hown2.cell hkn6]
                  exact ⟨_, List.getElem?_eq_getElem (by rw [hown2.len]; exact hkn6)⟩
                have hO2 := hOr.num (z := -1) hu9 hA2 hkn6 (by omega)
                have HN : Hid (InvP (Ls.all (t.set i ⟨u9.A, u9.n, u9.c, u9.zs.set k (-1)⟩)) (gG x.g) x.n M (P1 u a k (i + 1)) ∧ mayW (Ls.all (t.set i ⟨u9.A, u9.n, u9.c, u9.zs.set k (-1)⟩)) M = true) := Lib.hid (by
                  rw [all_num, ← hat]
                  refine ⟨hinv.out.1.put hal (by rw [hat, hou.len]; exact hkn6) (fun b c => P1_step HAK.out b c), may_put hinv.out.2 hal⟩)
                have hB2 := hbr.setCell (p := ⟨g2, k, none⟩) (hown2.base (by omega)) (.int .i64 (-1))
                clear hou hown2 hOr hOr2 hu9 hA2 hinv hun hat hal hlen hule
                go_wp2
                go_roundw
                case rel => exact ⟨i + 1, _, by omega, by go_num, hO2, HN, hB2⟩
                case measure => simp [intOf]; omega
              · have gz : (zw == (k : Int)) = false := by rw [beq_eq_false_iff_ne]; exact hzk
                have HIN : Hid (InvP (Ls.all t) (gG x.g) x.n M (P0 u a (k + 1)) ∧ mayW (Ls.all t) M = true) := Lib.hid ⟨hinv.out.1.to fun b c hb => P1_end (fun e => by
                  exfalso
                  have h5 := HZW.out
                  rw [e] at h5
                  exact hzk h5.symm) b c hb, hinv.out.2⟩
                clear hzk hinv
                go_wp2
                go_roundw
                case rel => exact ⟨k + 1, t, by omega, by go_num, hOr, HIN, hbr⟩
                case measure => simp [intOf]; omega
            · obtain rfl : i = x.n := by omega
              have HIN : Hid (InvP (Ls.all t) (gG x.g) x.n M (P0 u a (k + 1)) ∧ mayW (Ls.all t) M = true) := Lib.hid ⟨hinv.out.1.to fun b c hb => P1_end (fun _ => rfl) b c hb, hinv.out.2⟩
              clear hinv
              go_wp2
              go_roundw
              case rel => exact ⟨k + 1, t, by omega, by go_num, hOr, HIN, hbr⟩
              case measure => simp [intOf]; omega
        · obtain rfl : M = k := by omega
          have hgl9 : (Ls.all t).length = x.g.length := by rw [Ls.all, List.length_map, hOr.len, HGL.out]
          obtain ⟨f1, f2⟩ := ahead_first HB0.out HZ0.out hgl9 hinv.out.2 (by rw [HGL.out, HA.out]; exact hinv.out.1)
          rw [HGL.out] at f2
          obtain ⟨rl, hrl⟩ : ∃ q, firstE (Ls.all t) M (y.zs.drop 1 ++ [(u : Int)]) = q := ⟨_, rfl⟩
          rw [hrl] at f2
          have F1 := Lib.hid (fi_ok f1).1
          have F2 := Lib.hid hrl
          have F3 := Lib.hid f2
          have F4 : Hid (rl.length = x.n) := Lib.hid (by rw [← hrl, firstE_len f1, hgl9, HGL.out])
          have hyb := hy.below hbr
          have hgo := hOr.gr
          have htl := ok_tail hyb (i := 1) (by rw [HYN.out]; omega)
          have z1 : (1 : Int) ≤ (y.n : Int) := by omega
          have z3 : (y.n : Int) ≤ (y.c : Int) := by have h5 := hyb.cap; omega
          have z4 : (1 : Int) ≤ (y.c : Int) := by omega
          have hyn8 : y.n ≤ 8 := by rw [HYN.out]; exact hx8
          have hyfit := hyb.fit
          obtain ⟨i0, hi0, hz0, hz1, hz2⟩ := info_parts info6_int
          rw [HA0.out] at htl
          obtain ⟨TA, hTA⟩ : ∃ TA, (if y.c = 1 then some (⟨p0, q0, none⟩ : Addr) else Option.map (fun q : Addr => q.add 1) (some (⟨p0, q0, none⟩ : Addr))) = TA := ⟨_, rfl⟩
          rw [hTA] at htl
          have hTA2 : (if y.c = 1 then some (⟨p0, q0, none⟩ : Addr) else some ⟨p0, q0 + 1, none⟩) = TA := hTA
          obtain ⟨wo, rfl⟩ : ∃ wo, wo = wr := ⟨_, rfl⟩
          have htlr := htl.rd
          simp only at htlr
          have hyl : y.n - 1 + 1 = y.n := by omega
          clear hOr hinv hgl9 f1 f2 hrl e0 htl
          go_wp2_with (at_builtin; go_must (refine wpList_app wo rfl _ _ 25 rfl 3 i0 _ 8 Try.underlying25 hi0 hz0 hz1 hz2 rfl wo.heap.size none 0 0 [] rfl (Own.none_ _ _ _ _) _ (y.n - 1) (y.c - 1) (ci64 (y.zs.drop 1)) rfl htlr ?a1 ?a2 ?a3 ?a4 ?_))
          case a1 => intro u hu; obtain ⟨z, _, rfl⟩ := List.mem_map.1 hu; rfl
          case a2 => simp only [maxLen]; omega
          case a3 => omega
          try case a4 => exact Nat.le_refl _
          intro A3 c3 w3 hown3 hbel3 _ _
          have hO3 : Own w3 wo.heap.size 3 A3 (y.n - 1) c3 (ci64 (y.zs.drop 1)) := by simpa using hown3
          have hsz3 := hbel3.size
          clear hown3 htlr hTA hTA2
          go_wp2_with (at_builtin; go_must (refine wpList_app1 w3 rfl _ _ 25 rfl 3 i0 _ 8 Try.underlying25 hi0 hz0 hz1 hz2 rfl wo.heap.size A3 (y.n - 1) c3 _ rfl hO3 1 rfl rfl ?b1 ?b2 ?b3 ?_))
          case b1 => simp only [maxLen]; omega
          case b2 => omega
          try case b3 => exact hsz3
          intro A4 c4 w4 hown4 hbel4 _ _
          have hO4 : OwnI w4 wo.heap.size ⟨A4, y.n, c4, y.zs.drop 1 ++ [(u : Int)]⟩ := by
            refine ⟨?_, fun z hz => ?_⟩
            · show Own w4 wo.heap.size _ A4 y.n c4 (ci64 (y.zs.drop 1 ++ [(u : Int)]))
              rw [ci64_app, List.drop_one]; exact hown4
            · rcases List.mem_append.1 hz with hz | hz
              · exact hyfit z (List.mem_of_mem_drop hz)
              · rw [List.mem_singleton.1 hz]; omega
          have hb4 : Below wo.heap.size wo w4 := hbel3.trans hbel4
          have hbr4 := hbr.trans (hb4.mono hbr.size)
          clear hown4 hbel3 hbel4 hO3 hyb hyfit
          replace bg := bg.below hbr4
          replace h1 := h1.below hbr4
          replace hgo := hgo.below hb4
          replace hB := hB.trans (hbr4.mono hB.size)
          clear hbr4 hbr hb4 e1
          have eg0 := bg.c0
          have eg1 := bg.c1
          have hc := pfirstC ⟨yA, x.n, yc, t⟩ (M : Int) ⟨A4, y.n, c4, y.zs.drop 1 ++ [(u : Int)]⟩ w4 hgo (by omega) (by omega) hO4.ok
          rw [show Gr.v ⟨yA, x.n, yc, t⟩ = .slice yA x.n yc from rfl, show Ls.v ⟨A4, y.n, c4, y.zs.drop 1 ++ [(u : Int)]⟩ = .slice A4 y.n c4 from rfl, show Gr.g ⟨yA, x.n, yc, t⟩ = Ls.all t from rfl, F1.out, F2.out] at hc
          go_wp2_with fail
          clear eg0 eg1
          refine hc.mono ?_
          rintro e v3 ⟨A7, n7, c7, rfl, h7, hb⟩
          clear hc
          replace hgo := hgo.below hb
          replace hO4 := hO4.below hb
          replace h1 := h1.below hb
          replace bg := bg.below hb
          replace hB := hB.trans (hb.mono hB.size)
          clear hb
          clear hgo hO4
          obtain rfl : n7 = x.n := by have h5 := h7.len; have h6 := F4.out; simp only at h5; omega
          obtain ⟨p3, q3, hA3, hp3, y3, hy3, hc3⟩ := h7.ok.rd.get hux
          simp only at hA3
          rw [show ci64 rl = rl.map iV from rfl, List.getElem?_map, F3.out u hux, if_pos rfl] at hy3
          obtain rfl := Option.some.inj hy3
          unfold iV at hc3
          rw [hA3]
          have HA3 := Lib.hid hA3
          clear hy3 hA3
          go_wp2_with fail
          go_loopw [14] (fun v wr => ∃ i : Nat, i ≤ x.n ∧ v = .int .i64 i ∧ Below v3.heap.size v3 wr) (fun v _ => x.n - (intOf v).toNat)
          case atStart => exact ⟨0, Nat.zero_le _, rfl, Below.refl _ _⟩
          case round =>
            obtain ⟨i, hi, rfl, hbel⟩ := hrel
            have hi0' : (0 : Int) ≤ i := by omega
            by_cases hin : i < x.n
            · have hin' : (i : Int) < x.n := by omega
              have hf3 := F3.out i hin
              obtain ⟨p5, q5, hA5, hp5, y5, hy5, hc5⟩ := (h7.below hbel).ok.rd.get hin
              simp only at hA5
              rw [HA3.out] at hA5
              cases hA5
              rw [show ci64 rl = rl.map iV from rfl, List.getElem?_map, hf3] at hy5
              obtain rfl := Option.some.inj hy5
              obtain ⟨p4, q4, hA4, hp4, y4, hy4, hc4⟩ := (h1.below hbel).ok.rd.get hin
              simp only at hA4
              rw [HA1.out] at hA4
              cases hA4
              rw [show ci64 hl = hl.map iV from rfl, List.getElem?_map, HGET.out i hin] at hy4
              obtain rfl := Option.some.inj hy4
              unfold iV at hc5 hc4
              have hbn := hbel.drew
              by_cases hiu : i = u
              · have gi : ((i : Int) != (u : Int)) = false := by rw [bne_eq_false_iff_eq]; omega
                have gi2 : (i != u) = false := by rw [bne_eq_false_iff_eq]; exact hiu
                clear hf3 hy5 hy4 hiu hc5 hc4
                go_wp2_with fail
                refine wp_region_ord (S := fun w' => True) [(0, true), (1, true), (2, true), (3, true), (4, true), (5, true), (6, true), (7, true), (8, true), (9, true), (10, true), (11, true), (12, true), (13, true)] default (by kernel_rfl) (by kernel_rfl) (by kernel_rfl) trivial ?_
                simp only [getOrd, nth]
                repeat (first | (refine ordS (by rfl) ?_; simp only [Act.put, List.setIfInBounds_toArray, List.set_cons_zero, List.set_cons_succ]) | (refine ordN (by rfl) ?_; simp only [Act.put, List.setIfInBounds_toArray, List.set_cons_zero, List.set_cons_succ]) | (refine ordQ (v := ?_) (by rfl) (fun _ hSw => ?_) ?_; rotate_left; (focus ((have hS1 := hSw); clear hSw; go_simp; (first | done | with_reducible rfl))); simp only [Act.put, List.setIfInBounds_toArray, List.set_cons_zero, List.set_cons_succ]))
                refine ordE ?_
                go_wp2
                go_roundw
                case rel => exact ⟨i + 1, by omega, by go_num, hbn⟩
                case measure => simp [intOf]; omega
              · have gi : ((i : Int) != (u : Int)) = true := by rw [bne_iff_ne]; omega
                have gi2 : (i != u) = true := by rw [bne_iff_ne]; exact hiu
                rw [if_neg hiu] at hc5
                obtain ⟨z, hz⟩ : ∃ z, optI (firstV x.g M y.zs i) = z := ⟨_, rfl⟩
                rw [hz] at hc5 hc4
                have gz : (z != z) = false := by simp
                clear hf3 hy5 hy4 hz hiu
                go_wp2_with fail
                refine wp_region_ord (S := fun w' => w'.cell? ⟨p3, q3 + i, none⟩ = some (.int .i64 z) ∧ w'.cell? ⟨p1, q1 + i, none⟩ = some (.int .i64 z)) [(0, true), (1, true), (2, true), (3, true), (4, true), (5, true), (6, true), (7, true), (8, true), (9, true), (10, true), (11, true), (12, true), (13, true)] default (by kernel_rfl) (by kernel_rfl) (by kernel_rfl) ⟨hc5, hc4⟩ ?_
                simp only [getOrd, nth]
                repeat (first | (refine ordS (by rfl) ?_; simp only [Act.put, List.setIfInBounds_toArray, List.set_cons_zero, List.set_cons_succ]) | (refine ordN (by rfl) ?_; simp only [Act.put, List.setIfInBounds_toArray, List.set_cons_zero, List.set_cons_succ]) | (refine ordQ (v := ?_) (by rfl) (fun _ hSw => ?_) ?_; rotate_left; (focus ((have hS1 := hSw.1); (have hS2 := hSw.2); clear hSw; go_simp; (first | done | with_reducible rfl))); simp only [Act.put, List.setIfInBounds_toArray, List.set_cons_zero, List.set_cons_succ]))
                refine ordE ?_
                go_wp2
                go_roundw
                case rel => exact ⟨i + 1, by omega, by go_num, hbn⟩
                case measure => simp [intOf]; omega
            · obtain rfl : i = x.n := by omega
              have hwv : Below w.heap.size w wr := hB.trans (hbel.mono hB.size)
              have hc := alive11_any wr
              go_wp2_with fail
              refine hc.mono ?_
              rintro e v9 ⟨rfl, hb⟩
              clear hc
              have hfin := hwv.trans (hb.mono hwv.size)
              go_wp2
              go_ret
              exact ⟨rfl, hfin⟩

theorem own : ownKnob Try.prog.godebug = none := by kernel_rfl
theorem laidOut : laidOutB Try.prog = true := by kernel_rfl

set_option maxRecDepth 100000 in
theorem lifted (os : Os) (started : os.Started) (H : Type) (enc : TypeId × Value → H) :
    ReturnsInHanded {} Try.checked os 7 .any (Rows.firstsAheadSpec.pre6 enc Try.prog Try.f7 Rows.firstsAheadRow.domain false) (Rows.firstsAheadSpec.post enc Try.prog Try.f7 false true false false) := by
  refine returnsInHanded_of_change (C := Try.checked) own started (by kernel_rfl) Try.func7
    (ChangeSpec.witness6 (enc := enc) (C := Try.checked) false ⟨#[], #[.agg #[.slice none 0 0, .int .i64 0], .slice none 0 0], []⟩ 8 (by kernel_rfl) (by kernel_rfl) (by kernel_rfl) (by kernel_rfl)) ?_
  intro W base args ds gs before hval0 hW hcnd _
  have hval : ∀ (j : Nat) t v, Try.f7.params[j]? = some t → args[j]? = some v → Value.okWide Try.prog W .any base t v := hval0
  have hW' := hW
  obtain ⟨p, q, hA0, hV, rfl, hfz, hnd⟩ := hW
  have hA : DataW.TrodAll enc Try.prog W 0 (fun _ => true) true Try.f7.params.toList args.toList ds p := hA0
  rw [Try.params7] at hA hval
  obtain ⟨v0, vs0, d0, ds0, p0, q0, hargs, rfl, rfl, h0, r0⟩ := trodAll_cons hA
  obtain ⟨v1, vs1, d1, ds1, p1, q1, rfl, rfl, rfl, h1, r1⟩ := trodAll_cons r0
  obtain ⟨rfl, rfl, rfl⟩ := trodAll_nil r1
  obtain rfl : args = #[v0, v1] := by cases args; simp_all
  obtain ⟨u0, m0, rfl, k0, a0, b0⟩ := arg_gr Try.underlying24 (by kernel_rfl) (by kernel_rfl) Try.underlying22 Try.underlying3 Try.underlying25 (by kernel_rfl) Try.underlying3 (by kernel_rfl) (hval 0 24 v0 rfl rfl) h0
  obtain ⟨A1, n1, c1, l1, rfl, a1, b1, e1, g1⟩ := arg_i64s Try.underlying25 Try.underlying3 (by kernel_rfl) (hval 1 25 v1 rfl rfl) h1
  have hwalk : Calls Try.prog 7 #[.agg #[u0.v, .int .i64 m0], .slice A1 n1 c1] W fun e w' => e = .returned (.bool true) ∧ Below W.heap.size W w' := walk u0 m0 ⟨A1, n1, c1, l1⟩ W k0 a0 b0 ⟨a1, b1, e1, g1⟩
  refine hwalk.mono fun e W' ⟨he, hg⟩ => ?_
  subst he
  exact ⟨_, rfl, law_post laidOut (by kernel_rfl) hW' rfl rfl (by kernel_rfl) Try.underlying4 hg⟩

theorem over : Rows.firstsAheadRow.holds Try.pinned (OpenSpec.ofChange Rows.firstsAheadSpec) :=
  OpenClaim.holds_of_wide 7 Try.f7 rfl rfl rfl rfl rfl rfl rfl ⟨rfl, rfl, rfl, rfl, rfl⟩ rfl rfl rfl rfl rfl (by kernel_rfl) Try.func7 (by kernel_rfl)
    (of_decide_eq_true (by kernel_rfl)) (by unfold Func.isWrapper; first | (rw [if_pos (by decide +kernel)]; kernel_rfl) | (rw [if_neg (by decide +kernel)]; exact ⟨rfl, rfl⟩))
    (fun os started H enc _ => lifted os started H enc)

theorem proved : Rows.FirstsAheadSaid :=
  over

end Go.Proofs.Ytecgakfblhiiaaa.firstsAhead
