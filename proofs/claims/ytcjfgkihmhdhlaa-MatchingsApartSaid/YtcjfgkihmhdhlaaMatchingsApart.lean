/-
  Proved: salesroomlaw08.MatchingsApart answers true, for any lists, any items, however many items are theirs, however many bidders, in whatever memory. No conditions.
-/
import Derived.Test.YtcjfgkihmhdhlaaRows
import Derived.Test.YtcjfgkihmhdhlaaLift
import Derived.Test.YtcjfgkihmhdhlaaAlive8
import Derived.Test.YtcjfgkihmhdhlaaGrM
import Derived.Test.YtcjfgkihmhdhlaaMaP
import Derived.Test.YtcjfgkihmhdhlaaMaL
import Derived.Test.YtcjfgkihmhdhlaaGrN
import Derived.Test.YtcjfgkihmhdhlaaReg2
import Derived.Test.YtcjfgkihmhdhlaaReg
namespace Go.Proofs.Ytcjfgkihmhdhlaa.matchingsApart
open Go.ChangeShapes Go.WideShapes Go.ChangeAt Go.RowKit
set_option linter.unusedVariables false

/-- Of a list those below a cut, or the others. -/
def rowC (c : Nat) (b : Bool) (l : List Int) : List Int := l.filter fun k => decide (k < (c : Int)) == b
theorem rowC_succ {c : Nat} {b : Bool} {l : List Int} {j : Nat} (hj : j < l.length) : rowC c b (l.take (j + 1)) = rowC c b (l.take j) ++ if (decide (l[j] < (c : Int)) == b) = true then [l[j]] else [] := by
  rw [rowC, rowC, List.take_succ_eq_append_getElem hj, List.filter_append]
  congr 1
  by_cases h : (decide (l[j] < (c : Int)) == b) = true
  · rw [if_pos h]; simp only [List.filter_cons, List.filter_nil, h, if_true]
  · rw [if_neg h]; simp only [List.filter_cons, List.filter_nil, h]; rfl
theorem rowC_len (c : Nat) (b : Bool) (l : List Int) : (rowC c b l).length ≤ l.length := List.length_filter_le _ _
theorem rowC_rises {m : Int} {c : Nat} {b : Bool} {l : List Int} (h : Rises m l) : Rises m (rowC c b l) := ⟨fun x hx => h.1 x (List.mem_filter.1 hx).1, h.2.sublist List.filter_sublist⟩
def cutR (c f : Nat) (g : List (List Int)) (n : Nat) : List (List Int) := (List.range n).map fun (i : Nat) => rowC c (decide (i < f)) (g.getD i [])
def cutG (c f : Nat) (g : List (List Int)) : List (List Int) := cutR c f g g.length
theorem cutR_succ (c f : Nat) (g : List (List Int)) (n : Nat) : cutR c f g (n + 1) = cutR c f g n ++ [rowC c (decide (n < f)) (g.getD n [])] := by
  rw [cutR, cutR, List.range_succ, List.map_append]; rfl
theorem cutG_len (c f : Nat) (g : List (List Int)) : (cutG c f g).length = g.length := by simp [cutG, cutR]
theorem cutG_get {c f : Nat} {g : List (List Int)} {i : Nat} (hi : i < g.length) : (cutG c f g).getD i [] = rowC c (decide (i < f)) (g.getD i []) := by
  rw [List.getD_eq_getElem?_getD, cutG, cutR, List.getElem?_map, List.getElem?_range hi]; rfl
theorem cutG_check {c f : Nat} {g : List (List Int)} {m : Nat} (h : checkG g m = true) : checkG (cutG c f g) m = true := by
  obtain ⟨h1, h2, h3, h4⟩ := checkG_iff.1 h
  refine checkG_iff.2 ⟨h1, h2, by rw [cutG_len]; exact h3, fun l hl => ?_⟩
  obtain ⟨i, hi, rfl⟩ := List.mem_map.1 hl
  exact rowC_rises (h4 _ (getD_mem (List.mem_range.1 hi)))
theorem cut_apart {c f : Nat} {g : List (List Int)} {m : Nat} (hc : checkG g m = true) (hf : f ≤ g.length) : mostP (cutG c f g) m = mostP ((cutG c f g).take f) m ++ mostP ((cutG c f g).drop f) m := by
  have hl := cutG_len c f g
  have h := most_apart (cutG_check (c := c) (f := f) hc) (n := f) (by omega) (fun b d hb hd k hk hk2 => by
    by_cases hdl : d < g.length
    · rw [cutG_get (by omega)] at hk
      rw [cutG_get hdl] at hk2
      have h1 := (List.mem_filter.1 hk).2
      have h2 := (List.mem_filter.1 hk2).2
      rw [decide_eq_true hb] at h1
      rw [decide_eq_false (show ¬ d < f by omega)] at h2
      have h3 : decide (k < (c : Int)) = true := by simpa using h1
      rw [h3] at h2
      simp at h2
    · rw [List.getD_eq_getElem?_getD, List.getElem?_eq_none (by omega)] at hk2
      simp at hk2) (g.length - f) (by omega)
  rw [show f + (g.length - f) = (cutG c f g).length by omega] at h
  have hd : ((cutG c f g).drop f).length = g.length - f := by rw [List.length_drop, hl]
  rw [mostP, h, mostP, mostP, hd]
theorem wpList_appw {P : Program} (w : World) {ops : Array Oper} {rest : List Oper} {o : Oper} {a : Act} {Q : Exit → Act → World → Prop} (hw : Region.wanted o (yielded ops a.tmps) = true) (s x : Operand) (t : TypeId)
    (ho : o.op = .call { callee := .builtin .append, args := #[s, x], argTypes := #[t, t] })
    (e : TypeId) (i : TypeInfo) (z : Value) (bytes : Nat) (ht : P.underlying t = some (.slice e)) (hi : P.info? e = some i) (hz : i.zero = some z)
    (hsize : i.size = 1) (hby : i.bytes = bytes) (hzs : z.cells.size = 1)
    (B : Nat) (A : Option Addr) (n c : Nat) (xs : List Value) (hs : a.eval s = .slice A n c) (hown : Own w B e A n c xs)
    (A' : Option Addr) (m c' : Nat) (ys : List Value) (hx : a.eval x = .slice A' m c') (hr : Rd w A' m ys) (h1 : ∀ u ∈ ys, u.oneCell' = true)
    (h63 : n + m ≤ maxLen) (hbytes : (n + m) * bytes ≤ 140737488355328) (hB : B ≤ w.heap.size)
    (h : ∀ A2 c2 w', Own w' B e A2 (n + m) c2 (xs ++ ys) → Below B w w' → wpList P ops Q rest (a.put o.dst (.slice A2 (n + m) c2)) w') : wpList P ops Q (o :: rest) a w :=
  BigFrame.wpList_want hw fun _ hK => wp_app w s x t ho e i z bytes ht hi hz hsize hby hzs B A n c xs hs hown A' m c' ys hx hr h1 h63 hbytes hB fun A2 c2 w' h2 h3 _ _ => hK _ _ (h A2 c2 w' h2 h3)
theorem set_at {T R : List Ls} {i : Nat} (h : T.length = i) (u v : Ls) : (T ++ u :: R).set i v = T ++ v :: R := by
  rw [← h]; simp
theorem gr_drop {w : World} {B g n : Nat} {t : List Ls} {k : Nat} (own : Own w B 25 (some ⟨g, 0, none⟩) n n (t.map Ls.v)) (h : ∀ v ∈ t, v.Ok w) (hk : k ≤ n) : Gr.Ok w ⟨if n = k then some ⟨g, 0, none⟩ else some ⟨g, k, none⟩, n - k, n - k, t.drop k⟩ := by
  have hl := own.len
  rw [List.length_map] at hl
  have hc := own.cap
  refine ⟨⟨⟨by rw [List.length_map, List.length_drop]; show t.length - k = n - k; omega, fun (hn : 0 < n - k) => ?_⟩, fun u hu => h u (List.mem_of_mem_drop hu)⟩, Nat.le_refl _, by show n - k ≤ maxLen; omega⟩
  refine ⟨g, k, by show (if n = k then _ else _) = _; rw [if_neg (by omega)], fun j r hj i hi => ?_⟩
  rw [List.getElem?_map, List.getElem?_drop] at hj
  obtain ⟨u, hu, rfl⟩ := Option.map_eq_some_iff.1 hj
  have hjl := (List.getElem?_eq_some_iff.1 hu).1
  have hi : i < 1 := hi
  obtain rfl : i = 0 := by omega
  have h3 := own.cell (j := k + j) (by omega)
  rw [List.getElem?_map, hu] at h3
  rw [Nat.mul_one, Nat.add_zero, h3]
  rfl

set_option maxRecDepth 100000 in
set_option maxHeartbeats 4000000 in
theorem walk (x : Gr) (m : Int) (y z : Nat) (w : World) (h : x.Ok w) (hm1 : -9223372036854775808 ≤ m) (hm2 : m ≤ 9223372036854775807) (hy : y < 256) (hz : z < 256) :
    Calls Try.prog 8 #[.agg #[x.v, .int .i64 m], .int .u8 y, .int .u8 z] w fun e w' => e = .returned (.bool true) ∧ Below w.heap.size w w' := by
  have hx := h
  have hB := Below.refl w.heap.size w
  have hxv : x.v = .slice x.A x.n x.c := rfl
  have Vx := Lib.hid hxv
  rw [hxv]
  have hgl := h.glen
  have HGL := Lib.hid hgl
  have htop := Nat.le_trans h.cap h.top
  unfold maxLen at htop
  obtain ⟨B, hB0⟩ : ∃ B, checkG x.g m = B := ⟨_, rfl⟩
  clear hxv hgl h
  go_enter Try.func8, Try.ntmps8
  have bg := GBox.new w x m
  have hbx : Below w.heap.size w (w.alloc (.cells #[.slice x.A x.n x.c, .int .i64 m] 24)) := (Below.refl _ w).alloc (Nat.le_refl _) _
  replace hx := hx.below hbx
  replace hB := hB.trans (hbx.mono hB.size)
  clear hbx
  cases B
  · obtain ⟨e1, e2⟩ := most_bad hB0
    have E1 := Lib.hid e1
    have E2 := Lib.hid e2
    have HC := Lib.hid hB0
    clear e1 e2 hB0
    have eg0 := bg.c0
    have eg1 := bg.c1
    have hc := pmostC x m (w.alloc (.cells #[.slice x.A x.n x.c, .int .i64 m] 24)) hx hm1 hm2
    rw [Vx.out, E1.out, E2.out] at hc
    go_wp2_with fail
    clear eg0 eg1
    generalize w.alloc (.cells #[.slice x.A x.n x.c, .int .i64 m] 24) = W1 at *
    refine hc.mono ?_
    rintro e v2 ⟨A2, n2, c2, rfl, h2, hb⟩
    clear hc
    replace hx := hx.below hb
    replace bg := bg.below hb
    replace hB := hB.trans (hb.mono hB.size)
    clear hb
    clear h2
    have eg0 := bg.c0
    have eg1 := bg.c1
    have hc := alive8_any v2
    go_wp2_with fail
    clear eg0 eg1
    refine hc.mono ?_
    rintro e v3 ⟨rfl, hb⟩
    clear hc
    replace hx := hx.below hb
    replace bg := bg.below hb
    replace hB := hB.trans (hb.mono hB.size)
    clear hb
    have eg0 := bg.c0
    have eg1 := bg.c1
    go_wp2
    go_ret
    exact ⟨rfl, hB⟩
  · obtain ⟨M, rfl⟩ : ∃ M : Nat, m = M := ⟨m.toNat, by have := (checkG_iff.1 hB0).1; omega⟩
    obtain ⟨e1, e2⟩ := most_ok hB0
    have E1 := Lib.hid e1
    have E2 := Lib.hid e2
    have HC := Lib.hid hB0
    have hM8 : M ≤ 8 := by have := (checkG_iff.1 HC.out).2.1; omega
    have hx8 : x.n ≤ 8 := by have := (checkG_iff.1 HC.out).2.2.1; rw [HGL.out] at this; exact this
    clear e1 e2 hB0 hm1 hm2
    have eg0 := bg.c0
    have eg1 := bg.c1
    have hc := pmostC x M (w.alloc (.cells #[.slice x.A x.n x.c, .int .i64 (M : Int)] 24)) hx (by omega) (by omega)
    rw [Vx.out, E1.out, E2.out] at hc
    go_wp2_with fail
    clear eg0 eg1
    generalize w.alloc (.cells #[.slice x.A x.n x.c, .int .i64 (M : Int)] 24) = W1 at *
    refine hc.mono ?_
    rintro e v2 ⟨A2, n2, c2, rfl, h2, hb⟩
    clear hc
    replace hx := hx.below hb
    replace bg := bg.below hb
    replace hB := hB.trans (hb.mono hB.size)
    clear hb
    clear h2
    by_cases hn0 : x.n = 0
    · have g0 : ((x.n : Int) == 0) = true := by rw [beq_iff_eq]; omega
      have g0' : (x.n == 0) = true := by rw [beq_iff_eq]; exact hn0
      have eg0 := bg.c0
      have eg1 := bg.c1
      have hc := alive8_any v2
      go_wp2_with fail
      clear eg0 eg1
      refine hc.mono ?_
      rintro e v3 ⟨rfl, hb⟩
      clear hc
      replace hx := hx.below hb
      replace bg := bg.below hb
      replace hB := hB.trans (hb.mono hB.size)
      clear hb
      have eg0 := bg.c0
      have eg1 := bg.c1
      go_wp2
      go_ret
      exact ⟨rfl, hB⟩
    have g0 : ((x.n : Int) == 0) = false := by rw [beq_eq_false_iff_ne]; omega
    have g0' : (x.n == 0) = false := by rw [beq_eq_false_iff_ne]; exact hn0
    by_cases hM0 : M < 1
    · have g1 : decide ((M : Int) < 1) = true := decide_eq_true (by omega)
      have g1' : decide (M < 1) = true := decide_eq_true hM0
      have g1'' : (M == 0) = true := by rw [beq_iff_eq]; omega
      have eg0 := bg.c0
      have eg1 := bg.c1
      have hc := alive8_any v2
      go_wp2_with fail
      clear eg0 eg1
      refine hc.mono ?_
      rintro e v3 ⟨rfl, hb⟩
      clear hc
      replace hx := hx.below hb
      replace bg := bg.below hb
      replace hB := hB.trans (hb.mono hB.size)
      clear hb
      have eg0 := bg.c0
      have eg1 := bg.c1
      go_wp2
      go_ret
      exact ⟨rfl, hB⟩
    have g1 : decide ((M : Int) < 1) = false := decide_eq_false (by omega)
    have g1' : decide (M < 1) = false := decide_eq_false hM0
    have g1'' : (M == 0) = false := by rw [beq_eq_false_iff_ne]; omega
    have gM : ((M : Int) == 0) = false := by rw [beq_eq_false_iff_ne]; omega
    obtain ⟨C, hC⟩ : ∃ C : Nat, y % (M + 1) = C := ⟨_, rfl⟩
    have hCM : C ≤ M := by rw [← hC]; have := Nat.mod_lt y (show 0 < M + 1 by omega); omega
    have s1 : IntKind.i64.wrap ((M : Int) + 1) = (M : Int) + 1 := by rw [IntKind.wrap_i64]; omega
    have s2 : ((y : Int)).tmod ((M : Int) + 1) = (C : Int) := by
      rw [Int.tmod_eq_emod_of_nonneg (by omega), ← hC]; simp
    obtain ⟨f0, hf0⟩ : ∃ f0 : Nat, z % (x.n + 1) = f0 := ⟨_, rfl⟩
    have hfn : f0 ≤ x.n := by rw [← hf0]; have := Nat.mod_lt z (show 0 < x.n + 1 by omega); omega
    have s3 : IntKind.i64.wrap ((x.n : Int) + 1) = (x.n : Int) + 1 := by rw [IntKind.wrap_i64]; omega
    have s4 : ((z : Int)).tmod ((x.n : Int) + 1) = (f0 : Int) := by
      rw [Int.tmod_eq_emod_of_nonneg (by omega), ← hf0]; simp
    have sy : IntKind.i64.wrap (y : Int) = (y : Int) := by rw [IntKind.wrap_i64]; omega
    have sz : IntKind.i64.wrap (z : Int) = (z : Int) := by rw [IntKind.wrap_i64]; omega
    have hcc := cutG_check (c := C) (f := f0) HC.out
    have hcl := cutG_len C f0 x.g
    obtain ⟨e3, e4⟩ := most_ok hcc
    obtain ⟨e5, e6⟩ := most_ok (check_take hcc f0)
    obtain ⟨e7, e8⟩ := most_ok (check_drop hcc f0)
    have hap := cut_apart (c := C) (f := f0) HC.out (by rw [HGL.out]; exact hfn)
    have hl1 := most_len hcc
    have hl2 := most_len (check_take hcc f0)
    have hl3 := most_len (check_drop hcc f0)
    rw [hcl, HGL.out] at hl1
    rw [List.length_take, hcl, HGL.out, Nat.min_eq_left hfn] at hl2
    rw [List.length_drop, hcl, HGL.out] at hl3
    obtain ⟨la, hla⟩ : ∃ l, mostP (cutG C f0 x.g) M = l := ⟨_, rfl⟩
    obtain ⟨lb, hlb⟩ : ∃ l, mostP ((cutG C f0 x.g).take f0) M = l := ⟨_, rfl⟩
    obtain ⟨lc, hlc⟩ : ∃ l, mostP ((cutG C f0 x.g).drop f0) M = l := ⟨_, rfl⟩
    rw [hla] at e4 hap hl1
    rw [hlb] at e6 hap hl2
    rw [hlc] at e8 hap hl3
    have E3 := Lib.hid e3
    have E4 := Lib.hid e4
    have E5 := Lib.hid e5
    have E6 := Lib.hid e6
    have E7 := Lib.hid e7
    have E8 := Lib.hid e8
    have HAP := Lib.hid hap
    have L1 := Lib.hid hl1
    have L2 := Lib.hid hl2
    have L3 := Lib.hid hl3
    clear e3 e4 e5 e6 e7 e8 hap hl1 hl2 hl3 hla hlb hlc hcc hcl hC hf0
    obtain ⟨i0, hi0, hz0, hz1, hz2⟩ := info_parts infoM_int
    obtain ⟨i1, hi1, hy0, hy1, hy2⟩ := info_parts infoM_ints
    have hrs : Hid (∀ i, i < x.n → Rises M (x.g.getD i [])) := Lib.hid (fun i hi => (checkG_iff.1 HC.out).2.2.2 _ (getD_mem (by rw [HGL.out]; exact hi)))
    have eg0 := bg.c0
    have eg1 := bg.c1
    go_wp2_with (at_make; go_must (refine wpList_mk _ rfl _ _ 22 rfl v2.heap.size 25 i1 _ Try.underlying22 hi1 hy0 hy1 rfl .i64 .i64 _ _ x.n rfl rfl rfl rfl ?mk2 ?mk3 ?mk4 ?_))
    case mk2 => rw [hy2]; omega
    case mk3 => simp only [maxLen]; omega
    case mk4 => exact Nat.le_refl _
    intro wm hownm hbelm
    clear eg0 eg1
    have em := (bg.below hbelm).c0
    go_wp2_with fail
    clear em
    obtain ⟨g9, hg9⟩ : ∃ g, g = v2.heap.size := ⟨_, rfl⟩
    have hgV : v2.heap.size ≤ g9 := by omega
    have hown : Own wm v2.heap.size 25 (some ⟨g9, 0, none⟩) x.n x.n (([] ++ List.replicate (x.n - 0) Ls.nil).map Ls.v) := by
      rw [List.nil_append, Nat.sub_zero, List.map_replicate, hg9]
      exact hownm
    rw [← hg9]
    clear hownm hg9
    go_loopw [12] (fun v wr => ∃ (i : Nat) (T : List Ls), i ≤ x.n ∧ v = .int .i64 i ∧ Hid (T.length = i) ∧ Own wr v2.heap.size 25 (some ⟨g9, 0, none⟩) x.n x.n ((T ++ List.replicate (x.n - i) Ls.nil).map Ls.v) ∧ Hid (∀ u ∈ T, OwnI wr v2.heap.size u) ∧ Hid (Ls.all T = cutR C f0 x.g i) ∧ Below v2.heap.size v2 wr) (fun v _ => x.n - (intOf v).toNat)
    case atStart => exact ⟨0, [], Nat.zero_le _, rfl, Lib.hid rfl, hown, Lib.hid (by simp), Lib.hid rfl, hbelm⟩
    case round =>
      obtain ⟨i, T, hi, rfl, hTl, own, hT, hall, hb1⟩ := hrel
      obtain ⟨wo, rfl⟩ : ∃ wo, wo = wr := ⟨_, rfl⟩
      clear hown hbelm
      by_cases hin : i < x.n
      · have hin' : (i : Int) < x.n := by omega
        have hi0' : (0 : Int) ≤ i := by omega
        obtain ⟨p, q, u, hA2, _, hgu, hp, hcu, hku⟩ := hx.get hin
        have hru := hrs.out i hin
        rw [hgu] at hru
        have hun8 : u.n ≤ 8 := by have := rises_len hru; rw [hku.len] at this; omega
        obtain ⟨uA, un, uc, ul⟩ := u
        unfold Ls.v at hcu
        simp only at hgu hru hcu hun8
        have hul : ul.length = un := hku.len
        have hurd := hku.rd
        simp only at hurd
        have HGU := Lib.hid hgu
        have HUL := Lib.hid hul
        have HRU := Lib.hid hru
        have hg0 : ∀ w', Below v2.heap.size v2 w' → w'.cell? ⟨w.heap.size, 0, none⟩ = some (.slice (some ⟨p, q, none⟩) x.n x.c) := fun w' hb => by rw [← hA2]; exact (bg.below hb).c0
        have hg1 : ∀ w', Below v2.heap.size v2 w' → w'.cell? ⟨p, q + i, none⟩ = some (.slice uA un uc) := fun w' hb => (hb.cell (p := ⟨p, q + i, none⟩) hp).trans hcu
        have hsz1 := hb1.size
        have e0 := (bg.below hb1).c0
        obtain ⟨β, hβ⟩ : ∃ β, decide (i < f0) = β := ⟨_, rfl⟩
        have HBE := Lib.hid hβ
        have kf : decide ((i : Int) < (f0 : Int)) = β := by rw [← hβ]; exact decide_eq_decide.2 (by omega)
        have kf' := hβ
        have hrep : List.replicate (x.n - i) Ls.nil = Ls.nil :: List.replicate (x.n - (i + 1)) Ls.nil := by
          rw [show x.n - i = (x.n - (i + 1)) + 1 by omega, List.replicate_succ]
        rw [hrep] at own
        have HT := Lib.hid own
        clear hgu hul hru hku hA2 hβ hrep
        go_wp2_with fail
        clear e0
        go_loopw [13] (fun v wr => ∃ (j : Nat) (Au : Option Addr) (nu cu : Nat), j ≤ un ∧ v = .int .i64 j ∧ Own wr v2.heap.size 25 (some ⟨g9, 0, none⟩) x.n x.n ((T ++ ⟨Au, nu, cu, rowC C β (ul.take j)⟩ :: List.replicate (x.n - (i + 1)) Ls.nil).map Ls.v) ∧ OwnI wr wo.heap.size ⟨Au, nu, cu, rowC C β (ul.take j)⟩ ∧ Hid (∀ g, g < wo.heap.size → g ≠ g9 → wr.heap[g]? = wo.heap[g]?) ∧ wo.heap.size ≤ wr.heap.size ∧ Below v2.heap.size v2 wr) (fun v _ => un - (intOf v).toNat)
        case atStart => exact ⟨0, none, 0, 0, Nat.zero_le _, rfl, own, OwnI.nil _ _, Lib.hid (fun _ _ _ => rfl), Nat.le_refl _, hb1⟩
        case round =>
          obtain ⟨j, Au, nu, cu, hj, rfl, own, hO, hkp, hsz, hbel⟩ := hrel
          have e0 := hg0 _ hbel
          have e1 := hg1 _ hbel
          have hlen := hO.len
          have hlf := rowC_len C β (ul.take j)
          rw [List.length_take] at hlf
          have hnu : nu ≤ 8 := by
            have h3 : (rowC C β (ul.take j)).length = nu := hlen
            have := HUL.out
            omega
          clear hlen hlf
          by_cases hjn : j < un
          · have hjn' : (j : Int) < un := by omega
            have hj0' : (0 : Int) ≤ j := by omega
            have hjl : j < ul.length := by rw [HUL.out]; exact hjn
            obtain ⟨p2, q2, hA3, hp2, y0, hy0', hcy⟩ := hurd.get hjn
            subst hA3
            rw [ci64_get _ _ hjl] at hy0'
            obtain rfl : iV ul[j] = y0 := Option.some.inj hy0'
            unfold iV at hcy
            have hfit := HRU.out.1 _ (List.getElem_mem hjl)
            have hsuc := rowC_succ (c := C) (b := β) hjl
            obtain ⟨a, ha⟩ : ∃ a, ul[j] = a := ⟨_, rfl⟩
            rw [ha] at hcy hfit hsuc
            have hg2 : ∀ w', Below v2.heap.size v2 w' → w'.cell? ⟨p2, q2 + j, none⟩ = some (.int .i64 a) := fun w' hb => (hb.cell (p := ⟨p2, q2 + j, none⟩) hp2).trans hcy
            have e2 := hg2 _ hbel
            obtain ⟨γ, hγ⟩ : ∃ γ, decide (a < (C : Int)) = γ := ⟨_, rfl⟩
            rw [hγ] at hsuc
            obtain ⟨δ, hδ⟩ : ∃ δ, (γ == β) = δ := ⟨_, rfl⟩
            rw [hδ] at hsuc
            have HSUC := Lib.hid hsuc
            clear hy0' ha hsuc hcy
            cases δ
            · have hO2 : OwnI wr wo.heap.size ⟨Au, nu, cu, rowC C β (ul.take (j + 1))⟩ := by rw [HSUC.out]; simpa using hO
              have own2 : Own wr v2.heap.size 25 (some ⟨g9, 0, none⟩) x.n x.n ((T ++ ⟨Au, nu, cu, rowC C β (ul.take (j + 1))⟩ :: List.replicate (x.n - (i + 1)) Ls.nil).map Ls.v) := by rw [List.map_append, List.map_cons] at own ⊢; exact own
              clear own hO HSUC
              go_wp2
              go_roundw
              case rel => exact ⟨j + 1, Au, nu, cu, by omega, by go_num, own2, hO2, hkp, hsz, hbel⟩
              case measure => simp [intOf]; omega
            · have hfr := own.free (by omega) i
              have hcl : wr.cell? ⟨g9, i, none⟩ = some (.slice Au nu cu) := by
                rw [own.cell hin, List.getElem?_map, List.getElem?_append_right (by rw [hTl.out]; exact Nat.le_refl _), hTl.out, Nat.sub_self]; rfl
              clear e0 e1 e2
              have hS : ∀ w', Below v2.heap.size v2 w' → w'.cell? ⟨w.heap.size, 0, none⟩ = some (.slice (some ⟨p, q, none⟩) x.n x.c) ∧ w'.cell? ⟨p, q + i, none⟩ = some (.slice (some ⟨p2, q2, none⟩) un uc) ∧ w'.cell? ⟨p2, q2 + j, none⟩ = some (.int .i64 a) := fun w' hb => ⟨hg0 _ hb, hg1 _ hb, hg2 _ hb⟩
              have e0 := hg0 _ hbel
              have e1 := hg1 _ hbel
              have e2 := hg2 _ hbel
              go_wp2_with fail
              clear e0 e1 e2
              obtain ⟨r0, hr0⟩ : ∃ r, r = wr.drew := ⟨_, rfl⟩
              have bd0 : Below v2.heap.size v2 r0 := by rw [hr0]; exact hbel.trans ((Below.refl _ wr).drew)
              refine wp_region_tr (S := fun w' => w'.cell? ⟨w.heap.size, 0, none⟩ = some (.slice (some ⟨p, q, none⟩) x.n x.c) ∧ w'.cell? ⟨p, q + i, none⟩ = some (.slice (some ⟨p2, q2, none⟩) un uc) ∧ w'.cell? ⟨p2, q2 + j, none⟩ = some (.int .i64 a)) (.q 0 (.q 1 (.q 2 (.q 3 (.q 4 (.q 6 (.q 7 (.q 8 (.q 9 (.q 10 (.q 11 (.q 12 (.q 13 (.b 5 14 (.d 14 (.d 15 (.q 16 (.d 17 .nil)))) (.d 5 (.d 15 (.q 16 (.d 17 .nil)))))))))))))))))) default (by kernel_rfl) (by kernel_rfl) (by kernel_rfl) (hS _ (by rw [← hr0]; exact bd0)) ?_
              simp only [getTr, nth]
              rw [← hr0]
              have own0 : Own r0 v2.heap.size 25 (some ⟨g9, 0, none⟩) x.n x.n ((T ++ ⟨Au, nu, cu, rowC C β (ul.take j)⟩ :: List.replicate (x.n - (i + 1)) Ls.nil).map Ls.v) := by rw [hr0]; exact own.drew
              have hO0 : OwnI r0 wo.heap.size ⟨Au, nu, cu, rowC C β (ul.take j)⟩ := by rw [hr0]; exact ⟨hO.own.drew, hO.fit⟩
              have hkp0 : Hid (∀ g, g < wo.heap.size → g ≠ g9 → r0.heap[g]? = wo.heap[g]?) := by rw [hr0]; exact hkp
              have hsz0 : wo.heap.size ≤ r0.heap.size := by rw [hr0]; exact hsz
              have hcl0 : r0.cell? ⟨g9, i, none⟩ = some (.slice Au nu cu) := by rw [hr0]; exact hcl
              have hfr0 : r0.frozen? ⟨g9, i, none⟩ = false := by rw [hr0]; exact hfr
              obtain ⟨r1, hr1⟩ : ∃ r, r = r0.alloc (.cells #[.int .i64 a] 3) := ⟨_, rfl⟩
              have bl1 : Below r0.heap.size r0 r1 := by rw [hr1]; exact (Below.refl _ r0).alloc (Nat.le_refl _) _
              have bd1 := bd0.trans (bl1.mono bd0.size)
              have hlr : Rd r1 (some ⟨r0.heap.size, 0, none⟩) 1 [.int .i64 a] := by rw [hr1]; exact (Own.lit (B := 0) r0 3 #[.int .i64 a] 1 (Nat.zero_le _) rfl (by unfold maxLen; omega)).rd
              have own1 := own0.below bl1
              have hO1 := hO0.below bl1
              have hg9r0 : g9 < r0.heap.size := by
                obtain ⟨g', hA', _, h3⟩ := own0.lt (by omega)
                cases hA'
                exact h3
              have hcl1 : r1.cell? ⟨g9, i, none⟩ = some (.slice Au nu cu) := (bl1.cell (p := ⟨g9, i, none⟩) hg9r0).trans hcl0
              have hkp1 : Hid (∀ g, g < wo.heap.size → g ≠ g9 → r1.heap[g]? = wo.heap[g]?) := Lib.hid fun g hg hne => (bl1.block g (by omega)).trans (hkp0.out g hg hne)
              have hsz1' := Nat.le_trans hsz0 bl1.size
              clear hr0 own hO hkp hcl hfr hbel
              repeat (first | (refine trS (by rfl) ?_; simp only [Act.put, List.setIfInBounds_toArray, List.set_cons_zero, List.set_cons_succ]) | (refine trN (by rfl) ?_; simp only [Act.put, List.setIfInBounds_toArray, List.set_cons_zero, List.set_cons_succ]) | (refine trQ (v := ?_) (by rfl) (fun _ hSw => ?_) ?_; rotate_left; (focus ((have hS1 := hSw.1); (have hS2 := hSw.2.1); (have hS3 := hSw.2.2); clear hSw; go_simp; (first | done | with_reducible rfl))); simp only [Act.put, List.setIfInBounds_toArray, List.set_cons_zero, List.set_cons_succ]))
              refine trB ?_ ?_
              · refine trD (by rfl) ?_
                intro K hK
                have hld := hcl0
                go_simp
                refine hK _ _ (hS _ bd0) ?_
                clear hK K hld
                try simp only [Act.put, List.setIfInBounds_toArray, List.set_cons_zero, List.set_cons_succ]
                refine trD (by rfl) ?_
                intro K hK
                go_simp
                rw [← hr1]
                refine hK _ _ (hS _ bd1) ?_
                clear hK K hr1
                try simp only [Act.put, List.setIfInBounds_toArray, List.set_cons_zero, List.set_cons_succ]
                refine trD (by rfl) ?_
                intro K hK
                refine wp_app r1 _ _ 25 rfl 3 i0 _ 8 Try.underlying25 hi0 hz0 hz1 hz2 rfl wo.heap.size Au nu cu _ rfl hO1.own _ 1 1 [.int .i64 a] rfl hlr ?xa1 ?xa2 ?xa3 ?xa4 ?_
                case xa1 => intro u hu; rw [List.mem_singleton.1 hu]; rfl
                case xa2 => simp only [maxLen]; omega
                case xa3 => omega
                try case xa4 => exact hsz1'
                intro A7 c7 w7 hown7 hbel7 hfr7 hat7
                have hO7 : OwnI w7 wo.heap.size ⟨A7, nu + 1, c7, rowC C β (ul.take (j + 1))⟩ := by
                  refine ⟨?_, fun z hz => ?_⟩
                  · show Own w7 wo.heap.size _ A7 (nu + 1) c7 (ci64 (rowC C β (ul.take (j + 1))))
                    rw [HSUC.out, if_pos trivial, ci64_snoc6]; exact hown7
                  · have h5 := HRU.out.1 z (List.mem_of_mem_take (List.mem_filter.1 hz).1)
                    omega
                have own7 := own1.other hO1.own (by decide) (fun k hk hh => hfr7 k hk hh)
                have bd7 := bd1.trans (hbel7.mono (Nat.le_trans hb1.size (Nat.le_refl _)))
                refine hK _ _ (hS _ bd7) ?_
                clear hK K
                try simp only [Act.put, List.setIfInBounds_toArray, List.set_cons_zero, List.set_cons_succ]
                repeat (first | (refine trS (by rfl) ?_; simp only [Act.put, List.setIfInBounds_toArray, List.set_cons_zero, List.set_cons_succ]) | (refine trN (by rfl) ?_; simp only [Act.put, List.setIfInBounds_toArray, List.set_cons_zero, List.set_cons_succ]) | (refine trQ (v := ?_) (by rfl) (fun _ hSw => ?_) ?_; rotate_left; (focus ((have hS1 := hSw.1); (have hS2 := hSw.2.1); (have hS3 := hSw.2.2); clear hSw; go_simp; (first | done | with_reducible rfl))); simp only [Act.put, List.setIfInBounds_toArray, List.set_cons_zero, List.set_cons_succ]))
                have hcl7 : w7.cell? ⟨g9, i, none⟩ = some (.slice Au nu cu) := by
                  rw [own7.cell hin, List.getElem?_map, List.getElem?_append_right (by rw [hTl.out]; exact Nat.le_refl _), hTl.out, Nat.sub_self]; rfl
                have hfr7' := own7.free (by omega) i
                have own8 := own_put (u := ⟨A7, nu + 1, c7, rowC C β (ul.take (j + 1))⟩) own7 hin
                rw [set_at hTl.out] at own8
                have hO8 := hO7.setL (b := i) (v := .slice A7 (nu + 1) c7) own7 (by omega)
                have hkp8 : Hid (∀ g, g < wo.heap.size → g ≠ g9 → (w7.setCell ⟨g9, i, none⟩ (.slice A7 (nu + 1) c7)).heap[g]? = wo.heap[g]?) := Lib.hid fun g hg hne => (heap_setCell_other w7 ⟨g9, i, none⟩ g _ hne).trans ((hbel7.block g hg).trans (hkp1.out g hg hne))
                have hsz8 : wo.heap.size ≤ (w7.setCell ⟨g9, i, none⟩ (.slice A7 (nu + 1) c7)).heap.size := by simpa [World.setCell] using Nat.le_trans hsz1' hbel7.size
                have bd8 := bd7.setCell (p := ⟨g9, i, none⟩) hgV (.slice A7 (nu + 1) c7)
                refine trD (by rfl) ?_
                intro K hK
                go_simp
                refine hK _ _ (hS _ bd8) ?_
                clear hK K
                refine trE ?_
                clear hown7 hbel7 hfr7 hat7 hO7 own7 bd7 hcl7 hfr7' own1 hO1 hkp1 hsz1' bd1 bl1 hlr own0 hO0 hkp0 hsz0 hcl0 hfr0 hcl1 hS HSUC
                go_wp2
                go_roundw
                case rel => exact ⟨j + 1, A7, nu + 1, c7, by omega, by go_num, own8, hO8, hkp8, hsz8, bd8⟩
                case measure => simp [intOf]; omega
              · refine trD (by rfl) ?_
                intro K hK
                go_simp
                rw [← hr1]
                refine hK _ _ (hS _ bd1) ?_
                clear hK K hr1
                try simp only [Act.put, List.setIfInBounds_toArray, List.set_cons_zero, List.set_cons_succ]
                refine trD (by rfl) ?_
                intro K hK
                have hld := hcl1
                go_simp
                refine hK _ _ (hS _ bd1) ?_
                clear hK K hld
                try simp only [Act.put, List.setIfInBounds_toArray, List.set_cons_zero, List.set_cons_succ]
                refine trD (by rfl) ?_
                intro K hK
                refine wp_app r1 _ _ 25 rfl 3 i0 _ 8 Try.underlying25 hi0 hz0 hz1 hz2 rfl wo.heap.size Au nu cu _ rfl hO1.own _ 1 1 [.int .i64 a] rfl hlr ?xb1 ?xb2 ?xb3 ?xb4 ?_
                case xb1 => intro u hu; rw [List.mem_singleton.1 hu]; rfl
                case xb2 => simp only [maxLen]; omega
                case xb3 => omega
                try case xb4 => exact hsz1'
                intro A7 c7 w7 hown7 hbel7 hfr7 hat7
                have hO7 : OwnI w7 wo.heap.size ⟨A7, nu + 1, c7, rowC C β (ul.take (j + 1))⟩ := by
                  refine ⟨?_, fun z hz => ?_⟩
                  · show Own w7 wo.heap.size _ A7 (nu + 1) c7 (ci64 (rowC C β (ul.take (j + 1))))
                    rw [HSUC.out, if_pos trivial, ci64_snoc6]; exact hown7
                  · have h5 := HRU.out.1 z (List.mem_of_mem_take (List.mem_filter.1 hz).1)
                    omega
                have own7 := own1.other hO1.own (by decide) (fun k hk hh => hfr7 k hk hh)
                have bd7 := bd1.trans (hbel7.mono (Nat.le_trans hb1.size (Nat.le_refl _)))
                refine hK _ _ (hS _ bd7) ?_
                clear hK K
                try simp only [Act.put, List.setIfInBounds_toArray, List.set_cons_zero, List.set_cons_succ]
                repeat (first | (refine trS (by rfl) ?_; simp only [Act.put, List.setIfInBounds_toArray, List.set_cons_zero, List.set_cons_succ]) | (refine trN (by rfl) ?_; simp only [Act.put, List.setIfInBounds_toArray, List.set_cons_zero, List.set_cons_succ]) | (refine trQ (v := ?_) (by rfl) (fun _ hSw => ?_) ?_; rotate_left; (focus ((have hS1 := hSw.1); (have hS2 := hSw.2.1); (have hS3 := hSw.2.2); clear hSw; go_simp; (first | done | with_reducible rfl))); simp only [Act.put, List.setIfInBounds_toArray, List.set_cons_zero, List.set_cons_succ]))
                have hcl7 : w7.cell? ⟨g9, i, none⟩ = some (.slice Au nu cu) := by
                  rw [own7.cell hin, List.getElem?_map, List.getElem?_append_right (by rw [hTl.out]; exact Nat.le_refl _), hTl.out, Nat.sub_self]; rfl
                have hfr7' := own7.free (by omega) i
                have own8 := own_put (u := ⟨A7, nu + 1, c7, rowC C β (ul.take (j + 1))⟩) own7 hin
                rw [set_at hTl.out] at own8
                have hO8 := hO7.setL (b := i) (v := .slice A7 (nu + 1) c7) own7 (by omega)
                have hkp8 : Hid (∀ g, g < wo.heap.size → g ≠ g9 → (w7.setCell ⟨g9, i, none⟩ (.slice A7 (nu + 1) c7)).heap[g]? = wo.heap[g]?) := Lib.hid fun g hg hne => (heap_setCell_other w7 ⟨g9, i, none⟩ g _ hne).trans ((hbel7.block g hg).trans (hkp1.out g hg hne))
                have hsz8 : wo.heap.size ≤ (w7.setCell ⟨g9, i, none⟩ (.slice A7 (nu + 1) c7)).heap.size := by simpa [World.setCell] using Nat.le_trans hsz1' hbel7.size
                have bd8 := bd7.setCell (p := ⟨g9, i, none⟩) hgV (.slice A7 (nu + 1) c7)
                refine trD (by rfl) ?_
                intro K hK
                go_simp
                refine hK _ _ (hS _ bd8) ?_
                clear hK K
                refine trE ?_
                clear hown7 hbel7 hfr7 hat7 hO7 own7 bd7 hcl7 hfr7' own1 hO1 hkp1 hsz1' bd1 bl1 hlr own0 hO0 hkp0 hsz0 hcl0 hfr0 hcl1 hS HSUC
                go_wp2
                go_roundw
                case rel => exact ⟨j + 1, A7, nu + 1, c7, by omega, by go_num, own8, hO8, hkp8, hsz8, bd8⟩
                case measure => simp [intOf]; omega
          · obtain rfl : j = un := by omega
            rw [List.take_of_length_le (by rw [HUL.out]; exact Nat.le_refl _)] at hO own
            have hTl2 : Hid ((T ++ [(⟨Au, nu, cu, rowC C β ul⟩ : Ls)]).length = i + 1) := Lib.hid (by rw [List.length_append, hTl.out]; rfl)
            have own2 : Own wr v2.heap.size 25 (some ⟨g9, 0, none⟩) x.n x.n (((T ++ [(⟨Au, nu, cu, rowC C β ul⟩ : Ls)]) ++ List.replicate (x.n - (i + 1)) Ls.nil).map Ls.v) := by
              rw [List.append_assoc]; exact own
            have hT2 : Hid (∀ u ∈ T ++ [(⟨Au, nu, cu, rowC C β ul⟩ : Ls)], OwnI wr v2.heap.size u) := Lib.hid fun u hu => by
              rcases List.mem_append.1 hu with hu | hu
              · have h1 := hT.out u hu
                refine ⟨?_, h1.fit⟩
                obtain ⟨h2, h3⟩ := h1.own
                rcases h3 with h0 | ⟨g', cur, hA', hg', hh', rest⟩
                · exact ⟨h2, .inl h0⟩
                · refine ⟨h2, .inr ⟨g', cur, hA', hg', ?_, rest⟩⟩
                  have hlt' : g' < wo.heap.size := (Array.getElem?_eq_some_iff.1 hh').1
                  rw [hkp.out g' hlt' (by
                    rintro rfl
                    rcases own_apart HT.out hh' (by decide) with h1 | h1
                    · omega
                    · exact h1 rfl)]
                  exact hh'
              · rw [List.mem_singleton.1 hu]
                exact hO.mono hsz1
            have hall2 : Hid (Ls.all (T ++ [(⟨Au, nu, cu, rowC C β ul⟩ : Ls)]) = cutR C f0 x.g (i + 1)) := Lib.hid (by
              rw [cutR_succ, ← hall.out, HBE.out, HGU.out]
              simp [Ls.all])
            clear own hO hkp hT hall hTl
            go_wp2
            go_roundw
            case rel => exact ⟨i + 1, _, by omega, by go_num, hTl2, own2, hT2, hall2, hbel⟩
            case measure => simp [intOf]; omega
      · obtain rfl : i = x.n := by omega
        rw [Nat.sub_self, List.replicate_zero, List.append_nil] at own
        have hxr := hx.below hb1
        have bgr := bg.below hb1
        have hB := hB.trans (hb1.mono hB.size)
        have hok : ∀ v ∈ T, v.Ok wo := fun v hv => (hT.out v hv).ok
        have hgr := own_lists own hok
        have hdr := gr_drop own hok hfn
        obtain ⟨Aq, hAq⟩ : ∃ Aq, (if x.n = f0 then some (⟨g9, 0, none⟩ : Addr) else some ⟨g9, f0, none⟩) = Aq := ⟨_, rfl⟩
        rw [hAq] at hdr
        have HAQ := Lib.hid hAq
        clear hAq
        have hgt := gr_take hgr hfn
        have HG1 : Hid (Gr.g ⟨some ⟨g9, 0, none⟩, x.n, x.n, T⟩ = cutG C f0 x.g) := Lib.hid (by show Ls.all T = _; rw [hall.out, cutG, HGL.out])
        have HG2 : Hid (Gr.g ⟨some ⟨g9, 0, none⟩, f0, x.n, T.take f0⟩ = (cutG C f0 x.g).take f0) := Lib.hid (by rw [← HG1.out]; exact gr_take_g ⟨some ⟨g9, 0, none⟩, x.n, x.n, T⟩ f0)
        have HG3 : Hid (Gr.g ⟨Aq, x.n - f0, x.n - f0, T.drop f0⟩ = (cutG C f0 x.g).drop f0) := Lib.hid (by rw [← HG1.out]; simp [Gr.g, Ls.all])
        have f00 : (0 : Int) ≤ f0 := by omega
        have f01 : (f0 : Int) ≤ x.n := by omega
        clear own hT hall hok hTl
        have eg0 := bgr.c0
        have eg1 := bgr.c1
        have hc := pmostC ⟨some ⟨g9, 0, none⟩, x.n, x.n, T⟩ M wo hgr (by omega) (by omega)
        rw [show Gr.v ⟨some ⟨g9, 0, none⟩, x.n, x.n, T⟩ = .slice (some ⟨g9, 0, none⟩) x.n x.n from rfl, HG1.out, E3.out, E4.out] at hc
        go_wp2_with fail
        clear eg0 eg1
        refine hc.mono ?_
        rintro e v3 ⟨A5, n5, c5, rfl, h5, hb⟩
        clear hc
        replace hxr := hxr.below hb
        replace hgr := hgr.below hb
        replace hdr := hdr.below hb
        replace hgt := hgt.below hb
        replace bgr := bgr.below hb
        replace hB := hB.trans (hb.mono hB.size)
        clear hb
        obtain rfl : n5 = x.n := by have := h5.len; rw [← L1.out]; exact this.symm
        have eg0 := bgr.c0
        have eg1 := bgr.c1
        have hS : ∀ w', Below v3.heap.size v3 w' → w'.cell? ⟨w.heap.size, 1, none⟩ = some (.int .i64 (M : Int)) := fun w' hb => (bgr.below hb).c1
        go_wp2_with fail
        refine wp_region_ord (S := fun w' => w'.cell? ⟨w.heap.size, 1, none⟩ = some (.int .i64 (M : Int))) [(0, true), (1, true), (2, true), (3, true), (4, true), (5, false), (6, true), (7, true), (8, true), (9, true), (10, true)] default (by kernel_rfl) (by kernel_rfl) (by kernel_rfl) (hS _ ((Below.refl _ v3).drew)) ?_
        simp only [getOrd, nth]
        obtain ⟨q1_0, hu0⟩ : ∃ q1_0, q1_0 = v3.drew := ⟨_, rfl⟩
        have b0 : Below v3.heap.size v3 q1_0 := by rw [hu0]; exact ((Below.refl _ v3).drew)
        rw [← hu0]
        clear hu0
        repeat (first | (refine ordS (by rfl) ?_; simp only [Act.put, List.setIfInBounds_toArray, List.set_cons_zero, List.set_cons_succ]) | (refine ordN (by rfl) ?_; simp only [Act.put, List.setIfInBounds_toArray, List.set_cons_zero, List.set_cons_succ]) | (refine ordQ (v := ?_) (by rfl) (fun _ hSw => ?_) ?_; rotate_left; (focus ((have hS1 := hSw); clear hSw; go_simp; (first | done | with_reducible rfl))); simp only [Act.put, List.setIfInBounds_toArray, List.set_cons_zero, List.set_cons_succ]))
        refine ordD (by rfl) ?_
        intro K hK
        go_simp
        have hc := pmostC ⟨some ⟨g9, 0, none⟩, f0, x.n, T.take f0⟩ M q1_0 (hgt.below b0) (by omega) (by omega)
        rw [show Gr.v ⟨some ⟨g9, 0, none⟩, f0, x.n, T.take f0⟩ = .slice (some ⟨g9, 0, none⟩) f0 x.n from rfl, HG2.out, E5.out, E6.out] at hc
        refine hc.mono ?_
        rintro e q1_1 ⟨A6, n6, c6, rfl, h6, hb⟩
        have b1 : Below v3.heap.size v3 q1_1 := b0.trans (hb.mono b0.size)
        obtain rfl : n6 = f0 := by have := h6.len; rw [← L2.out]; exact this.symm
        have hl6 := h6
        go_wp2_with fail
        refine hK _ _ (hS _ b1) ?_
        clear hK K hc hb
        try simp only [Act.put, List.setIfInBounds_toArray, List.set_cons_zero, List.set_cons_succ]
        repeat (first | (refine ordS (by rfl) ?_; simp only [Act.put, List.setIfInBounds_toArray, List.set_cons_zero, List.set_cons_succ]) | (refine ordN (by rfl) ?_; simp only [Act.put, List.setIfInBounds_toArray, List.set_cons_zero, List.set_cons_succ]) | (refine ordQ (v := ?_) (by rfl) (fun _ hSw => ?_) ?_; rotate_left; (focus ((have hS1 := hSw); clear hSw; go_simp; (first | done | with_reducible rfl))); simp only [Act.put, List.setIfInBounds_toArray, List.set_cons_zero, List.set_cons_succ]))
        refine ordE ?_
        replace hxr := hxr.below b1
        replace hgr := hgr.below b1
        replace hdr := hdr.below b1
        replace hgt := hgt.below b1
        replace h5 := h5.below b1
        replace bgr := bgr.below b1
        replace hB := hB.trans (b1.mono hB.size)
        clear hS b0 b1
        have eg0 := bgr.c0
        have eg1 := bgr.c1
        have hS : ∀ w', Below q1_1.heap.size q1_1 w' → w'.cell? ⟨w.heap.size, 1, none⟩ = some (.int .i64 (M : Int)) := fun w' hb => (bgr.below hb).c1
        go_wp2_with fail
        refine wp_region_ord (S := fun w' => w'.cell? ⟨w.heap.size, 1, none⟩ = some (.int .i64 (M : Int))) [(0, true), (1, true), (2, true), (3, true), (4, true), (5, false), (6, true), (7, true), (8, true), (9, true), (10, true)] default (by kernel_rfl) (by kernel_rfl) (by kernel_rfl) (hS _ ((Below.refl _ q1_1).drew)) ?_
        simp only [getOrd, nth]
        obtain ⟨q2_0, hu0⟩ : ∃ q2_0, q2_0 = q1_1.drew := ⟨_, rfl⟩
        have b0 : Below q1_1.heap.size q1_1 q2_0 := by rw [hu0]; exact ((Below.refl _ q1_1).drew)
        rw [← hu0]
        clear hu0
        repeat (first | (refine ordS (by rfl) ?_; simp only [Act.put, List.setIfInBounds_toArray, List.set_cons_zero, List.set_cons_succ]) | (refine ordN (by rfl) ?_; simp only [Act.put, List.setIfInBounds_toArray, List.set_cons_zero, List.set_cons_succ]) | (refine ordQ (v := ?_) (by rfl) (fun _ hSw => ?_) ?_; rotate_left; (focus ((have hS1 := hSw); clear hSw; go_simp; (first | done | with_reducible rfl))); simp only [Act.put, List.setIfInBounds_toArray, List.set_cons_zero, List.set_cons_succ]))
        rw [HAQ.out]
        refine ordD (by rfl) ?_
        intro K hK
        go_simp
        have hc := pmostC ⟨Aq, x.n - n6, x.n - n6, T.drop n6⟩ M q2_0 (hdr.below b0) (by omega) (by omega)
        rw [show Gr.v ⟨Aq, x.n - n6, x.n - n6, T.drop n6⟩ = .slice Aq (x.n - n6) (x.n - n6) from rfl, HG3.out, E7.out, E8.out] at hc
        refine hc.mono ?_
        rintro e q2_1 ⟨A7, n7, c7, rfl, h7, hb⟩
        have b1 : Below q1_1.heap.size q1_1 q2_1 := b0.trans (hb.mono b0.size)
        obtain rfl : n7 = x.n - n6 := by have := h7.len; rw [← L3.out]; exact this.symm
        have hl7 := h7
        go_wp2_with fail
        refine hK _ _ (hS _ b1) ?_
        clear hK K hc hb
        try simp only [Act.put, List.setIfInBounds_toArray, List.set_cons_zero, List.set_cons_succ]
        repeat (first | (refine ordS (by rfl) ?_; simp only [Act.put, List.setIfInBounds_toArray, List.set_cons_zero, List.set_cons_succ]) | (refine ordN (by rfl) ?_; simp only [Act.put, List.setIfInBounds_toArray, List.set_cons_zero, List.set_cons_succ]) | (refine ordQ (v := ?_) (by rfl) (fun _ hSw => ?_) ?_; rotate_left; (focus ((have hS1 := hSw); clear hSw; go_simp; (first | done | with_reducible rfl))); simp only [Act.put, List.setIfInBounds_toArray, List.set_cons_zero, List.set_cons_succ]))
        refine ordE ?_
        replace hxr := hxr.below b1
        replace hgr := hgr.below b1
        replace hdr := hdr.below b1
        replace hgt := hgt.below b1
        replace h5 := h5.below b1
        replace h6 := h6.below b1
        replace bgr := bgr.below b1
        replace hB := hB.trans (b1.mono hB.size)
        clear hS b0 b1
        have eg0 := bgr.c0
        have eg1 := bgr.c1
        have hc := alive8_any q2_1
        go_wp2_with fail
        clear eg0 eg1
        refine hc.mono ?_
        rintro e v4 ⟨rfl, hb⟩
        clear hc
        replace hxr := hxr.below hb
        replace hgr := hgr.below hb
        replace hdr := hdr.below hb
        replace hgt := hgt.below hb
        replace h5 := h5.below hb
        replace h6 := h6.below hb
        replace h7 := h7.below hb
        replace bgr := bgr.below hb
        replace hB := hB.trans (hb.mono hB.size)
        clear hb
        go_wp2_with (at_builtin; go_must (refine wpList_appw v4 (by rfl) _ _ 25 rfl 3 i0 _ 8 Try.underlying25 hi0 hz0 hz1 hz2 rfl v4.heap.size none 0 0 [] rfl (Own.none_ _ _ _ _) _ n6 c6 (ci64 lb) rfl h6.own.rd ?p1 ?p2 ?p3 ?p4 ?_))
        case p1 => intro u hu; obtain ⟨z, _, rfl⟩ := List.mem_map.1 hu; rfl
        case p2 => simp only [maxLen]; omega
        case p3 => omega
        try case p4 => exact Nat.le_refl _
        intro A8 c8 w8 hown8 hbel8
        have h78 := h7.below hbel8
        have h58 := h5.below hbel8
        have hsz8 := hbel8.size
        have hB8 := hB.trans (hbel8.mono hB.size)
        have hO8 : Own w8 v4.heap.size 3 A8 n6 c8 (ci64 lb) := by simpa using hown8
        clear hown8
        go_wp2_with (at_builtin; go_must (refine wpList_appw w8 (by rfl) _ _ 25 rfl 3 i0 _ 8 Try.underlying25 hi0 hz0 hz1 hz2 rfl v4.heap.size A8 n6 c8 _ rfl hO8 _ (x.n - n6) c7 (ci64 lc) rfl h78.own.rd ?p5 ?p6 ?p7 ?p8 ?_))
        case p5 => intro u hu; obtain ⟨z, _, rfl⟩ := List.mem_map.1 hu; rfl
        case p6 => simp only [maxLen]; omega
        case p7 => omega
        try case p8 => exact hsz8
        intro A9 c9 w9 hown9 hbel9
        have hB9 := hB8.trans (hbel9.mono (Nat.le_trans hB.size (Nat.le_refl _)))
        have h59 := h5.below (hbel8.trans hbel9)
        have hB := hB9
        have hnn : n6 + (x.n - n6) = x.n := by omega
        try rw [hnn] at hown9
        try rw [hnn]
        have h99 : OwnI w9 v4.heap.size ⟨A9, x.n, c9, la⟩ := by
          refine ⟨?_, h5.fit⟩
          show Own w9 v4.heap.size _ A9 x.n c9 (ci64 la)
          rw [HAP.out, ci64_app]
          exact hown9
        clear hown9 hbel8 hbel9 hB8 hB9 hO8 h58 h78 hsz8 hnn
        have hc := sameints_b ⟨A5, x.n, c5, la⟩ ⟨A9, x.n, c9, la⟩ w9 h59.ok h99.ok
        rw [show (la == la) = true by simp] at hc
        go_wp2_with fail
        refine hc.mono ?_
        rintro e v5 ⟨rfl, hb⟩
        clear hc
        replace h59 := h59.below hb
        replace h99 := h99.below hb
        replace hB := hB.trans (hb.mono hB.size)
        clear hb
        go_wp2
        go_ret
        exact ⟨rfl, hB⟩

theorem own : ownKnob Try.prog.godebug = none := by kernel_rfl
theorem laidOut : laidOutB Try.prog = true := by kernel_rfl

set_option maxRecDepth 100000 in
theorem lifted (os : Os) (started : os.Started) (H : Type) (enc : TypeId × Value → H) :
    ReturnsInHanded {} Try.checked os 8 .any (Rows.matchingsApartSpec.pre6 enc Try.prog Try.f8 Rows.matchingsApartRow.domain false) (Rows.matchingsApartSpec.post enc Try.prog Try.f8 false true false false) := by
  refine returnsInHanded_of_change (C := Try.checked) own started (by kernel_rfl) Try.func8
    (ChangeSpec.witness6 (enc := enc) (C := Try.checked) false ⟨#[], #[.agg #[.slice none 0 0, .int .i64 0], .int .u8 0, .int .u8 0], []⟩ 8 (by kernel_rfl) (by kernel_rfl) (by kernel_rfl) (by kernel_rfl)) ?_
  intro W base args ds gs before hval0 hW hcnd _
  have hval : ∀ (j : Nat) t v, Try.f8.params[j]? = some t → args[j]? = some v → Value.okWide Try.prog W .any base t v := hval0
  have hW' := hW
  obtain ⟨p, q, hA0, hV, rfl, hfz, hnd⟩ := hW
  have hA : DataW.TrodAll enc Try.prog W 0 (fun _ => true) true Try.f8.params.toList args.toList ds p := hA0
  rw [Try.params8] at hA hval
  obtain ⟨v0, vs0, d0, ds0, p0, q0, hargs, rfl, rfl, h0, r0⟩ := trodAll_cons hA
  obtain ⟨v1, vs1, d1, ds1, p1, q1, rfl, rfl, rfl, h1, r1⟩ := trodAll_cons r0
  obtain ⟨v2, vs2, d2, ds2, p2, q2, rfl, rfl, rfl, h2, r2⟩ := trodAll_cons r1
  obtain ⟨rfl, rfl, rfl⟩ := trodAll_nil r2
  obtain rfl : args = #[v0, v1, v2] := by cases args; simp_all
  obtain ⟨u0, m0, rfl, k0, a0, b0⟩ := arg_gr Try.underlying24 (by kernel_rfl) (by kernel_rfl) Try.underlying22 Try.underlying3 Try.underlying25 (by kernel_rfl) Try.underlying3 (by kernel_rfl) (hval 0 24 v0 rfl rfl) h0
  obtain ⟨x1, rfl, rfl, rfl, w1⟩ := open_int Try.underlying5 (hval 1 5 v1 rfl rfl) h1
  obtain ⟨y1, rfl, z1⟩ := fit_u8 w1
  obtain ⟨x2, rfl, rfl, rfl, w2⟩ := open_int Try.underlying5 (hval 2 5 v2 rfl rfl) h2
  obtain ⟨y2, rfl, z2⟩ := fit_u8 w2
  have hwalk : Calls Try.prog 8 #[.agg #[u0.v, .int .i64 m0], .int .u8 y1, .int .u8 y2] W fun e w' => e = .returned (.bool true) ∧ Below W.heap.size W w' := walk u0 m0 y1 y2 W k0 a0 b0 z1 z2
  refine hwalk.mono fun e W' ⟨he, hg⟩ => ?_
  subst he
  exact ⟨_, rfl, law_post laidOut (by kernel_rfl) hW' rfl rfl (by kernel_rfl) Try.underlying4 hg⟩

theorem over : Rows.matchingsApartRow.holds Try.pinned (OpenSpec.ofChange Rows.matchingsApartSpec) :=
  OpenClaim.holds_of_wide 8 Try.f8 rfl rfl rfl rfl rfl rfl rfl ⟨rfl, rfl, rfl, rfl, rfl⟩ rfl rfl rfl rfl rfl (by kernel_rfl) Try.func8 (by kernel_rfl)
    (of_decide_eq_true (by kernel_rfl)) (by unfold Func.isWrapper; first | (rw [if_pos (by decide +kernel)]; kernel_rfl) | (rw [if_neg (by decide +kernel)]; exact ⟨rfl, rfl⟩))
    (fun os started H enc _ => lifted os started H enc)

theorem proved : Rows.MatchingsApartSaid :=
  over

end Go.Proofs.Ytcjfgkihmhdhlaa.matchingsApart
