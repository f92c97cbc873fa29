/-
  Proved: WeightsIdle holds of all gains of 7 items and 7 bidders at most: an item that nobody gains by and a bidder that gains by nothing add nothing.
-/
import Derived.Test.YtiaoplghaigclaaRows
import Derived.Test.YtiaoplghaigclaaLift
import Derived.Test.YtiaoplghaigclaaAlive10
import Derived.Test.YtiaoplghaigclaaZeros
import Derived.Test.YtiaoplghaigclaaReg
namespace Go.Proofs.Ytiaoplghaigclaa.weightsIdle
open Go.ChangeShapes Go.WideShapes Go.ChangeAt Go.RowKit
set_option linter.unusedVariables false

theorem info6_int : (Try.prog.info? 3).map (fun i => (i.zero, i.size, i.bytes)) = some (some (.int .i64 0), 1, 8) := by kernel_rfl
theorem infoI_ints : (Try.prog.info? 28).map (fun i => (i.zero, i.size, i.bytes)) = some (some (.slice none 0 0), 1, 24) := by kernel_rfl
theorem wpList_appw {P : Program} (w : World) {ops : Array Oper} {rest : List Oper} {o : Oper} {a : Act} {Q : Exit → Act → World → Prop} (hw : Region.wanted o (yielded ops a.tmps) = true) (s x : Operand) (t : TypeId)
    (ho : o.op = .call { callee := .builtin .append, args := #[s, x], argTypes := #[t, t] })
    (e : TypeId) (i : TypeInfo) (z : Value) (bytes : Nat) (ht : P.underlying t = some (.slice e)) (hi : P.info? e = some i) (hz : i.zero = some z)
    (hsize : i.size = 1) (hby : i.bytes = bytes) (hzs : z.cells.size = 1)
    (B : Nat) (A : Option Addr) (n c : Nat) (xs : List Value) (hs : a.eval s = .slice A n c) (hown : Own w B e A n c xs)
    (A' : Option Addr) (m c' : Nat) (ys : List Value) (hx : a.eval x = .slice A' m c') (hr : Rd w A' m ys) (h1 : ∀ u ∈ ys, u.oneCell' = true)
    (h63 : n + m ≤ maxLen) (hbytes : (n + m) * bytes ≤ 140737488355328) (hB : B ≤ w.heap.size)
    (h : ∀ A2 c2 w', Own w' B e A2 (n + m) c2 (xs ++ ys) → Below B w w' → wpList P ops Q rest (a.put o.dst (.slice A2 (n + m) c2)) w') : wpList P ops Q (o :: rest) a w :=
  BigFrame.wpList_want hw fun _ hK => wp_app w s x t ho e i z bytes ht hi hz hsize hby hzs B A n c xs hs hown A' m c' ys hx hr h1 h63 hbytes hB fun A2 c2 w' h2 h3 _ _ => hK _ _ (h A2 c2 w' h2 h3)
/-- Gains, with an item that nobody gains by. -/
def idleL (g : List (List Int)) (j : Nat) : List (List Int) := (g.take j).map (· ++ [-1])
theorem idleL_succ {g : List (List Int)} {j : Nat} {l : List Int} (h : g[j]? = some l) : idleL g (j + 1) = idleL g j ++ [l ++ [-1]] := by
  obtain ⟨hj, rfl⟩ := List.getElem?_eq_some_iff.1 h
  rw [idleL, List.take_succ_eq_append_getElem hj, List.map_append]; rfl
def idleA (g : List (List Int)) (m : Nat) : List (List Int) := idleL g g.length ++ [List.replicate (m + 1) (-1)]
theorem idleA_len (g : List (List Int)) (m : Nat) : (idleA g m).length = g.length + 1 := by simp [idleA, idleL]
theorem idleA_may {g : List (List Int)} {m : Nat} (h : mayW g m = true) (h7 : m ≤ 7) (hn7 : g.length ≤ 7) : mayW (idleA g m) ((m : Int) + 1) = true := by
  obtain ⟨h1, h2, h3, h4⟩ := mayW_iff.1 h
  refine mayW_iff.2 ⟨by omega, by omega, by rw [idleA_len]; omega, fun l hl => ?_⟩
  rcases List.mem_append.1 hl with hl | hl
  · rw [idleL, List.take_length] at hl
    obtain ⟨r, hr, rfl⟩ := List.mem_map.1 hl
    obtain ⟨h5, h6⟩ := h4 r hr
    refine ⟨by rw [List.length_append, List.length_singleton]; omega, fun z hz => ?_⟩
    rcases List.mem_append.1 hz with hz | hz
    · exact h6 z hz
    · rw [List.mem_singleton.1 hz]; omega
  · rw [List.mem_singleton.1 hl]
    refine ⟨by rw [List.length_replicate]; omega, fun z hz => ?_⟩
    rw [(List.mem_replicate.1 hz).2]; omega
theorem idleA_gG {g : List (List Int)} {m b c : Nat} (h : mayW g m = true) (hb : b < g.length + 1) (hc : c < m + 1) : gG (idleA g m) b c = idleG (gG g) m g.length b c := by
  unfold idleG
  by_cases e : b = g.length
  · subst e
    rw [if_pos (.inl rfl), gG_at (l := List.replicate (m + 1) (-1)) (by rw [idleA, List.getElem?_append_right (by simp [idleL])]; simp [idleL]), List.getD_eq_getElem?_getD, List.getElem?_replicate, if_pos hc]; rfl
  · have hb' : b < g.length := by omega
    have hl := (may_row h hb').1
    rw [gG_at (l := g[b] ++ [-1]) (by rw [idleA, List.getElem?_append_left (by simp [idleL]; omega), idleL, List.take_length, List.getElem?_map, List.getElem?_eq_getElem hb']; rfl), List.getD_eq_getElem?_getD]
    by_cases e2 : c = m
    · subst e2
      rw [if_pos (.inr rfl), List.getElem?_append_right (by omega), hl, Nat.sub_self]; rfl
    · rw [if_neg (fun h => h.elim e e2), List.getElem?_append_left (by omega), gG, List.getD_eq_getElem?_getD (l := g), List.getElem?_eq_getElem hb', ← List.getD_eq_getElem?_getD]; rfl
theorem idle_all {g : List (List Int)} {m : Nat} (h : mayW g m = true) (h7 : m ≤ 7) (hn7 : g.length ≤ 7) :
    bestE (idleA g m) ((m : Int) + 1) = bestE g m ∧ wErr (idleA g m) ((m : Int) + 1) = 0 ∧ bidE (idleA g m) ((m : Int) + 1) = bidE g m ++ [0] ∧ ofE (idleA g m) ((m : Int) + 1) = ofE g m ++ [0] := by
  have hm := idleA_may h h7 hn7
  rw [show ((m : Int) + 1) = ((m + 1 : Nat) : Int) from rfl] at hm ⊢
  have hg : ∀ b c, b < (idleA g m).length → c < m + 1 → gG (idleA g m) b c = idleG (gG g) m g.length b c := fun b c hb hc => idleA_gG h (by rw [idleA_len] at hb; exact hb) hc
  refine ⟨?_, (we_ok hm).2.1, ?_, ?_⟩
  · rw [bestE_of hm hg, idleA_len, idle_best, (we_ok h).1]
  · rw [bidE_of hm hg, idleA_len, (we_ok h).2.2.2, List.range_succ, List.map_append]
    congr 1
    · exact List.map_congr_left fun i hi => idle_bid (List.mem_range.1 hi)
    · show [_] = [_]
      rw [idle_bid_last]
  · rw [ofE_of hm hg, idleA_len, (we_ok h).2.2.1, List.range_succ, List.map_append]
    congr 1
    · exact List.map_congr_left fun k hk => idle_num (List.mem_range.1 hk)
    · show [_] = [_]
      rw [idle_num_last]
theorem rep_succ (m : Nat) : List.replicate m (-1 : Int) ++ [-1] = List.replicate (m + 1) (-1) := (List.replicate_succ' ..).symm

set_option maxRecDepth 100000 in
set_option maxHeartbeats 4000000 in
theorem walk (x : Gr) (m : Int) (w : World) (h : x.Ok w) (hm1 : -9223372036854775808 ≤ m) (hm2 : m ≤ 9223372036854775807) :
    Calls Try.prog 11 #[.agg #[x.v, .int .i64 m]] w fun e w' => e = .returned (.bool true) ∧ Below w.heap.size w w' := by
  have hx := h
  have hB := Below.refl w.heap.size w
  have hxv : x.v = .slice x.A x.n x.c := rfl
  have Vx := Lib.hid hxv
  rw [hxv]
  have hgl := h.glen
  have HGL := Lib.hid hgl
  have htop := Nat.le_trans h.cap h.top
  unfold maxLen at htop
  obtain ⟨B, hB0⟩ : ∃ B, mayW x.g m = B := ⟨_, rfl⟩
  clear hxv hgl h
  go_enter Try.func11, Try.ntmps11
  have bg := WBox.new w x m
  have hbx : Below w.heap.size w (w.alloc (.cells #[.slice x.A x.n x.c, .int .i64 m] 24)) := (Below.refl _ w).alloc (Nat.le_refl _) _
  replace hx := hx.below hbx
  replace hB := hB.trans (hbx.mono hB.size)
  clear hbx
  cases B
  · have E1 := Lib.hid (we_bad hB0)
    clear hB0
    have eg0 := bg.c0
    have eg1 := bg.c1
    have hc := pbestC x m (w.alloc (.cells #[.slice x.A x.n x.c, .int .i64 m] 24)) hx (by omega) (by omega)
    rw [Vx.out, E1.out.1, E1.out.2.1] at hc
    go_wp2_with fail
    clear eg0 eg1
    generalize w.alloc (.cells #[.slice x.A x.n x.c, .int .i64 m] 24) = W1 at *
    refine hc.mono ?_
    rintro e v2 ⟨rfl, hb⟩
    clear hc
    replace hx := hx.below hb
    replace bg := bg.below hb
    replace hB := hB.trans (hb.mono hB.size)
    clear hb
    have eg0 := bg.c0
    have eg1 := bg.c1
    have hc := pprovedC x m v2 hx (by omega) (by omega)
    rw [Vx.out, E1.out.2.1, E1.out.2.2.2, E1.out.2.2.1] at hc
    go_wp2_with fail
    clear eg0 eg1
    refine hc.mono ?_
    rintro e v3 ⟨A1, n1, c1, A1p, n1p, c1p, rfl, h1, h1p, hapt, hb⟩
    clear hc
    replace hx := hx.below hb
    replace bg := bg.below hb
    replace hB := hB.trans (hb.mono hB.size)
    clear hb
    clear hapt
    clear h1 h1p
    have eg0 := bg.c0
    have eg1 := bg.c1
    have hc := alive10_any v3
    go_wp2_with fail
    clear eg0 eg1
    refine hc.mono ?_
    rintro e v4 ⟨rfl, hb⟩
    clear hc
    replace hx := hx.below hb
    replace bg := bg.below hb
    replace hB := hB.trans (hb.mono hB.size)
    clear hb
    have eg0 := bg.c0
    have eg1 := bg.c1
    go_wp2
    go_ret
    exact ⟨rfl, hB⟩
  · obtain ⟨M, rfl⟩ : ∃ M : Nat, m = M := ⟨m.toNat, by have := (mayW_iff.1 hB0).1; omega⟩
    have HB0 := Lib.hid hB0
    obtain ⟨hM1, hM8, hx8⟩ := may_m hB0
    rw [HGL.out] at hx8
    have EE := Lib.hid (we_ok hB0).2.1
    obtain ⟨a0, ha0⟩ : ∃ a, bestE x.g M = a := ⟨_, rfl⟩
    obtain ⟨ul, hul⟩ : ∃ a, bidE x.g M = a := ⟨_, rfl⟩
    obtain ⟨pl, hpl⟩ : ∃ a, ofE x.g M = a := ⟨_, rfl⟩
    have EB := Lib.hid ha0
    have EU := Lib.hid hul
    have EP := Lib.hid hpl
    have ULN : Hid (ul.length = x.n) := Lib.hid (by rw [← hul, bidE_len hB0, HGL.out])
    have PLN : Hid (pl.length = M) := Lib.hid (by rw [← hpl, ofE_len hB0])
    have UGET : Hid (∀ i, i < x.n → ul[i]? = some (bidP (gG x.g) M x.n i)) := Lib.hid (fun i hi => by rw [← hul, bidE_get hB0 (by rw [HGL.out]; exact hi), HGL.out])
    have PGET : Hid (∀ k, k < M → pl[k]? = some (numP (gG x.g) M x.n k)) := Lib.hid (fun k hk => by rw [← hpl, ofE_get hB0 hk, HGL.out])
    have BV : Hid (a0 = bestV (gG x.g) M x.n) := Lib.hid (by rw [← ha0, (we_ok hB0).1, HGL.out])
    have hab : 0 ≤ a0 ∧ a0 ≤ 8000000 := by rw [← ha0, (we_ok hB0).1]; exact best_bound hB0
    have HRW : Hid (∀ u ∈ x.t, u.n = M) := Lib.hid (fun u hu => by
      have h1 := (mayW_iff.1 hB0).2.2.2 u.zs (by rw [Gr.g, Ls.all]; exact List.mem_map_of_mem hu)
      have h2 := (hx.lss.ok u hu).len
      omega)
    clear hB0 ha0 hul hpl hm1 hm2
    have eg0 := bg.c0
    have eg1 := bg.c1
    have hc := pbestC x M (w.alloc (.cells #[.slice x.A x.n x.c, .int .i64 (M : Int)] 24)) hx (by omega) (by omega)
    rw [Vx.out, EB.out, EE.out] at hc
    go_wp2_with fail
    clear eg0 eg1
    generalize w.alloc (.cells #[.slice x.A x.n x.c, .int .i64 (M : Int)] 24) = W1 at *
    refine hc.mono ?_
    rintro e v2 ⟨rfl, hb⟩
    clear hc
    replace hx := hx.below hb
    replace bg := bg.below hb
    replace hB := hB.trans (hb.mono hB.size)
    clear hb
    have eg0 := bg.c0
    have eg1 := bg.c1
    have hc := pprovedC x M v2 hx (by omega) (by omega)
    rw [Vx.out, EE.out, EU.out, EP.out] at hc
    go_wp2_with fail
    clear eg0 eg1
    refine hc.mono ?_
    rintro e v3 ⟨A1, n1, c1, A1p, n1p, c1p, rfl, h1, h1p, hapt, hb⟩
    clear hc
    replace hx := hx.below hb
    replace bg := bg.below hb
    replace hB := hB.trans (hb.mono hB.size)
    clear hb
    clear hapt
    obtain rfl : n1 = x.n := by have h5 := h1.len; have h6 := ULN.out; simp only at h5; omega
    obtain rfl : M = n1p := by have h5 := h1p.len; have h6 := PLN.out; simp only at h5; omega
    by_cases q7 : 7 < M
    · have gn : decide ((7 : Int) < (M : Int)) = true := decide_eq_true (by omega)
      clear h1 h1p
      have eg0 := bg.c0
      have eg1 := bg.c1
      have hc := alive10_any v3
      go_wp2_with fail
      clear eg0 eg1
      refine hc.mono ?_
      rintro e v4 ⟨rfl, hb⟩
      clear hc
      replace hx := hx.below hb
      replace bg := bg.below hb
      replace hB := hB.trans (hb.mono hB.size)
      clear hb
      have eg0 := bg.c0
      have eg1 := bg.c1
      go_wp2
      go_ret
      exact ⟨rfl, hB⟩
    · have gn : decide ((7 : Int) < (M : Int)) = false := decide_eq_false (by omega)
      by_cases r7 : 7 < x.n
      · have gn2 : decide ((7 : Int) < (x.n : Int)) = true := decide_eq_true (by omega)
        clear h1 h1p
        have eg0 := bg.c0
        have eg1 := bg.c1
        have hc := alive10_any v3
        go_wp2_with fail
        clear eg0 eg1
        refine hc.mono ?_
        rintro e v4 ⟨rfl, hb⟩
        clear hc
        replace hx := hx.below hb
        replace bg := bg.below hb
        replace hB := hB.trans (hb.mono hB.size)
        clear hb
        have eg0 := bg.c0
        have eg1 := bg.c1
        go_wp2
        go_ret
        exact ⟨rfl, hB⟩
      · have gn2 : decide ((7 : Int) < (x.n : Int)) = false := decide_eq_false (by omega)
        obtain ⟨i0, hi0, hz0, hz1, hz2⟩ := info_parts info6_int
        obtain ⟨i1, hi1', hy0, hy1, hy2⟩ := info_parts infoI_ints
        obtain ⟨f1, f2, f3, f4⟩ := idle_all HB0.out (by omega) (by rw [HGL.out]; omega)
        rw [EB.out] at f1
        rw [EU.out] at f3
        rw [EP.out] at f4
        have F1 := Lib.hid f1
        have F2 := Lib.hid f2
        have F3 := Lib.hid f3
        have F4 := Lib.hid f4
        clear f1 f2 f3 f4
        have eg0 := bg.c0
        have eg1 := bg.c1
        go_wp2_with fail
        clear eg0 eg1
        go_loopw [8, 9] (fun o v wr => ∃ (i c : Nat) (A : Option Addr) (t : List Ls), i ≤ x.n ∧ v = .int .i64 i ∧ o = .slice A i c ∧ Own wr v3.heap.size 28 A i c (t.map Ls.v) ∧ Hid (∀ u ∈ t, OwnI wr v3.heap.size u) ∧ Hid (Ls.all t = idleL x.g i) ∧ Below v3.heap.size v3 wr) (fun _ v _ => x.n - (intOf v).toNat)
        case atStart => exact ⟨0, 0, none, [], Nat.zero_le _, rfl, rfl, Own.none_ _ _ _ _, Lib.hid (by simp), Lib.hid (by simp [idleL, Ls.all]), Below.refl _ _⟩
        case round =>
          obtain ⟨i, c, A, t, hi, rfl, rfl, hOt, hrows, hall, hbel⟩ := hrel
          have e0 := (bg.below hbel).c0
          have e1 := (bg.below hbel).c1
          have hsz := hbel.size
          by_cases hin : i < x.n
          · have hin' : (i : Int) < x.n := by omega
            have hi0' : (0 : Int) ≤ i := by omega
            obtain ⟨p2, q2, y, hAx, hgy, hp2, hcx0, hky0⟩ := gr_get (A := x.A) (n := x.n) (c := x.c) (t := x.t) hx rfl hin
            have hcx := (hbel.cell (p := ⟨p2, q2 + i, none⟩) hp2).trans hcx0
            have hky := hky0.below hbel
            have hgi : x.g[i]? = some y.zs := by
              have h1 : x.g.getD i [] = y.zs := hgy
              rw [← h1, List.getD_eq_getElem?_getD, List.getElem?_eq_getElem (by rw [HGL.out]; exact hin)]; rfl
            have hyn : y.n = M := by
              have h1 := hky.len
              obtain ⟨hl, he⟩ := List.getElem?_eq_some_iff.1 hgi
              have h2 := (may_row HB0.out hl).1
              rw [he] at h2
              omega
            have HN := Lib.hid (idleL_succ hgi)
            have hy8 : y.n ≤ 8 := by omega
            rw [hAx] at e0
            have HAx := Lib.hid hAx
            have hyrd := hky.rd
            have hyfit := hky.fit
            clear hcx0 hky0 hgy hgi hAx hky hyn
            go_wp2_with (at_builtin; go_must (refine wpList_app wr rfl _ _ 28 rfl 3 i0 _ 8 Try.underlying28 hi0 hz0 hz1 hz2 rfl wr.heap.size none 0 0 [] rfl (Own.none_ _ _ _ _) _ y.n y.c (ci64 y.zs) rfl hyrd ?a1 ?a2 ?a3 ?a4 ?_))
            case a1 => intro u hu; obtain ⟨z, _, rfl⟩ := List.mem_map.1 hu; rfl
            case a2 => simp only [maxLen]; omega
            case a3 => omega
            try case a4 => exact Nat.le_refl _
            intro A3 c3 w3 hown3 hbel3 _ _
            have hO3 : Own w3 wr.heap.size 3 A3 y.n c3 (ci64 y.zs) := by simpa using hown3
            have hsz3 := hbel3.size
            clear hown3
            go_wp2_with (at_builtin; go_must (refine wpList_app1 w3 rfl _ _ 28 rfl 3 i0 _ 8 Try.underlying28 hi0 hz0 hz1 hz2 rfl wr.heap.size A3 y.n c3 _ rfl hO3 1 rfl rfl ?b1 ?b2 ?b3 ?_))
            case b1 => simp only [maxLen]; omega
            case b2 => omega
            try case b3 => exact hsz3
            intro A4 c4 w4 hown4 hbel4 _ _
            have hO4 : OwnI w4 wr.heap.size ⟨A4, y.n + 1, c4, y.zs ++ [-1]⟩ := by
              refine ⟨?_, fun z hz => ?_⟩
              · show Own w4 wr.heap.size _ A4 (y.n + 1) c4 (ci64 (y.zs ++ [-1]))
                rw [ci64_app]; exact hown4
              · rcases List.mem_append.1 hz with hz | hz
                · exact hyfit z hz
                · rw [List.mem_singleton.1 hz]; omega
            have hb4 : Below wr.heap.size wr w4 := hbel3.trans hbel4
            have hOt4 := hOt.below hb4
            have hrows4 : ∀ u ∈ t, OwnI w4 v3.heap.size u := fun u hu => (hrows.out u hu).below hb4
            have hsz4 : v3.heap.size ≤ w4.heap.size := Nat.le_trans hsz hb4.size
            have hbV4 := hbel.trans (hb4.mono hsz)
            clear hown4 hbel3 hbel4 hO3 hOt hrows
            go_wp2_with (at_builtin; go_must (refine wpList_app1 w4 rfl _ _ 22 rfl 28 i1 _ 24 Try.underlying22 hi1' hy0 hy1 hy2 rfl v3.heap.size A i c _ rfl hOt4 1 rfl rfl ?d1 ?d2 ?d3 ?_))
            case d1 => simp only [maxLen]; omega
            case d2 => omega
            try case d3 => exact hsz4
            intro A5 c5 w5 hown5 hbel5 hfr5 _
            have hbV5 := hbV4.trans hbel5
            have hT : Own w5 v3.heap.size 28 A5 (i + 1) c5 ((t ++ [(⟨A4, y.n + 1, c4, y.zs ++ [-1]⟩ : Ls)]).map Ls.v) := by rw [List.map_append]; exact hown5
            have HR5 : Hid (∀ u ∈ t ++ [⟨A4, y.n + 1, c4, y.zs ++ [-1]⟩], OwnI w5 v3.heap.size u) := Lib.hid (fun u hu => by
              rcases List.mem_append.1 hu with hu | hu
              · exact (hrows4 u hu).app hOt4 hfr5
              · rw [List.mem_singleton.1 hu]
                exact (hO4.app hOt4 hfr5).mono hsz)
            have HA5 : Hid (Ls.all (t ++ [⟨A4, y.n + 1, c4, y.zs ++ [-1]⟩]) = idleL x.g (i + 1)) := Lib.hid (by
              rw [HN.out, ← hall.out]; simp [Ls.all])
            clear hown5 hbel5 hfr5 hO4 hOt4 hrows4 hb4 hbV4 hall e0 e1 hcx hyrd hyfit
            go_wp2
            go_roundw
            case rel => exact ⟨i + 1, c5, A5, _, by omega, by go_num, rfl, hT, HR5, HA5, hbV5⟩
            case measure => simp [intOf]; omega
          · obtain rfl : i = x.n := by omega
            have hall2 : Hid (Ls.all t = idleL x.g x.g.length) := Lib.hid (by rw [hall.out, HGL.out])
            have sM : IntKind.i64.wrap ((M : Int) + 1) = (M : Int) + 1 := by rw [IntKind.wrap_i64]; omega
            obtain ⟨wo, rfl⟩ : ∃ wo, wo = wr := ⟨_, rfl⟩
            clear hall
            go_wp2_with fail
            clear e0 e1
            go_loopw [10, 11] (fun o v wr => ∃ (k c : Nat) (A : Option Addr), k ≤ M + 1 ∧ v = .int .i64 k ∧ o = .slice A k c ∧ Own wr wo.heap.size 3 A k c (ci64 (List.replicate k (-1))) ∧ Below wo.heap.size wo wr) (fun _ v _ => M + 1 - (intOf v).toNat)
            case atStart => exact ⟨0, 0, none, Nat.zero_le _, rfl, rfl, Own.none_ _ _ _ _, Below.refl _ _⟩
            case round =>
              obtain ⟨k, ck, Ak, hk, rfl, rfl, hOk, hbk⟩ := hrel
              have hbVk := hbel.trans (hbk.mono hsz)
              have e0 := (bg.below hbVk).c0
              have e1 := (bg.below hbVk).c1
              have hk0 : (0 : Int) ≤ k := by omega
              by_cases hkn : k < M + 1
              · have hkn' : decide ((k : Int) ≤ (M : Int)) = true := decide_eq_true (by omega)
                have hszk := hbk.size
                go_wp2_with (at_builtin; go_must (refine wpList_app1 wr rfl _ _ 28 rfl 3 i0 _ 8 Try.underlying28 hi0 hz0 hz1 hz2 rfl wo.heap.size Ak k ck _ rfl hOk 1 rfl rfl ?f1 ?f2 ?f3 ?_))
                case f1 => simp only [maxLen]; omega
                case f2 => omega
                try case f3 => exact hszk
                intro A6 c6 w6 hown6 hbel6 _ _
                have hO6 : Own w6 wo.heap.size 3 A6 (k + 1) c6 (ci64 (List.replicate (k + 1) (-1))) := by
                  rw [← rep_succ, ci64_app]; exact hown6
                have hb6 := hbk.trans hbel6
                clear hown6 hbel6 hOk hbk e0 e1
                go_wp2
                go_roundw
                case rel => exact ⟨k + 1, c6, A6, by omega, by go_num, rfl, hO6, hb6⟩
                case measure => simp [intOf]; omega
              · obtain rfl : k = M + 1 := by omega
                have hkn' : decide (((M + 1 : Nat) : Int) ≤ (M : Int)) = false := decide_eq_false (by omega)
                have hOr : OwnI wr wo.heap.size ⟨Ak, M + 1, ck, List.replicate (M + 1) (-1)⟩ := ⟨hOk, fun z hz => by rw [(List.mem_replicate.1 hz).2]; omega⟩
                have hOt4 := hOt.below hbk
                have hrows4 : ∀ u ∈ t, OwnI wr v3.heap.size u := fun u hu => (hrows.out u hu).below hbk
                have hsz4 : v3.heap.size ≤ wr.heap.size := Nat.le_trans hsz hbk.size
                clear hOk
                go_wp2_with (at_builtin; go_must (refine wpList_app1 wr rfl _ _ 22 rfl 28 i1 _ 24 Try.underlying22 hi1' hy0 hy1 hy2 rfl v3.heap.size A x.n c _ rfl hOt4 1 rfl rfl ?h1 ?h2 ?h3 ?_))
                case h1 => simp only [maxLen]; omega
                case h2 => omega
                try case h3 => exact hsz4
                intro A5 c5 w5 hown5 hbel5 hfr5 _
                have hbV5 := hbVk.trans hbel5
                have hT : Own w5 v3.heap.size 28 A5 (x.n + 1) c5 ((t ++ [(⟨Ak, M + 1, ck, List.replicate (M + 1) (-1)⟩ : Ls)]).map Ls.v) := by rw [List.map_append]; exact hown5
                have hgo : Gr.Ok w5 ⟨A5, x.n + 1, c5, t ++ [⟨Ak, M + 1, ck, List.replicate (M + 1) (-1)⟩]⟩ := own_lists hT fun u hu => by
                  rcases List.mem_append.1 hu with hu | hu
                  · exact ((hrows4 u hu).app hOt4 hfr5).ok
                  · rw [List.mem_singleton.1 hu]
                    exact (hOr.app hOt4 hfr5).ok
                have HGA : Hid (Gr.g ⟨A5, x.n + 1, c5, t ++ [⟨Ak, M + 1, ck, List.replicate (M + 1) (-1)⟩]⟩ = idleA x.g M) := Lib.hid (by
                  rw [idleA, ← hall2.out]; simp [Gr.g, Ls.all])
                generalize hG9 : t ++ [(⟨Ak, M + 1, ck, List.replicate (M + 1) (-1)⟩ : Ls)] = t9 at hgo HGA
                clear hown5 hbel5 hfr5 hOr hOt4 hrows4 hT hOt hrows hbk hbVk e0 e1 hall2 hG9
                have hbel := hbV5
                have sM1 : ((M : Int) + 1) = ((M : Int) + 1) := rfl

                replace bg := bg.below hbV5
                replace h1 := h1.below hbV5
                replace h1p := h1p.below hbV5
                replace hB := hB.trans (hbV5.mono hB.size)
                clear hbV5 sM1 hbel
                have eg0 := bg.c0
                have eg1 := bg.c1
                have hc := pbestC ⟨A5, x.n + 1, c5, t9⟩ ((M : Int) + 1) w5 hgo (by omega) (by omega)
                rw [show Gr.v ⟨A5, x.n + 1, c5, t9⟩ = .slice A5 (x.n + 1) c5 from rfl, HGA.out, F1.out, F2.out] at hc
                go_wp2_with fail
                clear eg0 eg1
                refine hc.mono ?_
                rintro e v4 ⟨rfl, hb⟩
                clear hc
                replace hgo := hgo.below hb
                replace h1 := h1.below hb
                replace h1p := h1p.below hb
                replace bg := bg.below hb
                replace hB := hB.trans (hb.mono hB.size)
                clear hb
                have eg0 := bg.c0
                have eg1 := bg.c1
                have hc := pprovedC ⟨A5, x.n + 1, c5, t9⟩ ((M : Int) + 1) v4 hgo (by omega) (by omega)
                rw [show Gr.v ⟨A5, x.n + 1, c5, t9⟩ = .slice A5 (x.n + 1) c5 from rfl, HGA.out, F2.out, F3.out, F4.out] at hc
                go_wp2_with fail
                clear eg0 eg1
                refine hc.mono ?_
                rintro e v5 ⟨A7, n7, c7, A8, n8, c8, rfl, h7, h8, hapt, hb⟩
                clear hc
                replace hgo := hgo.below hb
                replace h1 := h1.below hb
                replace h1p := h1p.below hb
                replace bg := bg.below hb
                replace hB := hB.trans (hb.mono hB.size)
                clear hb
                clear hapt hgo
                obtain rfl : n7 = x.n + 1 := by have h5 := h7.len; simp only [List.length_append, List.length_singleton] at h5; have h6 := ULN.out; omega
                obtain rfl : n8 = M + 1 := by have h5 := h8.len; simp only [List.length_append, List.length_singleton] at h5; have h6 := PLN.out; omega
                have hc := alive10_any v5
                go_wp2_with fail
                refine hc.mono ?_
                rintro e v6 ⟨rfl, hb⟩
                clear hc
                replace h1 := h1.below hb
                replace h1p := h1p.below hb
                replace h7 := h7.below hb
                replace h8 := h8.below hb
                replace hB := hB.trans (hb.mono hB.size)
                clear hb
                go_wp2_with (at_builtin; go_must (refine wpList_appw v6 (by rfl) _ _ 28 rfl 3 i0 _ 8 Try.underlying28 hi0 hz0 hz1 hz2 rfl v6.heap.size none 0 0 [] rfl (Own.none_ _ _ _ _) _ x.n c1 (ci64 ul) rfl h1.own.rd ?k1 ?k2 ?k3 ?k4 ?_))
                case k1 => intro u hu; obtain ⟨z, _, rfl⟩ := List.mem_map.1 hu; rfl
                case k2 => simp only [maxLen]; omega
                case k3 => omega
                try case k4 => exact Nat.le_refl _
                intro Ak ck wk hownk hbelk
                have hOk : Own wk v6.heap.size 3 Ak x.n ck (ci64 ul) := by simpa using hownk
                have hlrk : Rd (wk.alloc (.cells #[.int .i64 0] 3)) (some ⟨wk.heap.size, 0, none⟩) 1 (ci64 [0]) := (Own.lit (B := 0) wk 3 #[.int .i64 0] 1 (Nat.zero_le _) rfl (by unfold maxLen; omega)).rd
                have hszlk : v6.heap.size ≤ (wk.alloc (.cells #[.int .i64 0] 3)).heap.size := by rw [World.size_alloc]; have := hbelk.size; omega
                go_wp2_with (at_builtin; go_must (refine wpList_appw (wk.alloc (.cells #[.int .i64 0] 3)) (by rfl) _ _ 28 rfl 3 i0 _ 8 Try.underlying28 hi0 hz0 hz1 hz2 rfl v6.heap.size Ak x.n ck _ rfl (hOk.alloc _) _ 1 1 (ci64 [0]) rfl hlrk ?k5 ?k6 ?k7 ?k8 ?_))
                case k5 => intro u hu; obtain ⟨z, _, rfl⟩ := List.mem_map.1 hu; rfl
                case k6 => simp only [maxLen]; omega
                case k7 => omega
                try case k8 => exact hszlk
                intro Bk dk xk hownbk hbelbk
                have hbb : Below v6.heap.size v6 xk := (hbelk.alloc (hbelk.size) _).trans hbelbk
                have hQk : OwnI xk v6.heap.size ⟨Bk, x.n + 1, dk, ul ++ [0]⟩ := by
                  refine ⟨?_, fun z hz => ?_⟩
                  · show Own xk v6.heap.size _ Bk (x.n + 1) dk (ci64 (ul ++ [0]))
                    rw [ci64_app]; exact hownbk
                  · rcases List.mem_append.1 hz with hz | hz
                    · exact h1.fit z hz
                    · rw [List.mem_singleton.1 hz]; omega
                clear hownk hOk hlrk hszlk hownbk
                have hb := hbb
                clear hbb hbelk hbelbk
                replace h1 := h1.below hb
                replace h1p := h1p.below hb
                replace h7 := h7.below hb
                replace h8 := h8.below hb
                replace hB := hB.trans (hb.mono hB.size)
                clear hb
                have hc := sameints_b ⟨A7, x.n + 1, c7, ul ++ [0]⟩ ⟨Bk, x.n + 1, dk, ul ++ [0]⟩ xk h7.ok hQk.ok
                rw [show ((ul ++ [0]) == (ul ++ [0])) = true by simp] at hc
                go_wp2_with fail
                refine hc.mono ?_
                rintro e yk ⟨rfl, hb⟩
                clear hc hQk
                replace h1 := h1.below hb
                replace h1p := h1p.below hb
                replace h7 := h7.below hb
                replace h8 := h8.below hb
                replace hB := hB.trans (hb.mono hB.size)
                clear hb
                go_wp2_with (at_builtin; go_must (refine wpList_appw yk (by rfl) _ _ 28 rfl 3 i0 _ 8 Try.underlying28 hi0 hz0 hz1 hz2 rfl yk.heap.size none 0 0 [] rfl (Own.none_ _ _ _ _) _ M c1p (ci64 pl) rfl h1p.own.rd ?l1 ?l2 ?l3 ?l4 ?_))
                case l1 => intro u hu; obtain ⟨z, _, rfl⟩ := List.mem_map.1 hu; rfl
                case l2 => simp only [maxLen]; omega
                case l3 => omega
                try case l4 => exact Nat.le_refl _
                intro Al cl wl hownl hbell
                have hOl : Own wl yk.heap.size 3 Al M cl (ci64 pl) := by simpa using hownl
                have hlrl : Rd (wl.alloc (.cells #[.int .i64 0] 3)) (some ⟨wl.heap.size, 0, none⟩) 1 (ci64 [0]) := (Own.lit (B := 0) wl 3 #[.int .i64 0] 1 (Nat.zero_le _) rfl (by unfold maxLen; omega)).rd
                have hszll : yk.heap.size ≤ (wl.alloc (.cells #[.int .i64 0] 3)).heap.size := by rw [World.size_alloc]; have := hbell.size; omega
                go_wp2_with (at_builtin; go_must (refine wpList_appw (wl.alloc (.cells #[.int .i64 0] 3)) (by rfl) _ _ 28 rfl 3 i0 _ 8 Try.underlying28 hi0 hz0 hz1 hz2 rfl yk.heap.size Al M cl _ rfl (hOl.alloc _) _ 1 1 (ci64 [0]) rfl hlrl ?l5 ?l6 ?l7 ?l8 ?_))
                case l5 => intro u hu; obtain ⟨z, _, rfl⟩ := List.mem_map.1 hu; rfl
                case l6 => simp only [maxLen]; omega
                case l7 => omega
                try case l8 => exact hszll
                intro Bl dl xl hownbl hbelbl
                have hbb : Below yk.heap.size yk xl := (hbell.alloc (hbell.size) _).trans hbelbl
                have hQl : OwnI xl yk.heap.size ⟨Bl, M + 1, dl, pl ++ [0]⟩ := by
                  refine ⟨?_, fun z hz => ?_⟩
                  · show Own xl yk.heap.size _ Bl (M + 1) dl (ci64 (pl ++ [0]))
                    rw [ci64_app]; exact hownbl
                  · rcases List.mem_append.1 hz with hz | hz
                    · exact h1p.fit z hz
                    · rw [List.mem_singleton.1 hz]; omega
                clear hownl hOl hlrl hszll hownbl
                have hb := hbb
                clear hbb hbell hbelbl
                replace h1 := h1.below hb
                replace h1p := h1p.below hb
                replace h7 := h7.below hb
                replace h8 := h8.below hb
                replace hB := hB.trans (hb.mono hB.size)
                clear hb
                have hc := sameints_b ⟨A8, M + 1, c8, pl ++ [0]⟩ ⟨Bl, M + 1, dl, pl ++ [0]⟩ xl h8.ok hQl.ok
                rw [show ((pl ++ [0]) == (pl ++ [0])) = true by simp] at hc
                go_wp2_with fail
                refine hc.mono ?_
                rintro e yl ⟨rfl, hb⟩
                clear hc hQl
                replace h1 := h1.below hb
                replace h1p := h1p.below hb
                replace h7 := h7.below hb
                replace h8 := h8.below hb
                replace hB := hB.trans (hb.mono hB.size)
                clear hb
                go_wp2
                go_ret
                exact ⟨rfl, hB⟩

theorem own : ownKnob Try.prog.godebug = none := by kernel_rfl
theorem laidOut : laidOutB Try.prog = true := by kernel_rfl

set_option maxRecDepth 100000 in
theorem lifted (os : Os) (started : os.Started) (H : Type) (enc : TypeId × Value → H) :
    ReturnsInHanded {} Try.checked os 11 .any (Rows.weightsIdleSpec.pre6 enc Try.prog Try.f11 Rows.weightsIdleRow.domain false) (Rows.weightsIdleSpec.post enc Try.prog Try.f11 false true false false) := by
  refine returnsInHanded_of_change (C := Try.checked) own started (by kernel_rfl) Try.func11
    (ChangeSpec.witness6 (enc := enc) (C := Try.checked) false ⟨#[], #[.agg #[.slice none 0 0, .int .i64 0]], []⟩ 8 (by kernel_rfl) (by kernel_rfl) (by kernel_rfl) (by kernel_rfl)) ?_
  intro W base args ds gs before hval0 hW hcnd _
  have hval : ∀ (j : Nat) t v, Try.f11.params[j]? = some t → args[j]? = some v → Value.okWide Try.prog W .any base t v := hval0
  have hW' := hW
  obtain ⟨p, q, hA0, hV, rfl, hfz, hnd⟩ := hW
  have hA : DataW.TrodAll enc Try.prog W 0 (fun _ => true) true Try.f11.params.toList args.toList ds p := hA0
  rw [Try.params11] at hA hval
  obtain ⟨v0, vs0, d0, ds0, p0, q0, hargs, rfl, rfl, h0, r0⟩ := trodAll_cons hA
  obtain ⟨rfl, rfl, rfl⟩ := trodAll_nil r0
  obtain rfl : args = #[v0] := by cases args; simp_all
  obtain ⟨u0, m0, rfl, k0, a0, b0⟩ := arg_gr Try.underlying24 (by kernel_rfl) (by kernel_rfl) Try.underlying22 Try.underlying3 Try.underlying28 (by kernel_rfl) Try.underlying3 (by kernel_rfl) (hval 0 24 v0 rfl rfl) h0
  have hwalk : Calls Try.prog 11 #[.agg #[u0.v, .int .i64 m0]] W fun e w' => e = .returned (.bool true) ∧ Below W.heap.size W w' := walk u0 m0 W k0 a0 b0
  refine hwalk.mono fun e W' ⟨he, hg⟩ => ?_
  subst he
  exact ⟨_, rfl, law_post laidOut (by kernel_rfl) hW' rfl rfl (by kernel_rfl) Try.underlying4 hg⟩

theorem over : Rows.weightsIdleRow.holds Try.pinned (OpenSpec.ofChange Rows.weightsIdleSpec) :=
  OpenClaim.holds_of_wide 11 Try.f11 rfl rfl rfl rfl rfl rfl rfl ⟨rfl, rfl, rfl, rfl, rfl⟩ rfl rfl rfl rfl rfl (by kernel_rfl) Try.func11 (by kernel_rfl)
    (of_decide_eq_true (by kernel_rfl)) (by unfold Func.isWrapper; first | (rw [if_pos (by decide +kernel)]; kernel_rfl) | (rw [if_neg (by decide +kernel)]; exact ⟨rfl, rfl⟩))
    (fun os started H enc _ => lifted os started H enc)

theorem proved : Rows.WeightsIdleSaid :=
  over

end Go.Proofs.Ytiaoplghaigclaa.weightsIdle
