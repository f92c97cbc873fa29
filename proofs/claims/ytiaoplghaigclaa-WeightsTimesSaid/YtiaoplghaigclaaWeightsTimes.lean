/-
  Proved: WeightsTimes holds of all gains: of gains as often as great the best gains as often as much, and so do the numbers.
-/
import Derived.Test.YtiaoplghaigclaaRows
import Derived.Test.YtiaoplghaigclaaLift
import Derived.Test.YtiaoplghaigclaaAlive10
import Derived.Test.YtiaoplghaigclaaZeros
import Derived.Test.YtiaoplghaigclaaReg
namespace Go.Proofs.Ytiaoplghaigclaa.weightsTimes
open Go.ChangeShapes Go.WideShapes Go.ChangeAt Go.RowKit
set_option linter.unusedVariables false

theorem info6_int : (Try.prog.info? 3).map (fun i => (i.zero, i.size, i.bytes)) = some (some (.int .i64 0), 1, 8) := by kernel_rfl
theorem infoI_ints : (Try.prog.info? 28).map (fun i => (i.zero, i.size, i.bytes)) = some (some (.slice none 0 0), 1, 24) := by kernel_rfl
theorem mulb {y : Nat} (hy : y < 65536) {z : Int} (h1 : -8000000 ≤ z) (h2 : z ≤ 8000000) : -524280000000 ≤ (y : Int) * z ∧ (y : Int) * z ≤ 524280000000 := by
  have a := Int.mul_le_mul_of_nonneg_left h2 (show (0 : Int) ≤ y by omega)
  have b := Int.mul_le_mul_of_nonneg_left h1 (show (0 : Int) ≤ y by omega)
  omega
/-- As often as great. -/
def timesR (f : Nat) (l : List Int) : List Int := l.map fun z => (f : Int) * z
def timesL (g : List (List Int)) (f j : Nat) : List (List Int) := (g.take j).map (timesR f)
theorem timesR_succ {f : Nat} {l : List Int} {k : Nat} (h : k < l.length) : timesR f (l.take (k + 1)) = timesR f (l.take k) ++ [(f : Int) * l[k]] := by
  rw [timesR, List.take_succ_eq_append_getElem h, List.map_append]; rfl
theorem timesL_succ {g : List (List Int)} {f j : Nat} {l : List Int} (h : g[j]? = some l) : timesL g f (j + 1) = timesL g f j ++ [timesR f l] := by
  obtain ⟨hj, rfl⟩ := List.getElem?_eq_some_iff.1 h
  rw [timesL, List.take_succ_eq_append_getElem hj, List.map_append]; rfl
def timesA (g : List (List Int)) (f : Nat) : List (List Int) := g.map (timesR f)
theorem timesA_eq (g : List (List Int)) (f : Nat) : timesL g f g.length = timesA g f := by rw [timesL, List.take_length]; rfl
theorem timesA_len (g : List (List Int)) (f : Nat) : (timesA g f).length = g.length := by simp [timesA]
theorem timesA_gG (g : List (List Int)) (f b c : Nat) : gG (timesA g f) b c = mulG f (gG g) b c := by
  unfold mulG gG timesA
  rw [List.getD_eq_getElem?_getD (l := g.map _), List.getElem?_map, List.getD_eq_getElem?_getD (l := g)]
  cases g[b]? with
  | none => simp
  | some l =>
    simp only [Option.map_some, Option.getD_some]
    rw [List.getD_eq_getElem?_getD, timesR, List.getElem?_map, List.getD_eq_getElem?_getD]
    cases l[c]? with
    | none => simp
    | some z => rfl
theorem times_all {g : List (List Int)} {m f : Nat} (h : mayW g m = true) (h2 : mayW (timesA g f) m = true) (hf : 0 < f) :
    bestE (timesA g f) m = f * bestE g m ∧ bidE (timesA g f) m = timesR f (bidE g m) ∧ ofE (timesA g f) m = timesR f (ofE g m) := by
  have hg : ∀ b c, b < (timesA g f).length → c < m → gG (timesA g f) b c = mulG f (gG g) b c := fun b c _ _ => timesA_gG g f b c
  refine ⟨?_, ?_, ?_⟩
  · rw [bestE_of h2 hg, timesA_len, best_mul hf, (we_ok h).1]
  · rw [bidE_of h2 hg, timesA_len, (we_ok h).2.2.2, timesR, List.map_map]
    exact List.map_congr_left fun i _ => bid_mul hf i
  · rw [ofE_of h2 hg, timesA_len, (we_ok h).2.2.1, timesR, List.map_map]
    exact List.map_congr_left fun k _ => num_mul hf k
theorem times_zero {g : List (List Int)} {m : Nat} (h : mayW g m = true) : mayW (timesA g 0) m = true := by
  obtain ⟨h1, h2, h3, h4⟩ := mayW_iff.1 h
  refine mayW_iff.2 ⟨h1, h2, by rw [timesA_len]; exact h3, fun l hl => ?_⟩
  obtain ⟨r, hr, rfl⟩ := List.mem_map.1 hl
  refine ⟨by rw [timesR, List.length_map]; exact (h4 r hr).1, fun z hz => ?_⟩
  obtain ⟨q, _, rfl⟩ := List.mem_map.1 hz
  simp
/-- So many of them are as often as great. -/
def mulTo (f : Nat) (l : List Int) (k : Nat) : List Int := timesR f (l.take k) ++ l.drop k
theorem mulTo_zero (f : Nat) (l : List Int) : mulTo f l 0 = l := by simp [mulTo, timesR]
theorem mulTo_all (f : Nat) (l : List Int) {k : Nat} (h : l.length ≤ k) : mulTo f l k = timesR f l := by rw [mulTo, List.take_of_length_le h, List.drop_eq_nil_of_le h, List.append_nil]
theorem mulTo_len (f : Nat) (l : List Int) (k : Nat) : (mulTo f l k).length = l.length := by
  rw [mulTo, List.length_append, timesR, List.length_map, ← List.length_append, List.take_append_drop]
theorem mulTo_get {f : Nat} {l : List Int} {k : Nat} (h : k < l.length) : (mulTo f l k)[k]? = some l[k] := by
  rw [mulTo, List.getElem?_append_right (by simp [timesR]; omega)]
  simp [timesR, Nat.min_eq_left (Nat.le_of_lt h), List.getElem?_eq_getElem h]
theorem mulTo_set {f : Nat} {l : List Int} {k : Nat} (h : k < l.length) : (mulTo f l k).set k ((f : Int) * l[k]) = mulTo f l (k + 1) := by
  have hl : (timesR f (l.take k)).length = k := by simp [timesR]; omega
  rw [mulTo, List.set_append_right _ _ (by omega), hl, Nat.sub_self, List.drop_eq_getElem_cons h, List.set_cons_zero, mulTo, timesR_succ h, List.append_assoc]; rfl
/-- A store into one list leaves another one. -/
theorem OwnI.away {w : World} {B B' g k : Nat} {u u2 : Ls} {v : Value} (h : OwnI w B u) (h2 : OwnI w B' u2) (hg : u2.A = some ⟨g, 0, none⟩) (hc : 0 < u2.c) (hne : ∀ g', Blk u g' → ¬ Blk u2 g') : OwnI (w.setCell ⟨g, k, none⟩ v) B u := by
  refine ⟨⟨h.own.1, ?_⟩, h.fit⟩
  rcases h.own.2 with h0 | ⟨g', cur, hA', hB', hh, r⟩
  · exact .inl h0
  · refine .inr ⟨g', cur, hA', hB', ?_, r⟩
    rw [heap_setCell_other _ ⟨g, k, none⟩ g' _ ?_]
    · exact hh
    · intro e
      have e : g' = g := e
      subst e
      by_cases hx0 : 0 < u.c
      · exact hne g' ⟨hx0, hA'⟩ ⟨hc, hg⟩
      · have hcur : cur.size = u.c := r.2.2.1
        obtain ⟨g2, cur2, hA2, _, hh2, _, _, h6, _⟩ := h2.own.2.resolve_left (by omega)
        rw [hg] at hA2
        cases hA2
        rw [hh] at hh2
        have := (Obj.cells.inj (Option.some.inj hh2)).1
        rw [this] at hcur
        omega
theorem OwnI.put {w : World} {B g n c k : Nat} {zs : List Int} {z : Int} (h : OwnI w B ⟨some ⟨g, 0, none⟩, n, c, zs⟩) (hc : 0 < c) (hz : -9223372036854775808 ≤ z ∧ z ≤ 9223372036854775807) : OwnI (w.setCell ⟨g, k, none⟩ (.int .i64 z)) B ⟨some ⟨g, 0, none⟩, n, c, zs.set k z⟩ := by
  refine ⟨?_, fun y hy => ?_⟩
  · have h1 := h.own.set hc k (.int .i64 z)
    have h2 : ci64 (zs.set k z) = (ci64 zs).set k (.int .i64 z) := by simp [ci64, iV]
    show Own _ B _ _ n c (ci64 (zs.set k z))
    rw [h2]; exact h1
  · rcases List.mem_or_eq_of_mem_set hy with h1 | h1
    · exact h.fit y h1
    · rw [h1]; exact hz

set_option maxRecDepth 100000 in
set_option maxHeartbeats 4000000 in
theorem walk (x : Gr) (m : Int) (y : Nat) (w : World) (h : x.Ok w) (hm1 : -9223372036854775808 ≤ m) (hm2 : m ≤ 9223372036854775807) (hy : y < 65536) :
    Calls Try.prog 7 #[.agg #[x.v, .int .i64 m], .int .u16 y] w fun e w' => e = .returned (.bool true) ∧ Below w.heap.size w w' := by
  have hx := h
  have hB := Below.refl w.heap.size w
  have hxv : x.v = .slice x.A x.n x.c := rfl
  have Vx := Lib.hid hxv
  rw [hxv]
  have hgl := h.glen
  have HGL := Lib.hid hgl
  have htop := Nat.le_trans h.cap h.top
  unfold maxLen at htop
  obtain ⟨B, hB0⟩ : ∃ B, mayW x.g m = B := ⟨_, rfl⟩
  clear hxv hgl h
  go_enter Try.func7, Try.ntmps7
  have bg := WBox.new w x m
  have hbx : Below w.heap.size w (w.alloc (.cells #[.slice x.A x.n x.c, .int .i64 m] 24)) := (Below.refl _ w).alloc (Nat.le_refl _) _
  replace hx := hx.below hbx
  replace hB := hB.trans (hbx.mono hB.size)
  clear hbx
  cases B
  · have E1 := Lib.hid (we_bad hB0)
    clear hB0
    have eg0 := bg.c0
    have eg1 := bg.c1
    have hc := pbestC x m (w.alloc (.cells #[.slice x.A x.n x.c, .int .i64 m] 24)) hx (by omega) (by omega)
    rw [Vx.out, E1.out.1, E1.out.2.1] at hc
    go_wp2_with fail
    clear eg0 eg1
    generalize w.alloc (.cells #[.slice x.A x.n x.c, .int .i64 m] 24) = W1 at *
    refine hc.mono ?_
    rintro e v2 ⟨rfl, hb⟩
    clear hc
    replace hx := hx.below hb
    replace bg := bg.below hb
    replace hB := hB.trans (hb.mono hB.size)
    clear hb
    have eg0 := bg.c0
    have eg1 := bg.c1
    have hc := pprovedC x m v2 hx (by omega) (by omega)
    rw [Vx.out, E1.out.2.1, E1.out.2.2.2, E1.out.2.2.1] at hc
    go_wp2_with fail
    clear eg0 eg1
    refine hc.mono ?_
    rintro e v3 ⟨A1, n1, c1, A1p, n1p, c1p, rfl, h1, h1p, hapt, hb⟩
    clear hc
    replace hx := hx.below hb
    replace bg := bg.below hb
    replace hB := hB.trans (hb.mono hB.size)
    clear hb
    clear hapt
    clear h1 h1p
    have eg0 := bg.c0
    have eg1 := bg.c1
    have hc := alive10_any v3
    go_wp2_with fail
    clear eg0 eg1
    refine hc.mono ?_
    rintro e v4 ⟨rfl, hb⟩
    clear hc
    replace hx := hx.below hb
    replace bg := bg.below hb
    replace hB := hB.trans (hb.mono hB.size)
    clear hb
    have eg0 := bg.c0
    have eg1 := bg.c1
    go_wp2
    go_ret
    exact ⟨rfl, hB⟩
  · obtain ⟨M, rfl⟩ : ∃ M : Nat, m = M := ⟨m.toNat, by have := (mayW_iff.1 hB0).1; omega⟩
    have HB0 := Lib.hid hB0
    obtain ⟨hM1, hM8, hx8⟩ := may_m hB0
    rw [HGL.out] at hx8
    have EE := Lib.hid (we_ok hB0).2.1
    obtain ⟨a0, ha0⟩ : ∃ a, bestE x.g M = a := ⟨_, rfl⟩
    obtain ⟨ul, hul⟩ : ∃ a, bidE x.g M = a := ⟨_, rfl⟩
    obtain ⟨pl, hpl⟩ : ∃ a, ofE x.g M = a := ⟨_, rfl⟩
    have EB := Lib.hid ha0
    have EU := Lib.hid hul
    have EP := Lib.hid hpl
    have ULN : Hid (ul.length = x.n) := Lib.hid (by rw [← hul, bidE_len hB0, HGL.out])
    have PLN : Hid (pl.length = M) := Lib.hid (by rw [← hpl, ofE_len hB0])
    have UGET : Hid (∀ i, i < x.n → ul[i]? = some (bidP (gG x.g) M x.n i)) := Lib.hid (fun i hi => by rw [← hul, bidE_get hB0 (by rw [HGL.out]; exact hi), HGL.out])
    have PGET : Hid (∀ k, k < M → pl[k]? = some (numP (gG x.g) M x.n k)) := Lib.hid (fun k hk => by rw [← hpl, ofE_get hB0 hk, HGL.out])
    have BV : Hid (a0 = bestV (gG x.g) M x.n) := Lib.hid (by rw [← ha0, (we_ok hB0).1, HGL.out])
    have hab : 0 ≤ a0 ∧ a0 ≤ 8000000 := by rw [← ha0, (we_ok hB0).1]; exact best_bound hB0
    have HRW : Hid (∀ u ∈ x.t, u.n = M) := Lib.hid (fun u hu => by
      have h1 := (mayW_iff.1 hB0).2.2.2 u.zs (by rw [Gr.g, Ls.all]; exact List.mem_map_of_mem hu)
      have h2 := (hx.lss.ok u hu).len
      omega)
    clear hB0 ha0 hul hpl hm1 hm2
    have eg0 := bg.c0
    have eg1 := bg.c1
    have hc := pbestC x M (w.alloc (.cells #[.slice x.A x.n x.c, .int .i64 (M : Int)] 24)) hx (by omega) (by omega)
    rw [Vx.out, EB.out, EE.out] at hc
    go_wp2_with fail
    clear eg0 eg1
    generalize w.alloc (.cells #[.slice x.A x.n x.c, .int .i64 (M : Int)] 24) = W1 at *
    refine hc.mono ?_
    rintro e v2 ⟨rfl, hb⟩
    clear hc
    replace hx := hx.below hb
    replace bg := bg.below hb
    replace hB := hB.trans (hb.mono hB.size)
    clear hb
    have hBV0 := hB.size
    have eg0 := bg.c0
    have eg1 := bg.c1
    have hc := pprovedC x M v2 hx (by omega) (by omega)
    rw [Vx.out, EE.out, EU.out, EP.out] at hc
    go_wp2_with fail
    clear eg0 eg1
    refine hc.mono ?_
    rintro e v3 ⟨A1, n1, c1, A1p, n1p, c1p, rfl, h1, h1p, hapt, hb⟩
    clear hc
    replace hx := hx.below hb
    replace bg := bg.below hb
    replace hB := hB.trans (hb.mono hB.size)
    clear hb
    have hap := (List.pairwise_cons.1 hapt).1 _ (List.mem_singleton.2 rfl)
    clear hapt
    obtain rfl : n1 = x.n := by have h5 := h1.len; have h6 := ULN.out; simp only at h5; omega
    obtain rfl : M = n1p := by have h5 := h1p.len; have h6 := PLN.out; simp only at h5; omega
    have s5 : IntKind.i64.wrap (y : Int) = (y : Int) := by rw [IntKind.wrap_i64]; omega
    obtain ⟨i0, hi0, hz0, hz1, hz2⟩ := info_parts info6_int
    obtain ⟨i1, hi1', hy0, hy1, hy2⟩ := info_parts infoI_ints
    have eg0 := bg.c0
    have eg1 := bg.c1
    go_wp2_with fail
    clear eg0 eg1
    go_loopw [11, 12] (fun o v wr => ∃ (i c : Nat) (A : Option Addr) (t : List Ls), i ≤ x.n ∧ v = .int .i64 i ∧ o = .slice A i c ∧ Own wr v3.heap.size 28 A i c (t.map Ls.v) ∧ Hid (∀ u ∈ t, OwnI wr v3.heap.size u) ∧ Hid (Ls.all t = timesL x.g y i) ∧ Below v3.heap.size v3 wr) (fun _ v _ => x.n - (intOf v).toNat)
    case atStart => exact ⟨0, 0, none, [], Nat.zero_le _, rfl, rfl, Own.none_ _ _ _ _, Lib.hid (by simp), Lib.hid (by simp [timesL, Ls.all]), Below.refl _ _⟩
    case round =>
      obtain ⟨i, c, A, t, hi, rfl, rfl, hOt, hrows, hall, hbel⟩ := hrel
      have e0 := (bg.below hbel).c0
      have e1 := (bg.below hbel).c1
      have hsz := hbel.size
      by_cases hin : i < x.n
      · have hin' : (i : Int) < x.n := by omega
        have hi0' : (0 : Int) ≤ i := by omega
        obtain ⟨p2, q2, u, hAx, hgy, hp2, hcx0, hky0⟩ := gr_get (A := x.A) (n := x.n) (c := x.c) (t := x.t) hx rfl hin
        have hcx := (hbel.cell (p := ⟨p2, q2 + i, none⟩) hp2).trans hcx0
        have hky := hky0.below hbel
        have hgi : x.g[i]? = some u.zs := by
          have h1 : x.g.getD i [] = u.zs := hgy
          rw [← h1, List.getD_eq_getElem?_getD, List.getElem?_eq_getElem (by rw [HGL.out]; exact hin)]; rfl
        have hyn : u.n = M ∧ ∀ z ∈ u.zs, -1000000 ≤ z ∧ z ≤ 1000000 := by
          have h1 := hky.len
          obtain ⟨hl, he⟩ := List.getElem?_eq_some_iff.1 hgi
          have h2 := may_row HB0.out hl
          rw [he] at h2
          exact ⟨by omega, h2.2⟩
        have hy8 : u.n ≤ 8 := by omega
        have HZB := Lib.hid hyn.2
        have HN := Lib.hid (timesL_succ (f := y) hgi)
        have HYL := Lib.hid hky.len
        rw [hAx] at e0
        have HAx := Lib.hid hAx
        clear hcx0 hky0 hgy hgi hAx hyn
        obtain ⟨wo, rfl⟩ : ∃ wo, wo = wr := ⟨_, rfl⟩
        go_wp2_with fail
        go_loopw [13, 14] (fun o v wr => ∃ (k c : Nat) (A : Option Addr), k ≤ u.n ∧ v = .int .i64 k ∧ o = .slice A k c ∧ OwnI wr wo.heap.size ⟨A, k, c, timesR y (u.zs.take k)⟩ ∧ Below wo.heap.size wo wr) (fun _ v _ => u.n - (intOf v).toNat)
        case atStart => exact ⟨0, 0, none, Nat.zero_le _, rfl, rfl, OwnI.nil _ _, Below.refl _ _⟩
        case round =>
          obtain ⟨k, ck, Ak, hk, rfl, rfl, hOk, hbk⟩ := hrel
          have hbVk := hbel.trans (hbk.mono hsz)
          have d0 := (bg.below hbVk).c0
          rw [HAx.out] at d0
          have d1 := (hbk.cell (p := ⟨p2, q2 + i, none⟩) (by show p2 < wo.heap.size; omega)).trans hcx
          have hk0 : (0 : Int) ≤ k := by omega
          by_cases hkn : k < u.n
          · have hkn' : (k : Int) < u.n := by omega
            obtain ⟨p4, q4, hA4, hp4, t0, ht0, hct0⟩ := (hky.below hbk).rd.get hkn
            have hkl : k < u.zs.length := by rw [HYL.out]; exact hkn
            rw [ci64_get _ _ hkl] at ht0
            obtain rfl : iV u.zs[k] = t0 := Option.some.inj ht0
            unfold iV at hct0
            have hzb := HZB.out _ (List.getElem_mem hkl)
            have hst := timesR_succ (f := y) hkl
            obtain ⟨z, hz⟩ : ∃ z, u.zs[k] = z := ⟨_, rfl⟩
            rw [hz] at hct0 hzb hst
            have hmb := mulb (y := y) (z := z) hy (by omega) (by omega)
            obtain ⟨fz, hfz⟩ : ∃ q, (y : Int) * z = q := ⟨_, rfl⟩
            rw [hfz] at hmb hst
            have s6 : IntKind.i64.wrap fz = fz := by rw [IntKind.wrap_i64]; omega
            have HST := Lib.hid hst
            have hszk := hbk.size
            rw [hA4] at d1
            have HA4 := Lib.hid hA4
            clear ht0 hkl hz hst hA4
            go_wp2_with (at_builtin; go_must (refine wpList_app1 wr rfl _ _ 28 rfl 3 i0 _ 8 Try.underlying28 hi0 hz0 hz1 hz2 rfl wo.heap.size Ak k ck _ rfl hOk.own 1 rfl rfl ?f1 ?f2 ?f3 ?_))
            case f1 => simp only [maxLen]; omega
            case f2 => omega
            try case f3 => exact hszk
            intro A6 c6 w6 hown6 hbel6 _ _
            have hO6 : OwnI w6 wo.heap.size ⟨A6, k + 1, c6, timesR y (u.zs.take (k + 1))⟩ := by
              refine ⟨?_, fun q hq => ?_⟩
              · show Own w6 wo.heap.size _ A6 (k + 1) c6 (ci64 (timesR y (u.zs.take (k + 1))))
                rw [HST.out, ci64_app]; exact hown6
              · have hq : q ∈ timesR y (u.zs.take (k + 1)) := hq
                rw [HST.out] at hq
                rcases List.mem_append.1 hq with hq | hq
                · exact hOk.fit q hq
                · rw [List.mem_singleton.1 hq]; omega
            have hb6 := hbk.trans hbel6
            clear hown6 hbel6 hOk hbk d0 d1 hct0 hfz HST
            go_wp2
            go_roundw
            case rel => exact ⟨k + 1, c6, A6, by omega, by go_num, rfl, hO6, hb6⟩
            case measure => simp [intOf]; omega
          · obtain rfl : k = u.n := by omega
            have hfull : Hid (timesR y (u.zs.take u.n) = timesR y u.zs) := Lib.hid (by rw [← HYL.out, List.take_length])
            have hOt4 := hOt.below hbk
            have hrows4 : ∀ v ∈ t, OwnI wr v3.heap.size v := fun v hv => (hrows.out v hv).below hbk
            have hsz4 : v3.heap.size ≤ wr.heap.size := Nat.le_trans hsz hbk.size
            go_wp2_with (at_builtin; go_must (refine wpList_app1 wr rfl _ _ 22 rfl 28 i1 _ 24 Try.underlying22 hi1' hy0 hy1 hy2 rfl v3.heap.size A i c _ rfl hOt4 1 rfl rfl ?d1 ?d2 ?d3 ?_))
            case d1 => simp only [maxLen]; omega
            case d2 => omega
            try case d3 => exact hsz4
            intro A5 c5 w5 hown5 hbel5 hfr5 _
            have hbV5 := hbVk.trans hbel5
            have hT : Own w5 v3.heap.size 28 A5 (i + 1) c5 ((t ++ [(⟨Ak, u.n, ck, timesR y (u.zs.take u.n)⟩ : Ls)]).map Ls.v) := by rw [List.map_append]; exact hown5
            have HR5 : Hid (∀ v ∈ t ++ [(⟨Ak, u.n, ck, timesR y (u.zs.take u.n)⟩ : Ls)], OwnI w5 v3.heap.size v) := Lib.hid (fun v hv => by
              rcases List.mem_append.1 hv with hv | hv
              · exact (hrows4 v hv).app hOt4 hfr5
              · rw [List.mem_singleton.1 hv]
                exact (hOk.app hOt4 hfr5).mono hsz)
            have HA5 : Hid (Ls.all (t ++ [(⟨Ak, u.n, ck, timesR y (u.zs.take u.n)⟩ : Ls)]) = timesL x.g y (i + 1)) := Lib.hid (by
              rw [HN.out, ← hall.out, ← hfull.out]; simp [Ls.all])
            clear hown5 hbel5 hfr5 hOk hOt4 hrows4 hbk hbVk d0 d1 hOt hrows hall
            go_wp2
            go_roundw
            case rel => exact ⟨i + 1, c5, A5, _, by omega, by go_num, rfl, hT, HR5, HA5, hbV5⟩
            case measure => simp [intOf]; omega
      · obtain rfl : i = x.n := by omega
        have hgo : Gr.Ok wr ⟨A, x.n, c, t⟩ := own_lists hOt fun v hv => (hrows.out v hv).ok
        have HGA : Hid (Gr.g ⟨A, x.n, c, t⟩ = timesA x.g y) := Lib.hid (by
          rw [← timesA_eq, HGL.out, ← hall.out]; rfl)
        clear hOt hrows hall e0 e1

        replace bg := bg.below hbel
        replace h1 := h1.below hbel
        replace h1p := h1p.below hbel
        replace hB := hB.trans (hbel.mono hB.size)
        have hvs : wr.heap.size = wr.heap.size := rfl
        clear hbel hvs
        obtain ⟨B2, hB2⟩ : ∃ B, mayW (timesA x.g y) M = B := ⟨_, rfl⟩
        cases B2
        · have E2 := Lib.hid (we_bad hB2)
          have hyp : ¬ y = 0 := fun e => by
            rw [e, times_zero HB0.out] at hB2
            cases hB2
          have gy : ((y : Int) == 0) = false := by rw [beq_eq_false_iff_ne]; omega
          have gy2 : (y == 0) = false := by rw [beq_eq_false_iff_ne]; exact hyp
          clear hB2 hyp
          have eg0 := bg.c0
          have eg1 := bg.c1
          have hc := pbestC ⟨A, x.n, c, t⟩ M wr hgo (by omega) (by omega)
          rw [show Gr.v ⟨A, x.n, c, t⟩ = .slice A x.n c from rfl, HGA.out, E2.out.1, E2.out.2.1] at hc
          go_wp2_with fail
          clear eg0 eg1
          refine hc.mono ?_
          rintro e v4 ⟨rfl, hb⟩
          clear hc
          replace hgo := hgo.below hb
          replace h1 := h1.below hb
          replace h1p := h1p.below hb
          replace bg := bg.below hb
          replace hB := hB.trans (hb.mono hB.size)
          clear hb
          have hbk1 : ∀ g', Blk ⟨A1, x.n, c1, ul⟩ g' → g' < v4.heap.size := fun g' hb => (h1.blk hb).2
          have hbk2 : ∀ g', Blk ⟨A1p, M, c1p, pl⟩ g' → g' < v4.heap.size := fun g' hb => (h1p.blk hb).2
          have eg0 := bg.c0
          have eg1 := bg.c1
          have hc := pprovedC ⟨A, x.n, c, t⟩ M v4 hgo (by omega) (by omega)
          rw [show Gr.v ⟨A, x.n, c, t⟩ = .slice A x.n c from rfl, HGA.out, E2.out.2.1, E2.out.2.2.2, E2.out.2.2.1] at hc
          go_wp2_with fail
          clear eg0 eg1
          refine hc.mono ?_
          rintro e v5 ⟨A7, n7, c7, A8, n8, c8, rfl, h7, h8, hapt, hb⟩
          clear hc
          replace hgo := hgo.below hb
          replace h1 := h1.below hb
          replace h1p := h1p.below hb
          replace bg := bg.below hb
          replace hB := hB.trans (hb.mono hB.size)
          clear hb
          clear hapt hgo
          clear h7 h8 h1 h1p
          have eg0 := bg.c0
          have eg1 := bg.c1
          have hc := alive10_any v5
          go_wp2_with fail
          clear eg0 eg1
          refine hc.mono ?_
          rintro e v6 ⟨rfl, hb⟩
          clear hc
          replace bg := bg.below hb
          replace hB := hB.trans (hb.mono hB.size)
          clear hb
          have eg0 := bg.c0
          have eg1 := bg.c1
          go_wp2
          go_ret
          exact ⟨rfl, hB⟩
        · have EE2 := Lib.hid (we_ok hB2).2.1
          by_cases hyp : y = 0
          · have gy : ((y : Int) == 0) = true := by rw [beq_iff_eq]; omega
            have gy2 : (y == 0) = true := by rw [beq_iff_eq]; exact hyp
            obtain ⟨b2, hb2⟩ : ∃ q, bestE (timesA x.g y) M = q := ⟨_, rfl⟩
            have HB2 := Lib.hid hb2
            clear hB2 hyp hb2
            have eg0 := bg.c0
            have eg1 := bg.c1
            have hc := pbestC ⟨A, x.n, c, t⟩ M wr hgo (by omega) (by omega)
            rw [show Gr.v ⟨A, x.n, c, t⟩ = .slice A x.n c from rfl, HGA.out, HB2.out, EE2.out] at hc
            go_wp2_with fail
            clear eg0 eg1
            refine hc.mono ?_
            rintro e v4 ⟨rfl, hb⟩
            clear hc
            replace hgo := hgo.below hb
            replace h1 := h1.below hb
            replace h1p := h1p.below hb
            replace bg := bg.below hb
            replace hB := hB.trans (hb.mono hB.size)
            clear hb
            have eg0 := bg.c0
            have eg1 := bg.c1
            have hc := pprovedC ⟨A, x.n, c, t⟩ M v4 hgo (by omega) (by omega)
            rw [show Gr.v ⟨A, x.n, c, t⟩ = .slice A x.n c from rfl, HGA.out, EE2.out] at hc
            go_wp2_with fail
            clear eg0 eg1
            refine hc.mono ?_
            rintro e v5 ⟨A7, n7, c7, A8, n8, c8, rfl, h7, h8, hapt, hb⟩
            clear hc
            replace hgo := hgo.below hb
            replace h1 := h1.below hb
            replace h1p := h1p.below hb
            replace bg := bg.below hb
            replace hB := hB.trans (hb.mono hB.size)
            clear hb
            clear hapt hgo h7 h8 h1 h1p
            have eg0 := bg.c0
            have eg1 := bg.c1
            have hc := alive10_any v5
            go_wp2_with fail
            clear eg0 eg1
            refine hc.mono ?_
            rintro e v6 ⟨rfl, hb⟩
            clear hc
            replace bg := bg.below hb
            replace hB := hB.trans (hb.mono hB.size)
            clear hb
            have eg0 := bg.c0
            have eg1 := bg.c1
            go_wp2
            go_ret
            exact ⟨rfl, hB⟩
          · have gy : ((y : Int) == 0) = false := by rw [beq_eq_false_iff_ne]; omega
            have gy2 : (y == 0) = false := by rw [beq_eq_false_iff_ne]; exact hyp
            obtain ⟨t1, t2, t3⟩ := times_all HB0.out hB2 (by omega)
            rw [EB.out] at t1
            rw [EU.out] at t2
            rw [EP.out] at t3
            have T1 := Lib.hid t1
            have T2 := Lib.hid t2
            have T3 := Lib.hid t3
            clear hB2 t1 t2 t3
            have hub : ∀ v ∈ ul, 0 ≤ v ∧ v ≤ 1000000 := fun v hv => by
              obtain ⟨i, hi⟩ := List.getElem?_of_mem hv
              have hi2 : i < x.n := by rw [← ULN.out]; exact (List.getElem?_eq_some_iff.1 hi).1
              rw [UGET.out i hi2] at hi
              rw [← Option.some.inj hi]
              have := bid_bound HB0.out i
              rw [HGL.out] at this
              exact this
            have hpb : ∀ v ∈ pl, 0 ≤ v ∧ v ≤ 8000000 := fun v hv => by
              obtain ⟨i, hi⟩ := List.getElem?_of_mem hv
              have hi2 : i < M := by rw [← PLN.out]; exact (List.getElem?_eq_some_iff.1 hi).1
              rw [PGET.out i hi2] at hi
              rw [← Option.some.inj hi]
              have := num_bound HB0.out i hi2
              rw [HGL.out] at this
              exact this
            have HUB := Lib.hid hub
            have HPB := Lib.hid hpb
            clear hub hpb
            have eg0 := bg.c0
            have eg1 := bg.c1
            have hc := pbestC ⟨A, x.n, c, t⟩ M wr hgo (by omega) (by omega)
            rw [show Gr.v ⟨A, x.n, c, t⟩ = .slice A x.n c from rfl, HGA.out, T1.out, EE2.out] at hc
            go_wp2_with fail
            clear eg0 eg1
            refine hc.mono ?_
            rintro e v4 ⟨rfl, hb⟩
            clear hc
            replace hgo := hgo.below hb
            replace h1 := h1.below hb
            replace h1p := h1p.below hb
            replace bg := bg.below hb
            replace hB := hB.trans (hb.mono hB.size)
            clear hb
            have hbk1 : ∀ g', Blk ⟨A1, x.n, c1, ul⟩ g' → g' < v4.heap.size := fun g' hb => (h1.blk hb).2
            have hbk2 : ∀ g', Blk ⟨A1p, M, c1p, pl⟩ g' → g' < v4.heap.size := fun g' hb => (h1p.blk hb).2
            have eg0 := bg.c0
            have eg1 := bg.c1
            have hc := pprovedC ⟨A, x.n, c, t⟩ M v4 hgo (by omega) (by omega)
            rw [show Gr.v ⟨A, x.n, c, t⟩ = .slice A x.n c from rfl, HGA.out, EE2.out, T2.out, T3.out] at hc
            go_wp2_with fail
            clear eg0 eg1
            refine hc.mono ?_
            rintro e v5 ⟨A7, n7, c7, A8, n8, c8, rfl, h7, h8, hapt, hb⟩
            clear hc
            replace hgo := hgo.below hb
            replace h1 := h1.below hb
            replace h1p := h1p.below hb
            replace bg := bg.below hb
            replace hB := hB.trans (hb.mono hB.size)
            clear hb
            clear hapt hgo
            obtain rfl : n7 = x.n := by have h5 := h7.len; simp only [timesR, List.length_map] at h5; have h6 := ULN.out; omega
            obtain rfl : M = n8 := by have h5 := h8.len; simp only [timesR, List.length_map] at h5; have h6 := PLN.out; omega
            have hmb := mulb (y := y) (z := a0) hy (by omega) (by omega)
            obtain ⟨fa, hfa⟩ : ∃ q, (y : Int) * a0 = q := ⟨_, rfl⟩
            have s9 : IntKind.i64.wrap fa = fa := by rw [IntKind.wrap_i64]; rw [hfa] at hmb; omega
            rw [hfa] at hmb
            have eg0 := bg.c0
            have eg1 := bg.c1
            have hlt1 : ∀ g', Blk ⟨A1, x.n, c1, ul⟩ g' → g' < v4.heap.size := hbk1
            have hlt2 : ∀ g', Blk ⟨A1p, M, c1p, pl⟩ g' → g' < v4.heap.size := hbk2
            go_wp2_with fail
            clear eg0 eg1
            go_loopw [20] (fun v wr => ∃ k : Nat, k ≤ x.n ∧ v = .int .i64 k ∧ OwnI wr v2.heap.size ⟨A1, x.n, c1, mulTo y ul k⟩ ∧ OwnI wr v2.heap.size ⟨A1p, M, c1p, pl⟩ ∧ OwnI wr v4.heap.size ⟨A7, x.n, c7, timesR y ul⟩ ∧ OwnI wr v4.heap.size ⟨A8, M, c8, timesR y pl⟩ ∧ Below w.heap.size w wr) (fun v _ => x.n - (intOf v).toNat)
            case atStart => exact ⟨0, Nat.zero_le _, rfl, by rw [mulTo_zero]; exact h1, h1p, h7, h8, hB⟩
            case round =>
              obtain ⟨k, hk, rfl, o1, o2, o3, o4, hBr⟩ := hrel
              clear h1 h1p h7 h8 hB
              have hk0 : (0 : Int) ≤ k := by omega
              by_cases hkn : k < x.n
              · have hkn' : (k : Int) < x.n := by omega
                have hkl : k < ul.length := by rw [ULN.out]; exact hkn
                have hle := o1.own.le
                simp only at hle
                obtain ⟨g1, hA1, hg1, hg1l⟩ := o1.own.lt (show 0 < c1 by omega)
                simp only at hA1
                subst hA1
                have hcu := o1.own.cell (j := k) hkn
                rw [show ci64 (mulTo y ul k) = (mulTo y ul k).map iV from rfl, List.getElem?_map, mulTo_get hkl] at hcu
                replace hcu : wr.cell? ⟨g1, k, none⟩ = some (.int .i64 ul[k]) := hcu
                have hfr := o1.own.free (show 0 < c1 by omega) k
                have hzb := HUB.out _ (List.getElem_mem hkl)
                have hms := mulTo_set (f := y) hkl
                obtain ⟨z, hz⟩ : ∃ z, ul[k] = z := ⟨_, rfl⟩
                rw [hz] at hcu hzb hms
                have hm2 := mulb (y := y) (z := z) hy (by omega) (by omega)
                have n1 := OwnI.put o1 (k := k) (z := (y : Int) * z) (show 0 < c1 by omega) (by omega)
                rw [hms] at n1
                have n2 := OwnI.away o2 (k := k) (v := .int .i64 ((y : Int) * z)) o1 rfl (show 0 < c1 by omega) (fun g' hb hb2 => hap g' ⟨hb2.1, hb2.2⟩ hb)
                have n3 := OwnI.away o3 (k := k) (v := .int .i64 ((y : Int) * z)) o1 rfl (show 0 < c1 by omega) (fun g' hb hb2 => by have := (o3.blk hb).1; have := hlt1 g' ⟨hb2.1, hb2.2⟩; omega)
                have n4 := OwnI.away o4 (k := k) (v := .int .i64 ((y : Int) * z)) o1 rfl (show 0 < c1 by omega) (fun g' hb hb2 => by have := (o4.blk hb).1; have := hlt1 g' ⟨hb2.1, hb2.2⟩; omega)
                have hB5 := hBr.setCell (p := ⟨g1, k, none⟩) (by show w.heap.size ≤ g1; omega) (.int .i64 ((y : Int) * z))
                obtain ⟨fz, hfz⟩ : ∃ q, (y : Int) * z = q := ⟨_, rfl⟩
                rw [hfz] at n1 n2 n3 n4 hB5 hm2
                have s6 : IntKind.i64.wrap fz = fz := by rw [IntKind.wrap_i64]; omega
                clear o1 o2 o3 o4 hBr hms hz hkl
                go_wp2
                go_roundw
                case rel => exact ⟨k + 1, by omega, by go_num, n1, n2, n3, n4, hB5⟩
                case measure => simp [intOf]; omega
              · obtain rfl : k = x.n := by omega
                rw [mulTo_all y ul (by rw [ULN.out]; exact Nat.le_refl _)] at o1
                have hz1' := hlt2
                go_wp2_with fail
                go_loopw [21] (fun v wr => ∃ k : Nat, k ≤ M ∧ v = .int .i64 k ∧ OwnI wr v2.heap.size ⟨A1, x.n, c1, timesR y ul⟩ ∧ OwnI wr v2.heap.size ⟨A1p, M, c1p, mulTo y pl k⟩ ∧ OwnI wr v4.heap.size ⟨A7, x.n, c7, timesR y ul⟩ ∧ OwnI wr v4.heap.size ⟨A8, M, c8, timesR y pl⟩ ∧ Below w.heap.size w wr) (fun v _ => M - (intOf v).toNat)
                case atStart => exact ⟨0, Nat.zero_le _, rfl, o1, by rw [mulTo_zero]; exact o2, o3, o4, hBr⟩
                case round =>
                  clear o1 o2 o3 o4 hBr
                  obtain ⟨k, hk, rfl, o1, o2, o3, o4, hBr⟩ := hrel
                  have hk0 : (0 : Int) ≤ k := by omega
                  by_cases hkn : k < M
                  · have hkn' : (k : Int) < M := by omega
                    have hkl : k < pl.length := by rw [PLN.out]; exact hkn
                    have hle := o2.own.le
                    simp only at hle
                    obtain ⟨g1, hA1, hg1, hg1l⟩ := o2.own.lt (show 0 < c1p by omega)
                    simp only at hA1
                    subst hA1
                    have hcu := o2.own.cell (j := k) hkn
                    rw [show ci64 (mulTo y pl k) = (mulTo y pl k).map iV from rfl, List.getElem?_map, mulTo_get hkl] at hcu
                    replace hcu : wr.cell? ⟨g1, k, none⟩ = some (.int .i64 pl[k]) := hcu
                    have hfr := o2.own.free (show 0 < c1p by omega) k
                    have hzb := HPB.out _ (List.getElem_mem hkl)
                    have hms := mulTo_set (f := y) hkl
                    obtain ⟨z, hz⟩ : ∃ z, pl[k] = z := ⟨_, rfl⟩
                    rw [hz] at hcu hzb hms
                    have hm2 := mulb (y := y) (z := z) hy (by omega) (by omega)
                    have n2 := OwnI.put o2 (k := k) (z := (y : Int) * z) (show 0 < c1p by omega) (by omega)
                    rw [hms] at n2
                    have n1 := OwnI.away o1 (k := k) (v := .int .i64 ((y : Int) * z)) o2 rfl (show 0 < c1p by omega) (fun g' hb hb2 => hap g' ⟨hb.1, hb.2⟩ ⟨hb2.1, hb2.2⟩)
                    have n3 := OwnI.away o3 (k := k) (v := .int .i64 ((y : Int) * z)) o2 rfl (show 0 < c1p by omega) (fun g' hb hb2 => by have := (o3.blk hb).1; have := hlt2 g' ⟨hb2.1, hb2.2⟩; omega)
                    have n4 := OwnI.away o4 (k := k) (v := .int .i64 ((y : Int) * z)) o2 rfl (show 0 < c1p by omega) (fun g' hb hb2 => by have := (o4.blk hb).1; have := hlt2 g' ⟨hb2.1, hb2.2⟩; omega)
                    have hB5 := hBr.setCell (p := ⟨g1, k, none⟩) (by show w.heap.size ≤ g1; omega) (.int .i64 ((y : Int) * z))
                    obtain ⟨fz, hfz⟩ : ∃ q, (y : Int) * z = q := ⟨_, rfl⟩
                    rw [hfz] at n1 n2 n3 n4 hB5 hm2
                    have s6 : IntKind.i64.wrap fz = fz := by rw [IntKind.wrap_i64]; omega
                    clear o1 o2 o3 o4 hBr hms hz hkl
                    go_wp2
                    go_roundw
                    case rel => exact ⟨k + 1, by omega, by go_num, n1, n2, n3, n4, hB5⟩
                    case measure => simp [intOf]; omega
                  · obtain rfl : k = M := by omega
                    rw [mulTo_all y pl (by rw [PLN.out]; exact Nat.le_refl _)] at o2
                    have hB := hBr
                    have hc := alive10_any wr
                    go_wp2_with fail
                    refine hc.mono ?_
                    rintro e v6 ⟨rfl, hb⟩
                    clear hc
                    replace o1 := o1.below hb
                    replace o2 := o2.below hb
                    replace o3 := o3.below hb
                    replace o4 := o4.below hb
                    replace hB := hB.trans (hb.mono hB.size)
                    clear hb
                    have hc := sameints_b ⟨A7, x.n, c7, timesR y ul⟩ ⟨A1, x.n, c1, timesR y ul⟩ v6 o3.ok o1.ok
                    rw [show Ls.v ⟨A7, x.n, c7, timesR y ul⟩ = .slice A7 x.n c7 from rfl, show Ls.v ⟨A1, x.n, c1, timesR y ul⟩ = .slice A1 x.n c1 from rfl, show (timesR y ul == timesR y ul) = true by simp] at hc
                    go_wp2_with fail
                    refine hc.mono ?_
                    rintro e v7 ⟨rfl, hb⟩
                    clear hc
                    replace o1 := o1.below hb
                    replace o2 := o2.below hb
                    replace o3 := o3.below hb
                    replace o4 := o4.below hb
                    replace hB := hB.trans (hb.mono hB.size)
                    clear hb
                    have hc := sameints_b ⟨A8, k, c8, timesR y pl⟩ ⟨A1p, k, c1p, timesR y pl⟩ v7 o4.ok o2.ok
                    rw [show Ls.v ⟨A8, k, c8, timesR y pl⟩ = .slice A8 k c8 from rfl, show Ls.v ⟨A1p, k, c1p, timesR y pl⟩ = .slice A1p k c1p from rfl, show (timesR y pl == timesR y pl) = true by simp] at hc
                    go_wp2_with fail
                    refine hc.mono ?_
                    rintro e v8 ⟨rfl, hb⟩
                    clear hc
                    replace o1 := o1.below hb
                    replace o2 := o2.below hb
                    replace o3 := o3.below hb
                    replace o4 := o4.below hb
                    replace hB := hB.trans (hb.mono hB.size)
                    clear hb
                    go_wp2
                    go_ret
                    exact ⟨rfl, hB⟩

theorem own : ownKnob Try.prog.godebug = none := by kernel_rfl
theorem laidOut : laidOutB Try.prog = true := by kernel_rfl

set_option maxRecDepth 100000 in
theorem lifted (os : Os) (started : os.Started) (H : Type) (enc : TypeId × Value → H) :
    ReturnsInHanded {} Try.checked os 7 .any (Rows.weightsTimesSpec.pre6 enc Try.prog Try.f7 Rows.weightsTimesRow.domain false) (Rows.weightsTimesSpec.post enc Try.prog Try.f7 false true false false) := by
  refine returnsInHanded_of_change (C := Try.checked) own started (by kernel_rfl) Try.func7
    (ChangeSpec.witness6 (enc := enc) (C := Try.checked) false ⟨#[], #[.agg #[.slice none 0 0, .int .i64 0], .int .u16 0], []⟩ 8 (by kernel_rfl) (by kernel_rfl) (by kernel_rfl) (by kernel_rfl)) ?_
  intro W base args ds gs before hval0 hW hcnd _
  have hval : ∀ (j : Nat) t v, Try.f7.params[j]? = some t → args[j]? = some v → Value.okWide Try.prog W .any base t v := hval0
  have hW' := hW
  obtain ⟨p, q, hA0, hV, rfl, hfz, hnd⟩ := hW
  have hA : DataW.TrodAll enc Try.prog W 0 (fun _ => true) true Try.f7.params.toList args.toList ds p := hA0
  rw [Try.params7] at hA hval
  obtain ⟨v0, vs0, d0, ds0, p0, q0, hargs, rfl, rfl, h0, r0⟩ := trodAll_cons hA
  obtain ⟨v1, vs1, d1, ds1, p1, q1, rfl, rfl, rfl, h1, r1⟩ := trodAll_cons r0
  obtain ⟨rfl, rfl, rfl⟩ := trodAll_nil r1
  obtain rfl : args = #[v0, v1] := by cases args; simp_all
  obtain ⟨u0, m0, rfl, k0, a0, b0⟩ := arg_gr Try.underlying24 (by kernel_rfl) (by kernel_rfl) Try.underlying22 Try.underlying3 Try.underlying28 (by kernel_rfl) Try.underlying3 (by kernel_rfl) (hval 0 24 v0 rfl rfl) h0
  obtain ⟨x1, rfl, rfl, rfl, w1⟩ := open_int Try.underlying39 (hval 1 39 v1 rfl rfl) h1
  obtain ⟨y1, rfl, z1⟩ := fit_u16 w1
  have hwalk : Calls Try.prog 7 #[.agg #[u0.v, .int .i64 m0], .int .u16 y1] W fun e w' => e = .returned (.bool true) ∧ Below W.heap.size W w' := walk u0 m0 y1 W k0 a0 b0 z1
  refine hwalk.mono fun e W' ⟨he, hg⟩ => ?_
  subst he
  exact ⟨_, rfl, law_post laidOut (by kernel_rfl) hW' rfl rfl (by kernel_rfl) Try.underlying4 hg⟩

theorem over : Rows.weightsTimesRow.holds Try.pinned (OpenSpec.ofChange Rows.weightsTimesSpec) :=
  OpenClaim.holds_of_wide 7 Try.f7 rfl rfl rfl rfl rfl rfl rfl ⟨rfl, rfl, rfl, rfl, rfl⟩ rfl rfl rfl rfl rfl (by kernel_rfl) Try.func7 (by kernel_rfl)
    (of_decide_eq_true (by kernel_rfl)) (by unfold Func.isWrapper; first | (rw [if_pos (by decide +kernel)]; kernel_rfl) | (rw [if_neg (by decide +kernel)]; exact ⟨rfl, rfl⟩))
    (fun os started H enc _ => lifted os started H enc)

theorem proved : Rows.WeightsTimesSaid :=
  over

end Go.Proofs.Ytiaoplghaigclaa.weightsTimes
