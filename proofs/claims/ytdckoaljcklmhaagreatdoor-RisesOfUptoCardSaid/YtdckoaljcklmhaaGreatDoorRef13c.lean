/-
  The document's answer of layer 13: Least.
-/
import Derived.Test.YtdckoaljcklmhaaGreatDoorRef12b
import Derived.Test.YtdckoaljcklmhaaGreatDoorRef09
import Derived.Test.YtdckoaljcklmhaaGreatDoorRiT
import Derived.Test.YtdckoaljcklmhaaGreatDoorMaL
import Derived.Deep.LoopGhost
namespace Go.Proofs.YtdckoaljcklmhaaGreatDoor
open Go.RowKit
set_option linter.unusedVariables false

set_option maxRecDepth 100000 in
set_option maxHeartbeats 400000 in
theorem rin_any (A : Option Addr) (n c : Nat) (zs : List Int) (k : Int) (w : World) (hr : Rd w A n (ci64 zs)) (hn : n ≤ maxLen) :
    Calls Tryz.prog 29 #[.slice A n c, .int .i64 k] w fun e w' => e = .returned (.bool (decide (k ∈ zs))) ∧ w = w' := by
  have hl : zs.length = n := by have h := hr.len; rw [ci64_len] at h; exact h
  have HL := Lib.hid hl
  unfold maxLen at hn
  clear hl
  go_enter Tryz.func29, Tryz.ntmps29
  go_wp2_with fail
  go_loop [5] (fun i => ∃ j : Nat, j ≤ n ∧ i = .int .i64 j ∧ Hid (k ∉ zs.take j)) (fun i => n - (intOf i).toNat)
  case atStart => exact ⟨0, Nat.zero_le _, rfl, Lib.hid (by simp)⟩
  case round =>
    obtain ⟨j, hj, rfl, hno⟩ := hrel
    by_cases hlt : j < n
    · obtain ⟨p, q, rfl, hp, u0, hu0, hc0⟩ := hr.get hlt
      have hjl : j < zs.length := by rw [HL.out]; exact hlt
      rw [ci64_get _ _ hjl] at hu0
      obtain rfl : iV zs[j] = u0 := Option.some.inj hu0
      unfold iV at hc0
      have hmem : zs[j] ∈ zs := List.getElem_mem hjl
      have htk : zs.take (j + 1) = zs.take j ++ [zs[j]] := List.take_succ_eq_append_getElem hjl
      generalize zs[j] = z at hc0 hmem htk
      by_cases hz : z = k
      · have hz1 : (z == k) = true := by rw [hz]; simp
        have HM := Lib.hid (show decide (k ∈ zs) = true from decide_eq_true (hz ▸ hmem))
        clear hu0 hz htk hmem
        go_wp2
        go_ret
        exact ⟨ret_bool HM.out.symm, rfl⟩
      · have hz1 : (z == k) = false := by rw [beq_eq_false_iff_ne]; exact hz
        have HN := Lib.hid (show k ∉ zs.take (j + 1) by
          rw [htk]
          intro hm
          rcases List.mem_append.1 hm with hm | hm
          · exact hno.out hm
          · exact hz (List.mem_singleton.1 hm).symm)
        clear hu0 hz htk hmem
        go_wp2
        go_round
        case rel => exact ⟨j + 1, by omega, by go_num, HN⟩
        case measure => simp [intOf]; omega
    · obtain rfl : j = n := by omega
      have HM := Lib.hid (show decide (k ∈ zs) = false from decide_eq_false (by
        have h := hno.out
        rwa [List.take_of_length_le (by rw [HL.out]; exact Nat.le_refl _)] at h))
      go_wp2
      go_ret
      exact ⟨ret_bool HM.out.symm, rfl⟩

/-- How far one goes, of the first items. -/
def farT (l p S : List Int) (j : Nat) : Int := ((List.range j).filter fun (q : Nat) => decide ((q : Int) ∉ S)).foldl (fun a q => min a (gainD l p - gapD l p q)) (gainD l p)
theorem farT_succ (l p S : List Int) (j : Nat) : farT l p S (j + 1) = if (j : Int) ∈ S then farT l p S j else min (farT l p S j) (gainD l p - gapD l p j) := by
  rw [farT, List.range_succ, List.filter_append, List.foldl_append]
  by_cases h : (j : Int) ∈ S
  · rw [if_pos h, List.filter_cons_of_neg (by simpa using h)]; rfl
  · rw [if_neg h, List.filter_cons_of_pos (by simpa using h)]; rfl
theorem farT_all (l p S : List Int) : farT l p S p.length = farL l p S := rfl
/-- Who of the first ones wants nothing but the set. -/
def inT (L : List (List Int)) (p S : List Int) (k : Nat) : List Int := ((mustP L p).take k).filter fun i => wantB ((graphP L p).getD i.toNat []) S
def byT (L : List (List Int)) (p S : List Int) (k : Nat) : Int := if inT L p S k = [] then -1 else minL ((inT L p S k).map fun b => farL (L.getD b.toNat []) p S)
theorem byT_zero (L : List (List Int)) (p S : List Int) : byT L p S 0 = -1 := by simp [byT, inT]
theorem byT_all (L : List (List Int)) (p S : List Int) (h : withinL (graphP L p) (mustP L p) S ≠ []) : byT L p S (mustP L p).length = byL L p S := by
  have e : inT L p S (mustP L p).length = withinL (graphP L p) (mustP L p) S := by rw [inT, List.take_length]; rfl
  rw [byT, e, if_neg h]; rfl
theorem minL_snoc {l : List Int} (h : l ≠ []) (a : Int) : minL (l ++ [a]) = min (minL l) a := by
  cases l with
  | nil => exact absurd rfl h
  | cons b l => rw [List.cons_append, minL, minL, List.foldl_append]; rfl
theorem filt1 (f : Int → Bool) (b : Int) : [b].filter f = if f b = true then [b] else [] := by rw [List.filter_cons]; rfl
theorem inT_succ {L : List (List Int)} {p S : List Int} {k : Nat} {b : Int} (hk : (mustP L p)[k]? = some b) : inT L p S (k + 1) = inT L p S k ++ if wantB ((graphP L p).getD b.toNat []) S = true then [b] else [] := by
  obtain ⟨h1, h2⟩ := List.getElem?_eq_some_iff.1 hk
  rw [inT, List.take_succ_eq_append_getElem h1, List.filter_append, h2, inT]
  congr 1
  exact filt1 (fun i => wantB ((graphP L p).getD i.toNat []) S) b
theorem byT_skip {L : List (List Int)} {p S : List Int} {k : Nat} {b : Int} (hk : (mustP L p)[k]? = some b) (h : wantB ((graphP L p).getD b.toNat []) S = false) : byT L p S (k + 1) = byT L p S k := by
  have e : inT L p S (k + 1) = inT L p S k := by rw [inT_succ hk, if_neg (by rw [h]; simp), List.append_nil]
  rw [byT, byT, e]
theorem inT_far {L : List (List Int)} {p S : List Int} {k : Nat} (hrow : RowsM p L) {b : Int} (h : b ∈ inT L p S k) : 1 ≤ farL (L.getD b.toNat []) p S := by
  have h2 : b ∈ withinL (graphP L p) (mustP L p) S := by
    obtain ⟨h3, h4⟩ := List.mem_filter.1 h
    exact List.mem_filter.2 ⟨List.mem_of_mem_take h3, h4⟩
  obtain ⟨i, rfl, hi, hg, hin⟩ := within_at h2
  rw [Int.toNat_natCast]
  exact far_pos (row_in hrow hg) hg hin
theorem byT_take {L : List (List Int)} {p S : List Int} {k : Nat} {b : Int} (hrow : RowsM p L) (hk : (mustP L p)[k]? = some b) (h : wantB ((graphP L p).getD b.toNat []) S = true) :
    byT L p S (k + 1) = if byT L p S k < 0 ∨ farL (L.getD b.toNat []) p S < byT L p S k then farL (L.getD b.toNat []) p S else byT L p S k := by
  have e := inT_succ (S := S) hk
  rw [if_pos h] at e
  have e2 : byT L p S (k + 1) = minL ((inT L p S k ++ [b]).map fun b => farL (L.getD b.toNat []) p S) := by
    rw [byT, e, if_neg (by simp)]
  rw [e2, List.map_append]
  by_cases h0 : inT L p S k = []
  · have h1 : byT L p S k = -1 := by rw [byT, if_pos h0]
    rw [h1, if_pos (.inl (by omega)), h0]; rfl
  · have h1 : byT L p S k = minL ((inT L p S k).map fun b => farL (L.getD b.toNat []) p S) := by rw [byT, if_neg h0]
    have hne : (inT L p S k).map (fun b => farL (L.getD b.toNat []) p S) ≠ [] := fun h => h0 (List.map_eq_nil_iff.1 h)
    have h2 := minL_mem hne
    rw [← h1] at h2
    obtain ⟨c, hc, hce⟩ := List.mem_map.1 h2
    have h3 := inT_far hrow hc
    rw [List.map_cons, List.map_nil, minL_snoc hne, ← h1]
    by_cases h4 : farL (L.getD b.toNat []) p S < byT L p S k
    · rw [if_pos (.inr h4)]; omega
    · rw [if_neg (by omega)]; omega
/-- The prices when so many of the set are dearer. -/
def outT (p S : List Int) (z : Int) (j : Nat) : List Int := (List.range p.length).map fun (c : Nat) => p.getD c 0 + if (c : Int) ∈ S.take j then z else 0
theorem outT_len (p S : List Int) (z : Int) (j : Nat) : (outT p S z j).length = p.length := by simp [outT]
theorem outT_zero (p S : List Int) (z : Int) : outT p S z 0 = p := by
  refine List.ext_getElem? fun c => ?_
  rw [outT, List.getElem?_map]
  by_cases h : c < p.length
  · rw [List.getElem?_range h, Option.map_some, List.take_zero, if_neg (by simp), Int.add_zero, List.getD_eq_getElem?_getD, List.getElem?_eq_getElem h]; rfl
  · rw [List.getElem?_eq_none (by simp; omega), List.getElem?_eq_none (by omega)]; rfl
theorem outT_all (p S : List Int) (z : Int) : outT p S z S.length = upL p S z := by rw [outT, upL, List.take_length]
theorem outT_get {p S : List Int} {z : Int} {j c : Nat} (hc : c < p.length) (h : (c : Int) ∉ S.take j) : (outT p S z j)[c]? = some (p.getD c 0) := by
  rw [outT, List.getElem?_map, List.getElem?_range hc, Option.map_some, if_neg h, Int.add_zero]
theorem outT_set {p S : List Int} {z : Int} {j s : Nat} (hs : S[j]? = some (s : Int)) : (outT p S z j).set s (p.getD s 0 + z) = outT p S z (j + 1) := by
  obtain ⟨h1, h2⟩ := List.getElem?_eq_some_iff.1 hs
  refine List.ext_getElem? fun c => ?_
  rw [List.getElem?_set, outT_len, outT, outT, List.getElem?_map, List.getElem?_map]
  by_cases hc : c < p.length
  · rw [List.getElem?_range hc, Option.map_some, Option.map_some, List.take_succ_eq_append_getElem h1, h2]
    by_cases e : s = c
    · subst e
      rw [if_pos rfl, if_pos hc, if_pos (by simp)]
    · rw [if_neg e]
      have e2 : ((c : Int) ∈ S.take j ++ [(s : Int)]) ↔ (c : Int) ∈ S.take j := by
        rw [List.mem_append, List.mem_singleton]
        exact ⟨fun h => h.resolve_right (by omega), .inl⟩
      by_cases e3 : (c : Int) ∈ S.take j
      · rw [if_pos e3, if_pos (e2.2 e3)]
      · rw [if_neg e3, if_neg (fun h => e3 (e2.1 h))]
  · rw [List.getElem?_eq_none (l := List.range p.length) (by simp; omega)]
    by_cases e : s = c
    · rw [if_pos e, if_neg (by omega)]; rfl
    · rw [if_neg e]; rfl
theorem first_item {l p : List Int} (h : gainD l p ≠ 0) : ∃ (k : Nat) (r : List Int), itemsD l p = (k : Int) :: r ∧ k < l.length ∧ gapD l p k = gainD l p := by
  have h0 : 0 < gainD l p := by have := gain_nonneg (b := l) (p := p); omega
  obtain ⟨k, hk⟩ := gain_at h0
  unfold itemsD
  cases e : itemsN l p with
  | nil => rw [e] at hk; cases hk
  | cons a r =>
    have := mem_itemsN.1 (show a ∈ itemsN l p by rw [e]; simp)
    exact ⟨a, _, rfl, this.1, this.2⟩
end Go.Proofs.YtdckoaljcklmhaaGreatDoor


namespace Go.Proofs.YtdckoaljcklmhaaGreatDoor
open Go.RowKit
set_option linter.unusedVariables false

theorem info13_int : (Tryz.prog.info? 3).map (fun i => (i.zero, i.size, i.bytes)) = some (some (.int .i64 0), 1, 8) := by kernel_rfl
theorem own_at13 {w : World} {B : Nat} {e : TypeId} {A : Option Addr} {n c i : Nat} {xs : List Value} {v : Value} (h : Own w B e A n c xs) (hi : xs[i]? = some v) (hin : i < n) : ∃ g, A = some ⟨g, 0, none⟩ ∧ g < w.heap.size ∧ w.cell? ⟨g, i, none⟩ = some v := by
  have hle := h.le
  obtain ⟨g, rfl, _, hg⟩ := h.lt (show 0 < c by omega)
  exact ⟨g, rfl, hg, (h.cell hin).trans hi⟩
theorem ls_num13 {w : World} {u : Ls} {i : Nat} {z : Int} (h : Ls.Ok w u) (hi : u.zs[i]? = some z) (hin : i < u.n) : ∃ g o, u.A = some ⟨g, o, none⟩ ∧ g < w.heap.size ∧ w.cell? ⟨g, o + i, none⟩ = some (.int .i64 z) := by
  obtain ⟨p, q, hA, hp, t0, ht0, hc⟩ := h.rd.get hin
  rw [ci64, List.getElem?_map, hi] at ht0
  obtain rfl : iV z = t0 := Option.some.inj ht0
  exact ⟨p, q, hA, hp, hc⟩
theorem graph_takeN {L : List (List Int)} {p : List Int} {i : Nat} (h : i < L.length) : (graphP L p).take (i + 1) = (graphP L p).take i ++ [if gainD (L.getD i []) p = 0 then [] else itemsD (L.getD i []) p] := by
  have h2 : i < (graphP L p).length := by rw [graph_len]; exact h
  rw [List.take_succ_eq_append_getElem h2, ← graph_get (L := L) (p := p) i, List.getD_eq_getElem?_getD, List.getElem?_eq_getElem h2]; rfl
theorem mayS_mayA {x : Mk} {p : List Int} (h : mayS x p = true) : mayA x.r.zs (Ls.all x.b) x.o.zs p = true := by
  obtain ⟨h1, h2, h3⟩ := mayS_iff.1 h
  obtain ⟨q1, _, _, _⟩ := (mayM_iff _ _ _).1 h1
  obtain ⟨k1, k2, _, k4⟩ := (mayB_iff _ _).1 q1
  refine mayA_iff.2 ⟨h1, h2, mayPr_iff.2 ⟨by omega, by omega, fun z hz => ?_⟩⟩
  obtain ⟨c, hc, rfl⟩ := List.getElem_of_mem hz
  have h4 := h3 c hc
  rw [List.getD_eq_getElem?_getD (l := p), List.getElem?_eq_getElem hc, Option.getD_some] at h4
  have h5 : 0 ≤ x.r.zs.getD c 0 := by
    rw [List.getD_eq_getElem?_getD, List.getElem?_eq_getElem (show c < x.r.zs.length by omega)]
    exact (k4 _ (List.getElem_mem _)).1
  omega
theorem own_keep13 {w : World} {B g j n c : Nat} {e : TypeId} {A : Option Addr} {xs : List Value} {v : Value} (h : Own w B e A n c xs) (hg : g < B) : Own (w.setCell ⟨g, j, none⟩ v) B e A n c xs :=
  h.keep fun g' hA _ hB _ => heap_setCell_other w ⟨g, j, none⟩ g' v (by show g' ≠ g; omega)
theorem ownI_put13 {w : World} {B g n c k : Nat} {zs : List Int} {z : Int} (h : OwnI w B ⟨some ⟨g, 0, none⟩, n, c, zs⟩) (hc : 0 < c) (hz : -9223372036854775808 ≤ z ∧ z ≤ 9223372036854775807) : OwnI (w.setCell ⟨g, k, none⟩ (.int .i64 z)) B ⟨some ⟨g, 0, none⟩, n, c, zs.set k z⟩ := by
  refine ⟨?_, fun y hy => ?_⟩
  · have h1 := h.own.set hc k (.int .i64 z)
    have h2 : ci64 (zs.set k z) = (ci64 zs).set k (.int .i64 z) := by simp [ci64, iV]
    show Own _ B _ _ n c (ci64 (zs.set k z))
    rw [h2]; exact h1
  · rcases List.mem_or_eq_of_mem_set hy with hy | rfl
    · exact h.fit y hy
    · exact hz
set_option maxRecDepth 100000 in
set_option maxHeartbeats 4000000 in
theorem rstepC : StepC 9 := by
  intro x y w hx hy
  obtain ⟨i0, hi0, hz0, hz1, hz2⟩ := info_parts info13_int
  obtain ⟨i1, hi1', hy0, hy1, hy2⟩ := info_parts info12_ints
  have HYL := Lib.hid hy.len
  have HRL := Lib.hid hx.r.len
  have HBL : Hid ((Ls.all x.b).length = x.n) := Lib.hid (by rw [Ls.all, List.length_map, hx.len])
  have ttop := Nat.le_trans hy.cap hy.top
  have rtop := Nat.le_trans hx.r.cap hx.r.top
  have btop := Nat.le_trans hx.cap hx.top
  unfold maxLen at ttop rtop btop
  obtain ⟨B, hB0⟩ : ∃ q, mayS x y.zs = q := ⟨_, rfl⟩
  have HB := Lib.hid hB0
  have HBAD : Hid (B = false → stepErr x y.zs = 1 ∧ stepE x y.zs = [] ∧ stepB x y.zs = false) := Lib.hid fun h => by simp [stepErr, stepE, stepB, hB0, h]
  obtain ⟨E, hE⟩ : ∃ q, stepErr x y.zs = q := ⟨_, rfl⟩
  obtain ⟨OL, hOL⟩ : ∃ q, stepE x y.zs = q := ⟨_, rfl⟩
  obtain ⟨SB, hSB⟩ : ∃ q, stepB x y.zs = q := ⟨_, rfl⟩
  rw [hE, hOL, hSB] at HBAD ⊢
  have HE := Lib.hid hE
  have HOL := Lib.hid hOL
  have HSB := Lib.hid hSB
  have hxv : x.v = .agg #[.slice x.r.A x.r.n x.r.c, .slice x.A x.n x.c, .slice x.o.A x.o.n x.o.c] := rfl
  have Vx := Lib.hid hxv
  have hyv : y.v = .slice y.A y.n y.c := rfl
  have Vy := Lib.hid hyv
  rw [hxv, hyv]
  clear hxv hyv hB0 hE hOL hSB
  go_enter Tryz.func9, Tryz.ntmps9
  have bx := InBox.new w x
  have hbx : Below w.heap.size w (w.alloc (.cells #[.slice x.r.A x.r.n x.r.c, .slice x.A x.n x.c, .slice x.o.A x.o.n x.o.c] 25)) := (Below.refl _ w).alloc (Nat.le_refl _) _
  have ex0 := bx.c0
  have ex1 := bx.c1
  have ex2 := bx.c2
  obtain ⟨W, hW⟩ : ∃ q, x.may = q := ⟨_, rfl⟩
  have hc := rcheckC x (w.alloc (.cells #[.slice x.r.A x.r.n x.r.c, .slice x.A x.n x.c, .slice x.o.A x.o.n x.o.c] 25)) (hx.below hbx)
  rw [hW, Vx.out] at hc
  have HW := Lib.hid hW
  clear hW
  go_wp2_with fail
  clear ex0 ex1 ex2
  generalize w.alloc (.cells #[.slice x.r.A x.r.n x.r.c, .slice x.A x.n x.c, .slice x.o.A x.o.n x.o.c] 25) = W1 at *
  refine hc.mono ?_
  rintro e w1 ⟨rfl, hb1⟩
  clear hc
  have hB := hbx.trans (hb1.mono hbx.size)
  have bx1 := bx.below hb1
  clear hbx hb1 bx
  have ex0 := bx1.c0
  have ex1 := bx1.c1
  have ex2 := bx1.c2
  cases W
  · have HF := Lib.hid (HBAD.out (by rw [← HB.out, mayS, HW.out]; rfl))
    go_wp2
    go_ret3
    exact ⟨none, 0, 0, by rw [HF.out.1, HF.out.2.2]; try rfl, by rw [HF.out.2.1]; exact OwnI.nil _ _, hB⟩
  by_cases hyr : y.n = x.r.n
  rotate_left
  · have gn : ((y.n : Int) != (x.r.n : Int)) = true := by rw [bne_iff_ne]; omega
    have gn2 : (y.n != x.r.n) = true := by rw [bne_iff_ne]; exact hyr
    have HF := Lib.hid (HBAD.out (by
      rw [← HB.out, Bool.eq_false_iff]
      intro h
      have h5 := (mayS_iff.1 h).2.1
      rw [HYL.out, HRL.out] at h5
      exact hyr h5))
    clear hyr
    go_wp2
    go_ret3
    exact ⟨none, 0, 0, by rw [HF.out.1, HF.out.2.2]; try rfl, by rw [HF.out.2.1]; exact OwnI.nil _ _, hB⟩
  have gn : ((y.n : Int) != (x.r.n : Int)) = false := by rw [bne_eq_false_iff_eq]; omega
  have gn2 : (y.n != x.r.n) = false := by rw [bne_eq_false_iff_eq]; exact hyr
  have HYR := Lib.hid hyr
  have hyr8 : y.n ≤ 8 := by rw [hyr]; exact (mk_len hx HW.out).1
  have hy1' : 1 ≤ y.n := by rw [hyr]; exact (mk_len hx HW.out).2.1
  clear hyr
  go_wp2_with fail
  clear ex0 ex1 ex2 gn gn2
  go_loopw [7] (fun v wr => ∃ i : Nat, i ≤ y.n ∧ v = .int .i64 i ∧ Hid (∀ c, c < i → x.r.zs.getD c 0 ≤ y.zs.getD c 0 ∧ y.zs.getD c 0 ≤ 2000000) ∧ Below w1.heap.size w1 wr) (fun v _ => y.n - (intOf v).toNat)
  case atStart => exact ⟨0, Nat.zero_le _, rfl, Lib.hid (fun c hc => absurd hc (by omega)), Below.refl _ _⟩
  case round =>
    obtain ⟨i, hi, rfl, hok, hbel⟩ := hrel
    have hi0' : (0 : Int) ≤ i := by omega
    by_cases hin : i < y.n
    · have hin' : (i : Int) < y.n := by omega
      have hir : i < x.r.n := by rw [← HYR.out]; exact hin
      have hir' : (i : Int) < x.r.n := by omega
      have hyl : i < y.zs.length := by rw [HYL.out]; exact hin
      have hrl : i < x.r.zs.length := by rw [HRL.out]; exact hir
      obtain ⟨g1, o1, hA1, hg1, hc1⟩ := ls_num13 (hy.below hB) (List.getElem?_eq_getElem hyl) hin
      obtain ⟨g2, o2, hA2, hg2, hc2⟩ := ls_num13 (hx.r.below hB) (List.getElem?_eq_getElem hrl) hir
      have HYI : Hid (y.zs.getD i 0 = y.zs[i]) := Lib.hid (by rw [List.getD_eq_getElem?_getD, List.getElem?_eq_getElem hyl]; rfl)
      have HRI : Hid (x.r.zs.getD i 0 = x.r.zs[i]) := Lib.hid (by rw [List.getD_eq_getElem?_getD, List.getElem?_eq_getElem hrl]; rfl)
      obtain ⟨z1, hz1'⟩ : ∃ q, y.zs[i] = q := ⟨_, rfl⟩
      obtain ⟨z2, hz2'⟩ : ∃ q, x.r.zs[i] = q := ⟨_, rfl⟩
      rw [hz1'] at hc1 HYI
      rw [hz2'] at hc2 HRI
      have hS : ∀ w', Below w1.heap.size w1 w' → w'.cell? ⟨w.heap.size, 0, none⟩ = some (.slice (some ⟨g2, o2, none⟩) x.r.n x.r.c) ∧ w'.cell? ⟨g1, o1 + i, none⟩ = some (.int .i64 z1) ∧ w'.cell? ⟨g2, o2 + i, none⟩ = some (.int .i64 z2) := fun w' hb => ⟨(bx1.below hb).c0.trans (by rw [hA2]), (hb.cell (p := ⟨g1, o1 + i, none⟩) hg1).trans hc1, (hb.cell (p := ⟨g2, o2 + i, none⟩) hg2).trans hc2⟩
      have HNX : Hid (z2 ≤ z1 ∧ z1 ≤ 2000000 → ∀ c, c < i + 1 → x.r.zs.getD c 0 ≤ y.zs.getD c 0 ∧ y.zs.getD c 0 ≤ 2000000) := Lib.hid fun h c hc => by
        by_cases e : c = i
        · rw [e, HYI.out, HRI.out]; exact h
        · exact hok.out c (by omega)
      have HNO : Hid (¬ (z2 ≤ z1 ∧ z1 ≤ 2000000) → B = false) := Lib.hid fun h => by
        rw [← HB.out, Bool.eq_false_iff]
        intro h2
        have h3 := (mayS_iff.1 h2).2.2 i hyl
        rw [HYI.out, HRI.out] at h3
        exact h h3
      rw [hA1]
      have HA1 := Lib.hid hA1
      have HA2 := Lib.hid hA2
      have HS := Lib.hid hS
      have hS0 := hS _ hbel.drew
      have hbd := hbel.drew
      clear hz1' hz2' hA1 hA2 hS hok hc1 hc2
      by_cases q1 : z1 < z2
      · have k1 : decide (z1 < z2) = true := decide_eq_true q1
        have HF := Lib.hid (HBAD.out (HNO.out (by omega)))
        clear q1
        go_wp2_with fail
        refine wp_region_ord (S := fun w' => w'.cell? ⟨w.heap.size, 0, none⟩ = some (.slice (some ⟨g2, o2, none⟩) x.r.n x.r.c) ∧ w'.cell? ⟨g1, o1 + i, none⟩ = some (.int .i64 z1) ∧ w'.cell? ⟨g2, o2 + i, none⟩ = some (.int .i64 z2)) [(0, true), (1, true), (2, true), (3, true), (4, true), (5, true), (6, true), (7, true), (8, true), (9, true), (10, true), (11, true), (12, true), (13, true), (14, true), (15, true), (16, true)] default (by kernel_rfl) (by kernel_rfl) (by kernel_rfl) hS0 ?_
        simp only [getOrd, nth]
        repeat (first | (refine ordS (by rfl) ?_; simp only [Act.put, List.setIfInBounds_toArray, List.set_cons_zero, List.set_cons_succ]) | (refine ordN (by rfl) ?_; simp only [Act.put, List.setIfInBounds_toArray, List.set_cons_zero, List.set_cons_succ]) | (refine ordQ (v := ?_) (by rfl) (fun _ hSw => ?_) ?_; rotate_left; (focus ((have hS1 := hSw.1); (have hS2 := hSw.2.1); (have hS3 := hSw.2.2); clear hSw; go_simp; (first | done | with_reducible rfl))); simp only [Act.put, List.setIfInBounds_toArray, List.set_cons_zero, List.set_cons_succ]))
        refine ordE ?_
        go_wp2
        go_ret3
        exact ⟨none, 0, 0, by rw [HF.out.1, HF.out.2.2]; try rfl, by rw [HF.out.2.1]; exact OwnI.nil _ _, hB.trans (hbd.mono hB.size)⟩
      have k1 : decide (z1 < z2) = false := decide_eq_false q1
      by_cases q2 : 2000000 < z1
      · have k2 : decide (2000000 < z1) = true := decide_eq_true q2
        have HF := Lib.hid (HBAD.out (HNO.out (by omega)))
        clear q1 q2
        go_wp2_with fail
        refine wp_region_ord (S := fun w' => w'.cell? ⟨w.heap.size, 0, none⟩ = some (.slice (some ⟨g2, o2, none⟩) x.r.n x.r.c) ∧ w'.cell? ⟨g1, o1 + i, none⟩ = some (.int .i64 z1) ∧ w'.cell? ⟨g2, o2 + i, none⟩ = some (.int .i64 z2)) [(0, true), (1, true), (2, true), (3, true), (4, true), (5, true), (6, true), (7, true), (8, true), (9, true), (10, true), (11, true), (12, true), (13, true), (14, true), (15, true), (16, true)] default (by kernel_rfl) (by kernel_rfl) (by kernel_rfl) hS0 ?_
        simp only [getOrd, nth]
        repeat (first | (refine ordS (by rfl) ?_; simp only [Act.put, List.setIfInBounds_toArray, List.set_cons_zero, List.set_cons_succ]) | (refine ordN (by rfl) ?_; simp only [Act.put, List.setIfInBounds_toArray, List.set_cons_zero, List.set_cons_succ]) | (refine ordQ (v := ?_) (by rfl) (fun _ hSw => ?_) ?_; rotate_left; (focus ((have hS1 := hSw.1); (have hS2 := hSw.2.1); (have hS3 := hSw.2.2); clear hSw; go_simp; (first | done | with_reducible rfl))); simp only [Act.put, List.setIfInBounds_toArray, List.set_cons_zero, List.set_cons_succ]))
        refine ordE ?_
        go_wp2
        go_ret3
        exact ⟨none, 0, 0, by rw [HF.out.1, HF.out.2.2]; try rfl, by rw [HF.out.2.1]; exact OwnI.nil _ _, hB.trans (hbd.mono hB.size)⟩
      have k2 : decide (2000000 < z1) = false := decide_eq_false q2
      have HN := Lib.hid (HNX.out ⟨by omega, by omega⟩)
      clear q1 q2
      go_wp2_with fail
      refine wp_region_ord (S := fun w' => w'.cell? ⟨w.heap.size, 0, none⟩ = some (.slice (some ⟨g2, o2, none⟩) x.r.n x.r.c) ∧ w'.cell? ⟨g1, o1 + i, none⟩ = some (.int .i64 z1) ∧ w'.cell? ⟨g2, o2 + i, none⟩ = some (.int .i64 z2)) [(0, true), (1, true), (2, true), (3, true), (4, true), (5, true), (6, true), (7, true), (8, true), (9, true), (10, true), (11, true), (12, true), (13, true), (14, true), (15, true), (16, true)] default (by kernel_rfl) (by kernel_rfl) (by kernel_rfl) hS0 ?_
      simp only [getOrd, nth]
      repeat (first | (refine ordS (by rfl) ?_; simp only [Act.put, List.setIfInBounds_toArray, List.set_cons_zero, List.set_cons_succ]) | (refine ordN (by rfl) ?_; simp only [Act.put, List.setIfInBounds_toArray, List.set_cons_zero, List.set_cons_succ]) | (refine ordQ (v := ?_) (by rfl) (fun _ hSw => ?_) ?_; rotate_left; (focus ((have hS1 := hSw.1); (have hS2 := hSw.2.1); (have hS3 := hSw.2.2); clear hSw; go_simp; (first | done | with_reducible rfl))); simp only [Act.put, List.setIfInBounds_toArray, List.set_cons_zero, List.set_cons_succ]))
      refine ordE ?_
      clear hS0 k1 k2
      go_wp2
      go_roundw
      case rel => exact ⟨i + 1, by omega, by go_num, HN, hbd⟩
      case measure => simp [intOf]; omega
    · obtain rfl : i = y.n := by omega
      have hmay : mayS x y.zs = true := mayS_iff.2 ⟨HW.out, by rw [HYL.out, HRL.out]; exact HYR.out, fun c hc => hok.out c (by rw [← HYL.out]; exact hc)⟩
      have hyx : y.zs.length = x.r.zs.length := (mayS_iff.1 hmay).2.1
      have hma := mayS_mayA hmay
      have HMAY := Lib.hid hmay
      have HROW : Hid (RowsM y.zs (Ls.all x.b)) := Lib.hid fun l hl => by rw [hyx]; exact may_rows HW.out l hl
      have E1 : Hid (allErr x y.zs = 0) := Lib.hid (by rw [allErr, if_pos hma])
      have E2 : Hid (allI x y.zs = (Ls.all x.b).map fun b => itemsD b y.zs) := Lib.hid (by rw [allI, if_pos hma])
      have E3 : Hid (allN x y.zs = (Ls.all x.b).map fun b => decide (gainD b y.zs = 0)) := Lib.hid (by rw [allN, if_pos hma])
      have HE0 : Hid (E = 0) := Lib.hid (by rw [← HE.out, stepErr, if_pos hmay])
      have HO0 : Hid (OL = stepL (Ls.all x.b) y.zs) := Lib.hid (by rw [← HOL.out, stepE, if_pos hmay])
      have HS0 : Hid (SB = stepF (Ls.all x.b) y.zs) := Lib.hid (by rw [← HSB.out, stepB, hmay, Bool.true_and])
      have hn8 : x.n ≤ 8 := (mk_len hx HW.out).2.2.2.1
      have hn1 : 1 ≤ x.n := (mk_len hx HW.out).2.2.1
      have HUN : Hid (∀ u ∈ x.b, u.n = 0 ∨ u.n = x.r.n) := Lib.hid (mk_len hx HW.out).2.2.2.2.2.1
      have HBZ : Hid (∀ u ∈ x.b, ∀ z ∈ u.zs, 0 ≤ z ∧ z ≤ 1000000) := Lib.hid (mk_len hx HW.out).2.2.2.2.2.2.2
      have HPZ : Hid (∀ c, c < y.n → 0 ≤ y.zs.getD c 0 ∧ y.zs.getD c 0 ≤ 2000000) := Lib.hid fun c hc => by
        have h5 := hok.out c hc
        have h6 : 0 ≤ x.r.zs.getD c 0 := by
          have hcl : c < x.r.zs.length := by rw [HRL.out, ← HYR.out]; exact hc
          rw [List.getD_eq_getElem?_getD, List.getElem?_eq_getElem hcl]
          exact ((mk_len hx HW.out).2.2.2.2.2.2.1 _ (List.getElem_mem hcl)).1
        omega
      have hB2 := hB.trans (hbel.mono hB.size)
      have bx2 := bx1.below hbel
      have ex0 := bx2.c0
      have ex1 := bx2.c1
      have ex2 := bx2.c2
      have hca := rallDC x y wr (hx.below hB2) (hy.below hB2)
      rw [Vx.out, Vy.out, E1.out] at hca
      clear hyx hma hmay hok hbel hB bx1 HBAD
      go_wp2_with fail
      clear ex0 ex1 ex2
      refine hca.mono ?_
      rintro e V ⟨A1, n1, c1, A2, n2, c2, ta, rfl, hta, hga, hoa, hb3⟩
      clear hca
      rw [E2.out] at hga
      rw [E3.out] at hoa
      obtain rfl : n1 = x.n := by
        have h5 := hta.len
        have h6 := congrArg List.length hga
        rw [Ls.all, List.length_map, List.length_map, HBL.out] at h6
        omega
      obtain rfl : n2 = x.n := by
        have h5 := hoa.len
        rw [List.length_map, List.length_map, HBL.out] at h5
        omega
      have hBV := hB2.trans (hb3.mono hB2.size)
      have bxV := bx2.below hb3
      have HGA := Lib.hid hga
      have htg := hta.gr
      clear hb3 bx2 hB2 hga hta
      obtain ⟨mf, hmf⟩ : ∃ mf : Nat → Bool, (fun b => decide (gainD ((Ls.all x.b).getD b []) y.zs ≠ 0)) = mf := ⟨_, rfl⟩
      have HMF := Lib.hid hmf
      have HMU : Hid (mustP (Ls.all x.b) y.zs = upto x.n mf) := Lib.hid (by rw [mustP, hmf, HBL.out])
      clear hmf
      go_wp2_with fail
      go_loopw [11, 12, 13] (fun so gr v wr => ∃ (i ns cs cg : Nat) (As Ag : Option Addr) (tg : List Ls), i ≤ x.n ∧ ns ≤ i ∧ v = .int .i64 i ∧ so = .slice As ns cs ∧ gr = .slice Ag i cg ∧ OwnI wr V.heap.size ⟨As, ns, cs, upto i mf⟩ ∧ Own wr V.heap.size 22 Ag i cg (tg.map Ls.v) ∧ Hid (∀ u ∈ tg, u.Ok V) ∧ Hid (Ls.all tg = (graphP (Ls.all x.b) y.zs).take i) ∧ Below V.heap.size V wr) (fun _ _ v _ => x.n - (intOf v).toNat)
      case atStart => exact ⟨0, 0, 0, 0, none, none, [], Nat.zero_le _, Nat.zero_le _, rfl, rfl, rfl, OwnI.nil _ _, Own.none_ _ _ _ _, Lib.hid (by simp), Lib.hid (by simp [Ls.all]), Below.refl _ _⟩
      case round =>
        obtain ⟨i, ns, cs, cg, As, Ag, tg, hi, hns, rfl, rfl, rfl, hmu, hOg, hrows, hall, hbV⟩ := hrel
        have hi0' : (0 : Int) ≤ i := by omega
        have hszV := hbV.size
        by_cases hin : i < x.n
        · have hin' : (i : Int) < x.n := by omega
          have hbl : i < (Ls.all x.b).length := by rw [HBL.out]; exact hin
          have HTK := Lib.hid (graph_takeN (L := Ls.all x.b) (p := y.zs) hbl)
          have HUS := Lib.hid (upto_succ i mf)
          have HMI : Hid (mf i = decide (gainD ((Ls.all x.b).getD i []) y.zs ≠ 0)) := Lib.hid (by rw [← HMF.out])
          obtain ⟨ζ, hζ⟩ : ∃ ζ, decide (gainD ((Ls.all x.b).getD i []) y.zs = 0) = ζ := ⟨_, rfl⟩
          obtain ⟨g8, hA2, hg8, hc8⟩ := own_at13 hoa (i := i) (v := .bool ζ) (by
            rw [List.getElem?_map, List.getElem?_map, List.getElem?_eq_getElem hbl, ← hζ, List.getD_eq_getElem?_getD, List.getElem?_eq_getElem hbl]; rfl) hin
          have hc8w := (hbV.cell (p := ⟨g8, i, none⟩) hg8).trans hc8
          rw [hA2]
          have HA2 := Lib.hid hA2
          clear hA2 hc8
          cases ζ
          · have hne := of_decide_eq_false hζ
            have hmi : mf i = true := by rw [HMI.out]; exact decide_eq_true hne
            have hus : upto (i + 1) mf = upto i mf ++ [(i : Int)] := by rw [HUS.out, if_pos hmi]
            have HUS2 := Lib.hid hus
            have htk : (graphP (Ls.all x.b) y.zs).take (i + 1) = (graphP (Ls.all x.b) y.zs).take i ++ [itemsD ((Ls.all x.b).getD i []) y.zs] := by rw [HTK.out, if_neg hne]
            obtain ⟨p5, q5, u, hA1, hgy, hp5, hc5, hku⟩ := gr_get htg HGA.out hin
            have hc5w := (hbV.cell (p := ⟨p5, q5 + i, none⟩) hp5).trans hc5
            have huz : u.zs = itemsD ((Ls.all x.b).getD i []) y.zs := by
              rw [← hgy, List.getD_eq_getElem?_getD, List.getElem?_map, List.getD_eq_getElem?_getD (l := Ls.all x.b), List.getElem?_eq_getElem hbl]; rfl
            have HTK2 : Hid ((graphP (Ls.all x.b) y.zs).take (i + 1) = (graphP (Ls.all x.b) y.zs).take i ++ [u.zs]) := Lib.hid (by rw [htk, huz])
            have HKU := Lib.hid hku
            rw [hA1]
            have HA1 := Lib.hid hA1
            clear hne hmi hus htk hgy hA1 hc5 hku huz hζ
            go_wp2_with (at_builtin; go_must (refine wpList_app1 wr rfl _ _ 23 rfl 22 i1 _ 24 Tryz.underlying23 hi1' hy0 hy1 hy2 rfl V.heap.size Ag i cg _ rfl hOg 1 rfl rfl ?d1 ?d2 ?d3 ?_))
            case d1 => simp only [maxLen]; omega
            case d2 => omega
            try case d3 => exact hszV
            intro A5 c5 w5 hown5 hbel5 hfr5 _
            have hmu5 : OwnI w5 V.heap.size ⟨As, ns, cs, upto i mf⟩ := ⟨Own.other hmu.own hOg (by decide) hfr5, hmu.fit⟩
            have hT5 : Own w5 V.heap.size 22 A5 (i + 1) c5 ((tg ++ [u]).map Ls.v) := by rw [List.map_append]; exact hown5
            have hb5 := hbV.trans hbel5
            have hsz5 := hb5.size
            clear hown5 hbel5 hfr5 hmu hOg hc8w hc5w
            go_wp2_with (at_builtin; go_must (refine wpList_app1 w5 rfl _ _ 22 rfl 3 i0 _ 8 Tryz.underlying22 hi0 hz0 hz1 hz2 rfl V.heap.size As ns cs _ rfl hmu5.own 1 rfl rfl ?f1 ?f2 ?f3 ?_))
            case f1 => simp only [maxLen]; omega
            case f2 => omega
            try case f3 => exact hsz5
            intro A6 c6 w6 hown6 hbel6 hfr6 _
            have hmu6 : OwnI w6 V.heap.size ⟨A6, ns + 1, c6, upto (i + 1) mf⟩ := by
              rw [HUS2.out]
              refine ⟨?_, fun z hz => ?_⟩
              · show Own w6 V.heap.size _ A6 (ns + 1) c6 (ci64 (upto i mf ++ [(i : Int)]))
                rw [ci64_app]; exact hown6
              · rcases List.mem_append.1 hz with hz | hz
                · exact hmu5.fit z hz
                · rw [List.mem_singleton.1 hz]; omega
            have hT6 := Own.other hT5 hmu5.own (by decide) hfr6
            have hb6 := hb5.trans hbel6
            have HR6 : Hid (∀ v ∈ tg ++ [u], v.Ok V) := Lib.hid fun v hv => by
              rcases List.mem_append.1 hv with hv | hv
              · exact hrows.out v hv
              · rw [List.mem_singleton.1 hv]; exact HKU.out
            have HA6 : Hid (Ls.all (tg ++ [u]) = (graphP (Ls.all x.b) y.zs).take (i + 1)) := Lib.hid (by rw [HTK2.out, ← hall.out]; simp [Ls.all])
            clear hown6 hbel6 hfr6 hmu5 hT5 hb5
            go_wp2
            go_roundw
            case rel => exact ⟨i + 1, ns + 1, c6, c5, A6, A5, _, by omega, by omega, by go_num, rfl, rfl, hmu6, hT6, HR6, HA6, hb6⟩
            case measure => simp [intOf]; omega
          · have he := of_decide_eq_true hζ
            have hmi : mf i = false := by rw [HMI.out]; exact decide_eq_false (fun h => h he)
            have HUS2 : Hid (upto (i + 1) mf = upto i mf) := Lib.hid (by rw [HUS.out, if_neg (by rw [hmi]; simp), List.append_nil])
            have HTK2 : Hid ((graphP (Ls.all x.b) y.zs).take (i + 1) = (graphP (Ls.all x.b) y.zs).take i ++ [[]]) := Lib.hid (by rw [HTK.out, if_pos he])
            clear he hmi hζ
            go_wp2_with (at_builtin; go_must (refine wpList_app1 wr rfl _ _ 23 rfl 22 i1 _ 24 Tryz.underlying23 hi1' hy0 hy1 hy2 rfl V.heap.size Ag i cg _ rfl hOg 1 rfl rfl ?d4 ?d5 ?d6 ?_))
            case d4 => simp only [maxLen]; omega
            case d5 => omega
            try case d6 => exact hszV
            intro A5 c5 w5 hown5 hbel5 hfr5 _
            have hmu5 : OwnI w5 V.heap.size ⟨As, ns, cs, upto (i + 1) mf⟩ := by rw [HUS2.out]; exact ⟨Own.other hmu.own hOg (by decide) hfr5, hmu.fit⟩
            have hT5 : Own w5 V.heap.size 22 A5 (i + 1) c5 ((tg ++ [Ls.nil]).map Ls.v) := by rw [List.map_append]; exact hown5
            have hb5 := hbV.trans hbel5
            have HR6 : Hid (∀ v ∈ tg ++ [Ls.nil], v.Ok V) := Lib.hid fun v hv => by
              rcases List.mem_append.1 hv with hv | hv
              · exact hrows.out v hv
              · rw [List.mem_singleton.1 hv]; exact (OwnI.nil V 0).ok
            have HA6 : Hid (Ls.all (tg ++ [Ls.nil]) = (graphP (Ls.all x.b) y.zs).take (i + 1)) := Lib.hid (by rw [HTK2.out, ← hall.out]; simp [Ls.all, Ls.nil])
            clear hown5 hbel5 hfr5 hmu hOg hc8w
            go_wp2
            go_roundw
            case rel => exact ⟨i + 1, ns, cs, c5, As, A5, _, by omega, by omega, by go_num, rfl, rfl, hmu5, hT5, HR6, HA6, hb5⟩
            case measure => simp [intOf]; omega
        · obtain rfl : i = x.n := by omega
          have hall2 : Ls.all tg = graphP (Ls.all x.b) y.zs := by
            rw [hall.out, List.take_of_length_le (by rw [graph_len, HBL.out]; exact Nat.le_refl _)]
          have HALL := Lib.hid hall2
          have HROWS := Lib.hid hrows.out
          rw [← HMU.out] at hmu
          have hyV := (hy.below hBV).below hbV
          have hyrd := hyV.rd
          have hyfit := hyV.fit
          clear hall hall2 hrows hyV
          go_wp2_with (at_builtin; go_must (refine wpList_app wr rfl _ _ 22 rfl 3 i0 _ 8 Tryz.underlying22 hi0 hz0 hz1 hz2 rfl wr.heap.size none 0 0 [] rfl (Own.none_ _ _ _ _) y.A y.n y.c (ci64 y.zs) rfl hyrd ?e1 ?e2 ?e3 ?e4 ?_))
          case e1 => intro u hu; obtain ⟨z, _, rfl⟩ := List.mem_map.1 hu; rfl
          case e2 => simp only [maxLen]; omega
          case e3 => omega
          try case e4 => exact Nat.le_refl _
          intro Ao co w3 hown3 hbel3 _ _
          have ho : OwnI w3 wr.heap.size ⟨Ao, y.n, co, y.zs⟩ := ⟨by simpa using hown3, hyfit⟩
          have hb3 := hbV.trans (hbel3.mono hszV)
          have hmu3 := hmu.below hbel3
          have hOg3 := hOg.below hbel3
          obtain ⟨gO, hAo, hgO1, hgO2⟩ := ho.own.lt (show 0 < co by have h5 := ho.own.le; simp only at h5; omega)
          simp only at hAo
          subst hAo
          have hco : 0 < co := by have h5 := ho.own.le; simp only at h5; omega
          clear hown3 hmu hOg hyrd hyfit
          have hgr : Gr.Ok w3 ⟨Ag, x.n, cg, tg⟩ := own_lists hOg3 fun u hu => (HROWS.out u hu).below hb3
          have hnok : nearOk (graphP (Ls.all x.b) y.zs) (y.zs.length : Int) (mustP (Ls.all x.b) y.zs) = true := by
            rw [nearOk, graph_check HROW.out (by rw [HYL.out]; exact hyr8) (by rw [HBL.out]; exact hn8), Bool.true_and]
            exact decide_eq_true must_rises
          have hfew := rfew9 ⟨Ag, x.n, cg, tg⟩ (y.n : Int) ⟨As, ns, cs, mustP (Ls.all x.b) y.zs⟩ w3 hgr hmu3.ok (by omega) (by omega)
          rw [show Gr.g ⟨Ag, x.n, cg, tg⟩ = graphP (Ls.all x.b) y.zs from HALL.out, show Gr.v ⟨Ag, x.n, cg, tg⟩ = .slice Ag x.n cg from rfl, show Ls.v ⟨As, ns, cs, mustP (Ls.all x.b) y.zs⟩ = .slice As ns cs from rfl, ← HYL.out, show nearErr (graphP (Ls.all x.b) y.zs) (y.zs.length : Int) (mustP (Ls.all x.b) y.zs) = 0 from by rw [nearErr, if_pos hnok]] at hfew
          clear hgr
          cases hfs : fewS (Ls.all x.b) y.zs with
          | none =>
            obtain ⟨r1, r2⟩ := few_no hnok hfs
            obtain ⟨r3, r4⟩ := stepL_none hfs
            rw [r1, r2, HYL.out] at hfew
            have HR3 : Hid (OL = y.zs) := Lib.hid (by rw [HO0.out]; exact r3)
            have HR4 : Hid (SB = false) := Lib.hid (by rw [HS0.out]; exact r4)
            clear hnok hfs r1 r2 r3 r4
            go_wp2_with fail
            refine hfew.mono ?_
            rintro e w4 ⟨Af, nf, cf, rfl, hf4, hb4⟩
            clear hfew hf4
            have hfin := (hBV.trans (hb3.mono hBV.size)).trans (hb4.mono (by have h5 := hBV.size; have h6 := hb3.size; omega))
            have ho4 : OwnI w4 w.heap.size ⟨some ⟨gO, 0, none⟩, y.n, co, OL⟩ := by rw [HR3.out]; exact (ho.below hb4).mono (by have h5 := hBV.size; omega)
            clear ho hb4 hmu3 hOg3
            go_wp2
            go_ret3
            exact ⟨_, _, _, by rw [HR4.out, HE0.out]; try rfl, ho4, hfin⟩
          | some S =>
            obtain ⟨r1, r2⟩ := few_yes hnok hfs
            obtain ⟨r3, r4⟩ := stepL_some hfs
            have hbest := few_some hfs
            rw [r1, r2, HYL.out] at hfew
            have HR3 : Hid (OL = upL y.zs S (byL (Ls.all x.b) y.zs S)) := Lib.hid (by rw [HO0.out]; exact r3)
            have HR4 : Hid (SB = true) := Lib.hid (by rw [HS0.out]; exact r4)
            have HSR : Hid (Rises y.n S) := Lib.hid (by have h5 := few_rises hfs; rwa [HYL.out] at h5)
            have HBYA : Hid (byT (Ls.all x.b) y.zs S (mustP (Ls.all x.b) y.zs).length = byL (Ls.all x.b) y.zs S) := Lib.hid (byT_all _ _ _ (few_in hfs))
            have HBYP : Hid (1 ≤ byL (Ls.all x.b) y.zs S) := Lib.hid (by_pos HROW.out hfs)
            have HBYU : Hid (byL (Ls.all x.b) y.zs S ≤ 1000000) := Lib.hid (by
              obtain ⟨b, hb⟩ := List.exists_mem_of_ne_nil _ (few_in hfs)
              have h1 := by_le hb
              obtain ⟨i, rfl, hi, hg, hin⟩ := within_at hb
              rw [Int.toNat_natCast] at h1
              have h2 := far_gain (l := (Ls.all x.b).getD i []) (p := y.zs) (S := S)
              obtain ⟨k0, rest, e, hk0, hk0g⟩ := first_item (l := (Ls.all x.b).getD i []) (p := y.zs) (by omega)
              have h3 := row_in HROW.out hg
              have h4 := HPZ.out k0 (by rw [← HYL.out, ← h3]; exact hk0)
              have h5 : ((Ls.all x.b).getD i []).getD k0 0 ≤ 1000000 := by
                have h6 : (Ls.all x.b).getD i [] = (Ls.all x.b)[i] := by rw [List.getD_eq_getElem?_getD, List.getElem?_eq_getElem hi]; rfl
                obtain ⟨u, hu, hue⟩ := List.mem_map.1 (List.getElem_mem hi)
                rw [h6] at hk0 ⊢
                rw [List.getD_eq_getElem?_getD, List.getElem?_eq_getElem hk0, Option.getD_some]
                exact (HBZ.out u hu _ (by rw [hue]; exact List.getElem_mem hk0)).2
              rw [gapD] at hk0g
              omega)
            clear hnok hfs r1 r2 r3 r4 hbest
            go_wp2_with fail
            refine hfew.mono ?_
            rintro e w4 ⟨Af, nf, cf, rfl, hf4, hb4⟩
            clear hfew
            obtain rfl : nf = S.length := hf4.len.symm
            have hSl : S.length ≤ y.n := rises_len HSR.out
            have hB4 := (hBV.trans (hb3.mono hBV.size)).trans (hb4.mono (by have h5 := hBV.size; have h6 := hb3.size; omega))
            have ho4 := ho.below hb4
            have hmu4 := hmu3.below hb4
            have hOg4 := hOg3.below hb4
            have hV4 := hb3.trans (hb4.mono (by have h5 := hb3.size; omega))
            have bx4 := bxV.below hV4
            have hgO4 : gO < w3.heap.size := hgO2
            have ho5 : OwnI w4 w.heap.size ⟨some ⟨gO, 0, none⟩, y.n, co, y.zs⟩ := ho4.mono (by have h5 := hBV.size; omega)
            have hwO : w.heap.size ≤ gO := by have h5 := hBV.size; omega
            clear ho4
            clear ho hmu3 hOg3
            have hgr4 : Gr.Ok w4 ⟨Ag, x.n, cg, tg⟩ := own_lists hOg4 fun u hu => (HROWS.out u hu).below hV4
            have hx4 := hx.below hB4
            have hy4 := hy.below hB4
            have hml : (mustP (Ls.all x.b) y.zs).length = ns := hmu4.len
            have HML := Lib.hid hml
            have HMUO := Lib.hid hmu4.ok
            have HFO := Lib.hid hf4.ok
            have hfrd := hf4.ok.rd
            have hfcap := Nat.le_trans hf4.ok.cap hf4.ok.top
            simp only at hfrd hfcap
            have hns8 : ns ≤ x.n := by
              have h5 := rises_len (must_rises (L := Ls.all x.b) (p := y.zs))
              rw [graph_len, HBL.out, hml] at h5
              exact h5
            clear hml hOg4 hmu4
            go_wp2_with fail
            go_loopw [18, 19] (fun bv v wr => ∃ k : Nat, k ≤ ns ∧ v = .int .i64 k ∧ bv = .int .i64 (byT (Ls.all x.b) y.zs S k) ∧ Below w4.heap.size w4 wr) (fun _ v _ => ns - (intOf v).toNat)
            case atStart => exact ⟨0, Nat.zero_le _, rfl, by rw [byT_zero], Below.refl _ _⟩
            case round =>
              obtain ⟨k, hk, rfl, rfl, hbk⟩ := hrel
              have hk0 : (0 : Int) ≤ k := by omega
              by_cases hkn : k < ns
              · have hkn' : (k : Int) < ns := by omega
                have hkl : k < (mustP (Ls.all x.b) y.zs).length := by rw [HML.out]; exact hkn
                have hmk := List.getElem_mem hkl
                obtain ⟨i, hii⟩ : ∃ i : Nat, (mustP (Ls.all x.b) y.zs)[k] = (i : Int) := ⟨((mustP (Ls.all x.b) y.zs)[k]).toNat, by have := (must_rises (L := Ls.all x.b) (p := y.zs)).1 _ hmk; omega⟩
                rw [hii] at hmk
                obtain ⟨hiL, hgn⟩ := mem_mustP.1 hmk
                have hmki : (mustP (Ls.all x.b) y.zs)[k]? = some (i : Int) := by rw [List.getElem?_eq_getElem hkl, hii]
                have hix : i < x.n := by rw [← HBL.out]; exact hiL
                have hix' : (i : Int) < x.n := by omega
                have hi0' : (0 : Int) ≤ i := by omega
                have HMKI := Lib.hid hmki
                obtain ⟨gm, om, hAm, hgm, hcm⟩ := ls_num13 HMUO.out hmki (show k < ns from hkn)
                simp only at hAm
                have hcmw := (hbk.cell (p := ⟨gm, om + k, none⟩) hgm).trans hcm
                obtain ⟨p5, q5, u, hAg, hgy, hp5, hc5, hku⟩ := gr_get hgr4 HALL.out hix
                obtain ⟨p2, q2, u2, hAx, hub, hbid, hp2, hcx0, hku2⟩ := hx4.get hix
                obtain ⟨l, hl⟩ : ∃ q, (Ls.all x.b).getD i [] = q := ⟨_, rfl⟩
                have hu2 : u2.zs = l := by rw [← hl, List.getD_eq_getElem?_getD, Ls.all, List.getElem?_map, hub]; rfl
                have hgp : 0 < gainD l y.zs := by rw [← hl]; have h5 := gain_nonneg (b := (Ls.all x.b).getD i []) (p := y.zs); omega
                have hll : l.length = y.zs.length := by rw [← hl]; exact row_in HROW.out (by rw [hl]; exact hgp)
                have huz : u.zs = itemsD l y.zs := by rw [← hgy, graph_get, if_neg hgn, hl]
                have HBZL : Hid (∀ c, c < y.n → 0 ≤ l.getD c 0 ∧ l.getD c 0 ≤ 1000000) := Lib.hid fun c hc => by
                  have hcl : c < l.length := by rw [hll, HYL.out]; exact hc
                  rw [List.getD_eq_getElem?_getD, List.getElem?_eq_getElem hcl]
                  exact HBZ.out u2 (List.mem_of_getElem? hub) _ (by rw [hu2]; exact List.getElem_mem hcl)
                have HLG : Hid (∀ c, c < y.n → l[c]? = some (l.getD c 0)) := Lib.hid fun c hc => by
                  have hcl : c < l.length := by rw [hll, HYL.out]; exact hc
                  rw [List.getD_eq_getElem?_getD, List.getElem?_eq_getElem hcl]; rfl
                have HPG : Hid (∀ c, c < y.n → y.zs[c]? = some (y.zs.getD c 0)) := Lib.hid fun c hc => by
                  have hcl : c < y.zs.length := by rw [HYL.out]; exact hc
                  rw [List.getD_eq_getElem?_getD, List.getElem?_eq_getElem hcl]; rfl
                have hu2n : u2.n = y.n := by have h5 := hku2.len; rw [hu2, hll, HYL.out] at h5; exact h5.symm
                have hun : u.n ≤ y.n := by
                  have h5 := hku.len
                  have h6 := itemsD_len (b := l) (p := y.zs)
                  rw [huz] at h5
                  rw [hll, HYL.out] at h6
                  omega
                have HU2 := Lib.hid hu2
                have HUZ := Lib.hid huz
                have HLL := Lib.hid hll
                have HUO := Lib.hid hku
                have HU2O := Lib.hid hku2
                have HULEN := Lib.hid hku.len
                have HWANT : Hid (wantB ((graphP (Ls.all x.b) y.zs).getD (i : Int).toNat []) S = u.zs.all fun k => decide (k ∈ S)) := Lib.hid (by rw [Int.toNat_natCast, hgy]; rfl)
                have HGET : Hid ((Ls.all x.b).getD (i : Int).toNat [] = l) := Lib.hid (by rw [Int.toNat_natCast]; exact hl)
                replace hcx0 : w4.cell? ⟨p2, q2 + i, none⟩ = some (.slice u2.A u2.n u2.c) := hcx0
                have HC5 := Lib.hid (fun w' (hb : Below w4.heap.size w4 w') => (hb.cell (p := ⟨p5, q5 + i, none⟩) hp5).trans hc5)
                have HC2 := Lib.hid (fun w' (hb : Below w4.heap.size w4 w') => (hb.cell (p := ⟨p2, q2 + i, none⟩) hp2).trans hcx0)
                have HC1 := Lib.hid (fun w' (hb : Below w4.heap.size w4 w') => (bx4.below hb).c1)
                have hc5w := HC5.out wr hbk
                rw [hAm, hAg]
                have HAM := Lib.hid hAm
                have HAG := Lib.hid hAg
                have HAX := Lib.hid hAx
                have HGP := Lib.hid hgp
                have HU2N := Lib.hid hu2n
                obtain ⟨by0, hby0⟩ : ∃ q, byT (Ls.all x.b) y.zs S k = q := ⟨_, rfl⟩
                have HBY0 := Lib.hid hby0
                rw [hby0]
                clear hmk hii hgn hmki hcm hAm hAg hgy hAx hub hbid hl hu2 huz hll hku hku2 hc5 hcx0 hu2n hby0 hgp
                obtain ⟨wo, rfl⟩ : ∃ wo, wo = wr := ⟨_, rfl⟩
                go_wp2_with fail
                clear hc5w hcmw
                go_loopw [21, 22] (fun av v wr => ∃ j : Nat, j ≤ u.n ∧ v = .int .i64 j ∧ av = .bool ((u.zs.take j).all fun k => decide (k ∈ S)) ∧ Below w4.heap.size w4 wr) (fun _ v _ => u.n - (intOf v).toNat)
                case atStart => exact ⟨0, Nat.zero_le _, rfl, by simp, hbk⟩
                case round =>
                  obtain ⟨j, hj, rfl, rfl, hbj⟩ := hrel
                  have hj0 : (0 : Int) ≤ j := by omega
                  have hc5w := HC5.out wr hbj
                  by_cases hjn : j < u.n
                  · have hjn' : (j : Int) < u.n := by omega
                    have hjl : j < u.zs.length := by rw [HULEN.out]; exact hjn
                    obtain ⟨gu, ou, hAu, hgu, hcu⟩ := ls_num13 HUO.out (List.getElem?_eq_getElem hjl) hjn
                    have hcuw := (hbj.cell (p := ⟨gu, ou + j, none⟩) hgu).trans hcu
                    obtain ⟨z, hz⟩ : ∃ q, u.zs[j] = q := ⟨_, rfl⟩
                    obtain ⟨α, hα⟩ : ∃ q, ((u.zs.take j).all fun k => decide (k ∈ S)) = q := ⟨_, rfl⟩
                    have HSU : Hid (((u.zs.take (j + 1)).all fun k => decide (k ∈ S)) = (α && decide (z ∈ S))) := Lib.hid (by rw [List.take_succ_eq_append_getElem hjl, List.all_append, hα, hz]; simp)
                    rw [hz] at hcuw
                    rw [hα]
                    rw [hAu] at hc5w
                    have HAU := Lib.hid hAu
                    have hrin := rin_any Af S.length cf S z wr (hfrd.below hbj) hfcap
                    clear hz hα hcu hAu
                    cases α
                    · have HR : Hid (((u.zs.take (j + 1)).all fun k => decide (k ∈ S)) = false) := Lib.hid (by rw [HSU.out]; rfl)
                      clear hrin
                      go_wp2
                      go_roundw
                      case rel => exact ⟨j + 1, by omega, by go_num, by rw [HR.out], hbj⟩
                      case measure => simp [intOf]; omega
                    · have HR : Hid (((u.zs.take (j + 1)).all fun k => decide (k ∈ S)) = decide (z ∈ S)) := Lib.hid (by rw [HSU.out]; rfl)
                      go_wp2_with fail
                      refine hrin.mono ?_
                      rintro e w5 ⟨rfl, rfl⟩
                      clear hrin
                      go_wp2
                      go_roundw
                      case rel => exact ⟨j + 1, by omega, by go_num, by rw [HR.out], hbj⟩
                      case measure => simp [intOf]; omega
                  · obtain rfl : j = u.n := by omega
                    have HWA : Hid (((u.zs.take u.n).all fun k => decide (k ∈ S)) = wantB ((graphP (Ls.all x.b) y.zs).getD (i : Int).toNat []) S) := Lib.hid (by rw [HWANT.out, List.take_of_length_le (by rw [HULEN.out]; exact Nat.le_refl _)])
                    rw [HWA.out]
                    obtain ⟨W, hW⟩ : ∃ q, wantB ((graphP (Ls.all x.b) y.zs).getD (i : Int).toNat []) S = q := ⟨_, rfl⟩
                    rw [hW]
                    obtain ⟨wp, rfl⟩ : ∃ wp, wp = wr := ⟨_, rfl⟩
                    cases W
                    · have HSK : Hid (byT (Ls.all x.b) y.zs S (k + 1) = by0) := Lib.hid (by rw [byT_skip HMKI.out hW, HBY0.out])
                      clear hW
                      go_wp2
                      go_roundw
                      case rel => exact ⟨k + 1, by omega, by go_num, by rw [HSK.out], hbj⟩
                      case measure => simp [intOf]; omega
                    · have HTA : Hid (byT (Ls.all x.b) y.zs S (k + 1) = if by0 < 0 ∨ farL l y.zs S < by0 then farL l y.zs S else by0) := Lib.hid (by
                        have h5 := byT_take HROW.out HMKI.out hW
                        rw [HGET.out, HBY0.out] at h5
                        exact h5)
                      clear hW
                      go_wp2_with fail
                      clear hc5w
                      obtain ⟨k0, rest, hk0e, hk0l, hk0g⟩ := first_item (l := l) (p := y.zs) (by have h5 := HGP.out; omega)
                      have hk0n : k0 < y.n := by rw [HLL.out, HYL.out] at hk0l; exact hk0l
                      have hu0 : u.zs[0]? = some (k0 : Int) := by rw [HUZ.out, hk0e]; rfl
                      have hun1 : 0 < u.n := by
                        have h5 := HULEN.out
                        rw [HUZ.out, hk0e] at h5
                        simp at h5; omega
                      obtain ⟨gu, ou, hAu, hgu, hcu⟩ := ls_num13 HUO.out hu0 hun1
                      obtain ⟨gb, ob, hAb, hgb, hcb⟩ := ls_num13 (u := u2) (i := k0) HU2O.out (by rw [HU2.out]; exact HLG.out k0 hk0n) (by rw [HU2N.out]; exact hk0n)
                      obtain ⟨gy, oy, hAy, hgy, hcy⟩ := ls_num13 (u := y) hy4 (HPG.out k0 hk0n) hk0n
                      obtain ⟨z1, hz1⟩ : ∃ q, l.getD k0 0 = q := ⟨_, rfl⟩
                      obtain ⟨z2, hz2⟩ : ∃ q, y.zs.getD k0 0 = q := ⟨_, rfl⟩
                      obtain ⟨g, hg⟩ : ∃ q, gainD l y.zs = q := ⟨_, rfl⟩
                      have hgz : z1 - z2 = g := by rw [← hz1, ← hz2, ← hg, ← hk0g, gapD]
                      have hzb1 := HBZL.out k0 hk0n
                      have hzb2 := HPZ.out k0 hk0n
                      rw [hz1] at hcb hzb1
                      rw [hz2] at hcy hzb2
                      have hgb' : 0 < g ∧ g ≤ 1000000 := by have h5 := HGP.out; rw [hg] at h5; omega
                      have HGG := Lib.hid hg
                      have s1 : IntKind.i64.wrap (z1 - z2) = g := by rw [IntKind.wrap_i64]; omega
                      have hk0' : (0 : Int) ≤ k0 := by omega
                      have hk0n' : (k0 : Int) < y.n := by omega
                      have hk0n2 : (k0 : Int) < u2.n := by rw [HU2N.out]; omega
                      have hun1' : (0 : Int) < u.n := by omega
                      have HS := Lib.hid (fun w' (hb : Below w4.heap.size w4 w') => (⟨(HC1.out w' hb).trans (by rw [HAX.out]), (HC2.out w' hb).trans (by rw [hAb]), (HC5.out w' hb).trans (by rw [hAu]), (hb.cell (p := ⟨gu, ou + 0, none⟩) hgu).trans hcu, (hb.cell (p := ⟨gb, ob + k0, none⟩) hgb).trans hcb, (hb.cell (p := ⟨gy, oy + k0, none⟩) hgy).trans hcy⟩ : w'.cell? ⟨w.heap.size, 1, none⟩ = some (.slice (some ⟨p2, q2, none⟩) x.n x.c) ∧ w'.cell? ⟨p2, q2 + i, none⟩ = some (.slice (some ⟨gb, ob, none⟩) u2.n u2.c) ∧ w'.cell? ⟨p5, q5 + i, none⟩ = some (.slice (some ⟨gu, ou, none⟩) u.n u.c) ∧ w'.cell? ⟨gu, ou, none⟩ = some (.int .i64 k0) ∧ w'.cell? ⟨gb, ob + k0, none⟩ = some (.int .i64 z1) ∧ w'.cell? ⟨gy, oy + k0, none⟩ = some (.int .i64 z2)))
                      have hbd := hbj.drew
                      have hS0 := HS.out _ hbd
                      rw [hAy]
                      have HAY := Lib.hid hAy
                      have HAB := Lib.hid hAb
                      clear hk0e hk0l hk0g hu0 hcu hcb hcy hz1 hz2 hg hgz hAu hAb hAy
                      refine wp_region_ord (S := fun w' => w'.cell? ⟨w.heap.size, 1, none⟩ = some (.slice (some ⟨p2, q2, none⟩) x.n x.c) ∧ w'.cell? ⟨p2, q2 + i, none⟩ = some (.slice (some ⟨gb, ob, none⟩) u2.n u2.c) ∧ w'.cell? ⟨p5, q5 + i, none⟩ = some (.slice (some ⟨gu, ou, none⟩) u.n u.c) ∧ w'.cell? ⟨gu, ou, none⟩ = some (.int .i64 k0) ∧ w'.cell? ⟨gb, ob + k0, none⟩ = some (.int .i64 z1) ∧ w'.cell? ⟨gy, oy + k0, none⟩ = some (.int .i64 z2)) [(0, true), (1, true), (2, true), (3, true), (4, true), (5, true), (6, true), (7, true), (8, true), (9, true), (10, true), (11, true), (12, true), (13, true), (14, true), (15, true), (16, true), (17, true), (18, true), (19, true), (20, true), (21, true), (22, true), (23, true)] default (by kernel_rfl) (by kernel_rfl) (by kernel_rfl) hS0 ?_
                      simp only [getOrd, nth]
                      repeat (first | (refine ordS (by rfl) ?_; simp only [Act.put, List.setIfInBounds_toArray, List.set_cons_zero, List.set_cons_succ]) | (refine ordN (by rfl) ?_; simp only [Act.put, List.setIfInBounds_toArray, List.set_cons_zero, List.set_cons_succ]) | (refine ordQ (v := ?_) (by rfl) (fun _ hSw => ?_) ?_; rotate_left; (focus ((have hS1 := hSw.1); (have hS2 := hSw.2.1); (have hS3 := hSw.2.2.1); (have hS4 := hSw.2.2.2.1); (have hS5 := hSw.2.2.2.2.1); (have hS6 := hSw.2.2.2.2.2); clear hSw; go_simp; (first | done | with_reducible rfl))); simp only [Act.put, List.setIfInBounds_toArray, List.set_cons_zero, List.set_cons_succ]))
                      refine ordE ?_
                      clear hS0
                      obtain ⟨wq, hwq⟩ : ∃ q, q = wp.drew := ⟨_, rfl⟩
                      rw [← hwq] at hbd ⊢
                      clear hwq hbj
                      go_wp2_with fail
                      go_loopw [24, 25] (fun fv v wr => ∃ j : Nat, j ≤ y.n ∧ v = .int .i64 j ∧ fv = .int .i64 (farT l y.zs S j) ∧ Below w4.heap.size w4 wr) (fun _ v _ => y.n - (intOf v).toNat)
                      case atStart => exact ⟨0, Nat.zero_le _, rfl, by rw [show farT l y.zs S 0 = gainD l y.zs from rfl, HGG.out], hbd⟩
                      case round =>
                        clear hbd
                        obtain ⟨j, hj, rfl, rfl, hbj⟩ := hrel
                        have hj0 : (0 : Int) ≤ j := by omega
                        by_cases hjn : j < y.n
                        · have hjn' : (j : Int) < y.n := by omega
                          have hjn2 : (j : Int) < u2.n := by rw [HU2N.out]; omega
                          obtain ⟨gb2, ob2, hAb2, hgb2, hcb2⟩ := ls_num13 (u := u2) (i := j) HU2O.out (by rw [HU2.out]; exact HLG.out j hjn) (by rw [HU2N.out]; exact hjn)
                          obtain ⟨rfl, rfl⟩ : gb2 = gb ∧ ob2 = ob := by have h := HAB.out; rw [hAb2] at h; cases h; exact ⟨rfl, rfl⟩
                          obtain ⟨gy2, oy2, hAy2, hgy2, hcy2⟩ := ls_num13 (u := y) hy4 (HPG.out j hjn) hjn
                          obtain ⟨rfl, rfl⟩ : gy2 = gy ∧ oy2 = oy := by have h := HAY.out; rw [hAy2] at h; cases h; exact ⟨rfl, rfl⟩
                          have hFT := farT_succ l y.zs S j
                          have hzb := HBZL.out j hjn
                          have hzp := HPZ.out j hjn
                          rw [HGG.out, gapD] at hFT
                          obtain ⟨zb, hzb'⟩ : ∃ q, l.getD j 0 = q := ⟨_, rfl⟩
                          obtain ⟨zp, hzp'⟩ : ∃ q, y.zs.getD j 0 = q := ⟨_, rfl⟩
                          obtain ⟨f, hf'⟩ : ∃ q, farT l y.zs S j = q := ⟨_, rfl⟩
                          rw [hzb'] at hzb hcb2 hFT
                          rw [hzp'] at hzp hcy2 hFT
                          rw [hf'] at hFT ⊢
                          have HFT := Lib.hid hFT
                          have HS2 := Lib.hid (fun w' (hb : Below w4.heap.size w4 w') => (⟨(HS.out w' hb).1, (HS.out w' hb).2.1, (hb.cell (p := ⟨_, _, none⟩) hgb2).trans hcb2, (hb.cell (p := ⟨_, _, none⟩) hgy2).trans hcy2⟩ : w'.cell? ⟨w.heap.size, 1, none⟩ = some (.slice (some ⟨p2, q2, none⟩) x.n x.c) ∧ w'.cell? ⟨p2, q2 + i, none⟩ = some (.slice (some ⟨gb2, ob2, none⟩) u2.n u2.c) ∧ w'.cell? ⟨gb2, ob2 + j, none⟩ = some (.int .i64 zb) ∧ w'.cell? ⟨gy2, oy2 + j, none⟩ = some (.int .i64 zp)))
                          have s2 : IntKind.i64.wrap (zb - zp) = zb - zp := by rw [IntKind.wrap_i64]; omega
                          have s3 : IntKind.i64.wrap (g - (zb - zp)) = g - (zb - zp) := by rw [IntKind.wrap_i64]; omega
                          have hbd2 := hbj.drew
                          have hrin := rin_any Af S.length cf S (j : Int) wr.drew (hfrd.below hbd2) hfcap
                          clear hAb2 hAy2 hcb2 hcy2 hFT hzb' hzp' hf' hbj
                          by_cases hjS : (j : Int) ∈ S
                          · rw [decide_eq_true hjS] at hrin
                            have HR : Hid (farT l y.zs S (j + 1) = f) := Lib.hid (by rw [HFT.out, if_pos hjS])
                            clear hjS
                            go_wp2_with fail
                            refine wp_region_ord (S := fun w' => w'.cell? ⟨w.heap.size, 1, none⟩ = some (.slice (some ⟨p2, q2, none⟩) x.n x.c) ∧ w'.cell? ⟨p2, q2 + i, none⟩ = some (.slice (some ⟨gb2, ob2, none⟩) u2.n u2.c) ∧ w'.cell? ⟨gb2, ob2 + j, none⟩ = some (.int .i64 zb) ∧ w'.cell? ⟨gy2, oy2 + j, none⟩ = some (.int .i64 zp)) [(0, true), (1, true), (2, false), (3, true), (4, true), (5, true), (6, true), (7, true), (8, true), (9, true), (10, true), (11, true), (12, true), (13, true), (14, true), (15, true), (16, true), (17, true), (18, true), (19, true), (20, true), (21, true), (22, true)] default (by kernel_rfl) (by kernel_rfl) (by kernel_rfl) (HS2.out _ hbd2) ?_
                            simp only [getOrd, nth]
                            repeat (first | (refine ordS (by rfl) ?_; simp only [Act.put, List.setIfInBounds_toArray, List.set_cons_zero, List.set_cons_succ]) | (refine ordN (by rfl) ?_; simp only [Act.put, List.setIfInBounds_toArray, List.set_cons_zero, List.set_cons_succ]) | (refine ordQ (v := ?_) (by rfl) (fun _ hSw => ?_) ?_; rotate_left; (focus ((have hS1 := hSw.1); (have hS2 := hSw.2.1); (have hS3 := hSw.2.2.1); (have hS4 := hSw.2.2.2); clear hSw; go_simp; (first | done | with_reducible rfl))); simp only [Act.put, List.setIfInBounds_toArray, List.set_cons_zero, List.set_cons_succ]))
                            refine ordD (by rfl) ?_
                            intro K hK
                            go_simp
                            refine hrin.mono ?_
                            rintro e w5 ⟨rfl, hw5⟩
                            replace hw5 := hw5.symm
                            subst hw5
                            clear hrin
                            go_wp2_with fail
                            refine hK _ _ (HS2.out _ hbd2) ?_
                            clear hK K
                            try simp only [Act.put, List.setIfInBounds_toArray, List.set_cons_zero, List.set_cons_succ]
                            repeat (first | (refine ordS (by rfl) ?_; simp only [Act.put, List.setIfInBounds_toArray, List.set_cons_zero, List.set_cons_succ]) | (refine ordN (by rfl) ?_; simp only [Act.put, List.setIfInBounds_toArray, List.set_cons_zero, List.set_cons_succ]) | (refine ordQ (v := ?_) (by rfl) (fun _ hSw => ?_) ?_; rotate_left; (focus ((have hS1 := hSw.1); (have hS2 := hSw.2.1); (have hS3 := hSw.2.2.1); (have hS4 := hSw.2.2.2); clear hSw; go_simp; (first | done | with_reducible rfl))); simp only [Act.put, List.setIfInBounds_toArray, List.set_cons_zero, List.set_cons_succ]))
                            refine ordE ?_
                            go_wp2
                            go_roundw
                            case rel => exact ⟨j + 1, by omega, by go_num, by rw [HR.out], hbd2⟩
                            case measure => simp [intOf]; omega
                          · rw [decide_eq_false hjS] at hrin
                            by_cases hcf : g - (zb - zp) < f
                            · have k1 : decide (g - (zb - zp) < f) = true := decide_eq_true hcf
                              have HR : Hid (farT l y.zs S (j + 1) = g - (zb - zp)) := Lib.hid (by rw [HFT.out, if_neg hjS]; omega)
                              clear hjS hcf
                              go_wp2_with fail
                              refine wp_region_ord (S := fun w' => w'.cell? ⟨w.heap.size, 1, none⟩ = some (.slice (some ⟨p2, q2, none⟩) x.n x.c) ∧ w'.cell? ⟨p2, q2 + i, none⟩ = some (.slice (some ⟨gb2, ob2, none⟩) u2.n u2.c) ∧ w'.cell? ⟨gb2, ob2 + j, none⟩ = some (.int .i64 zb) ∧ w'.cell? ⟨gy2, oy2 + j, none⟩ = some (.int .i64 zp)) [(0, true), (1, true), (2, false), (3, true), (4, true), (5, true), (6, true), (7, true), (8, true), (9, true), (10, true), (11, true), (12, true), (13, true), (14, true), (15, true), (16, true), (17, true), (18, true), (19, true), (20, true), (21, true), (22, true)] default (by kernel_rfl) (by kernel_rfl) (by kernel_rfl) (HS2.out _ hbd2) ?_
                              simp only [getOrd, nth]
                              repeat (first | (refine ordS (by rfl) ?_; simp only [Act.put, List.setIfInBounds_toArray, List.set_cons_zero, List.set_cons_succ]) | (refine ordN (by rfl) ?_; simp only [Act.put, List.setIfInBounds_toArray, List.set_cons_zero, List.set_cons_succ]) | (refine ordQ (v := ?_) (by rfl) (fun _ hSw => ?_) ?_; rotate_left; (focus ((have hS1 := hSw.1); (have hS2 := hSw.2.1); (have hS3 := hSw.2.2.1); (have hS4 := hSw.2.2.2); clear hSw; go_simp; (first | done | with_reducible rfl))); simp only [Act.put, List.setIfInBounds_toArray, List.set_cons_zero, List.set_cons_succ]))
                              refine ordD (by rfl) ?_
                              intro K hK
                              go_simp
                              refine hrin.mono ?_
                              rintro e w5 ⟨rfl, hw5⟩
                              replace hw5 := hw5.symm
                              subst hw5
                              clear hrin
                              go_wp2_with fail
                              refine hK _ _ (HS2.out _ hbd2) ?_
                              clear hK K
                              try simp only [Act.put, List.setIfInBounds_toArray, List.set_cons_zero, List.set_cons_succ]
                              repeat (first | (refine ordS (by rfl) ?_; simp only [Act.put, List.setIfInBounds_toArray, List.set_cons_zero, List.set_cons_succ]) | (refine ordN (by rfl) ?_; simp only [Act.put, List.setIfInBounds_toArray, List.set_cons_zero, List.set_cons_succ]) | (refine ordQ (v := ?_) (by rfl) (fun _ hSw => ?_) ?_; rotate_left; (focus ((have hS1 := hSw.1); (have hS2 := hSw.2.1); (have hS3 := hSw.2.2.1); (have hS4 := hSw.2.2.2); clear hSw; go_simp; (first | done | with_reducible rfl))); simp only [Act.put, List.setIfInBounds_toArray, List.set_cons_zero, List.set_cons_succ]))
                              refine ordE ?_
                              have hbd3 := hbd2.drew
                              go_wp2_with fail
                              refine wp_region_ord (S := fun w' => w'.cell? ⟨w.heap.size, 1, none⟩ = some (.slice (some ⟨p2, q2, none⟩) x.n x.c) ∧ w'.cell? ⟨p2, q2 + i, none⟩ = some (.slice (some ⟨gb2, ob2, none⟩) u2.n u2.c) ∧ w'.cell? ⟨gb2, ob2 + j, none⟩ = some (.int .i64 zb) ∧ w'.cell? ⟨gy2, oy2 + j, none⟩ = some (.int .i64 zp)) [(0, true), (1, true), (2, true), (3, true), (4, true), (5, true), (6, true), (7, true), (8, true), (9, true), (10, true), (11, true), (12, true), (13, true), (14, true), (15, true)] default (by kernel_rfl) (by kernel_rfl) (by kernel_rfl) (HS2.out _ hbd3) ?_
                              simp only [getOrd, nth]
                              repeat (first | (refine ordS (by rfl) ?_; simp only [Act.put, List.setIfInBounds_toArray, List.set_cons_zero, List.set_cons_succ]) | (refine ordN (by rfl) ?_; simp only [Act.put, List.setIfInBounds_toArray, List.set_cons_zero, List.set_cons_succ]) | (refine ordQ (v := ?_) (by rfl) (fun _ hSw => ?_) ?_; rotate_left; (focus ((have hS1 := hSw.1); (have hS2 := hSw.2.1); (have hS3 := hSw.2.2.1); (have hS4 := hSw.2.2.2); clear hSw; go_simp; (first | done | with_reducible rfl))); simp only [Act.put, List.setIfInBounds_toArray, List.set_cons_zero, List.set_cons_succ]))
                              refine ordE ?_
                              go_wp2
                              go_roundw
                              case rel => exact ⟨j + 1, by omega, by go_num, by rw [HR.out], hbd3⟩
                              case measure => simp [intOf]; omega
                            · have k1 : decide (g - (zb - zp) < f) = false := decide_eq_false hcf
                              have HR : Hid (farT l y.zs S (j + 1) = f) := Lib.hid (by rw [HFT.out, if_neg hjS]; omega)
                              clear hjS hcf
                              go_wp2_with fail
                              refine wp_region_ord (S := fun w' => w'.cell? ⟨w.heap.size, 1, none⟩ = some (.slice (some ⟨p2, q2, none⟩) x.n x.c) ∧ w'.cell? ⟨p2, q2 + i, none⟩ = some (.slice (some ⟨gb2, ob2, none⟩) u2.n u2.c) ∧ w'.cell? ⟨gb2, ob2 + j, none⟩ = some (.int .i64 zb) ∧ w'.cell? ⟨gy2, oy2 + j, none⟩ = some (.int .i64 zp)) [(0, true), (1, true), (2, false), (3, true), (4, true), (5, true), (6, true), (7, true), (8, true), (9, true), (10, true), (11, true), (12, true), (13, true), (14, true), (15, true), (16, true), (17, true), (18, true), (19, true), (20, true), (21, true), (22, true)] default (by kernel_rfl) (by kernel_rfl) (by kernel_rfl) (HS2.out _ hbd2) ?_
                              simp only [getOrd, nth]
                              repeat (first | (refine ordS (by rfl) ?_; simp only [Act.put, List.setIfInBounds_toArray, List.set_cons_zero, List.set_cons_succ]) | (refine ordN (by rfl) ?_; simp only [Act.put, List.setIfInBounds_toArray, List.set_cons_zero, List.set_cons_succ]) | (refine ordQ (v := ?_) (by rfl) (fun _ hSw => ?_) ?_; rotate_left; (focus ((have hS1 := hSw.1); (have hS2 := hSw.2.1); (have hS3 := hSw.2.2.1); (have hS4 := hSw.2.2.2); clear hSw; go_simp; (first | done | with_reducible rfl))); simp only [Act.put, List.setIfInBounds_toArray, List.set_cons_zero, List.set_cons_succ]))
                              refine ordD (by rfl) ?_
                              intro K hK
                              go_simp
                              refine hrin.mono ?_
                              rintro e w5 ⟨rfl, hw5⟩
                              replace hw5 := hw5.symm
                              subst hw5
                              clear hrin
                              go_wp2_with fail
                              refine hK _ _ (HS2.out _ hbd2) ?_
                              clear hK K
                              try simp only [Act.put, List.setIfInBounds_toArray, List.set_cons_zero, List.set_cons_succ]
                              repeat (first | (refine ordS (by rfl) ?_; simp only [Act.put, List.setIfInBounds_toArray, List.set_cons_zero, List.set_cons_succ]) | (refine ordN (by rfl) ?_; simp only [Act.put, List.setIfInBounds_toArray, List.set_cons_zero, List.set_cons_succ]) | (refine ordQ (v := ?_) (by rfl) (fun _ hSw => ?_) ?_; rotate_left; (focus ((have hS1 := hSw.1); (have hS2 := hSw.2.1); (have hS3 := hSw.2.2.1); (have hS4 := hSw.2.2.2); clear hSw; go_simp; (first | done | with_reducible rfl))); simp only [Act.put, List.setIfInBounds_toArray, List.set_cons_zero, List.set_cons_succ]))
                              refine ordE ?_
                              go_wp2
                              go_roundw
                              case rel => exact ⟨j + 1, by omega, by go_num, by rw [HR.out], hbd2⟩
                              case measure => simp [intOf]; omega
                        · obtain rfl : j = y.n := by omega
                          have HFA : Hid (farT l y.zs S y.n = farL l y.zs S) := Lib.hid (by rw [← HYL.out]; exact farT_all _ _ _)
                          rw [HFA.out]
                          obtain ⟨f, hf'⟩ : ∃ q, farL l y.zs S = q := ⟨_, rfl⟩
                          rw [hf'] at HTA ⊢
                          have hta := HTA.out
                          clear HTA hf'
                          by_cases q1 : by0 < 0
                          · have k1 : decide (by0 < 0) = true := decide_eq_true q1
                            have HR : Hid (byT (Ls.all x.b) y.zs S (k + 1) = f) := Lib.hid (by rw [hta, if_pos (.inl q1)])
                            clear q1 hta
                            go_wp2
                            rw [← HAY.out]
                            go_roundw
                            case rel => exact ⟨k + 1, by omega, by go_num, by rw [HR.out], hbj⟩
                            case measure => simp [intOf]; omega
                          have k1 : decide (by0 < 0) = false := decide_eq_false q1
                          by_cases q2 : f < by0
                          · have k2 : decide (f < by0) = true := decide_eq_true q2
                            have HR : Hid (byT (Ls.all x.b) y.zs S (k + 1) = f) := Lib.hid (by rw [hta, if_pos (.inr q2)])
                            clear q1 q2 hta
                            go_wp2
                            rw [← HAY.out]
                            go_roundw
                            case rel => exact ⟨k + 1, by omega, by go_num, by rw [HR.out], hbj⟩
                            case measure => simp [intOf]; omega
                          have k2 : decide (f < by0) = false := decide_eq_false q2
                          have HR : Hid (byT (Ls.all x.b) y.zs S (k + 1) = by0) := Lib.hid (by rw [hta, if_neg (fun h => h.elim q1 q2)])
                          clear q1 q2 hta
                          go_wp2
                          rw [← HAY.out]
                          go_roundw
                          case rel => exact ⟨k + 1, by omega, by go_num, by rw [HR.out], hbj⟩
                          case measure => simp [intOf]; omega
              · obtain rfl : k = ns := by omega
                have HBYE : Hid (byT (Ls.all x.b) y.zs S k = byL (Ls.all x.b) y.zs S) := Lib.hid (by rw [← HML.out]; exact HBYA.out)
                rw [HBYE.out]
                obtain ⟨z, hz⟩ : ∃ q, byL (Ls.all x.b) y.zs S = q := ⟨_, rfl⟩
                rw [hz] at HR3 HBYP HBYU ⊢
                have hz1 := HBYP.out
                have hz2 := HBYU.out
                have ho6 : OwnI wr w.heap.size ⟨some ⟨gO, 0, none⟩, y.n, co, outT y.zs S z 0⟩ := by rw [outT_zero]; exact ho5.below hbk
                have hf6 : Own wr w3.heap.size 3 Af S.length cf (ci64 S) := (hf4.below hbk).own
                have hB6 := hB4.trans (hbk.mono hB4.size)
                clear hz hbk ho5 hgr4 hx4 hy4 bx4 bxV hV4 hB4 hfrd
                go_wp2_with fail
                go_loopw [26] (fun v wr => ∃ j : Nat, j ≤ S.length ∧ v = .int .i64 j ∧ OwnI wr w.heap.size ⟨some ⟨gO, 0, none⟩, y.n, co, outT y.zs S z j⟩ ∧ Own wr w3.heap.size 3 Af S.length cf (ci64 S) ∧ Below w.heap.size w wr) (fun v _ => S.length - (intOf v).toNat)
                case atStart => exact ⟨0, Nat.zero_le _, rfl, ho6, hf6, hB6⟩
                case round =>
                  clear ho6 hf6 hB6
                  obtain ⟨j, hj, rfl, ho, hf, hB⟩ := hrel
                  have hj0 : (0 : Int) ≤ j := by omega
                  by_cases hjn : j < S.length
                  · have hjn' : (j : Int) < S.length := by omega
                    obtain ⟨hr1, hr2⟩ := HSR.out
                    have hrg := hr1 _ (List.getElem_mem hjn)
                    obtain ⟨s, hs⟩ : ∃ s : Nat, S[j] = (s : Int) := ⟨(S[j]).toNat, by omega⟩
                    rw [hs] at hrg
                    have hsn : s < y.n := by omega
                    have hsn' : (s : Int) < y.n := by omega
                    have hs0 : (0 : Int) ≤ s := by omega
                    have hsj : S[j]? = some (s : Int) := by rw [List.getElem?_eq_getElem hjn, hs]
                    have hnot : (s : Int) ∉ S.take j := fun hm => by
                      obtain ⟨q, hq, e⟩ := List.getElem_of_mem hm
                      rw [List.length_take] at hq
                      rw [List.getElem_take] at e
                      have := List.pairwise_iff_getElem.1 hr2 q j (by omega) hjn (by omega)
                      rw [hs, e] at this
                      omega
                    have hget := outT_get (p := y.zs) (S := S) (z := z) (j := j) (c := s) (by rw [HYL.out]; exact hsn) hnot
                    have hset := outT_set (p := y.zs) (z := z) hsj
                    have hpb := HPZ.out s hsn
                    obtain ⟨ps, hps⟩ : ∃ q, y.zs.getD s 0 = q := ⟨_, rfl⟩
                    rw [hps] at hget hset hpb
                    obtain ⟨gS, hAS, hgS, hcS⟩ := own_at13 hf (i := j) (v := .int .i64 (s : Int)) (by rw [ci64, List.getElem?_map, hsj]; rfl) hjn
                    have hcO : wr.cell? ⟨gO, s, none⟩ = some (.int .i64 ps) := by
                      have h5 := ho.own.cell (j := s) hsn
                      rw [show ci64 (outT y.zs S z j) = (outT y.zs S z j).map iV from rfl, List.getElem?_map, hget] at h5
                      exact h5
                    have hcOd : wr.drew.cell? ⟨gO, s, none⟩ = some (.int .i64 ps) := hcO
                    have hfr := ho.own.free hco s
                    have ho7 := (ownI_put13 (k := s) (z := ps + z) ho hco (by omega))
                    rw [hset] at ho7
                    have hf7 := own_keep13 (j := s) (v := .int .i64 (ps + z)) hf hgO4
                    have hB7 := (hB.setCell (p := ⟨gO, s, none⟩) hwO (.int .i64 (ps + z)))
                    have s4 : IntKind.i64.wrap (ps + z) = ps + z := by rw [IntKind.wrap_i64]; omega
                    have hgne : gS ≠ gO := fun e => by
                      rw [hAS] at hf
                      obtain ⟨g', hA', hlt, _⟩ := hf.lt (show 0 < cf by have h5 := hf.le; omega)
                      cases hA'
                      omega
                    have hS1 : ∀ w', w' = wr.drew → w'.cell? ⟨gS, j, none⟩ = some (.int .i64 (s : Int)) := fun w' e => by rw [e]; exact hcS
                    have hS0 := hS1 _ rfl
                    have hS9 : (wr.setCell ⟨gO, s, none⟩ (.int .i64 (ps + z))).drew.cell? ⟨gS, j, none⟩ = some (.int .i64 (s : Int)) := by
                      rw [hAS] at hf7
                      obtain ⟨g', hA', h6, h7⟩ := own_at13 hf7 (i := j) (v := .int .i64 (s : Int)) (by rw [ci64, List.getElem?_map, hsj]; rfl) hjn
                      cases hA'
                      exact h7
                    have ho8 : OwnI (wr.setCell ⟨gO, s, none⟩ (.int .i64 (ps + z))).drew w.heap.size ⟨some ⟨gO, 0, none⟩, y.n, co, outT y.zs S z (j + 1)⟩ := ⟨ho7.own.drew, ho7.fit⟩
                    have hf8 := hf7.drew
                    have hB8 := hB7.drew
                    rw [hAS] at hf8 ⊢
                    have HAS := Lib.hid hAS
                    clear hr1 hr2 hrg hs hsj hnot hget hset hps hcS hS1 ho7 hf7 hB7 ho hf hB hAS hcO
                    go_wp2_with fail
                    refine wp_region_ord (S := fun w' => w'.cell? ⟨gS, j, none⟩ = some (.int .i64 (s : Int))) [(0, true), (1, true), (2, true), (3, true), (4, true), (5, true), (6, true), (7, true), (8, true), (9, true), (10, true), (12, true), (11, false), (13, true), (14, true), (15, false)] default (by kernel_rfl) (by kernel_rfl) (by kernel_rfl) hS0 ?_
                    simp only [getOrd, nth]
                    repeat (first | (refine ordS (by rfl) ?_; simp only [Act.put, List.setIfInBounds_toArray, List.set_cons_zero, List.set_cons_succ]) | (refine ordN (by rfl) ?_; simp only [Act.put, List.setIfInBounds_toArray, List.set_cons_zero, List.set_cons_succ]) | (refine ordQ (v := ?_) (by rfl) (fun _ hSw => ?_) ?_; rotate_left; (focus ((have hS1 := hSw); clear hSw; go_simp; (first | done | with_reducible rfl))); simp only [Act.put, List.setIfInBounds_toArray, List.set_cons_zero, List.set_cons_succ]))
                    refine ordD (by rfl) ?_
                    intro K hK
                    go_simp
                    refine hK _ _ hS0 ?_
                    clear hK K
                    try simp only [Act.put, List.setIfInBounds_toArray, List.set_cons_zero, List.set_cons_succ]
                    repeat (first | (refine ordS (by rfl) ?_; simp only [Act.put, List.setIfInBounds_toArray, List.set_cons_zero, List.set_cons_succ]) | (refine ordN (by rfl) ?_; simp only [Act.put, List.setIfInBounds_toArray, List.set_cons_zero, List.set_cons_succ]) | (refine ordQ (v := ?_) (by rfl) (fun _ hSw => ?_) ?_; rotate_left; (focus ((have hS1 := hSw); clear hSw; go_simp; (first | done | with_reducible rfl))); simp only [Act.put, List.setIfInBounds_toArray, List.set_cons_zero, List.set_cons_succ]))
                    refine ordD (by rfl) ?_
                    intro K hK
                    go_simp
                    refine hK _ _ hS9 ?_
                    clear hK K
                    refine ordE ?_
                    clear hcOd hS0 hS9 hfr
                    go_wp2
                    go_roundw
                    case rel => exact ⟨j + 1, by omega, by go_num, ho8, by first | exact hf8 | (rw [HAS.out]; exact hf8), hB8⟩
                    case measure => simp [intOf]; omega
                  · obtain rfl : j = S.length := by omega
                    have hfin : OwnI wr w.heap.size ⟨some ⟨gO, 0, none⟩, y.n, co, OL⟩ := by rw [HR3.out, ← outT_all]; exact ho
                    clear ho hf
                    go_wp2
                    go_ret3
                    exact ⟨_, _, _, by rw [HR4.out, HE0.out]; try rfl, hfin, hB⟩
end Go.Proofs.YtdckoaljcklmhaaGreatDoor


namespace Go.Proofs.YtdckoaljcklmhaaGreatDoor
open Go.RowKit
set_option linter.unusedVariables false

theorem may_stepD {x : Mk} {p : List Int} (h : x.may = true) (h1 : LeP x.r.zs p) (h2 : LeP p (leastL x.r.zs (Ls.all x.b))) : mayS x p = true := by
  obtain ⟨q1, ⟨_, _, _⟩, q3, _⟩ := (mayM_iff _ _ _).1 h
  obtain ⟨k1, k2, _, k4⟩ := (mayB_iff _ _).1 q1
  have hr := may_rows h
  have hm := least_most (z := 1000000) hr (fun z hz => (k4 z hz).2) fun l hl z hz => by
    have := q3 l hl
    rw [bidB, Bool.or_eq_true, decide_eq_true_eq] at this
    rcases this with e | e
    · rw [e] at hz; cases hz
    · exact ((mayB_iff _ _).1 e).2.2.2 z hz |>.2
  refine mayS_iff.2 ⟨h, h1.1.symm, fun c hc => ?_⟩
  have a1 := h1.2 c (by rw [h1.1]; exact hc)
  have a2 := h2.2 c hc
  have hc2 : c < (leastL x.r.zs (Ls.all x.b)).length := by rw [← h2.1]; exact hc
  have a3 : (leastL x.r.zs (Ls.all x.b)).getD c 0 ≤ 1000000 := by
    rw [List.getD_eq_getElem?_getD, List.getElem?_eq_getElem hc2]; exact hm _ (List.getElem_mem hc2)
  omega
set_option maxRecDepth 100000 in
set_option maxHeartbeats 2000000 in
theorem rleastC : LeastC 11 := by
  intro x w hx
  obtain ⟨i0, hi0, hz0, hz1, hz2⟩ := info_parts info13_int
  have HRL := Lib.hid hx.r.len
  have rtop := Nat.le_trans hx.r.cap hx.r.top
  unfold maxLen at rtop
  have hxv : x.v = .agg #[.slice x.r.A x.r.n x.r.c, .slice x.A x.n x.c, .slice x.o.A x.o.n x.o.c] := rfl
  have Vx := Lib.hid hxv
  rw [hxv]
  clear hxv
  go_enter Tryz.func11, Tryz.ntmps11
  have bx := InBox.new w x
  have hbx : Below w.heap.size w (w.alloc (.cells #[.slice x.r.A x.r.n x.r.c, .slice x.A x.n x.c, .slice x.o.A x.o.n x.o.c] 25)) := (Below.refl _ w).alloc (Nat.le_refl _) _
  have ex0 := bx.c0
  have ex1 := bx.c1
  have ex2 := bx.c2
  obtain ⟨W, hW⟩ : ∃ q, x.may = q := ⟨_, rfl⟩
  have hc := rcheckC x (w.alloc (.cells #[.slice x.r.A x.r.n x.r.c, .slice x.A x.n x.c, .slice x.o.A x.o.n x.o.c] 25)) (hx.below hbx)
  rw [hW, Vx.out] at hc
  go_wp2_with fail
  clear ex0 ex1 ex2
  generalize w.alloc (.cells #[.slice x.r.A x.r.n x.r.c, .slice x.A x.n x.c, .slice x.o.A x.o.n x.o.c] 25) = W1 at *
  refine hc.mono ?_
  rintro e w1 ⟨rfl, hb1⟩
  clear hc
  have hB := hbx.trans (hb1.mono hbx.size)
  have bx1 := bx.below hb1
  clear hbx hb1 bx
  have ex0 := bx1.c0
  cases W
  · have HE1 : Hid (x.err = 1 ∧ leastE x = []) := Lib.hid (by simp [Mk.err, leastE, hW])
    clear hW
    go_wp2
    go_ret2
    exact ⟨none, 0, 0, by rw [HE1.out.1]; try rfl, by rw [HE1.out.2]; exact OwnI.nil _ _, hB⟩
  have HM := Lib.hid hW
  have HE0 : Hid (x.err = 0) := Lib.hid (by rw [Mk.err, if_pos hW])
  have HLE : Hid (leastE x = leastL x.r.zs (Ls.all x.b)) := Lib.hid (by rw [leastE, if_pos hW])
  obtain ⟨hM8, hM1, hn1, hn8⟩ : x.r.n ≤ 8 ∧ 1 ≤ x.r.n ∧ 1 ≤ x.n ∧ x.n ≤ 8 := ⟨(mk_len hx hW).1, (mk_len hx hW).2.1, (mk_len hx hW).2.2.1, (mk_len hx hW).2.2.2.1⟩
  have HBL : Hid ((Ls.all x.b).length = x.n) := Lib.hid (by rw [Ls.all, List.length_map, hx.len])
  have HRO := Lib.hid (may_rows hW)
  have HLST := Lib.hid (least_is HRO.out)
  have hrrd := (hx.r.below hB).rd
  have hrfit := hx.r.fit
  clear hW
  go_wp2_with (at_builtin; go_must (refine wpList_app w1 rfl _ _ 22 rfl 3 i0 _ 8 Tryz.underlying22 hi0 hz0 hz1 hz2 rfl w1.heap.size none 0 0 [] rfl (Own.none_ _ _ _ _) x.r.A x.r.n x.r.c (ci64 x.r.zs) rfl hrrd ?e1 ?e2 ?e3 ?e4 ?_))
  case e1 => intro u hu; obtain ⟨z, _, rfl⟩ := List.mem_map.1 hu; rfl
  case e2 => simp only [maxLen]; omega
  case e3 => omega
  try case e4 => exact Nat.le_refl _
  intro Ao co w3 hown3 hbel3 _ _
  have hB3 := hB.trans (hbel3.mono hB.size)
  have ho : OwnI w3 w.heap.size ⟨Ao, x.r.n, co, x.r.zs⟩ := (⟨by simpa using hown3, hrfit⟩ : OwnI w3 w1.heap.size ⟨Ao, x.r.n, co, x.r.zs⟩).mono hB.size
  have bx3 := bx1.below hbel3
  obtain ⟨ll, hll⟩ : ∃ q, leastL x.r.zs (Ls.all x.b) = q := ⟨_, rfl⟩
  have HLL := Lib.hid hll
  have hle0 : LeP x.r.zs ll := by rw [← hll]; exact HLST.out.le
  clear hown3 hbel3 hrrd hrfit ex0 bx1 hll hB
  go_wp2_with fail
  go_loopg [4] (sumP ll - sumP x.r.zs).toNat (fun f v wr => ∃ (A : Option Addr) (c : Nat) (p : List Int), v = .slice A x.r.n c ∧ OwnI wr w.heap.size ⟨A, x.r.n, c, p⟩ ∧ Hid (LeP x.r.zs p ∧ LeP p ll ∧ (sumP ll - sumP p).toNat ≤ f) ∧ InBox wr w.heap.size x ∧ Below w.heap.size w wr)
  case atStart => exact ⟨Ao, co, x.r.zs, rfl, ho, Lib.hid ⟨LeP.refl _, hle0, Nat.le_refl _⟩, bx3, hB3⟩
  case round =>
    clear ho bx3 hB3
    obtain ⟨A, c, p, rfl, hp, hinv, bx, hB⟩ := hrel
    obtain ⟨k1, k2, k3⟩ := hinv.out
    rw [← HLL.out] at k2
    have ms := may_stepD HM.out k1 k2
    have hrowp : RowsM p (Ls.all x.b) := fun l hl => by rw [← k1.1]; exact HRO.out l hl
    obtain ⟨q, hq⟩ : ∃ q, stepL (Ls.all x.b) p = q := ⟨_, rfl⟩
    obtain ⟨β, hβ⟩ : ∃ β, stepF (Ls.all x.b) p = β := ⟨_, rfl⟩
    have e1 : stepE x p = q := by rw [stepE, if_pos ms, hq]
    have e2 : stepB x p = β := by rw [stepB, ms, hβ]; rfl
    have e3 : stepErr x p = 0 := by rw [stepErr, if_pos ms]
    have hpl : p.length = x.r.n := by rw [← k1.1, HRL.out]
    have hql : q.length = x.r.n := by rw [← hq, stepL_len, hpl]
    have hle2 : LeP x.r.zs q := by
      rw [← hq]
      cases hf : fewS (Ls.all x.b) p with
      | none => rw [(stepL_none hf).1]; exact k1
      | some S => exact k1.trans (step_up hrowp hf).1
    have hlq : LeP q (leastL x.r.zs (Ls.all x.b)) := by rw [← hq]; exact stepL_le hrowp k2 (least_hall HRO.out)
    have HEND : Hid (β = false → p = ll) := Lib.hid fun h => by
      rw [← HLL.out]
      exact stepL_end HRO.out (by rw [HRL.out]; exact hM8) (by rw [HBL.out]; exact hn8) k1 k2 (by rw [hβ, h])
    have HDEC : Hid (β = true → sumP p < sumP q ∧ sumP q ≤ sumP ll) := Lib.hid fun h => by
      refine ⟨?_, by rw [← HLL.out]; exact sumP_le hlq⟩
      cases hf : fewS (Ls.all x.b) p with
      | none => rw [(stepL_none hf).2] at hβ; rw [← hβ] at h; cases h
      | some S => rw [← hq]; exact step_sum hrowp hf
    rw [HLL.out] at hlq
    have HINV := Lib.hid (And.intro hle2 hlq)
    have HK3 := Lib.hid k3
    have hst := rstepC x ⟨A, x.r.n, c, p⟩ wr (hx.below hB) hp.ok
    rw [e1, e2, e3, Vx.out, show Ls.v ⟨A, x.r.n, c, p⟩ = .slice A x.r.n c from rfl] at hst
    have ex0 := bx.c0
    have ex1 := bx.c1
    have ex2 := bx.c2
    clear k1 k2 k3 ms hrowp hq hβ e1 e2 e3 hpl hle2 hlq hinv
    go_wp2_with fail
    clear ex0 ex1 ex2
    refine hst.mono ?_
    rintro e w4 ⟨A4, n4, c4, rfl, h4, hb4⟩
    clear hst
    obtain rfl : n4 = x.r.n := by have h5 := h4.len; simp only at h5; rw [hql] at h5; exact h5.symm
    have hB4 := hB.trans (hb4.mono hB.size)
    have hp4 := hp.below hb4
    have bx4 := bx.below hb4
    have h44 := h4.mono hB.size
    clear hp bx hB hb4 h4 hql
    cases β
    · have hr := HEND.out rfl
      have HR : Hid (leastE x = p) := Lib.hid (by rw [HLE.out, HLL.out, hr])
      clear hr HEND HDEC
      go_wp2
      go_ret2
      exact ⟨_, _, _, by rw [HE0.out]; try rfl, by rw [HR.out]; exact hp4, hB4⟩
    · obtain ⟨d1, d2⟩ := HDEC.out rfl
      have HD := Lib.hid (And.intro d1 d2)
      clear HEND HDEC d1 d2
      have hdd : (sumP ll - sumP q).toNat < (sumP ll - sumP p).toNat := by have := HD.out; omega
      have hinv2 : Hid (LeP x.r.zs q ∧ LeP q ll ∧ (sumP ll - sumP q).toNat ≤ (sumP ll - sumP q).toNat) := Lib.hid ⟨HINV.out.1, HINV.out.2, Nat.le_refl _⟩
      have hk3 := HK3.out
      go_wp2
      go_roundg (sumP ll - sumP q).toNat
      case measure => omega
      case rel => exact ⟨A4, c4, q, rfl, h44, hinv2, bx4, hB4⟩
end Go.Proofs.YtdckoaljcklmhaaGreatDoor

