/-
  Proved: salesroomlaw08.MatchingsAll answers true, for any lists, any items, any some, any part, in whatever memory. No conditions.
-/
import Derived.Test.YtcjfgkihmhdhlaaRows
import Derived.Test.YtcjfgkihmhdhlaaLift
import Derived.Test.YtcjfgkihmhdhlaaAlive8
import Derived.Test.YtcjfgkihmhdhlaaGrM
import Derived.Test.YtcjfgkihmhdhlaaMaP
import Derived.Test.YtcjfgkihmhdhlaaGrWi
import Derived.Test.YtcjfgkihmhdhlaaReg
namespace Go.Proofs.Ytcjfgkihmhdhlaa.matchingsAll
open Go.ChangeShapes Go.WideShapes Go.ChangeAt Go.RowKit
set_option linter.unusedVariables false

/-- Those of the first j of some whose bit is set. -/
def lessL (y : Nat) (zs : List Int) : Nat → List Int
  | 0 => []
  | j + 1 => lessL y zs j ++ if y.testBit j = true then [zs.getD j 0] else []
theorem lessL_sub (y : Nat) (zs : List Int) : ∀ j, j ≤ zs.length → (lessL y zs j).Sublist (zs.take j)
  | 0, _ => List.Sublist.refl _
  | j + 1, h => by
    rw [lessL, List.take_succ_eq_append_getElem (by omega)]
    refine List.Sublist.append (lessL_sub y zs j (by omega)) ?_
    have : zs.getD j 0 = zs[j]'(by omega) := by rw [List.getD_eq_getElem?_getD, List.getElem?_eq_getElem (by omega)]; rfl
    rw [this]
    split
    · exact List.Sublist.refl _
    · exact List.nil_sublist _
theorem lessL_len (y : Nat) (zs : List Int) {j : Nat} (h : j ≤ zs.length) : (lessL y zs j).length ≤ j := by
  have := (lessL_sub y zs j h).length_le
  rw [List.length_take] at this
  omega
theorem all_ok {g : List (List Int)} {m : Nat} {s : List Int} (h : nearOk g m s = true) : allE g m s = allB g m s := by simp [allE, h]
theorem all_bad {g : List (List Int)} {m : Int} {s : List Int} (h : nearOk g m s = false) : allE g m s = false := by simp [allE, h]

set_option maxRecDepth 100000 in
set_option maxHeartbeats 4000000 in
theorem walk (x : Gr) (m : Int) (A1 : Option Addr) (n1 c1 : Nat) (zs : List Int) (y : Nat) (w : World) (h : x.Ok w) (hm1 : -9223372036854775808 ≤ m) (hm2 : m ≤ 9223372036854775807) (h1 : Ls.Ok w ⟨A1, n1, c1, zs⟩) (hy : y < 256) :
    Calls Try.prog 4 #[.agg #[x.v, .int .i64 m], .slice A1 n1 c1, .int .u8 y] w fun e w' => e = .returned (.bool true) ∧ Below w.heap.size w w' := by
  have hx := h
  have hB := Below.refl w.heap.size w
  have hxv : x.v = .slice x.A x.n x.c := rfl
  have Vx := Lib.hid hxv
  rw [hxv]
  have hgl := h.glen
  have HGL := Lib.hid hgl
  have htop := Nat.le_trans h.cap h.top
  unfold maxLen at htop
  obtain ⟨B, hB0⟩ : ∃ B, nearOk x.g m zs = B := ⟨_, rfl⟩
  clear hxv hgl h
  have HZL : Hid (zs.length = n1) := Lib.hid h1.len
  go_enter Try.func4, Try.ntmps4
  have bg := GBox.new w x m
  have hbx : Below w.heap.size w (w.alloc (.cells #[.slice x.A x.n x.c, .int .i64 m] 24)) := (Below.refl _ w).alloc (Nat.le_refl _) _
  replace hx := hx.below hbx
  replace h1 := h1.below hbx
  replace hB := hB.trans (hbx.mono hB.size)
  clear hbx
  cases B
  · have E1 := Lib.hid (all_bad hB0)
    have E2 := Lib.hid (near_err_bad hB0)
    clear hB0
    have eg0 := bg.c0
    have eg1 := bg.c1
    have hc := pallC x m ⟨A1, n1, c1, zs⟩ (w.alloc (.cells #[.slice x.A x.n x.c, .int .i64 m] 24)) hx h1 hm1 hm2
    rw [Vx.out, E1.out, E2.out] at hc
    go_wp2_with fail
    clear eg0 eg1
    generalize w.alloc (.cells #[.slice x.A x.n x.c, .int .i64 m] 24) = W1 at *
    refine hc.mono ?_
    rintro e v2 ⟨rfl, hb⟩
    clear hc
    replace hx := hx.below hb
    replace h1 := h1.below hb
    replace bg := bg.below hb
    replace hB := hB.trans (hb.mono hB.size)
    clear hb
    have eg0 := bg.c0
    have eg1 := bg.c1
    have hc := alive8_any v2
    go_wp2_with fail
    clear eg0 eg1
    refine hc.mono ?_
    rintro e v3 ⟨rfl, hb⟩
    clear hc
    replace hx := hx.below hb
    replace h1 := h1.below hb
    replace bg := bg.below hb
    replace hB := hB.trans (hb.mono hB.size)
    clear hb
    have eg0 := bg.c0
    have eg1 := bg.c1
    go_wp2
    go_ret
    exact ⟨rfl, hB⟩
  · have hck : checkG x.g m = true := by rw [nearOk, Bool.and_eq_true] at hB0; exact hB0.1
    have hrs : Rises x.g.length zs := by rw [nearOk, Bool.and_eq_true] at hB0; exact of_decide_eq_true hB0.2
    obtain ⟨M, rfl⟩ : ∃ M : Nat, m = M := ⟨m.toNat, by have := (checkG_iff.1 hck).1; omega⟩
    have E1 := Lib.hid (all_ok hB0)
    have E2 := Lib.hid (near_err hB0)
    have hM8 : M ≤ 8 := by have := (checkG_iff.1 hck).2.1; omega
    have hx8 : x.n ≤ 8 := by have := (checkG_iff.1 hck).2.2.1; rw [HGL.out] at this; exact this
    have hzn : n1 ≤ x.n := by have := rises_len hrs; rw [HGL.out, HZL.out] at this; exact this
    -- the rows of these
    obtain ⟨t, ht⟩ : ∃ t, t = zs.map (fun i => x.t.getD i.toNat Ls.nil) := ⟨_, rfl⟩
    have htl : t.length = n1 := by rw [ht, List.length_map, HZL.out]
    have hmem : ∀ z ∈ zs, ∃ v, x.t[z.toNat]? = some v ∧ z.toNat < x.n ∧ (z.toNat : Int) = z := by
      intro z hz
      have h1 := hrs.1 z hz
      rw [HGL.out] at h1
      have h2 : z.toNat < x.n := by omega
      exact ⟨_, List.getElem?_eq_getElem (by rw [hx.len]; exact h2), h2, by omega⟩
    have hokt : ∀ v ∈ t, v ∈ x.t := by
      intro v hv
      rw [ht] at hv
      obtain ⟨z, hz, rfl⟩ := List.mem_map.1 hv
      obtain ⟨v, h1, h2, _⟩ := hmem z hz
      rw [List.getD_eq_getElem?_getD, h1]
      exact List.mem_of_getElem? h1
    have hall : Ls.all t = rowsG x.g zs := by
      rw [ht, Ls.all, List.map_map]
      refine List.map_congr_left fun z hz => ?_
      obtain ⟨v, h1, h2, _⟩ := hmem z hz
      show (x.t.getD z.toNat Ls.nil).zs = _
      rw [List.getD_eq_getElem?_getD, h1, List.getD_eq_getElem?_getD, Gr.g, Ls.all, List.getElem?_map, h1]
      rfl
    have hnext : ∀ j (hj : j < zs.length), ∃ (a : Nat) (v : Ls), zs[j] = a ∧ x.t[a]? = some v ∧ a < x.n ∧ t[j]? = some v := by
      intro j hj
      obtain ⟨v, h1, h2, h3⟩ := hmem _ (List.getElem_mem hj)
      refine ⟨zs[j].toNat, v, h3.symm, h1, h2, ?_⟩
      rw [ht, List.getElem?_map, List.getElem?_eq_getElem hj]
      show some (x.t.getD zs[j].toNat Ls.nil) = some v
      rw [List.getD_eq_getElem?_getD, h1]; rfl
    have hrc := rows_check hck hrs
    obtain ⟨e3, e4⟩ := most_ok hrc
    have hl3 : (mostP (rowsG x.g zs) M).length = n1 := by rw [most_len hrc, rowsG_len, HZL.out]
    have hls : (lessL y zs n1).Sublist zs := by
      have := lessL_sub y zs n1 (by rw [HZL.out]; exact Nat.le_refl _)
      rwa [List.take_of_length_le (by rw [HZL.out]; exact Nat.le_refl _)] at this
    have hrl : Rises x.g.length (lessL y zs n1) := ⟨fun x hx => hrs.1 x (hls.mem hx), hrs.2.sublist hls⟩
    have hol : nearOk x.g M (lessL y zs n1) = true := nearOk_of hck hrl
    have e5 := all_ok hol
    have e6 := near_err (m := (M : Int)) hol
    have hpart : allB x.g M zs = true → allB x.g M (lessL y zs n1) = true := all_part hck hrs hls
    obtain ⟨D, hD⟩ : ∃ D, allB x.g M zs = D := ⟨_, rfl⟩
    obtain ⟨D2, hD2⟩ : ∃ D, allB x.g M (lessL y zs n1) = D := ⟨_, rfl⟩
    rw [hD, hD2] at hpart
    rw [hD] at E1
    rw [hD2] at e5
    have hDk : D = decide (manyG (mostP (rowsG x.g zs) M) = zs.length) := hD.symm
    rw [HZL.out] at hDk
    obtain ⟨l3, hl3q⟩ : ∃ l, mostP (rowsG x.g zs) M = l := ⟨_, rfl⟩
    rw [hl3q] at hDk e4 hl3
    obtain ⟨k, hk⟩ : ∃ k, manyG l3 = k := ⟨_, rfl⟩
    rw [hk] at hDk
    have HK := Lib.hid hk
    have HDK : Hid (((k : Int) == (n1 : Int)) = D) := Lib.hid (by rw [hDk, Bool.eq_iff_iff, beq_iff_eq, decide_eq_true_eq]; omega)
    have HPT := Lib.hid hpart
    have HT := Lib.hid htl
    have HOKT := Lib.hid hokt
    have HALL := Lib.hid hall
    have HNX := Lib.hid hnext
    have E3 := Lib.hid e3
    have E4 := Lib.hid e4
    have E5 := Lib.hid e5
    have E6 := Lib.hid e6
    have HL3 := Lib.hid hl3
    have HRS := Lib.hid hrs
    clear hB0 hck hrs ht htl hmem hokt hall hnext hrc e3 e4 e5 e6 hl3 hls hrl hol hpart hD hD2 hDk hl3q hk hm1 hm2
    have eg0 := bg.c0
    have eg1 := bg.c1
    have hc := pallC x M ⟨A1, n1, c1, zs⟩ (w.alloc (.cells #[.slice x.A x.n x.c, .int .i64 (M : Int)] 24)) hx h1 (by omega) (by omega)
    rw [Vx.out, E1.out, E2.out] at hc
    go_wp2_with fail
    clear eg0 eg1
    generalize w.alloc (.cells #[.slice x.A x.n x.c, .int .i64 (M : Int)] 24) = W1 at *
    refine hc.mono ?_
    rintro e v2 ⟨rfl, hb⟩
    clear hc
    replace hx := hx.below hb
    replace h1 := h1.below hb
    replace bg := bg.below hb
    replace hB := hB.trans (hb.mono hB.size)
    clear hb
    have gl8 : decide ((8 : Int) < (n1 : Int)) = false := decide_eq_false (by omega)
    have gl8' : decide (8 < n1) = false := decide_eq_false (by omega)
    obtain ⟨i0, hi0, hz0, hz1, hz2⟩ := info_parts infoM_int
    obtain ⟨i1, hi1, hy0, hy1, hy2⟩ := info_parts infoM_ints
    have eg0 := bg.c0
    have eg1 := bg.c1
    go_wp2_with fail
    clear eg0 eg1
    go_loopw [9, 10, 11] (fun o l v wr => ∃ (j : Nat) (Ag : Option Addr) (cg : Nat) (Al : Option Addr) (nl cl : Nat), j ≤ n1 ∧ v = .int .i64 j ∧ o = .slice Ag j cg ∧ l = .slice Al nl cl ∧ Own wr v2.heap.size 25 Ag j cg ((t.take j).map Ls.v) ∧ OwnI wr v2.heap.size ⟨Al, nl, cl, lessL y zs j⟩ ∧ Below v2.heap.size v2 wr) (fun _ _ v _ => n1 - (intOf v).toNat)
    case atStart => exact ⟨0, none, 0, none, 0, 0, Nat.zero_le _, rfl, rfl, rfl, Own.none_ _ _ _ _, OwnI.nil _ _, Below.refl _ _⟩
    case round =>
      obtain ⟨j, Ag, cg, Al, nl, cl, hj, rfl, rfl, rfl, hog, hol, hbel⟩ := hrel
      have hBr := hB.trans (hbel.mono hB.size)
      by_cases hjn : j < n1
      · have hjn' : (j : Int) < n1 := by omega
        have hjz : j < zs.length := by rw [HZL.out]; exact hjn
        obtain ⟨p1, q1, hA1, hp1, y0, hy0', hcy⟩ := h1.rd.get hjn
        simp only at hA1
        subst hA1
        rw [ci64_get _ _ hjz] at hy0'
        obtain rfl : iV zs[j] = y0 := Option.some.inj hy0'
        unfold iV at hcy
        obtain ⟨a, v, ha, hv, han, htv⟩ := HNX.out j hjz
        rw [ha] at hcy
        obtain ⟨p2, q2, v', hA2, hv', _, hp2, hcv, hkv⟩ := hx.get han
        rw [hv] at hv'
        cases hv'
        unfold Ls.v at hcv
        have han' : (a : Int) < x.n := by omega
        have ha0 : (0 : Int) ≤ a := by omega
        have g0 : decide ((a : Int) < 0) = false := decide_eq_false (by omega)
        have g1 : decide ((x.n : Int) ≤ (a : Int)) = false := decide_eq_false (by omega)
        have g1' : decide (x.n ≤ a) = false := decide_eq_false (by omega)
        have hbit := bit_u8 y j hy
        have hgd : zs.getD j 0 = (a : Int) := by rw [List.getD_eq_getElem?_getD, List.getElem?_eq_getElem hjz]; exact ha
        have hlsu : lessL y zs (j + 1) = lessL y zs j ++ if y.testBit j = true then [(a : Int)] else [] := by rw [lessL, hgd]
        have htk : (t.take (j + 1)).map Ls.v = (t.take j).map Ls.v ++ [.slice v.A v.n v.c] := by
          have hjt := (List.getElem?_eq_some_iff.1 htv).1
          rw [List.take_succ_eq_append_getElem hjt, (List.getElem?_eq_some_iff.1 htv).2, List.map_append]; rfl
        have HTK := Lib.hid htk
        have HLS := Lib.hid hlsu
        have hnl : nl ≤ 8 := by
          have h1 := hol.len
          have h2 := lessL_len y zs (j := j) (by omega)
          have h3 : (lessL y zs j).length = nl := h1
          omega
        clear hy0' ha hv htv hgd hlsu htk hkv
        have hg0 : ∀ w', Below v2.heap.size v2 w' → w'.cell? ⟨w.heap.size, 0, none⟩ = some (.slice (some ⟨p2, q2, none⟩) x.n x.c) := fun w' hb => by rw [← hA2]; exact (bg.below hb).c0
        clear hBr hA2
        have hS : ∀ w', Below v2.heap.size v2 w' → w'.cell? ⟨p1, q1 + j, none⟩ = some (.int .i64 (a : Int)) ∧ w'.cell? ⟨w.heap.size, 0, none⟩ = some (.slice (some ⟨p2, q2, none⟩) x.n x.c) := fun w' hb => ⟨(hb.cell (p := ⟨p1, q1 + j, none⟩) hp1).trans hcy, hg0 _ hb⟩
        go_wp2_with fail
        refine wp_region_ord (S := fun w' => w'.cell? ⟨p1, q1 + j, none⟩ = some (.int .i64 (a : Int)) ∧ w'.cell? ⟨w.heap.size, 0, none⟩ = some (.slice (some ⟨p2, q2, none⟩) x.n x.c)) [(0, true), (1, true), (2, true), (3, true), (4, true), (5, true), (6, true), (7, true), (8, true), (9, true), (10, true), (11, true), (12, true), (13, true), (14, true)] default (by kernel_rfl) (by kernel_rfl) (by kernel_rfl) (hS _ (hbel.drew)) ?_
        simp only [getOrd, nth]
        obtain ⟨q1_0, hu0⟩ : ∃ q1_0, q1_0 = wr.drew := ⟨_, rfl⟩
        have b0 : Below v2.heap.size v2 q1_0 := by rw [hu0]; exact (hbel.drew)
        rw [← hu0]
        replace hog := hog.drew
        rw [← hu0] at hog
        replace hol := hol.drew
        rw [← hu0] at hol
        clear hu0
        repeat (first | (refine ordS (by rfl) ?_; simp only [Act.put, List.setIfInBounds_toArray, List.set_cons_zero, List.set_cons_succ]) | (refine ordN (by rfl) ?_; simp only [Act.put, List.setIfInBounds_toArray, List.set_cons_zero, List.set_cons_succ]) | (refine ordQ (v := ?_) (by rfl) (fun _ hSw => ?_) ?_; rotate_left; (focus ((have hS1 := hSw.1); (have hS2 := hSw.2); clear hSw; go_simp; (first | done | with_reducible rfl))); simp only [Act.put, List.setIfInBounds_toArray, List.set_cons_zero, List.set_cons_succ]))
        refine ordE ?_
        replace hbel := b0
        clear hS b0
        go_wp2_with fail
        have hS : ∀ w', Below v2.heap.size v2 w' → w'.cell? ⟨p1, q1 + j, none⟩ = some (.int .i64 (a : Int)) ∧ w'.cell? ⟨w.heap.size, 0, none⟩ = some (.slice (some ⟨p2, q2, none⟩) x.n x.c) ∧ w'.cell? ⟨p2, q2 + a, none⟩ = some (.slice v.A v.n v.c) := fun w' hb => ⟨(hb.cell (p := ⟨p1, q1 + j, none⟩) hp1).trans hcy, hg0 _ hb, (hb.cell (p := ⟨p2, q2 + a, none⟩) hp2).trans hcv⟩
        go_wp2_with fail
        refine wp_region_ord (S := fun w' => w'.cell? ⟨p1, q1 + j, none⟩ = some (.int .i64 (a : Int)) ∧ w'.cell? ⟨w.heap.size, 0, none⟩ = some (.slice (some ⟨p2, q2, none⟩) x.n x.c) ∧ w'.cell? ⟨p2, q2 + a, none⟩ = some (.slice v.A v.n v.c)) [(0, true), (1, true), (2, true), (3, true), (4, true), (5, true), (6, true), (7, true), (8, true), (9, false), (10, false), (11, true)] default (by kernel_rfl) (by kernel_rfl) (by kernel_rfl) (hS _ (hbel.drew)) ?_
        simp only [getOrd, nth]
        obtain ⟨q2_0, hu0⟩ : ∃ q2_0, q2_0 = q1_0.drew := ⟨_, rfl⟩
        have b0 : Below v2.heap.size v2 q2_0 := by rw [hu0]; exact (hbel.drew)
        rw [← hu0]
        replace hog := hog.drew
        rw [← hu0] at hog
        replace hol := hol.drew
        rw [← hu0] at hol
        clear hu0
        repeat (first | (refine ordS (by rfl) ?_; simp only [Act.put, List.setIfInBounds_toArray, List.set_cons_zero, List.set_cons_succ]) | (refine ordN (by rfl) ?_; simp only [Act.put, List.setIfInBounds_toArray, List.set_cons_zero, List.set_cons_succ]) | (refine ordQ (v := ?_) (by rfl) (fun _ hSw => ?_) ?_; rotate_left; (focus ((have hS1 := hSw.1); (have hS2 := hSw.2.1); (have hS3 := hSw.2.2); clear hSw; go_simp; (first | done | with_reducible rfl))); simp only [Act.put, List.setIfInBounds_toArray, List.set_cons_zero, List.set_cons_succ]))
        refine ordD (by rfl) ?_
        intro K hK
        go_simp
        have hbb : Below q2_0.heap.size q2_0 (q2_0.alloc (.cells #[.slice v.A v.n v.c] 25)) := (Below.refl _ q2_0).alloc (Nat.le_refl _) _
        have b1 : Below v2.heap.size v2 (q2_0.alloc (.cells #[.slice v.A v.n v.c] 25)) := b0.trans (hbb.mono b0.size)
        refine hK _ _ (hS _ b1) ?_
        clear hK K
        try simp only [Act.put, List.setIfInBounds_toArray, List.set_cons_zero, List.set_cons_succ]
        repeat (first | (refine ordS (by rfl) ?_; simp only [Act.put, List.setIfInBounds_toArray, List.set_cons_zero, List.set_cons_succ]) | (refine ordN (by rfl) ?_; simp only [Act.put, List.setIfInBounds_toArray, List.set_cons_zero, List.set_cons_succ]) | (refine ordQ (v := ?_) (by rfl) (fun _ hSw => ?_) ?_; rotate_left; (focus ((have hS1 := hSw.1); (have hS2 := hSw.2.1); (have hS3 := hSw.2.2); clear hSw; go_simp; (first | done | with_reducible rfl))); simp only [Act.put, List.setIfInBounds_toArray, List.set_cons_zero, List.set_cons_succ]))
        refine ordD (by rfl) ?_
        intro K hK
        have hlr : Rd (q2_0.alloc (.cells #[.slice v.A v.n v.c] 25)) (some ⟨q2_0.heap.size, 0, none⟩) 1 [.slice v.A v.n v.c] := (Own.lit (B := 0) q2_0 25 #[.slice v.A v.n v.c] 1 (Nat.zero_le _) rfl (by unfold maxLen; omega)).rd
        have hsz1 := b1.size
        refine wp_app (q2_0.alloc (.cells #[.slice v.A v.n v.c] 25)) _ _ 22 rfl 25 i1 _ 24 Try.underlying22 hi1 hy0 hy1 hy2 rfl v2.heap.size Ag j cg _ rfl (hog.below hbb) _ 1 1 [.slice v.A v.n v.c] rfl hlr ?a11 ?a12 ?a13 ?a14 ?_
        case a11 => intro u hu; rw [List.mem_singleton.1 hu]; rfl
        case a12 => simp only [maxLen]; omega
        case a13 => omega
        try case a14 => omega
        intro A9 c9 q2_2 hown9 hbel9 hfr9 hat9
        have hog2 : Own q2_2 v2.heap.size 25 A9 (j + 1) c9 ((t.take (j + 1)).map Ls.v) := by rw [HTK.out]; exact hown9
        have hol2 : OwnI q2_2 v2.heap.size ⟨Al, nl, cl, lessL y zs j⟩ := (hol.below hbb).app (hog.below hbb) hfr9
        have b2 : Below v2.heap.size v2 q2_2 := b1.trans hbel9
        go_simp
        refine hK _ _ (hS _ b2) ?_
        clear hK K hbb hlr hown9 hbel9 hfr9 hat9
        try simp only [Act.put, List.setIfInBounds_toArray, List.set_cons_zero, List.set_cons_succ]
        repeat (first | (refine ordS (by rfl) ?_; simp only [Act.put, List.setIfInBounds_toArray, List.set_cons_zero, List.set_cons_succ]) | (refine ordN (by rfl) ?_; simp only [Act.put, List.setIfInBounds_toArray, List.set_cons_zero, List.set_cons_succ]) | (refine ordQ (v := ?_) (by rfl) (fun _ hSw => ?_) ?_; rotate_left; (focus ((have hS1 := hSw.1); (have hS2 := hSw.2.1); (have hS3 := hSw.2.2); clear hSw; go_simp; (first | done | with_reducible rfl))); simp only [Act.put, List.setIfInBounds_toArray, List.set_cons_zero, List.set_cons_succ]))
        refine ordE ?_
        replace hbel := b2
        clear hS b0 b1 b2
        have hcw := (hbel.cell (p := ⟨p1, q1 + j, none⟩) hp1).trans hcy
        obtain ⟨β, hβ⟩ : ∃ β, y.testBit j = β := ⟨_, rfl⟩
        rw [hβ] at hbit HLS
        clear hβ
        cases β
        · have hol3 : OwnI q2_2 v2.heap.size ⟨Al, nl, cl, lessL y zs (j + 1)⟩ := by rw [HLS.out]; simpa using hol2
          clear hog hol hol2 HLS HTK
          go_wp2
          go_roundw
          case rel => exact ⟨j + 1, A9, c9, Al, nl, cl, by omega, by go_num, rfl, rfl, hog2, hol3, hbel⟩
          case measure => simp [intOf]; omega
        · have hszq := hbel.size
          clear hog hol
          go_wp2_with (at_builtin; go_must (refine wpList_app1 q2_2 rfl _ _ 25 rfl 3 i0 _ 8 Try.underlying25 hi0 hz0 hz1 hz2 rfl v2.heap.size Al nl cl _ rfl hol2.own 1 rfl rfl ?d3 ?d4 ?d5 ?_))
          case d3 => simp only [maxLen]; omega
          case d4 => omega
          try case d5 => exact hszq
          intro A7 c7 w7 hown7 hbel7 hfr7 hat7
          have hol3 : OwnI w7 v2.heap.size ⟨A7, nl + 1, c7, lessL y zs (j + 1)⟩ := by
            refine ⟨?_, fun z hz => ?_⟩
            · show Own w7 v2.heap.size _ A7 (nl + 1) c7 (ci64 (lessL y zs (j + 1)))
              rw [HLS.out, if_pos trivial, ci64_snoc6]; exact hown7
            · have h5 := HRS.out.1 z ((lessL_sub y zs (j + 1) (by rw [HZL.out]; omega)).mem hz |> List.mem_of_mem_take)
              rw [HGL.out] at h5
              omega
          have hog3 : Own w7 v2.heap.size 25 A9 (j + 1) c9 ((t.take (j + 1)).map Ls.v) := hog2.other hol2.own (by decide) (fun k hk hh => hfr7 k hk (by simpa using hh))
          have hbel3 := hbel.trans hbel7
          clear hown7 hbel7 hfr7 hat7 hog2 hol2 HLS HTK hbel
          go_wp2
          go_roundw
          case rel => exact ⟨j + 1, A9, c9, A7, nl + 1, c7, by omega, by go_num, rfl, rfl, hog3, hol3, hbel3⟩
          case measure => simp [intOf]; omega
      · obtain rfl : j = n1 := by omega
        rw [List.take_of_length_le (by rw [HT.out]; exact Nat.le_refl _)] at hog
        have hxr := hx.below hbel
        have h1r := h1.below hbel
        have bgr := bg.below hbel
        have hGR : ∀ W, Own W v2.heap.size 25 Ag j cg (t.map Ls.v) → x.Ok W → Gr.Ok W ⟨Ag, j, cg, t⟩ := fun W ho hxw => lss_own ho fun v hv => hxw.lss.ok v (HOKT.out v hv)
        have hB := hBr
        have hnl : nl ≤ 8 := by
          have h1 := hol.len
          have h2 := lessL_len y zs (j := j) (by rw [HZL.out]; exact Nat.le_refl _)
          have h3 : (lessL y zs j).length = nl := h1
          omega
        clear hBr
        have eg0 := bgr.c0
        have eg1 := bgr.c1
        have hc := pmostC ⟨Ag, j, cg, t⟩ M wr (hGR _ hog hxr) (by omega) (by omega)
        rw [show Gr.v ⟨Ag, j, cg, t⟩ = .slice Ag j cg from rfl, show Gr.g ⟨Ag, j, cg, t⟩ = rowsG x.g zs from HALL.out, E3.out, E4.out] at hc
        go_wp2_with fail
        clear eg0 eg1
        refine hc.mono ?_
        rintro e v3 ⟨A3, n3, c3, rfl, h3, hb⟩
        clear hc
        replace hxr := hxr.below hb
        replace h1r := h1r.below hb
        replace hog := hog.below hb
        replace hol := hol.below hb
        replace bgr := bgr.below hb
        replace hB := hB.trans (hb.mono hB.size)
        clear hb
        obtain rfl : n3 = j := by have := h3.len; rw [← HL3.out]; exact this.symm
        have eg0 := bgr.c0
        have eg1 := bgr.c1
        have hc := pallC x M ⟨Al, nl, cl, lessL y zs n3⟩ v3 hxr hol.ok (by omega) (by omega)
        rw [Vx.out, E5.out, E6.out, show Ls.v ⟨Al, nl, cl, lessL y zs n3⟩ = .slice Al nl cl from rfl] at hc
        go_wp2_with fail
        clear eg0 eg1
        refine hc.mono ?_
        rintro e v4 ⟨rfl, hb⟩
        clear hc
        replace hxr := hxr.below hb
        replace h1r := h1r.below hb
        replace hog := hog.below hb
        replace hol := hol.below hb
        replace h3 := h3.below hb
        replace bgr := bgr.below hb
        replace hB := hB.trans (hb.mono hB.size)
        clear hb
        have eg0 := bgr.c0
        have eg1 := bgr.c1
        have hc := alive8_any v4
        go_wp2_with fail
        clear eg0 eg1
        refine hc.mono ?_
        rintro e v5 ⟨rfl, hb⟩
        clear hc
        replace hxr := hxr.below hb
        replace h1r := h1r.below hb
        replace hog := hog.below hb
        replace hol := hol.below hb
        replace h3 := h3.below hb
        replace bgr := bgr.below hb
        replace hB := hB.trans (hb.mono hB.size)
        clear hb
        have eg0 := bgr.c0
        have eg1 := bgr.c1
        have hc := gmanyC ⟨A3, n3, c3, l3⟩ v5 h3.ok
        rw [HK.out] at hc
        go_wp2_with fail
        clear eg0 eg1
        refine hc.mono ?_
        rintro e v6 ⟨rfl, hb⟩
        clear hc
        replace hxr := hxr.below hb
        replace h1r := h1r.below hb
        replace hog := hog.below hb
        replace hol := hol.below hb
        replace h3 := h3.below hb
        replace bgr := bgr.below hb
        replace hB := hB.trans (hb.mono hB.size)
        clear hb
        have hdk := HDK.out
        have hdk2 : decide (k = n3) = D := by rw [← hdk, Bool.eq_iff_iff, decide_eq_true_eq, beq_iff_eq]; omega
        have hdk3 : (k == n3) = D := by rw [← hdk2, Bool.eq_iff_iff, decide_eq_true_eq, beq_iff_eq]
        have hpt := HPT.out
        have hdd : (D == D) = true := by simp
        cases D
        · clear hpt
          go_wp2
          go_ret
          exact ⟨rfl, hB⟩
        · obtain rfl : D2 = true := hpt rfl
          clear hpt
          go_wp2
          go_ret
          exact ⟨rfl, hB⟩

theorem own : ownKnob Try.prog.godebug = none := by kernel_rfl
theorem laidOut : laidOutB Try.prog = true := by kernel_rfl

set_option maxRecDepth 100000 in
theorem lifted (os : Os) (started : os.Started) (H : Type) (enc : TypeId × Value → H) :
    ReturnsInHanded {} Try.checked os 4 .any (Rows.matchingsAllSpec.pre6 enc Try.prog Try.f4 Rows.matchingsAllRow.domain false) (Rows.matchingsAllSpec.post enc Try.prog Try.f4 false true false false) := by
  refine returnsInHanded_of_change (C := Try.checked) own started (by kernel_rfl) Try.func4
    (ChangeSpec.witness6 (enc := enc) (C := Try.checked) false ⟨#[], #[.agg #[.slice none 0 0, .int .i64 0], .slice none 0 0, .int .u8 0], []⟩ 8 (by kernel_rfl) (by kernel_rfl) (by kernel_rfl) (by kernel_rfl)) ?_
  intro W base args ds gs before hval0 hW hcnd _
  have hval : ∀ (j : Nat) t v, Try.f4.params[j]? = some t → args[j]? = some v → Value.okWide Try.prog W .any base t v := hval0
  have hW' := hW
  obtain ⟨p, q, hA0, hV, rfl, hfz, hnd⟩ := hW
  have hA : DataW.TrodAll enc Try.prog W 0 (fun _ => true) true Try.f4.params.toList args.toList ds p := hA0
  rw [Try.params4] at hA hval
  obtain ⟨v0, vs0, d0, ds0, p0, q0, hargs, rfl, rfl, h0, r0⟩ := trodAll_cons hA
  obtain ⟨v1, vs1, d1, ds1, p1, q1, rfl, rfl, rfl, h1, r1⟩ := trodAll_cons r0
  obtain ⟨v2, vs2, d2, ds2, p2, q2, rfl, rfl, rfl, h2, r2⟩ := trodAll_cons r1
  obtain ⟨rfl, rfl, rfl⟩ := trodAll_nil r2
  obtain rfl : args = #[v0, v1, v2] := by cases args; simp_all
  obtain ⟨u0, m0, rfl, k0, a0, b0⟩ := arg_gr Try.underlying24 (by kernel_rfl) (by kernel_rfl) Try.underlying22 Try.underlying3 Try.underlying25 (by kernel_rfl) Try.underlying3 (by kernel_rfl) (hval 0 24 v0 rfl rfl) h0
  obtain ⟨A1, n1, c1, l1, rfl, a1, b1, e1, g1⟩ := arg_i64s Try.underlying25 Try.underlying3 (by kernel_rfl) (hval 1 25 v1 rfl rfl) h1
  obtain ⟨x2, rfl, rfl, rfl, w2⟩ := open_int Try.underlying5 (hval 2 5 v2 rfl rfl) h2
  obtain ⟨y2, rfl, z2⟩ := fit_u8 w2
  have hwalk : Calls Try.prog 4 #[.agg #[u0.v, .int .i64 m0], .slice A1 n1 c1, .int .u8 y2] W fun e w' => e = .returned (.bool true) ∧ Below W.heap.size W w' := walk u0 m0 A1 n1 c1 l1 y2 W k0 a0 b0 ⟨a1, b1, e1, g1⟩ z2
  refine hwalk.mono fun e W' ⟨he, hg⟩ => ?_
  subst he
  exact ⟨_, rfl, law_post laidOut (by kernel_rfl) hW' rfl rfl (by kernel_rfl) Try.underlying4 hg⟩

theorem over : Rows.matchingsAllRow.holds Try.pinned (OpenSpec.ofChange Rows.matchingsAllSpec) :=
  OpenClaim.holds_of_wide 4 Try.f4 rfl rfl rfl rfl rfl rfl rfl ⟨rfl, rfl, rfl, rfl, rfl⟩ rfl rfl rfl rfl rfl (by kernel_rfl) Try.func4 (by kernel_rfl)
    (of_decide_eq_true (by kernel_rfl)) (by unfold Func.isWrapper; first | (rw [if_pos (by decide +kernel)]; kernel_rfl) | (rw [if_neg (by decide +kernel)]; exact ⟨rfl, rfl⟩))
    (fun os started H enc _ => lifted os started H enc)

theorem proved : Rows.MatchingsAllSaid :=
  over

end Go.Proofs.Ytcjfgkihmhdhlaa.matchingsAll
