/-
  Package rises: what Step and Least answer.
-/
import Derived.Test.YtdckoaljcklmhaaGreatDoorRiT
import Derived.Test.YtdckoaljcklmhaaGreatDoorHaW
import Derived.Test.YtdckoaljcklmhaaGreatDoorPaWm
import Derived.Test.YtdckoaljcklmhaaGreatDoorDeW
import Derived.Lib.MinMax
import Derived.RangeFuncLeaves
import Derived.OwnWalkIn
import Derived.TacticsInMore
import Derived.WalkKit
import Derived.Shelf.Abstract
import Derived.Sort.LoopGhostIn
import Derived.Test.YtdckoaljcklmhaaGreatDoorSeqR
import Derived.Test.YtdckoaljcklmhaaGreatDoorMarkWb
import Derived.Laws.CopyRow
import Derived.Laws.CopyOwn
namespace Go.Proofs.YtdckoaljcklmhaaGreatDoor
open Go.RowKit
set_option linter.unusedVariables false
attribute [local go_sem] Oper.semAt_some

def okPr (r p : List Int) (j : Nat) : Bool := (List.range j).all fun c => decide (r.getD c 0 ≤ p.getD c 0) && decide (p.getD c 0 ≤ 2000000)
theorem okPr_succ (r p : List Int) (j : Nat) : okPr r p (j + 1) = (okPr r p j && (decide (r.getD j 0 ≤ p.getD j 0) && decide (p.getD j 0 ≤ 2000000))) := by rw [okPr, List.range_succ, List.all_append]; simp [okPr]
theorem okPr_no {r p : List Int} {j m : Nat} (hj : j < m) (h : ¬ (r.getD j 0 ≤ p.getD j 0 ∧ p.getD j 0 ≤ 2000000)) : okPr r p m = false := by
  cases e : okPr r p m with
  | false => rfl
  | true =>
    rw [okPr, List.all_eq_true] at e
    have := e j (List.mem_range.2 hj)
    rw [Bool.and_eq_true, decide_eq_true_eq, decide_eq_true_eq] at this
    exact absurd this h
/-- May prices be, at these reserves? -/
def mayR (r p : List Int) : Bool := decide (p.length = r.length) && okPr r p p.length
theorem mayS_eq (x : Mk) (p : List Int) : mayS x p = (x.may && mayR x.r.zs p) := rfl
theorem ls_at {u : Ls} {w : World} {j : Nat} (h : u.Ok w) (hj : j < u.n) : ∃ p q, u.A = some ⟨p, q, none⟩ ∧ p < w.heap.size ∧ w.cell? ⟨p, q + j, none⟩ = some (.int .i64 (u.zs.getD j 0)) := by
  obtain ⟨p, q, hA, hp, u0, hu0, hc⟩ := h.rd.get hj
  have hjl : j < u.zs.length := by rw [h.len]; exact hj
  rw [ci64_get _ _ hjl] at hu0
  obtain rfl : iV u.zs[j] = u0 := Option.some.inj hu0
  refine ⟨p, q, hA, hp, ?_⟩
  rw [hc, List.getD_eq_getElem?_getD, List.getElem?_eq_getElem hjl]; rfl

set_option maxRecDepth 100000 in
set_option maxHeartbeats 1000000 in
theorem rmaybe_any (y r : Ls) (w : World) (hy : y.Ok w) (hr : r.Ok w) :
    Calls Tryz.prog 23 #[.slice y.A y.n y.c, .slice r.A r.n r.c] w fun e w' => e = .returned (.bool (mayR r.zs y.zs)) ∧ w' = w := by
  have HY := Lib.hid hy.len
  have HR := Lib.hid hr.len
  have ty := Nat.le_trans hy.cap hy.top
  have tr := Nat.le_trans hr.cap hr.top
  unfold maxLen at ty tr
  go_enter Tryz.func23, Tryz.ntmps23
  by_cases hn : y.n = r.n
  · have g1 : ((y.n : Int) != (r.n : Int)) = false := by rw [hn]; simp
    have HN := Lib.hid hn
    have HM : Hid (mayR r.zs y.zs = okPr r.zs y.zs y.n) := Lib.hid (by rw [mayR, HY.out, HR.out, decide_eq_true hn, Bool.true_and])
    clear hn
    go_wp2_with fail
    go_loopw [14] (fun i wr => ∃ j : Nat, j ≤ y.n ∧ i = .int .i64 j ∧ Hid (okPr r.zs y.zs j = true) ∧ wr = w) (fun i _ => y.n - (intOf i).toNat)
    case atStart => exact ⟨0, Nat.zero_le _, rfl, Lib.hid rfl, rfl⟩
    case round =>
      obtain ⟨j, hj, rfl, hok, rfl⟩ := hrel
      by_cases hlt : j < y.n
      · have hlt' : (j : Int) < y.n := by omega
        have hj0 : (0 : Int) ≤ j := by omega
        have hjr : j < r.n := by rw [← HN.out]; exact hlt
        have hjr' : (j : Int) < r.n := by omega
        obtain ⟨p, q, hA, hp, hc⟩ := ls_at hy hlt
        obtain ⟨p2, q2, hA2, hp2, hc2⟩ := ls_at hr hjr
        have HS := Lib.hid (okPr_succ r.zs y.zs j)
        obtain ⟨a, ha⟩ : ∃ a, y.zs.getD j 0 = a := ⟨_, rfl⟩
        obtain ⟨b, hb⟩ : ∃ b, r.zs.getD j 0 = b := ⟨_, rfl⟩
        rw [ha] at hc HS
        rw [hb] at hc2 HS
        have HA := Lib.hid ha
        have HB := Lib.hid hb
        have HAA := Lib.hid hA
        have HAB := Lib.hid hA2
        rw [hA, hA2]
        clear ha hb hA hA2
        by_cases h1 : a < b
        · have HF : Hid (mayR r.zs y.zs = false) := Lib.hid (by
            rw [HM.out]
            exact okPr_no hlt (by rw [HA.out, HB.out]; omega))
          clear HS hok
          go_wp2
          go_ret
          exact ⟨ret_bool HF.out.symm, rfl⟩
        · by_cases h2 : 2000000 < a
          · have HF : Hid (mayR r.zs y.zs = false) := Lib.hid (by
              rw [HM.out]
              exact okPr_no hlt (by rw [HA.out, HB.out]; omega))
            clear HS hok
            go_wp2
            go_ret
            exact ⟨ret_bool HF.out.symm, rfl⟩
          · have HN2 : Hid (okPr r.zs y.zs (j + 1) = true) := Lib.hid (by
              rw [HS.out, hok.out, decide_eq_true (show b ≤ a by omega), decide_eq_true (show a ≤ 2000000 by omega)]; rfl)
            clear HS hok
            go_wp2

            go_roundw
            case rel => exact ⟨j + 1, by omega, by go_num, HN2, trivial⟩
            case measure => simp [intOf]; omega
      · obtain rfl : j = y.n := by omega
        have HF : Hid (mayR r.zs y.zs = true) := Lib.hid (by rw [HM.out]; exact hok.out)
        clear hok
        go_wp2
        go_ret
        exact ⟨ret_bool HF.out.symm, rfl⟩
  · have g1 : ((y.n : Int) != (r.n : Int)) = true := by rw [bne_iff_ne]; omega
    have HM : Hid (mayR r.zs y.zs = false) := Lib.hid (by rw [mayR, HY.out, HR.out, decide_eq_false hn, Bool.false_and])
    clear hn
    go_wp2
    go_ret
    exact ⟨ret_bool HM.out.symm, rfl⟩

set_option maxRecDepth 100000 in
set_option maxHeartbeats 1000000 in
theorem ramong_any (u : Ls) (l : Ls) (w : World) (hu : u.Ok w) (hl : l.Ok w) :
    Calls Tryz.prog 98 #[.slice u.A u.n u.c, .slice l.A l.n l.c] w fun e w' => e = .returned (.bool (wantB u.zs l.zs)) ∧ w' = w := by
  have HU := Lib.hid hu.len
  have tl := Nat.le_trans hl.cap hl.top
  have tu := Nat.le_trans hu.cap hu.top
  have lrd := hl.rd
  have urd := hu.rd
  obtain ⟨lA, ln, lc, lz⟩ := l
  obtain ⟨uA, un, uc, uz⟩ := u
  simp only at lrd urd tl tu HU ⊢
  go_enter Tryz.func98, Tryz.ntmps98
  go_wp2_with fail
  have tun : un ≤ 9223372036854775807 := by unfold maxLen at tu; omega
  go_loopw [9] (fun i wr => ∃ j : Nat, j ≤ un ∧ i = .int .i64 j ∧ Hid (wantB (uz.take j) lz = true) ∧ wr = w) (fun i _ => un - (intOf i).toNat)
  case atStart => exact ⟨0, Nat.zero_le _, rfl, Lib.hid rfl, rfl⟩
  case round =>
    obtain ⟨j, hj, rfl, hw, rfl⟩ := hrel
    by_cases hlt : j < un
    · obtain ⟨p, q, rfl, hp, u0, hu0, hc0⟩ := urd.get hlt
      have hjl : j < uz.length := by rw [HU.out]; exact hlt
      rw [ci64_get _ _ hjl] at hu0
      obtain rfl : iV uz[j] = u0 := Option.some.inj hu0
      unfold iV at hc0
      have hi1 : (j : Int) < un := by omega
      have hct := gcontains_any lA ln lc lz uz[j] wr lrd tl
      have HW := Lib.hid (want_snoc (l := lz) hjl)
      have HT := Lib.hid (show wantB uz lz = (wantB (uz.take j) lz && wantB (uz.drop j) lz) by rw [wantB, wantB, wantB, ← List.all_append, List.take_append_drop])
      have HD := Lib.hid (show uz.drop j = uz[j] :: uz.drop (j + 1) from List.drop_eq_getElem_cons hjl)
      generalize uz[j] = z at *
      obtain ⟨β, hβ⟩ : ∃ β, decide (z ∈ lz) = β := ⟨_, rfl⟩
      rw [hβ] at hct
      have HB := Lib.hid hβ
      clear hu0 hjl hβ
      go_wp2_with fail
      refine hct.mono ?_
      rintro e w2 ⟨rfl, rfl⟩
      clear hct
      cases β
      · have HN : Hid (wantB uz lz = false) := Lib.hid (by
          rw [HT.out, HD.out, wantB, wantB, List.all_cons, HB.out]; simp)
        clear HW HT HD HB hw
        go_wp2
        go_ret
        exact ⟨ret_bool HN.out.symm, rfl⟩
      · have HN : Hid (wantB (uz.take (j + 1)) lz = true) := Lib.hid (by rw [HW.out, hw.out, HB.out]; rfl)
        clear HW HT HD HB hw
        go_wp2
        go_roundw
        case rel => exact ⟨j + 1, by omega, by go_num, HN, trivial⟩
        case measure => simp [intOf]; omega
    · obtain rfl : j = un := by omega
      have HN : Hid (wantB uz lz = true) := Lib.hid (by
        have h := hw.out
        rwa [List.take_of_length_le (by rw [HU.out]; exact Nat.le_refl _)] at h)
      clear hw
      go_wp2
      go_ret
      exact ⟨ret_bool HN.out.symm, rfl⟩

theorem upL_nil (p : List Int) (z : Int) : upL p [] z = p := by
  refine List.ext_getElem? fun c => ?_
  rw [upL, List.getElem?_map]
  by_cases h : c < p.length
  · rw [List.getElem?_range h, List.getElem?_eq_getElem h]
    simp [List.getD_eq_getElem?_getD, List.getElem?_eq_getElem h]
  · rw [List.getElem?_eq_none (by simpa using h), List.getElem?_eq_none (by omega)]; rfl
theorem upL_snoc {p S : List Int} {z : Int} {k : Nat} (hk : k < p.length) (hn : (k : Int) ∉ S) : upL p (S ++ [(k : Int)]) z = (upL p S z).set k ((upL p S z).getD k 0 + z) := by
  refine List.ext_getElem? fun c => ?_
  rw [List.getElem?_set, upL_len]
  have hg : ∀ T : List Int, ∀ c, c < p.length → (upL p T z)[c]? = some (p.getD c 0 + if (c : Int) ∈ T then z else 0) := fun T c hc => by
    rw [upL, List.getElem?_map, List.getElem?_range hc]; rfl
  by_cases h : c < p.length
  · by_cases e : k = c
    · subst e
      rw [if_pos rfl, if_pos hk, hg _ _ hk, List.getD_eq_getElem?_getD (l := upL p S z), hg _ _ hk, if_pos (by simp), if_neg hn]
      simp
    · rw [if_neg e, hg _ _ h, hg _ _ h]
      congr 2
      have : ((c : Int) ∈ S ++ [(k : Int)]) = ((c : Int) ∈ S) := by
        rw [List.mem_append, List.mem_singleton, eq_iff_iff]
        constructor
        · rintro (h1 | h1)
          · exact h1
          · omega
        · exact .inl
      simp only [this]
  · rw [if_neg (by omega), List.getElem?_eq_none (by rw [upL_len]; omega), List.getElem?_eq_none (by rw [upL_len]; omega)]
theorem upL_bound {p S : List Int} {z : Int} (hp : ∀ x ∈ p, 0 ≤ x ∧ x ≤ 2000000) (hz : 0 ≤ z ∧ z ≤ 2000000) : ∀ x ∈ upL p S z, 0 ≤ x ∧ x ≤ 4000000 := fun x hx => by
  rw [upL, List.mem_map] at hx
  obtain ⟨c, hc, rfl⟩ := hx
  have h1 : p.getD c 0 ∈ p := by
    rw [List.getD_eq_getElem?_getD, List.getElem?_eq_getElem (List.mem_range.1 hc)]; exact List.getElem_mem _
  have := hp _ h1
  split <;> omega

set_option maxRecDepth 100000 in
set_option maxHeartbeats 1000000 in
theorem rdearer_any (y S : Ls) (z : Int) (w : World) (hy : y.Ok w) (hS : S.Ok w) (hn : 0 < y.n) (h8 : y.n ≤ 8) (hp : ∀ x ∈ y.zs, 0 ≤ x ∧ x ≤ 2000000) (hz : 0 ≤ z ∧ z ≤ 2000000) (hr : Rises y.zs.length S.zs) :
    Calls Tryz.prog 66 #[.slice y.A y.n y.c, .slice S.A S.n S.c, .int .i64 z] w fun e w' => ∃ A c, e = .returned (.slice A y.n c) ∧ OwnI w' w.heap.size ⟨A, y.n, c, upL y.zs S.zs z⟩ ∧ Below w.heap.size w w' := by
  have HY := Lib.hid hy.len
  have HS := Lib.hid hS.len
  have tS := Nat.le_trans hS.cap hS.top
  unfold maxLen at tS
  have HP := Lib.hid hp
  have HR := Lib.hid hr
  have hcl := pclone_any y.A y.n y.c y.zs w hy hn h8
  clear hp hr
  go_enter Tryz.func66, Tryz.ntmps66
  go_wp2_with fail
  refine hcl.mono ?_
  rintro e w1 ⟨A1, c1, rfl, hO, hB⟩
  clear hcl
  have own1 := hO.own
  simp only at own1
  have hle := own1.le
  obtain ⟨g1, rfl, hg1w, hg1r⟩ := own1.lt (by omega)
  have HSW := hS.below hB
  go_wp2_with fail
  go_loopw [14] (fun i wr => ∃ j : Nat, j ≤ S.n ∧ i = .int .i64 j ∧ Own wr w.heap.size 3 (some ⟨g1, 0, none⟩) y.n c1 (ci64 (upL y.zs (S.zs.take j) z)) ∧ Below w.heap.size w wr) (fun i _ => S.n - (intOf i).toNat)
  case atStart => exact ⟨0, Nat.zero_le _, rfl, by rw [List.take_zero, upL_nil]; exact own1, hB⟩
  case round =>
    obtain ⟨j, hj, rfl, own, hBr⟩ := hrel
    clear own1 hB HSW hO
    by_cases hlt : j < S.n
    · have hlt' : (j : Int) < S.n := by omega
      obtain ⟨p, q, hA, hp, hc⟩ := ls_at (hS.below hBr) hlt
      have hjl : j < S.zs.length := by rw [HS.out]; exact hlt
      have hgd : S.zs.getD j 0 = S.zs[j] := by rw [List.getD_eq_getElem?_getD, List.getElem?_eq_getElem hjl]; rfl
      have hk := HR.out.1 _ (List.getElem_mem hjl)
      have htk : S.zs.take (j + 1) = S.zs.take j ++ [S.zs[j]] := List.take_succ_eq_append_getElem hjl
      have hni : S.zs[j] ∉ S.zs.take j := fun hm => by
        have h1 := HR.out.2.sublist (List.take_sublist (j + 1) S.zs)
        rw [htk, List.pairwise_append] at h1
        have := h1.2.2 _ hm _ (List.mem_singleton.2 rfl)
        omega
      rw [hgd] at hc
      generalize S.zs[j] = x at hc hk htk hni
      obtain ⟨k, rfl⟩ : ∃ k : Nat, x = k := ⟨x.toNat, by omega⟩
      have hkn : k < y.n := by rw [← HY.out]; omega
      have hkn' : (k : Int) < y.n := by omega
      have hk0 : (0 : Int) ≤ k := by omega
      have hT := Lib.hid (upL_snoc (p := y.zs) (S := S.zs.take j) (z := z) (k := k) (by rw [HY.out]; exact hkn) hni)
      rw [← htk] at hT
      have hbd := upL_bound (S := S.zs.take j) HP.out hz
      have hul : (upL y.zs (S.zs.take j) z).length = y.n := by rw [upL_len, HY.out]
      generalize upL y.zs (S.zs.take j) z = o at own hT hbd hul
      have hkl : k < o.length := by rw [hul]; exact hkn
      have hgo : o.getD k 0 = o[k] := by rw [List.getD_eq_getElem?_getD, List.getElem?_eq_getElem hkl]; rfl
      have hbk := hbd _ (List.getElem_mem hkl)
      have hcr : wr.cell? ⟨g1, k, none⟩ = some (.int .i64 o[k]) := by rw [own.cell hkn, ci64_get _ _ hkl]; rfl
      rw [hgo] at hT
      generalize o[k] = v at hcr hbk hT
      have s1 : IntKind.i64.wrap (v + z) = v + z := by rw [IntKind.wrap_i64]; omega
      have hfr := own.free (by omega) k
      have own2 := own.set (by omega) k (.int .i64 (v + z))
      have e1 : (ci64 o).set k (.int .i64 (v + z)) = ci64 (o.set k (v + z)) := by simp [ci64, iV]
      rw [e1, ← hT.out] at own2
      have hB2 := hBr.setCell (p := ⟨g1, k, none⟩) hg1w (.int .i64 (v + z))
      have HAA := Lib.hid hA
      rw [hA]
      clear own hBr hT hbd hul hkl hgo e1 hA htk hni hgd hjl hbk
      go_wp2

      go_roundw
      case rel => exact ⟨j + 1, by omega, by go_num, own2, hB2⟩
      case measure => simp [intOf]; omega
    · obtain rfl : j = S.n := by omega
      rw [List.take_of_length_le (by rw [HS.out]; exact Nat.le_refl _)] at own
      have hbd := Lib.hid (upL_bound (S := S.zs) HP.out hz)
      go_wp2
      go_ret
      exact ⟨_, _, rfl, ⟨own, fun x hx => by have := hbd.out x hx; omega⟩, hBr⟩

set_option maxHeartbeats 1000000 in
theorem runtil_any (y S : Ls) (w : World) : Calls Tryz.prog 97 #[.slice y.A y.n y.c, .slice S.A S.n S.c] w fun e w' => e = .returned (.func (.func 105) #[] #[.pointer (some ⟨w.heap.size, 0, none⟩), .pointer (some ⟨w.heap.size + 1, 0, none⟩)]) ∧
    w' = (w.alloc (.cells #[.slice y.A y.n y.c] 22)).alloc (.cells #[.slice S.A S.n S.c] 22) := by
  go_enter Tryz.func97, Tryz.ntmps97
  go_wp2
  go_ret
  exact ⟨rfl, rfl⟩
set_option maxRecDepth 100000 in
set_option maxHeartbeats 1000000 in
theorem rfar_any (b y S : Ls) (pb sb : Nat) (w : World) (hb : b.Ok w) (hy : y.Ok w) (hS : S.Ok w) (hm : mayD b.zs y.zs = true) (hn : b.n = y.n) (h1 : Boxed w pb 22 (.slice y.A y.n y.c)) (h2 : Boxed w sb 22 (.slice S.A S.n S.c)) :
    Calls Tryz.prog 105 #[.slice b.A b.n b.c, .pointer (some ⟨pb, 0, none⟩), .pointer (some ⟨sb, 0, none⟩)] w fun e w' => e = .returned (.int .i64 (farL b.zs y.zs S.zs)) ∧ Below w.heap.size w w' := by
  have HB := Lib.hid hb.len
  have HY := Lib.hid hy.len
  have tS := Nat.le_trans hS.cap hS.top
  have tb := Nat.le_trans hb.cap hb.top
  unfold maxLen at tb
  have HN := Lib.hid hn
  have hgb := gain_bound hm
  have HM := Lib.hid hm
  have hof := pofC b y w hb hy
  rw [(de_ok hm).1, (de_ok hm).2.2.1] at hof
  unfold Ls.v at hof
  have hc1 := h1.cell
  clear hn hm
  go_enter Tryz.func105, Tryz.ntmps105
  go_wp2_with fail
  refine hof.mono ?_
  rintro e w1 ⟨A1, n1, c1, rfl, _, hB⟩
  clear hof hc1
  have k1 := boxed_below h1 hB
  have k2 := boxed_below h2 hB
  have hb1 := hb.below hB
  have hy1 := hy.below hB
  have hS1 := hS.below hB
  have hcp := k1.cell
  have hcs := k2.cell
  have hrd := hS1.rd
  have HF : Hid (farL b.zs y.zs S.zs = farJ b.zs y.zs S.zs b.n) := Lib.hid (by rw [← farJ_all, HY.out, HN.out])
  obtain ⟨gg, hgg⟩ : ∃ gg, gainD b.zs y.zs = gg := ⟨_, rfl⟩
  have HG := Lib.hid hgg
  rw [hgg] at hgb ⊢
  clear h1 h2 hb hy hS k1 k2 hgg
  go_wp2_with fail
  go_loopw [9, 23] (fun f i wr => ∃ j : Nat, j ≤ b.n ∧ i = .int .i64 j ∧ f = .int .i64 (farJ b.zs y.zs S.zs j) ∧ wr = w1) (fun _ i _ => b.n - (intOf i).toNat)
  case atStart => exact ⟨0, Nat.zero_le _, rfl, by rw [← HG.out]; rfl, rfl⟩
  case round =>
    obtain ⟨j, hj, rfl, rfl, rfl⟩ := hrel
    by_cases hlt : j < b.n
    · have hlt' : (j : Int) < b.n := by omega
      have hj0 : (0 : Int) ≤ j := by omega
      have hjy : j < y.n := by rw [← HN.out]; exact hlt
      have hjy' : (j : Int) < y.n := by omega
      obtain ⟨p, q, hA, hp, hc⟩ := ls_at hb1 hlt
      obtain ⟨p2, q2, hA2, hp2, hc2⟩ := ls_at hy1 hjy
      have HJ := Lib.hid (farJ_succ (l := b.zs) (p := y.zs) (S := S.zs) j)
      have hbz : 0 ≤ b.zs.getD j 0 ∧ b.zs.getD j 0 ≤ 1000000 := by
        have hjl : j < b.zs.length := by rw [HB.out]; exact hlt
        rw [List.getD_eq_getElem?_getD, List.getElem?_eq_getElem hjl]; exact (mayD_len HM.out).2.2.2.1 _ (List.getElem_mem hjl)
      have hyz : 0 ≤ y.zs.getD j 0 ∧ y.zs.getD j 0 ≤ 2000000 := by
        have hjl : j < y.zs.length := by rw [HY.out]; exact hjy
        rw [List.getD_eq_getElem?_getD, List.getElem?_eq_getElem hjl]; exact (mayD_len HM.out).2.2.2.2 _ (List.getElem_mem hjl)
      rw [gapD, HG.out] at HJ
      obtain ⟨a, ha⟩ : ∃ a, b.zs.getD j 0 = a := ⟨_, rfl⟩
      obtain ⟨v, hv⟩ : ∃ v, y.zs.getD j 0 = v := ⟨_, rfl⟩
      rw [ha] at hc HJ hbz
      rw [hv] at hc2 HJ hyz
      have s1 : IntKind.i64.wrap (a - v) = a - v := by rw [IntKind.wrap_i64]; omega
      have s2 : IntKind.i64.wrap (gg - (a - v)) = gg - (a - v) := by rw [IntKind.wrap_i64]; omega
      have hct := gcontains_any S.A S.n S.c S.zs (j : Int) wr hrd tS
      have HAA := Lib.hid hA
      have HAB := Lib.hid hA2
      rw [hA2] at hcp
      rw [hA]
      clear ha hv hA hA2 hbz hyz
      by_cases hin : (j : Int) ∈ S.zs
      · rw [decide_eq_true hin] at hct
        have HI : Hid (farJ b.zs y.zs S.zs (j + 1) = farJ b.zs y.zs S.zs j) := Lib.hid (by rw [HJ.out, if_pos hin])
        clear hin HJ
        go_wp2_with fail
        refine hct.mono ?_
        rintro e w2 ⟨rfl, rfl⟩
        clear hct
        go_wp2

        go_roundw
        case rel => exact ⟨j + 1, by omega, by go_num, by rw [HI.out], trivial⟩
        case measure => simp [intOf]; omega
      · rw [decide_eq_false hin] at hct
        have HI : Hid (farJ b.zs y.zs S.zs (j + 1) = min (farJ b.zs y.zs S.zs j) (gg - (a - v))) := Lib.hid (by rw [HJ.out, if_neg hin])
        clear hin HJ
        go_wp2_with fail
        refine hct.mono ?_
        rintro e w2 ⟨rfl, rfl⟩
        clear hct
        go_wp2

        go_roundw
        case rel => exact ⟨j + 1, by omega, by go_num, by rw [HI.out], trivial⟩
        case measure => simp [intOf]; omega
    · obtain rfl : j = b.n := by omega
      go_wp2
      go_ret
      exact ⟨by rw [HF.out]; rfl, hB⟩
end Go.Proofs.YtdckoaljcklmhaaGreatDoor


namespace Go.Proofs.YtdckoaljcklmhaaGreatDoor
open Go.RowKit
set_option linter.unusedVariables false
attribute [local go_sem] Oper.semAt_some

theorem info_int13 : (Tryz.prog.info? 3).map (fun i => (i.zero, i.size, i.bytes)) = some (some (.int .i64 0), 1, 8) := by kernel_rfl
/-- What a market must be, at prices. -/
theorem mayA_sizes {x : Mk} {w : World} {p : List Int} (hx : x.Ok w) (hm : mayA x.r.zs (Ls.all x.b) x.o.zs p = true) : x.n ≤ 8 ∧ 1 ≤ p.length ∧ p.length ≤ 8 ∧ p.length = x.r.n ∧ RowsM p (Ls.all x.b) := by
  obtain ⟨h1, h2, h3⟩ := mayA_iff.1 hm
  have h4 : x.may = true := h1
  obtain ⟨h5, h6, _⟩ := mayPr_iff.1 h3
  exact ⟨(mk_len hx h4).2.2.2.1, h5, h6, h2.trans hx.r.len, rows_same (may_rows h4) h2⟩
set_option maxRecDepth 100000 in
set_option maxHeartbeats 1000000 in
theorem rmust_any (x : Mk) (y : Ls) (w : World) (hx : x.Ok w) (hy : y.Ok w) (hm : mayA x.r.zs (Ls.all x.b) x.o.zs y.zs = true) :
    Calls Tryz.prog 95 #[.agg #[.slice x.r.A x.r.n x.r.c, .slice x.A x.n x.c, .slice x.o.A x.o.n x.o.c], .slice y.A y.n y.c] w fun e w' => ∃ A c A2 n2 c2, e = .returned (.tuple #[.slice A x.n c, .slice A2 n2 c2]) ∧ ∃ t, Outs w' w.heap.size A x.n c t ∧ Ls.all t = wouldP (Ls.all x.b) y.zs ∧ OwnI w' w.heap.size ⟨A2, n2, c2, mustP (Ls.all x.b) y.zs⟩ ∧ Below w.heap.size w w' := by
  have HBL : Hid ((Ls.all x.b).length = x.n) := Lib.hid (by rw [Ls.all, List.length_map, hx.len])
  obtain ⟨hx8, hp1, hp8, _, _⟩ := mayA_sizes hx hm
  obtain ⟨e1, e2, e3⟩ := allErr_ok hm
  obtain ⟨i0, hi0, hz0, hz1, hz2⟩ := info_parts info_int13
  have hb0 : Below w.heap.size w (w.alloc (.cells #[.slice x.r.A x.r.n x.r.c, .slice x.A x.n x.c, .slice x.o.A x.o.n x.o.c] 25)) := (Below.refl _ w).alloc (Nat.le_refl _) _
  have bx := InBox.new w x
  have hal := pallDC x y _ (hx.below hb0) (hy.below hb0)
  rw [e1, e2, e3, show x.v = .agg #[.slice x.r.A x.r.n x.r.c, .slice x.A x.n x.c, .slice x.o.A x.o.n x.o.c] from rfl] at hal
  unfold Ls.v at hal
  have ex0 := bx.c0
  have ex1 := bx.c1
  have ex2 := bx.c2
  clear e1 e2 e3 hm
  go_enter Tryz.func95, Tryz.ntmps95
  go_wp2_with fail
  refine hal.mono ?_
  rintro e w1 ⟨A, n, c, A2, n2, c2, t, rfl, hO, hT, hOb, hB⟩
  clear hal ex0 ex1 ex2 bx
  have hB1 := hb0.trans (hB.mono hb0.size)
  have hO1 := hO.mono (show w.heap.size ≤ _ from hb0.size)
  have hOb1 := hOb.mono (show w.heap.size ≤ _ from hb0.size)
  clear hO hOb hB hb0
  have hn : n = x.n := by rw [← hO1.len, ← HBL.out]; have h5 := congrArg List.length hT; rw [Ls.all, List.length_map, List.length_map] at h5; exact h5
  have hn2 : n2 = x.n := by rw [← hOb1.len, ← HBL.out]; simp
  subst hn
  subst hn2
  have HT : Hid (Ls.all t = wouldP (Ls.all x.b) y.zs) := Lib.hid hT
  have hle := hOb1.le
  clear hT
  go_wp2_with fail
  go_loopw [5, 18] (fun v i wr => ∃ (j n3 c3 : Nat) (A3 : Option Addr), j ≤ x.n ∧ i = .int .i64 j ∧ v = .slice A3 n3 c3 ∧ OwnI wr w1.heap.size ⟨A3, n3, c3, upto j fun b => decide (gainD ((Ls.all x.b).getD b []) y.zs ≠ 0)⟩ ∧ Below w1.heap.size w1 wr) (fun _ i _ => x.n - (intOf i).toNat)
  case atStart => exact ⟨0, 0, 0, none, Nat.zero_le _, rfl, rfl, OwnI.nil _ _, Below.refl _ _⟩
  case round =>
    obtain ⟨j, n3, c3, A3, hj, rfl, rfl, hU, hbel⟩ := hrel
    by_cases hlt : j < x.n
    · have hlt' : (j : Int) < x.n := by omega
      have hj0 : (0 : Int) ≤ j := by omega
      obtain ⟨g2, hA2, _, hg2⟩ := hOb1.lt (show 0 < c2 by omega)
      have hcb : wr.cell? ⟨g2, j, none⟩ = some (.bool (decide (gainD ((Ls.all x.b).getD j []) y.zs = 0))) := by
        have h5 := hOb1.below hbel
        rw [hA2] at h5
        have hjl : j < (Ls.all x.b).length := by rw [HBL.out]; exact hlt
        rw [h5.cell hlt, List.getElem?_map, List.getElem?_map, List.getElem?_eq_getElem hjl, List.getD_eq_getElem?_getD, List.getElem?_eq_getElem hjl]; rfl
      have HU := Lib.hid (upto_succ j fun b => decide (gainD ((Ls.all x.b).getD b []) y.zs ≠ 0))
      have hnl : n3 ≤ 8 := by
        have h5 := hU.len
        have h6 := upto_len j fun b => decide (gainD ((Ls.all x.b).getD b []) y.zs ≠ 0)
        simp only at h5
        omega
      have hsz := hbel.size
      obtain ⟨β, hβ⟩ : ∃ β, decide (gainD ((Ls.all x.b).getD j []) y.zs = 0) = β := ⟨_, rfl⟩
      rw [hβ] at hcb
      have HA2 := Lib.hid hA2
      rw [hA2]
      cases β
      · have hge : gainD ((Ls.all x.b).getD j []) y.zs ≠ 0 := of_decide_eq_false hβ
        have HV : Hid ((upto (j + 1) fun b => decide (gainD ((Ls.all x.b).getD b []) y.zs ≠ 0)) = (upto j fun b => decide (gainD ((Ls.all x.b).getD b []) y.zs ≠ 0)) ++ [(j : Int)]) := Lib.hid (by rw [HU.out, if_pos (decide_eq_true hge)])
        generalize (upto j fun b => decide (gainD ((Ls.all x.b).getD b []) y.zs ≠ 0)) = up at hU HV
        clear hβ hge HU hA2
        go_wp2_with (at_builtin; go_must (refine wpList_app1 wr rfl _ _ 22 rfl 3 i0 _ 8 Tryz.underlying22 hi0 hz0 hz1 hz2 rfl w1.heap.size A3 n3 c3 _ rfl hU.own 1 rfl rfl ?m1 ?m2 ?m3 ?_))
        case m1 => simp only [maxLen]; omega
        case m2 => omega
        try case m3 => exact hsz
        intro A6 c6 w6 hown6 hbel6 _ _
        have hO6 : OwnI w6 w1.heap.size ⟨A6, n3 + 1, c6, upto (j + 1) fun b => decide (gainD ((Ls.all x.b).getD b []) y.zs ≠ 0)⟩ := by
          refine ⟨?_, fun q hq => ?_⟩
          · simp only [HV.out, ci64_app]; exact hown6
          · simp only [HV.out] at hq
            rcases List.mem_append.1 hq with hq | hq
            · exact hU.fit q hq
            · rw [List.mem_singleton.1 hq]; omega
        have hb6 := hbel.trans hbel6
        clear hown6 hbel6 hU hbel
        go_wp2
        go_roundw
        case rel => exact ⟨j + 1, n3 + 1, c6, A6, by omega, by go_num, rfl, hO6, hb6⟩
        case measure => simp [intOf]; omega
      · have hge : gainD ((Ls.all x.b).getD j []) y.zs = 0 := of_decide_eq_true hβ
        have hO6 : OwnI wr w1.heap.size ⟨A3, n3, c3, upto (j + 1) fun b => decide (gainD ((Ls.all x.b).getD b []) y.zs ≠ 0)⟩ := by
          rw [HU.out, if_neg (fun h => (of_decide_eq_true h) hge), List.append_nil]; exact hU
        clear hβ hge HU hU hA2
        go_wp2
        go_roundw
        case rel => exact ⟨j + 1, n3, c3, A3, by omega, by go_num, rfl, hO6, hbel⟩
        case measure => simp [intOf]; omega
    · obtain rfl : j = x.n := by omega
      have hU2 : OwnI wr w1.heap.size ⟨A3, n3, c3, mustP (Ls.all x.b) y.zs⟩ := by rw [mustP, HBL.out]; exact hU
      have hO2 := hO1.below hbel
      have hB2 := hB1.trans (hbel.mono hB1.size)
      have hU3 := hU2.mono hB1.size
      clear hU hU2 hO1 hbel hB1 hOb1
      go_wp2
      go_ret2
      exact ⟨A, c, A3, n3, c3, rfl, t, hO2, HT.out, hU3, hB2⟩

/-- The set that too many want; how much dearer it becomes. -/
def setE (L : List (List Int)) (p : List Int) : List Int := (fewS L p).getD []
def byE (L : List (List Int)) (p : List Int) : Int := match fewS L p with
  | none => 0
  | some S => byL L p S
theorem byE_none {L : List (List Int)} {p : List Int} (h : fewS L p = none) : setE L p = [] ∧ byE L p = 0 := by rw [setE, byE, h]; exact ⟨rfl, rfl⟩
theorem byE_some {L : List (List Int)} {p S : List Int} (h : fewS L p = some S) : setE L p = S ∧ byE L p = byL L p S := by rw [setE, byE, h]; exact ⟨rfl, rfl⟩
theorem must_at {x : Mk} {w : World} {p : List Int} {b : Nat} (hx : x.Ok w) (hm : mayA x.r.zs (Ls.all x.b) x.o.zs p = true) (hb : (b : Int) ∈ mustP (Ls.all x.b) p) : b < x.n ∧ ((Ls.all x.b).getD b []).length = p.length ∧ mayD ((Ls.all x.b).getD b []) p = true := by
  obtain ⟨h1, h2⟩ := mem_mustP.1 hb
  have h3 := gain_nonneg (b := (Ls.all x.b).getD b []) (p := p)
  have h4 : (Ls.all x.b).getD b [] ∈ Ls.all x.b := by rw [List.getD_eq_getElem?_getD, List.getElem?_eq_getElem h1]; exact List.getElem_mem _
  rw [Ls.all, List.length_map, hx.len] at h1
  exact ⟨h1, row_in (mayA_sizes hx hm).2.2.2.2 (by omega), mayA_each hm _ h4⟩
theorem gain_top {x : Mk} {p : List Int} (hm : mayA x.r.zs (Ls.all x.b) x.o.zs p = true) (b : Nat) : gainD ((Ls.all x.b).getD b []) p ≤ 2000000 := by
  by_cases h1 : b < (Ls.all x.b).length
  · have h4 : (Ls.all x.b).getD b [] ∈ Ls.all x.b := by rw [List.getD_eq_getElem?_getD, List.getElem?_eq_getElem h1]; exact List.getElem_mem _
    have := (gain_bound (mayA_each hm _ h4)).2
    omega
  · rw [List.getD_eq_getElem?_getD, List.getElem?_eq_none (by omega)]
    show topN _ 0 ≤ _
    simp [topN]
set_option maxRecDepth 100000 in
set_option maxHeartbeats 1000000 in
theorem rstp_any (x : Mk) (y : Ls) (w : World) (hx : x.Ok w) (hy : y.Ok w) (hm : mayA x.r.zs (Ls.all x.b) x.o.zs y.zs = true) :
    Calls Tryz.prog 65 #[.agg #[.slice x.r.A x.r.n x.r.c, .slice x.A x.n x.c, .slice x.o.A x.o.n x.o.c], .slice y.A y.n y.c] w fun e w' => ∃ A n c, e = .returned (.tuple #[.slice A n c, .int .i64 (byE (Ls.all x.b) y.zs)]) ∧ OwnI w' w.heap.size ⟨A, n, c, setE (Ls.all x.b) y.zs⟩ ∧ Below w.heap.size w w' := by
  have HBL : Hid ((Ls.all x.b).length = x.n) := Lib.hid (by rw [Ls.all, List.length_map, hx.len])
  obtain ⟨hx8, hp1, hp8, hpr, hrow⟩ := mayA_sizes hx hm
  have HYL := Lib.hid hy.len
  have HM := Lib.hid hm
  have HX := Lib.hid hx
  have HRO := Lib.hid hrow
  have HOK := Lib.hid (would_ok hrow hp1 hp8 (by rw [HBL.out]; exact hx8))
  rw [HYL.out] at HOK hp1 hp8
  have HFW : Hid (fewP (wouldP (Ls.all x.b) y.zs) y.n (mustP (Ls.all x.b) y.zs) = fewS (Ls.all x.b) y.zs) := Lib.hid (by rw [← HYL.out]; exact would_few)
  have hb0 : Below w.heap.size w (w.alloc (.cells #[.slice x.r.A x.r.n x.r.c, .slice x.A x.n x.c, .slice x.o.A x.o.n x.o.c] 25)) := (Below.refl _ w).alloc (Nat.le_refl _) _
  have bx := InBox.new w x
  have hx0 := hx.below hb0
  have hy0 := hy.below hb0
  have hmu := rmust_any x y _ hx0 hy0 hm
  have ex0 := bx.c0
  have ex1 := bx.c1
  have ex2 := bx.c2
  clear hm hrow hpr hx hy
  go_enter Tryz.func65, Tryz.ntmps65
  go_wp2_with fail
  refine hmu.mono ?_
  rintro e w1 ⟨A, c, A2, n2, c2, rfl, t, hO, hT, hU, hB⟩
  clear hmu ex0 ex1 ex2
  have bx1 := bx.below hB
  have hx1 := hx0.below hB
  have hy1 := hy0.below hB
  have hB1 := hb0.trans (hB.mono hb0.size)
  have HT := Lib.hid hT
  have hfe := pfewC ⟨A, x.n, c, t⟩ (y.n : Int) ⟨A2, n2, c2, mustP (Ls.all x.b) y.zs⟩ w1 hO.gr hU.ok (by omega) (by omega)
  rw [show Gr.g ⟨A, x.n, c, t⟩ = wouldP (Ls.all x.b) y.zs from hT, near_err HOK.out] at hfe
  rw [show Gr.v ⟨A, x.n, c, t⟩ = .slice A x.n c from rfl, show Ls.v ⟨A2, n2, c2, mustP (Ls.all x.b) y.zs⟩ = .slice A2 n2 c2 from rfl] at hfe
  have hO1 := hO.mono hb0.size
  have hU1 := hU.mono hb0.size
  clear hO hU hT hb0 hB bx hx0 hy0
  obtain ⟨S, hS⟩ : ∃ S, fewS (Ls.all x.b) y.zs = S := ⟨_, rfl⟩
  cases S with
  | none =>
    obtain ⟨q1, q2⟩ := few_no HOK.out (HFW.out.trans hS)
    rw [q1, q2] at hfe
    have HE := Lib.hid (byE_none hS)
    clear hS q1 q2
    go_wp2_with fail
    refine hfe.mono ?_
    rintro e w2 ⟨A5, n5, c5, rfl, _, hB2⟩
    clear hfe
    have hB3 := hB1.trans (hB2.mono hB1.size)
    clear hB2 hB1 bx1 hx1 hy1 hO1 hU1
    go_wp2
    go_ret2
    exact ⟨none, 0, 0, by rw [HE.out.2]; rfl, by rw [HE.out.1]; exact OwnI.nil _ _, hB3⟩
  | some S =>
    obtain ⟨q1, q2⟩ := few_yes HOK.out (HFW.out.trans hS)
    rw [q1, q2] at hfe
    have HE := Lib.hid (byE_some hS)
    have HBY := Lib.hid (byS_all (z := 2000000) hS (gain_top HM.out))
    clear hS q1 q2
    go_wp2_with fail
    refine hfe.mono ?_
    rintro e w2 ⟨A5, n5, c5, rfl, hS5, hB2⟩
    clear hfe
    have hB3 := hB1.trans (hB2.mono hB1.size)
    have bx2 := bx1.below hB2
    have hx2 := hx1.below hB2
    have hy2 := hy1.below hB2
    have hO2 := hO1.below hB2
    have hU2 := hU1.below hB2
    have hS2 := hS5.mono hB1.size
    have hun := runtil_any y ⟨A5, n5, c5, S⟩ w2
    simp only at hun
    clear hB2 hB1 bx1 hx1 hy1 hO1 hU1 hS5
    go_wp2_with fail
    refine hun.mono ?_
    rintro e w3 ⟨rfl, rfl⟩
    clear hun
    have kb : Below w2.heap.size w2 ((w2.alloc (.cells #[.slice y.A y.n y.c] 22)).alloc (.cells #[.slice A5 n5 c5] 22)) := ((Below.refl _ w2).alloc (Nat.le_refl _) _).alloc (by simp) _
    have bp := (Boxed.new w2 22 (.slice y.A y.n y.c)).alloc (.cells #[.slice A5 n5 c5] 22)
    have bs := Boxed.new (w2.alloc (.cells #[.slice y.A y.n y.c] 22)) 22 (.slice A5 n5 c5)
    rw [World.size_alloc] at bs
    obtain ⟨pb, hpb⟩ : ∃ b, b = w2.heap.size := ⟨_, rfl⟩
    rw [← hpb] at bp bs ⊢
    have bx4 := bx2.below kb
    have hx4 := hx2.below kb
    have hy4 := hy2.below kb
    have hO4 := hO2.below kb
    have hU4 := hU2.below kb
    have hS4 := hS2.below kb
    have hB4 := hB3.trans (kb.mono hB3.size)
    clear hpb kb bx2 hx2 hy2 hO2 hU2 hS2 hB3
    generalize (w2.alloc (.cells #[.slice y.A y.n y.c] 22)).alloc (.cells #[.slice A5 n5 c5] 22) = w4 at *
    have hn2 : n2 ≤ 8 := by
      have h5 := hU4.len
      have h6 := upto_len (Ls.all x.b).length fun b => decide (gainD ((Ls.all x.b).getD b []) y.zs ≠ 0)
      simp only at h5
      rw [mustP] at h5
      have := HBL.out
      omega
    have HUL : Hid ((mustP (Ls.all x.b) y.zs).length = n2) := Lib.hid hU4.len
    go_wp2_with fail
    go_loopw [5, 35] (fun v i wr => ∃ j : Nat, j ≤ n2 ∧ i = .int .i64 j ∧ v = .int .i64 (byS (Ls.all x.b) y.zs S 2000000 ((mustP (Ls.all x.b) y.zs).take j)) ∧ Below w4.heap.size w4 wr) (fun _ i _ => n2 - (intOf i).toNat)
    case atStart => exact ⟨0, Nat.zero_le _, rfl, rfl, Below.refl _ _⟩
    case round =>
      obtain ⟨j, hj, rfl, rfl, hbel⟩ := hrel
      by_cases hlt : j < n2
      · have hlt' : (j : Int) < n2 := by omega
        have hj0 : (0 : Int) ≤ j := by omega
        obtain ⟨p1, q1, hA1, hp1', hc1⟩ := ls_at (hU4.ok.below hbel) hlt
        have hjl : j < (mustP (Ls.all x.b) y.zs).length := by rw [HUL.out]; exact hlt
        have hgd : (mustP (Ls.all x.b) y.zs).getD j 0 = (mustP (Ls.all x.b) y.zs)[j] := by rw [List.getD_eq_getElem?_getD, List.getElem?_eq_getElem hjl]; rfl
        have hmem := List.getElem_mem hjl
        have htk : (mustP (Ls.all x.b) y.zs).take (j + 1) = (mustP (Ls.all x.b) y.zs).take j ++ [(mustP (Ls.all x.b) y.zs)[j]] := List.take_succ_eq_append_getElem hjl
        simp only at hA1 hc1
        rw [hgd] at hc1
        obtain ⟨v, hv⟩ : ∃ v, (mustP (Ls.all x.b) y.zs)[j] = v := ⟨_, rfl⟩
        rw [hv] at hc1 hmem htk
        obtain ⟨b, _, _, rfl⟩ := mem_upto.1 hmem
        obtain ⟨m1, m2, m3⟩ := must_at HX.out HM.out hmem
        have HBS := Lib.hid (byS_snoc (L := Ls.all x.b) (p := y.zs) (S := S) (z := 2000000) (l := (mustP (Ls.all x.b) y.zs).take j) (b : Int))
        rw [← htk, Int.toNat_natCast] at HBS
        have hbn' : (b : Int) < x.n := by omega
        have hb0' : (0 : Int) ≤ b := by omega
        obtain ⟨p2, q2, u, hA2, hgy, hp2, hc2, hku⟩ := gr_get (hO4.gr.below hbel) HT.out m1
        rw [hgy] at HBS
        have ham := ramong_any u ⟨A5, n5, c5, S⟩ wr hku (hS4.ok.below hbel)
        simp only at ham
        have HA1 := Lib.hid hA1
        have HA2 := Lib.hid hA2
        rw [hA1, hA2]
        obtain ⟨β, hβ⟩ : ∃ β, wantB u.zs S = β := ⟨_, rfl⟩
        rw [hβ] at ham HBS
        clear hgd hv hmem htk hjl hA1 hA2 hgy hku hβ
        cases β
        · have HN : Hid (byS (Ls.all x.b) y.zs S 2000000 ((mustP (Ls.all x.b) y.zs).take (j + 1)) = byS (Ls.all x.b) y.zs S 2000000 ((mustP (Ls.all x.b) y.zs).take j)) := Lib.hid (by rw [HBS.out, if_neg (by simp)])
          clear HBS m2 m3
          go_wp2_with fail
          refine ham.mono ?_
          rintro e w5 ⟨rfl, rfl⟩
          clear ham
          go_wp2
          go_roundw
          case rel => exact ⟨j + 1, by omega, by go_num, by rw [HN.out], hbel⟩
          case measure => simp [intOf]; omega
        · have HN : Hid (byS (Ls.all x.b) y.zs S 2000000 ((mustP (Ls.all x.b) y.zs).take (j + 1)) = min (byS (Ls.all x.b) y.zs S 2000000 ((mustP (Ls.all x.b) y.zs).take j)) (farL ((Ls.all x.b).getD b []) y.zs S)) := Lib.hid (by rw [HBS.out, if_pos rfl])
          clear HBS
          obtain ⟨p3, q3, u3, hA3, hu3, _, hp3, hc3, hku3⟩ := (hx4.below hbel).get m1
          have hg3 : (Ls.all x.b).getD b [] = u3.zs := by
            rw [Ls.all, List.getD_eq_getElem?_getD, List.getElem?_map, hu3]; rfl
          unfold Ls.v at hc3
          rw [hg3] at HN m2 m3
          have hfa := rfar_any u3 y ⟨A5, n5, c5, S⟩ pb (pb + 1) wr hku3 (hy4.below hbel) (hS4.ok.below hbel) m3 (by rw [← hku3.len, m2, HYL.out]) (boxed_below bp hbel) (boxed_below bs hbel)
          simp only at hfa
          have ex1 := (bx4.below hbel).c1
          rw [hA3] at ex1
          clear hu3 hg3 m2 m3 hku3 hA3
          go_wp2_with fail
          refine ham.mono ?_
          rintro e w5 ⟨rfl, rfl⟩
          clear ham
          go_wp2_with fail
          refine hfa.mono ?_
          rintro e w6 ⟨rfl, hB6⟩
          clear hfa ex1
          have hb6 := hbel.trans (hB6.mono hbel.size)
          go_wp2
          go_roundw
          case rel => exact ⟨j + 1, by omega, by go_num, by rw [HN.out], hb6⟩
          case measure => simp [intOf]; omega
      · obtain rfl : j = n2 := by omega
        have HF : Hid (byS (Ls.all x.b) y.zs S 2000000 ((mustP (Ls.all x.b) y.zs).take j) = byE (Ls.all x.b) y.zs) := Lib.hid (by
          rw [List.take_of_length_le (by rw [HUL.out]; exact Nat.le_refl _), HBY.out, HE.out.2])
        rw [HF.out]
        have hS9 := hS4.below hbel
        have hB9 := hB4.trans (hbel.mono hB4.size)
        clear hbel bx4 hx4 hy4 hO4 hU4 hS4 hB4 bp bs
        go_wp2
        go_ret2
        exact ⟨A5, n5, c5, rfl, by rw [HE.out.1]; exact hS9, hB9⟩
end Go.Proofs.YtdckoaljcklmhaaGreatDoor


namespace Go.Proofs.YtdckoaljcklmhaaGreatDoor
open Go.RowKit
set_option linter.unusedVariables false
attribute [local go_sem] Oper.semAt_some

theorem Mk.Ok.cel {w w' : World} {x : Mk} (h : x.Ok w) (hc : Cel w w') : x.Ok w' := by
  refine ⟨h.r.cel hc, h.o.cel hc, ⟨h.b.1, fun hn => ?_⟩, fun u hu => (h.bs u hu).cel hc, h.cap, h.top, fun hn => ?_⟩
  · obtain ⟨b, o, hA, hj⟩ := h.b.2 hn
    refine ⟨b, o, hA, fun j r hr i hi => ?_⟩
    have h1 := hj j r hr i hi
    rw [List.getElem?_map] at hr
    obtain ⟨u, hu, rfl⟩ := Option.map_eq_some_iff.1 hr
    rw [List.getElem?_eq_getElem (by simpa using hi)] at h1 ⊢
    exact hc.cell h1
  · obtain ⟨p, q, hA, hp⟩ := h.at_ hn
    exact ⟨p, q, hA, Nat.lt_of_lt_of_le hp hc.size⟩
theorem InBox.cel {w w' : World} {g : Nat} {x : Mk} (h : InBox w g x) (hc : Cel w w') : InBox w' g x := ⟨hc.cell h.c0, hc.cell h.c1, hc.cell h.c2, Nat.lt_of_lt_of_le h.lt hc.size⟩
/-- What the steps go through, and whether they end. -/
def stepsS (L : List (List Int)) (p : List Int) (xs : List Ls) : Prop := Walked L p (xs.map Ls.zs) ∧ stepF L (itS L p xs.length) = false
def stepsP (L : List (List Int)) (p : List Int) (xs : List Ls) : Prop := Walked L p (xs.map Ls.zs)
/-- What the iterator needs. -/
def StK (x : Mk) (y : Ls) (mb pb : Nat) (W : World) : Prop := InBox W mb x ∧ Boxed W pb 22 (.slice y.A y.n y.c) ∧ x.Ok W ∧ y.Ok W
theorem StK.cel {x : Mk} {y : Ls} {mb pb : Nat} {W W' : World} (h : StK x y mb pb W) (hc : Cel W W') : StK x y mb pb W' := ⟨h.1.cel hc, boxed_cel h.2.1 hc, h.2.2.1.cel hc, h.2.2.2.cel hc⟩
theorem it_mayA {x : Mk} {w : World} {p : List Int} (hx : x.Ok w) (hm : mayA x.r.zs (Ls.all x.b) x.o.zs p = true) (n : Nat) : mayA x.r.zs (Ls.all x.b) x.o.zs (itS (Ls.all x.b) p n) = true := by
  obtain ⟨h1, h2, h3⟩ := mayA_iff.1 hm
  have h4 : x.may = true := h1
  refine mayA_iff.2 ⟨h1, by rw [itS_len]; exact h2, itS_may (mayA_sizes hx hm).2.2.2.2 h3 (fun l hl z hz => ?_) n⟩
  obtain ⟨u, hu, rfl⟩ := List.mem_map.1 hl
  exact ((mk_len hx h4).2.2.2.2.2.2.2 u hu z hz).2
theorem it_sum {x : Mk} {w : World} {p : List Int} (hx : x.Ok w) (hm : mayA x.r.zs (Ls.all x.b) x.o.zs p = true) (n : Nat) : sumP (itS (Ls.all x.b) p n) ≤ sumP (topQ p.length) := by
  obtain ⟨h1, h2, h3⟩ := mayA_iff.1 hm
  have h4 : x.may = true := h1
  refine sumP_le (itS_top (mayA_sizes hx hm).2.2.2.2 h3 (fun l hl z hz => ?_) n)
  obtain ⟨u, hu, rfl⟩ := List.mem_map.1 hl
  exact ((mk_len hx h4).2.2.2.2.2.2.2 u hu z hz).2
theorem by_bound {L : List (List Int)} {p S : List Int} (h : fewS L p = some S) (hg : ∀ b, gainD (L.getD b []) p ≤ 2000000) : byL L p S ≤ 2000000 := by
  obtain ⟨b, hb⟩ := List.exists_mem_of_ne_nil _ (few_in h)
  exact Int.le_trans (by_le hb) (Int.le_trans far_gain (hg _))

set_option maxHeartbeats 1000000 in
theorem rsteps_any (x : Mk) (y : Ls) (w : World) : Calls Tryz.prog 24 #[.agg #[.slice x.r.A x.r.n x.r.c, .slice x.A x.n x.c, .slice x.o.A x.o.n x.o.c], .slice y.A y.n y.c] w fun e w' => e = .returned (.func (.func 64) #[] #[.pointer (some ⟨w.heap.size + 1, 0, none⟩), .pointer (some ⟨w.heap.size, 0, none⟩)]) ∧
    w' = (w.alloc (.cells #[.slice x.r.A x.r.n x.r.c, .slice x.A x.n x.c, .slice x.o.A x.o.n x.o.c] 25)).alloc (.cells #[.slice y.A y.n y.c] 22) := by
  go_enter Tryz.func24, Tryz.ntmps24
  go_wp2
  go_ret
  exact ⟨rfl, rfl⟩
set_option maxRecDepth 100000 in
set_option maxHeartbeats 1000000 in
theorem rsteps1_seq (x : Mk) (y : Ls) (mb pb : Nat) (w : World) (hm : mayA x.r.zs (Ls.all x.b) x.o.zs y.zs = true) :
    SeqR Tryz.prog 64 #[.pointer (some ⟨pb, 0, none⟩), .pointer (some ⟨mb, 0, none⟩)] encL (fun u B W => OwnI W B u) (StK x y mb pb) (fun u W => u.Ok W)
      (stepsS (Ls.all x.b) y.zs) (stepsP (Ls.all x.b) y.zs) w := by
  intro l J Jx W hW hk hJ hJx hY h0
  have HM := Lib.hid hm
  have HX := Lib.hid hk.2.2.1
  obtain ⟨hx8, hp1, hp8, hpr, hrow⟩ := mayA_sizes hk.2.2.1 hm
  have HRO := Lib.hid hrow
  have HP1 := Lib.hid hp1
  have HP8 := Lib.hid hp8
  clear hx8 hp1 hp8 hpr hrow
  refine (callsIn_wide (n := 4)).1 ?_
  refine callsIn_of_wp Tryz.func64 rfl trivial ?_ rfl
  simp only [Tryz.ntmps64, List.size_toArray, List.length_cons, List.length_nil, Nat.reduceAdd, Nat.reduceSub, Array.replicate_succ, Array.replicate_zero, List.push_toArray, List.append_toArray, List.nil_append, List.cons_append]
  have hcp := hk.2.1.cell
  have ex0 := hk.1.c0
  have ex1 := hk.1.c1
  have ex2 := hk.1.c2
  have hst := rstp_any x y W hk.2.2.1 hk.2.2.2 hm
  clear hm
  gi_wp2_with fail
  refine ⟨trivial, (callsIn_wide.2 hst).mono ?_⟩
  rintro e w1 ⟨A, n, c, rfl, hS, hb⟩
  have hc1 := cel_of_below hb
  have hk1 := hk.cel hc1
  have hJ1 := hJ _ _ _ hc1 hb h0
  have hs1 := hb.size
  clear hst ex0 ex1 ex2 hcp hk h0 hb hc1
  gi_wp2
  gi_loopg [4, 5, 6] ((sumP (topQ y.zs.length) - sumP y.zs).toNat) (fun k sa ss sb wr => ∃ (pre : List Ls) (u : Ls) (A : Option Addr) (n c : Nat), sa = .slice u.A u.n u.c ∧ ss = .slice A n c ∧ sb = .int .i64 (byE (Ls.all x.b) u.zs) ∧
    Hid (u.zs = itS (Ls.all x.b) y.zs pre.length ∧ Walked (Ls.all x.b) y.zs (pre.map Ls.zs) ∧ sumP (topQ y.zs.length) - sumP u.zs ≤ k) ∧ u.Ok wr ∧ Ls.Ok wr ⟨A, n, c, setE (Ls.all x.b) u.zs⟩ ∧ J pre wr ∧ W.heap.size ≤ wr.heap.size ∧ StK x y mb pb wr)
  case atStart => exact ⟨[], y, A, n, c, rfl, rfl, rfl, Lib.hid ⟨rfl, Walked.nil, by omega⟩, hk1.2.2.2, hS.ok, hJ1, hs1, hk1⟩
  case round =>
    obtain ⟨pre, u, A, n, c, rfl, rfl, rfl, hin, hu, hS, hJr, hsz, hkr⟩ := hrel
    clear hk1 hJ1 hs1
    have HMU : Hid (mayA x.r.zs (Ls.all x.b) x.o.zs u.zs = true) := Lib.hid (by rw [hin.out.1]; exact it_mayA HX.out HM.out _)
    have HUL := Lib.hid hu.len
    have hun : u.zs.length = y.zs.length := by rw [hin.out.1, itS_len]
    have hu0 : 0 < u.n := by rw [← HUL.out, hun]; exact HP1.out
    have hu8 : u.n ≤ 8 := by rw [← HUL.out, hun]; exact HP8.out
    have HRU : Hid (RowsM u.zs (Ls.all x.b)) := Lib.hid (rows_same HRO.out hun)
    clear hun
    obtain ⟨S, hfs⟩ : ∃ S, fewS (Ls.all x.b) u.zs = S := ⟨_, rfl⟩
    cases S with
    | none =>
      rw [(byE_none hfs).2]
      have HF : Hid (stepsS (Ls.all x.b) y.zs pre) := Lib.hid ⟨hin.out.2.1, by rw [← hin.out.1]; exact (stepL_none hfs).2⟩
      clear hfs hS hu hkr
      gi_wp2
      go_end0
      exact ⟨⟨_, rfl⟩, .inl ⟨pre, HF.out, hJr⟩⟩
    | some S =>
      rw [(byE_some hfs).1] at hS
      rw [(byE_some hfs).2]
      have hz1 := by_pos HRU.out hfs
      have hz2 := by_bound hfs (gain_top HMU.out)
      have HST : Hid (upL u.zs S (byL (Ls.all x.b) u.zs S) = itS (Ls.all x.b) y.zs (pre.length + 1)) := Lib.hid (by rw [← (stepL_some hfs).1, hin.out.1]; rfl)
      have hsf : stepF (Ls.all x.b) (itS (Ls.all x.b) y.zs pre.length) = true := by rw [← hin.out.1]; exact (stepL_some hfs).2
      have HSU : Hid (sumP u.zs < sumP (itS (Ls.all x.b) y.zs (pre.length + 1)) ∧ sumP (itS (Ls.all x.b) y.zs (pre.length + 1)) ≤ sumP (topQ y.zs.length)) := Lib.hid ⟨by rw [hin.out.1]; exact itS_sum HRO.out hsf, it_sum HX.out HM.out _⟩
      have HWK : Hid (Walked (Ls.all x.b) y.zs (pre.map Ls.zs ++ [itS (Ls.all x.b) y.zs (pre.length + 1)])) := Lib.hid (by
        have h5 := hin.out.2.1.snoc (by rw [List.length_map]; exact hsf)
        rw [List.length_map] at h5; exact h5)
      obtain ⟨z, hz⟩ : ∃ z, byL (Ls.all x.b) u.zs S = z := ⟨_, rfl⟩
      rw [hz] at hz1 hz2 HST ⊢
      have hz0 : 0 < z := by omega
      have hde := rdearer_any u ⟨A, n, c, S⟩ z wr hu hS hu0 hu8 (fun q hq => (mayPr_iff.1 (mayA_iff.1 HMU.out).2.2).2.2 q hq) ⟨by omega, hz2⟩ (few_rises hfs)
      rw [HST.out] at hde
      simp only at hde
      have HL1 : Hid ((itS (Ls.all x.b) y.zs (pre.length + 1)).length = u.n) := Lib.hid (by rw [itS_len, ← HUL.out, hin.out.1, itS_len])
      have HMV : Hid (mayA x.r.zs (Ls.all x.b) x.o.zs (itS (Ls.all x.b) y.zs (pre.length + 1)) = true) := Lib.hid (it_mayA HX.out HM.out _)
      have HNX : Hid (itS (Ls.all x.b) y.zs (pre.length + 1) = itS (Ls.all x.b) y.zs (pre.length + 1)) := Lib.hid rfl
      obtain ⟨q, hq⟩ : ∃ q, itS (Ls.all x.b) y.zs (pre.length + 1) = q := ⟨_, rfl⟩
      rw [hq] at hde HSU HWK HMV
      have HQ := Lib.hid hq
      clear hfs hS hz hsf hz1 hz2 hq HST HNX HL1
      gi_wp2_with fail
      refine ⟨trivial, (callsIn_wide.2 hde).mono ?_⟩
      rintro e w3 ⟨A3, c3, rfl, ho, hbl⟩
      clear hde
      have hc3 := cel_of_below hbl
      have hk3 := hkr.cel hc3
      obtain ⟨fn, tmps, assign, body, hyy, hR⟩ := hY pre (⟨A3, u.n, c3, q⟩ : Ls) wr w3 hJr hk3 hc3 (hbl.mono hsz) ho
      unfold encL at hyy
      dsimp only at hyy
      have hs3 := hbl.size
      clear hbl hc3 hk3 ho hkr hJr
      gi_wp2
      refine hR.mono ?_
      rintro e W4 (⟨rfl, hJ4, hk4, hv4, hs4⟩ | ⟨rfl, hJx4⟩)
      · have ex0 := hk4.1.c0
        have ex1 := hk4.1.c1
        have ex2 := hk4.1.c2
        have hst := rstp_any x ⟨A3, u.n, c3, q⟩ W4 hk4.2.2.1 hv4 HMV.out
        simp only at hst
        clear hyy hR
        gi_wp2_with fail
        refine ⟨trivial, (callsIn_wide.2 hst).mono ?_⟩
        rintro e w5 ⟨A5, n5, c5, rfl, hS5, hb5⟩
        have hc5 := cel_of_below hb5
        have hk5 := hk4.cel hc5
        have hJ5 := hJ _ _ _ hc5 (hb5.mono (by omega)) hJ4
        have hv5 := hv4.below hb5
        have hs5 := hb5.size
        have HG : Hid ((⟨A3, u.n, c3, q⟩ : Ls).zs = itS (Ls.all x.b) y.zs (pre ++ [(⟨A3, u.n, c3, q⟩ : Ls)]).length ∧ Walked (Ls.all x.b) y.zs ((pre ++ [(⟨A3, u.n, c3, q⟩ : Ls)]).map Ls.zs) ∧ sumP (topQ y.zs.length) - sumP (⟨A3, u.n, c3, q⟩ : Ls).zs ≤ ((gk - 1 : Nat) : Int) ∧ 1 ≤ gk) := Lib.hid (by
          have h1 := HSU.out
          have h2 := hin.out.2.2
          refine ⟨?_, ?_, ?_, by omega⟩
          · rw [List.length_append, List.length_singleton, HQ.out]
          · rw [List.map_append]; exact HWK.out
          · show sumP (topQ y.zs.length) - sumP q ≤ _
            omega)
        clear hst ex0 ex1 ex2 hk4 hJ4 hv4 hb5 hc5 hin HSU
        gi_wp2
        gi_roundg (gk - 1)
        case measure => have := HG.out.2.2.2; omega
        case rel => exact ⟨pre ++ [(⟨A3, u.n, c3, q⟩ : Ls)], ⟨A3, u.n, c3, q⟩, A5, n5, c5, rfl, rfl, rfl, Lib.hid ⟨HG.out.1, HG.out.2.1, HG.out.2.2.1⟩, hv5, hS5.ok, hJ5, by omega, hk5⟩
      · clear hyy hR
        have HF : Hid (stepsP (Ls.all x.b) y.zs (pre ++ [(⟨A3, u.n, c3, q⟩ : Ls)])) := Lib.hid (by rw [stepsP, List.map_append]; exact HWK.out)
        gi_wp2
        refine bodyPost_ret (results_none rfl _ _ _) rfl ?_
        exact ⟨⟨_, rfl⟩, .inr ⟨_, HF.out, hJx4⟩⟩
end Go.Proofs.YtdckoaljcklmhaaGreatDoor


namespace Go.Proofs.YtdckoaljcklmhaaGreatDoor
open Go.RowKit Go.Shelf
set_option linter.unusedVariables false
attribute [local go_sem] Oper.semAt_some

theorem mayS_A {x : Mk} {p : List Int} {w : World} (hx : x.Ok w) (h : mayS x p = true) : mayA x.r.zs (Ls.all x.b) x.o.zs p = true := by
  obtain ⟨h1, h2, h3⟩ := mayS_iff.1 h
  obtain ⟨k1, k2, k3, _, _, _, k7, _⟩ := mk_len hx h1
  have h4 := hx.r.len
  refine mayA_iff.2 ⟨h1, h2, mayPr_iff.2 ⟨by omega, by omega, fun z hz => ?_⟩⟩
  obtain ⟨c, hc, e⟩ := List.getElem_of_mem hz
  have h5 := h3 c hc
  have hc2 : c < x.r.zs.length := by omega
  have h6 := (k7 _ (List.getElem_mem hc2)).1
  rw [List.getD_eq_getElem?_getD, List.getD_eq_getElem?_getD, List.getElem?_eq_getElem hc, List.getElem?_eq_getElem hc2, Option.getD_some, Option.getD_some, e] at h5
  omega
theorem step_bad {x : Mk} {p : List Int} (h : mayS x p = false) : stepE x p = [] ∧ stepB x p = false ∧ stepErr x p = 1 := by simp [stepE, stepB, stepErr, h]
theorem step_ok {x : Mk} {p : List Int} (h : mayS x p = true) : stepE x p = stepL (Ls.all x.b) p ∧ stepB x p = stepF (Ls.all x.b) p ∧ stepErr x p = 0 := by simp [stepE, stepB, stepErr, h]
/-- The world in which a call of Step begins. -/
def stepW (w : World) (x : Mk) : World := (((w.alloc (.cells #[.slice x.r.A x.r.n x.r.c, .slice x.A x.n x.c, .slice x.o.A x.o.n x.o.c] 25)).alloc (.cells #[.slice none 0 0] 22)).alloc (.cells #[.bool false] 4)).alloc (.cells #[.int .i64 0] 30)
theorem stepW_facts (w : World) (x : Mk) : Below w.heap.size w (stepW w x) ∧ InBox (stepW w x) w.heap.size x ∧ Boxed (stepW w x) (w.heap.size + 1) 22 (.slice none 0 0) ∧ Boxed (stepW w x) (w.heap.size + 1 + 1) 4 (.bool false) ∧ Boxed (stepW w x) (w.heap.size + 1 + 1 + 1) 30 (.int .i64 0) := by
  have h1 := (InBox.new w x).below ((Below.refl _ _).alloc (Nat.le_refl _) (.cells #[.slice none 0 0] 22))
  have h2 := h1.below ((Below.refl _ _).alloc (Nat.le_refl _) (.cells #[.bool false] 4))
  have h3 := h2.below ((Below.refl _ _).alloc (Nat.le_refl _) (.cells #[.int .i64 0] 30))
  have b1 := ((Boxed.new (w.alloc (.cells #[.slice x.r.A x.r.n x.r.c, .slice x.A x.n x.c, .slice x.o.A x.o.n x.o.c] 25)) 22 (.slice none 0 0)).alloc (.cells #[.bool false] 4)).alloc (.cells #[.int .i64 0] 30)
  have b2 := (Boxed.new ((w.alloc (.cells #[.slice x.r.A x.r.n x.r.c, .slice x.A x.n x.c, .slice x.o.A x.o.n x.o.c] 25)).alloc (.cells #[.slice none 0 0] 22)) 4 (.bool false)).alloc (.cells #[.int .i64 0] 30)
  have b3 := Boxed.new (((w.alloc (.cells #[.slice x.r.A x.r.n x.r.c, .slice x.A x.n x.c, .slice x.o.A x.o.n x.o.c] 25)).alloc (.cells #[.slice none 0 0] 22)).alloc (.cells #[.bool false] 4)) 30 (.int .i64 0)
  simp only [World.size_alloc] at b1 b2 b3
  exact ⟨((((Below.refl _ w).alloc (Nat.le_refl _) _).alloc (by simp) _).alloc (by simp; omega) _).alloc (by simp; omega) _, h3, b1, b2, b3⟩

set_option maxRecDepth 100000 in
set_option maxHeartbeats 2000000 in
theorem pstepC : StepC 8 := by
  intro x y w hx hy
  have hv : x.v = .agg #[.slice x.r.A x.r.n x.r.c, .slice x.A x.n x.c, .slice x.o.A x.o.n x.o.c] := rfl
  have hck := mcheckC x
  rw [hv] at hck ⊢
  unfold Ls.v
  obtain ⟨hBW, bx, b1, b2, b3⟩ := stepW_facts w x
  have hxW := hx.below hBW
  have hyW := hy.below hBW
  have hck := hck _ hxW
  have HX := Lib.hid hx
  clear hx hy hv
  refine (callsIn_wide (n := 4)).1 ?_
  refine callsIn_of_wp_marks Tryz.func8 rfl trivial ?_ rfl
  simp only [Tryz.ntmps8, List.size_toArray, List.length_cons, List.length_nil, Nat.reduceAdd, Nat.reduceSub, Array.replicate_succ, Array.replicate_zero, List.push_toArray, List.append_toArray, List.nil_append, List.cons_append]
  refine wpIn_wide.2 ?_
  have ex0 := bx.c0
  have ex1 := bx.c1
  have ex2 := bx.c2
  obtain ⟨βm, hβm⟩ : ∃ β, x.may = β := ⟨_, rfl⟩
  rw [hβm] at hck
  have HBM := Lib.hid hβm
  clear hβm
  unfold stepW at hck hBW bx b1 b2 b3 hxW hyW ex0 ex1 ex2
  go_wp2_with fail
  refine hck.mono ?_
  rintro e w2 ⟨rfl, hb2⟩
  clear hck ex0 ex1 ex2
  have bx2 := bx.below hb2
  have c1 := boxed_below b1 hb2
  have c2 := boxed_below b2 hb2
  have c3 := boxed_below b3 hb2
  have hx2 := hxW.below hb2
  have hy2 := hyW.below hb2
  have hB2 := hBW.trans (hb2.mono hBW.size)
  clear hb2 bx b1 b2 b3 hxW hyW hBW
  obtain ⟨r1, hr1⟩ : ∃ b, b = w.heap.size + 1 := ⟨_, rfl⟩
  obtain ⟨r2, hr2⟩ : ∃ b, b = w.heap.size + 1 + 1 := ⟨_, rfl⟩
  obtain ⟨r3, hr3⟩ : ∃ b, b = w.heap.size + 1 + 1 + 1 := ⟨_, rfl⟩
  rw [← hr3] at c3
  rw [← hr2] at c2
  rw [← hr1] at c1
  rw [← hr3, ← hr2, ← hr1]
  have n12 : r1 ≠ r2 := by omega
  have n13 : r1 ≠ r3 := by omega
  have n23 : r2 ≠ r3 := by omega
  have l1 : w.heap.size ≤ r1 := by omega
  have l2 : w.heap.size ≤ r2 := by omega
  have l3 : w.heap.size ≤ r3 := by omega
  clear hr1 hr2 hr3
  cases βm
  · obtain ⟨f1, f2, f3⟩ := step_bad (x := x) (p := y.zs) (by rw [mayS_eq, HBM.out]; rfl)
    have F := Lib.hid (And.intro f1 (And.intro f2 f3))
    clear f1 f2 f3
    obtain ⟨p2, p3, q1, q2, q3⟩ := put3 (.slice none 0 0) (.bool false) (.int .i64 1) c1 c2 c3 n12 n13 n23
    have hB3 := below3 (v1 := .slice none 0 0) (v2 := .bool false) (v3 := .int .i64 1) hB2 l1 l2 l3
    have x1 := c1.cell
    have y1 := c1.frozen
    have x2 := p2.cell
    have y2 := p2.frozen
    have x3 := p3.cell
    have y3 := p3.frozen
    have z1 := q1.cell
    have z2 := q2.cell
    have z3 := q3.cell
    clear c1 c2 c3 p2 p3 q1 q2 q3 l1 l2 l3 n12 n13 n23 bx2 hx2 hy2 hB2
    go_wp2
    refine postM_ret (v := .tuple #[.slice none 0 0, .bool false, .int .i64 1]) (by simp [results, Tryz.f8, go_sem, z1, z2, z3]) rfl ⟨none, 0, 0, by rw [F.out.2.1, F.out.2.2], by rw [F.out.1]; exact OwnI.nil _ _, hB3⟩
  have hmb := rmaybe_any y x.r w2 hy2 hx2.r
  obtain ⟨βr, hβr⟩ : ∃ β, mayR x.r.zs y.zs = β := ⟨_, rfl⟩
  rw [hβr] at hmb
  have HMS := Lib.hid (show mayS x y.zs = βr by rw [mayS_eq, HBM.out, hβr]; rfl)
  clear hβr
  have ex0 := bx2.c0
  have ex1 := bx2.c1
  have ex2 := bx2.c2
  go_wp2_with fail
  refine hmb.mono ?_
  rintro e w3 ⟨rfl, rfl⟩
  clear hmb
  cases βr
  · obtain ⟨f1, f2, f3⟩ := step_bad HMS.out
    have F := Lib.hid (And.intro f1 (And.intro f2 f3))
    clear f1 f2 f3
    obtain ⟨p2, p3, q1, q2, q3⟩ := put3 (.slice none 0 0) (.bool false) (.int .i64 1) c1 c2 c3 n12 n13 n23
    have hB3 := below3 (v1 := .slice none 0 0) (v2 := .bool false) (v3 := .int .i64 1) hB2 l1 l2 l3
    have x1 := c1.cell
    have y1 := c1.frozen
    have x2 := p2.cell
    have y2 := p2.frozen
    have x3 := p3.cell
    have y3 := p3.frozen
    have z1 := q1.cell
    have z2 := q2.cell
    have z3 := q3.cell
    clear c1 c2 c3 p2 p3 q1 q2 q3 l1 l2 l3 n12 n13 n23 bx2 hx2 hy2 hB2 ex0 ex1 ex2
    go_wp2
    refine postM_ret (v := .tuple #[.slice none 0 0, .bool false, .int .i64 1]) (by simp [results, Tryz.f8, go_sem, z1, z2, z3]) rfl ⟨none, 0, 0, by rw [F.out.2.1, F.out.2.2], by rw [F.out.1]; exact OwnI.nil _ _, hB3⟩
  have HMA := Lib.hid (mayS_A HX.out HMS.out)
  obtain ⟨f1, f2, f3⟩ := step_ok HMS.out
  have F := Lib.hid (And.intro f1 (And.intro f2 f3))
  clear f1 f2 f3
  have hst := rsteps_any x y w3
  go_wp2_with fail
  refine hst.mono ?_
  rintro e w' ⟨rfl, rfl⟩
  clear hst ex0 ex1 ex2
  have kb : Below w3.heap.size w3 ((w3.alloc (.cells #[.slice x.r.A x.r.n x.r.c, .slice x.A x.n x.c, .slice x.o.A x.o.n x.o.c] 25)).alloc (.cells #[.slice y.A y.n y.c] 22)) := ((Below.refl _ w3).alloc (Nat.le_refl _) _).alloc (by simp) _
  have bm := (InBox.new w3 x).below ((Below.refl _ _).alloc (Nat.le_refl _) (.cells #[.slice y.A y.n y.c] 22))
  have bp := Boxed.new (w3.alloc (.cells #[.slice x.r.A x.r.n x.r.c, .slice x.A x.n x.c, .slice x.o.A x.o.n x.o.c] 25)) 22 (.slice y.A y.n y.c)
  rw [World.size_alloc] at bp
  have e1 := boxed_below c1 kb
  have e2 := boxed_below c2 kb
  have e3 := boxed_below c3 kb
  have hB4 := hB2.trans (kb.mono hB2.size)
  have hk0 : StK x y w3.heap.size (w3.heap.size + 1) _ := ⟨bm, bp, hx2.below kb, hy2.below kb⟩
  obtain ⟨mb, hmb⟩ : ∃ b, b = w3.heap.size := ⟨_, rfl⟩
  rw [← hmb] at hk0 ⊢
  clear hmb kb bm bp c1 c2 c3 hB2 hx2 hy2 bx2
  generalize (w3.alloc (.cells #[.slice x.r.A x.r.n x.r.c, .slice x.A x.n x.c, .slice x.o.A x.o.n x.o.c] 25)).alloc (.cells #[.slice y.A y.n y.c] 22) = w4 at *
  go_wp2
  refine (wpIn_wide (n := 4)).1 ?_
  refine range_seqR (n := 4) (by omega) (gf := 64) (lb := #[.pointer (some ⟨mb + 1, 0, none⟩), .pointer (some ⟨mb, 0, none⟩)]) rfl (enters_of Tryz.func64 (by kernel_rfl) rfl)
    (rsteps1_seq x y mb (mb + 1) w4 HMA.out) (Below.refl _ _) (fun _ => rfl) (fun u B a b hc h => h.cel hc) (fun a b hc h => h.cel hc) (fun u a b hc h => h.cel hc) hk0
    (fun pre W => pre = [] ∧ Below w4.heap.size w4 W)
    (fun pre W => ∃ u : Ls, pre = [u] ∧ OwnI W w.heap.size u ∧ Boxed W r1 22 (.slice u.A u.n u.c) ∧ Boxed W r2 4 (.bool true) ∧ Boxed W r3 30 (.int .i64 0) ∧ Below w.heap.size w W)
    (fun s a b hc hb h => ⟨h.1, h.2.trans hb⟩)
    (fun s a b hc hb h => by
      obtain ⟨u, h1, h2, h3, h4, h5, h6⟩ := h
      exact ⟨u, h1, h2.cel hc, boxed_cel h3 hc, boxed_cel h4 hc, boxed_cel h5 hc, h6.trans (hb.mono hB4.size)⟩)
    ⟨rfl, Below.refl _ _⟩
    (fun u a' _ => a' = { tmps := #[.agg #[.slice x.r.A x.r.n x.r.c, .slice x.A x.n x.c, .slice x.o.A x.o.n x.o.c], .slice y.A y.n y.c, .pointer (some ⟨w.heap.size, 0, none⟩), undef, .pointer (some ⟨r1, 0, none⟩), .pointer (some ⟨r2, 0, none⟩), .pointer (some ⟨r3, 0, none⟩), .slice u.A u.n u.c, .agg #[.slice x.r.A x.r.n x.r.c, .slice x.A x.n x.c, .slice x.o.A x.o.n x.o.c], .bool true, .bool false, .bool false, .slice y.A y.n y.c, .pointer (some ⟨w.heap.size, 0, none⟩), .slice x.r.A x.r.n x.r.c, .bool true, .bool false, .bool false, .agg #[.slice x.r.A x.r.n x.r.c, .slice x.A x.n x.c, .slice x.o.A x.o.n x.o.c], .slice y.A y.n y.c, .func (.func 64) #[] #[.pointer (some ⟨mb + 1, 0, none⟩), .pointer (some ⟨mb, 0, none⟩)], .slice u.A u.n u.c, undef, undef, undef], defers := [] })
    (fun _ _ _ _ _ h => h) ?assign ?body ?done ?stop
  case assign =>
    intro lb pre' u B V K hI hE hV hK
    simp only [encL, List.zip_toArray, List.zip_cons_cons, List.zip_nil_right, List.foldl_toArray', List.foldl_cons, List.foldl_nil, List.size_toArray, List.setIfInBounds_toArray, List.set_cons_succ, List.set_cons_zero]
    gi_wp2
    exact hK _ _ (Below.refl _ _) rfl
  case body =>
    rintro lb pre' u a' V0 V ⟨rfl, hV0⟩ hcel hbel hOu rfl hkV
    have f1 := boxed_cel (boxed_below e1 hV0) hcel
    have f2 := boxed_cel (boxed_below e2 hV0) hcel
    have f3 := boxed_cel (boxed_below e3 hV0) hcel
    have hBV := hB4.trans ((hV0.trans (hbel.mono (Nat.le_refl _))).mono hB4.size)
    have hO := hOu.mono (show w.heap.size ≤ V0.heap.size from Nat.le_trans hB4.size hV0.size)
    obtain ⟨p2, p3, q1, q2, q3⟩ := put3 (.slice u.A u.n u.c) (.bool true) (.int .i64 0) f1 f2 f3 n12 n13 n23
    have hB5 := Lib.hid (below3 (v1 := .slice u.A u.n u.c) (v2 := .bool true) (v3 := .int .i64 0) hBV l1 l2 l3)
    have hk5 : Hid (KeepsOthers V (((V.setCell ⟨r1, 0, none⟩ (.slice u.A u.n u.c)).setCell ⟨r2, 0, none⟩ (.bool true)).setCell ⟨r3, 0, none⟩ (.int .i64 0))) := Lib.hid (((KeepsOthers.setCell _ _ _).trans (KeepsOthers.setCell _ _ _)).trans (KeepsOthers.setCell _ _ _))
    have x1 := f1.cell
    have y1 := f1.frozen
    have x2 := p2.cell
    have y2 := p2.frozen
    have x3 := p3.cell
    have y3 := p3.frozen
    have Q := Lib.hid (⟨q1, q2, q3⟩ : _ ∧ _ ∧ _)
    have HY4 := Lib.hid (((hO.box (.slice u.A u.n u.c) f1 (by decide)).box (.bool true) p2 (by decide)).box (.int .i64 0) p3 (by decide))
    clear f1 f2 f3 p2 p3 q1 q2 q3 l1 l2 l3 n12 n13 n23 hBV hO hOu hkV hcel hbel hV0 e1 e2 e3 hk0
    gi_wp2
    exact ⟨hk5.out, u, rfl, HY4.out, Q.out.1, Q.out.2.1, Q.out.2.2, hB5.out⟩
  case done =>
    rintro D ys V hD hys ⟨rfl, hVb⟩ hK
    have hfin : stepF (Ls.all x.b) y.zs = false := hys.2
    have HF : Hid (stepL (Ls.all x.b) y.zs = y.zs ∧ stepF (Ls.all x.b) y.zs = false) := Lib.hid ⟨by
      refine (stepL_none ?_).1
      rw [stepF] at hfin
      exact Option.isNone_iff_eq_none.1 (by cases h : fewS (Ls.all x.b) y.zs <;> simp_all), hfin⟩
    obtain ⟨_, m1, m2, m3, _⟩ := mayA_sizes HX.out HMA.out
    have hyV := hk0.2.2.2.below hVb
    have hyl := hyV.len
    have hcl := pclone_any y.A y.n y.c y.zs V hyV (by omega) (by omega)
    have f1 := boxed_below e1 hVb
    have f2 := boxed_below e2 hVb
    have f3 := boxed_below e3 hVb
    have hBV := hB4.trans (hVb.mono hB4.size)
    have HDW : Hid (w.heap.size ≤ D) := Lib.hid (Nat.le_trans hB4.size hD)
    have hDn : Hid (r1 ≠ D ∧ r2 ≠ D ∧ r3 ≠ D) := Lib.hid ⟨by have := e1.lt; omega, by have := e2.lt; omega, by have := e3.lt; omega⟩
    clear hys hfin m1 m2 m3 hyl hyV e1 e2 e3 hk0 hB4 hVb hD
    go_wp2_with fail
    refine hcl.mono ?_
    rintro e V2 ⟨A9, c9, rfl, hO9, hb9⟩
    clear hcl
    have g1 := boxed_below f1 hb9
    have g2 := boxed_below f2 hb9
    have g3 := boxed_below f3 hb9
    have hK9 := (hb9.block D (Array.getElem?_eq_some_iff.1 hK).1).trans hK
    have hB9 := hBV.trans (hb9.mono hBV.size)
    have hO := hO9.mono hBV.size
    obtain ⟨p2, p3, q1, q2, q3⟩ := put3 (.slice A9 y.n c9) (.bool false) (.int .i64 0) g1 g2 g3 n12 n13 n23
    have hB5 := below3 (v1 := .slice A9 y.n c9) (v2 := .bool false) (v3 := .int .i64 0) hB9 l1 l2 l3
    have hO5 := ((hO.box (.slice A9 y.n c9) g1 (by decide)).box (.bool false) p2 (by decide)).box (.int .i64 0) p3 (by decide)
    have x1 := g1.cell
    have y1 := g1.frozen
    have x2 := p2.cell
    have y2 := p2.frozen
    have x3 := p3.cell
    have y3 := p3.frozen
    have hK5 : (((V2.setCell ⟨r1, 0, none⟩ (.slice A9 y.n c9)).setCell ⟨r2, 0, none⟩ (.bool false)).setCell ⟨r3, 0, none⟩ (.int .i64 0)).heap[D]? = some (.deferred (some [])) :=
      (heap_setCell_other _ ⟨r3, 0, none⟩ D _ (Ne.symm hDn.out.2.2)).trans ((heap_setCell_other _ ⟨r2, 0, none⟩ D _ (Ne.symm hDn.out.2.1)).trans ((heap_setCell_other _ ⟨r1, 0, none⟩ D _ (Ne.symm hDn.out.1)).trans hK9))
    have Q := Lib.hid (⟨q1, q2, q3, hB5, hO5, hK5⟩ : _ ∧ _ ∧ _ ∧ _ ∧ _ ∧ _)
    clear f1 f2 f3 g1 g2 g3 p2 p3 q1 q2 q3 hB5 hO5 hK5 hK hK9 hB9 hO hO9 hb9 hBV l1 l2 l3 n12 n13 n23
    go_wp2
    obtain ⟨q1, q2, q3, hB5, hO5, hK5⟩ := Q.out
    generalize ((V2.setCell ⟨r1, 0, none⟩ (.slice A9 y.n c9)).setCell ⟨r2, 0, none⟩ (.bool false)).setCell ⟨r3, 0, none⟩ (.int .i64 0) = V5 at *
    have hcp := cel_putObj (.deferred none) hK5 rfl
    have z1 := (boxed_cel q1 hcp).cell
    have z2 := (boxed_cel q2 hcp).cell
    have z3 := (boxed_cel q3 hcp).cell
    refine postM_mark hK5 (v := .tuple #[.slice A9 y.n c9, .bool false, .int .i64 0]) (by simp [results, Tryz.f8, go_sem, z1, z2, z3]) rfl ⟨A9, y.n, c9, by rw [F.out.2.1, F.out.2.2, HF.out.2], ?_, hB5.trans (below_put (o := .deferred none) (o' := .deferred none) (W := V5) HDW.out)⟩
    rw [F.out.1, HF.out.1]
    exact hO5.cel hcp
  case stop =>
    rintro D pre V hD hsp ⟨u, rfl, h2, h3, h4, h5, h6⟩ hK
    have hw := hsp 0 (by simp)
    have HW : Hid (stepF (Ls.all x.b) y.zs = true ∧ u.zs = stepL (Ls.all x.b) y.zs) := Lib.hid ⟨hw.1, Option.some.inj hw.2⟩
    have hc := cel_putObj (w := V) (l := D) (.deferred none) hK rfl
    have z1 := (boxed_cel h3 hc).cell
    have z2 := (boxed_cel h4 hc).cell
    have z3 := (boxed_cel h5 hc).cell
    have HDW : Hid (w.heap.size ≤ D) := Lib.hid (Nat.le_trans hB4.size hD)
    clear hw hsp
    gi_wp2
    refine postM_mark (v := .tuple #[.slice u.A u.n u.c, .bool true, .int .i64 0]) hK (by simp [results, Tryz.f8, go_sem, z1, z2, z3]) rfl ⟨u.A, u.n, u.c, by rw [F.out.2.1, F.out.2.2, HW.out.1], ?_, h6.trans (below_put (o := .deferred none) (o' := .deferred none) (W := V) HDW.out)⟩
    rw [F.out.1, ← HW.out.2]
    exact h2.cel hc
end Go.Proofs.YtdckoaljcklmhaaGreatDoor


namespace Go.Proofs.YtdckoaljcklmhaaGreatDoor
open Go.RowKit Go.Shelf
set_option linter.unusedVariables false
attribute [local go_sem] Oper.semAt_some

theorem infoU_ints : (Tryz.prog.info? 22).map (fun i => (i.zero, i.size, i.bytes)) = some (some (.slice none 0 0), 1, 24) := by kernel_rfl
theorem sizeU_ints : (Tryz.prog.info? 22).map (·.size) = some 1 := by kernel_rfl
/-- The bids so far; none of those behind. -/
def headB (b : List Ls) (k : Nat) : List Ls := b.take k ++ List.replicate (b.length - k) Ls.nil
theorem headB_len {b : List Ls} {k : Nat} (hk : k ≤ b.length) : (headB b k).length = b.length := by
  rw [headB, List.length_append, List.length_take, List.length_replicate]; omega
theorem headB_all (b : List Ls) (k : Nat) : Ls.all (headB b k) = headL (Ls.all b) k := by
  rw [headB, headL, Ls.all, List.map_append, List.map_take, List.map_replicate, Ls.all, List.length_map]; rfl
/-- The market of the bidders so far. -/
def headM (x : Mk) (A : Option Addr) (k : Nat) : Mk := ⟨x.r, A, x.n, x.n, headB x.b k, x.o⟩
theorem headM_ok {x : Mk} {A : Option Addr} {k B : Nat} {w : World} (hx : x.Ok w) (h : Own w B 22 A x.n x.n ((headB x.b k).map Ls.v)) : (headM x A k).Ok w := by
  refine ⟨hx.r, hx.o, outs_at h, fun u hu => ?_, Nat.le_refl _, Nat.le_trans hx.cap hx.top, fun hn => ?_⟩
  · rcases List.mem_append.1 hu with h5 | h5
    · exact hx.bs u (List.mem_of_mem_take h5)
    · rw [List.eq_of_mem_replicate h5]; exact (OwnI.nil w 0).ok
  · obtain ⟨g, hA, _, hg⟩ := h.lt hn
    exact ⟨g, 0, hA, hg⟩
set_option maxRecDepth 100000 in
set_option maxHeartbeats 1000000 in
theorem rupto_any (x : Mk) (k : Nat) (w : World) (h : x.Ok w) (hk : k < x.n) (h8 : x.n ≤ 8) :
    Calls Tryz.prog 30 #[.agg #[.slice x.r.A x.r.n x.r.c, .slice x.A x.n x.c, .slice x.o.A x.o.n x.o.c], .int .i64 k] w fun e w' => ∃ A : Option Addr, e = .returned (.agg #[.slice x.r.A x.r.n x.r.c, .slice A x.n x.n, .slice x.o.A x.o.n x.o.c]) ∧ Own w' w.heap.size 22 A x.n x.n ((headB x.b (k + 1)).map Ls.v) ∧ Below w.heap.size w w' := by
  obtain ⟨i9, hi9, hy0, hy1, hy2⟩ := info_parts infoU_ints
  have tn := Nat.le_trans h.cap h.top
  have hcap := h.cap
  have htop := h.top
  have HL := Lib.hid h.len
  unfold maxLen at tn htop
  have hbox := InBox.new w x
  have hW : ∀ W, (w.alloc (.cells #[.slice x.r.A x.r.n x.r.c, .slice x.A x.n x.c, .slice x.o.A x.o.n x.o.c] 25)).alloc (.cells #[.slice none 0 0, .slice none 0 0, .slice none 0 0] 25) = W →
      Own W w.heap.size 25 (some ⟨w.heap.size + 1, 0, none⟩) 3 3 [.slice none 0 0, .slice none 0 0, .slice none 0 0] ∧ InBox W w.heap.size x ∧ Below w.heap.size w W ∧ W.heap.size = w.heap.size + 2 := by
    rintro _ rfl
    have hz : ∀ o1 : Obj, (w.alloc o1).heap.size = w.heap.size + 1 := fun o1 => Array.size_push ..
    have h2 := Own.lit (B := w.heap.size) (w.alloc (.cells #[.slice x.r.A x.r.n x.r.c, .slice x.A x.n x.c, .slice x.o.A x.o.n x.o.c] 25)) 25 #[.slice none 0 0, .slice none 0 0, .slice none 0 0] 3 (by rw [hz]; omega) rfl (by unfold maxLen; omega)
    rw [hz] at h2
    refine ⟨h2, hbox.below ((Below.refl _ _).alloc (Nat.le_refl _) _), ((Below.refl _ w).alloc (Nat.le_refl _) _).alloc (by rw [hz]; omega) _, ?_⟩
    show ((w.heap.push _).push _).size = _
    rw [Array.size_push, Array.size_push]
  clear hbox
  obtain ⟨p, q, hA, hp, hat⟩ := bids_at h (by omega)
  have s1 : IntKind.i64.wrap ((k : Int) + 1) = ((k + 1 : Nat) : Int) := by rw [IntKind.wrap_i64]; omega
  have HX := Lib.hid h
  have HAT := Lib.hid hat
  obtain ⟨hR, hbox, hBW, hWs⟩ := hW _ rfl
  have ⟨c0, c1, c2, clt⟩ := hbox
  rw [hA] at c1
  have HA := Lib.hid hA
  have HF := Lib.hid (And.intro hR (And.intro hbox hBW))
  clear h hat hW hA hR hbox hBW hWs clt
  go_enter Tryz.func30, Tryz.ntmps30
  go_wp2_with (at_make; go_must (refine wpList_mk _ rfl _ _ 23 rfl (w.heap.size + 2) 22 i9 _ Tryz.underlying23 hi9 hy0 hy1 rfl .i64 .i64 _ _ x.n rfl rfl rfl rfl ?c2 ?c3 ?c4 ?_))
  case c2 => rw [hy2]; omega
  case c3 => simp only [maxLen]; omega
  case c4 => simp
  intro w2 hown2 hbel2
  obtain ⟨hR, hbox, hBW⟩ := HF.out
  have hs0 : ((w.alloc (.cells #[.slice x.r.A x.r.n x.r.c, .slice x.A x.n x.c, .slice x.o.A x.o.n x.o.c] 25)).alloc (.cells #[.slice none 0 0, .slice none 0 0, .slice none 0 0] 25)).heap.size = w.heap.size + 2 := by simp
  have hbel2 : Below (w.heap.size + 2) _ w2 := hbel2
  have hown2 : Own w2 (w.heap.size + 2) 22 (some ⟨w.heap.size + 2, 0, none⟩) x.n x.n (List.replicate x.n (.slice none 0 0)) := hown2
  obtain ⟨g, hg⟩ : ∃ g, g = w.heap.size + 2 := ⟨_, rfl⟩
  rw [show w.heap.size + 1 + 1 = g by omega]
  rw [← hg] at hown2 hbel2 hs0
  have hR2 := hR.below (by rw [hs0]; exact hbel2)
  have hbox2 := hbox.below (by rw [hs0]; exact hbel2)
  have hB2 := hBW.trans (hbel2.mono (by omega))
  have hrow : w2.heap[g]? = some (.cells (List.replicate x.n (.slice none 0 0)).toArray 22 (0, 0)) := by
    obtain ⟨g', cur, hA, _, hh, _, _, hs, ht⟩ := hown2.2.resolve_left (by omega)
    cases hA
    rw [hh, ← ht, List.take_of_length_le (by simp; omega)]
  have hlen : ((x.b.take (k + 1)).map Ls.v).length = k + 1 := by rw [List.length_map, List.length_take, HL.out]; omega
  have hcp := fun ty => run_copy_row (P := Tryz.prog) w2 23 23 ty 22 g 0 x.n x.n ⟨p, q, none⟩ (k + 1) x.c (List.replicate x.n (.slice none 0 0)).toArray 22 ((x.b.take (k + 1)).map Ls.v) Tryz.underlying23 sizeU_ints hrow (by rw [hlen]; show k + 1 = min (k + 1) x.n; omega)
    (fun j v hv => by
      rw [List.getElem?_map] at hv
      obtain ⟨u, hu, rfl⟩ := Option.map_eq_some_iff.1 hv
      rw [List.getElem?_take] at hu
      split at hu
      · rename_i hj
        obtain ⟨u', hu', hc', _⟩ := HAT.out j (by omega)
        rw [hu] at hu'
        cases hu'
        rw [show (⟨p, q, none⟩ : Addr).add j = ⟨p, q + j, none⟩ by unfold Addr.add; split <;> simp_all]
        exact (hB2.cell (p := ⟨p, q + j, none⟩) hp).trans hc'
      · cases hu) (by rw [hlen]; simp; omega) (fun v hv => by obtain ⟨u, _, rfl⟩ := List.mem_map.1 hv; rfl)
  rw [hlen] at hcp
  have hfin : ((List.replicate x.n (Value.slice none 0 0)).toArray.toList.take 0 ++ (x.b.take (k + 1)).map Ls.v ++ (List.replicate x.n (Value.slice none 0 0)).toArray.toList.drop (0 + (k + 1))) = (headB x.b (k + 1)).map Ls.v := by
    rw [List.take_zero, List.nil_append, headB, List.map_append, List.map_replicate, HL.out, List.drop_replicate, Nat.zero_add]; rfl
  rw [hfin] at hcp
  have hrow3 := setRow_heap w2 g _ ((headB x.b (k + 1)).map Ls.v).toArray _ _ hrow
  have hB3 := below_setRow hB2 (show w.heap.size ≤ g by omega) ((headB x.b (k + 1)).map Ls.v).toArray
  have hoth : ∀ b, b ≠ g → (w2.setRow g ((headB x.b (k + 1)).map Ls.v).toArray).heap[b]? = w2.heap[b]? := fun b hb => setRow_other w2 g b _ hb
  have c0 := hbox2.c0
  have c1 := hbox2.c1
  have c2 := hbox2.c2
  rw [HA.out] at c1
  have hR3 : Own (w2.setRow g ((headB x.b (k + 1)).map Ls.v).toArray) w.heap.size 25 (some ⟨w.heap.size + 1, 0, none⟩) 3 3 [.slice none 0 0, .slice none 0 0, .slice none 0 0] := hR2.keep fun g' hA' _ _ _ => hoth g' (by cases hA'; omega)
  have d0 : (w2.setRow g ((headB x.b (k + 1)).map Ls.v).toArray).cell? ⟨w.heap.size, 0, none⟩ = some (.slice x.r.A x.r.n x.r.c) := (World.cell?_of_block (hoth w.heap.size (by omega))).trans hbox2.c0
  have d2 : (w2.setRow g ((headB x.b (k + 1)).map Ls.v).toArray).cell? ⟨w.heap.size, 2, none⟩ = some (.slice x.o.A x.o.n x.o.c) := (World.cell?_of_block (hoth w.heap.size (by omega))).trans hbox2.c2
  have f0 := hR3.free (by omega) 0
  have f1 := hR3.free (by omega) 1
  have f2 := hR3.free (by omega) 2
  have r0 := hR3.cell (j := 0) (by omega)
  have r1 := hR3.cell (j := 1) (by omega)
  have r2 := hR3.cell (j := 2) (by omega)
  simp only [List.getElem?_cons_zero, List.getElem?_cons_succ] at r0 r1 r2
  have HHR := Lib.hid hR3
  have hg1 : g ≠ w.heap.size + 1 := by omega
  have HG := Lib.hid (And.intro hg hg1)
  have HO := Lib.hid hoth
  clear hfin hlen hR hbox hBW hs0 hown2 hbel2 hR2 hR3 hrow hB2 hg hg1 hbox2 hoth
  go_wp2
  have hR8 := ((HHR.out.set (by omega) 0 (.slice x.r.A x.r.n x.r.c)).set (by omega) 1 (.slice (some ⟨g, 0, none⟩) x.n x.n)).set (by omega) 2 (.slice x.o.A x.o.n x.o.c)
  simp only [List.set_cons_zero, List.set_cons_succ] at hR8
  have hB8 := ((hB3.setCell (p := ⟨w.heap.size + 1, 0, none⟩) (Nat.le_succ _) (.slice x.r.A x.r.n x.r.c)).setCell (p := ⟨w.heap.size + 1, 1, none⟩) (Nat.le_succ _) (.slice (some ⟨g, 0, none⟩) x.n x.n)).setCell (p := ⟨w.heap.size + 1, 2, none⟩) (Nat.le_succ _) (.slice x.o.A x.o.n x.o.c)
  have hrow8 : ((((w2.setRow g ((headB x.b (k + 1)).map Ls.v).toArray).setCell ⟨w.heap.size + 1, 0, none⟩ (.slice x.r.A x.r.n x.r.c)).setCell ⟨w.heap.size + 1, 1, none⟩ (.slice (some ⟨g, 0, none⟩) x.n x.n)).setCell ⟨w.heap.size + 1, 2, none⟩ (.slice x.o.A x.o.n x.o.c)).heap[g]? = some (.cells ((headB x.b (k + 1)).map Ls.v).toArray 22 (0, 0)) :=
    (heap_setCell_other _ ⟨w.heap.size + 1, 2, none⟩ g _ HG.out.2).trans ((heap_setCell_other _ ⟨w.heap.size + 1, 1, none⟩ g _ HG.out.2).trans ((heap_setCell_other _ ⟨w.heap.size + 1, 0, none⟩ g _ HG.out.2).trans hrow3))
  generalize ((((w2.setRow g ((headB x.b (k + 1)).map Ls.v).toArray).setCell ⟨w.heap.size + 1, 0, none⟩ (.slice x.r.A x.r.n x.r.c)).setCell ⟨w.heap.size + 1, 1, none⟩ (.slice (some ⟨g, 0, none⟩) x.n x.n)).setCell ⟨w.heap.size + 1, 2, none⟩ (.slice x.o.A x.o.n x.o.c)) = wf at hR8 hB8 hrow8 ⊢
  have r0 := hR8.cell (j := 0) (by omega)
  have r1 := hR8.cell (j := 1) (by omega)
  have r2 := hR8.cell (j := 2) (by omega)
  simp only [List.getElem?_cons_zero, List.getElem?_cons_succ] at r0 r1 r2
  have hwg : g < wf.heap.size := (Array.getElem?_eq_some_iff.1 hrow8).1
  have hhl := headB_len (b := x.b) (k := k + 1) (by rw [HL.out]; omega)
  have hown : Own wf w.heap.size 22 (some ⟨g, 0, none⟩) x.n x.n ((headB x.b (k + 1)).map Ls.v) := by
    have := HG.out.1
    exact ⟨by rw [List.length_map, hhl, HL.out], .inr ⟨g, _, rfl, by omega, hrow8, Nat.le_refl _, by unfold maxLen; omega, by simp [hhl, HL.out], by rw [List.take_of_length_le (by rw [List.length_map, hhl, HL.out]; exact Nat.le_refl _)]⟩⟩
  (try simp only [Exit.inBlock, Exit.then])
  refine bodyPost_ret (v := .agg #[.slice x.r.A x.r.n x.r.c, .slice (some ⟨g, 0, none⟩) x.n x.n, .slice x.o.A x.o.n x.o.c]) ?rr rfl ?_
  case rr =>
    simp only [results, Tryz.f30]
    go_simp
  exact ⟨some ⟨g, 0, none⟩, rfl, hown, hB8⟩
end Go.Proofs.YtdckoaljcklmhaaGreatDoor


namespace Go.Proofs.YtdckoaljcklmhaaGreatDoor
open Go.RowKit Go.Shelf
set_option linter.unusedVariables false
attribute [local go_sem] Oper.semAt_some

theorem others_below {w w' : World} (h : Below w.heap.size w w') : KeepsOthers w w' := ⟨h.size, fun k o hk _ => (h.block k (Array.getElem?_eq_some_iff.1 hk).1).trans hk⟩
theorem others_then {w a b : World} {B : Nat} (h : KeepsOthers w a) (hw : w.heap.size ≤ B) (hb : Below B a b) : KeepsOthers w b := ⟨Nat.le_trans h.size hb.size, fun k o hk ho => by
  have h1 := (Array.getElem?_eq_some_iff.1 hk).1
  exact (hb.block k (by omega)).trans (h.same k o hk ho)⟩
theorem MarksAt.others {B : Nat} {w w' : World} {ds : List Deferred} (h : MarksAt B w ds) (hk : KeepsOthers w w') : MarksAt B w' ds := by
  obtain ⟨Ds, h1, h2, h3⟩ := h
  exact ⟨Ds, h1, h2, fun D hD => ⟨(h3 D hD).1, hk.same D _ (h3 D hD).2 rfl⟩⟩
theorem MarksAt.more2 {B D : Nat} {w w' : World} {ds : List Deferred} (h : MarksAt B w ds) (hk : KeepsOthers w w') (hB : B ≤ D) (hD : w.heap.size ≤ D) (hd : w'.heap[D]? = some (.deferred (some []))) : MarksAt B w' ({ target := .collected D, args := #[] } :: ds) := by
  obtain ⟨Ds, h1, h2, h3⟩ := h
  refine ⟨D :: Ds, by rw [h1]; rfl, List.nodup_cons.2 ⟨fun hm => ?_, h2⟩, fun d hm => ?_⟩
  · have := (Array.getElem?_eq_some_iff.1 (h3 D hm).2).1
    omega
  · rcases List.mem_cons.1 hm with e | hm
    · rw [e]; exact ⟨hB, hd⟩
    · exact ⟨(h3 d hm).1, hk.same d _ (h3 d hm).2 rfl⟩
set_option maxRecDepth 100000 in
set_option maxHeartbeats 2000000 in
theorem pleastC : LeastC 10 := by
  intro x w hx
  have hv : x.v = .agg #[.slice x.r.A x.r.n x.r.c, .slice x.A x.n x.c, .slice x.o.A x.o.n x.o.c] := rfl
  have hck := mcheckC x
  rw [hv] at hck ⊢
  have hBW : Below w.heap.size w (w.alloc (.cells #[.slice x.r.A x.r.n x.r.c, .slice x.A x.n x.c, .slice x.o.A x.o.n x.o.c] 25)) := (Below.refl _ w).alloc (Nat.le_refl _) _
  have bx := InBox.new w x
  have hxW := hx.below hBW
  have hck := hck _ hxW
  have HX := Lib.hid hx
  clear hx hv
  refine (callsIn_wide (n := 4)).1 ?_
  refine callsIn_of_wp_marks Tryz.func10 rfl trivial ?_ rfl
  simp only [Tryz.ntmps10, List.size_toArray, List.length_cons, List.length_nil, Nat.reduceAdd, Nat.reduceSub, Array.replicate_succ, Array.replicate_zero, List.push_toArray, List.append_toArray, List.nil_append, List.cons_append]
  refine wpIn_wide.2 ?_
  have ex0 := bx.c0
  have ex1 := bx.c1
  have ex2 := bx.c2
  obtain ⟨βm, hβm⟩ : ∃ β, x.may = β := ⟨_, rfl⟩
  rw [hβm] at hck
  have HBM := Lib.hid hβm
  clear hβm
  go_wp2_with fail
  refine hck.mono ?_
  rintro e w2 ⟨rfl, hb2⟩
  clear hck ex0 ex1 ex2
  have bx2 := bx.below hb2
  have hx2 := hxW.below hb2
  have hB2 := hBW.trans (hb2.mono hBW.size)
  clear hb2 bx hxW hBW
  cases βm
  · have F := Lib.hid (show leastE x = [] ∧ x.err = 1 by simp [leastE, Mk.err, HBM.out])
    go_wp2
    refine postM_ret (v := .tuple #[.slice none 0 0, .int .i64 1]) (by simp [results, Tryz.f10, go_sem]) rfl ⟨none, 0, 0, by rw [F.out.2], by rw [F.out.1]; exact OwnI.nil _ _, hB2⟩
  have F := Lib.hid (show leastE x = leastL x.r.zs (Ls.all x.b) ∧ x.err = 0 by simp [leastE, Mk.err, HBM.out])
  obtain ⟨k1, k2, k3, k4, k5, k6, k7, k8⟩ := mk_len HX.out HBM.out
  have HRZ := Lib.hid k7
  have HBZ := Lib.hid k8
  clear k5 k6 k7 k8
  have hcl := pclone_any x.r.A x.r.n x.r.c x.r.zs w2 hx2.r (by omega) k1
  have ex0 := bx2.c0
  go_wp2_with fail
  refine hcl.mono ?_
  rintro e w3 ⟨A3, c3, rfl, hO3, hb3⟩
  clear hcl ex0
  have bx3 := bx2.below hb3
  have hx3 := hx2.below hb3
  have hB3 := hB2.trans (hb3.mono hB2.size)
  have hO3 := hO3.mono hB2.size
  clear hb3 bx2 hx2 hB2
  have kb : Below w3.heap.size w3 (w3.alloc (.cells #[.slice A3 x.r.n c3] 22)) := (Below.refl _ w3).alloc (Nat.le_refl _) _
  have bl := Boxed.new w3 22 (.slice A3 x.r.n c3)
  have bx4 := bx3.below kb
  have hB4 := hB3.trans (kb.mono hB3.size)
  have hO4 := hO3.below kb
  have hwl : w.heap.size < w3.heap.size := Nat.lt_of_lt_of_le bx3.lt (Nat.le_refl _)
  have ex1 := bx4.c1
  have HK := Lib.hid (And.intro k1 (And.intro k2 (And.intro k3 k4)))
  have HWL := Lib.hid hwl
  clear kb bx3 hB3 hO3 hx3 k1 k2 hwl
  go_wp2
  clear ex1
  obtain ⟨lb, hlb⟩ : ∃ b, b = w3.heap.size := ⟨_, rfl⟩
  rw [← hlb] at bl HWL ⊢
  clear hlb
  generalize w3.alloc (.cells #[.slice A3 x.r.n c3] 22) = w4 at *
  have HBL : Hid ((Ls.all x.b).length = x.n) := Lib.hid (by rw [Ls.all, List.length_map, HX.out.len])
  have HRO := Lib.hid (may_rows HBM.out)
  have HRL := Lib.hid HX.out.r.len
  refine wp_loop (fun a' w' => ∃ (j : Nat) (u5 u6 u17 u18 u19 u20 u21 u22 u23 u24 u25 u26 : Value) (ds : List Deferred), (j ≤ x.n ∧ (∃ A c, Boxed w' lb 22 (.slice A x.r.n c) ∧ OwnI w' w.heap.size ⟨A, x.r.n, c, leastL x.r.zs (headL (Ls.all x.b) j)⟩) ∧ InBox w' w.heap.size x ∧ Below w.heap.size w w' ∧ MarksAt w.heap.size w' ds) ∧
      a' = { tmps := #[.agg #[.slice x.r.A x.r.n x.r.c, .slice x.A x.n x.c, .slice x.o.A x.o.n x.o.c], .pointer (some ⟨w.heap.size, 0, none⟩), .slice none 0 0, .int .i64 0, .pointer (some ⟨lb, 0, none⟩), u5, u6, .agg #[.slice x.r.A x.r.n x.r.c, .slice x.A x.n x.c, .slice x.o.A x.o.n x.o.c], .bool true, .bool false, .pointer (some ⟨w.heap.size, 0, none⟩), .slice x.r.A x.r.n x.r.c, .slice A3 x.r.n c3, .pointer (some ⟨w.heap.size, 1, none⟩), .slice x.A x.n x.c, .int .i64 x.n, .int .i64 j, u17, u18, u19, u20, u21, u22, u23, u24, u25, u26, undef], defers := ds })
    (fun a' _ => x.n - (intOf (a'.tmps.getD 16 undef)).toNat) ⟨0, _, _, _, _, _, _, _, _, _, _, _, _, [], ⟨Nat.zero_le _, ⟨A3, c3, bl, by rw [least_head0 HRO.out]; exact hO4⟩, bx4, hB4, MarksAt.nil _ _⟩, rfl⟩ ?_
  clear bl bx4 hB4 hO4
  rintro _ wr ⟨j, u5, u6, u17, u18, u19, u20, u21, u22, u23, u24, u25, u26, ds, ⟨hj, ⟨A, c, bl, hO⟩, bx, hB, hmk⟩, rfl⟩
  by_cases hlt : j < x.n
  · have hlt' : (j : Int) < x.n := by omega
    have hS : ∀ w', Below wr.heap.size wr w' → w'.cell? ⟨w.heap.size, 0, none⟩ = some (.slice x.r.A x.r.n x.r.c) ∧ w'.cell? ⟨w.heap.size, 1, none⟩ = some (.slice x.A x.n x.c) ∧ w'.cell? ⟨w.heap.size, 2, none⟩ = some (.slice x.o.A x.o.n x.o.c) ∧ w'.cell? ⟨lb, 0, none⟩ = some (.slice A x.r.n c) := fun w' hb => ⟨(bx.below hb).c0, (bx.below hb).c1, (bx.below hb).c2, (boxed_below bl hb).cell⟩
    have HSS := Lib.hid hS
    have hxr := HX.out.below hB
    have hup := rupto_any x j wr.drew (hxr.below ((Below.refl _ wr).drew)) hlt k4
    have HLT := Lib.hid (And.intro hlt k4)
    clear hS k4 hlt
    go_wp2_with fail
    refine wp_region_ord (S := fun w' => w'.cell? ⟨w.heap.size, 0, none⟩ = some (.slice x.r.A x.r.n x.r.c) ∧ w'.cell? ⟨w.heap.size, 1, none⟩ = some (.slice x.A x.n x.c) ∧ w'.cell? ⟨w.heap.size, 2, none⟩ = some (.slice x.o.A x.o.n x.o.c) ∧ w'.cell? ⟨lb, 0, none⟩ = some (.slice A x.r.n c)) [(0, true), (1, true), (3, true), (2, false), (4, false)] default (by kernel_rfl) (by kernel_rfl) (by kernel_rfl) (HSS.out _ ((Below.refl _ wr).drew)) ?_
    simp only [getOrd, nth]
    repeat (first | (refine ordS (by rfl) ?_; simp only [Act.put, List.setIfInBounds_toArray, List.set_cons_zero, List.set_cons_succ]) | (refine ordN (by rfl) ?_; simp only [Act.put, List.setIfInBounds_toArray, List.set_cons_zero, List.set_cons_succ]) | (refine ordQ (v := ?_) (by rfl) (fun _ hSw => ?_) ?_; rotate_left; (focus ((have hS1 := hSw.1); (have hS2 := hSw.2.1); (have hS3 := hSw.2.2.1); (have hS4 := hSw.2.2.2); clear hSw; go_simp; (first | done | with_reducible rfl))); simp only [Act.put, List.setIfInBounds_toArray, List.set_cons_zero, List.set_cons_succ]))
    refine ordD (by rfl) ?_
    intro K hK
    go_simp
    refine hup.mono ?_
    rintro e w5 ⟨A5, rfl, hO5, hb5⟩
    clear hup
    have hb5 : Below wr.heap.size wr w5 := ((Below.refl _ wr).drew).trans (hb5.mono (Nat.le_refl _))
    have hO5 : Own w5 wr.heap.size 22 A5 x.n x.n ((headB x.b (j + 1)).map Ls.v) := hO5
    go_wp2_with fail
    refine hK _ _ (HSS.out _ hb5) ?_
    clear hK K
    try simp only [Act.put, List.setIfInBounds_toArray, List.set_cons_zero, List.set_cons_succ]
    refine ordD (by rfl) ?_
    intro K hK
    have hst := rsteps_any (headM x A5 (j + 1)) ⟨A, x.r.n, c, leastL x.r.zs (headL (Ls.all x.b) j)⟩ w5
    simp only [headM] at hst
    go_simp
    refine hst.mono ?_
    rintro e w6 ⟨rfl, rfl⟩
    clear hst
    have kb : Below w5.heap.size w5 ((w5.alloc (.cells #[.slice x.r.A x.r.n x.r.c, .slice A5 x.n x.n, .slice x.o.A x.o.n x.o.c] 25)).alloc (.cells #[.slice A x.r.n c] 22)) := ((Below.refl _ w5).alloc (Nat.le_refl _) _).alloc (by simp) _
    have bm : InBox ((w5.alloc (.cells #[.slice x.r.A x.r.n x.r.c, .slice A5 x.n x.n, .slice x.o.A x.o.n x.o.c] 25)).alloc (.cells #[.slice A x.r.n c] 22)) w5.heap.size (headM x A5 (j + 1)) := (InBox.new w5 (headM x A5 (j + 1))).below ((Below.refl _ _).alloc (Nat.le_refl _) (.cells #[.slice A x.r.n c] 22))
    have bp := Boxed.new (w5.alloc (.cells #[.slice x.r.A x.r.n x.r.c, .slice A5 x.n x.n, .slice x.o.A x.o.n x.o.c] 25)) 22 (.slice A x.r.n c)
    rw [World.size_alloc] at bp
    have hb6 : Below wr.heap.size wr _ := hb5.trans (kb.mono hb5.size)
    have hO6 := hO5.below kb
    go_wp2_with fail
    refine hK _ _ (HSS.out _ hb6) ?_
    clear hK K
    try simp only [Act.put, List.setIfInBounds_toArray, List.set_cons_zero, List.set_cons_succ]
    refine ordE ?_
    have hmb : wr.heap.size ≤ w5.heap.size := hb5.size
    obtain ⟨mb, hmbe⟩ : ∃ b, b = w5.heap.size := ⟨_, rfl⟩
    rw [← hmbe] at bm bp hmb ⊢
    clear hmbe kb hO5 hb5
    generalize (w5.alloc (.cells #[.slice x.r.A x.r.n x.r.c, .slice A5 x.n x.n, .slice x.o.A x.o.n x.o.c] 25)).alloc (.cells #[.slice A x.r.n c] 22) = w6 at *
    have bl6 := boxed_below bl hb6
    have bx6 := bx.below hb6
    have hOl := hO.below hb6
    have hB6 := hB.trans (hb6.mono hB.size)
    have hx6 := HX.out.below hB6
    have hlbw : lb < wr.heap.size := bl.lt
    have hk6 := others_below hb6
    have hs6 := hb6.size
    have hbxw : w.heap.size < wr.heap.size := bx.lt
    have HMA : Hid (mayA (headM x A5 (j + 1)).r.zs (Ls.all (headM x A5 (j + 1)).b) (headM x A5 (j + 1)).o.zs (leastL x.r.zs (headL (Ls.all x.b) j)) = true) := Lib.hid (by
      have hle : ∀ l ∈ Ls.all x.b, ∀ z ∈ l, z ≤ 1000000 := fun l hl z hz => by
        obtain ⟨u, hu, rfl⟩ := List.mem_map.1 hl
        exact (HBZ.out u hu z hz).2
      have h1 : mayM x.r.zs (Ls.all x.b) x.o.zs = true := HBM.out
      have hge := least_ge (headL_rows HRO.out j)
      show mayA x.r.zs (Ls.all (headB x.b (j + 1))) x.o.zs _ = true
      rw [headB_all]
      refine mayA_iff.2 ⟨headL_may (by rw [HBL.out]; have := HLT.out.1; omega) h1, leastL_len _ _, mayPr_iff.2 ⟨by rw [leastL_len, HRL.out]; exact HK.out.2.1, by rw [leastL_len, HRL.out]; exact HK.out.1, fun z hz => ?_⟩⟩
      have h2 := least_most (headL_rows HRO.out j) (fun z hz => (HRZ.out z hz).2) (headL_le hle j) z hz
      obtain ⟨q, hq, e⟩ := List.getElem_of_mem hz
      have hq2 : q < x.r.zs.length := by rw [leastL_len] at hq; exact hq
      have h3 := hge.2 q hq2
      have h4 := (HRZ.out _ (List.getElem_mem hq2)).1
      rw [List.getD_eq_getElem?_getD, List.getElem?_eq_getElem hq2, List.getD_eq_getElem?_getD, List.getElem?_eq_getElem hq, Option.getD_some, Option.getD_some, e] at h3
      omega)
    have hk0 : StK (headM x A5 (j + 1)) ⟨A, x.r.n, c, leastL x.r.zs (headL (Ls.all x.b) j)⟩ mb (mb + 1) w6 := ⟨bm, bp, headM_ok hx6 hO6, hOl.ok⟩
    clear hb6 bl bx hO hB HSS hxr bm bp
    go_wp2
    refine (wpIn_wide (n := 4)).1 ?_
    refine range_seqR (n := 4) (by omega) (gf := 64) (lb := #[.pointer (some ⟨mb + 1, 0, none⟩), .pointer (some ⟨mb, 0, none⟩)]) rfl (enters_of Tryz.func64 (by kernel_rfl) rfl)
      (rsteps1_seq (headM x A5 (j + 1)) ⟨A, x.r.n, c, leastL x.r.zs (headL (Ls.all x.b) j)⟩ mb (mb + 1) w6 HMA.out) (Below.refl _ _) (fun _ => rfl) (fun u B a b hc h => h.cel hc) (fun a b hc h => h.cel hc) (fun u a b hc h => h.cel hc) hk0
      (fun pre W => (∃ A9 n9 c9, Boxed W lb 22 (.slice A9 n9 c9) ∧ OwnI W w.heap.size ⟨A9, n9, c9, (pre.map Ls.zs).getLast?.getD (leastL x.r.zs (headL (Ls.all x.b) j))⟩) ∧ InBox W w.heap.size x ∧ Below w.heap.size w W ∧ KeepsOthers wr W ∧ wr.heap.size ≤ W.heap.size ∧
        Own W wr.heap.size 22 A5 x.n x.n ((headB x.b (j + 1)).map Ls.v) ∧ OwnI W w.heap.size ⟨A, x.r.n, c, leastL x.r.zs (headL (Ls.all x.b) j)⟩)
      (fun _ _ => False)
      (fun s a b hc hb h => by
        obtain ⟨⟨A9, n9, c9, h1, h2⟩, h3, h4, h5, h6, h7, h8⟩ := h
        exact ⟨⟨A9, n9, c9, boxed_cel h1 hc, h2.cel hc⟩, h3.cel hc, h4.trans (hb.mono hB6.size), others_then h5 hs6 hb, Nat.le_trans h6 hc.size, h7.cel hc, h8.cel hc⟩)
      (fun _ _ _ _ _ h => h)
      ⟨⟨A, x.r.n, c, bl6, hOl⟩, bx6, hB6, hk6, hs6, hO6, hOl⟩
      (fun v a' _ => a' = { tmps := #[.agg #[.slice x.r.A x.r.n x.r.c, .slice x.A x.n x.c, .slice x.o.A x.o.n x.o.c], .pointer (some ⟨w.heap.size, 0, none⟩), .slice none 0 0, .int .i64 0, .pointer (some ⟨lb, 0, none⟩), .int .i64 j, .slice v.A v.n v.c, .agg #[.slice x.r.A x.r.n x.r.c, .slice x.A x.n x.c, .slice x.o.A x.o.n x.o.c], .bool true, .bool false, .pointer (some ⟨w.heap.size, 0, none⟩), .slice x.r.A x.r.n x.r.c, .slice A3 x.r.n c3, .pointer (some ⟨w.heap.size, 1, none⟩), .slice x.A x.n x.c, .int .i64 x.n, .int .i64 j, .bool true, .int .i64 j, .agg #[.slice x.r.A x.r.n x.r.c, .slice x.A x.n x.c, .slice x.o.A x.o.n x.o.c], .int .i64 j, .agg #[.slice x.r.A x.r.n x.r.c, .slice A5 x.n x.n, .slice x.o.A x.o.n x.o.c], .slice A x.r.n c, .func (.func 64) #[] #[.pointer (some ⟨mb + 1, 0, none⟩), .pointer (some ⟨mb, 0, none⟩)], .slice v.A v.n v.c, u25, u26, undef], defers := [] })
      (fun _ _ _ _ _ h => h) ?assign ?body ?done ?stop
    case assign =>
      intro l2 pre' u B V K hI hE hV hK
      simp only [encL, List.zip_toArray, List.zip_cons_cons, List.zip_nil_right, List.foldl_toArray', List.foldl_cons, List.foldl_nil, List.size_toArray, List.setIfInBounds_toArray, List.set_cons_succ, List.set_cons_zero]
      gi_wp2
      exact hK _ _ (Below.refl _ _) rfl
    case body =>
      rintro l2 pre' u a' V0 V ⟨⟨A9, n9, c9, h1, h2⟩, h3, h4, h5, h6, h7, h8⟩ hcel hbel hOu rfl hkV
      have b1 := boxed_cel h1 hcel
      have m1 := h3.cel hcel
      have hBV := h4.trans (hbel.mono hB6.size)
      have hkV2 := others_then h5 hs6 hbel
      have hsV : wr.heap.size ≤ V.heap.size := Nat.le_trans h6 hcel.size
      have o7 := h7.cel hcel
      have o8 := h8.cel hcel
      have oU := hOu.mono (show w.heap.size ≤ V0.heap.size from by omega)
      have hne : ∀ g, g ≠ lb → (V.setCell ⟨lb, 0, none⟩ (.slice u.A u.n u.c)).heap[g]? = V.heap[g]? := fun g hg => heap_setCell_other V ⟨lb, 0, none⟩ g _ hg
      have HLB := Lib.hid HWL.out
      have b1' := b1.set (.slice u.A u.n u.c)
      have m1' : InBox (V.setCell ⟨lb, 0, none⟩ (.slice u.A u.n u.c)) w.heap.size x := ⟨(World.cell?_of_block (hne w.heap.size (by have := HWL.out; omega))).trans m1.c0, (World.cell?_of_block (hne w.heap.size (by have := HWL.out; omega))).trans m1.c1, (World.cell?_of_block (hne w.heap.size (by have := HWL.out; omega))).trans m1.c2, by rw [World.size_setCell]; exact m1.lt⟩
      have hBV' := hBV.setCell (p := ⟨lb, 0, none⟩) (show w.heap.size ≤ lb by have := HWL.out; omega) (.slice u.A u.n u.c)
      have hk' := KeepsOthers.setCell V ⟨lb, 0, none⟩ (.slice u.A u.n u.c)
      have o7' := o7.keep (w' := V.setCell ⟨lb, 0, none⟩ (.slice u.A u.n u.c)) fun g _ _ hg _ => hne g (by omega)
      have o8' := o8.box (.slice u.A u.n u.c) b1 (by decide)
      have oU' := oU.box (.slice u.A u.n u.c) b1 (by decide)
      have hsV' : wr.heap.size ≤ (V.setCell ⟨lb, 0, none⟩ (.slice u.A u.n u.c)).heap.size := by rw [World.size_setCell]; exact hsV
      have kV' : StK (headM x A5 (j + 1)) ⟨A, x.r.n, c, leastL x.r.zs (headL (Ls.all x.b) j)⟩ mb (mb + 1) (V.setCell ⟨lb, 0, none⟩ (.slice u.A u.n u.c)) := by
        obtain ⟨q1, q2, q3, q4⟩ := hkV
        refine ⟨⟨(World.cell?_of_block (hne mb (by omega))).trans q1.c0, (World.cell?_of_block (hne mb (by omega))).trans q1.c1, (World.cell?_of_block (hne mb (by omega))).trans q1.c2, by rw [World.size_setCell]; exact q1.lt⟩, boxed_keep q2 (hne (mb + 1) (by omega)), headM_ok (HX.out.below hBV') o7', o8'.ok⟩
      have hlast : Hid ((List.map Ls.zs (pre' ++ [u])).getLast?.getD (leastL x.r.zs (headL (Ls.all x.b) j)) = u.zs) := Lib.hid (by rw [List.map_append, List.map_singleton, List.getLast?_concat]; rfl)
      have x1 := b1.cell
      have y1 := b1.frozen
      have R := Lib.hid (And.intro b1' (And.intro m1' (And.intro hBV' (And.intro hk' (And.intro o7' (And.intro o8' (And.intro oU' (And.intro hsV' (And.intro kV' (hkV2.trans hk'))))))))))
      clear h1 h2 h3 h4 h5 h6 h7 h8 hcel hbel hOu hkV b1 m1 hBV hkV2 hsV o7 o8 oU hne b1' m1' hBV' hk' o7' o8' oU' hsV' kV' hk0 bl6 bx6 hOl hB6 hx6 hO6
      gi_wp2
      obtain ⟨b1', m1', hBV', hk', o7', o8', oU', hsV', kV', hkw⟩ := R.out
      refine ⟨hk', ⟨⟨u.A, u.n, u.c, b1', ?_⟩, m1', hBV', hkw, hsV', o7', o8'⟩, kV', oU'.ok⟩
      rw [hlast.out]; exact oU'
    case done =>
      rintro D ys V hD hys ⟨⟨A9, n9, c9, h1, h2⟩, h3, h4, h5, h6, h7, h8⟩ hK
      have hlst : (ys.map Ls.zs).getLast?.getD (leastL x.r.zs (headL (Ls.all x.b) j)) = leastL x.r.zs (headL (Ls.all x.b) (j + 1)) := by
        obtain ⟨q1, q2⟩ := hys
        have q3 := q1.last
        have q4 : Ls.all (headM x A5 (j + 1)).b = headL (Ls.all x.b) (j + 1) := headB_all _ _
        rw [q4] at q2 q3
        rw [q3, List.length_map]
        exact least_head_step HRO.out (by rw [HRL.out]; exact HK.out.1) (by rw [HBL.out]; exact HLT.out.2) (by rw [HBL.out]; exact HLT.out.1) q2
      rw [hlst] at h2
      obtain rfl : n9 = x.r.n := by
        have q5 := h2.len
        simp only at q5
        rw [leastL_len, HRL.out] at q5
        exact q5.symm
      have hmk2 := hmk.more2 h5 (by omega) (by omega) hK
      have s1 : IntKind.i64.wrap ((j : Int) + 1) = ((j + 1 : Nat) : Int) := by rw [IntKind.wrap_i64]; have := HLT.out; omega
      have HLAST := Lib.hid (And.intro h1 (And.intro h2 (And.intro h3 (And.intro h4 hmk2))))
      clear h1 h2 h3 h4 h5 h6 h7 h8 hK hmk2 hlst hys bl6 bx6 hOl hB6 hx6 hO6 hk0 hmk
      go_wp2
      obtain ⟨h1, h2, h3, h4, hmk2⟩ := HLAST.out
      refine ⟨⟨j + 1, _, _, _, _, _, _, _, _, _, _, _, _, _, ⟨by have := HLT.out; omega, ⟨A9, c9, h1, h2⟩, h3, h4, hmk2⟩, rfl⟩, ?_⟩
      have := HLT.out.1
      simp [intOf]; omega
    case stop =>
      rintro D pre V hD hsp h hK
      exact h.elim
  · obtain rfl : j = x.n := by omega
    have hcl := bl.cell
    obtain ⟨Ds, hds, hnd, hDs⟩ := hmk
    have HLE : Hid (leastL x.r.zs (headL (Ls.all x.b) x.n) = leastE x) := Lib.hid (by rw [← HBL.out, headL_all, F.out.1])
    rw [HLE.out] at hO
    clear bl bx
    go_wp2
    show LeavesInM _ _ _ _ _ _ _ _ _
    simp only [hds]
    refine leaves_shut (v := .tuple #[.slice A x.r.n c, .int .i64 0]) (fun w => by simp [results, Tryz.results10, go_sem]) Ds wr hnd (fun d hd => (hDs d hd).2) ?_
    have hfin := shutD_own (B := w.heap.size) (J := fun (_ : Unit) W => OwnI W w.heap.size ⟨A, x.r.n, c, leastE x⟩ ∧ Below w.heap.size w W) (s := ()) (OwnFrom.and (ownFrom_cel _ fun _ a b hc h => h.cel hc) (ownFrom_below (Nat.le_refl _) (Nat.le_refl _))) Ds wr hnd hDs ⟨hO, hB⟩
    exact ⟨A, x.r.n, c, by rw [F.out.2], hfin.1, hfin.2⟩
end Go.Proofs.YtdckoaljcklmhaaGreatDoor


namespace Go.Proofs.YtdckoaljcklmhaaGreatDoor
end Go.Proofs.YtdckoaljcklmhaaGreatDoor

