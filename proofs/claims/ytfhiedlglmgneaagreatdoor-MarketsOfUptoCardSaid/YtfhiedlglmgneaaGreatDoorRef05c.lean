/-
  Walk of the document's Gains of a market.
-/
import Derived.Test.YtfhiedlglmgneaaGreatDoorRef05b
namespace Go.Proofs.YtfhiedlglmgneaaGreatDoor
open Go.RowKit
set_option linter.unusedVariables false

theorem gain_nil (r : List Int) : gain r [] = List.replicate r.length (-1) := by
  unfold gain
  rw [if_pos rfl]
  exact List.map_const' ..
theorem gain_some {r l : List Int} (h : l ≠ []) : gain r l = List.zipWith (· - ·) l r := by unfold gain; rw [if_neg h]
theorem info5_int : (Tryz.prog.info? 3).map (fun i => (i.zero, i.size, i.bytes)) = some (some (.int .i64 0), 1, 8) := by kernel_rfl
theorem info5_ints : (Tryz.prog.info? 22).map (fun i => (i.zero, i.size, i.bytes)) = some (some (.slice none 0 0), 1, 24) := by kernel_rfl
theorem ci64_snoc (a : List Int) (z : Int) : ci64 (a ++ [z]) = ci64 a ++ [.int .i64 z] := by rw [ci64_app]; rfl
theorem take_gain {α : Type} {g : List α} {k : Nat} {z : α} (h : g[k]? = some z) : g.take (k + 1) = g.take k ++ [z] := by
  obtain ⟨hk, he⟩ := List.getElem?_eq_some_iff.1 h
  rw [List.take_succ_eq_append_getElem hk, he]

set_option maxRecDepth 100000 in
set_option maxHeartbeats 1000000 in
theorem rgainsC : GainsC 7 := by
  intro x w h
  obtain ⟨β, hβ⟩ : ∃ β, x.may = β := ⟨_, rfl⟩
  have herr : x.err = if β = true then 0 else 1 := by rw [Mk.err, hβ]
  have hbs : x.gains = if β = true then gains x.r.zs (Ls.all x.b) else [] := by rw [Mk.gains, hβ]
  rw [herr, hbs]
  clear herr hbs
  have hck := rcheckC x
  rw [hβ] at hck
  have hv : x.v = .agg #[.slice x.r.A x.r.n x.r.c, .slice x.A x.n x.c, .slice x.o.A x.o.n x.o.c] := rfl
  rw [hv]
  rw [hv] at hck
  cases β
  · go_enter Tryz.func7, Tryz.ntmps7
    go_wp2_with fail
    have hBW : Below w.heap.size w (w.alloc (.cells #[.slice x.r.A x.r.n x.r.c, .slice x.A x.n x.c, .slice x.o.A x.o.n x.o.c] 25)) := (Below.refl _ w).alloc (Nat.le_refl _) _
    refine (hck _ (h.below hBW)).mono ?_
    rintro e w1 ⟨rfl, hb1⟩
    have hB := hBW.trans (hb1.mono hBW.size)
    clear hck
    go_wp2
    go_ret2
    exact ⟨none, 0, 0, rfl, [], Outs.none_ _ _, rfl, hB⟩
  · obtain ⟨i0, hi0, hz0, hz1, hz2⟩ := info_parts info5_int
    obtain ⟨i1, hi1, hy0, hy1, hy2⟩ := info_parts info5_ints
    obtain ⟨l1, l2, l3, l4, l5, l6, l7, l8⟩ := mk_len h hβ
    have hbox := InBox.new w x
    have hlen : x.b.length = x.n := h.len
    have hrl := h.r.len
    have hrd := h.r.rd
    have hls := h.lss
    have HL := Lib.hid hlen
    have HR := Lib.hid hrl
    have H6 := Lib.hid l6
    have H7 := Lib.hid l7
    have H8 := Lib.hid l8
    clear l5 l6 l7 l8 hlen hrl
    go_enter Tryz.func7, Tryz.ntmps7
    go_wp2_with fail
    have hBW : Below w.heap.size w (w.alloc (.cells #[.slice x.r.A x.r.n x.r.c, .slice x.A x.n x.c, .slice x.o.A x.o.n x.o.c] 25)) := (Below.refl _ w).alloc (Nat.le_refl _) _
    refine (hck _ (h.below hBW)).mono ?_
    rintro e w1 ⟨rfl, hb1⟩
    have hB := hBW.trans (hb1.mono hBW.size)
    have hbox1 := hbox.below hb1
    clear hbox hb1 hBW hck
    have ⟨c0, c1, c2', clt⟩ := hbox1
    go_wp2_with fail
    go_loopw [4, 5] (fun v i wr => ∃ (j : Nat) (A' : Option Addr) (c' : Nat) (t : List Ls), j ≤ x.n ∧ i = .int .i64 j ∧ v = .slice A' j c' ∧ Outs wr w1.heap.size A' j c' t ∧ Hid (Ls.all t = (gains x.r.zs (Ls.all x.b)).take j) ∧ Below w1.heap.size w1 wr) (fun _ i _ => x.n - (intOf i).toNat)
    case atStart => exact ⟨0, none, 0, [], Nat.zero_le _, rfl, rfl, Outs.none_ _ _, Lib.hid rfl, Below.refl _ _⟩
    case round =>
      obtain ⟨j, A', c', t, hj, rfl, rfl, hout, hall, hbel⟩ := hrel
      obtain ⟨wo, rfl⟩ : ∃ wo, wo = wr := ⟨_, rfl⟩
      have hBr := hB.trans (hbel.mono hB.size)
      have hboxo := hbox1.below hbel
      have ⟨c0, c1, c2', clt⟩ := hboxo
      by_cases hlt : j < x.n
      · obtain ⟨p, q, u, hA, hu, hp, hc, hk⟩ := hls.get hlt
        have hun := H6.out u (List.mem_of_getElem? hu)
        have huz := H8.out u (List.mem_of_getElem? hu)
        have hul := hk.len
        have hjl : j < (Ls.all x.b).length := by rw [Ls.all, List.length_map, HL.out]; exact hlt
        have hget : (gains x.r.zs (Ls.all x.b))[j]? = some (gain x.r.zs u.zs) := by rw [gains, List.getElem?_map, Ls.all, List.getElem?_map, hu]; rfl
        have hurd := hk.rd
        obtain ⟨uA, un, uc, uz⟩ := u
        simp only [Ls.v] at hc hun huz hul hget hurd
        obtain ⟨gv, hgv⟩ : ∃ gv, gv = gain x.r.zs uz := ⟨_, rfl⟩
        have HGET := Lib.hid hget
        have HGV := Lib.hid hgv
        have hpw : p < wo.heap.size := Nat.lt_of_lt_of_le hp hBr.size
        have hcell : wo.cell? ⟨p, q + j, none⟩ = some (.slice uA un uc) := (hBr.cell (p := ⟨p, q + j, none⟩) hp).trans hc
        have hurd2 := hurd.below hBr
        have hrd2 := hrd.below hBr
        rw [hA] at c1
        clear hgv hget hu hk hc hurd hjl hA
        go_wp2_with fail
        go_loopw [6, 7] (fun v i wr => ∃ (k : Nat) (A2 : Option Addr) (c2 : Nat), k ≤ x.r.n ∧ i = .int .i64 k ∧ v = .slice A2 k c2 ∧ Own wr wo.heap.size 3 A2 k c2 (ci64 (gv.take k)) ∧ Below wo.heap.size wo wr) (fun _ i _ => x.r.n - (intOf i).toNat)
        case atStart => exact ⟨0, none, 0, Nat.zero_le _, rfl, rfl, Own.none_ _ _ _ _, Below.refl _ _⟩
        case round =>
          obtain ⟨k, A2, c2, hk, rfl, rfl, hownk, hbk⟩ := hrel
          have e0 : wr.cell? ⟨w.heap.size, 0, none⟩ = some (.slice x.r.A x.r.n x.r.c) := (hbk.cell (p := ⟨w.heap.size, 0, none⟩) clt).trans c0
          have e1 : wr.cell? ⟨w.heap.size, 1, none⟩ = some (.slice (some ⟨p, q, none⟩) x.n x.c) := (hbk.cell (p := ⟨w.heap.size, 1, none⟩) clt).trans c1
          have e3 : wr.cell? ⟨p, q + j, none⟩ = some (.slice uA un uc) := (hbk.cell (p := ⟨p, q + j, none⟩) hpw).trans hcell
          have hwor := hbk.size
          by_cases hkn : k < x.r.n
          · by_cases hzu : un = 0
            · have hg : gv[k]? = some (-1) := by
                rw [HGV.out, List.eq_nil_of_length_eq_zero (hul.trans hzu), gain_nil, List.getElem?_replicate, if_pos (by rw [HR.out]; exact hkn)]
              have HG := Lib.hid (take_gain hg)
              have hz1' : ((un : Int) == 0) = true := by rw [hzu]; rfl
              have hz2' : decide ((un : Int) = 0) = true := by rw [hzu]; rfl
              clear hg
              subst hzu
              go_wp2_with (at_builtin; go_must (refine wpList_app1 wr rfl _ _ 22 rfl 3 i0 _ 8 Tryz.underlying22 hi0 hz0 hz1 hz2 rfl wo.heap.size A2 k c2 _ rfl hownk 1 rfl rfl ?c3 ?c4 ?c5 ?_))
              case c3 => simp only [maxLen]; omega
              case c4 => omega
              intro A3 c3 w3 hown3 hbel3 hfr3 hat3
              have hown4 : Own w3 wo.heap.size 3 A3 (k + 1) c3 (ci64 (gv.take (k + 1))) := by
                rw [HG.out, ci64_snoc]
                exact hown3
              have hbk3 : Below wo.heap.size wo w3 := hbk.trans (hbel3.mono (by omega))
              clear hown3 hbel3 hfr3 hat3 hownk hbk
              go_wp2
              go_roundw
              case rel => exact ⟨k + 1, A3, c3, by omega, by go_num, rfl, hown4, hbk3⟩
              case measure => simp [intOf]; omega
            · have hunr : un = x.r.n := by omega
              have hkl : k < uz.length := by omega
              have hkr : k < x.r.zs.length := by rw [HR.out]; exact hkn
              have hkun : k < un := by omega
              obtain ⟨p2, q2, hA2, hp2, u0, hu0, hc0⟩ := hurd2.get hkun
              obtain ⟨p3, q3, hA3, hp3, u1, hu1, hc1⟩ := hrd2.get hkn
              rw [ci64_get _ _ hkl] at hu0
              rw [ci64_get _ _ hkr] at hu1
              cases hu0
              cases hu1
              have g0 := huz _ (List.getElem_mem hkl)
              have g1 := H7.out _ (List.getElem_mem hkr)
              have hg : gv[k]? = some (uz[k] - x.r.zs[k]) := by
                rw [HGV.out, gain_some (by intro he; rw [he] at hkl; simp at hkl), List.getElem?_zipWith, List.getElem?_eq_getElem hkl, List.getElem?_eq_getElem hkr]
              have HG := Lib.hid (take_gain hg)
              unfold iV at hc0 hc1
              have f0 : wr.cell? ⟨p2, q2 + k, none⟩ = some (.int .i64 uz[k]) := (hbk.cell (p := ⟨p2, q2 + k, none⟩) hp2).trans hc0
              have f1 : wr.cell? ⟨p3, q3 + k, none⟩ = some (.int .i64 x.r.zs[k]) := (hbk.cell (p := ⟨p3, q3 + k, none⟩) hp3).trans hc1
              have hp2' := Nat.lt_of_lt_of_le hp2 hwor
              have hp3' := Nat.lt_of_lt_of_le hp3 hwor
              have hpw' := Nat.lt_of_lt_of_le hpw hwor
              have clt' := Nat.lt_of_lt_of_le clt hwor
              rw [hA2] at e3
              rw [hA3] at e0
              clear hg hc0 hc1 hA2 hA3 hunr
              generalize uz[k] = z0 at g0 f0 HG
              generalize x.r.zs[k] = z1 at g1 f1 HG
              have s1 : IntKind.i64.wrap (z0 - z1) = z0 - z1 := by rw [IntKind.wrap_i64]; omega
              have hz1' : ((un : Int) == 0) = false := by rw [beq_eq_false_iff_ne]; omega
              have hz2' : decide ((un : Int) = 0) = false := by simp; omega
              have hkun' : (k : Int) < un := by omega
              have hlt' : (j : Int) < x.n := by omega
              have hkn' : (k : Int) < x.r.n := by omega
              go_wp2_with fail
              refine wp_region_ord (S := fun w' => w'.cell? ⟨w.heap.size, 0, none⟩ = some (.slice (some ⟨p3, q3, none⟩) x.r.n x.r.c) ∧ w'.cell? ⟨w.heap.size, 1, none⟩ = some (.slice (some ⟨p, q, none⟩) x.n x.c) ∧ w'.cell? ⟨p, q + j, none⟩ = some (.slice (some ⟨p2, q2, none⟩) un uc) ∧ w'.cell? ⟨p2, q2 + k, none⟩ = some (.int .i64 z0) ∧ w'.cell? ⟨p3, q3 + k, none⟩ = some (.int .i64 z1)) [(0, true), (1, true), (2, true), (3, true), (4, true), (5, true), (6, true), (7, true), (8, true), (9, true), (10, true), (11, true), (12, true), (13, true), (14, true), (15, false), (16, false), (17, true)] default (by kernel_rfl) (by kernel_rfl) (by kernel_rfl) ⟨e0, e1, e3, f0, f1⟩ ?_
              simp only [getOrd, nth]
              repeat (first | (refine ordS (by rfl) ?_; simp only [Act.put, List.setIfInBounds_toArray, List.set_cons_zero, List.set_cons_succ]) | (refine ordN (by rfl) ?_; simp only [Act.put, List.setIfInBounds_toArray, List.set_cons_zero, List.set_cons_succ]) | (refine ordQ (v := ?_) (by rfl) (fun _ hSw => ?_) ?_; rotate_left; (focus ((have hS1 := hSw.1); (have hS2 := hSw.2.1); (have hS3 := hSw.2.2.1); (have hS4 := hSw.2.2.2.1); (have hS5 := hSw.2.2.2.2); clear hSw; go_simp; (first | done | with_reducible rfl))); simp only [Act.put, List.setIfInBounds_toArray, List.set_cons_zero, List.set_cons_succ]))
              have hS : ∀ w', Below wr.heap.size wr w' → w'.cell? ⟨w.heap.size, 0, none⟩ = some (.slice (some ⟨p3, q3, none⟩) x.r.n x.r.c) ∧ w'.cell? ⟨w.heap.size, 1, none⟩ = some (.slice (some ⟨p, q, none⟩) x.n x.c) ∧ w'.cell? ⟨p, q + j, none⟩ = some (.slice (some ⟨p2, q2, none⟩) un uc) ∧ w'.cell? ⟨p2, q2 + k, none⟩ = some (.int .i64 z0) ∧ w'.cell? ⟨p3, q3 + k, none⟩ = some (.int .i64 z1) := fun w' hb => ⟨(hb.cell (p := ⟨w.heap.size, 0, none⟩) clt').trans e0, (hb.cell (p := ⟨w.heap.size, 1, none⟩) clt').trans e1, (hb.cell (p := ⟨p, q + j, none⟩) hpw').trans e3, (hb.cell (p := ⟨p2, q2 + k, none⟩) hp2').trans f0, (hb.cell (p := ⟨p3, q3 + k, none⟩) hp3').trans f1⟩
              refine ordD (by rfl) ?_
              intro K hK
              go_simp
              refine hK _ _ (hS _ (((Below.refl _ wr).drew).alloc (Nat.le_refl _) _)) ?_
              clear hK K
              try simp only [Act.put, List.setIfInBounds_toArray, List.set_cons_zero, List.set_cons_succ]
              refine ordD (by rfl) ?_
              intro K hK
              refine wp_app _ _ _ _ rfl 3 i0 _ 8 Tryz.underlying22 hi0 hz0 hz1 hz2 rfl wo.heap.size A2 k c2 _ (by rfl) (hownk.drew.alloc _) _ _ _ [.int .i64 (z0 - z1)] (by rfl) ?r1 (by simp; rfl) (by simp only [maxLen]; omega) (by omega) (by show wo.heap.size ≤ (wr.heap.push _).size; rw [Array.size_push]; omega) ?_
              case r1 =>
                refine ⟨rfl, fun _ => ⟨wr.heap.size, 0, rfl, fun jj hj => ?_⟩⟩
                obtain rfl : jj = 0 := by omega
                show (wr.alloc _).cell? ⟨wr.heap.size, 0 + 0, none⟩ = _
                rw [cell_of_row _ _ _ _ _ _ (heap_alloc_new wr _)]
                rfl
              intro A3 c3 w3 hown3 hbel3 hfr3 hat3
              have hb33 : Below wo.heap.size wr w3 := (((Below.refl _ wr).drew).alloc hwor _).trans hbel3
              have hown4 : Own w3 wo.heap.size 3 A3 (k + 1) c3 (ci64 (gv.take (k + 1))) := by
                rw [HG.out, ci64_snoc]
                exact hown3
              have hne : ∀ (b : Nat), b < wo.heap.size → w3.heap[b]? = wr.heap[b]? := fun b hb => hb33.block b hb
              have hpo2 : p2 < wo.heap.size := by assumption
              have hpo3 : p3 < wo.heap.size := by assumption
              refine hK _ _ ⟨(World.cell?_of_block (hne _ clt)).trans e0, (World.cell?_of_block (hne _ clt)).trans e1, (World.cell?_of_block (hne _ hpw)).trans e3, (World.cell?_of_block (hne _ hpo2)).trans f0, (World.cell?_of_block (hne _ hpo3)).trans f1⟩ ?_
              clear hK K
              try simp only [Act.put, List.setIfInBounds_toArray, List.set_cons_zero, List.set_cons_succ]
              repeat (first | (refine ordS (by rfl) ?_; simp only [Act.put, List.setIfInBounds_toArray, List.set_cons_zero, List.set_cons_succ]) | (refine ordN (by rfl) ?_; simp only [Act.put, List.setIfInBounds_toArray, List.set_cons_zero, List.set_cons_succ]) | (refine ordQ (v := ?_) (by rfl) (fun _ hSw => ?_) ?_; rotate_left; (focus ((have hS1 := hSw.1); (have hS2 := hSw.2.1); (have hS3 := hSw.2.2.1); (have hS4 := hSw.2.2.2.1); (have hS5 := hSw.2.2.2.2); clear hSw; go_simp; (first | done | with_reducible rfl))); simp only [Act.put, List.setIfInBounds_toArray, List.set_cons_zero, List.set_cons_succ]))
              refine ordE ?_
              have hbk3 : Below wo.heap.size wo w3 := hbk.trans hb33
              clear hown3 hbel3 hfr3 hat3 hownk hbk hb33 hne hS e0 e1 e3 f0 f1
              go_wp2
              go_roundw
              case rel => exact ⟨k + 1, A3, c3, by omega, by go_num, rfl, hown4, hbk3⟩
              case measure => simp [intOf]; omega
          · obtain rfl : k = x.r.n := by omega
            have hgl : gv.length = x.r.n := by
              rw [HGV.out]
              unfold gain
              by_cases hnil : uz = []
              · rw [if_pos hnil, List.length_map, HR.out]
              · rw [if_neg hnil, List.length_zipWith, HR.out]
                have : uz.length ≠ 0 := fun he => hnil (List.eq_nil_of_length_eq_zero he)
                omega
            rw [List.take_of_length_le (by rw [hgl]; exact Nat.le_refl _)] at hownk
            have hfit : ∀ z ∈ gv, -9223372036854775808 ≤ z ∧ z ≤ 9223372036854775807 := by
              rw [HGV.out]
              unfold gain
              by_cases hnil : uz = []
              · rw [if_pos hnil]
                intro z hz
                simp at hz
                omega
              · rw [if_neg hnil]
                intro z hz
                obtain ⟨i, hi, rfl⟩ := List.getElem_of_mem hz
                rw [List.length_zipWith] at hi
                rw [List.getElem_zipWith]
                have a1 := huz _ (List.getElem_mem (show i < uz.length by omega))
                have a2 := H7.out _ (List.getElem_mem (show i < x.r.zs.length by omega))
                omega
            have hnew : OwnI wr wo.heap.size ⟨A2, x.r.n, c2, gv⟩ := ⟨hownk, hfit⟩
            have hall2 : Hid (Ls.all (t ++ [(⟨A2, x.r.n, c2, gv⟩ : Ls)]) = (gains x.r.zs (Ls.all x.b)).take (j + 1)) := Lib.hid (by
              have h1 := HGET.out
              rw [take_gain h1, ← hall.out, ← HGV.out]
              simp [Ls.all])
            have houtr : Outs wr w1.heap.size A' j c' t := hout.below hbk
            have hsep : ∀ y ∈ t, ∀ g, Blk y g → g < wo.heap.size := fun y hy g hg => ((hout.each y hy).blk hg).2
            have hwo : w1.heap.size ≤ wo.heap.size := hbel.size
            clear hgl hfit hownk hout hall
            go_wp2_with (at_builtin; go_must (refine wpList_app1 wr rfl _ _ 23 rfl 22 i1 _ 24 Tryz.underlying23 hi1 hy0 hy1 hy2 rfl w1.heap.size A' j c' _ rfl houtr.own 1 rfl rfl ?d3 ?d4 ?d5 ?_))
            case d3 => simp only [maxLen]; omega
            case d4 => omega
            case d5 => omega
            intro A3 c3 w3 hown3 hbel3 hfr3 hat3
            have hf3 : ∀ k, k < wr.heap.size → ((j = 0 ∧ c' = 0) ∨ A' ≠ some ⟨k, 0, none⟩) → w3.heap[k]? = wr.heap[k]? := fun k hk hh => hfr3 k hk hh
            have hout3 : Outs w3 w1.heap.size A3 (j + 1) c3 (t ++ [(⟨A2, x.r.n, c2, gv⟩ : Ls)]) := houtr.snoc hnew hwo hsep hown3 hf3
            have hbel4 : Below w1.heap.size w1 w3 := (hbel.trans (hbk.mono hbel.size)).trans hbel3
            clear hown3 hbel3 hfr3 hat3 houtr hnew hsep hbk
            go_wp2
            go_roundw
            case rel => exact ⟨j + 1, A3, c3, _, by omega, by go_num, rfl, hout3, hall2, hbel4⟩
            case measure => simp [intOf]; omega
      · obtain rfl : j = x.n := by omega
        have hfin : Ls.all t = gains x.r.zs (Ls.all x.b) := by
          rw [hall.out]
          exact List.take_of_length_le (by rw [gains, List.length_map, Ls.all, List.length_map, HL.out]; exact Nat.le_refl _)
        go_wp2
        go_ret2
        exact ⟨A', _, c', rfl, t, hout.mono hB.size, hfin, hBr⟩
end Go.Proofs.YtfhiedlglmgneaaGreatDoor
