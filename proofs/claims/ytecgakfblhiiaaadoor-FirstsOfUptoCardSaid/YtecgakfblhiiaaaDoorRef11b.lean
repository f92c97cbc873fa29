/-
  The document's answer of layer 11: First.
-/
import Derived.Test.YtecgakfblhiiaaaDoorRef10c
import Derived.Test.YtecgakfblhiiaaaDoorFiT
import Derived.Test.YtecgakfblhiiaaaDoorWeM
import Derived.Test.YtecgakfblhiiaaaDoorMaL
namespace Go.Proofs.YtecgakfblhiiaaaDoor
open Go.RowKit
set_option linter.unusedVariables false

/-- Where nobody may have an item. -/
def noCol (g : List (List Int)) (k : Nat) : List (List Int) := g.map fun l => l.set k (-1)
theorem noCol_may {g : List (List Int)} {m : Int} {k : Nat} (h : mayW g m = true) : mayW (noCol g k) m = true := by
  obtain ⟨h1, h2, h3, h4⟩ := mayW_iff.1 h
  refine mayW_iff.2 ⟨h1, h2, by rw [noCol, List.length_map]; exact h3, fun l hl => ?_⟩
  obtain ⟨r, hr, rfl⟩ := List.mem_map.1 hl
  refine ⟨by rw [List.length_set]; exact (h4 r hr).1, fun z hz => ?_⟩
  rcases List.mem_or_eq_of_mem_set hz with hz | rfl
  · exact (h4 r hr).2 z hz
  · omega
theorem noCol_gG {g : List (List Int)} {m k b c : Nat} (h : mayW g m = true) (hb : b < g.length) (hk : k < m) : gG (noCol g k) b c = noneC (gG g) k b c := by
  have hl := (may_row h hb).1
  rw [gG_at (l := g[b].set k (-1)) (by rw [noCol, List.getElem?_map, List.getElem?_eq_getElem hb]; rfl), List.getD_eq_getElem?_getD, List.getElem?_set, noneC]
  have hgb : g.getD b [] = g[b] := by rw [List.getD_eq_getElem?_getD, List.getElem?_eq_getElem hb]; rfl
  by_cases e : c = k
  · subst e
    rw [if_pos rfl, if_pos (by omega), if_pos rfl]; rfl
  · rw [if_neg (fun h => e h.symm), if_neg e, gG, hgb, List.getD_eq_getElem?_getD]
theorem noCol_take {g : List (List Int)} {k j : Nat} {l : List Int} (h : g[j]? = some l) : noCol (g.take (j + 1)) k = noCol (g.take j) k ++ [l.set k (-1)] := by
  obtain ⟨hj, rfl⟩ := List.getElem?_eq_some_iff.1 h
  rw [noCol, List.take_succ_eq_append_getElem hj, List.map_append]; rfl
theorem gone_gG {g : List (List Int)} {m w k b c : Nat} (h : mayW g m = true) (hw : w < g.length) (hb : b < g.length) (hk : k < m) (hc : c < m) : gG (noCol (wout g w) k) b c = goneG (gG g) w k b c := by
  rw [noCol_gG (wout_may h hw) (by rw [wout_len]; exact hb) hk, goneG]
  unfold noneC
  by_cases e : c = k
  · rw [if_pos e, if_pos e]
  · rw [if_neg e, if_neg e, wout_gG h hw hc]
/-- What stands there when so many have gone. -/
structure StF (g : List (List Int)) (M : Nat) (o : List Int) (n : Nat) (gL : List (List Int)) (H : List Int) (want : Int) : Prop where
  may : mayW gL M = true
  len : gL.length = g.length
  hl : H.length = g.length
  want_ : want = bestV (gG gL) M g.length
  fit : ∀ z ∈ H, -1 ≤ z ∧ z < 8
  none_ : ∀ b, b < g.length → b ∉ (whoN o).take n → H.getD b (-1) = -1
  at_ : ∀ b, b < g.length → optI (firstV g M o b) = if b ∈ (whoN o).take n then H.getD b (-1) else optI (firstF (gG gL) M g.length ((whoN o).drop n) b)
theorem stf_start {g : List (List Int)} {M : Nat} {o : List Int} (h : mayW g M = true) : StF g M o 0 g (List.replicate g.length (-1)) (bestV (gG g) M g.length) :=
  ⟨h, rfl, by simp, rfl, fun z hz => by rw [(List.mem_replicate.1 hz).2]; omega, fun b hb _ => by rw [List.getD_eq_getElem?_getD, List.getElem?_replicate, if_pos hb]; rfl, fun b hb => by simp [firstV]⟩
theorem stf_end {g : List (List Int)} {M : Nat} {o : List Int} {gL : List (List Int)} {H : List Int} {want : Int} (hf : mayF g M o = true) (h : StF g M o g.length gL H want) : H = firstE g M o := by
  obtain ⟨h1, h2⟩ := mayF_iff.1 hf
  rw [(fi_ok hf).2]
  refine List.ext_getElem? fun b => ?_
  by_cases hb : b < g.length
  · rw [List.getElem?_map, List.getElem?_range hb]
    show _ = some (optI (firstV g M o b))
    rw [h.at_ b hb, if_pos (by rw [List.take_of_length_le (by rw [whoN_len, (ordB_iff.1 h2).1]; exact Nat.le_refl _)]; exact ord_all h2 hb), List.getD_eq_getElem?_getD, List.getElem?_eq_getElem (by rw [h.hl]; exact hb)]; rfl
  · rw [List.getElem?_eq_none (by rw [h.hl]; omega), List.getElem?_eq_none (by simp; omega)]
theorem who_split {o : List Int} {n w : Nat} (hw : (whoN o)[n]? = some w) : (whoN o).drop n = w :: (whoN o).drop (n + 1) ∧ (whoN o).take (n + 1) = (whoN o).take n ++ [w] := by
  obtain ⟨hn, rfl⟩ := List.getElem?_eq_some_iff.1 hw
  exact ⟨List.drop_eq_getElem_cons hn, List.take_succ_eq_append_getElem hn⟩
theorem stf_some {g : List (List Int)} {M : Nat} {o : List Int} {n w k : Nat} {gL : List (List Int)} {H : List Int} {want : Int} (ho : ordB o g.length = true) (h : StF g M o n gL H want) (hw : (whoN o)[n]? = some w) (hp : pickF (gG gL) M g.length w = some k) :
    StF g M o (n + 1) (noCol (wout gL w) k) (H.set w k) (bestV (goneG (gG gL) w k) M g.length) := by
  obtain ⟨s1, s2⟩ := who_split hw
  have hwn : w < g.length := ord_lt ho w (List.mem_of_getElem? hw)
  have hwl : w < gL.length := by rw [h.len]; exact hwn
  obtain ⟨p1, p2, p3, _⟩ := pick_some hp
  have hlen : (noCol (wout gL w) k).length = g.length := by rw [noCol, List.length_map, wout_len, h.len]
  have hgg : ∀ b c, b < g.length → c < M → gG (noCol (wout gL w) k) b c = goneG (gG gL) w k b c := fun b c hb hc => gone_gG h.may hwl (by rw [h.len]; exact hb) p1 hc
  have hM8 := (may_m h.may).2.1
  refine ⟨noCol_may (wout_may h.may hwl), hlen, by rw [List.length_set]; exact h.hl, (best_same hgg).symm, fun z hz => ?_, fun b hb hbn => ?_, fun b hb => ?_⟩
  · rcases List.mem_or_eq_of_mem_set hz with hz | rfl
    · exact h.fit z hz
    · omega
  · rw [s2, List.mem_append, List.mem_singleton, not_or] at hbn
    rw [List.getD_eq_getElem?_getD, List.getElem?_set_ne (fun e => hbn.2 e.symm), ← List.getD_eq_getElem?_getD]
    exact h.none_ b hb hbn.1
  · have hnd := ord_nodup ho
    have hwt : w ∉ (whoN o).take n := fun hm => by
      have h5 : ((whoN o).take n ++ (whoN o).drop n).Nodup := by rw [List.take_append_drop]; exact hnd
      rw [s1] at h5
      exact (List.nodup_append.1 h5).2.2 w hm w (by simp) rfl
    rw [h.at_ b hb, s2, s1, first_cons_some hp]
    by_cases e : b = w
    · subst e
      rw [if_neg hwt, if_pos (by simp), setN_eq, List.getD_eq_getElem?_getD, List.getElem?_set, if_pos rfl, if_pos (by rw [h.hl]; exact hb)]; rfl
    · by_cases e2 : b ∈ (whoN o).take n
      · rw [if_pos e2, if_pos (by simp [e2]), List.getD_eq_getElem?_getD (l := H.set w _), List.getElem?_set_ne (fun e' => e e'.symm), ← List.getD_eq_getElem?_getD]
      · rw [if_neg e2, if_neg (by simp [e2, e]), setN_ne e]
        congr 1
        exact (first_congr (fun b c hb hc _ => (hgg b c hb hc).symm) (fun b hb => ord_lt ho b (List.mem_of_mem_drop hb)) hb).symm
theorem stf_none {g : List (List Int)} {M : Nat} {o : List Int} {n w : Nat} {gL : List (List Int)} {H : List Int} {want : Int} (ho : ordB o g.length = true) (h : StF g M o n gL H want) (hw : (whoN o)[n]? = some w) (hp : pickF (gG gL) M g.length w = none) :
    StF g M o (n + 1) (wout gL w) H want := by
  obtain ⟨s1, s2⟩ := who_split hw
  have hwn : w < g.length := ord_lt ho w (List.mem_of_getElem? hw)
  have hwl : w < gL.length := by rw [h.len]; exact hwn
  have hgg : ∀ b c, b < g.length → c < M → gG (wout gL w) b c = noneG (gG gL) w b c := fun b c hb hc => wout_gG h.may hwl hc
  refine ⟨wout_may h.may hwl, by rw [wout_len, h.len], h.hl, by rw [best_same hgg, pick_none_best hp hwn]; exact h.want_, h.fit, fun b hb hbn => ?_, fun b hb => ?_⟩
  · rw [s2, List.mem_append, List.mem_singleton, not_or] at hbn
    exact h.none_ b hb hbn.1
  · have hnd := ord_nodup ho
    have hwt : w ∉ (whoN o).take n := fun hm => by
      have h5 : ((whoN o).take n ++ (whoN o).drop n).Nodup := by rw [List.take_append_drop]; exact hnd
      rw [s1] at h5
      exact (List.nodup_append.1 h5).2.2 w hm w (by simp) rfl
    rw [h.at_ b hb, s2, s1, first_cons_none hp]
    by_cases e : b = w
    · subst e
      rw [if_neg hwt, if_pos (by simp), setN_eq, h.none_ b hb hwt]; rfl
    · by_cases e2 : b ∈ (whoN o).take n
      · rw [if_pos e2, if_pos (by simp [e2])]
      · rw [if_neg e2, if_neg (by simp [e2, e]), setN_ne e]
        congr 1
        exact (first_congr (fun b c hb hc _ => (hgg b c hb hc).symm) (fun b hb => ord_lt ho b (List.mem_of_mem_drop hb)) hb).symm
theorem rep_snoc1 (k : Nat) : List.replicate (k + 1) (-1 : Int) = List.replicate k (-1) ++ [-1] := List.replicate_succ'
set_option maxRecDepth 100000 in
set_option maxHeartbeats 1000000 in
theorem rnothing (M : Nat) (w : World) (hM : M ≤ 8) : Calls Tryd.prog 23 #[.int .i64 M] w fun e w' => ∃ A c, e = .returned (.slice A M c) ∧ OwnI w' w.heap.size ⟨A, M, c, List.replicate M (-1)⟩ ∧ Below w.heap.size w w' := by
  obtain ⟨i0, hi0, hz0, hz1, hz2⟩ := info_parts info10_int
  go_enter Tryd.func23, Tryd.ntmps23
  go_wp2_with fail
  go_loopw [3, 4] (fun o v wr => ∃ (k c : Nat) (A : Option Addr), k ≤ M ∧ v = .int .i64 k ∧ o = .slice A k c ∧ OwnI wr w.heap.size ⟨A, k, c, List.replicate k (-1)⟩ ∧ Below w.heap.size w wr) (fun _ v _ => M - (intOf v).toNat)
  case atStart => exact ⟨0, 0, none, Nat.zero_le _, rfl, rfl, OwnI.nil _ _, Below.refl _ _⟩
  case round =>
    obtain ⟨k, c, A, hk, rfl, rfl, hO, hB⟩ := hrel
    have hsz := hB.size
    by_cases hkM : k < M
    · have hkM' : (k : Int) < M := by omega
      go_wp2_with (at_builtin; go_must (refine wpList_app1 wr rfl _ _ 25 rfl 3 i0 _ 8 Tryd.underlying25 hi0 hz0 hz1 hz2 rfl w.heap.size A k c _ rfl hO.own 1 rfl rfl ?d3 ?d4 ?d5 ?_))
      case d3 => simp only [maxLen]; omega
      case d4 => omega
      try case d5 => exact hsz
      intro A7 c7 w7 hown7 hbel7 _ _
      have hO7 : OwnI w7 w.heap.size ⟨A7, k + 1, c7, List.replicate (k + 1) (-1)⟩ := by
        rw [rep_snoc1]; exact OwnI.snocC hown7 hO.fit (by omega)
      have hB7 := hB.trans hbel7
      clear hown7 hbel7 hO hB
      go_wp2
      go_roundw
      case rel => exact ⟨k + 1, c7, A7, by omega, by go_num, rfl, hO7, hB7⟩
      case measure => simp [intOf]; omega
    · obtain rfl : M = k := by omega
      go_wp2
      go_ret
      exact ⟨_, _, rfl, hO, hB⟩
set_option maxRecDepth 100000 in
set_option maxHeartbeats 1000000 in
theorem rwithout (x : Gr) (k : Nat) (w : World) (hx : x.Ok w) (hn8 : x.n ≤ 8) (hr : ∀ u ∈ x.t, k < u.n ∧ u.n ≤ 8) :
    Calls Tryd.prog 24 #[.slice x.A x.n x.c, .int .i64 k] w fun e w' => ∃ A c t, e = .returned (.slice A x.n c) ∧ Own w' w.heap.size 25 A x.n c (t.map Ls.v) ∧ (∀ u ∈ t, OwnI w' w.heap.size u) ∧ Ls.all t = noCol x.g k ∧ Below w.heap.size w w' := by
  obtain ⟨i0, hi0, hz0, hz1, hz2⟩ := info_parts info10_int
  obtain ⟨i1, hi1', hy0, hy1, hy2⟩ := info_parts info10_ints
  have HGL := Lib.hid hx.glen
  have HR := Lib.hid hr
  have hk0 : (0 : Int) ≤ k := by omega
  clear hr
  go_enter Tryd.func24, Tryd.ntmps24
  go_wp2_with fail
  go_loopw [5, 6] (fun o v wr => ∃ (i c : Nat) (A : Option Addr) (t : List Ls), i ≤ x.n ∧ v = .int .i64 i ∧ o = .slice A i c ∧ Own wr w.heap.size 25 A i c (t.map Ls.v) ∧ Hid (∀ u ∈ t, OwnI wr w.heap.size u) ∧ Hid (Ls.all t = noCol (x.g.take i) k) ∧ Below w.heap.size w wr) (fun _ v _ => x.n - (intOf v).toNat)
  case atStart => exact ⟨0, 0, none, [], Nat.zero_le _, rfl, rfl, Own.none_ _ _ _ _, Lib.hid (by simp), Lib.hid (by simp [noCol, Ls.all]), Below.refl _ _⟩
  case round =>
    obtain ⟨i, c, A, t, hi, rfl, rfl, hOt, hrows, hall, hbel⟩ := hrel
    have hsz := hbel.size
    by_cases hin : i < x.n
    · have hin' : (i : Int) < x.n := by omega
      have hi0' : (0 : Int) ≤ i := by omega
      obtain ⟨p2, q2, u, hAx, hut, hgy, hp2, hcx0, hku0⟩ := hx.get hin
      have hcx := (hbel.cell (p := ⟨p2, q2 + i, none⟩) hp2).trans hcx0
      have hku := hku0.below hbel
      have hgi : x.g[i]? = some u.zs := by
        rw [← hgy, List.getD_eq_getElem?_getD, List.getElem?_eq_getElem (by rw [HGL.out]; exact hin)]; rfl
      have HN := Lib.hid (noCol_take (k := k) hgi)
      have hru := HR.out u (List.mem_of_getElem? hut)
      have hurd := hku.rd
      have hfit := hku.fit
      replace hcx : wr.cell? ⟨p2, q2 + i, none⟩ = some (.slice u.A u.n u.c) := hcx
      have hkn' : (k : Int) < u.n := by omega
      rw [hAx]
      have HAX := Lib.hid hAx
      clear hcx0 hku0 hku hgy hgi hut hAx
      go_wp2_with (at_builtin; go_must (refine wpList_app wr rfl _ _ 25 rfl 3 i0 _ 8 Tryd.underlying25 hi0 hz0 hz1 hz2 rfl wr.heap.size none 0 0 [] rfl (Own.none_ _ _ _ _) u.A u.n u.c (ci64 u.zs) rfl hurd ?e1 ?e2 ?e3 ?e4 ?_))
      case e1 => intro u hu; obtain ⟨z, _, rfl⟩ := List.mem_map.1 hu; rfl
      case e2 => simp only [maxLen]; omega
      case e3 => omega
      try case e4 => exact Nat.le_refl _
      intro A2 c2 w2 hown2 hbel2 _ _
      have hO2 : OwnI w2 wr.heap.size ⟨A2, u.n, c2, u.zs⟩ := ⟨by simpa using hown2, hfit⟩
      have hle2 := hO2.own.le
      simp only at hle2
      obtain ⟨g2, hA2, hg2, hg2l⟩ := hO2.own.lt (show 0 < c2 by omega)
      simp only at hA2
      subst hA2
      have hown3 : Own w2 wr.heap.size 3 (some ⟨g2, 0, none⟩) u.n c2 (ci64 u.zs) := hO2.own
      have hfr := hown3.free (show 0 < c2 by omega) k
      obtain ⟨vo, hvo⟩ : ∃ v, w2.cell? ⟨g2, k, none⟩ = some v := by
        rw [hown3.cell hru.1]
        exact ⟨_, List.getElem?_eq_getElem (by rw [hown3.len]; exact hru.1)⟩
      have n2 := OwnI.put10 hO2 (k := k) (z := -1) (show 0 < c2 by omega) (by omega)
      have hbs : Below wr.heap.size wr (w2.setCell ⟨g2, k, none⟩ (.int .i64 (-1))) := hbel2.setCell (p := ⟨g2, k, none⟩) hg2 _
      obtain ⟨w3, hw3⟩ : ∃ q, q = w2.setCell ⟨g2, k, none⟩ (.int .i64 (-1)) := ⟨_, rfl⟩
      rw [← hw3] at n2 hbs
      have HW3 := Lib.hid hw3
      have HS3 : Hid (w2.heap.size = w3.heap.size) := Lib.hid (by rw [hw3, World.size_setCell])
      have hOt3 := hOt.below hbs
      have hrows3 : ∀ v ∈ t, OwnI w3 w.heap.size v := fun v hv => (hrows.out v hv).below hbs
      have hsz3 : w.heap.size ≤ w3.heap.size := Nat.le_trans hsz hbs.size
      have hbV3 := hbel.trans (hbs.mono hsz)
      clear hown2 hbel2 hown3 hO2 hOt hrows hw3 hcx hurd
      go_wp2_with (first | (at_builtin; go_must ((try rw [← HW3.out]); (try rw [HS3.out]); refine wpList_app1 w3 rfl _ _ 22 rfl 25 i1 _ 24 Tryd.underlying22 hi1' hy0 hy1 hy2 rfl w.heap.size A i c _ rfl hOt3 1 rfl rfl ?d1 ?d2 ?d3 ?_)) | fail)
      case d1 => simp only [maxLen]; omega
      case d2 => omega
      try case d3 => exact hsz3
      intro A5 c5 w5 hown5 hbel5 hfr5 _
      have hbV5 := hbV3.trans hbel5
      have hT : Own w5 w.heap.size 25 A5 (i + 1) c5 ((t ++ [(⟨some ⟨g2, 0, none⟩, u.n, c2, u.zs.set k (-1)⟩ : Ls)]).map Ls.v) := by rw [List.map_append]; exact hown5
      have HR5 : Hid (∀ v ∈ t ++ [⟨some ⟨g2, 0, none⟩, u.n, c2, u.zs.set k (-1)⟩], OwnI w5 w.heap.size v) := Lib.hid (fun v hv => by
        rcases List.mem_append.1 hv with hv | hv
        · exact (hrows3 v hv).app hOt3 hfr5
        · rw [List.mem_singleton.1 hv]
          exact (n2.app hOt3 hfr5).mono hsz)
      have HA5 : Hid (Ls.all (t ++ [⟨some ⟨g2, 0, none⟩, u.n, c2, u.zs.set k (-1)⟩]) = noCol (x.g.take (i + 1)) k) := Lib.hid (by
        rw [HN.out, ← hall.out]; simp [Ls.all])
      clear hown5 hbel5 hfr5 n2 hOt3 hrows3 hbV3 hall hfr hvo
      go_wp2
      go_roundw
      case rel => exact ⟨i + 1, c5, A5, _, by omega, by go_num, rfl, hT, HR5, HA5, hbV5⟩
      case measure => simp [intOf]; omega
    · obtain rfl : i = x.n := by omega
      have hall2 : Ls.all t = noCol x.g k := by rw [hall.out, List.take_of_length_le (by rw [HGL.out]; exact Nat.le_refl _)]
      have hrows2 := hrows.out
      clear hall hrows
      have HP := Lib.hid (And.intro hrows2 hall2)
      clear hrows2 hall2
      go_wp2
      go_ret
      exact ⟨_, _, t, rfl, hOt, HP.out.1, HP.out.2, hbel⟩
end Go.Proofs.YtecgakfblhiiaaaDoor

namespace Go.Proofs.YtecgakfblhiiaaaDoor
open Go.RowKit
set_option linter.unusedVariables false

/-- A store into one block leaves what is the call's own since a later one. -/
theorem Own.keepC {w : World} {B g j n c : Nat} {e : TypeId} {A : Option Addr} {xs : List Value} {v : Value} (h : Own w B e A n c xs) (hg : g < B) : Own (w.setCell ⟨g, j, none⟩ v) B e A n c xs :=
  h.keep fun g' hA _ hB _ => heap_setCell_other w ⟨g, j, none⟩ g' v (by show g' ≠ g; omega)
theorem OwnI.keepC {w : World} {B g j : Nat} {u : Ls} {v : Value} (h : OwnI w B u) (hg : g < B) : OwnI (w.setCell ⟨g, j, none⟩ v) B u := ⟨h.own.keepC hg, h.fit⟩
theorem ci64_setAt (zs : List Int) (k : Nat) (z : Int) : ci64 (zs.set k z) = (ci64 zs).set k (.int .i64 z) := by simp [ci64, iV]
theorem cop_succ {g : List (List Int)} {i : Nat} {l : List Int} (h : g[i]? = some l) : g.take (i + 1) = g.take i ++ [l] := by
  obtain ⟨hj, rfl⟩ := List.getElem?_eq_some_iff.1 h
  rw [List.take_succ_eq_append_getElem hj]
theorem times_take {o : List Int} {k : Nat} {i : Int} (h : k < o.length) : times (o.take (k + 1)) i = times (o.take k) i + if o[k] = i then 1 else 0 := by
  rw [times, times, List.take_succ_eq_append_getElem h, List.countP_append, List.countP_cons, List.countP_nil]; simp
theorem fill_neg {n j : Nat} (h : j < n) : (List.replicate j (-1 : Int) ++ List.replicate (n - j) 0).set j (-1) = List.replicate (j + 1) (-1) ++ List.replicate (n - (j + 1)) 0 := by
  rw [List.set_append_right _ _ (by simp), List.length_replicate, Nat.sub_self, show n - j = (n - (j + 1)) + 1 by omega, List.replicate_succ, List.set_cons_zero, rep_snoc1, List.append_assoc]; rfl
set_option maxRecDepth 100000 in
set_option maxHeartbeats 4000000 in
theorem rfirstC : FirstC 8 := by
  intro x m y w hx hm1 hm2 hy
  obtain ⟨i0, hi0, hz0, hz1, hz2⟩ := info_parts info10_int
  obtain ⟨i1, hi1', hy0, hy1, hy2⟩ := info_parts info10_ints
  have hc := rcheckW x m w hx hm1 hm2
  have HGL := Lib.hid hx.glen
  have HYL := Lib.hid hy.len
  have ty := Nat.le_trans hy.cap hy.top
  unfold maxLen at ty
  obtain ⟨B, hB0⟩ : ∃ B, mayF x.g m y.zs = B := ⟨_, rfl⟩
  have HB := Lib.hid hB0
  have HBAD : Hid (B = false → fErr x.g m y.zs = 1 ∧ firstE x.g m y.zs = []) := Lib.hid fun h => fi_bad (by rw [hB0]; exact h)
  obtain ⟨E, hE⟩ : ∃ q, fErr x.g m y.zs = q := ⟨_, rfl⟩
  obtain ⟨FL, hFL⟩ : ∃ q, firstE x.g m y.zs = q := ⟨_, rfl⟩
  rw [hE, hFL] at HBAD ⊢
  have HE := Lib.hid hE
  have HFL := Lib.hid hFL
  have hv : x.v = .slice x.A x.n x.c := rfl
  have hv2 : y.v = .slice y.A y.n y.c := rfl
  have HV := Lib.hid hv
  rw [hv] at hc ⊢
  rw [hv2]
  clear hB0 hE hFL hv hv2
  obtain ⟨W, hW⟩ : ∃ q, mayW x.g m = q := ⟨_, rfl⟩
  rw [hW] at hc
  go_enter Tryd.func8, Tryd.ntmps8
  go_wp2_with fail
  refine hc.mono ?_
  rintro e w1 ⟨rfl, hb1⟩
  clear hc
  have HWW := Lib.hid hW
  clear hW
  cases W
  · have HF := Lib.hid (HBAD.out (by rw [← HB.out, mayF, HWW.out]; rfl))
    go_wp2
    go_ret2
    exact ⟨none, 0, 0, by rw [HF.out.1]; rfl, by rw [HF.out.2]; exact OwnI.nil _ _, hb1⟩
  by_cases hyx : y.n = x.n
  rotate_left
  · have gn : ((y.n : Int) != (x.n : Int)) = true := by rw [bne_iff_ne]; omega
    have gn2 : (y.n != x.n) = true := by rw [bne_iff_ne]; exact hyx
    have HF := Lib.hid (HBAD.out (by
      rw [← HB.out, mayF, Bool.and_eq_false_iff]
      refine .inr ?_
      rw [ordB, decide_eq_false (by rw [HYL.out, HGL.out]; exact hyx)]; rfl))
    clear hyx
    go_wp2
    go_ret2
    exact ⟨none, 0, 0, by rw [HF.out.1]; rfl, by rw [HF.out.2]; exact OwnI.nil _ _, hb1⟩
  have gn : ((y.n : Int) != (x.n : Int)) = false := by rw [bne_eq_false_iff_eq]; omega
  have gn2 : (y.n != x.n) = false := by rw [bne_eq_false_iff_eq]; exact hyx
  have HYX := Lib.hid hyx
  clear hyx
  obtain ⟨M, rfl⟩ : ∃ M : Nat, m = M := ⟨m.toNat, by have := (mayW_iff.1 HWW.out).1; omega⟩
  obtain ⟨hM1, hM8, hx8⟩ := may_m HWW.out
  rw [HGL.out] at hx8
  have hyn8 : y.n ≤ 8 := by rw [HYX.out]; exact hx8
  go_wp2_with fail
  clear gn gn2
  go_loopw [8] (fun v wr => ∃ i : Nat, i ≤ x.n ∧ v = .int .i64 i ∧ Hid (∀ j, j < i → times y.zs (j : Nat) = 1) ∧ wr = w1) (fun v _ => x.n - (intOf v).toNat)
  case atStart => exact ⟨0, Nat.zero_le _, rfl, Lib.hid (fun j hj => absurd hj (by omega)), rfl⟩
  case round =>
    obtain ⟨i, hi, rfl, hall, hwr⟩ := hrel
    have hwr2 := hwr.symm
    subst hwr2
    have hii0 : (0 : Int) ≤ i := by omega
    by_cases hin : i < x.n
    · have hin' : (i : Int) < x.n := by omega
      go_wp2_with fail
      go_loopw [9, 10] (fun o v wr => ∃ k : Nat, k ≤ y.n ∧ v = .int .i64 k ∧ o = .int .i64 (times (y.zs.take k) (i : Nat) : Nat) ∧ wr = w1) (fun _ v _ => y.n - (intOf v).toNat)
      case atStart => exact ⟨0, Nat.zero_le _, rfl, by simp [times], rfl⟩
      case round =>
        obtain ⟨k, hk, rfl, rfl, hwr⟩ := hrel
        have hwr2 := hwr.symm
        subst hwr2
        have hk0 : (0 : Int) ≤ k := by omega
        by_cases hkn : k < y.n
        · have hkn' : (k : Int) < y.n := by omega
          have hkl : k < y.zs.length := by rw [HYL.out]; exact hkn
          obtain ⟨p1, q1, hA1, hp1, y0, hy0', hcy⟩ := (hy.below hb1).rd.get hkn
          rw [ci64_get _ _ hkl] at hy0'
          obtain rfl : iV y.zs[k] = y0 := Option.some.inj hy0'
          unfold iV at hcy
          have hts := times_take (i := (i : Int)) hkl
          have htl : times (y.zs.take k) (i : Int) ≤ y.zs.length := Nat.le_trans List.countP_le_length (by rw [List.length_take]; omega)
          rw [HYL.out] at htl
          obtain ⟨z, hz⟩ : ∃ z, y.zs[k] = z := ⟨_, rfl⟩
          rw [hz] at hcy hts
          obtain ⟨tk, htk⟩ : ∃ q, times (y.zs.take k) (i : Int) = q := ⟨_, rfl⟩
          rw [htk] at hts htl ⊢
          have HTS := Lib.hid hts
          rw [hA1]
          have HA1 := Lib.hid hA1
          clear hy0' hz htk hts hA1
          by_cases hzi : z = (i : Int)
          · have gz : (z == (i : Int)) = true := by rw [beq_iff_eq]; exact hzi
            have HT2 : Hid (times (y.zs.take (k + 1)) (i : Int) = tk + 1) := Lib.hid (by rw [HTS.out, if_pos hzi])
            have s1 : IntKind.i64.wrap ((tk : Int) + 1) = (tk : Int) + 1 := by rw [IntKind.wrap_i64]; omega
            clear hzi
            go_wp2
            go_roundw
            case rel => exact ⟨k + 1, by omega, by go_num, by rw [HT2.out]; rfl, by first | rfl | trivial⟩
            case measure => simp [intOf]; omega
          · have gz : (z == (i : Int)) = false := by rw [beq_eq_false_iff_ne]; exact hzi
            have HT2 : Hid (times (y.zs.take (k + 1)) (i : Int) = tk) := Lib.hid (by rw [HTS.out, if_neg hzi]; rfl)
            clear hzi
            go_wp2
            go_roundw
            case rel => exact ⟨k + 1, by omega, by go_num, by rw [HT2.out], by first | rfl | trivial⟩
            case measure => simp [intOf]; omega
        · obtain rfl : k = y.n := by omega
          have htt : times (y.zs.take y.n) (i : Int) = times y.zs (i : Int) := by rw [List.take_of_length_le (by rw [HYL.out]; exact Nat.le_refl _)]
          obtain ⟨tk, htk⟩ : ∃ q, times (y.zs.take y.n) (i : Int) = q := ⟨_, rfl⟩
          rw [htk] at htt ⊢
          have HTT := Lib.hid htt
          clear htk htt
          by_cases ht1 : tk = 1
          · have gt : ((tk : Int) != 1) = false := by rw [bne_eq_false_iff_eq]; omega
            have gt2 : (tk != 1) = false := by rw [bne_eq_false_iff_eq]; exact ht1
            have HA2 : Hid (∀ j, j < i + 1 → times y.zs (j : Nat) = 1) := Lib.hid fun j hj => by
              by_cases e : j = i
              · subst e; rw [← HTT.out]; exact ht1
              · exact hall.out j (by omega)
            clear ht1 hall
            go_wp2
            go_roundw
            case rel => exact ⟨i + 1, by omega, by go_num, HA2, by first | rfl | trivial⟩
            case measure => simp [intOf]; omega
          · have gt : ((tk : Int) != 1) = true := by rw [bne_iff_ne]; omega
            have gt2 : (tk != 1) = true := by rw [bne_iff_ne]; exact ht1
            have HF := Lib.hid (HBAD.out (by
              rw [← HB.out, mayF, Bool.and_eq_false_iff]
              refine .inr (Bool.eq_false_iff.2 fun h => ht1 ?_)
              rw [HTT.out]
              exact (ordB_iff.1 h).2 i (by rw [HGL.out]; exact hin)))
            clear ht1 hall
            go_wp2
            go_ret2
            exact ⟨none, 0, 0, by rw [HF.out.1]; rfl, by rw [HF.out.2]; exact OwnI.nil _ _, hb1⟩
    · obtain rfl : i = x.n := by omega
      have hord : ordB y.zs x.g.length = true := ordB_iff.2 ⟨by rw [HYL.out, HGL.out]; exact HYX.out, fun i hi => hall.out i (by rw [← HGL.out]; exact hi)⟩
      have hmf : mayF x.g M y.zs = true := mayF_iff.2 ⟨HWW.out, hord⟩
      have HMF := Lib.hid hmf
      have HORD := Lib.hid hord
      have HE0 : Hid (E = 0) := Lib.hid (by rw [← HE.out]; exact (fi_ok hmf).1)
      obtain ⟨want, hwant⟩ : ∃ q, bestE x.g M = q := ⟨_, rfl⟩
      have hst0 : StF x.g M y.zs 0 x.g (List.replicate x.n (-1)) want := by
        rw [← hwant, (we_ok HWW.out).1, ← HGL.out]; exact stf_start HWW.out
      have HST0 := Lib.hid hst0
      have hcb := rbestC x M w1 (hx.below hb1) (by omega) (by omega)
      rw [HV.out, hwant, (we_ok HWW.out).2.1] at hcb
      clear hord hmf hall hwant hst0
      go_wp2_with fail
      refine hcb.mono ?_
      rintro e w2 ⟨rfl, hb2⟩
      clear hcb
      have hB2 := hb1.trans (hb2.mono hb1.size)
      clear hb1 hb2
      go_wp2_with (at_make; go_must (refine wpList_mk _ rfl _ _ 25 rfl w.heap.size 3 i0 _ Tryd.underlying25 hi0 hz0 hz1 rfl .i64 .i64 _ _ x.n rfl rfl rfl rfl ?mk2 ?mk3 ?mk4 ?_))
      case mk2 => rw [hz2]; omega
      case mk3 => simp only [maxLen]; omega
      case mk4 => exact hB2.size
      intro wm hownm hbelm
      obtain ⟨gh, hgh⟩ : ∃ g, g = w2.heap.size := ⟨_, rfl⟩
      rw [← hgh] at hownm ⊢
      have hH0 : Own wm w.heap.size 3 (some ⟨gh, 0, none⟩) x.n x.n (ci64 (List.replicate 0 (-1) ++ List.replicate (x.n - 0) 0)) := by
        simpa [ci64, iV, List.map_replicate] using hownm
      have hBm := hB2.trans (hbelm.mono hB2.size)
      have hghw : w.heap.size ≤ gh := by rw [hgh]; exact hB2.size
      have hghm : 0 < x.n → gh < wm.heap.size := fun h0 => by
        obtain ⟨g9, hA9, _, h9⟩ := hownm.lt h0
        cases hA9
        exact h9
      clear hownm hbelm hgh hB2
      go_wp2_with fail
      go_loopw [14] (fun v wr => ∃ j : Nat, j ≤ x.n ∧ v = .int .i64 j ∧ Own wr w.heap.size 3 (some ⟨gh, 0, none⟩) x.n x.n (ci64 (List.replicate j (-1) ++ List.replicate (x.n - j) 0)) ∧ Below w.heap.size w wr ∧ wr.heap.size = wm.heap.size) (fun v _ => x.n - (intOf v).toNat)
      case atStart => exact ⟨0, Nat.zero_le _, rfl, hH0, hBm, rfl⟩
      case round =>
        clear hH0 hBm
        obtain ⟨j, hj, rfl, hH, hBm, hsm⟩ := hrel
        have hj0 : (0 : Int) ≤ j := by omega
        by_cases hjn : j < x.n
        · have hjn' : (j : Int) < x.n := by omega
          have hfr := hH.free (show 0 < x.n by omega) j
          obtain ⟨vo, hvo⟩ : ∃ v, wr.cell? ⟨gh, j, none⟩ = some v := by
            rw [hH.cell hjn]
            exact ⟨_, List.getElem?_eq_getElem (by rw [hH.len]; exact hjn)⟩
          have hH2 := hH.set (show 0 < x.n by omega) j (.int .i64 (-1))
          rw [← ci64_setAt, fill_neg hjn] at hH2
          have hBm2 := hBm.setCell (p := ⟨gh, j, none⟩) hghw (.int .i64 (-1))
          have hsm2 : (wr.setCell ⟨gh, j, none⟩ (.int .i64 (-1))).heap.size = wm.heap.size := by rw [World.size_setCell]; exact hsm
          have HSM := Lib.hid hsm2
          clear hH hBm hsm hsm2
          go_wp2
          go_roundw
          case rel => exact ⟨j + 1, by omega, by go_num, hH2, hBm2, HSM.out⟩
          case measure => simp [intOf]; omega
        · obtain rfl : j = x.n := by omega
          have hH1 : Own wr w.heap.size 3 (some ⟨gh, 0, none⟩) x.n x.n (ci64 (List.replicate x.n (-1))) := by simpa using hH
          obtain ⟨wb, rfl⟩ : ∃ q, q = wr := ⟨_, rfl⟩
          obtain ⟨B9, hB9⟩ : ∃ q, q = wb.heap.size := ⟨_, rfl⟩
          have hgB : 0 < x.n → gh < B9 := fun h => by rw [hB9, hsm]; exact hghm h
          have HGB := Lib.hid hgB
          have HB9 := Lib.hid hB9
          have hB9w : w.heap.size ≤ B9 := by rw [hB9]; exact hBm.size
          clear hH hsm hghm hgB hB9
          go_wp2_with fail
          go_loopw [15, 16] (fun o v wr => ∃ (i c : Nat) (A : Option Addr) (t : List Ls), i ≤ x.n ∧ v = .int .i64 i ∧ o = .slice A i c ∧ Own wr B9 25 A i c (t.map Ls.v) ∧ Hid (∀ u ∈ t, OwnI wr B9 u) ∧ Hid (Ls.all t = x.g.take i) ∧ Below wb.heap.size wb wr) (fun _ v _ => x.n - (intOf v).toNat)
          case atStart => exact ⟨0, 0, none, [], Nat.zero_le _, rfl, rfl, Own.none_ _ _ _ _, Lib.hid (by simp), Lib.hid (by simp [Ls.all]), Below.refl _ _⟩
          case round =>
            obtain ⟨i, c, A, t, hi, rfl, rfl, hOt, hrows, hall, hbel⟩ := hrel
            have hsz : B9 ≤ wr.heap.size := by rw [HB9.out]; exact hbel.size
            have hbw := hBm.trans (hbel.mono hBm.size)
            by_cases hin : i < x.n
            · have hin' : (i : Int) < x.n := by omega
              have hi0' : (0 : Int) ≤ i := by omega
              obtain ⟨p2, q2, u, hAx, hut, hgy, hp2, hcx0, hku0⟩ := hx.get hin
              have hcx := (hbw.cell (p := ⟨p2, q2 + i, none⟩) hp2).trans hcx0
              have hku := hku0.below hbw
              have hgi : x.g[i]? = some u.zs := by
                rw [← hgy, List.getD_eq_getElem?_getD, List.getElem?_eq_getElem (by rw [HGL.out]; exact hin)]; rfl
              have HN := Lib.hid (cop_succ hgi)
              have hun : u.n ≤ 8 := by
                have h2 := hku.len
                have h3 := (may_row HWW.out (b := i) (by rw [HGL.out]; exact hin)).1
                obtain ⟨_, h4⟩ := List.getElem?_eq_some_iff.1 hgi
                rw [h4] at h3
                omega
              have hurd := hku.rd
              have hfit := hku.fit
              replace hcx : wr.cell? ⟨p2, q2 + i, none⟩ = some (.slice u.A u.n u.c) := hcx
              rw [hAx]
              have HAX := Lib.hid hAx
              clear hcx0 hku0 hku hgy hgi hut hAx
              go_wp2_with (at_builtin; go_must (refine wpList_app wr rfl _ _ 25 rfl 3 i0 _ 8 Tryd.underlying25 hi0 hz0 hz1 hz2 rfl wr.heap.size none 0 0 [] rfl (Own.none_ _ _ _ _) u.A u.n u.c (ci64 u.zs) rfl hurd ?e1 ?e2 ?e3 ?e4 ?_))
              case e1 => intro u hu; obtain ⟨z, _, rfl⟩ := List.mem_map.1 hu; rfl
              case e2 => simp only [maxLen]; omega
              case e3 => omega
              try case e4 => exact Nat.le_refl _
              intro A3 c3 w3 hown3 hbel3 _ _
              have n2 : OwnI w3 wr.heap.size ⟨A3, u.n, c3, u.zs⟩ := ⟨by simpa using hown3, hfit⟩
              have hOt3 := hOt.below hbel3
              have hrows3 : ∀ v ∈ t, OwnI w3 B9 v := fun v hv => (hrows.out v hv).below hbel3
              have hsz3 : B9 ≤ w3.heap.size := Nat.le_trans hsz hbel3.size
              have hbV3 := hbel.trans (hbel3.mono (by rw [← HB9.out]; exact hsz))
              clear hown3 hbel3 hOt hrows hcx hurd
              go_wp2_with (at_builtin; go_must (refine wpList_app1 w3 rfl _ _ 22 rfl 25 i1 _ 24 Tryd.underlying22 hi1' hy0 hy1 hy2 rfl B9 A i c _ rfl hOt3 1 rfl rfl ?d1 ?d2 ?d3 ?_))
              case d1 => simp only [maxLen]; omega
              case d2 => omega
              try case d3 => exact hsz3
              intro A5 c5 w5 hown5 hbel5 hfr5 _
              have hbV5 := hbV3.trans (by rw [← HB9.out]; exact hbel5)
              have hT : Own w5 B9 25 A5 (i + 1) c5 ((t ++ [(⟨A3, u.n, c3, u.zs⟩ : Ls)]).map Ls.v) := by rw [List.map_append]; exact hown5
              have HR5 : Hid (∀ v ∈ t ++ [⟨A3, u.n, c3, u.zs⟩], OwnI w5 B9 v) := Lib.hid (fun v hv => by
                rcases List.mem_append.1 hv with hv | hv
                · exact (hrows3 v hv).app hOt3 hfr5
                · rw [List.mem_singleton.1 hv]
                  exact (n2.app hOt3 hfr5).mono hsz)
              have HA5 : Hid (Ls.all (t ++ [⟨A3, u.n, c3, u.zs⟩]) = x.g.take (i + 1)) := Lib.hid (by
                rw [HN.out, ← hall.out]; simp [Ls.all])
              clear hown5 hbel5 hfr5 n2 hOt3 hrows3 hbV3 hall hbel
              go_wp2
              go_roundw
              case rel => exact ⟨i + 1, c5, A5, _, by omega, by go_num, rfl, hT, HR5, HA5, hbV5⟩
              case measure => simp [intOf]; omega
            · obtain rfl : i = x.n := by omega
              have hall2 : Hid (Ls.all t = x.g) := Lib.hid (by rw [hall.out, List.take_of_length_le (by rw [HGL.out]; exact Nat.le_refl _)])
              have hH2 := hH1.below hbel
              obtain ⟨wc, rfl⟩ : ∃ q, q = wr := ⟨_, rfl⟩
              clear hall hH1 hBm hbel
              go_wp2_with fail
              go_loopw [11, 15, 17] (fun wv lv v wr => ∃ (n cl : Nat) (Al : Option Addr) (tl : List Ls) (H : List Int) (want : Int), n ≤ x.n ∧ v = .int .i64 n ∧ lv = .slice Al x.n cl ∧ wv = .int .i64 want ∧ Own wr B9 25 Al x.n cl (tl.map Ls.v) ∧ Hid (∀ u ∈ tl, OwnI wr B9 u) ∧ Own wr w.heap.size 3 (some ⟨gh, 0, none⟩) x.n x.n (ci64 H) ∧ Hid (StF x.g M y.zs n (Ls.all tl) H want) ∧ Below w.heap.size w wr ∧ B9 ≤ wr.heap.size) (fun _ _ v _ => x.n - (intOf v).toNat)
              case atStart => exact ⟨0, c, A, t, _, want, Nat.zero_le _, rfl, rfl, rfl, hOt, hrows, hH2, Lib.hid (by rw [hall2.out]; exact HST0.out), hbw, hsz⟩
              case round =>
                clear hOt hrows hH2 hbw hsz
                obtain ⟨n, cl, Al, tl, H, want, hn, rfl, rfl, rfl, hOl, hrows, hH, hst, hB, hszB⟩ := hrel
                have hn0 : (0 : Int) ≤ n := by omega
                by_cases hnx : n < x.n
                · have hny : n < y.n := by rw [HYX.out]; exact hnx
                  have hny' : (n : Int) < y.n := by omega
                  have hnl : n < y.zs.length := by rw [HYL.out]; exact hny
                  obtain ⟨p1, q1, hA1, hp1, y0, hy0', hcy⟩ := (hy.below hB).rd.get hny
                  rw [ci64_get _ _ hnl] at hy0'
                  obtain rfl : iV y.zs[n] = y0 := Option.some.inj hy0'
                  unfold iV at hcy
                  have hzin := ord_in HORD.out _ (List.getElem_mem hnl)
                  rw [HGL.out] at hzin
                  have hwho : (whoN y.zs)[n]? = some (y.zs[n]).toNat := by rw [List.getElem?_eq_getElem (by rw [whoN_len]; exact hnl), whoN_get hnl]
                  obtain ⟨z, hz⟩ : ∃ z, y.zs[n] = z := ⟨_, rfl⟩
                  rw [hz] at hcy hzin hwho
                  obtain ⟨u, rfl⟩ : ∃ q : Nat, z = q := ⟨z.toNat, by omega⟩
                  rw [Int.toNat_natCast] at hwho
                  have HWHO := Lib.hid hwho
                  have hux : u < x.n := by omega
                  have hux' : (u : Int) < x.n := by omega
                  have hu0 : (0 : Int) ≤ u := by omega
                  -- the row that this one has
                  have hlen := hOl.len
                  rw [List.length_map] at hlen
                  obtain ⟨gl, hAl, hglB, hgll⟩ := hOl.lt (by have := hOl.le; omega)
                  subst hAl
                  have hcl0 : 0 < cl := by have := hOl.le; omega
                  obtain ⟨r, hr⟩ : ∃ q, tl[u]? = some q := ⟨_, List.getElem?_eq_getElem (by omega)⟩
                  have hor := hrows.out r (List.mem_of_getElem? hr)
                  have hcr := hOl.cell (j := u) hux
                  rw [List.getElem?_map, hr] at hcr
                  replace hcr : wr.cell? ⟨gl, u, none⟩ = some (.slice r.A r.n r.c) := hcr
                  have hfr := hOl.free hcl0 u
                  have hra : (Ls.all tl).getD u [] = r.zs := by rw [Ls.all, List.getD_eq_getElem?_getD, List.getElem?_map, hr]; rfl
                  have hal : u < (Ls.all tl).length := by rw [Ls.all, List.length_map]; omega
                  have hrow := may_row hst.out.may hal
                  have hrz : (Ls.all tl)[u] = r.zs := by
                    rw [← hra, List.getD_eq_getElem?_getD, List.getElem?_eq_getElem hal]; rfl
                  rw [hrz] at hrow
                  have hrn : r.n = M := by have h5 := hor.len; omega
                  have hGr : Hid (∀ k (hk : k < r.zs.length), gG (Ls.all tl) u k = r.zs[k]) := Lib.hid fun k hk => by
                    rw [gG, hra, List.getD_eq_getElem?_getD, List.getElem?_eq_getElem hk]; rfl
                  rw [hA1]
                  have HA1 := Lib.hid hA1
                  clear hy0' hz hwho hA1 hrz hlen
                  have hcn := rnothing M wr hM8
                  go_wp2_with fail
                  refine hcn.mono ?_
                  rintro e w7 ⟨A7, c7, rfl, h7, hb7⟩
                  clear hcn
                  have hOl7 := hOl.below hb7
                  have hfr7 := hOl7.free hcl0 u
                  have hcr7 : w7.cell? ⟨gl, u, none⟩ = some (.slice r.A r.n r.c) := (hb7.cell (p := ⟨gl, u, none⟩) hgll).trans hcr
                  have hB7 := hB.trans (hb7.mono hB.size)
                  have hrows7 : ∀ v ∈ tl, OwnI w7 B9 v := fun v hv => (hrows.out v hv).below hb7
                  have hH7 := hH.below hb7
                  have h7B := h7.mono hszB
                  -- the store
                  obtain ⟨w8, hw8⟩ : ∃ q, q = w7.setCell ⟨gl, u, none⟩ (.slice A7 M c7) := ⟨_, rfl⟩
                  have hOl8 : Own w8 B9 25 (some ⟨gl, 0, none⟩) x.n cl ((tl.set u ⟨A7, M, c7, List.replicate M (-1)⟩).map Ls.v) := by
                    rw [hw8, List.map_set]; exact hOl7.set hcl0 u (.slice A7 M c7)
                  have hr8 : ∀ v ∈ tl, OwnI w8 B9 v := fun v hv => by rw [hw8]; exact (hrows7 v hv).setL hOl7 hcl0
                  have hN8 : OwnI w8 B9 ⟨A7, M, c7, List.replicate M (-1)⟩ := by rw [hw8]; exact h7B.setL hOl7 hcl0
                  have hH8 : Own w8 w.heap.size 3 (some ⟨gh, 0, none⟩) x.n x.n (ci64 H) := by rw [hw8]; exact hH7.setL hOl7 hcl0 (by decide)
                  have hrowsT : ∀ v ∈ tl.set u ⟨A7, M, c7, List.replicate M (-1)⟩, OwnI w8 B9 v := fun v hv => by
                    rcases List.mem_or_eq_of_mem_set hv with hv | rfl
                    · exact hr8 v hv
                    · exact hN8
                  have hor8 := hr8 r (List.mem_of_getElem? hr)
                  have hB8 : Below w.heap.size w w8 := by rw [hw8]; exact hB7.setCell (p := ⟨gl, u, none⟩) (by show w.heap.size ≤ gl; omega) _
                  have hsz8 : B9 ≤ w8.heap.size := by rw [hw8, World.size_setCell]; exact Nat.le_trans hszB hb7.size
                  have HW8 := Lib.hid hw8
                  have HT8 : Hid (Ls.all (tl.set u ⟨A7, M, c7, List.replicate M (-1)⟩) = wout (Ls.all tl) u) := Lib.hid (by
                    rw [wout, Ls.all, Ls.all, List.map_set]
                    congr 1
                    have h9 : (List.map Ls.zs tl).getD u [] = r.zs := hra
                    rw [h9, hrow.1])
                  have hgo8 : Gr.Ok w8 ⟨some ⟨gl, 0, none⟩, x.n, cl, tl.set u ⟨A7, M, c7, List.replicate M (-1)⟩⟩ := own_lists hOl8 fun v hv => (hrowsT v hv).ok
                  have HT8N : Hid (∀ v ∈ tl.set u ⟨A7, M, c7, List.replicate M (-1)⟩, v.n = M) := Lib.hid fun v hv => by
                    have h9 := (mayW_iff.1 (wout_may hst.out.may hal)).2.2.2 v.zs (by rw [← HT8.out]; exact List.mem_map_of_mem hv)
                    have h10 := (hrowsT v hv).len
                    omega
                  have HUL := Lib.hid hal
                  have HRZ := Lib.hid hrow
                  clear hw8 hOl hrows hH hb7 hB hOl7 hB7 hrows7 hH7 h7B h7 hr8 hcr hra hal hrow hr hszB hor hcy
                  obtain ⟨tL, htL⟩ : ∃ q, tl.set u ⟨A7, M, c7, List.replicate M (-1)⟩ = q := ⟨_, rfl⟩
                  rw [htL] at hOl8 hrowsT HT8 hgo8 HT8N
                  have HTL := Lib.hid htL
                  have HRW8 := Lib.hid hrowsT
                  clear htL hrowsT
                  go_wp2_with fail
                  rw [← HW8.out]
                  go_loopw [11, 15, 20] (fun wv lv v wr => ∃ k : Nat, k ≤ M ∧ v = .int .i64 k ∧ lv = .slice (some ⟨gl, 0, none⟩) x.n cl ∧ wv = .int .i64 want ∧ Hid (∀ j, j < k → 0 ≤ gG (Ls.all tl) u j → gG (Ls.all tl) u j + bestV (goneG (gG (Ls.all tl)) u j) M x.g.length ≠ want) ∧ Below w8.heap.size w8 wr) (fun _ _ v _ => M - (intOf v).toNat)
                  case atStart => exact ⟨0, Nat.zero_le _, rfl, rfl, rfl, Lib.hid (fun j hj => absurd hj (by omega)), Below.refl _ _⟩
                  case round =>
                    obtain ⟨k, hk, rfl, rfl, rfl, hno, hb9⟩ := hrel
                    have hk0 : (0 : Int) ≤ k := by omega
                    by_cases hkM : k < M
                    · have hkM' : (k : Int) < M := by omega
                      have hkr : (k : Int) < r.n := by omega
                      have hkl : k < r.zs.length := by rw [HRZ.out.1]; exact hkM
                      obtain ⟨p4, q4, hA4, hp4, t0, ht0, hct0⟩ := hor8.ok.rd.get (show k < r.n by omega)
                      rw [ci64_get _ _ hkl] at ht0
                      obtain rfl : iV r.zs[k] = t0 := Option.some.inj ht0
                      unfold iV at hct0
                      have hct := (hb9.cell (p := ⟨p4, q4 + k, none⟩) hp4).trans hct0
                      have hGk := hGr.out k hkl
                      have htb := HRZ.out.2 _ (List.getElem_mem hkl)
                      obtain ⟨t, ht⟩ : ∃ t, r.zs[k] = t := ⟨_, rfl⟩
                      rw [ht] at hct hGk htb
                      have HGK := Lib.hid hGk
                      rw [hA4]
                      have HA4 := Lib.hid hA4
                      clear ht0 hct0 ht hGk hA4
                      by_cases ht0 : t < 0
                      · have g1 : decide (t < 0) = true := decide_eq_true ht0
                        have HNO : Hid (∀ j, j < k + 1 → 0 ≤ gG (Ls.all tl) u j → gG (Ls.all tl) u j + bestV (goneG (gG (Ls.all tl)) u j) M x.g.length ≠ want) := Lib.hid fun j hj h0 => by
                          by_cases e : j = k
                          · rw [e, HGK.out] at h0; omega
                          · exact hno.out j (by omega) h0
                        clear ht0 hno
                        go_wp2
                        go_roundw
                        case rel => exact ⟨k + 1, by omega, by go_num, rfl, rfl, HNO, hb9⟩
                        case measure => simp [intOf]; omega
                      have g1 : decide (t < 0) = false := decide_eq_false ht0
                      have hgo9 := hgo8.below hb9
                      have hcw := rwithout ⟨some ⟨gl, 0, none⟩, x.n, cl, tL⟩ k wr hgo9 hx8 (fun v hv => by have h5 := HT8N.out v hv; omega)
                      have hallL : Gr.g ⟨some ⟨gl, 0, none⟩, x.n, cl, tL⟩ = wout (Ls.all tl) u := HT8.out
                      have hmayN : mayW (noCol (wout (Ls.all tl) u) k) M = true := noCol_may (wout_may hst.out.may HUL.out)
                      have hlenN : (noCol (wout (Ls.all tl) u) k).length = x.n := by rw [noCol, List.length_map, wout_len, hst.out.len, HGL.out]
                      obtain ⟨b9, hb9'⟩ : ∃ q, bestE (noCol (wout (Ls.all tl) u) k) M = q := ⟨_, rfl⟩
                      have hbv : b9 = bestV (goneG (gG (Ls.all tl)) u k) M x.g.length := by
                        rw [← hb9', bestE_of hmayN fun b c hb hc => gone_gG hst.out.may HUL.out (by rw [hst.out.len, HGL.out]; rw [hlenN] at hb; exact hb) hkM hc, hlenN, HGL.out]
                      have hbb9 : 0 ≤ b9 ∧ b9 ≤ 8000000 := by rw [← hb9', (we_ok hmayN).1]; exact best_bound hmayN
                      have HBV := Lib.hid hbv
                      have HB9' := Lib.hid hb9'
                      have HER := Lib.hid (we_ok hmayN).2.1
                      rw [hallL] at hcw
                      clear hgo9 hallL hmayN hlenN hbv hb9'
                      go_wp2_with fail
                      refine hcw.mono ?_
                      rintro e w10 ⟨A10, c10, t10, rfl, hO10, hr10, hg10, hb10⟩
                      clear hcw
                      have HG10 := Lib.hid hg10
                      have hgo10 : Gr.Ok w10 ⟨A10, x.n, c10, t10⟩ := own_lists hO10 fun v hv => (hr10 v hv).ok
                      have hcb := rbestC ⟨A10, x.n, c10, t10⟩ M w10 hgo10 (by omega) (by omega)
                      rw [show Gr.v ⟨A10, x.n, c10, t10⟩ = .slice A10 x.n c10 from rfl, show Gr.g ⟨A10, x.n, c10, t10⟩ = noCol (wout (Ls.all tl) u) k from HG10.out, HB9'.out, HER.out] at hcb
                      clear hg10 hgo10
                      go_wp2_with fail
                      refine hcb.mono ?_
                      rintro e w11 ⟨rfl, hb11⟩
                      clear hcb
                      have hb12 := (hb9.trans (hb10.mono hb9.size)).trans (hb11.mono (by have h5 := hb9.size; have h6 := hb10.size; omega))
                      have hct12 := ((hb10.trans (hb11.mono hb10.size)).cell (p := ⟨p4, q4 + k, none⟩) (by have h5 := hb9.size; show p4 < wr.heap.size; omega)).trans hct
                      have s1 : IntKind.i64.wrap (t + b9) = t + b9 := by rw [IntKind.wrap_i64]; omega
                      by_cases heq : t + b9 = want
                      · have g2 : ((t + b9) == want) = true := by rw [beq_iff_eq]; exact heq
                        have hpk : pickF (gG (Ls.all tl)) M x.g.length u = some k := find_range.2 ⟨hkM, by
                          rw [decide_eq_true (show 0 ≤ gG (Ls.all tl) u k by rw [HGK.out]; omega), decide_eq_true (by rw [HGK.out, ← HBV.out, heq]; exact hst.out.want_)]; rfl, fun j hj => by
                          by_cases h0 : 0 ≤ gG (Ls.all tl) u j
                          · rw [decide_eq_false (show ¬ (gG (Ls.all tl) u j + bestV (goneG (gG (Ls.all tl)) u j) M x.g.length = bestV (gG (Ls.all tl)) M x.g.length) from fun h => hno.out j hj h0 (by rw [h]; exact hst.out.want_.symm))]; simp
                          · rw [decide_eq_false h0]; rfl⟩
                        have hst2 := stf_some HORD.out hst.out HWHO.out hpk
                        rw [← HBV.out, ← HG10.out] at hst2
                        have HST2 := Lib.hid hst2
                        have hB12 := hB8.trans (hb12.mono hB8.size)
                        have hH12 := hH8.below hb12
                        have hO12 := (hO10.below hb11).mono (show B9 ≤ wr.heap.size by have h5 := hb9.size; omega)
                        have hr12 : ∀ v ∈ t10, OwnI w11 B9 v := fun v hv => ((hr10 v hv).below hb11).mono (by have h5 := hb9.size; omega)
                        have hfrH := hH12.free (show 0 < x.n by omega) u
                        obtain ⟨vo, hvo⟩ : ∃ v, w11.cell? ⟨gh, u, none⟩ = some v := by
                          rw [hH12.cell hux]
                          exact ⟨_, List.getElem?_eq_getElem (by rw [hH12.len]; exact hux)⟩
                        have hgB := HGB.out (by omega)
                        have hH13 := hH12.set (show 0 < x.n by omega) u (.int .i64 (k : Int))
                        rw [← ci64_setAt] at hH13
                        have hO13 := hO12.keepC (j := u) (v := .int .i64 (k : Int)) hgB
                        have HR13 : Hid (∀ v ∈ t10, OwnI (w11.setCell ⟨gh, u, none⟩ (.int .i64 (k : Int))) B9 v) := Lib.hid fun v hv => (hr12 v hv).keepC hgB
                        have hB13 := hB12.setCell (p := ⟨gh, u, none⟩) hghw (.int .i64 (k : Int))
                        have hsz13 : B9 ≤ (w11.setCell ⟨gh, u, none⟩ (.int .i64 (k : Int))).heap.size := by rw [World.size_setCell]; have h5 := hb12.size; omega
                        have HSZ13 := Lib.hid hsz13
                        clear heq hno hpk hst2 hst hB12 hH12 hO12 hr12 hO10 hr10 hb10 hb11 hb12 hOl8 hgo8 hH8 hB8 hor8 hb9 hsz13 hsz8 hct
                        go_wp2
                        go_roundw
                        case rel => exact ⟨n + 1, c10, A10, t10, _, b9, by omega, by go_num, rfl, rfl, hO13, HR13, hH13, HST2, hB13, HSZ13.out⟩
                        case measure => simp [intOf]; omega
                      · have g2 : ((t + b9) == want) = false := by rw [beq_eq_false_iff_ne]; exact heq
                        have HNO : Hid (∀ j, j < k + 1 → 0 ≤ gG (Ls.all tl) u j → gG (Ls.all tl) u j + bestV (goneG (gG (Ls.all tl)) u j) M x.g.length ≠ want) := Lib.hid fun j hj h0 => by
                          by_cases e : j = k
                          · rw [e, HGK.out, ← HBV.out]; exact heq
                          · exact hno.out j (by omega) h0
                        clear heq hno hb9 hb10 hb11 hct hO10 hr10
                        go_wp2
                        go_roundw
                        case rel => exact ⟨k + 1, by omega, by go_num, rfl, rfl, HNO, hb12⟩
                        case measure => simp [intOf]; omega
                    · obtain rfl : M = k := by omega
                      have hpk : pickF (gG (Ls.all tl)) M x.g.length u = none := find_range_none.2 fun j hj => by
                        by_cases h0 : 0 ≤ gG (Ls.all tl) u j
                        · rw [decide_eq_false (show ¬ (gG (Ls.all tl) u j + bestV (goneG (gG (Ls.all tl)) u j) M x.g.length = bestV (gG (Ls.all tl)) M x.g.length) from fun h => hno.out j hj h0 (by rw [h]; exact hst.out.want_.symm))]; simp
                        · rw [decide_eq_false h0]; rfl
                      have hst2 := stf_none HORD.out hst.out HWHO.out hpk
                      rw [← HT8.out] at hst2
                      have HST2 := Lib.hid hst2
                      have hB12 := hB8.trans (hb9.mono hB8.size)
                      have hH12 := hH8.below hb9
                      have hO12 := hOl8.below hb9
                      have HR12 : Hid (∀ v ∈ tL, OwnI wr B9 v) := Lib.hid fun v hv => (HRW8.out v hv).below hb9
                      have hsz12 : B9 ≤ wr.heap.size := by have h5 := hb9.size; omega
                      clear hno hpk hst2 hst hOl8 hgo8 hH8 hB8 hor8 hb9 hsz8
                      go_wp2
                      go_roundw
                      case rel => exact ⟨n + 1, cl, _, tL, H, want, by omega, by go_num, rfl, rfl, hO12, HR12, hH12, HST2, hB12, hsz12⟩
                      case measure => simp [intOf]; omega
                · obtain rfl : n = x.n := by omega
                  have gl : decide ((x.n : Int) < (y.n : Int)) = false := decide_eq_false (by rw [HYX.out]; omega)
                  have gl2 : decide (x.n < y.n) = false := decide_eq_false (by rw [HYX.out]; omega)
                  have HFIN : Hid (H = FL) := Lib.hid (by
                    have h5 := stf_end HMF.out (by rw [HGL.out]; exact hst.out)
                    rw [h5, HFL.out])
                  have hres : OwnI wr w.heap.size ⟨some ⟨gh, 0, none⟩, x.n, x.n, FL⟩ := by
                    rw [← HFIN.out]
                    exact ⟨hH, fun z hz => by have := hst.out.fit z hz; omega⟩
                  clear hOl hrows hH hst
                  go_wp2
                  go_ret2
                  exact ⟨_, _, _, by rw [HE0.out]; rfl, hres, hB⟩
end Go.Proofs.YtecgakfblhiiaaaDoor
