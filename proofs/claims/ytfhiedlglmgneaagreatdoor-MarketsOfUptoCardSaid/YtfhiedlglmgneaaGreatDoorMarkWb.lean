/-
  Walks of package markets: gainsOf, Gains.
-/
import Derived.Test.YtfhiedlglmgneaaGreatDoorMarkF
import Derived.Test.YtfhiedlglmgneaaGreatDoorMarkWa
namespace Go.Proofs.YtfhiedlglmgneaaGreatDoor
open Go.RowKit
set_option linter.unusedVariables false

theorem gainB_nil (r : List Int) : gain r [] = List.replicate r.length (-1) := by
  unfold gain
  rw [if_pos rfl]
  exact List.map_const' ..
theorem gainB_some {r l : List Int} (h : l ≠ []) : gain r l = List.zipWith (· - ·) l r := by unfold gain; rw [if_neg h]
theorem infoB_ints : (Tryz.prog.info? 22).map (fun i => (i.zero, i.size, i.bytes)) = some (some (.slice none 0 0), 1, 24) := by kernel_rfl
theorem takeB {α : Type} {g : List α} {k : Nat} {z : α} (h : g[k]? = some z) : g.take (k + 1) = g.take k ++ [z] := by
  obtain ⟨hk, he⟩ := List.getElem?_eq_some_iff.1 h
  rw [List.take_succ_eq_append_getElem hk, he]
/-- A store into a row of ints of which the first ones are done. -/
theorem own_step {w : World} {B g m j : Nat} {gv : List Int} {z : Int} (h : Own w B 3 (some ⟨g, 0, none⟩) m m (ci64 (gv.take j ++ List.replicate (m - j) 0))) (hj : j < m) (hz : gv[j]? = some z) :
    Own (w.setCell ⟨g, j, none⟩ (.int .i64 z)) B 3 (some ⟨g, 0, none⟩) m m (ci64 (gv.take (j + 1) ++ List.replicate (m - (j + 1)) 0)) := by
  have h1 := h.set (by omega) j (.int .i64 z)
  have hlt := (List.getElem?_eq_some_iff.1 hz).1
  rw [show m - j = (m - (j + 1)) + 1 by omega, List.replicate_succ] at h1
  have h2 := ci64_set (gv.take j) (List.replicate (m - (j + 1)) 0) 0 z
  rw [List.length_take, Nat.min_eq_left (by omega)] at h2
  rw [h2] at h1
  rw [takeB hz, List.append_assoc]
  exact h1

set_option maxRecDepth 100000 in
set_option maxHeartbeats 1000000 in
theorem gainsof_any (A : Option Addr) (n c : Nat) (xs : List Int) (A2 : Option Addr) (m c2 : Nat) (ys : List Int) (w : World) (hr : Rd w A n (ci64 xs)) (hr2 : Rd w A2 m (ci64 ys)) (hn : n = 0 ∨ n = m) (hm : m ≤ 100)
    (hx : ∀ z ∈ xs, 0 ≤ z ∧ z ≤ 1000000) (hy : ∀ z ∈ ys, 0 ≤ z ∧ z ≤ 1000000) :
    Calls Tryz.prog 26 #[.slice A n c, .slice A2 m c2] w fun e w' => ∃ A' c', e = .returned (.slice A' m c') ∧ Own w' w.heap.size 3 A' m c' (ci64 (gain ys xs)) ∧ Below w.heap.size w w' := by
  have hxl : xs.length = n := by have h := hr.len; rw [ci64_len] at h; exact h
  have hyl : ys.length = m := by have h := hr2.len; rw [ci64_len] at h; exact h
  obtain ⟨gv, hgv⟩ : ∃ gv, gv = gain ys xs := ⟨_, rfl⟩
  have hgl : gv.length = m := by
    rw [hgv]
    rcases hn with hn | hn
    · rw [List.eq_nil_of_length_eq_zero (hxl.trans hn), gainB_nil, List.length_replicate, hyl]
    · unfold gain
      split
      · rw [List.length_map, hyl]
      · rw [List.length_zipWith, hxl, hyl, hn, Nat.min_self]
  rw [← hgv]
  obtain ⟨i0, hi0, hz0, hz1, hz2⟩ := info_parts info_int
  have HGV := Lib.hid hgv
  have HGL := Lib.hid hgl
  have HXL := Lib.hid hxl
  have HYL := Lib.hid hyl
  clear hgv hgl hxl hyl
  go_enter Tryz.func26, Tryz.ntmps26
  go_wp2_with (at_make; go_must (refine wpList_mk _ rfl _ _ 22 rfl w.heap.size 3 i0 _ Tryz.underlying22 hi0 hz0 hz1 rfl .i64 .i64 _ _ m rfl rfl rfl rfl ?c2 ?c3 ?c4 ?_))
  case c2 => rw [hz2]; omega
  case c3 => simp only [maxLen]; omega
  case c4 => exact Nat.le_refl _
  intro w1 hown1 hbel1
  go_wp2_with fail
  go_loopw [13] (fun i wr => ∃ j : Nat, j ≤ m ∧ i = .int .i64 j ∧ Own wr w.heap.size 3 (some ⟨w.heap.size, 0, none⟩) m m (ci64 (gv.take j ++ List.replicate (m - j) 0)) ∧ Below w.heap.size w wr) (fun i _ => m - (intOf i).toNat)
  case atStart => exact ⟨0, Nat.zero_le _, rfl, by simpa [ci64, iV] using hown1, hbel1⟩
  case round =>
    obtain ⟨j, hj, rfl, hown, hbel⟩ := hrel
    by_cases hlt : j < m
    · obtain ⟨p, q, rfl, hp, u0, hu0, hc0⟩ := hr2.get hlt
      have hjy : j < ys.length := by rw [HYL.out]; exact hlt
      rw [ci64_get _ _ hjy] at hu0
      obtain rfl : iV ys[j] = u0 := Option.some.inj hu0
      have hcy : wr.cell? ⟨p, q + j, none⟩ = some (.int .i64 ys[j]) := (hbel.cell (p := ⟨p, q + j, none⟩) hp).trans hc0
      have by0 := hy _ (List.getElem_mem hjy)
      have hfr := hown.free (by omega) j
      obtain ⟨vo, hvo⟩ : ∃ v, wr.cell? ⟨w.heap.size, j, none⟩ = some v := by
        have h := hown.cell hlt
        rw [ci64_get _ _ (by rw [List.length_append, List.length_take, List.length_replicate, HGL.out]; omega)] at h
        exact ⟨_, h⟩
      by_cases hz0' : n = 0
      · subst hz0'
        have hg : gv[j]? = some (-1) := by
          rw [HGV.out, List.eq_nil_of_length_eq_zero HXL.out, gainB_nil, List.getElem?_replicate, if_pos (by omega)]
        have hnext := own_step hown hlt hg
        have hb2 := hbel.setCell (p := ⟨w.heap.size, j, none⟩) (Nat.le_refl _) (.int .i64 (-1))
        clear hu0 hc0 hown hbel hg
        go_wp2
        go_roundw
        case rel => exact ⟨j + 1, by omega, by go_num, hnext, hb2⟩
        case measure => simp [intOf]; omega
      · have hnm : j < n := by omega
        obtain ⟨p1, q1, rfl, hp1, u1, hu1, hc1⟩ := hr.get hnm
        have hjx : j < xs.length := by rw [HXL.out]; exact hnm
        rw [ci64_get _ _ hjx] at hu1
        obtain rfl : iV xs[j] = u1 := Option.some.inj hu1
        have hcx : wr.cell? ⟨p1, q1 + j, none⟩ = some (.int .i64 xs[j]) := (hbel.cell (p := ⟨p1, q1 + j, none⟩) hp1).trans hc1
        have bx0 := hx _ (List.getElem_mem hjx)
        have hg : gv[j]? = some (xs[j] - ys[j]) := by
          rw [HGV.out, gainB_some (by intro he; rw [he] at hjx; simp at hjx), List.getElem?_zipWith, List.getElem?_eq_getElem hjx, List.getElem?_eq_getElem hjy]
        have hnext := own_step hown hlt hg
        have hb2 := hbel.setCell (p := ⟨w.heap.size, j, none⟩) (Nat.le_refl _) (.int .i64 (xs[j] - ys[j]))
        generalize xs[j] = z0 at bx0 hcx hnext hb2
        generalize ys[j] = z1 at by0 hcy hnext hb2
        have s1 : IntKind.i64.wrap (z0 - z1) = z0 - z1 := by rw [IntKind.wrap_i64]; omega
        have hpos : decide (0 < n) = true := by simp; omega
        clear hu0 hc0 hown hbel hg hu1 hc1
        go_wp2
        go_roundw
        case rel => exact ⟨j + 1, by omega, by go_num, hnext, hb2⟩
        case measure => simp [intOf]; omega
    · obtain rfl : j = m := by omega
      have hown3 : Own wr w.heap.size 3 (some ⟨w.heap.size, 0, none⟩) j j (ci64 gv) := by
        rw [Nat.sub_self, List.replicate_zero, List.append_nil, List.take_of_length_le (by rw [HGL.out]; exact Nat.le_refl _)] at hown
        exact hown
      clear hown
      go_wp2
      go_ret
      exact ⟨_, _, rfl, hown3, hbel⟩

/-- The list of bids: where it lies, and each of them. -/
theorem bids_at {w : World} {x : Mk} (h : x.Ok w) (hn : 0 < x.n) : ∃ p q, x.A = some ⟨p, q, none⟩ ∧ p < w.heap.size ∧ ∀ j, j < x.n → ∃ u, x.b[j]? = some u ∧ w.cell? ⟨p, q + j, none⟩ = some (.slice u.A u.n u.c) ∧ u.Ok w := by
  obtain ⟨p, q, u, hA, _, _, hp, _, _⟩ := h.get hn
  refine ⟨p, q, hA, hp, fun j hj => ?_⟩
  obtain ⟨p', q', u', hA', hu', _, _, hc', hk'⟩ := h.get hj
  rw [hA] at hA'
  cases hA'
  exact ⟨u', hu', hc', hk'⟩

set_option maxRecDepth 100000 in
set_option maxHeartbeats 1000000 in
theorem mgainsC : GainsC 6 := by
  intro x w h
  obtain ⟨β, hβ⟩ : ∃ β, x.may = β := ⟨_, rfl⟩
  have herr : x.err = if β = true then 0 else 1 := by rw [Mk.err, hβ]
  have hbs : x.gains = if β = true then gains x.r.zs (Ls.all x.b) else [] := by rw [Mk.gains, hβ]
  rw [herr, hbs]
  clear herr hbs
  have hck := mcheckC x
  rw [hβ] at hck
  have hv : x.v = .agg #[.slice x.r.A x.r.n x.r.c, .slice x.A x.n x.c, .slice x.o.A x.o.n x.o.c] := rfl
  rw [hv]
  rw [hv] at hck
  cases β
  · go_enter Tryz.func6, Tryz.ntmps6
    go_wp2_with fail
    have hBW : Below w.heap.size w (w.alloc (.cells #[.slice x.r.A x.r.n x.r.c, .slice x.A x.n x.c, .slice x.o.A x.o.n x.o.c] 25)) := (Below.refl _ w).alloc (Nat.le_refl _) _
    refine (hck _ (h.below hBW)).mono ?_
    rintro e w1 ⟨rfl, hb1⟩
    have hB := hBW.trans (hb1.mono hBW.size)
    clear hck
    go_wp2
    go_ret2
    exact ⟨none, 0, 0, rfl, [], Outs.none_ _ _, rfl, hB⟩
  · obtain ⟨i1, hi1, hy0, hy1, hy2⟩ := info_parts infoB_ints
    obtain ⟨l1, l2, l3, l4, l5, l6, l7, l8⟩ := mk_len h hβ
    have hbox := InBox.new w x
    have hlen : x.b.length = x.n := h.len
    have hrd := h.r.rd
    obtain ⟨p, q, hA, hp, hat⟩ := bids_at h (by omega)
    have HL := Lib.hid hlen
    have H6 := Lib.hid l6
    have H7 := Lib.hid l7
    have H8 := Lib.hid l8
    have HA := Lib.hid hA
    clear l5 l6 l7 l8 hlen hA
    go_enter Tryz.func6, Tryz.ntmps6
    go_wp2_with fail
    have hBW : Below w.heap.size w (w.alloc (.cells #[.slice x.r.A x.r.n x.r.c, .slice x.A x.n x.c, .slice x.o.A x.o.n x.o.c] 25)) := (Below.refl _ w).alloc (Nat.le_refl _) _
    refine (hck _ (h.below hBW)).mono ?_
    rintro e w1 ⟨rfl, hb1⟩
    have hB := hBW.trans (hb1.mono hBW.size)
    have hbox1 := hbox.below hb1
    clear hbox hb1 hBW hck
    have ⟨c0, c1, c2', clt⟩ := hbox1
    rw [HA.out] at c1
    go_wp2_with (at_make; go_must (refine wpList_mk _ rfl _ _ 23 rfl w1.heap.size 22 i1 _ Tryz.underlying23 hi1 hy0 hy1 rfl .i64 .i64 _ _ x.n rfl rfl rfl rfl ?c2 ?c3 ?c4 ?_))
    case c2 => rw [hy2]; omega
    case c3 => simp only [maxLen]; omega
    case c4 => exact Nat.le_refl _
    intro w2 hown2 hbel2
    have hf2 := Fill.start hown2
    have hbox2 := hbox1.below hbel2
    have hB2 := hB.trans (hbel2.mono hB.size)
    have hs2 := hbel2.size
    obtain ⟨g, hg⟩ : ∃ g, g = w1.heap.size := ⟨_, rfl⟩
    rw [← hg] at hf2 hbel2 hs2 ⊢
    have hgw : w.heap.size ≤ g := by rw [hg]; exact hB.size
    have hboxg : w.heap.size < g := by rw [hg]; exact clt
    clear hown2 hbox1 hB c0 c1 c2' clt hbel2 hg
    have ⟨c0, c1, c2', clt⟩ := hbox2
    rw [HA.out] at c1
    go_wp2_with fail
    go_loopw [17] (fun i wr => ∃ (j : Nat) (t : List Ls), j ≤ x.n ∧ i = .int .i64 j ∧ t.length = j ∧ Fill wr g (some ⟨g, 0, none⟩) x.n t ∧ Hid (Ls.all t = (gains x.r.zs (Ls.all x.b)).take j) ∧ Below w.heap.size w wr ∧ InBox wr w.heap.size x) (fun i _ => x.n - (intOf i).toNat)
    case atStart => exact ⟨0, [], Nat.zero_le _, rfl, rfl, hf2, Lib.hid rfl, hB2, hbox2⟩
    case round =>
      obtain ⟨j, t, hj, rfl, hjt, hf, hall, hbel, hbx⟩ := hrel
      clear hbox2 hB2 hf2 c0 c1 c2' clt hs2
      have ⟨c0, c1, c2', clt⟩ := hbx
      by_cases hlt : j < x.n
      · obtain ⟨u, hu, hcu, hk⟩ := hat j hlt
        have hcell : wr.cell? ⟨p, q + j, none⟩ = some (.slice u.A u.n u.c) := (hbel.cell (p := ⟨p, q + j, none⟩) hp).trans hcu
        have hget : (gains x.r.zs (Ls.all x.b))[j]? = some (gain x.r.zs u.zs) := by rw [gains, List.getElem?_map, Ls.all, List.getElem?_map, hu]; rfl
        have HT := Lib.hid (takeB hget)
        have hgo := gainsof_any u.A u.n u.c u.zs x.r.A x.r.n x.r.c x.r.zs wr (hk.rd.below hbel) (hrd.below hbel) (H6.out u (List.mem_of_getElem? hu)) (by omega) (H8.out u (List.mem_of_getElem? hu)) H7.out
        have hfit : ∀ z ∈ gain x.r.zs u.zs, -9223372036854775808 ≤ z ∧ z ≤ 9223372036854775807 := by
          intro z hz
          unfold gain at hz
          split at hz
          · simp at hz; omega
          · obtain ⟨i, hi⟩ := List.getElem?_of_mem hz
            rw [List.getElem?_zipWith] at hi
            split at hi
            · rename_i a b ha hb
              cases hi
              have a1 := H8.out u (List.mem_of_getElem? hu) a (List.mem_of_getElem? ha)
              have b1 := H7.out b (List.mem_of_getElem? hb)
              omega
            · cases hi
        have HFIT := Lib.hid hfit
        clear hget hfit hcu
        go_wp2_with fail
        refine hgo.mono ?_
        rintro e w3 ⟨A3, c3, rfl, ho3, hb3⟩
        have hnew : OwnI w3 wr.heap.size ⟨A3, x.r.n, c3, gain x.r.zs u.zs⟩ := ⟨ho3, HFIT.out⟩
        have hf3 := hf.below hb3
        have hsep := hf.sep
        have hbx3 := hbx.below hb3
        have hbel3 := hbel.trans (hb3.mono hbel.size)
        subst hjt
        obtain ⟨hcl, hfr⟩ := hf3.cell hlt
        have hgs : g ≤ wr.heap.size := by
          obtain ⟨g', hA', hg1, hg2⟩ := hf.own.lt (by omega)
          cases hA'
          omega
        have hf4 := hf3.put hlt hnew hgs hsep
        have hbel4 := hbel3.setCell (p := ⟨g, t.length, none⟩) hgw (.slice A3 x.r.n c3)
        have hbx4 : InBox (w3.setCell ⟨g, t.length, none⟩ (.slice A3 x.r.n c3)) w.heap.size x := by
          obtain ⟨d0, d1, d2, d3⟩ := hbx3
          have hne : (w3.setCell ⟨g, t.length, none⟩ (.slice A3 x.r.n c3)).heap[w.heap.size]? = w3.heap[w.heap.size]? := setCell_ne' (by omega)
          exact ⟨(World.cell?_of_block hne).trans d0, (World.cell?_of_block hne).trans d1, (World.cell?_of_block hne).trans d2, by simp only [World.setCell, Array.size_modify]; exact d3⟩
        have hall4 : Hid (Ls.all (t ++ [(⟨A3, x.r.n, c3, gain x.r.zs u.zs⟩ : Ls)]) = (gains x.r.zs (Ls.all x.b)).take (t.length + 1)) := Lib.hid (by rw [all_snoc, hall.out, HT.out])
        clear hgo ho3 hb3 hf hf3 hsep hnew hbx hbx3 hbel hbel3 HT hall
        go_wp2
        go_roundw
        case rel => exact ⟨t.length + 1, _, by omega, by go_num, by simp, hf4, hall4, hbel4, hbx4⟩
        case measure => simp [intOf]; omega
      · obtain rfl : j = x.n := by omega
        have ho := hf.outs hjt
        have hgl : (gains x.r.zs (Ls.all x.b)).length = x.n := by rw [gains, List.length_map, Ls.all, List.length_map, HL.out]
        have hfin : Hid (Ls.all t = gains x.r.zs (Ls.all x.b)) := Lib.hid (by rw [hall.out, List.take_of_length_le (by rw [hgl]; exact Nat.le_refl _)])
        clear hgl hjt
        go_wp2
        go_ret2
        exact ⟨_, _, _, rfl, t, ho.mono hgw, hfin.out, hbel⟩
end Go.Proofs.YtfhiedlglmgneaaGreatDoor
