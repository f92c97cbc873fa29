/-
  Walks of package graphs: a set as a list; what some may have.
-/
import Derived.Test.YtdiklmfaehmmjaaRegR
import Derived.Test.YtdiklmfaehmmjaaSizesL
import Derived.Test.YtdiklmfaehmmjaaGrWa
import Derived.Test.YtdiklmfaehmmjaaGrWc
namespace Go.Proofs.Ytdiklmfaehmmjaa
open Go.RowKit Go.Shelf
set_option linter.unusedVariables false

theorem infoW_int : (Try.prog.info? 3).map (fun i => (i.zero, i.size, i.bytes)) = some (some (.int .i64 0), 1, 8) := by kernel_rfl
theorem infoW_ints : (Try.prog.info? 25).map (fun i => (i.zero, i.size, i.bytes)) = some (some (.slice none 0 0), 1, 24) := by kernel_rfl

/-- a[i] of an array by value. -/
theorem run_index_arr (w : World) (cs : Array Value) (k : IntKind) (j : Nat) (v : Value) (hj : j < 8) (hv : cs[j]? = some v) :
    (Instr.index 51 (.agg cs) (.int k (j : Int))).run Try.prog w = .ok v w := by
  have h2 : (0 : Int) ≤ j ∧ (j : Int) < 8 := by omega
  simp [Instr.index, run_underlying Try.underlying51, asIntOf, h2, hj, hv, go_sem]
set_option maxRecDepth 100000 in
set_option maxHeartbeats 1000000 in
theorem gset_list (w : World) (b0 b1 b2 b3 b4 b5 b6 b7 : Bool) :
    Calls Try.prog 25 #[.agg #[.bool b0, .bool b1, .bool b2, .bool b3, .bool b4, .bool b5, .bool b6, .bool b7]] w fun e w' => ∃ A n c, e = .returned (.slice A n c) ∧ OwnI w' w.heap.size ⟨A, n, c, upto 8 fun k => [b0, b1, b2, b3, b4, b5, b6, b7].getD k false⟩ ∧ Below w.heap.size w w' := by
  obtain ⟨i0, hi0, hz0, hz1, hz2⟩ := info_parts infoW_int
  obtain ⟨F, hF⟩ : ∃ F : Nat → Bool, (fun k => [b0, b1, b2, b3, b4, b5, b6, b7].getD k false) = F := ⟨_, rfl⟩
  rw [hF]
  go_enter Try.func25, Try.ntmps25
  go_wp2
  obtain ⟨cur, hcur⟩ : ∃ cur, #[Value.bool b0, Value.bool b1, Value.bool b2, Value.bool b3, Value.bool b4, Value.bool b5, Value.bool b6, Value.bool b7] = cur := ⟨_, rfl⟩
  have hsz : cur.size = 8 := by rw [← hcur]; rfl
  have hget : ∀ k, k < 8 → cur[k]? = some (.bool (F k)) := by
    intro k hk
    rw [← hcur, ← hF]
    match k, hk with
    | 0, _ => rfl
    | 1, _ => rfl
    | 2, _ => rfl
    | 3, _ => rfl
    | 4, _ => rfl
    | 5, _ => rfl
    | 6, _ => rfl
    | 7, _ => rfl
    | k + 8, h => omega
  rw [hcur]
  clear hF hcur
  have hB0 : Below w.heap.size w (w.alloc (.cells cur 51)) := (Below.refl _ w).alloc (Nat.le_refl _) _
  generalize w.alloc (.cells cur 51) = w1 at hB0 ⊢
  go_loopw [3, 7] (fun l i wr => ∃ (j : Nat) (A : Option Addr) (n c : Nat), j ≤ 8 ∧ i = .int .i64 j ∧ l = .slice A n c ∧ OwnI wr w.heap.size ⟨A, n, c, upto j F⟩ ∧ Below w.heap.size w wr) (fun _ i _ => 8 - (intOf i).toNat)
  case atStart => exact ⟨0, none, 0, 0, by omega, rfl, rfl, OwnI.nil _ _, hB0⟩
  case round =>
    obtain ⟨j, A, n, c, hj, rfl, rfl, hO, hB⟩ := hrel
    by_cases hlt : j < 8
    · have hgj := hget j hlt
      have hlt' : (j : Int) < 8 := by omega
      have hj8 : j < cur.size := by omega
      have hlen := hO.len
      have hul := upto_len j F
      have hsnoc : Hid (upto (j + 1) F = upto j F ++ if F j = true then [(j : Int)] else []) := Lib.hid (upto_succ j F)
      obtain ⟨β, hβ⟩ : ∃ β, F j = β := ⟨_, rfl⟩
      rw [hβ] at hgj hsnoc
      have hidx : ∀ w', (Instr.index 51 (.agg cur) (.int .i64 (j : Int))).run Try.prog w' = .ok (.bool β) w' := fun w' => run_index_arr w' cur .i64 j _ hlt hgj
      cases β
      · have hO2 : OwnI wr w.heap.size ⟨A, n, c, upto (j + 1) F⟩ := by rw [hsnoc.out]; simpa using hO
        clear hO hlen hsnoc hget
        go_wp2
        go_roundw
        case rel => exact ⟨j + 1, A, n, c, by omega, by go_num, rfl, hO2, hB⟩
        case measure => simp [intOf]; omega
      · have hsz2 := hB.size
        clear hget
        go_wp2_with (at_builtin; go_must (refine wpList_app1 wr rfl _ _ 25 rfl 3 i0 _ 8 Try.underlying25 hi0 hz0 hz1 hz2 rfl w.heap.size A n c _ rfl hO.own _ rfl rfl ?xx3 ?xx4 ?xx5 ?_))
        case xx3 => have : (upto j F).length = n := hlen; simp only [maxLen]; omega
        case xx4 => have : (upto j F).length = n := hlen; omega
        try case xx5 => exact hsz2
        intro A3 c3 w5 hown5 hbel5 hfr5 hat5
        have hO2 : OwnI w5 w.heap.size ⟨A3, n + 1, c3, upto (j + 1) F⟩ := by
          refine ⟨?_, fun z hz => ?_⟩
          · show Own w5 w.heap.size _ A3 (n + 1) c3 (ci64 (upto (j + 1) F))
            rw [hsnoc.out, if_pos trivial, ci64_snoc6]; exact hown5
          · have := (upto_rises (j + 1) F).1 z hz; omega
        have hB2 := hB.trans hbel5
        clear hown5 hbel5 hfr5 hat5 hO hlen hsnoc
        go_wp2
        go_roundw
        case rel => exact ⟨j + 1, A3, n + 1, c3, by omega, by go_num, rfl, hO2, hB2⟩
        case measure => simp [intOf]; omega
    · obtain rfl : j = 8 := by omega
      go_wp2
      go_ret
      exact ⟨_, _, _, rfl, hO, hB⟩

/-- A list that is filled, one by one. -/
theorem own_fill {w : World} {B g m j : Nat} {e : TypeId} {vs : List Value} {z v : Value} (h : Own w B e (some ⟨g, 0, none⟩) m m (vs.take j ++ List.replicate (m - j) z)) (hj : j < m) (hv : vs[j]? = some v) :
    Own (w.setCell ⟨g, j, none⟩ v) B e (some ⟨g, 0, none⟩) m m (vs.take (j + 1) ++ List.replicate (m - (j + 1)) z) := by
  have h1 := h.set (by omega) j v
  have hl := (List.getElem?_eq_some_iff.1 hv).1
  have e1 : (vs.take j ++ List.replicate (m - j) z).set j v = vs.take (j + 1) ++ List.replicate (m - (j + 1)) z := by
    rw [show m - j = (m - (j + 1)) + 1 by omega, List.replicate_succ, List.take_succ_eq_append_getElem hl, (List.getElem?_eq_some_iff.1 hv).2, List.append_assoc, List.singleton_append]
    have hlen : (vs.take j).length = j := by rw [List.length_take]; omega
    rw [List.set_append_right _ _ (by omega), hlen, Nat.sub_self, List.set_cons_zero]
  rw [e1] at h1
  exact h1

set_option maxRecDepth 100000 in
set_option maxHeartbeats 1000000 in
theorem gof_any (x : Gr) (u : Ls) (w : World) (hx : x.Ok w) (hu : u.Ok w) (hr : Rises x.n u.zs) (hn8 : x.n ≤ 8) :
    Calls Try.prog 24 #[x.v, u.v] w fun e w' => ∃ A n c, e = .returned (.slice A n c) ∧ ∃ t : List Ls, Own w' w.heap.size 25 A n c (t.map Ls.v) ∧ (∀ v ∈ t, v ∈ x.t) ∧ Ls.all t = u.zs.map (fun i => x.g.getD i.toNat []) ∧ Below w.heap.size w w' := by
  obtain ⟨i1, hi1', hy0, hy1, hy2⟩ := info_parts infoW_ints
  have HL := Lib.hid hu.len
  have HG := Lib.hid hx.glen
  have hlen8 := rises_len hr
  rw [HL.out] at hlen8
  have tx := Nat.le_trans hx.cap hx.top
  unfold maxLen at tx
  obtain ⟨t, ht⟩ : ∃ t, t = u.zs.map (fun i => x.t.getD i.toNat Ls.nil) := ⟨_, rfl⟩
  have htl : t.length = u.n := by rw [ht, List.length_map, HL.out]
  have HT := Lib.hid ht
  have hmem : ∀ z ∈ u.zs, ∃ v, x.t[z.toNat]? = some v ∧ z.toNat < x.n ∧ (z.toNat : Int) = z := by
    intro z hz
    have h1 := hr.1 z hz
    have h2 : z.toNat < x.n := by omega
    exact ⟨_, List.getElem?_eq_getElem (by rw [hx.len]; exact h2), h2, by omega⟩
  have hokt : ∀ v ∈ t, v ∈ x.t := by
    intro v hv
    rw [ht] at hv
    obtain ⟨z, hz, rfl⟩ := List.mem_map.1 hv
    obtain ⟨v, h1, h2, _⟩ := hmem z hz
    rw [List.getD_eq_getElem?_getD, h1]
    exact List.mem_of_getElem? h1
  have hall : Ls.all t = u.zs.map (fun i => x.g.getD i.toNat []) := by
    rw [ht, Ls.all, List.map_map]
    refine List.map_congr_left fun z hz => ?_
    obtain ⟨v, h1, h2, _⟩ := hmem z hz
    show (x.t.getD z.toNat Ls.nil).zs = _
    rw [List.getD_eq_getElem?_getD, h1, List.getD_eq_getElem?_getD, Gr.g, Ls.all, List.getElem?_map, h1]
    rfl
  have HA := Lib.hid hall
  have HM := Lib.hid hmem
  clear hall ht hmem
  unfold Gr.v Ls.v
  go_enter Try.func24, Try.ntmps24
  go_wp2_with (at_make; go_must (refine wpList_mk _ rfl _ _ 22 rfl w.heap.size 25 i1 _ Try.underlying22 hi1' hy0 hy1 rfl .i64 .i64 _ _ u.n rfl rfl rfl rfl ?c2 ?c3 ?c4 ?_))
  case c2 => rw [hy2]; omega
  case c3 => simp only [maxLen]; omega
  case c4 => exact Nat.le_refl _
  intro w1 hown1 hbel1
  go_wp2_with fail
  go_loopw [13] (fun i wr => ∃ j : Nat, j ≤ u.n ∧ i = .int .i64 j ∧ Own wr w.heap.size 25 (some ⟨w.heap.size, 0, none⟩) u.n u.n ((t.map Ls.v).take j ++ List.replicate (u.n - j) (.slice none 0 0)) ∧ Below w.heap.size w wr) (fun i _ => u.n - (intOf i).toNat)
  case atStart => exact ⟨0, Nat.zero_le _, rfl, by simpa using hown1, hbel1⟩
  case round =>
    obtain ⟨j, hj, rfl, hown, hbel⟩ := hrel
    by_cases hlt : j < u.n
    · obtain ⟨p, q, hA, hp, u0, hu0, hc0⟩ := (hu.below hbel).rd.get hlt
      have hjl : j < u.zs.length := by rw [HL.out]; exact hlt
      rw [ci64_get _ _ hjl] at hu0
      obtain rfl : iV u.zs[j] = u0 := Option.some.inj hu0
      unfold iV at hc0
      have hi1 : (j : Int) < u.n := by omega
      obtain ⟨v, hv1, hv2, hv3⟩ := HM.out _ (List.getElem_mem hjl)
      obtain ⟨a, ha⟩ : ∃ a : Nat, u.zs[j].toNat = a := ⟨_, rfl⟩
      rw [ha] at hv1 hv2 hv3
      rw [← hv3] at hc0
      obtain ⟨p2, q2, v', hA2, hv', _, _, hcl, _⟩ := (hx.below hbel).get hv2
      rw [hv1] at hv'
      cases hv'
      unfold Ls.v at hcl
      have hi2 : (a : Int) < x.n := by omega
      have hfr := hown.free (by omega) j
      obtain ⟨vo, hvo⟩ : ∃ v, wr.cell? ⟨w.heap.size, j, none⟩ = some v := by
        have h := hown.cell hlt
        rw [h]
        exact ⟨_, List.getElem?_eq_getElem (by rw [List.length_append, List.length_take, List.length_replicate, List.length_map, htl]; omega)⟩
      have htv : (t.map Ls.v)[j]? = some (.slice v.A v.n v.c) := by
        rw [HT.out, List.getElem?_map, List.getElem?_map, List.getElem?_eq_getElem hjl]
        show some (x.t.getD u.zs[j].toNat Ls.nil).v = _
        rw [ha, List.getD_eq_getElem?_getD, hv1]; rfl
      have hown2 := own_fill hown hlt htv
      have hbel2 := hbel.setCell (p := ⟨w.heap.size, j, none⟩) (Nat.le_refl _) (.slice v.A v.n v.c)
      rw [hA, hA2]
      have HA1 := Lib.hid hA
      have HA2 := Lib.hid hA2
      clear hu0 hown hbel htv hv1 ha hv3 hA hA2
      go_wp2
      go_roundw
      case rel => exact ⟨j + 1, by omega, by go_num, hown2, hbel2⟩
      case measure => simp [intOf]; omega
    · obtain rfl : j = u.n := by omega
      have hown2 : Own wr w.heap.size 25 (some ⟨w.heap.size, 0, none⟩) u.n u.n (t.map Ls.v) := by
        have h3 := hown
        rw [Nat.sub_self, List.replicate_zero, List.append_nil, List.take_of_length_le (by rw [List.length_map, htl]; exact Nat.le_refl _)] at h3
        exact h3
      go_wp2
      go_ret
      exact ⟨_, _, _, rfl, t, hown2, hokt, HA.out, hbel⟩
end Go.Proofs.Ytdiklmfaehmmjaa
