/-
  Walks of package demands: what goes through bidders, All.
-/
import Derived.Test.YtjjaajmjcdihoaaDeWd
import Derived.Test.YtjjaajmjcdihoaaMarkWa
namespace Go.Proofs.Ytjjaajmjcdihoaa
open Go.RowKit Go.Shelf
set_option linter.unusedVariables false
attribute [local go_sem] Oper.semAt_some

def encW (x : Ls × Int) : Array Value := #[.slice x.1.A x.1.n x.1.c, .int .i64 x.2]
def wantsL (g : List (List Int)) (p : List Int) : List (List Int × Int) := g.map fun l => (itemsD l p, gainD l p)
theorem wants_succ {g : List (List Int)} {p l : List Int} {k : Nat} (h : g[k]? = some l) : wantsL (g.take (k + 1)) p = wantsL (g.take k) p ++ [(itemsD l p, gainD l p)] := by
  obtain ⟨hk, he⟩ := List.getElem?_eq_some_iff.1 h
  rw [wantsL, List.take_succ_eq_append_getElem hk, List.map_append, he]; rfl
set_option maxHeartbeats 1000000 in
theorem deach_any (x : Gr) (y : Ls) (w : World) : Calls Try.prog 19 #[.slice x.A x.n x.c, .slice y.A y.n y.c] w fun e w' => e = .returned (.func (.func 30) #[] #[.pointer (some ⟨w.heap.size, 0, none⟩), .pointer (some ⟨w.heap.size + 1, 0, none⟩)]) ∧
    w' = (w.alloc (.cells #[.slice x.A x.n x.c] 33)).alloc (.cells #[.slice y.A y.n y.c] 22) := by
  go_enter Try.func19, Try.ntmps19
  go_wp2
  go_ret
  exact ⟨rfl, rfl⟩
set_option maxRecDepth 100000 in
set_option maxHeartbeats 1000000 in
theorem deach1_seq (x : Gr) (y : Ls) (b1 b2 : Nat) (w : World) (hm : ∀ l ∈ x.g, mayD l y.zs = true) :
    SeqE Try.prog 30 #[.pointer (some ⟨b1, 0, none⟩), .pointer (some ⟨b2, 0, none⟩)] encW (fun q B W => OwnI W B q.1)
      (fun W => Boxed W b1 33 (.slice x.A x.n x.c) ∧ Boxed W b2 22 (.slice y.A y.n y.c) ∧ x.Ok W ∧ y.Ok W) (fun ys => ys.map (fun q => (q.1.zs, q.2)) = wantsL x.g y.zs) x.n w := by
  intro l J W hW hk hJ hY h0
  obtain ⟨hb1, hb2, hx, hy⟩ := hk
  have HL := Lib.hid hx.glen
  have tn := Nat.le_trans hx.cap hx.top
  unfold maxLen at tn
  have HM := Lib.hid hm
  clear hm
  refine (callsIn_wide (n := 4)).1 ?_
  refine callsIn_of_wp Try.func30 rfl trivial ?_ rfl
  simp only [Try.ntmps30, List.size_toArray, List.length_cons, List.length_nil, Nat.reduceAdd, Nat.reduceSub, Array.replicate_succ, Array.replicate_zero, List.push_toArray, List.append_toArray, List.nil_append, List.cons_append]
  have hcb := hb1.cell
  gi_wp2
  gi_loopw [8] (fun i wr => ∃ (k : Nat) (pre : List (Ls × Int)), k ≤ x.n ∧ i = .int .i64 k ∧ Hid (pre.map (fun q => (q.1.zs, q.2)) = wantsL (x.g.take k) y.zs) ∧ J pre wr ∧ W.heap.size ≤ wr.heap.size ∧
    (Boxed wr b1 33 (.slice x.A x.n x.c) ∧ Boxed wr b2 22 (.slice y.A y.n y.c) ∧ x.Ok wr ∧ y.Ok wr)) (fun i _ => x.n - (intOf i).toNat)
  case atStart => exact ⟨0, [], Nat.zero_le _, rfl, Lib.hid rfl, h0, Nat.le_refl _, hb1, hb2, hx, hy⟩
  case round =>
    clear hcb hb1 hb2 hx hy h0
    obtain ⟨k, pre, hk, rfl, hpre, hJs, hsz, h1w, h2w, hxw, hyw⟩ := hrel
    have hcy := h2w.cell
    by_cases hlt : k < x.n
    · obtain ⟨p, q, u, hA, hu2, hgd, hp, hcl, hkk⟩ := hxw.get hlt
      unfold Ls.v at hcl
      have hi1 : (k : Int) < x.n := by omega
      have hkl : k < x.g.length := by rw [HL.out]; exact hlt
      have hgk : x.g[k]? = some u.zs := by
        rw [List.getElem?_eq_getElem hkl]
        rw [List.getD_eq_getElem?_getD, List.getElem?_eq_getElem hkl] at hgd
        exact congrArg some hgd
      have hmo := dmost_any u y wr hkk hyw (HM.out _ (List.mem_of_getElem? hgk))
      have hlen : pre.length < x.n := by
        have h2 := congrArg List.length hpre.out
        rw [List.length_map, wantsL, List.length_map, List.length_take] at h2
        omega
      have HG := Lib.hid hgk
      have HA := Lib.hid hA
      rw [hA]
      clear hA hu2 hgd hkl hgk
      gi_wp2_with fail
      refine ⟨trivial, (callsIn_wide.2 hmo).mono ?_⟩
      rintro e w3 ⟨A, n, c, rfl, ho, hbl⟩
      clear hmo
      have hc3 := cel_of_below hbl
      have hkw : Boxed w3 b1 33 (.slice x.A x.n x.c) ∧ Boxed w3 b2 22 (.slice y.A y.n y.c) ∧ x.Ok w3 ∧ y.Ok w3 := ⟨boxed_cel h1w hc3, boxed_cel h2w hc3, hxw.below hbl, hyw.below hbl⟩
      obtain ⟨fn, tmps, assign, body, hyy, hR⟩ := hY pre (⟨A, n, c, itemsD u.zs y.zs⟩, gainD u.zs y.zs) wr w3 hJs hkw hlen hc3 (hbl.mono hsz) ho
      unfold encW at hyy
      dsimp only at hyy
      have HP : Hid ((pre ++ [((⟨A, n, c, itemsD u.zs y.zs⟩ : Ls), gainD u.zs y.zs)]).map (fun q => (q.1.zs, q.2)) = wantsL (x.g.take (k + 1)) y.zs) := Lib.hid (by
        rw [List.map_append, hpre.out, wants_succ HG.out]; rfl)
      have hs3 := hbl.size
      clear hcl hcy h1w h2w hxw hyw hkk hJs hc3 hbl ho hpre
      gi_wp2
      refine hR.mono ?_
      rintro e W4 ⟨rfl, hJ4, hk4, hs4⟩
      gi_wp2
      rw [← HA.out]
      go_roundw
      case rel => exact ⟨k + 1, _, by omega, by go_num, HP, hJ4, by omega, hk4⟩
      case measure => simp [intOf]; omega
    · obtain rfl : k = x.n := by omega
      gi_wp2
      go_end0
      refine ⟨⟨_, rfl⟩, pre, ?_, hJs⟩
      rw [hpre.out, List.take_of_length_le (by rw [HL.out]; exact Nat.le_refl _)]

theorem infoDe_ints : (Try.prog.info? 22).map (fun i => (i.zero, i.size, i.bytes)) = some (some (.slice none 0 0), 1, 24) := by kernel_rfl
theorem infoDe_bool : (Try.prog.info? 4).map (fun i => (i.zero, i.size, i.bytes)) = some (some (.bool false), 1, 1) := by kernel_rfl
theorem allErr_bad {x : Mk} {p : List Int} (h : mayA x.r.zs (Ls.all x.b) x.o.zs p = false) : allErr x p = 1 ∧ allI x p = [] ∧ allN x p = [] := by simp [allErr, allI, allN, h]
theorem allErr_ok {x : Mk} {p : List Int} (h : mayA x.r.zs (Ls.all x.b) x.o.zs p = true) : allErr x p = 0 ∧ allI x p = (Ls.all x.b).map (fun b => itemsD b p) ∧ allN x p = (Ls.all x.b).map (fun b => decide (gainD b p = 0)) := by simp [allErr, allI, allN, h]
/-- The world in which a call of All begins. -/
def allW (w : World) (x : Mk) : World := ((w.alloc (.cells #[.slice x.r.A x.r.n x.r.c, .slice x.A x.n x.c, .slice x.o.A x.o.n x.o.c] 35)).alloc (.cells #[.slice none 0 0] 33)).alloc (.cells #[.slice none 0 0] 36)
theorem allW_facts (w : World) (x : Mk) : Below w.heap.size w (allW w x) ∧ InBox (allW w x) w.heap.size x ∧ Boxed (allW w x) (w.heap.size + 1) 33 (.slice none 0 0) ∧ Boxed (allW w x) (w.heap.size + 1 + 1) 36 (.slice none 0 0) := by
  have h1 := (InBox.new w x).below ((Below.refl _ _).alloc (Nat.le_refl _) (.cells #[.slice none 0 0] 33))
  have h2 := h1.below ((Below.refl _ _).alloc (Nat.le_refl _) (.cells #[.slice none 0 0] 36))
  have h3 := (Boxed.new (w.alloc (.cells #[.slice x.r.A x.r.n x.r.c, .slice x.A x.n x.c, .slice x.o.A x.o.n x.o.c] 35)) 33 (.slice none 0 0)).alloc (.cells #[.slice none 0 0] 36)
  have h4 := Boxed.new ((w.alloc (.cells #[.slice x.r.A x.r.n x.r.c, .slice x.A x.n x.c, .slice x.o.A x.o.n x.o.c] 35)).alloc (.cells #[.slice none 0 0] 33)) 36 (.slice none 0 0)
  simp only [World.size_alloc] at h3 h4
  exact ⟨(((Below.refl _ w).alloc (Nat.le_refl _) _).alloc (by simp) _).alloc (by simp; omega) _, h2, h3, h4⟩

set_option maxRecDepth 100000 in
set_option maxHeartbeats 1000000 in
theorem pallDC : AllDC 13 := by
  intro x y w hx hy
  have hYL := hy.len
  have tx := Nat.le_trans hy.cap hy.top
  have trx := Nat.le_trans hx.r.cap hx.r.top
  unfold maxLen at tx trx
  have hck := mcheckC x
  have hv : x.v = .agg #[.slice x.r.A x.r.n x.r.c, .slice x.A x.n x.c, .slice x.o.A x.o.n x.o.c] := rfl
  rw [hv] at hck ⊢
  unfold Ls.v
  obtain ⟨hBW, hbox, bI, bN⟩ := allW_facts w x
  have hxW := hx.below hBW
  have hyW := hy.below hBW
  have hck := hck _ hxW
  have hmay := dmay_any y
  refine (callsIn_wide (n := 3)).1 ?_
  refine callsIn_of_wp_marks Try.func13 rfl trivial ?_ rfl
  simp only [Try.ntmps13, List.size_toArray, List.length_cons, List.length_nil, Nat.reduceAdd, Nat.reduceSub, Array.replicate_succ, Array.replicate_zero, List.push_toArray, List.append_toArray, List.nil_append, List.cons_append]
  refine wpIn_wide.2 ?_
  by_cases h1 : x.may = true
  · rw [h1] at hck
    by_cases h2 : y.n = x.r.n
    · by_cases h3 : mayPr y.zs = true
      · have hm : mayA x.r.zs (Ls.all x.b) x.o.zs y.zs = true := mayA_iff.2 ⟨h1, by rw [hYL, hx.r.len]; exact h2, h3⟩
        obtain ⟨e1, e2, e3⟩ := allErr_ok hm
        have HE := Lib.hid (And.intro e1 (And.intro e2 e3))
        have g2 : ((y.n : Int) != (x.r.n : Int)) = false := by rw [h2]; simp
        have HR := Lib.hid h2
        have hx8 := (mk_len hx h1).2.2.2.1
        have HEach := Lib.hid (mayA_each hm)
        obtain ⟨i1, hi1, hy0, hy1, hy2⟩ := info_parts infoDe_ints
        obtain ⟨i2, hi2, hb0, hb1, hb2⟩ := info_parts infoDe_bool
        clear h1 hm e1 e2 e3 hYL h2
        unfold allW at hck hBW hbox bI bN
        go_wp2_with fail
        refine hck.mono ?_
        rintro e w2 ⟨rfl, hbl2⟩
        have cI := boxed_below bI hbl2
        have cN := boxed_below bN hbl2
        have cM := hbox.below hbl2
        have hB2 := hBW.trans (hbl2.mono hBW.size)
        have hx2 := hx.below hB2
        have hyb2 := hy.below hB2
        have cI1 := cI.cell
        have cI2 := cI.frozen
        have cN1 := cN.cell
        have cN2 := cN.frozen
        have cM0 := cM.c0
        have cM1 := cM.c1
        clear hck hbox bI bN hBW hbl2 hxW hyW
        have hmy := hmay w2 hyb2
        rw [h3] at hmy
        go_wp2_with fail
        refine hmy.mono ?_
        rintro e w3 ⟨rfl, rfl⟩
        clear hmy
        have hea := deach_any ⟨x.A, x.n, x.c, x.b⟩ y w3
        go_wp2_with fail
        refine hea.mono ?_
        rintro e w4 ⟨rfl, rfl⟩
        clear hea
        go_wp2
        have bX := (Boxed.new w3 33 (.slice x.A x.n x.c)).alloc (.cells #[.slice y.A y.n y.c] 22)
        have bY := Boxed.new (w3.alloc (.cells #[.slice x.A x.n x.c] 33)) 22 (.slice y.A y.n y.c)
        rw [World.size_alloc] at bY
        have hgr : Below w3.heap.size w3 ((w3.alloc (.cells #[.slice x.A x.n x.c] 33)).alloc (.cells #[.slice y.A y.n y.c] 22)) := ((Below.refl _ w3).alloc (Nat.le_refl _) _).alloc (by simp) _
        have hs4 : ((w3.alloc (.cells #[.slice x.A x.n x.c] 33)).alloc (.cells #[.slice y.A y.n y.c] 22)).heap.size = w3.heap.size + 2 := by simp
        have hlt3 := cN.lt
        have cI := boxed_below cI hgr
        have cN := boxed_below cN hgr
        have hB4 := hB2.trans (hgr.mono hB2.size)
        obtain ⟨ib, hib⟩ : ∃ ib, ib = w.heap.size + 1 := ⟨_, rfl⟩
        obtain ⟨nb, hnb⟩ : ∃ nb, nb = w.heap.size + 1 + 1 := ⟨_, rfl⟩
        obtain ⟨b1, hb1e⟩ : ∃ b1, b1 = w3.heap.size := ⟨_, rfl⟩
        obtain ⟨b2, hb2e⟩ : ∃ b2, b2 = w3.heap.size + 1 := ⟨_, rfl⟩
        obtain ⟨B0, hB0⟩ : ∃ B0, B0 = w3.heap.size + 2 := ⟨_, rfl⟩
        have HN : Hid (w.heap.size ≤ ib ∧ w.heap.size ≤ nb ∧ w.heap.size ≤ B0 ∧ ib < B0 ∧ nb < B0 ∧ b1 < B0 ∧ b2 < B0 ∧ ib ≠ nb ∧ nb ≠ ib ∧ b1 ≠ ib ∧ b1 ≠ nb ∧ b2 ≠ ib ∧ b2 ≠ nb) := Lib.hid (by omega)
        rw [← hb2e, ← hb1e, ← hnb, ← hib]
        rw [← hib] at cI
        rw [← hnb] at cN
        rw [← hb1e] at bX
        rw [← hb2e] at bY
        rw [← hB0] at hs4
        clear hib hnb hb1e hb2e hB0 hgr hlt3 cI1 cI2 cN1 cN2 cM0 cM1 cM hB2 hx2 hyb2
        generalize (w3.alloc (.cells #[.slice x.A x.n x.c] 33)).alloc (.cells #[.slice y.A y.n y.c] 22) = w4 at *
        have hx4 : Gr.Ok w4 ⟨x.A, x.n, x.c, x.b⟩ := ⟨⟨(hx.below hB4).b, fun u hu => (hx.below hB4).bs u hu⟩, hx.cap, hx.top⟩
        refine (wpIn_wide (n := 3)).1 ?_
        refine range_seqE (n := 3) (by omega) (gf := 30) (lb := #[.pointer (some ⟨b1, 0, none⟩), .pointer (some ⟨b2, 0, none⟩)]) rfl (enters_of Try.func30 (by kernel_rfl) rfl)
          (deach1_seq ⟨x.A, x.n, x.c, x.b⟩ y b1 b2 w4 HEach.out) (Below.refl _ _) (fun _ => rfl) (fun _ _ _ _ hc h => h.cel hc) (fun _ _ hc h => ⟨boxed_cel h.1 hc, boxed_cel h.2.1 hc, h.2.2.1.cel hc, h.2.2.2.cel hc⟩) ⟨bX, bY, hx4, hy.below hB4⟩
          (fun pre W => ∃ A n c A2 n2 c2 t, Boxed W ib 33 (.slice A n c) ∧ Outs W B0 A n c t ∧ Hid (Ls.all t = pre.map fun q => q.1.zs) ∧ Boxed W nb 36 (.slice A2 n2 c2) ∧ Own W B0 4 A2 n2 c2 (pre.map fun q => .bool (q.2 == 0)) ∧ Below w.heap.size w W ∧ B0 ≤ W.heap.size)
          (fun s a b hc hbl h => by
            obtain ⟨A, n, c, A2, n2, c2, t, k1, k2, k3, k4, k5, k6, k7⟩ := h
            exact ⟨A, n, c, A2, n2, c2, t, boxed_cel k1 hc, k2.cel hc, k3, boxed_cel k4 hc, k5.cel hc, k6.trans (hbl.mono hB4.size), by have := hc.size; omega⟩)
          ⟨none, 0, 0, none, 0, 0, [], cI, Outs.none_ _ _, Lib.hid rfl, cN, Own.none_ _ _ _ _, hB4, by omega⟩
          (fun q a' _ => a' = { tmps := #[.agg #[.slice x.r.A x.r.n x.r.c, .slice x.A x.n x.c, .slice x.o.A x.o.n x.o.c], .slice y.A y.n y.c, .pointer (some ⟨w.heap.size, 0, none⟩), undef, .pointer (some ⟨ib, 0, none⟩), .pointer (some ⟨nb, 0, none⟩), .int .i64 0, .slice q.1.A q.1.n q.1.c, .int .i64 q.2, .agg #[.slice x.r.A x.r.n x.r.c, .slice x.A x.n x.c, .slice x.o.A x.o.n x.o.c], .bool true, .bool false, .bool false, .slice y.A y.n y.c, .int .i64 y.n, .pointer (some ⟨w.heap.size, 0, none⟩), .slice x.r.A x.r.n x.r.c, .int .i64 x.r.n, .bool false, .bool false, .bool false, .slice y.A y.n y.c, .bool true, .bool false, .bool false, .pointer (some ⟨w.heap.size, 1, none⟩), .slice x.A x.n x.c, .slice y.A y.n y.c, .func (.func 30) #[] #[.pointer (some ⟨b1, 0, none⟩), .pointer (some ⟨b2, 0, none⟩)], .slice q.1.A q.1.n q.1.c, .int .i64 q.2, undef, undef, undef, undef, undef, undef, undef, undef, undef, undef, undef], defers := [] })
          (fun _ _ _ _ _ h => h) ?assign ?body ?done
        case assign =>
          intro l pre q B W K hI hE hV hK
          simp only [encW, List.zip_toArray, List.zip_cons_cons, List.zip_nil_right, List.foldl_toArray', List.foldl_cons, List.foldl_nil, List.size_toArray, List.setIfInBounds_toArray, List.set_cons_succ, List.set_cons_zero]
          gi_wp2
          exact hK _ _ (Below.refl _ _) rfl
        case body =>
          rintro l pre ⟨u, gn⟩ a' W0 W ⟨A, n, c, A2, n2, c2, t, k1, k2, k3, k4, k5, k6, k7⟩ hlen hcel hbel hE rfl ⟨kX, kY, kG, kO⟩
          dsimp only at hlen hE ⊢
          have hsep : ∀ q ∈ t, ∀ g, Blk q g → g < W0.heap.size := fun q hq g hg => ((k2.each q hq).blk hg).2
          have cI := boxed_cel k1 hcel
          have hO := k2.cel hcel
          have cN := boxed_cel k4 hcel
          have oN := k5.cel hcel
          have hBW := k6.trans (hbel.mono hB4.size)
          have hWs : B0 ≤ W.heap.size := by have := hcel.size; omega
          have hW0 : B0 ≤ W0.heap.size := k7
          have hn8 : n ≤ 8 := by
            have h5 := congrArg List.length k3.out
            rw [Ls.all, List.length_map, List.length_map, k2.len] at h5
            omega
          have hm8 : n2 ≤ 8 := by
            have h5 := k5.len
            rw [List.length_map] at h5
            omega
          have cI1 := cI.cell
          have cI2 := cI.frozen
          clear k1 k2 k4 k5 k6 k7 bX bY hcel hbel
          gi_wp2_with (gi_at_builtin; go_must (refine wpListIn_app1 (w := W) rfl _ _ 33 rfl 22 i1 _ 24 Try.underlying33 hi1 hy0 hy1 hy2 rfl B0 A n c (t.map Ls.v) (by rfl) hO.own _ (by rfl) rfl (by unfold maxLen; omega) (by omega) hWs ?_))
          intro A3 c3 W3 own3 bel3 fr3 sz3
          have hO3 := hO.snoc hE hW0 hsep own3 fr3
          have oN3 : Own W3 B0 4 A2 n2 c2 (pre.map fun q => .bool (q.2 == 0)) := oN.other hO.own (by decide) fr3
          have kI := boxed_keep cI (fr3 ib cI.lt (own_past hO.own (by have := HN.out; omega)))
          have kN := boxed_keep cN (fr3 nb cN.lt (own_past hO.own (by have := HN.out; omega)))
          have kX3 := boxed_keep kX (fr3 b1 kX.lt (own_past hO.own (by have := HN.out; omega)))
          have kY3 := boxed_keep kY (fr3 b2 kY.lt (own_past hO.own (by have := HN.out; omega)))
          have hB3 := hBW.trans (bel3.mono HN.out.2.2.1)
          have hk3 := others_appD hO.own sz3 fr3
          have hw3 : B0 ≤ W3.heap.size := by omega
          have hne1 : ¬ nb = ib := HN.out.2.2.2.2.2.2.2.2.1
          have hB5 := hB3.setCell (p := ⟨ib, 0, none⟩) HN.out.1 (.slice A3 (n + 1) c3)
          have hk5 := hk3.trans (KeepsOthers.setCell W3 ⟨ib, 0, none⟩ (.slice A3 (n + 1) c3))
          have kI5 := kI.set (.slice A3 (n + 1) c3)
          have kN5 := boxed_keep kN (heap_setCell_other W3 ⟨ib, 0, none⟩ nb (.slice A3 (n + 1) c3) HN.out.2.2.2.2.2.2.2.2.1)
          have kX5 := boxed_keep kX3 (heap_setCell_other W3 ⟨ib, 0, none⟩ b1 (.slice A3 (n + 1) c3) HN.out.2.2.2.2.2.2.2.2.2.1)
          have kY5 := boxed_keep kY3 (heap_setCell_other W3 ⟨ib, 0, none⟩ b2 (.slice A3 (n + 1) c3) HN.out.2.2.2.2.2.2.2.2.2.2.2.1)
          have hkeep : ∀ g, B0 ≤ g → (W3.setCell ⟨ib, 0, none⟩ (.slice A3 (n + 1) c3)).heap[g]? = W3.heap[g]? := fun g hg => heap_setCell_other W3 ⟨ib, 0, none⟩ g _ (show g ≠ ib by have := HN.out; omega)
          have hO5 := hO3.keepB hkeep
          have oN5 := oN3.keep (w' := W3.setCell ⟨ib, 0, none⟩ (.slice A3 (n + 1) c3)) fun g _ _ hg _ => hkeep g hg
          have hw5 : B0 ≤ (W3.setCell ⟨ib, 0, none⟩ (.slice A3 (n + 1) c3)).heap.size := by rw [World.size_setCell]; exact hw3
          have kI1 := kI.cell
          have kI2 := kI.frozen
          have kN1 := kN.cell
          have kN2 := kN.frozen
          have HALL := Lib.hid (show Ls.all (t ++ [u]) = (pre ++ [(u, gn)]).map fun q => q.1.zs by rw [Ls.all, List.map_append, ← Ls.all, k3.out, List.map_append]; rfl)
          have HBOOL := Lib.hid (show (pre ++ [(u, gn)]).map (fun q => Value.bool (q.2 == 0)) = (pre.map fun q => .bool (q.2 == 0)) ++ [.bool (gn == 0)] by rw [List.map_append]; rfl)
          clear fr3 bel3 hO oN cI cN kX kY hBW hO3 oN3 kI kN kX3 kY3 hB3 hk3 cI1 cI2 hkeep own3 hsep k3 hE hw3 hWs hW0 kG kO
          gi_wp2_with (gi_at_builtin; go_must (refine wpListIn_app1 (w := W3.setCell ⟨ib, 0, none⟩ (.slice A3 (n + 1) c3)) rfl _ _ 36 rfl 4 i2 _ 1 Try.underlying36 hi2 hb0 hb1 hb2 rfl B0 A2 n2 c2 (pre.map fun q => .bool (q.2 == 0)) (by rfl) oN5 _ (by simp; rfl) rfl (by unfold maxLen; omega) (by omega) hw5 ?_))
          intro A4 c4 W6 own6 bel6 fr6 sz6
          have hs5 : (W3.setCell ⟨ib, 0, none⟩ (.slice A3 (n + 1) c3)).heap.size = W3.heap.size := World.size_setCell ..
          generalize W3.setCell ⟨ib, 0, none⟩ (.slice A3 (n + 1) c3) = W5 at *
          have fr6 : ∀ k, k < W5.heap.size → ((n2 = 0 ∧ c2 = 0) ∨ A2 ≠ some ⟨k, 0, none⟩) → W6.heap[k]? = W5.heap[k]? := fun k hk hne => fr6 k (by omega) hne
          have sz6 : W5.heap.size ≤ W6.heap.size := by omega
          have hO6 : Outs W6 B0 A3 (n + 1) c3 (t ++ [u]) := ⟨hO5.own.other oN5 (by decide) fr6, fun q hq => ⟨(hO5.each q hq).own.other oN5 (by decide) fr6, (hO5.each q hq).fit⟩, hO5.apt⟩
          have kI6 := boxed_keep kI5 (fr6 ib kI5.lt (own_past oN5 (by have := HN.out; omega)))
          have kN6 := boxed_keep kN5 (fr6 nb kN5.lt (own_past oN5 (by have := HN.out; omega)))
          have kX6 := boxed_keep kX5 (fr6 b1 kX5.lt (own_past oN5 (by have := HN.out; omega)))
          have kY6 := boxed_keep kY5 (fr6 b2 kY5.lt (own_past oN5 (by have := HN.out; omega)))
          have hB6 := hB5.trans (bel6.mono HN.out.2.2.1)
          have hk6 := hk5.trans (others_appD oN5 sz6 fr6)
          have hw6 : B0 ≤ W6.heap.size := by omega
          have kN7 := kN6.cell
          have kN8 := kN6.frozen
          clear fr6 bel6 hO5 oN5 kI5 kN5 kX5 kY5 hB5 hk5 hs5 kI1 kI2 kN1 kN2 hw5 sz6 sz3
          gi_wp2
          have hkeep : ∀ g, B0 ≤ g → (W6.setCell ⟨nb, 0, none⟩ (.slice A4 (n2 + 1) c4)).heap[g]? = W6.heap[g]? := fun g hg => heap_setCell_other W6 ⟨nb, 0, none⟩ g _ (show g ≠ nb by have := HN.out; omega)
          have hB7 := hB6.setCell (p := ⟨nb, 0, none⟩) HN.out.2.1 (.slice A4 (n2 + 1) c4)
          have hG7 : Gr.Ok (W6.setCell ⟨nb, 0, none⟩ (.slice A4 (n2 + 1) c4)) ⟨x.A, x.n, x.c, x.b⟩ := ⟨⟨(hx.below hB7).b, fun u hu => (hx.below hB7).bs u hu⟩, hx.cap, hx.top⟩
          refine ⟨hk6.trans (KeepsOthers.setCell _ _ _), ⟨A3, n + 1, c3, A4, n2 + 1, c4, t ++ [u], boxed_keep kI6 (heap_setCell_other W6 ⟨nb, 0, none⟩ ib _ HN.out.2.2.2.2.2.2.2.1), hO6.keepB hkeep, HALL, kN6.set _, ?_, hB7, by rw [World.size_setCell]; exact hw6⟩,
            boxed_keep kX6 (heap_setCell_other W6 ⟨nb, 0, none⟩ b1 _ HN.out.2.2.2.2.2.2.2.2.2.2.1), boxed_keep kY6 (heap_setCell_other W6 ⟨nb, 0, none⟩ b2 _ HN.out.2.2.2.2.2.2.2.2.2.2.2.2), hG7, hy.below hB7⟩
          rw [HBOOL.out]
          exact own6.keep fun g _ _ hg _ => hkeep g hg
        case done =>
          rintro D ys W hD hys ⟨A, n, c, A2, n2, c2, t, k1, k2, k3, k4, k5, k6, k7⟩ hK
          have hI : ys.map (fun q => q.1.zs) = allI x y.zs := by
            rw [HE.out.2.1]
            have h5 := congrArg (List.map Prod.fst) hys
            rw [List.map_map, wantsL, List.map_map] at h5
            exact h5
          have hNb : ys.map (fun q => Value.bool (q.2 == 0)) = (allN x y.zs).map Value.bool := by
            rw [HE.out.2.2]
            have h5 := congrArg (List.map fun q : List Int × Int => Value.bool (q.2 == 0)) hys
            rw [List.map_map, wantsL, List.map_map] at h5
            rw [List.map_map]
            exact h5
          have HI := Lib.hid (k3.out.trans hI)
          rw [hNb] at k5
          have cI1 := k1.cell
          have cI2 := k1.frozen
          have cN1 := k4.cell
          have cN2 := k4.frozen
          have mixed : Try.prog.follows .mixedOrders = true := by kernel_rfl
          have hne1 : ¬ ib = nb := HN.out.2.2.2.2.2.2.2.1
          have hne2 : ¬ nb = ib := HN.out.2.2.2.2.2.2.2.2.1
          have hDn : D ≠ ib ∧ D ≠ nb ∧ w.heap.size ≤ D := by have := HN.out; omega
          clear hI hNb hys bX bY cI cN
          go_wp2_with fail
          go_region_o
          go_wp2
          have d5 : (((W.setCell ⟨ib, 0, none⟩ (.slice A n c)).setCell ⟨nb, 0, none⟩ (.slice A2 n2 c2)).drew).heap[D]? = some (.deferred (some [])) :=
            (heap_setCell_other _ ⟨nb, 0, none⟩ D _ hDn.2.1).trans ((heap_setCell_other _ ⟨ib, 0, none⟩ D _ hDn.1).trans hK)
          have eI : Boxed (((W.setCell ⟨ib, 0, none⟩ (.slice A n c)).setCell ⟨nb, 0, none⟩ (.slice A2 n2 c2)).drew) ib 33 (.slice A n c) := boxed_keep (k1.set (.slice A n c)) (heap_setCell_other _ ⟨nb, 0, none⟩ ib (.slice A2 n2 c2) hne1)
          have eN : Boxed (((W.setCell ⟨ib, 0, none⟩ (.slice A n c)).setCell ⟨nb, 0, none⟩ (.slice A2 n2 c2)).drew) nb 36 (.slice A2 n2 c2) := Boxed.set (.slice A2 n2 c2) (boxed_keep k4 (heap_setCell_other W ⟨ib, 0, none⟩ nb (.slice A n c) hne2))
          have hkeep : ∀ g, B0 ≤ g → (((W.setCell ⟨ib, 0, none⟩ (.slice A n c)).setCell ⟨nb, 0, none⟩ (.slice A2 n2 c2)).drew).heap[g]? = W.heap[g]? := fun g hg =>
            (heap_setCell_other _ ⟨nb, 0, none⟩ g _ (show g ≠ nb by have := HN.out; omega)).trans (heap_setCell_other _ ⟨ib, 0, none⟩ g _ (show g ≠ ib by have := HN.out; omega))
          have eO := k2.keepB hkeep
          have eB := k5.keep (w' := ((W.setCell ⟨ib, 0, none⟩ (.slice A n c)).setCell ⟨nb, 0, none⟩ (.slice A2 n2 c2)).drew) fun g _ _ hg _ => hkeep g hg
          have hB5 := ((k6.setCell (p := ⟨ib, 0, none⟩) HN.out.1 (.slice A n c)).setCell (p := ⟨nb, 0, none⟩) HN.out.2.1 (.slice A2 n2 c2)).drew
          generalize ((W.setCell ⟨ib, 0, none⟩ (.slice A n c)).setCell ⟨nb, 0, none⟩ (.slice A2 n2 c2)).drew = W5 at d5 eI eN eO eB hB5 ⊢
          have hcp := cel_putObj (.deferred none) d5 rfl
          have hB6 := hB5.trans (below_put (o := .deferred none) (o' := .deferred none) (W := W5) hDn.2.2)
          have c4 := (boxed_cel eI hcp).cell
          have c5 := (boxed_cel eN hcp).cell
          have hwb : w.heap.size ≤ B0 := HN.out.2.2.1
          refine postM_mark d5 (v := .tuple #[.slice A n c, .slice A2 n2 c2, .int .i64 0]) (by simp [results, Try.results13, go_sem, c4, c5]) rfl ?_
          exact ⟨A, n, c, A2, n2, c2, t, by rw [HE.out.1], (eO.cel hcp).mono hwb, HI.out, (eB.cel hcp).mono hwb, hB6⟩

      · have h3' : mayPr y.zs = false := Bool.eq_false_iff.2 h3
        have hm : mayA x.r.zs (Ls.all x.b) x.o.zs y.zs = false := Bool.eq_false_iff.2 fun h => h3 (mayA_iff.1 h).2.2
        obtain ⟨e1, e2, e3⟩ := allErr_bad hm
        have HE := Lib.hid (And.intro e1 (And.intro e2 e3))
        have g2 : ((y.n : Int) != (x.r.n : Int)) = false := by rw [h2]; simp
        have HR := Lib.hid h2
        clear h1 hm e1 e2 e3 hYL h2 h3
        unfold allW at hck hBW hbox bI bN
        go_wp2_with fail
        refine hck.mono ?_
        rintro e w2 ⟨rfl, hb2⟩
        have cI := boxed_below bI hb2
        have cN := boxed_below bN hb2
        have cM := hbox.below hb2
        have hB2 := hBW.trans (hb2.mono hBW.size)
        have hx2 := hx.below hB2
        have hy2 := hy.below hB2
        have cI1 := cI.cell
        have cI2 := cI.frozen
        have cN1 := cN.cell
        have cN2 := cN.frozen
        have cM0 := cM.c0
        have cM1 := cM.c1
        clear hck hbox bI bN hBW hb2 hxW hyW
        have hmy := hmay w2 hy2
        rw [h3'] at hmy
        go_wp2_with fail
        refine hmy.mono ?_
        rintro e w3 ⟨rfl, rfl⟩
        clear hmy
        go_wp2
        refine postM_ret (v := .tuple #[.slice none 0 0, .slice none 0 0, .int .i64 1]) (by simp [results, Try.results13, go_sem, cI1, cN1]) rfl ?_
        refine ⟨none, 0, 0, none, 0, 0, [], ?_, Outs.none_ _ _, ?_, ?_, (hB2.setCell (p := ⟨w.heap.size + 1, 0, none⟩) (by show w.heap.size ≤ w.heap.size + 1; omega) _).setCell (p := ⟨w.heap.size + 1 + 1, 0, none⟩) (by show w.heap.size ≤ w.heap.size + 1 + 1; omega) _⟩
        · rw [HE.out.1]
        · rw [HE.out.2.1]; rfl
        · rw [HE.out.2.2]; exact Own.none_ _ _ _ _

    · have hm : mayA x.r.zs (Ls.all x.b) x.o.zs y.zs = false := Bool.eq_false_iff.2 fun h => h2 (by rw [← hYL, ← hx.r.len]; exact (mayA_iff.1 h).2.1)
      obtain ⟨e1, e2, e3⟩ := allErr_bad hm
      have HE := Lib.hid (And.intro e1 (And.intro e2 e3))
      have g2 : ((y.n : Int) == (x.r.n : Int)) = false := by rw [beq_eq_false_iff_ne]; omega
      have g3 : ¬ (y.n : Int) = (x.r.n : Int) := by omega
      clear h1 hm e1 e2 e3 hYL h2
      unfold allW at hck hBW hbox bI bN
      go_wp2_with fail
      refine hck.mono ?_
      rintro e w2 ⟨rfl, hb2⟩
      have cI := boxed_below bI hb2
      have cN := boxed_below bN hb2
      have cM := hbox.below hb2
      have hB2 := hBW.trans (hb2.mono hBW.size)
      have hx2 := hx.below hB2
      have hy2 := hy.below hB2
      have cI1 := cI.cell
      have cI2 := cI.frozen
      have cN1 := cN.cell
      have cN2 := cN.frozen
      have cM0 := cM.c0
      have cM1 := cM.c1
      clear hck hbox bI bN hBW hb2 hxW hyW
      go_wp2
      refine postM_ret (v := .tuple #[.slice none 0 0, .slice none 0 0, .int .i64 1]) (by simp [results, Try.results13, go_sem, cI1, cN1]) rfl ?_
      refine ⟨none, 0, 0, none, 0, 0, [], ?_, Outs.none_ _ _, ?_, ?_, (hB2.setCell (p := ⟨w.heap.size + 1, 0, none⟩) (by show w.heap.size ≤ w.heap.size + 1; omega) _).setCell (p := ⟨w.heap.size + 1 + 1, 0, none⟩) (by show w.heap.size ≤ w.heap.size + 1 + 1; omega) _⟩
      · rw [HE.out.1]
      · rw [HE.out.2.1]; rfl
      · rw [HE.out.2.2]; exact Own.none_ _ _ _ _

  · have h1' : x.may = false := Bool.eq_false_iff.2 h1
    have hm : mayA x.r.zs (Ls.all x.b) x.o.zs y.zs = false := Bool.eq_false_iff.2 fun h => h1 (mayA_iff.1 h).1
    obtain ⟨e1, e2, e3⟩ := allErr_bad hm
    have HE := Lib.hid (And.intro e1 (And.intro e2 e3))
    rw [h1'] at hck
    clear h1 h1' hm e1 e2 e3 hYL
    unfold allW at hck hBW hbox bI bN
    go_wp2_with fail
    refine hck.mono ?_
    rintro e w2 ⟨rfl, hb2⟩
    have cI := boxed_below bI hb2
    have cN := boxed_below bN hb2
    have hB2 := hBW.trans (hb2.mono hBW.size)
    have cI1 := cI.cell
    have cI2 := cI.frozen
    have cN1 := cN.cell
    have cN2 := cN.frozen
    clear hck hbox bI bN hBW hb2 hxW hyW
    go_wp2
    refine postM_ret (v := .tuple #[.slice none 0 0, .slice none 0 0, .int .i64 1]) (by simp [results, Try.results13, go_sem, cI1, cN1]) rfl ?_
    refine ⟨none, 0, 0, none, 0, 0, [], ?_, Outs.none_ _ _, ?_, ?_, (hB2.setCell (p := ⟨w.heap.size + 1, 0, none⟩) (by show w.heap.size ≤ w.heap.size + 1; omega) _).setCell (p := ⟨w.heap.size + 1 + 1, 0, none⟩) (by show w.heap.size ≤ w.heap.size + 1 + 1; omega) _⟩
    · rw [HE.out.1]
    · rw [HE.out.2.1]; rfl
    · rw [HE.out.2.2]; exact Own.none_ _ _ _ _
end Go.Proofs.Ytjjaajmjcdihoaa
