/-
  Walks of package paths: a list of one's own; what all have along a way; the items that were come to.
-/
import Derived.Test.YtojpdmhccodckaaPaWd
import Derived.Deep.LoopGhost
import Derived.Lib.SliceRun
namespace Go.Proofs.Ytojpdmhccodckaa
open Go.RowKit
set_option linter.unusedVariables false

set_option maxRecDepth 100000 in
set_option maxHeartbeats 1000000 in
theorem pclone_any (A : Option Addr) (n c : Nat) (zs : List Int) (w : World) (hu : Ls.Ok w ⟨A, n, c, zs⟩) (hn : 0 < n) (h8 : n ≤ 8) :
    Calls Try.prog 33 #[.slice A n c] w fun e w' => ∃ A' c', e = .returned (.slice A' n c') ∧ OwnI w' w.heap.size ⟨A', n, c', zs⟩ ∧ Below w.heap.size w w' := by
  obtain ⟨i0, hi0, hz0, hz1, hz2⟩ := info_parts infoR_int
  have hrd := hu.rd
  have hfit := Lib.hid hu.fit
  simp only at hrd
  obtain ⟨p, q, rfl, hp, _⟩ := hrd.get hn
  have q25 : ∀ (v : World) (a : Option Addr) (n c n' c' : Nat), (binOp .eql 25 (.slice a n c) (.slice none n' c')).run Try.prog v = .ok (.bool a.isNone) v := fun v a n c n' c' => Lib.run_eql_slice_nil v _ _ a n c n' c' Try.underlying25
  go_enter Try.func33, Try.ntmps33
  have hb1 : Below w.heap.size w (w.alloc (.cells #[] 3)) := (Below.refl _ w).alloc (Nat.le_refl _) _
  have hrd1 := hrd.below hb1
  have hsz := hb1.size
  have hown := Own.none_ (w.alloc (.cells #[] 3)) w.heap.size 3 (some ⟨w.heap.size, 0, none⟩)
  go_wp2_with (at_builtin; go_must (refine wpList_app (w.alloc (.cells #[] 3)) rfl _ _ 25 rfl 3 i0 _ 8 Try.underlying25 hi0 hz0 hz1 hz2 rfl w.heap.size _ 0 0 [] rfl hown _ n c (ci64 zs) rfl hrd1 ?d1 ?d2 ?d3 ?d4 ?_))
  case d1 => intro u hu; obtain ⟨z, _, rfl⟩ := List.mem_map.1 hu; rfl
  case d2 => simp only [maxLen]; omega
  case d3 => omega
  try case d4 => exact hsz
  intro A2 c2 w2 hown2 hbel2 _ _
  have hb2 := hb1.trans hbel2
  clear hown hrd1 hb1 hbel2 hrd
  generalize w.alloc (.cells #[] 3) = w1 at *
  go_wp2
  go_ret
  exact ⟨A2, c2, rfl, ⟨hown2, hfit.out⟩, hb2⟩

set_option maxRecDepth 100000 in
set_option maxHeartbeats 1000000 in
theorem palong_any {g : List (List Int)} {M : Nat} {i : Int} {S : St} (A : Option Addr) (n c : Nat) (zs : List Int) (b : Nat) (AW : Option Addr) (nW cW : Nat) (w : World) (hu : Ls.Ok w ⟨A, n, c, zs⟩) (hn : 0 < n) (h8 : n ≤ 8) (hM8 : M ≤ 8)
    (hfit : Fit g M zs) (hf0 : zs.getD i.toNat (-1) = -1) (hc : Core g M zs i false S) (hf : S.f ≠ -1) (aS : SrAt w b 43 (fun k => S.by_.getD k (-1)) AW nW cW) :
    Calls Try.prog 21 #[.pointer (some ⟨b, 0, none⟩), .slice A n c, .int .i64 S.f] w fun e w' => ∃ A' c', e = .returned (.slice A' n c') ∧ OwnI w' w.heap.size ⟨A', n, c', augP S.by_ (M + 2) S.f zs⟩ ∧ Below w.heap.size w w' := by
  obtain ⟨r0, hr0, htrk⟩ := trk_start hfit hc hf
  have HZ := Lib.hid (show zs.length = n from hu.len)
  have HGL := Lib.hid hfit.len
  have HF := Lib.hid hfit
  have HF0 := Lib.hid hf0
  have HC := Lib.hid hc
  have hrd := hu.rd
  simp only at hrd
  have hzfit := Lib.hid hu.fit
  obtain ⟨R, hR⟩ : ∃ R, augP S.by_ (M + 2) S.f zs = R := ⟨_, rfl⟩
  have HR : Hid (augP S.by_ (M + 2) S.f zs = R) := Lib.hid hR
  rw [hR]
  have hst : Hid ((S.f = -1 ∨ ∃ r, r < M + 2 ∧ Trk g M zs S zs S.f r) ∧ zs.length = n ∧ augP S.by_ (M + 2) S.f zs = R ∧ ∀ z ∈ zs, -9223372036854775808 ≤ z ∧ z ≤ 9223372036854775807) := Lib.hid ⟨.inr ⟨r0, by omega, htrk⟩, HZ.out, hR, hzfit.out⟩
  obtain ⟨k0, hk0⟩ : ∃ k, S.f = k := ⟨_, rfl⟩
  rw [hk0] at hst ⊢
  have hcl := pclone_any A n c zs w hu hn h8
  clear hR hk0 htrk hfit hf0 hc hf
  go_enter Try.func21, Try.ntmps21
  go_wp2_with fail
  refine hcl.mono ?_
  rintro e w1 ⟨A1, c1, rfl, hO, hB⟩
  clear hcl
  have aS1 := aS.below hB
  have own1 := hO.own
  simp only at own1
  clear hO aS
  have hle := own1.le
  obtain ⟨g1, rfl, hg1w, hg1r⟩ := own1.lt (by omega)
  have hblt := aS1.lt
  go_wp2_with fail
  go_loopg [8] (M + 2) (fun f v wr => ∃ (k : Int) (out : List Int), v = .int .i64 k ∧ Hid ((k = -1 ∨ ∃ r, r < f ∧ Trk g M zs S out k r) ∧ out.length = n ∧ augP S.by_ f k out = R ∧ ∀ z ∈ out, -9223372036854775808 ≤ z ∧ z ≤ 9223372036854775807) ∧ Own wr w.heap.size 3 (some ⟨g1, 0, none⟩) n c1 (ci64 out) ∧ SrAt wr b 43 (fun k => S.by_.getD k (-1)) AW nW cW ∧ Below w.heap.size w wr)
  case atStart => exact ⟨k0, zs, rfl, hst, own1, aS1, hB⟩
  case round =>
    obtain ⟨k, out, rfl, hin, own, aS, hBr⟩ := hrel
    clear hst own1 aS1 hB
    by_cases hk : k = -1
    · have hk1 : (k != -1) = false := by rw [hk]; rfl
      have hfin : Hid (out = R ∧ ∀ z ∈ out, -9223372036854775808 ≤ z ∧ z ≤ 9223372036854775807) := Lib.hid (by
        have h5 := hin.out.2.2.1
        rw [hk, aug_end] at h5
        exact ⟨h5, hin.out.2.2.2⟩)
      clear hk
      go_wp2
      go_ret
      refine ⟨_, _, rfl, ?_, hBr⟩
      rw [← hfin.out.1]
      exact ⟨own, hfin.out.2⟩
    · have hk1 : (k != -1) = true := by rw [bne_iff_ne]; exact hk
      obtain ⟨r, hr, htrk⟩ := hin.out.1.resolve_left hk
      have hk0r := htrk.k0
      obtain ⟨kn, rfl⟩ : ∃ y : Nat, k = y := ⟨k.toNat, by omega⟩
      have hkn8 : kn < 8 := by omega
      have hkn8' : (kn : Int) < 8 := by omega
      have hkn0 : (0 : Int) ≤ kn := by omega
      obtain ⟨y, hy⟩ : ∃ y, S.by_.getD kn (-1) = y := ⟨_, rfl⟩
      obtain ⟨hb1, hob, hnx⟩ := trk_step HF.out HF0.out HC.out (b := y) htrk (by rw [Int.toNat_natCast]; exact hy)
      have hcb : wr.cell? ⟨b, kn, none⟩ = some (.int .i64 y) := by rw [aS.cell hkn8, hy]
      have haug := aug_next (by_ := S.by_) (fuel := gk - 1) (k := (kn : Int)) (b := y) (out := out) hk (by rw [Int.toNat_natCast]; exact hy)
      rw [show gk - 1 + 1 = gk by omega, hin.out.2.2.1] at haug
      obtain ⟨d, rfl⟩ : ∃ d : Nat, y = d := ⟨y.toNat, by omega⟩
      rw [Int.toNat_natCast] at hob hnx haug
      have hdn : d < n := by rw [← HZ.out, HGL.out]; omega
      have hdn' : (d : Int) < n := by omega
      have hd0 : (0 : Int) ≤ d := by omega
      obtain ⟨p, q, rfl, hp, u0, hu0, hc0⟩ := hrd.get hdn
      have hdl : d < zs.length := by rw [HZ.out]; exact hdn
      rw [ci64_get _ _ hdl] at hu0
      obtain rfl : iV zs[d] = u0 := Option.some.inj hu0
      unfold iV at hc0
      have hzd : zs.getD d (-1) = zs[d] := by rw [List.getD_eq_getElem?_getD, List.getElem?_eq_getElem hdl]; rfl
      rw [hzd] at hob hnx
      rw [hob] at haug
      obtain ⟨a, ha⟩ : ∃ a, zs[d] = a := ⟨_, rfl⟩
      rw [ha] at hc0 hnx haug
      have hcr : wr.cell? ⟨p, q + d, none⟩ = some (.int .i64 a) := (hBr.cell (p := ⟨p, q + d, none⟩) hp).trans hc0
      obtain ⟨vo, hvo⟩ : ∃ v, wr.cell? ⟨g1, d, none⟩ = some v := by
        rw [own.cell hdn]
        exact ⟨_, List.getElem?_eq_getElem (by rw [ci64_len, hin.out.2.1]; exact hdn)⟩
      have hfr := own.free (by omega) d
      have own2 := own.set (by omega) d (.int .i64 (kn : Int))
      have e1 : (ci64 out).set d (.int .i64 (kn : Int)) = ci64 (out.set d (kn : Int)) := by simp [ci64, iV]
      rw [e1] at own2
      have hne : b ≠ g1 := by
        intro he
        obtain ⟨cur, h1, _⟩ := aS
        obtain ⟨g', cur', hA, _, hh, _⟩ := own.2.resolve_left (by omega)
        cases hA
        rw [← he, h1] at hh
        exact absurd (Obj.cells.inj (Option.some.inj hh)).2.1 (by decide)
      have aS2 := aS.keep (w' := wr.setCell ⟨g1, d, none⟩ (.int .i64 (kn : Int))) (heap_setCell_other wr ⟨g1, d, none⟩ b (.int .i64 (kn : Int)) hne)
      have hB2 := hBr.setCell (p := ⟨g1, d, none⟩) hg1w (.int .i64 (kn : Int))
      have HN : Hid ((a = -1 ∨ ∃ r, r < gk - 1 ∧ Trk g M zs S (out.set d (kn : Int)) a r) ∧ (out.set d (kn : Int)).length = n ∧ augP S.by_ (gk - 1) a (out.set d (kn : Int)) = R ∧ ∀ z ∈ out.set d (kn : Int), -9223372036854775808 ≤ z ∧ z ≤ 9223372036854775807) := Lib.hid (by
        refine ⟨hnx.imp id ?_, by rw [List.length_set]; exact hin.out.2.1, haug.symm, fun z hz => ?_⟩
        · rintro ⟨r', h1, h2⟩
          exact ⟨r', by omega, h2⟩
        · rcases List.mem_or_eq_of_mem_set hz with h1 | h1
          · exact hin.out.2.2.2 z h1
          · rw [h1]; omega)
      clear hy hob hnx haug hu0 hdl hzd ha hc0 own aS hBr e1 hin htrk hk hb1
      go_wp2
      go_roundg (gk - 1)
      case measure => omega
      case rel => exact ⟨a, out.set d (kn : Int), rfl, HN, own2, aS2, hB2⟩
/-- a[i] of an array of ints by value. -/
theorem run_index_arrP (w : World) (cs : Array Value) (k : IntKind) (j : Nat) (v : Value) (hj : j < 8) (hv : cs[j]? = some v) :
    (Instr.index 41 (.agg cs) (.int k (j : Int))).run Try.prog w = .ok v w := by
  have h2 : (0 : Int) ≤ j ∧ (j : Int) < 8 := by omega
  simp [Instr.index, run_underlying Try.underlying41, asIntOf, h2, hj, hv, go_sem]
set_option maxRecDepth 100000 in
set_option maxHeartbeats 1000000 in
theorem pcame_any (F : Nat → Int) (b : Nat) (AW : Option Addr) (nW cW : Nat) (w : World) (aS : SrAt w b 43 F AW nW cW) :
    Calls Try.prog 26 #[.pointer (some ⟨b, 0, none⟩)] w fun e w' => ∃ A n c, e = .returned (.slice A n c) ∧ OwnI w' w.heap.size ⟨A, n, c, upto 8 fun k => decide (F k ≠ -1)⟩ ∧ Below w.heap.size w w' := by
  obtain ⟨i0, hi0, hz0, hz1, hz2⟩ := info_parts infoR_int
  have d0 := aS.cell (k := 0) (by omega)
  have d1 := aS.cell (k := 1) (by omega)
  have d2 := aS.cell (k := 2) (by omega)
  have d3 := aS.cell (k := 3) (by omega)
  have d4 := aS.cell (k := 4) (by omega)
  have d5 := aS.cell (k := 5) (by omega)
  have d6 := aS.cell (k := 6) (by omega)
  have d7 := aS.cell (k := 7) (by omega)
  clear aS
  obtain ⟨G, hG⟩ : ∃ G : Nat → Bool, (fun k => decide (F k ≠ -1)) = G := ⟨_, rfl⟩
  have HG : Hid (∀ k, decide (F k ≠ -1) = G k) := Lib.hid (fun k => by rw [← hG])
  rw [hG]
  clear hG
  go_enter Try.func26, Try.ntmps26
  go_wp2
  clear d0 d1 d2 d3 d4 d5 d6 d7
  obtain ⟨cur, hcur⟩ : ∃ cur, #[Value.int .i64 (F 0), .int .i64 (F 1), .int .i64 (F 2), .int .i64 (F 3), .int .i64 (F 4), .int .i64 (F 5), .int .i64 (F 6), .int .i64 (F 7)] = cur := ⟨_, rfl⟩
  have hsz : cur.size = 8 := by rw [← hcur]; rfl
  have hget : ∀ k, k < 8 → cur[k]? = some (.int .i64 (F k)) := by
    intro k hk
    rw [← hcur]
    match k, hk with
    | 0, _ => rfl
    | 1, _ => rfl
    | 2, _ => rfl
    | 3, _ => rfl
    | 4, _ => rfl
    | 5, _ => rfl
    | 6, _ => rfl
    | 7, _ => rfl
    | k + 8, h => omega
  rw [hcur]
  clear hcur
  go_loopw [3, 10] (fun l i wr => ∃ (j : Nat) (A : Option Addr) (n c : Nat), j ≤ 8 ∧ i = .int .i64 j ∧ l = .slice A n c ∧ OwnI wr w.heap.size ⟨A, n, c, upto j G⟩ ∧ Below w.heap.size w wr) (fun _ i _ => 8 - (intOf i).toNat)
  case atStart => exact ⟨0, none, 0, 0, by omega, rfl, rfl, OwnI.nil _ _, Below.refl _ _⟩
  case round =>
    obtain ⟨j, A, n, c, hj, rfl, rfl, hO, hB⟩ := hrel
    by_cases hlt : j < 8
    · have hgj := hget j hlt
      have hlt' : (j : Int) < 8 := by omega
      have hj8 : j < cur.size := by omega
      have hlen := hO.len
      have hul := upto_len j G
      have hsnoc : Hid (upto (j + 1) G = upto j G ++ if G j = true then [(j : Int)] else []) := Lib.hid (upto_succ j G)
      have hGj := HG.out j
      obtain ⟨y, hy⟩ : ∃ y, F j = y := ⟨_, rfl⟩
      rw [hy] at hgj hGj
      have hidx : ∀ w', (Instr.index 41 (.agg cur) (.int .i64 (j : Int))).run Try.prog w' = .ok (.int .i64 y) w' := fun w' => run_index_arrP w' cur .i64 j _ hlt hgj
      by_cases hy1 : y = -1
      · have k1 : (y != -1) = false := by rw [hy1]; rfl
        have hO2 : OwnI wr w.heap.size ⟨A, n, c, upto (j + 1) G⟩ := by
          rw [hsnoc.out, ← hGj, hy1]; simpa using hO
        clear hO hlen hsnoc hget hGj hy hy1 hul
        go_wp2
        go_roundw
        case rel => exact ⟨j + 1, A, n, c, by omega, by go_num, rfl, hO2, hB⟩
        case measure => simp [intOf]; omega
      · have k1 : (y != -1) = true := by rw [bne_iff_ne]; exact hy1
        have hsz2 := hB.size
        have hGt : Hid (G j = true) := Lib.hid (by rw [← hGj]; exact decide_eq_true hy1)
        clear hget hGj hy hy1
        go_wp2_with (at_builtin; go_must (refine wpList_app1 wr rfl _ _ 25 rfl 3 i0 _ 8 Try.underlying25 hi0 hz0 hz1 hz2 rfl w.heap.size A n c _ rfl hO.own _ rfl rfl ?xx3 ?xx4 ?xx5 ?_))
        case xx3 => have : (upto j G).length = n := hlen; simp only [maxLen]; omega
        case xx4 => have : (upto j G).length = n := hlen; omega
        try case xx5 => exact hsz2
        intro A3 c3 w5 hown5 hbel5 hfr5 hat5
        have hO2 : OwnI w5 w.heap.size ⟨A3, n + 1, c3, upto (j + 1) G⟩ := by
          refine ⟨?_, fun z hz => ?_⟩
          · show Own w5 w.heap.size _ A3 (n + 1) c3 (ci64 (upto (j + 1) G))
            rw [hsnoc.out, if_pos hGt.out, ci64_snoc6]; exact hown5
          · have := (upto_rises (j + 1) G).1 z hz; omega
        have hB2 := hB.trans hbel5
        clear hown5 hbel5 hfr5 hat5 hO hlen hsnoc hGt hul
        go_wp2
        go_roundw
        case rel => exact ⟨j + 1, A3, n + 1, c3, by omega, by go_num, rfl, hO2, hB2⟩
        case measure => simp [intOf]; omega
    · obtain rfl : j = 8 := by omega
      go_wp2
      go_ret
      exact ⟨_, _, _, rfl, hO, hB⟩
end Go.Proofs.Ytojpdmhccodckaa
