/-
  Proved: salesroomlaw09.HallsNamed answers true, for any lists, any items, however far the names are moved, in whatever memory. No conditions (of the lists that came in a slice takes no more than the form lets it take).
-/
import Derived.Test.YtdiklmfaehmmjaaRows
import Derived.Test.YtdiklmfaehmmjaaLift
import Derived.SizedLaws
import Derived.Test.YtdiklmfaehmmjaaAlive9
import Derived.Test.YtdiklmfaehmmjaaGrM
import Derived.Test.YtdiklmfaehmmjaaHaL
import Derived.Test.YtdiklmfaehmmjaaGrN
import Derived.Test.YtdiklmfaehmmjaaMaL
import Derived.Test.YtdiklmfaehmmjaaReg
namespace Go.Proofs.Ytdiklmfaehmmjaa.hallsNamed
open Go.ChangeShapes Go.WideShapes Go.ChangeAt Go.RowKit
set_option linter.unusedVariables false

theorem infoH_ints : (Try.prog.info? 25).map (fun i => (i.zero, i.size, i.bytes)) = some (some (.slice none 0 0), 1, 24) := by kernel_rfl
theorem allL_succ (n : Nat) : allL (n + 1) = allL n ++ [(n : Int)] := by rw [allL, allL, upto_succ]; simp
theorem few_any {g : List (List Int)} {m : Nat} {s : List Int} (h : nearOk g m s = true) : ∃ (F : Bool) (l : List Int), fewF g m s = F ∧ fewE g m s = l ∧ (F = true → Best g m s l) := by
  cases hp : fewP g m s with
  | none => exact ⟨false, [], (few_no h hp).1, (few_no h hp).2, fun h => (nomatch h)⟩
  | some l => exact ⟨true, l, (few_yes h hp).1, (few_yes h hp).2, fun _ => few_some hp⟩
theorem few_eq {g g' : List (List Int)} {m : Nat} {s s' : List Int} (h : nearOk g m s = true) (h' : nearOk g' m s' = true) (he : fewP g' m s' = fewP g m s) : fewF g' m s' = fewF g m s ∧ fewE g' m s' = fewE g m s := by
  simp [fewF, fewE, h, h', he]
section
open Go.WideShapes Go.ChangeShapes Go.ChangeAt Go.Joins Go.Deep
variable {H : Type} {enc : TypeId × Value → H} {P : Program} {w : World} {base : Nat} {held : Bool} {t tl : TypeId} {f0 f1 : Field} {d : DataW H} {ps : List MemPlace}
/-- How much the lists that came in can be. -/
theorem gr_sized {A : Option Addr} {n c : Nat} {m : Int} (hs : P.underlying t = some (.struct #[f0, f1])) (hone : oneCellFields P #[f0, f1] = true) (hC : P.cellsOf t = 2) (k0 : P.underlying f0.type = some (.slice tl))
    (h : DataW.Trod enc P w base (fun _ => true) held t (.agg #[.slice A n c, .int .i64 m]) d ps) (hw : ∀ k ∈ d.weights P t, k ≤ reachBytes) : n * P.bytesOf tl ≤ reachBytes := by
  obtain ⟨fuel, hf⟩ := h
  obtain ⟨y0, y1, n', e, hl, h0, h1⟩ := trod_struct2 hs hf
  obtain ⟨o0, z0⟩ := hone_of hone 0 f0 rfl
  have e1 : d = .agg [y0.1, y1.1] := congrArg Prod.fst e
  rw [o0, z0] at h0
  have h0' : DataW.trod enc P w base (fun _ => true) held n' f0.type [.slice A n c] = some y0 := h0
  rcases Go.Deep.open_slice k0 h0' with ⟨hc, hx⟩ | ⟨a, len, cap, m', n2, D, Pl, hc, hb, hl2, hm, hmm, hx, hi⟩
  · simp only [List.cons.injEq, Value.slice.injEq, and_true] at hc
    rw [hc.2.1]; simp
  · simp only [List.cons.injEq, Value.slice.injEq, and_true] at hc
    obtain ⟨_, rfl, rfl⟩ := hc
    have h5 := hw ((n + (m' - n)) * P.bytesOf tl) (by
      rw [e1, hx]
      simp [DataW.weights, hs, DataW.weightsEach, k0])
    exact Nat.le_trans (Nat.mul_le_mul_right _ (by omega)) h5
end
/-- The lists that came in, by their cells. -/
theorem gr_rd {x : Gr} {w : World} (h : x.Ok w) : Rd w x.A x.n (x.t.map Ls.v) := by
  refine ⟨by rw [List.length_map]; exact h.len, fun hn => ?_⟩
  obtain ⟨p, q, u, hA, _, _, _, _, _⟩ := h.get hn
  refine ⟨p, q, hA, fun j hj => ?_⟩
  obtain ⟨p', q', u', hA', hu', _, _, hc', _⟩ := h.get hj
  rw [hA] at hA'
  cases hA'
  rw [hc', List.getElem?_map, hu']; rfl

set_option maxRecDepth 100000 in
set_option maxHeartbeats 4000000 in
theorem walk (x : Gr) (m : Int) (y : Nat) (w : World) (h : x.Ok w) (hm1 : -9223372036854775808 ≤ m) (hm2 : m ≤ 9223372036854775807) (hy : y < 256) (hreach : x.n * 24 ≤ 140737488351232) :
    Calls Try.prog 7 #[.agg #[x.v, .int .i64 m], .int .u8 y] w fun e w' => e = .returned (.bool true) ∧ Below w.heap.size w w' := by
  have hx := h
  have hB := Below.refl w.heap.size w
  have hxv : x.v = .slice x.A x.n x.c := rfl
  have Vx := Lib.hid hxv
  rw [hxv]
  have hgl := h.glen
  have HGL := Lib.hid hgl
  have htop := Nat.le_trans h.cap h.top
  unfold maxLen at htop
  obtain ⟨B, hB0⟩ : ∃ B, checkG x.g m = B := ⟨_, rfl⟩
  clear hxv hgl h
  go_enter Try.func7, Try.ntmps7
  have bg := GBox.new w x m
  have hbx : Below w.heap.size w (w.alloc (.cells #[.slice x.A x.n x.c, .int .i64 m] 24)) := (Below.refl _ w).alloc (Nat.le_refl _) _
  replace hx := hx.below hbx
  replace hB := hB.trans (hbx.mono hB.size)
  clear hbx
  obtain ⟨i0, hi0, hz0, hz1, hz2⟩ := info_parts infoH_int
  obtain ⟨i1, hi1, hy0, hy1, hy2⟩ := info_parts infoH_ints
  have eg0 := bg.c0
  have eg1 := bg.c1
  go_wp2_with fail
  clear eg0 eg1
  generalize w.alloc (.cells #[.slice x.A x.n x.c, .int .i64 m] 24) = V0 at *
  go_loopw [6, 7] (fun o v wr => ∃ (j : Nat) (Al : Option Addr) (cl : Nat), j ≤ x.n ∧ v = .int .i64 j ∧ o = .slice Al j cl ∧ OwnI wr V0.heap.size ⟨Al, j, cl, allL j⟩ ∧ Below V0.heap.size V0 wr) (fun _ v _ => x.n - (intOf v).toNat)
  case atStart => exact ⟨0, none, 0, Nat.zero_le _, rfl, rfl, OwnI.nil _ _, Below.refl _ _⟩
  case round =>
    obtain ⟨j, Al, cl, hj, rfl, rfl, hol, hbel⟩ := hrel
    by_cases hjn : j < x.n
    · have hjn' : (j : Int) < x.n := by omega
      have hszq := hbel.size
      go_wp2_with (at_builtin; go_must (refine wpList_app1 wr rfl _ _ 25 rfl 3 i0 _ 8 Try.underlying25 hi0 hz0 hz1 hz2 rfl V0.heap.size Al j cl _ rfl hol.own 1 rfl rfl ?d3 ?d4 ?d5 ?_))
      case d3 => simp only [maxLen]; omega
      case d4 => omega
      try case d5 => exact hszq
      intro A7 c7 w7 hown7 hbel7 hfr7 hat7
      have hol3 : OwnI w7 V0.heap.size ⟨A7, j + 1, c7, allL (j + 1)⟩ := by
        refine ⟨?_, fun z hz => ?_⟩
        · show Own w7 V0.heap.size _ A7 (j + 1) c7 (ci64 (allL (j + 1)))
          rw [allL_succ, ci64_snoc6]; exact hown7
        · have h5 := (allL_rises (j + 1)).1 z hz
          omega
      have hbel3 := hbel.trans hbel7
      clear hown7 hbel7 hfr7 hat7 hol hbel
      go_wp2
      go_roundw
      case rel => exact ⟨j + 1, A7, c7, by omega, by go_num, rfl, hol3, hbel3⟩
      case measure => simp [intOf]; omega
    · obtain rfl : j = x.n := by omega
      have hxr := hx.below hbel
      have bgr := bg.below hbel
      have hB := hB.trans (hbel.mono hB.size)
      have hok : nearOk x.g m (allL x.n) = B := by
        have h5 := allL_ok (g := x.g) (m := m)
        rw [HGL.out] at h5
        rw [h5]; exact hB0
      clear hbel hx bg
      cases B
      · have E1 := Lib.hid (few_bad hok)
        have E2 := Lib.hid (near_err_bad hok)
        clear hok hB0
        have eg0 := bgr.c0
        have eg1 := bgr.c1
        have hc := pfewC x m ⟨Al, x.n, cl, allL x.n⟩ wr hxr hol.ok hm1 hm2
        rw [Vx.out, E2.out, E1.out.1, E1.out.2] at hc
        go_wp2_with fail
        clear eg0 eg1
        refine hc.mono ?_
        rintro e v1 ⟨A2, n2, c2, rfl, h2, hb⟩
        clear hc
        replace hxr := hxr.below hb
        replace hol := hol.below hb
        replace bgr := bgr.below hb
        replace hB := hB.trans (hb.mono hB.size)
        clear hb
        clear h2
        have eg0 := bgr.c0
        have eg1 := bgr.c1
        have hc := alive9_any v1
        go_wp2_with fail
        clear eg0 eg1
        refine hc.mono ?_
        rintro e v2 ⟨rfl, hb⟩
        clear hc
        replace hxr := hxr.below hb
        replace hol := hol.below hb
        replace bgr := bgr.below hb
        replace hB := hB.trans (hb.mono hB.size)
        clear hb
        have eg0 := bgr.c0
        have eg1 := bgr.c1
        go_wp2
        go_ret
        exact ⟨rfl, hB⟩
      · obtain ⟨M, rfl⟩ : ∃ M : Nat, m = M := ⟨m.toNat, by have := (checkG_iff.1 hB0).1; omega⟩
        have HC := Lib.hid hB0
        have HOK := Lib.hid hok
        have E2 := Lib.hid (near_err hok)
        have hM8 : M ≤ 8 := by have := (checkG_iff.1 hB0).2.1; omega
        have hx8 : x.n ≤ 8 := by have := (checkG_iff.1 hB0).2.2.1; rw [HGL.out] at this; exact this
        obtain ⟨FB, l, e1, e3, hbest⟩ := few_any hok
        have E1 := Lib.hid e1
        have E3 := Lib.hid e3
        have HBE := Lib.hid hbest
        clear e1 e3 hbest hok hB0 hm1 hm2
        have eg0 := bgr.c0
        have eg1 := bgr.c1
        have hc := pfewC x M ⟨Al, x.n, cl, allL x.n⟩ wr hxr hol.ok (by omega) (by omega)
        rw [Vx.out, E2.out, E1.out, E3.out] at hc
        go_wp2_with fail
        clear eg0 eg1
        refine hc.mono ?_
        rintro e v1 ⟨A2, n2, c2, rfl, h2, hb⟩
        clear hc
        replace hxr := hxr.below hb
        replace hol := hol.below hb
        replace bgr := bgr.below hb
        replace hB := hB.trans (hb.mono hB.size)
        clear hb
        by_cases hn0 : x.n = 0
        · have g0 : ((x.n : Int) == 0) = true := by rw [beq_iff_eq]; omega
          have g0' : (x.n == 0) = true := by rw [beq_iff_eq]; exact hn0
          obtain rfl : FB = false := by
            cases FB with
            | false => rfl
            | true =>
              have h5 := of_decide_eq_true (HBE.out rfl).is.few
              have h6 := within_len x.g (allL x.n) l
              have h7 : (allL x.n).length = x.n := upto_all_len _
              omega
          have eg0 := bgr.c0
          have eg1 := bgr.c1
          have hc := alive9_any v1
          go_wp2_with fail
          clear eg0 eg1
          refine hc.mono ?_
          rintro e v2 ⟨rfl, hb⟩
          clear hc
          replace hxr := hxr.below hb
          replace hol := hol.below hb
          replace h2 := h2.below hb
          replace bgr := bgr.below hb
          replace hB := hB.trans (hb.mono hB.size)
          clear hb
          have eg0 := bgr.c0
          have eg1 := bgr.c1
          go_wp2
          go_ret
          exact ⟨rfl, hB⟩
        · have g0 : ((x.n : Int) == 0) = false := by rw [beq_eq_false_iff_ne]; omega
          have g0' : (x.n == 0) = false := by rw [beq_eq_false_iff_ne]; exact hn0
          obtain ⟨k, hk⟩ : ∃ k : Nat, y % x.n = k := ⟨_, rfl⟩
          have hkn : k < x.n := by rw [← hk]; exact Nat.mod_lt _ (by omega)
          have s2 : ((y : Int)).tmod (x.n : Int) = (k : Int) := by
            rw [Int.tmod_eq_emod_of_nonneg (by omega), ← hk]; simp
          have sy : IntKind.i64.wrap (y : Int) = (y : Int) := by rw [IntKind.wrap_i64]; omega
          clear hk
          obtain ⟨p, q, u, hA, _, _, hp, _, _⟩ := hxr.get (show 0 < x.n by omega)
          have hrd := gr_rd hxr
          rw [hA] at hrd
          have hcap := hxr.cap
          have htop2 := hxr.top
          unfold maxLen at htop2
          have k0 : (0 : Int) ≤ k := by omega
          have k1 : (k : Int) ≤ x.n := by omega
          have k2 : (k : Int) ≤ x.c := by omega
          have k3 : (x.n : Int) ≤ x.c := by omega
          have hkc : ¬ x.c = k := by omega
          have hokx : Hid (∀ w', x.Ok w' → ∀ v ∈ x.t.drop k ++ x.t.take k, v.Ok w') := Lib.hid fun w' h v hv => by
            rcases List.mem_append.1 hv with h1 | h1
            · exact h.lss.ok v (List.mem_of_mem_drop h1)
            · exact h.lss.ok v (List.mem_of_mem_take h1)
          have hgg : Hid (Ls.all (x.t.drop k ++ x.t.take k) = x.g.drop k ++ x.g.take k) := Lib.hid (by simp [Ls.all, Gr.g])
          have hglen : (x.g.drop k ++ x.g.take k).length = x.n := by rw [List.length_append, List.length_drop, List.length_take, HGL.out]; omega
          have hok2 : nearOk (x.g.drop k ++ x.g.take k) M (allL x.n) = true := by
            have h5 := allL_ok (g := x.g.drop k ++ x.g.take k) (m := (M : Int))
            rw [hglen] at h5
            rw [h5, turn_check]; exact HC.out
          have hfe : fewP (x.g.drop k ++ x.g.take k) M (allL x.n) = fewP x.g M (allL x.n) := by
            have h5 := turn_few (g := x.g) (m := M) (k := k)
            rwa [hglen, HGL.out] at h5
          obtain ⟨e4, e5⟩ := few_eq HOK.out hok2 hfe
          rw [E1.out] at e4
          rw [E3.out] at e5
          have E4 := Lib.hid e4
          have E5 := Lib.hid e5
          have E6 := Lib.hid (near_err hok2)
          have hrk : Rd v1 (some ⟨p, q, none⟩) k ((x.t.take k).map Ls.v) := by
            have h5 := hrd.cut_at (lo := 0) (hi := k) (by omega) (by omega)
            simpa [List.map_take] using h5
          have hrd2 : Rd v1 (some ⟨p, q + k, none⟩) (x.n - k) ((x.t.drop k).map Ls.v) := by
            have h5 := hrd.cut_at (lo := k) (hi := x.n) (by omega) (Nat.le_refl _)
            have hl := hxr.len
            rwa [List.take_of_length_le (by rw [List.length_drop, List.length_map]; omega), ← List.map_drop] at h5
          clear hglen hok2 hfe e4 e5 hrd
          have hg0 : ∀ w', Below v1.heap.size v1 w' → w'.cell? ⟨w.heap.size, 0, none⟩ = some (.slice (some ⟨p, q, none⟩) x.n x.c) := fun w' hb => by rw [← hA]; exact (bgr.below hb).c0
          have eg0 := bgr.c0
          have eg1 := bgr.c1
          rw [hA] at eg0
          have hS : ∀ w', Below v1.heap.size v1 w' → w'.cell? ⟨w.heap.size, 0, none⟩ = some (.slice (some ⟨p, q, none⟩) x.n x.c) := fun w' hb => hg0 _ hb
          go_wp2_with fail
          refine wp_region_ord (S := fun w' => w'.cell? ⟨w.heap.size, 0, none⟩ = some (.slice (some ⟨p, q, none⟩) x.n x.c)) [(0, true), (1, true), (2, true), (3, true), (5, true), (6, true), (7, true), (8, true), (4, false), (9, false), (10, true)] default (by kernel_rfl) (by kernel_rfl) (by kernel_rfl) (hS _ ((Below.refl _ v1).drew)) ?_
          simp only [getOrd, nth]
          obtain ⟨q1_0, hu0⟩ : ∃ q1_0, q1_0 = v1.drew := ⟨_, rfl⟩
          have b0 : Below v1.heap.size v1 q1_0 := by rw [hu0]; exact ((Below.refl _ v1).drew)
          rw [← hu0]
          clear hu0
          repeat (first | (refine ordS (by rfl) ?_; simp only [Act.put, List.setIfInBounds_toArray, List.set_cons_zero, List.set_cons_succ]) | (refine ordN (by rfl) ?_; simp only [Act.put, List.setIfInBounds_toArray, List.set_cons_zero, List.set_cons_succ]) | (refine ordQ (v := ?_) (by rfl) (fun _ hSw => ?_) ?_; rotate_left; (focus ((have hS1 := hSw); clear hSw; go_simp; (first | done | with_reducible rfl))); simp only [Act.put, List.setIfInBounds_toArray, List.set_cons_zero, List.set_cons_succ]))
          try rw [if_neg hkc]
          clear eg0 eg1
          refine ordD (by rfl) ?_
          intro K hK
          refine wp_app q1_0 _ _ 22 rfl 25 i1 _ 24 Try.underlying22 hi1 hy0 hy1 hy2 rfl v1.heap.size none 0 0 [] (by rfl) (Own.none_ _ _ _ _) (some ⟨p, q + k, none⟩) (x.n - k) _ _ (by rfl) (hrd2.below b0) ?a1 ?a2 ?a3 ?a4 ?_
          case a1 => intro u hu; obtain ⟨v, _, rfl⟩ := List.mem_map.1 hu; rfl
          case a2 => simp only [maxLen]; omega
          case a3 => omega
          try case a4 => exact b0.size
          intro A8 c8 r1 hown8 hbel8 _ _
          have b1 : Below v1.heap.size v1 r1 := b0.trans hbel8
          have ho8 : Own r1 v1.heap.size 25 A8 (x.n - k) c8 ((x.t.drop k).map Ls.v) := by simpa using hown8
          clear hown8 hbel8
          refine hK _ _ (hS _ b1) ?_
          clear hK K
          try simp only [Act.put, List.setIfInBounds_toArray, List.set_cons_zero, List.set_cons_succ]
          try simp only [Nat.zero_add]
          repeat (first | (refine ordS (by rfl) ?_; simp only [Act.put, List.setIfInBounds_toArray, List.set_cons_zero, List.set_cons_succ]) | (refine ordN (by rfl) ?_; simp only [Act.put, List.setIfInBounds_toArray, List.set_cons_zero, List.set_cons_succ]) | (refine ordQ (v := ?_) (by rfl) (fun _ hSw => ?_) ?_; rotate_left; (focus ((have hS1 := hSw); clear hSw; go_simp; (first | done | with_reducible rfl))); simp only [Act.put, List.setIfInBounds_toArray, List.set_cons_zero, List.set_cons_succ]))
          refine ordD (by rfl) ?_
          intro K hK
          refine wp_app r1 _ _ 22 rfl 25 i1 _ 24 Try.underlying22 hi1 hy0 hy1 hy2 rfl v1.heap.size A8 (x.n - k) c8 _ (by rfl) ho8 (some ⟨p, q, none⟩) k _ _ (by rfl) (hrk.below b1) ?a5 ?a6 ?a7 ?a8 ?_
          case a5 => intro u hu; obtain ⟨v, _, rfl⟩ := List.mem_map.1 hu; rfl
          case a6 => simp only [maxLen]; omega
          case a7 => omega
          try case a8 => exact b1.size
          intro A9 c9 r2 hown9 hbel9 _ _
          have b2 : Below v1.heap.size v1 r2 := b1.trans hbel9
          have hnk : x.n - k + k = x.n := by omega
          have ho9 : Own r2 v1.heap.size 25 A9 x.n c9 ((x.t.drop k ++ x.t.take k).map Ls.v) := by rw [hnk] at hown9; rw [List.map_append]; exact hown9
          refine hK _ _ (hS _ b2) ?_
          rw [hnk]
          clear hK K hown9 hbel9 hnk ho8
          try simp only [Act.put, List.setIfInBounds_toArray, List.set_cons_zero, List.set_cons_succ]
          repeat (first | (refine ordS (by rfl) ?_; simp only [Act.put, List.setIfInBounds_toArray, List.set_cons_zero, List.set_cons_succ]) | (refine ordN (by rfl) ?_; simp only [Act.put, List.setIfInBounds_toArray, List.set_cons_zero, List.set_cons_succ]) | (refine ordQ (v := ?_) (by rfl) (fun _ hSw => ?_) ?_; rotate_left; (focus ((have hS1 := hSw); clear hSw; go_simp; (first | done | with_reducible rfl))); simp only [Act.put, List.setIfInBounds_toArray, List.set_cons_zero, List.set_cons_succ]))
          refine ordE ?_
          replace hxr := hxr.below b2
          replace hol := hol.below b2
          replace h2 := h2.below b2
          replace bgr := bgr.below b2
          replace hB := hB.trans (b2.mono hB.size)
          clear hS b0 b1 b2 hrk hrd2 hA hg0
          have hff : (FB == FB) = true := by simp
          have eg0 := bgr.c0
          have eg1 := bgr.c1
          have hc := pfewC ⟨A9, x.n, c9, x.t.drop k ++ x.t.take k⟩ M ⟨Al, x.n, cl, allL x.n⟩ r2 (own_lists ho9 (hokx.out _ hxr)) hol.ok (by omega) (by omega)
          rw [show Gr.v ⟨A9, x.n, c9, x.t.drop k ++ x.t.take k⟩ = .slice A9 x.n c9 from rfl, show Gr.g ⟨A9, x.n, c9, x.t.drop k ++ x.t.take k⟩ = x.g.drop k ++ x.g.take k from hgg.out, E6.out, E4.out, E5.out] at hc
          go_wp2_with fail
          clear eg0 eg1
          refine hc.mono ?_
          rintro e v2 ⟨A3, n3, c3, rfl, h3, hb⟩
          clear hc
          replace hxr := hxr.below hb
          replace hol := hol.below hb
          replace h2 := h2.below hb
          replace ho9 := ho9.below hb
          replace bgr := bgr.below hb
          replace hB := hB.trans (hb.mono hB.size)
          clear hb
          have eg0 := bgr.c0
          have eg1 := bgr.c1
          have hc := alive9_any v2
          go_wp2_with fail
          clear eg0 eg1
          refine hc.mono ?_
          rintro e v3 ⟨rfl, hb⟩
          clear hc
          replace hxr := hxr.below hb
          replace hol := hol.below hb
          replace h2 := h2.below hb
          replace ho9 := ho9.below hb
          replace h3 := h3.below hb
          replace bgr := bgr.below hb
          replace hB := hB.trans (hb.mono hB.size)
          clear hb
          have eg0 := bgr.c0
          have eg1 := bgr.c1
          have hc := sameints_b ⟨A2, n2, c2, l⟩ ⟨A3, n3, c3, l⟩ v3 h2.ok h3.ok
          rw [show (l == l) = true by simp] at hc
          go_wp2_with fail
          clear eg0 eg1
          refine hc.mono ?_
          rintro e v4 ⟨rfl, hb⟩
          clear hc
          replace hxr := hxr.below hb
          replace hol := hol.below hb
          replace h2 := h2.below hb
          replace ho9 := ho9.below hb
          replace h3 := h3.below hb
          replace bgr := bgr.below hb
          replace hB := hB.trans (hb.mono hB.size)
          clear hb
          have eg0 := bgr.c0
          have eg1 := bgr.c1
          go_wp2
          go_ret
          exact ⟨rfl, hB⟩

theorem own : ownKnob Try.prog.godebug = none := by kernel_rfl
theorem laidOut : laidOutB Try.prog = true := by kernel_rfl

set_option maxRecDepth 100000 in
theorem lifted (os : Os) (started : os.Started) (H : Type) (enc : TypeId × Value → H) :
    ReturnsInHanded {} Try.checked os 7 .any (Rows.hallsNamedSpec.pre6 enc Try.prog Try.f7 Rows.hallsNamedRow.domain false) (Rows.hallsNamedSpec.post enc Try.prog Try.f7 false true false false) := by
  refine returnsInHanded_of_change_sized (C := Try.checked) own started (by kernel_rfl) Try.func7
    (ChangeSpec.witness6 (enc := enc) (C := Try.checked) false ⟨#[], #[.agg #[.slice none 0 0, .int .i64 0], .int .u8 0], []⟩ 8 (by kernel_rfl) (by kernel_rfl) (by kernel_rfl) (by kernel_rfl)) ?_
  intro W base args ds gs before hval0 hW hcnd hsz0 _
  have hval : ∀ (j : Nat) t v, Try.f7.params[j]? = some t → args[j]? = some v → Value.okWide Try.prog W .any base t v := hval0
  have hW' := hW
  obtain ⟨p, q, hA0, hV, rfl, hfz, hnd⟩ := hW
  have hA : DataW.TrodAll enc Try.prog W 0 (fun _ => true) true Try.f7.params.toList args.toList ds p := hA0
  rw [Try.params7] at hA hval
  obtain ⟨v0, vs0, d0, ds0, p0, q0, hargs, rfl, rfl, h0, r0⟩ := trodAll_cons hA
  obtain ⟨v1, vs1, d1, ds1, p1, q1, rfl, rfl, rfl, h1, r1⟩ := trodAll_cons r0
  obtain ⟨rfl, rfl, rfl⟩ := trodAll_nil r1
  obtain rfl : args = #[v0, v1] := by cases args; simp_all
  have h0k := h0
  have hsz : (DataW.weightsEach Try.prog (Try.f7.params.toList ++ _) _).all (· ≤ reachBytes) = true := hsz0
  rw [Try.params7] at hsz
  obtain ⟨u0, m0, rfl, k0, a0, b0⟩ := arg_gr Try.underlying24 (by kernel_rfl) (by kernel_rfl) Try.underlying22 Try.underlying3 Try.underlying25 (by kernel_rfl) Try.underlying3 (by kernel_rfl) (hval 0 24 v0 rfl rfl) h0
  obtain ⟨x1, rfl, rfl, rfl, w1⟩ := open_int Try.underlying5 (hval 1 5 v1 rfl rfl) h1
  obtain ⟨y1, rfl, z1⟩ := fit_u8 w1
  have hreach : u0.n * 24 ≤ 140737488351232 := by
    have h5 := gr_sized (A := u0.A) (n := u0.n) (c := u0.c) Try.underlying24 (by kernel_rfl) (by kernel_rfl) Try.underlying22 h0k (fun k hk => by
      have h6 := List.all_eq_true.1 hsz k (DataW.weights_mem_each (j := 0) rfl rfl k hk)
      simpa using h6)
    rw [show Try.prog.bytesOf 25 = 24 by kernel_rfl] at h5
    exact h5
  have hwalk : Calls Try.prog 7 #[.agg #[u0.v, .int .i64 m0], .int .u8 y1] W fun e w' => e = .returned (.bool true) ∧ Below W.heap.size W w' := walk u0 m0 y1 W k0 a0 b0 z1 hreach
  refine hwalk.mono fun e W' ⟨he, hg⟩ => ?_
  subst he
  exact ⟨_, rfl, law_post laidOut (by kernel_rfl) hW' rfl rfl (by kernel_rfl) Try.underlying4 hg⟩

theorem over : Rows.hallsNamedRow.holds Try.pinned (OpenSpec.ofChange Rows.hallsNamedSpec) :=
  OpenClaim.holds_of_wide 7 Try.f7 rfl rfl rfl rfl rfl rfl rfl ⟨rfl, rfl, rfl, rfl, rfl⟩ rfl rfl rfl rfl rfl (by kernel_rfl) Try.func7 (by kernel_rfl)
    (of_decide_eq_true (by kernel_rfl)) (by unfold Func.isWrapper; first | (rw [if_pos (by decide +kernel)]; kernel_rfl) | (rw [if_neg (by decide +kernel)]; exact ⟨rfl, rfl⟩))
    (fun os started H enc _ => lifted os started H enc)

theorem proved : Rows.HallsNamedSaid :=
  over

end Go.Proofs.Ytdiklmfaehmmjaa.hallsNamed
