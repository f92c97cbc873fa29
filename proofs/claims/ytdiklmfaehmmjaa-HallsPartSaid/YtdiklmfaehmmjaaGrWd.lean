/-
  Walk of package graphs: Many.
-/
import Derived.Test.YtdiklmfaehmmjaaGrWc
namespace Go.Proofs.Ytdiklmfaehmmjaa
open Go.RowKit Go.Shelf
set_option linter.unusedVariables false
attribute [local go_sem] Oper.semAt_some

theorem hadTo_many (zs : List Int) : (hadTo zs zs.length).length = manyG zs := by
  have h : ∀ k, k ≤ zs.length → (hadTo zs k).length = manyG (zs.take k) := by
    intro k
    induction k with
    | zero => intro _; rw [hadTo_zero, List.take_zero]; rfl
    | succ k ih =>
      intro hk
      have hg : zs.getD k (-1) = zs[k] := by rw [List.getD_eq_getElem?_getD, List.getElem?_eq_getElem (by omega)]; rfl
      rw [manyG_take (by omega), ← ih (by omega)]
      by_cases hz : zs[k] = -1
      · rw [hadTo_none (by rw [hg]; exact hz), if_neg (by simp [hz])]; rfl
      · rw [hadTo_some (by rw [hg]; exact hz), if_pos hz, List.length_append]; rfl
  rw [h _ (Nat.le_refl _), List.take_length]

set_option maxRecDepth 100000 in
set_option maxHeartbeats 1000000 in
theorem gmanyC : ManyC 20 := by
  intro u w hu
  have hl := hu.len
  have tn := Nat.le_trans hu.cap hu.top
  unfold maxLen at tn
  have HL := Lib.hid hl
  clear hl
  refine (callsIn_wide (n := 3)).1 ?_
  refine callsIn_of_wp_marks Try.func20 rfl trivial ?_ rfl
  have hhad := had_any u (w.alloc (.cells #[.int .i64 0] 3))
  unfold Ls.v at hhad ⊢
  simp only [Try.ntmps20, List.size_toArray, List.length_cons, List.length_nil, Nat.reduceAdd, Nat.reduceSub, Array.replicate_succ, Array.replicate_zero, List.push_toArray, List.append_toArray, List.nil_append, List.cons_append]
  refine wpIn_wide.2 ?_
  go_wp2_with fail
  refine hhad.mono ?_
  rintro e w' ⟨rfl, rfl⟩
  go_wp2
  refine (wpIn_wide (n := 3)).1 ?_
  have hB0 : Below w.heap.size w ((w.alloc (.cells #[.int .i64 0] 3)).alloc (.cells #[.slice u.A u.n u.c] 25)) := ((Below.refl _ w).alloc (Nat.le_refl _) _).alloc (by simp) _
  have b0 : Boxed ((w.alloc (.cells #[.int .i64 0] 3)).alloc (.cells #[.slice u.A u.n u.c] 25)) w.heap.size 3 (.int .i64 (([] : List (HadOf u.zs)).length : Int)) := (Boxed.new w _ _).alloc _
  have b1 := Boxed.new (w.alloc (.cells #[.int .i64 0] 3)) 25 (.slice u.A u.n u.c)
  rw [World.size_alloc] at b1
  generalize (w.alloc (.cells #[.int .i64 0] 3)).alloc (.cells #[.slice u.A u.n u.c] 25) = w1 at hB0 b0 b1 ⊢
  have hu1 := hu.below hB0
  refine wpIn_rangeFunc_ownG rfl (by omega) (gf := 39) (lb := #[.pointer (some ⟨w.heap.size + 1, 0, none⟩)]) rfl trivial (enters_of Try.func39 (by kernel_rfl) rfl)
    (had_stops 2 (by omega) (w.heap.size + 1) u w1 b1.lt b1.cell hu1) (fun h k a => k (h a)) (keepsK_b (fun a b h k => Ls.Ok.cel k h) w1) (Below.refl _ _) (fun _ => rfl)
    (fun pre W => Boxed W w.heap.size 3 (.int .i64 (pre.length : Int)) ∧ Below w.heap.size w W)
    (fun _ _ _ => False)
    (OwnFrom.and (Go.Own.from (boxed_own _ _ (fun pre : List (HadOf u.zs) => (.int .i64 (pre.length : Int)))) _) (ownFrom_below (Nat.le_refl _) hB0.size))
    (fun _ _ _ _ _ hs _ _ => hs)
    ⟨b0, hB0⟩
    (fun x => { tmps := #[.slice u.A u.n u.c, undef, .int .i64 0, .pointer (some ⟨w.heap.size, 0, none⟩), .slice u.A u.n u.c, .func (.func 39) #[] #[.pointer (some ⟨w.heap.size + 1, 0, none⟩)], .int .i64 (x.1.1 : Int), .int .i64 x.1.2, undef, undef, undef], defers := [] }) ?assign ?body ?done ?stop
  case assign =>
    intro l x W K hK
    simp only [encHad, List.zip_toArray, List.zip_cons_cons, List.zip_nil_right, List.foldl_toArray', List.foldl_cons, List.foldl_nil, List.size_toArray, List.setIfInBounds_toArray, List.set_cons_succ, List.set_cons_zero]
    gi_wp2
    exact hK
  case body =>
    rintro l pre x W ⟨hb, hB⟩ hlen
    have hc := hb.cell
    have hf := hb.frozen
    have hB2 := hB.setCell (p := ⟨w.heap.size, 0, none⟩) (Nat.le_refl _) (.int .i64 ((pre.length : Int) + 1))
    have hs : IntKind.i64.wrap ((pre.length : Int) + 1) = (pre.length : Int) + 1 := by rw [IntKind.wrap_i64]; omega
    gi_wp2
    refine ⟨(KeepsOthers.setCell _ _ _).from _, fun _ => hu.below hB2, ?_, hB2⟩
    have h2 := hb.set (.int .i64 ((pre.length : Int) + 1))
    rw [List.length_append]
    exact h2
  case done =>
    rintro D ys W hD hys ⟨hb, hB⟩ hK
    have hn : ys.length = manyG u.zs := by
      rw [← hadTo_many, HL.out, ← hys, List.length_map]
    rw [hn] at hb
    have hc := hb.cell
    go_wp2
    refine ⟨by simp, .inl ⟨_, _, rfl, run_takeDeferred hK, ?_⟩⟩
    exact ⟨_, results_tmp rfl _ _ _, rfl, hB.trans (belowK_b (w := w) (Nat.le_refl _) W D _ _ (Nat.le_trans hB0.size hD) hK rfl rfl)⟩
  case stop =>
    rintro D c pre W hD hsp h _
    exact h.elim
end Go.Proofs.Ytdiklmfaehmmjaa
