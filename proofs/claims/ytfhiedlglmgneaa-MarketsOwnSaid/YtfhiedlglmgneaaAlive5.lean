/-
  What the statements of layer 5 ask first: some answers that the document fixes, of a small market.
-/
import Derived.Test.YtfhiedlglmgneaaMarkW
namespace Go.Proofs.Ytfhiedlglmgneaa
open Go.RowKit
set_option linter.unusedVariables false

/-- The parts of the small market. -/
def small5 : List Int × List (List Int) × List Int := ([3, 1], [[5, 0], []], [1, 0])

set_option maxRecDepth 100000 in
set_option maxHeartbeats 1000000 in
theorem known_any (w : World) : Calls Try.prog 12 #[] w fun e w' => ∃ x : Mk, e = .returned x.v ∧ x.Ok w' ∧ x.parts = small5 ∧ x.n = 2 ∧ Below w.heap.size w w' := by
  have H : ∀ rc W, ((((w.alloc (.cells rc 25)).alloc (.cells #[.int .i64 3, .int .i64 1] 3)).alloc (.cells #[.int .i64 5, .int .i64 0] 3)).alloc (.cells #[.slice (some ⟨w.heap.size + 1 + 1, 0, none⟩) 2 2, .slice none 0 0] 22)).alloc (.cells #[.int .i64 1, .int .i64 0] 3) = W →
      Own W (w.heap.size + 1) 3 (some ⟨w.heap.size + 1, 0, none⟩) 2 2 (ci64 [3, 1]) ∧ Own W (w.heap.size + 1) 3 (some ⟨w.heap.size + 1 + 1, 0, none⟩) 2 2 (ci64 [5, 0]) ∧
      Own W (w.heap.size + 1) 22 (some ⟨w.heap.size + 1 + 1 + 1, 0, none⟩) 2 2 [.slice (some ⟨w.heap.size + 1 + 1, 0, none⟩) 2 2, .slice none 0 0] ∧ Own W (w.heap.size + 1) 3 (some ⟨w.heap.size + 1 + 1 + 1 + 1, 0, none⟩) 2 2 (ci64 [1, 0]) ∧ Below w.heap.size w W := by
    rintro rc _ rfl
    have hz : ∀ (v : World) (o1 : Obj), (v.alloc o1).heap.size = v.heap.size + 1 := fun v o1 => Array.size_push ..
    refine ⟨?_, ?_, ?_, ?_, ?_⟩
    · have h := Own.lit (B := w.heap.size + 1) (w.alloc (.cells rc 25)) 3 #[.int .i64 3, .int .i64 1] 2 (by rw [hz]; omega) rfl (by unfold maxLen; omega)
      rw [hz] at h
      exact ((h.alloc _).alloc _).alloc _
    · have h := Own.lit (B := w.heap.size + 1) ((w.alloc (.cells rc 25)).alloc (.cells #[.int .i64 3, .int .i64 1] 3)) 3 #[.int .i64 5, .int .i64 0] 2 (by rw [hz, hz]; omega) rfl (by unfold maxLen; omega)
      rw [hz, hz] at h
      exact (h.alloc _).alloc _
    · have h := Own.lit (B := w.heap.size + 1) (((w.alloc (.cells rc 25)).alloc (.cells #[.int .i64 3, .int .i64 1] 3)).alloc (.cells #[.int .i64 5, .int .i64 0] 3)) 22 #[.slice (some ⟨w.heap.size + 1 + 1, 0, none⟩) 2 2, .slice none 0 0] 2 (by rw [hz, hz, hz]; omega) rfl (by unfold maxLen; omega)
      rw [hz, hz, hz] at h
      exact h.alloc _
    · have h := Own.lit (B := w.heap.size + 1) ((((w.alloc (.cells rc 25)).alloc (.cells #[.int .i64 3, .int .i64 1] 3)).alloc (.cells #[.int .i64 5, .int .i64 0] 3)).alloc (.cells #[.slice (some ⟨w.heap.size + 1 + 1, 0, none⟩) 2 2, .slice none 0 0] 22)) 3 #[.int .i64 1, .int .i64 0] 2 (by rw [hz, hz, hz, hz]; omega) rfl (by unfold maxLen; omega)
      rw [hz, hz, hz, hz] at h
      exact h
    · exact (((((Below.refl _ w).alloc (Nat.le_refl _) _).alloc (by rw [hz]; omega) _).alloc (by rw [hz, hz]; omega) _).alloc (by rw [hz, hz, hz]; omega) _).alloc (by rw [hz, hz, hz, hz]; omega) _
  go_enter Try.func12, Try.ntmps12
  go_wp2
  (try simp only [Exit.inBlock, Exit.then])
  obtain ⟨o1, o2, o3, o4, hB⟩ := H #[.slice (some ⟨w.heap.size + 1, 0, none⟩) 2 2, .slice (some ⟨w.heap.size + 1 + 1 + 1, 0, none⟩) 2 2, .slice (some ⟨w.heap.size + 1 + 1 + 1 + 1, 0, none⟩) 2 2] _ rfl
  clear H
  refine bodyPost_ret (v := .agg #[.slice (some ⟨w.heap.size + 1, 0, none⟩) 2 2, .slice (some ⟨w.heap.size + 1 + 1 + 1, 0, none⟩) 2 2, .slice (some ⟨w.heap.size + 1 + 1 + 1 + 1, 0, none⟩) 2 2]) ?r rfl ?_
  case r =>
    simp only [results, Try.f12]
    go_simp
  refine ⟨⟨⟨some ⟨w.heap.size + 1, 0, none⟩, 2, 2, [3, 1]⟩, some ⟨w.heap.size + 1 + 1 + 1, 0, none⟩, 2, 2, [⟨some ⟨w.heap.size + 1 + 1, 0, none⟩, 2, 2, [5, 0]⟩, Ls.nil], ⟨some ⟨w.heap.size + 1 + 1 + 1 + 1, 0, none⟩, 2, 2, [1, 0]⟩⟩, rfl, ?_, rfl, rfl, hB⟩
  refine MkOwn.ok (B := w.heap.size + 1) ?_
  · refine ⟨⟨o1, by simp⟩, ⟨o4, by simp⟩, o3, ?_, ?_⟩
    · intro u hu
      simp only [List.mem_cons, List.not_mem_nil, or_false] at hu
      rcases hu with rfl | rfl
      · exact ⟨o2, by simp⟩
      · exact OwnI.nil _ _
    · simp [AptL, Blk, Ls.nil]

theorem small_may {x : Mk} (hp : x.parts = small5) : x.may = true := by
  have h := hp
  simp only [Mk.parts, small5, Prod.mk.injEq] at h
  rw [Mk.may, h.1, h.2.1, h.2.2]
  decide
theorem small_err {x : Mk} (hp : x.parts = small5) : x.err = 0 := by rw [Mk.err, small_may hp]; rfl
theorem small_gains {x : Mk} (hp : x.parts = small5) : x.gains = [[2, -1], [-1, -1]] := by
  have hm := small_may hp
  have h := hp
  simp only [Mk.parts, small5, Prod.mk.injEq] at h
  rw [Mk.gains, if_pos hm, h.1, h.2.1]
  decide
theorem small_bytes {x : Mk} (hp : x.parts = small5) : x.bytes = putM [3, 1] [[5, 0], []] [1, 0] := by
  have hm := small_may hp
  have h := hp
  simp only [Mk.parts, small5, Prod.mk.injEq] at h
  rw [Mk.bytes, if_pos hm, h.1, h.2.1, h.2.2]
theorem small_has {x : Mk} (hp : x.parts = small5) (hn : x.n = 2) (i : Int) : x.has i = decide (0 ≤ i ∧ i < 2) := by rw [Mk.has, small_may hp, hn]; simp
theorem small_less {x : Mk} (hp : x.parts = small5) (hn : x.n = 2) : x.less 0 = ([3, 1], [[], []], [1, 0]) ∧ x.lessErr 0 = 0 ∧ x.less 2 = ([], [], []) ∧ x.lessErr 2 = 1 := by
  have h := hp
  simp only [Mk.parts, small5, Prod.mk.injEq] at h
  refine ⟨?_, ?_, ?_, ?_⟩
  · rw [Mk.less, small_has hp hn, h.1, h.2.1, h.2.2]; decide
  · rw [Mk.lessErr, small_has hp hn]; decide
  · rw [Mk.less, small_has hp hn]; simp
  · rw [Mk.lessErr, small_has hp hn]; simp
theorem small_mayM : mayM [3, 1] [[5, 0], []] [1, 0] = true := by decide
theorem small_getE : getME (putM [3, 1] [[5, 0], []] [1, 0]) = 0 := getME_put small_mayM
theorem small_get : getM (putM [3, 1] [[5, 0], []] [1, 0]) = small5 := by
  have h := readM_put small_mayM []
  rw [List.append_nil] at h
  exact getM_good small_getE h
theorem none_getE : getME [] = 5 := by decide
theorem nil_may : Mk.nil.may = false := by decide

theorem lits_two (w : World) (a b c d : Int) (ha : -1000 ≤ a ∧ a ≤ 1000) (hb : -1000 ≤ b ∧ b ≤ 1000) (hc : -1000 ≤ c ∧ c ≤ 1000) (hd : -1000 ≤ d ∧ d ≤ 1000) :
    Lss (((w.alloc (.cells #[.int .i64 a, .int .i64 b] 3)).alloc (.cells #[.int .i64 c, .int .i64 d] 3)).alloc (.cells #[.slice (some ⟨w.heap.size, 0, none⟩) 2 2, .slice (some ⟨w.heap.size + 1, 0, none⟩) 2 2] 22)) (some ⟨w.heap.size + 1 + 1, 0, none⟩) 2 [⟨some ⟨w.heap.size, 0, none⟩, 2, 2, [a, b]⟩, ⟨some ⟨w.heap.size + 1, 0, none⟩, 2, 2, [c, d]⟩] ∧
    Below w.heap.size w (((w.alloc (.cells #[.int .i64 a, .int .i64 b] 3)).alloc (.cells #[.int .i64 c, .int .i64 d] 3)).alloc (.cells #[.slice (some ⟨w.heap.size, 0, none⟩) 2 2, .slice (some ⟨w.heap.size + 1, 0, none⟩) 2 2] 22)) := by
  have hz : ∀ (v : World) (o1 : Obj), (v.alloc o1).heap.size = v.heap.size + 1 := fun v o1 => Array.size_push ..
  have h1 := Own.lit (B := 0) w 3 #[.int .i64 a, .int .i64 b] 2 (Nat.zero_le _) rfl (by unfold maxLen; omega)
  have h2 := Own.lit (B := 0) (w.alloc (.cells #[.int .i64 a, .int .i64 b] 3)) 3 #[.int .i64 c, .int .i64 d] 2 (Nat.zero_le _) rfl (by unfold maxLen; omega)
  have h3 := Own.lit (B := 0) ((w.alloc (.cells #[.int .i64 a, .int .i64 b] 3)).alloc (.cells #[.int .i64 c, .int .i64 d] 3)) 22 #[.slice (some ⟨w.heap.size, 0, none⟩) 2 2, .slice (some ⟨w.heap.size + 1, 0, none⟩) 2 2] 2 (Nat.zero_le _) rfl (by unfold maxLen; omega)
  rw [hz] at h2
  rw [hz, hz] at h3
  refine ⟨⟨outs_at h3, ?_⟩, (((Below.refl _ w).alloc (Nat.le_refl _) _).alloc (by rw [hz]; omega) _).alloc (by rw [hz, hz]; omega) _⟩
  intro u hu
  simp only [List.mem_cons, List.not_mem_nil, or_false] at hu
  rcases hu with rfl | rfl
  · refine OwnI.ok (B := 0) ⟨(h1.alloc _).alloc _, ?_⟩
    intro z hz'
    simp only [List.mem_cons, List.not_mem_nil, or_false] at hz'
    rcases hz' with rfl | rfl <;> omega
  · refine OwnI.ok (B := 0) ⟨h2.alloc _, ?_⟩
    intro z hz'
    simp only [List.mem_cons, List.not_mem_nil, or_false] at hz'
    rcases hz' with rfl | rfl <;> omega
theorem lits_nil (w : World) : Lss (w.alloc (.cells #[.slice none 0 0, .slice none 0 0] 22)) (some ⟨w.heap.size, 0, none⟩) 2 [Ls.nil, Ls.nil] ∧ Below w.heap.size w (w.alloc (.cells #[.slice none 0 0, .slice none 0 0] 22)) := by
  have h3 := Own.lit (B := 0) w 22 #[.slice none 0 0, .slice none 0 0] 2 (Nat.zero_le _) rfl (by unfold maxLen; omega)
  refine ⟨⟨outs_at h3, ?_⟩, (Below.refl _ w).alloc (Nat.le_refl _) _⟩
  intro u hu
  simp only [List.mem_cons, List.not_mem_nil, or_false, or_self] at hu
  subst hu
  exact (OwnI.nil _ 0).ok

set_option maxRecDepth 100000 in
set_option maxHeartbeats 4000000 in
theorem alive5_any (w : World) : Calls Try.prog 5 #[] w fun e w' => e = .returned (.bool true) ∧ Below w.heap.size w w' := by
  go_enter Try.func5, Try.ntmps5
  go_wp2_with fail
  refine (known_any w).mono ?_
  rintro e w1 ⟨x, rfl, hx, hp, hn, hB⟩
  have HP := Lib.hid hp
  have HN := Lib.hid hn
  obtain ⟨s1, s2, s3, s4⟩ := small_less hp hn
  have S1 := Lib.hid s1
  have S2 := Lib.hid s2
  have S3 := Lib.hid s3
  have S4 := Lib.hid s4
  clear hp hn s1 s2 s3 s4
  have v_x : x.v = .agg #[.slice x.r.A x.r.n x.r.c, .slice x.A x.n x.c, .slice x.o.A x.o.n x.o.c] := rfl
  have Vx := Lib.hid v_x
  clear v_x
  rw [Vx.out]
  have bx := InBox.new w1 x
  have hbx : Below w1.heap.size w1 (w1.alloc (.cells #[.slice x.r.A x.r.n x.r.c, .slice x.A x.n x.c, .slice x.o.A x.o.n x.o.c] 25)) := (Below.refl _ w1).alloc (Nat.le_refl _) _
  replace hx := hx.below hbx
  replace hB := hB.trans (hbx.mono hB.size)
  clear hbx
  have ex0 := bx.c0
  have ex1 := bx.c1
  have ex2 := bx.c2
  have hc := mgainsC x (w1.alloc (.cells #[.slice x.r.A x.r.n x.r.c, .slice x.A x.n x.c, .slice x.o.A x.o.n x.o.c] 25)) hx
  rw [small_err HP.out, small_gains HP.out, Vx.out] at hc
  go_wp2_with fail
  clear ex0 ex1 ex2
  generalize w1.alloc (.cells #[.slice x.r.A x.r.n x.r.c, .slice x.A x.n x.c, .slice x.o.A x.o.n x.o.c] 25) = W2 at *
  refine hc.mono ?_
  rintro e v3 ⟨A2, n2, c2, rfl, t2, ht2, hg2, hb⟩
  clear hc
  replace hx := hx.below hb
  replace bx := bx.below hb
  replace hB := hB.trans (hb.mono hB.size)
  clear hb
  have HG2 := Lib.hid hg2
  clear hg2
  have ex0 := bx.c0
  have ex1 := bx.c1
  have ex2 := bx.c2
  have hc := mwithoutC x 0 v3 hx (by omega) (by omega)
  rw [S1.out, S2.out, Vx.out] at hc
  go_wp2_with fail
  clear ex0 ex1 ex2
  refine hc.mono ?_
  rintro e v4 ⟨y1, rfl, hy1, hq1, hb⟩
  clear hc
  replace hx := hx.below hb
  replace ht2 := ht2.below hb
  replace bx := bx.below hb
  replace hB := hB.trans (hb.mono hB.size)
  clear hb
  have v_y1 : y1.v = .agg #[.slice y1.r.A y1.r.n y1.r.c, .slice y1.A y1.n y1.c, .slice y1.o.A y1.o.n y1.o.c] := rfl
  have Vy1 := Lib.hid v_y1
  clear v_y1
  rw [Vy1.out]
  have HQ1 := Lib.hid hq1
  clear hq1
  have b1 := InBox.new v4 y1
  have hbx : Below v4.heap.size v4 (v4.alloc (.cells #[.slice y1.r.A y1.r.n y1.r.c, .slice y1.A y1.n y1.c, .slice y1.o.A y1.o.n y1.o.c] 25)) := (Below.refl _ v4).alloc (Nat.le_refl _) _
  replace hx := hx.below hbx
  replace ht2 := ht2.below hbx
  replace hy1 := hy1.below hbx
  replace bx := bx.below hbx
  replace hB := hB.trans (hbx.mono hB.size)
  clear hbx
  have ex0 := bx.c0
  have ex1 := bx.c1
  have ex2 := bx.c2
  have ea0 := b1.c0
  have ea1 := b1.c1
  have ea2 := b1.c2
  have hc := mputC x (v4.alloc (.cells #[.slice y1.r.A y1.r.n y1.r.c, .slice y1.A y1.n y1.c, .slice y1.o.A y1.o.n y1.o.c] 25)) hx
  rw [small_err HP.out, small_bytes HP.out, Vx.out] at hc
  go_wp2_with fail
  clear ex0 ex1 ex2
  clear ea0 ea1 ea2
  generalize v4.alloc (.cells #[.slice y1.r.A y1.r.n y1.r.c, .slice y1.A y1.n y1.c, .slice y1.o.A y1.o.n y1.o.c] 25) = W5 at *
  refine hc.mono ?_
  rintro e v6 ⟨A3, n3, c3, rfl, ho3, hb⟩
  clear hc
  replace hx := hx.below hb
  replace ht2 := ht2.below hb
  replace hy1 := hy1.below hb
  replace bx := bx.below hb
  replace b1 := b1.below hb
  replace hB := hB.trans (hb.mono hB.size)
  clear hb
  have k3 := ho3.le
  have k4 := ho3.cap
  have k5 : n3 ≤ 1000000 := by
    have h := ho3.len
    rw [cu8_len] at h
    rw [← h]
    decide
  have ex0 := bx.c0
  have ex1 := bx.c1
  have ex2 := bx.c2
  have ea0 := b1.c0
  have ea1 := b1.c1
  have ea2 := b1.c2
  have hc := mgetC A3 n3 c3 _ v6 ho3.rd k3 k4 k5
  rw [small_getE, small_get] at hc
  go_wp2_with fail
  clear ex0 ex1 ex2
  clear ea0 ea1 ea2
  refine hc.mono ?_
  rintro e v7 ⟨y2, rfl, hy2, hq2, hb⟩
  clear hc
  replace hx := hx.below hb
  replace ht2 := ht2.below hb
  replace hy1 := hy1.below hb
  replace ho3 := ho3.below hb
  replace bx := bx.below hb
  replace b1 := b1.below hb
  replace hB := hB.trans (hb.mono hB.size)
  clear hb
  have v_y2 : y2.v = .agg #[.slice y2.r.A y2.r.n y2.r.c, .slice y2.A y2.n y2.c, .slice y2.o.A y2.o.n y2.o.c] := rfl
  have Vy2 := Lib.hid v_y2
  clear v_y2
  rw [Vy2.out]
  have HQ2 := Lib.hid hq2
  clear hq2
  have b2 := InBox.new v7 y2
  have hbx : Below v7.heap.size v7 (v7.alloc (.cells #[.slice y2.r.A y2.r.n y2.r.c, .slice y2.A y2.n y2.c, .slice y2.o.A y2.o.n y2.o.c] 25)) := (Below.refl _ v7).alloc (Nat.le_refl _) _
  replace hx := hx.below hbx
  replace ht2 := ht2.below hbx
  replace hy1 := hy1.below hbx
  replace ho3 := ho3.below hbx
  replace hy2 := hy2.below hbx
  replace bx := bx.below hbx
  replace b1 := b1.below hbx
  replace hB := hB.trans (hbx.mono hB.size)
  clear hbx
  have ex0 := bx.c0
  have ex1 := bx.c1
  have ex2 := bx.c2
  have ea0 := b1.c0
  have ea1 := b1.c1
  have ea2 := b1.c2
  have eb0 := b2.c0
  have eb1 := b2.c1
  have eb2 := b2.c2
  have hc := mgetC none 0 0 [] (v7.alloc (.cells #[.slice y2.r.A y2.r.n y2.r.c, .slice y2.A y2.n y2.c, .slice y2.o.A y2.o.n y2.o.c] 25)) (Rd.nil _ _) (Nat.le_refl _) (Nat.zero_le _) (Nat.zero_le _)
  rw [none_getE] at hc
  go_wp2_with fail
  clear ex0 ex1 ex2
  clear ea0 ea1 ea2
  clear eb0 eb1 eb2
  generalize v7.alloc (.cells #[.slice y2.r.A y2.r.n y2.r.c, .slice y2.A y2.n y2.c, .slice y2.o.A y2.o.n y2.o.c] 25) = W8 at *
  refine hc.mono ?_
  rintro e v9 ⟨y3, rfl, hy3, hq3, hb⟩
  clear hc
  replace hx := hx.below hb
  replace ht2 := ht2.below hb
  replace hy1 := hy1.below hb
  replace ho3 := ho3.below hb
  replace hy2 := hy2.below hb
  replace bx := bx.below hb
  replace b1 := b1.below hb
  replace b2 := b2.below hb
  replace hB := hB.trans (hb.mono hB.size)
  clear hb
  clear hq3
  have v_y3 : y3.v = .agg #[.slice y3.r.A y3.r.n y3.r.c, .slice y3.A y3.n y3.c, .slice y3.o.A y3.o.n y3.o.c] := rfl
  have Vy3 := Lib.hid v_y3
  clear v_y3
  rw [Vy3.out]
  have b3 := InBox.new v9 y3
  have hbx : Below v9.heap.size v9 (v9.alloc (.cells #[.slice y3.r.A y3.r.n y3.r.c, .slice y3.A y3.n y3.c, .slice y3.o.A y3.o.n y3.o.c] 25)) := (Below.refl _ v9).alloc (Nat.le_refl _) _
  replace hx := hx.below hbx
  replace ht2 := ht2.below hbx
  replace hy1 := hy1.below hbx
  replace ho3 := ho3.below hbx
  replace hy2 := hy2.below hbx
  replace hy3 := hy3.below hbx
  replace bx := bx.below hbx
  replace b1 := b1.below hbx
  replace b2 := b2.below hbx
  replace hB := hB.trans (hbx.mono hB.size)
  clear hbx
  have ex0 := bx.c0
  have ex1 := bx.c1
  have ex2 := bx.c2
  have ea0 := b1.c0
  have ea1 := b1.c1
  have ea2 := b1.c2
  have eb0 := b2.c0
  have eb1 := b2.c1
  have eb2 := b2.c2
  have ec0 := b3.c0
  have ec1 := b3.c1
  have ec2 := b3.c2
  have hc := mwithoutC x 2 (v9.alloc (.cells #[.slice y3.r.A y3.r.n y3.r.c, .slice y3.A y3.n y3.c, .slice y3.o.A y3.o.n y3.o.c] 25)) hx (by omega) (by omega)
  rw [S3.out, S4.out, Vx.out] at hc
  go_wp2_with fail
  clear ex0 ex1 ex2
  clear ea0 ea1 ea2
  clear eb0 eb1 eb2
  clear ec0 ec1 ec2
  generalize v9.alloc (.cells #[.slice y3.r.A y3.r.n y3.r.c, .slice y3.A y3.n y3.c, .slice y3.o.A y3.o.n y3.o.c] 25) = W10 at *
  refine hc.mono ?_
  rintro e v11 ⟨y4, rfl, hy4, hq4, hb⟩
  clear hc
  replace hx := hx.below hb
  replace ht2 := ht2.below hb
  replace hy1 := hy1.below hb
  replace ho3 := ho3.below hb
  replace hy2 := hy2.below hb
  replace hy3 := hy3.below hb
  replace bx := bx.below hb
  replace b1 := b1.below hb
  replace b2 := b2.below hb
  replace b3 := b3.below hb
  replace hB := hB.trans (hb.mono hB.size)
  clear hb
  clear hq4
  have v_y4 : y4.v = .agg #[.slice y4.r.A y4.r.n y4.r.c, .slice y4.A y4.n y4.c, .slice y4.o.A y4.o.n y4.o.c] := rfl
  have Vy4 := Lib.hid v_y4
  clear v_y4
  rw [Vy4.out]
  have b4 := InBox.new v11 y4
  have hbx : Below v11.heap.size v11 (v11.alloc (.cells #[.slice y4.r.A y4.r.n y4.r.c, .slice y4.A y4.n y4.c, .slice y4.o.A y4.o.n y4.o.c] 25)) := (Below.refl _ v11).alloc (Nat.le_refl _) _
  replace hx := hx.below hbx
  replace ht2 := ht2.below hbx
  replace hy1 := hy1.below hbx
  replace ho3 := ho3.below hbx
  replace hy2 := hy2.below hbx
  replace hy3 := hy3.below hbx
  replace hy4 := hy4.below hbx
  replace bx := bx.below hbx
  replace b1 := b1.below hbx
  replace b2 := b2.below hbx
  replace b3 := b3.below hbx
  replace hB := hB.trans (hbx.mono hB.size)
  clear hbx
  have ex0 := bx.c0
  have ex1 := bx.c1
  have ex2 := bx.c2
  have ea0 := b1.c0
  have ea1 := b1.c1
  have ea2 := b1.c2
  have eb0 := b2.c0
  have eb1 := b2.c1
  have eb2 := b2.c2
  have ec0 := b3.c0
  have ec1 := b3.c1
  have ec2 := b3.c2
  have ed0 := b4.c0
  have ed1 := b4.c1
  have ed2 := b4.c2
  have hc := mcheckC x (v11.alloc (.cells #[.slice y4.r.A y4.r.n y4.r.c, .slice y4.A y4.n y4.c, .slice y4.o.A y4.o.n y4.o.c] 25)) hx
  rw [small_may HP.out, Vx.out] at hc
  go_wp2_with fail
  clear ex0 ex1 ex2
  clear ea0 ea1 ea2
  clear eb0 eb1 eb2
  clear ec0 ec1 ec2
  clear ed0 ed1 ed2
  generalize v11.alloc (.cells #[.slice y4.r.A y4.r.n y4.r.c, .slice y4.A y4.n y4.c, .slice y4.o.A y4.o.n y4.o.c] 25) = W12 at *
  refine hc.mono ?_
  rintro e v13 ⟨rfl, hb⟩
  clear hc
  replace hx := hx.below hb
  replace ht2 := ht2.below hb
  replace hy1 := hy1.below hb
  replace ho3 := ho3.below hb
  replace hy2 := hy2.below hb
  replace hy3 := hy3.below hb
  replace hy4 := hy4.below hb
  replace bx := bx.below hb
  replace b1 := b1.below hb
  replace b2 := b2.below hb
  replace b3 := b3.below hb
  replace b4 := b4.below hb
  replace hB := hB.trans (hb.mono hB.size)
  clear hb
  have ex0 := bx.c0
  have ex1 := bx.c1
  have ex2 := bx.c2
  have ea0 := b1.c0
  have ea1 := b1.c1
  have ea2 := b1.c2
  have eb0 := b2.c0
  have eb1 := b2.c1
  have eb2 := b2.c2
  have ec0 := b3.c0
  have ec1 := b3.c1
  have ec2 := b3.c2
  have ed0 := b4.c0
  have ed1 := b4.c1
  have ed2 := b4.c2
  obtain ⟨hl, hbl⟩ := lits_two v13 2 (-1) (-1) (-1) (by omega) (by omega) (by omega) (by omega)
  go_wp2_with fail
  clear ex0 ex1 ex2
  clear ea0 ea1 ea2
  clear eb0 eb1 eb2
  clear ec0 ec1 ec2
  clear ed0 ed1 ed2
  generalize ((v13.alloc (.cells #[.int .i64 2, .int .i64 (-1)] 3)).alloc (.cells #[.int .i64 (-1), .int .i64 (-1)] 3)).alloc (.cells #[.slice (some ⟨v13.heap.size, 0, none⟩) 2 2, .slice (some ⟨v13.heap.size + 1, 0, none⟩) 2 2] 22) = u1 at hl hbl ⊢
  replace hx := hx.below hbl
  replace ht2 := ht2.below hbl
  replace hy1 := hy1.below hbl
  replace ho3 := ho3.below hbl
  replace hy2 := hy2.below hbl
  replace hy3 := hy3.below hbl
  replace hy4 := hy4.below hbl
  replace bx := bx.below hbl
  replace b1 := b1.below hbl
  replace b2 := b2.below hbl
  replace b3 := b3.below hbl
  replace b4 := b4.below hbl
  replace hB := hB.trans (hbl.mono hB.size)
  clear hbl
  have hc := sameintlists A2 n2 c2 t2 _ 2 2 _ u1 ht2.lss hl (Nat.le_trans ht2.own.le ht2.own.cap)
  rw [show (Ls.all t2 == _) = true by rw [HG2.out]; rfl] at hc
  refine hc.mono ?_
  rintro e u1' ⟨rfl, qq, hqq⟩
  clear hc hl
  have hb : Below u1.heap.size u1 u1' := by rw [hqq]; exact belowN (Below.refl _ _) _
  clear hqq
  replace hx := hx.below hb
  replace ht2 := ht2.below hb
  replace hy1 := hy1.below hb
  replace ho3 := ho3.below hb
  replace hy2 := hy2.below hb
  replace hy3 := hy3.below hb
  replace hy4 := hy4.below hb
  replace bx := bx.below hb
  replace b1 := b1.below hb
  replace b2 := b2.below hb
  replace b3 := b3.below hb
  replace b4 := b4.below hb
  replace hB := hB.trans (hb.mono hB.size)
  clear hb
  have ex0 := bx.c0
  have ex1 := bx.c1
  have ex2 := bx.c2
  have ea0 := b1.c0
  have ea1 := b1.c1
  have ea2 := b1.c2
  have eb0 := b2.c0
  have eb1 := b2.c1
  have eb2 := b2.c2
  have ec0 := b3.c0
  have ec1 := b3.c1
  have ec2 := b3.c2
  have ed0 := b4.c0
  have ed1 := b4.c1
  have ed2 := b4.c2
  obtain ⟨hl, hbl⟩ := lits_nil u1' 
  go_wp2_with fail
  clear ex0 ex1 ex2
  clear ea0 ea1 ea2
  clear eb0 eb1 eb2
  clear ec0 ec1 ec2
  clear ed0 ed1 ed2
  generalize u1'.alloc (.cells #[.slice none 0 0, .slice none 0 0] 22) = u2 at hl hbl ⊢
  replace hx := hx.below hbl
  replace ht2 := ht2.below hbl
  replace hy1 := hy1.below hbl
  replace ho3 := ho3.below hbl
  replace hy2 := hy2.below hbl
  replace hy3 := hy3.below hbl
  replace hy4 := hy4.below hbl
  replace bx := bx.below hbl
  replace b1 := b1.below hbl
  replace b2 := b2.below hbl
  replace b3 := b3.below hbl
  replace b4 := b4.below hbl
  replace hB := hB.trans (hbl.mono hB.size)
  clear hbl
  have hc := sameintlists y1.A y1.n y1.c y1.b _ 2 2 _ u2 hy1.ok.lss hl (Nat.le_trans hy1.b.le hy1.b.cap)
  rw [show (Ls.all y1.b == _) = true by rw [show Ls.all y1.b = [[], []] from congrArg (fun p => p.2.1) HQ1.out]; rfl] at hc
  refine hc.mono ?_
  rintro e u2' ⟨rfl, qq, hqq⟩
  clear hc hl
  have hb : Below u2.heap.size u2 u2' := by rw [hqq]; exact belowN (Below.refl _ _) _
  clear hqq
  replace hx := hx.below hb
  replace ht2 := ht2.below hb
  replace hy1 := hy1.below hb
  replace ho3 := ho3.below hb
  replace hy2 := hy2.below hb
  replace hy3 := hy3.below hb
  replace hy4 := hy4.below hb
  replace bx := bx.below hb
  replace b1 := b1.below hb
  replace b2 := b2.below hb
  replace b3 := b3.below hb
  replace b4 := b4.below hb
  replace hB := hB.trans (hb.mono hB.size)
  clear hb
  have ex0 := bx.c0
  have ex1 := bx.c1
  have ex2 := bx.c2
  have ea0 := b1.c0
  have ea1 := b1.c1
  have ea2 := b1.c2
  have eb0 := b2.c0
  have eb1 := b2.c1
  have eb2 := b2.c2
  have ec0 := b3.c0
  have ec1 := b3.c1
  have ec2 := b3.c2
  have ed0 := b4.c0
  have ed1 := b4.c1
  have ed2 := b4.c2
  have hc := samemarket x y2 u2' hx hy2.ok
  rw [show (x.r.zs == y2.r.zs && (Ls.all x.b == Ls.all y2.b && x.o.zs == y2.o.zs)) = true by
      have h := HP.out.trans HQ2.out.symm
      simp only [Mk.parts, Prod.mk.injEq] at h
      rw [h.1, h.2.1, h.2.2]
      simp, Vx.out, Vy2.out] at hc
  go_wp2_with fail
  clear ex0 ex1 ex2
  clear ea0 ea1 ea2
  clear eb0 eb1 eb2
  clear ec0 ec1 ec2
  clear ed0 ed1 ed2
  refine hc.mono ?_
  rintro e u3 ⟨rfl, hb⟩
  clear hc
  replace hB := hB.trans (hb.mono hB.size)
  clear hb hx ht2 hy1 hy2 hy3 hy4 ho3 bx b1 b2 b3 b4
  have hc := mcheckC Mk.nil u3 (MkOwn.nil u3 0).ok
  rw [nil_may] at hc
  go_wp2_with fail
  refine hc.mono ?_
  rintro e u4 ⟨rfl, hb⟩
  replace hB := hB.trans (hb.mono hB.size)
  go_wp2
  go_ret
  exact ⟨rfl, hB⟩
end Go.Proofs.Ytfhiedlglmgneaa
