/-
  Walks of package demands: Of.
-/
import Derived.Test.YtjjaajmjcdihoaaDeWc
namespace Go.Proofs.Ytjjaajmjcdihoaa
open Go.RowKit Go.Shelf
set_option linter.unusedVariables false

set_option maxRecDepth 100000 in
set_option maxHeartbeats 1000000 in
theorem pofC : OfC 9 := by
  intro x y w hx hy
  unfold Ls.v
  have hXL := hx.len
  have hYL := hy.len
  have tx := Nat.le_trans hx.cap hx.top
  unfold maxLen at tx
  have hmay := dmay_any y w hy
  by_cases h1 : mayPr y.zs = true
  · rw [h1] at hmay
    by_cases h2 : x.zs = []
    · have hm : mayD x.zs y.zs = true := mayD_iff.2 ⟨h1, .inl h2⟩
      have hn0 : x.n = 0 := by rw [← hXL, h2]; rfl
      obtain ⟨e1, e2, e3, e4⟩ := de_ok hm
      have HE := Lib.hid (And.intro e1 (And.intro e2 (And.intro e3 e4)))
      have hmo := dmost_any x y w hx hy hm
      have g0 : ¬ (0 : Int) < (x.n : Int) := by omega
      clear hXL hYL h2 hn0 hm e1 e2 e3 e4 h1
      go_enter Try.func9, Try.ntmps9
      go_wp2_with fail
      refine hmay.mono ?_
      rintro e w2 ⟨rfl, rfl⟩
      go_wp2_with fail
      refine hmo.mono ?_
      rintro e w3 ⟨A, n, c, rfl, ho, hb⟩
      clear hmo hmay
      go_wp2
      refine bodyPost_ret (v := .tuple #[.slice A n c, .bool (gainD x.zs y.zs == 0), .int .i64 (gainD x.zs y.zs), .int .i64 0]) ?r1 rfl ?_
      case r1 => simp only [results, Try.results9]; go_simp
      refine ⟨A, n, c, ?_, ?_, hb⟩
      · rw [HE.out.1, HE.out.2.2.1, HE.out.2.2.2]; congr
      · rw [HE.out.2.1]; exact ho
    · have hn0 : 0 < x.n := by
        rw [← hXL]
        exact Nat.pos_of_ne_zero fun h => h2 (List.eq_nil_of_length_eq_zero h)
      have g0 : (0 : Int) < (x.n : Int) := by omega
      have hck := check_any x.A x.n x.c x.zs (y.n : Int) w hx.rd
      by_cases h3 : mayB x.zs (y.n : Int) = true
      · have hm : mayD x.zs y.zs = true := mayD_iff.2 ⟨h1, .inr (by rw [hYL]; exact h3)⟩
        obtain ⟨e1, e2, e3, e4⟩ := de_ok hm
        have HE := Lib.hid (And.intro e1 (And.intro e2 (And.intro e3 e4)))
        have HM := Lib.hid hm
        rw [h3] at hck
        clear hXL hYL h2 hn0 hm e1 e2 e3 e4 h1 h3
        go_enter Try.func9, Try.ntmps9
        go_wp2_with fail
        refine hmay.mono ?_
        rintro e w2 ⟨rfl, rfl⟩
        go_wp2_with fail
        refine hck.mono ?_
        rintro e w3 ⟨rfl, hb3⟩
        have hmo := dmost_any x y w3 (hx.below hb3) (hy.below hb3) HM.out
        clear hck hmay
        go_wp2_with fail
        refine hmo.mono ?_
        rintro e w4 ⟨A, n, c, rfl, ho, hb⟩
        clear hmo
        go_wp2
        refine bodyPost_ret (v := .tuple #[.slice A n c, .bool (gainD x.zs y.zs == 0), .int .i64 (gainD x.zs y.zs), .int .i64 0]) ?r2 rfl ?_
        case r2 => simp only [results, Try.results9]; go_simp
        refine ⟨A, n, c, ?_, ?_, hb3.trans (hb.mono hb3.size)⟩
        · rw [HE.out.1, HE.out.2.2.1, HE.out.2.2.2]; congr
        · rw [HE.out.2.1]; exact ho.mono hb3.size
      · have h3' : mayB x.zs (y.n : Int) = false := Bool.eq_false_iff.2 h3
        have hm : mayD x.zs y.zs = false := Bool.eq_false_iff.2 fun h => by
          rcases (mayD_iff.1 h).2 with h4 | h4
          · exact h2 h4
          · rw [hYL] at h4; exact h3 h4
        obtain ⟨e1, e2, e3, e4⟩ := de_bad hm
        have HE := Lib.hid (And.intro e1 (And.intro e2 (And.intro e3 e4)))
        rw [h3'] at hck
        clear hXL hYL h2 hn0 hm e1 e2 e3 e4 h1 h3 h3'
        go_enter Try.func9, Try.ntmps9
        go_wp2_with fail
        refine hmay.mono ?_
        rintro e w2 ⟨rfl, rfl⟩
        go_wp2_with fail
        refine hck.mono ?_
        rintro e w3 ⟨rfl, hb3⟩
        clear hck hmay
        go_wp2
        refine bodyPost_ret (v := .tuple #[.slice none 0 0, .bool false, .int .i64 0, .int .i64 1]) ?r3 rfl ?_
        case r3 => simp only [results, Try.results9]; go_simp
        refine ⟨none, 0, 0, ?_, ?_, hb3⟩
        · rw [HE.out.1, HE.out.2.2.1, HE.out.2.2.2]
        · rw [HE.out.2.1]; exact OwnI.nil _ _
  · have h1' : mayPr y.zs = false := Bool.eq_false_iff.2 h1
    have hm : mayD x.zs y.zs = false := Bool.eq_false_iff.2 fun h => h1 (mayD_iff.1 h).1
    obtain ⟨e1, e2, e3, e4⟩ := de_bad hm
    have HE := Lib.hid (And.intro e1 (And.intro e2 (And.intro e3 e4)))
    rw [h1'] at hmay
    clear hXL hYL hm e1 e2 e3 e4 h1 h1'
    go_enter Try.func9, Try.ntmps9
    go_wp2_with fail
    refine hmay.mono ?_
    rintro e w2 ⟨rfl, rfl⟩
    clear hmay
    go_wp2
    refine bodyPost_ret (v := .tuple #[.slice none 0 0, .bool false, .int .i64 0, .int .i64 1]) ?r4 rfl ?_
    case r4 => simp only [results, Try.results9]; go_simp
    refine ⟨none, 0, 0, ?_, ?_, Below.refl _ _⟩
    · rw [HE.out.1, HE.out.2.2.1, HE.out.2.2.2]
    · rw [HE.out.2.1]; exact OwnI.nil _ _
end Go.Proofs.Ytjjaajmjcdihoaa
