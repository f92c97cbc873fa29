/-
  Proved: salesroomlaw05.MarketsCheck answers true, for any market, in whatever memory. No conditions.
-/
import Derived.Test.YtoogldllcgbmdaaRows
import Derived.Test.YtoogldllcgbmdaaLift
import Derived.Test.YtoogldllcgbmdaaAlive5
import Derived.Test.YtoogldllcgbmdaaSizes
import Derived.Deep.CutRange
namespace Go.Proofs.Ytoogldllcgbmdaa.marketsCheck
open Go.ChangeShapes Go.WideShapes Go.ChangeAt Go.RowKit
set_option linter.unusedVariables false

/-- The first i of the order are bidders, and no two of them are the same. -/
def Upto (o : List Int) (n i : Nat) : Prop := ∀ a, a < i → (0 ≤ o.getD a 0 ∧ o.getD a 0 < (n : Int)) ∧ ∀ b, b < a → o.getD a 0 ≠ o.getD b 0
theorem Upto.zero (o : List Int) (n : Nat) : Upto o n 0 := fun a ha => absurd ha (Nat.not_lt_zero a)
theorem Upto.step {o : List Int} {n i : Nat} : Upto o n (i + 1) ↔ Upto o n i ∧ (0 ≤ o.getD i 0 ∧ o.getD i 0 < (n : Int)) ∧ ∀ b, b < i → o.getD i 0 ≠ o.getD b 0 := by
  constructor
  · intro h
    exact ⟨fun a ha => h a (by omega), h i (by omega)⟩
  · rintro ⟨h1, h2⟩ a ha
    by_cases h : a = i
    · subst h; exact h2
    · exact h1 a (by omega)
theorem upto_order {o : List Int} {n : Nat} (hl : o.length = n) : Upto o n o.length ↔ ∀ i, i < n → times o (i : Nat) = 1 := by
  rw [order_iff hl]
  have hg : ∀ a (h : a < o.length), o.getD a 0 = o[a] := fun a h => by rw [List.getD_eq_getElem?_getD, List.getElem?_eq_getElem h]; rfl
  constructor
  · intro h i hi
    have h1 := h i hi
    rw [hg i hi] at h1
    refine ⟨h1.1, fun k hk => ?_⟩
    have h2 := h1.2 k hk
    rw [hg k (by omega)] at h2
    exact h2
  · intro h a ha
    rw [hg a ha]
    refine ⟨(h a ha).1, fun b hb => ?_⟩
    rw [hg b (by omega)]
    exact (h a ha).2 b hb
/-- What stands ahead of the loops. -/
def Ahead (x : Mk) : Prop := mayB x.r.zs x.r.n = true ∧ 1 ≤ x.n ∧ x.n ≤ 8 ∧ x.o.n = x.n
/-- A truth value tells this. -/
structure Kept (c : Bool) (P : Prop) : Prop where
  h : c = true ↔ P
def AllB (x : Mk) (j : Nat) : Prop := Ahead x ∧ ∀ l ∈ (Ls.all x.b).take j, bidB l x.r.n = true
def AllU (x : Mk) (o : List Int) (i : Nat) : Prop := AllB x x.n ∧ Upto o x.n i
def InR (c : Bool) (z : Int) (n : Nat) : Prop := c = true ∧ 0 ≤ z ∧ z < (n : Int)
def NeB (c : Bool) (z : Int) (o : List Int) (m : Nat) : Prop := c = true ∧ ∀ b, b < m → z ≠ o.getD b 0
theorem may_of {x : Mk} {w : World} (h : x.Ok w) : x.may = true ↔ AllU x x.o.zs x.o.n := by
  have hfull : (Ls.all x.b).take x.n = Ls.all x.b := List.take_of_length_le (by rw [Ls.all, List.length_map, h.len]; exact Nat.le_refl _)
  unfold AllU AllB
  rw [hfull]
  have hbl : (Ls.all x.b).length = x.n := by rw [Ls.all, List.length_map]; exact h.len
  rw [Mk.may, mayM_iff, hbl, h.r.len, h.o.len]
  unfold Ahead
  constructor
  · rintro ⟨h1, ⟨h2, h3, h4⟩, h5, h6⟩
    refine ⟨⟨⟨h1, h2, h3, h4⟩, h5⟩, ?_⟩
    have h7 := (upto_order (o := x.o.zs) (n := x.n) (by rw [h.o.len]; exact h4)).2 h6
    rw [h.o.len] at h7
    exact h7
  · rintro ⟨⟨⟨h1, h2, h3, h4⟩, h5⟩, h6⟩
    refine ⟨h1, ⟨h2, h3, h4⟩, h5, ?_⟩
    refine (upto_order (o := x.o.zs) (n := x.n) (by rw [h.o.len]; exact h4)).1 ?_
    rw [h.o.len]
    exact h6

set_option maxRecDepth 100000 in
set_option maxHeartbeats 4000000 in
theorem walk (x : Mk) (w : World) (h : x.Ok w) :
    Calls Try.prog 5 #[x.v] w fun e w' => e = .returned (.bool true) ∧ Below w.heap.size w w' := by
  have hxv : x.v = .agg #[.slice x.r.A x.r.n x.r.c, .slice x.A x.n x.c, .slice x.o.A x.o.n x.o.c] := rfl
  have Vx := Lib.hid hxv
  have hbox := InBox.new w x
  have hBW : Below w.heap.size w (w.alloc (.cells #[.slice x.r.A x.r.n x.r.c, .slice x.A x.n x.c, .slice x.o.A x.o.n x.o.c] 25)) := (Below.refl _ w).alloc (Nat.le_refl _) _
  have hsz := marketsize_some x _ (h.below hBW)
  rw [hxv] at hsz
  rw [hxv]
  have hrd := h.r.rd
  have hod := h.o.rd
  obtain ⟨o, ho0⟩ : ∃ o, o = x.o.zs := ⟨_, rfl⟩
  have HOZ := Lib.hid ho0
  have hol : o.length = x.o.n := by rw [ho0]; exact h.o.len
  have HOL := Lib.hid hol
  rw [← ho0] at hod
  have tn := Nat.le_trans h.cap h.top
  have tq := Nat.le_trans h.o.cap h.o.top
  have tr := Nat.le_trans h.r.cap h.r.top
  unfold maxLen at tn tq tr
  clear hxv ho0 hol
  go_enter Try.func5, Try.ntmps5
  go_wp2_with fail
  refine hsz.mono ?_
  rintro e w0 ⟨z, rfl, hb0⟩
  have hB0 := hBW.trans (hb0.mono hBW.size)
  have hbox0 := hbox.below hb0
  clear hsz hb0 hbox hBW
  have ⟨c0, c1, c2, clt⟩ := hbox0
  by_cases hz3 : 3000 < z
  · have hz3' : decide (3000 < z) = true := decide_eq_true hz3
    go_wp2_with fail
    refine (alive5_any w0).mono ?_
    rintro e w2 ⟨rfl, hb2⟩
    have hB2 := hB0.trans (hb2.mono hB0.size)
    go_wp2
    go_ret
    exact ⟨rfl, hB2⟩
  · have hz3' : decide (3000 < z) = false := decide_eq_false hz3
    obtain ⟨β, hβ⟩ : ∃ β, mayB x.r.zs x.r.n = β := ⟨_, rfl⟩
    have hck := check_of x.r.A x.r.n x.r.c x.r.zs x.r.n w0 (hrd.below hB0) β hβ
    have HBE := Lib.hid hβ
    clear hβ
    go_upto_region 4 with fail
    go_cut [4] from 15 (fun v wx => ∃ c : Bool, v = .bool c ∧ Kept c (Ahead x) ∧ Below w0.heap.size w0 wx)
    case first =>
      go_wp2_with fail
      refine hck.mono ?_
      rintro e w1 ⟨rfl, hb1⟩
      clear c0 c1 c2 clt
      have ⟨c0, c1, c2, clt⟩ := hbox0.below hb1
      cases β
      · have hfx : Kept false (Ahead x) := ⟨by unfold Ahead; rw [HBE.out]; simp⟩
        go_wp2_with fail
        go_meet
        case rel => exact ⟨_, rfl, hfx, hb1⟩
      · by_cases q1 : 1 ≤ x.n
        · by_cases q2 : x.n ≤ 8
          · by_cases q3 : x.o.n = x.n
            · have q3' : ((x.o.n : Int) == (x.n : Int)) = true := by rw [beq_iff_eq]; omega
              have hfx : Kept true (Ahead x) := ⟨⟨fun _ => ⟨HBE.out, q1, q2, q3⟩, fun _ => rfl⟩⟩
              have Q3 := Lib.hid q3
              clear q3
              go_wp2_with fail
              go_meet
              case rel => exact ⟨_, rfl, hfx, hb1⟩
            · have q3' : ((x.o.n : Int) == (x.n : Int)) = false := by rw [beq_eq_false_iff_ne]; omega
              have hfx : Kept false (Ahead x) := ⟨⟨fun h => (by cases h), fun h => absurd h.2.2.2 q3⟩⟩
              have Q3 := Lib.hid q3
              clear q3
              go_wp2_with fail
              go_meet
              case rel => exact ⟨_, rfl, hfx, hb1⟩
          · have q2' : decide ((x.n : Int) ≤ 8) = false := decide_eq_false (by omega)
            have hfx : Kept false (Ahead x) := ⟨⟨fun h => (by cases h), fun h => absurd h.2.2.1 q2⟩⟩
            go_wp2_with fail
            go_meet
            case rel => exact ⟨_, rfl, hfx, hb1⟩
        · have q1' : decide ((1 : Int) ≤ (x.n : Int)) = false := decide_eq_false (by omega)
          have hfx : Kept false (Ahead x) := ⟨⟨fun h => (by cases h), fun h => absurd h.2.1 q1⟩⟩
          go_wp2_with fail
          go_meet
          case rel => exact ⟨_, rfl, hfx, hb1⟩
    case rest =>
      obtain ⟨M, rfl, HP, hb1⟩ := hcut
      obtain ⟨w1, rfl⟩ : ∃ w1, w1 = wc := ⟨_, rfl⟩
      have hB1 := hB0.trans (hb1.mono hB0.size)
      have hbox1 := hbox0.below hb1
      clear hck hb1 hbox0 hB0 c0 c1 c2 clt hz3 hz3'
      have ⟨c0, c1, c2, clt⟩ := hbox1
      go_wp2_with fail
      go_loopw [4, 5] (fun v i wr => ∃ (j : Nat) (c : Bool), j ≤ x.n ∧ i = .int .i64 j ∧ v = .bool c ∧ Kept c (AllB x j) ∧ Below w1.heap.size w1 wr) (fun _ i _ => x.n - (intOf i).toNat)
      case atStart => exact ⟨0, _, Nat.zero_le _, rfl, rfl, ⟨⟨fun hh => ⟨HP.h.1 hh, by simp⟩, fun hh => HP.h.2 hh.1⟩⟩, Below.refl _ _⟩
      case round =>
        obtain ⟨j, c, hj, rfl, rfl, hcv, hbel⟩ := hrel
        have hBo := hB1.trans (hbel.mono hB1.size)
        have ⟨d0, d1, d2, dlt⟩ := hbox1.below hbel
        by_cases hlt : j < x.n
        · obtain ⟨p, q, u, hA, hu, hub, hp, hcu, hk⟩ := h.get hlt
          have hcell : wr.cell? ⟨p, q + j, none⟩ = some (.slice u.A u.n u.c) := (hBo.cell (p := ⟨p, q + j, none⟩) hp).trans hcu
          have hjl : j < (Ls.all x.b).length := by rw [Ls.all, List.length_map, h.len]; exact hlt
          have hget : (Ls.all x.b)[j] = u.zs := by
            have h1 : (Ls.all x.b)[j]? = some u.zs := by rw [Ls.all, List.getElem?_map, hu]; rfl
            rw [List.getElem?_eq_getElem hjl] at h1
            exact Option.some.inj h1
          have hstep : (∀ l ∈ (Ls.all x.b).take (j + 1), bidB l x.r.n = true) ↔ (∀ l ∈ (Ls.all x.b).take j, bidB l x.r.n = true) ∧ bidB u.zs x.r.n = true := by
            rw [List.take_succ_eq_append_getElem hjl, hget]
            simp only [List.mem_append, List.mem_singleton]
            constructor
            · intro hh; exact ⟨fun l hl => hh l (.inl hl), hh _ (.inr rfl)⟩
            · rintro ⟨h1, h2⟩ l (hl | rfl)
              · exact h1 l hl
              · exact h2
          have HST := Lib.hid hstep
          have hun := hk.len
          have hurd := hk.rd
          rw [hA] at d1
          have hjn : (j : Int) < x.n := by omega
          obtain ⟨uA, un, uc, uz⟩ := u
          simp only at hcell hun hurd HST
          clear hu hub hcu hk hget hjl hstep hA
          cases c
          · have hnext : Kept false (AllB x (j + 1)) := Kept.mk (by
              unfold AllB
              rw [HST.out]
              constructor
              · intro hh; cases hh
              · rintro ⟨h1, h2, h3⟩
                exact hcv.h.2 ⟨h1, h2⟩)
            go_wp2
            go_roundw
            case rel => exact ⟨j + 1, _, by omega, by go_num, rfl, hnext, hbel⟩
            case measure => simp [intOf]; omega
          · by_cases hz : un = 0
            · subst hz
              have hnext : Kept true (AllB x (j + 1)) := Kept.mk (by
                unfold AllB
                rw [HST.out]
                have h1 := hcv.h.1 rfl
                refine ⟨fun _ => ⟨h1.1, h1.2, ?_⟩, fun _ => rfl⟩
                rw [List.eq_nil_of_length_eq_zero hun]; rfl)
              clear hun hurd
              go_wp2
              go_roundw
              case rel => exact ⟨j + 1, _, by omega, by go_num, rfl, hnext, hbel⟩
              case measure => simp [intOf]; omega
            · have hz' : ((un : Int) == 0) = false := by rw [beq_eq_false_iff_ne]; omega
              have hne : uz ≠ [] := by intro he; rw [he] at hun; exact hz hun.symm
              obtain ⟨γ, hγ⟩ : ∃ γ, mayB uz x.r.n = γ := ⟨_, rfl⟩
              have hbe : bidB uz x.r.n = γ := by unfold bidB; rw [decide_eq_false hne, Bool.false_or, hγ]
              have hnext : Kept γ (AllB x (j + 1)) := Kept.mk (by
                unfold AllB
                rw [HST.out, hbe]
                have h1 := hcv.h.1 rfl
                exact ⟨fun hh => ⟨h1.1, h1.2, hh⟩, fun hh => hh.2.2⟩)
              have hck := check_of uA un uc uz x.r.n wr (hurd.below hBo) γ hγ
              clear hbe hne hγ hun hurd
              go_wp2_with fail
              refine hck.mono ?_
              rintro e w4 ⟨rfl, hb4⟩
              have hbel4 := hbel.trans (hb4.mono hbel.size)
              clear hck hb4
              go_wp2
              go_roundw
              case rel => exact ⟨j + 1, _, by omega, by go_num, rfl, hnext, hbel4⟩
              case measure => simp [intOf]; omega
        · obtain rfl : j = x.n := by omega
          obtain ⟨wm, rfl⟩ : ∃ wm, wm = wr := ⟨_, rfl⟩
          obtain ⟨cm, rfl⟩ : ∃ cm, cm = c := ⟨_, rfl⟩
          have hbelm := hbel
          go_wp2_with fail
          clear hlt hBo d0 d1 d2 dlt
          go_loopw [4, 6] (fun v i wr => ∃ (i' : Nat) (c : Bool), i' ≤ x.o.n ∧ i = .int .i64 i' ∧ v = .bool c ∧ Kept c (AllU x o i') ∧ Below w1.heap.size w1 wr) (fun _ i _ => x.o.n - (intOf i).toNat)
          case atStart => exact ⟨0, cm, Nat.zero_le _, rfl, rfl, ⟨by rw [hcv.h]; exact ⟨fun hh => ⟨hh, Upto.zero _ _⟩, fun hh => hh.1⟩⟩, hbelm⟩
          case round =>
            clear hcv hbel hbelm
            obtain ⟨i, c, hi, rfl, rfl, hcv, hbel⟩ := hrel
            obtain ⟨wo, rfl⟩ : ∃ wo, wo = wr := ⟨_, rfl⟩
            have hBo := hB1.trans (hbel.mono hB1.size)
            have ⟨d0, d1, d2, dlt⟩ := hbox1.below hbel
            by_cases hlt : i < x.o.n
            · obtain ⟨p2, q2, hA2, hp2, u2, hu2, hc2⟩ := hod.get hlt
              have hil : i < o.length := by rw [HOL.out]; exact hlt
              rw [ci64_get _ _ hil] at hu2
              obtain rfl : iV o[i] = u2 := Option.some.inj hu2
              obtain ⟨zi, hzi⟩ : ∃ zi, o.getD i 0 = zi := ⟨_, rfl⟩
              have HZ := Lib.hid hzi.symm
              have hzi2 : o[i] = zi := by rw [← hzi, List.getD_eq_getElem?_getD, List.getElem?_eq_getElem hil]; rfl
              rw [hzi2] at hc2 hu2
              unfold iV at hc2
              have dz : wo.cell? ⟨p2, q2 + i, none⟩ = some (.int .i64 zi) := (hBo.cell (p := ⟨p2, q2 + i, none⟩) hp2).trans hc2
              have dz1 : w1.cell? ⟨p2, q2 + i, none⟩ = some (.int .i64 zi) := (hB1.cell (p := ⟨p2, q2 + i, none⟩) hp2).trans hc2
              have HOA := Lib.hid hA2
              rw [hA2] at d2
              clear hA2
              have hio : (i : Int) < x.o.n := by omega
              clear hu2 hc2 hzi hzi2 hil
              have hcv0 := hcv
              go_upto_region 12 with fail
              go_cut [4] from 66 to 111 (fun v wx => ∃ cc : Bool, v = .bool cc ∧ Kept cc (InR c zi x.n) ∧ Below w1.heap.size w1 wx)
              case first =>
                cases c
                · have hfx : Kept false (InR false zi x.n) := ⟨by unfold InR; simp⟩
                  refine wp_region_ord (S := (fun w' => w'.cell? ⟨w.heap.size, 2, none⟩ = some (.slice (some ⟨p2, q2, none⟩) x.o.n x.o.c) ∧ w'.cell? ⟨p2, q2 + i, none⟩ = some (.int .i64 zi) ∧ w'.cell? ⟨w.heap.size, 1, none⟩ = some (.slice x.A x.n x.c))) [(0, true), (1, true), (2, true), (3, true), (4, true), (5, true), (6, true), (7, true), (8, true), (9, true), (10, true), (11, true), (12, true), (13, true), (14, true), (15, true), (16, true), (17, true), (18, true), (19, true), (20, true)] default (by kernel_rfl) (by kernel_rfl) (by kernel_rfl) ⟨d2, dz, d1⟩ ?_
                  simp only [getOrd, nth]
                  repeat (first | (refine ordS (by rfl) ?_; simp only [Act.put, List.setIfInBounds_toArray, List.set_cons_zero, List.set_cons_succ]) | (refine ordN (by rfl) ?_; simp only [Act.put, List.setIfInBounds_toArray, List.set_cons_zero, List.set_cons_succ]) | (refine ordQ (v := ?_) (by rfl) (fun _ hSw => ?_) ?_; rotate_left; (focus ((have hS1 := hSw.1); (have hS2 := hSw.2.1); (have hS3 := hSw.2.2); clear hSw; go_simp; (first | done | with_reducible rfl))); simp only [Act.put, List.setIfInBounds_toArray, List.set_cons_zero, List.set_cons_succ]))
                  refine ordE ?_
                  go_wp2_with fail
                  go_meet
                  case rel => exact ⟨_, rfl, hfx, hbel.drew⟩
                · by_cases g1 : 0 ≤ zi
                  · by_cases g2 : zi < (x.n : Int)
                    · have g1' : decide (0 ≤ zi) = true := decide_eq_true g1
                      have g2' : decide (zi < (x.n : Int)) = true := decide_eq_true g2
                      have hfx : Kept true (InR true zi x.n) := ⟨by unfold InR; simp [g1, g2]⟩
                      refine wp_region_ord (S := (fun w' => w'.cell? ⟨w.heap.size, 2, none⟩ = some (.slice (some ⟨p2, q2, none⟩) x.o.n x.o.c) ∧ w'.cell? ⟨p2, q2 + i, none⟩ = some (.int .i64 zi) ∧ w'.cell? ⟨w.heap.size, 1, none⟩ = some (.slice x.A x.n x.c))) [(0, true), (1, true), (2, true), (3, true), (4, true), (5, true), (6, true), (7, true), (8, true), (9, true), (10, true), (11, true), (12, true), (13, true), (14, true), (15, true), (16, true), (17, true), (18, true), (19, true), (20, true)] default (by kernel_rfl) (by kernel_rfl) (by kernel_rfl) ⟨d2, dz, d1⟩ ?_
                      simp only [getOrd, nth]
                      repeat (first | (refine ordS (by rfl) ?_; simp only [Act.put, List.setIfInBounds_toArray, List.set_cons_zero, List.set_cons_succ]) | (refine ordN (by rfl) ?_; simp only [Act.put, List.setIfInBounds_toArray, List.set_cons_zero, List.set_cons_succ]) | (refine ordQ (v := ?_) (by rfl) (fun _ hSw => ?_) ?_; rotate_left; (focus ((have hS1 := hSw.1); (have hS2 := hSw.2.1); (have hS3 := hSw.2.2); clear hSw; go_simp; (first | done | with_reducible rfl))); simp only [Act.put, List.setIfInBounds_toArray, List.set_cons_zero, List.set_cons_succ]))
                      refine ordE ?_
                      go_wp2_with fail
                      go_meet
                      case rel => exact ⟨_, rfl, hfx, hbel.drew⟩
                    · have g1' : decide (0 ≤ zi) = true := decide_eq_true g1
                      have g2' : decide (zi < (x.n : Int)) = false := decide_eq_false g2
                      have hfx : Kept false (InR true zi x.n) := ⟨by unfold InR; simp [g2]⟩
                      refine wp_region_ord (S := (fun w' => w'.cell? ⟨w.heap.size, 2, none⟩ = some (.slice (some ⟨p2, q2, none⟩) x.o.n x.o.c) ∧ w'.cell? ⟨p2, q2 + i, none⟩ = some (.int .i64 zi) ∧ w'.cell? ⟨w.heap.size, 1, none⟩ = some (.slice x.A x.n x.c))) [(0, true), (1, true), (2, true), (3, true), (4, true), (5, true), (6, true), (7, true), (8, true), (9, true), (10, true), (11, true), (12, true), (13, true), (14, true), (15, true), (16, true), (17, true), (18, true), (19, true), (20, true)] default (by kernel_rfl) (by kernel_rfl) (by kernel_rfl) ⟨d2, dz, d1⟩ ?_
                      simp only [getOrd, nth]
                      repeat (first | (refine ordS (by rfl) ?_; simp only [Act.put, List.setIfInBounds_toArray, List.set_cons_zero, List.set_cons_succ]) | (refine ordN (by rfl) ?_; simp only [Act.put, List.setIfInBounds_toArray, List.set_cons_zero, List.set_cons_succ]) | (refine ordQ (v := ?_) (by rfl) (fun _ hSw => ?_) ?_; rotate_left; (focus ((have hS1 := hSw.1); (have hS2 := hSw.2.1); (have hS3 := hSw.2.2); clear hSw; go_simp; (first | done | with_reducible rfl))); simp only [Act.put, List.setIfInBounds_toArray, List.set_cons_zero, List.set_cons_succ]))
                      refine ordE ?_
                      go_wp2_with fail
                      go_meet
                      case rel => exact ⟨_, rfl, hfx, hbel.drew⟩
                  · have g1' : decide (0 ≤ zi) = false := decide_eq_false g1
                    have hfx : Kept false (InR true zi x.n) := ⟨by unfold InR; simp [g1]⟩
                    refine wp_region_ord (S := (fun w' => w'.cell? ⟨w.heap.size, 2, none⟩ = some (.slice (some ⟨p2, q2, none⟩) x.o.n x.o.c) ∧ w'.cell? ⟨p2, q2 + i, none⟩ = some (.int .i64 zi) ∧ w'.cell? ⟨w.heap.size, 1, none⟩ = some (.slice x.A x.n x.c))) [(0, true), (1, true), (2, true), (3, true), (4, true), (5, true), (6, true), (7, true), (8, true), (9, true), (10, true), (11, true), (12, true), (13, true), (14, true), (15, true), (16, true), (17, true), (18, true), (19, true), (20, true)] default (by kernel_rfl) (by kernel_rfl) (by kernel_rfl) ⟨d2, dz, d1⟩ ?_
                    simp only [getOrd, nth]
                    repeat (first | (refine ordS (by rfl) ?_; simp only [Act.put, List.setIfInBounds_toArray, List.set_cons_zero, List.set_cons_succ]) | (refine ordN (by rfl) ?_; simp only [Act.put, List.setIfInBounds_toArray, List.set_cons_zero, List.set_cons_succ]) | (refine ordQ (v := ?_) (by rfl) (fun _ hSw => ?_) ?_; rotate_left; (focus ((have hS1 := hSw.1); (have hS2 := hSw.2.1); (have hS3 := hSw.2.2); clear hSw; go_simp; (first | done | with_reducible rfl))); simp only [Act.put, List.setIfInBounds_toArray, List.set_cons_zero, List.set_cons_succ]))
                    refine ordE ?_
                    go_wp2_with fail
                    go_meet
                    case rel => exact ⟨_, rfl, hfx, hbel.drew⟩
              case rest =>
                obtain ⟨cc, rfl, HCC, hbc⟩ := hcut
                clear dz
                go_wp2_with fail
                go_loopw [4, 7] (fun v k wr => ∃ (m : Nat) (c : Bool), m ≤ i ∧ k = .int .i64 m ∧ v = .bool c ∧ Kept c (NeB cc zi o m) ∧ Below w1.heap.size w1 wr) (fun _ k _ => i - (intOf k).toNat)
                case atStart => exact ⟨0, _, Nat.zero_le _, rfl, rfl, ⟨⟨fun hh => ⟨hh, fun b hb => absurd hb (Nat.not_lt_zero b)⟩, fun hh => hh.1⟩⟩, hbc⟩
                case round =>
                  obtain ⟨m, c, hm, rfl, rfl, hci, hbk⟩ := hrel
                  have hBk := hB1.trans (hbk.mono hB1.size)
                  have ⟨k0, k1, k2, klt⟩ := hbox1.below hbk
                  rw [HOA.out] at k2
                  by_cases hmi : m < i
                  · have hmo : m < x.o.n := by omega
                    obtain ⟨p3, q3, hA3, hp3, u3, hu3, hc3⟩ := hod.get hmo
                    rw [HOA.out] at hA3
                    obtain ⟨rfl, rfl⟩ : p2 = p3 ∧ q2 = q3 := by injection hA3 with hA3; injection hA3 with h1 h2; exact ⟨h1, h2⟩
                    have hml : m < o.length := by rw [HOL.out]; exact hmo
                    rw [ci64_get _ _ hml] at hu3
                    obtain rfl : iV o[m] = u3 := Option.some.inj hu3
                    have dm : wr.cell? ⟨p2, q2 + m, none⟩ = some (.int .i64 (o.getD m 0)) := by
                      rw [hBk.cell (p := ⟨p2, q2 + m, none⟩) hp3, hc3, List.getD_eq_getElem?_getD, List.getElem?_eq_getElem hml]; rfl
                    have di : wr.cell? ⟨p2, q2 + i, none⟩ = some (.int .i64 zi) := (hbk.cell (p := ⟨p2, q2 + i, none⟩) (Nat.lt_of_lt_of_le hp3 hB1.size)).trans dz1
                    clear hA3 hu3 hc3
                    have hmo' : (m : Int) < x.o.n := by omega
                    have hio' : (i : Int) < x.o.n := by omega
                    have hbd : Below w1.heap.size w1 wr.drew := hbk.drew
                    cases c
                    · have hnext : Kept false (NeB cc zi o (m + 1)) := Kept.mk (by
                        constructor
                        · intro h; cases h
                        · rintro ⟨h1, h2⟩
                          exact hci.h.2 ⟨h1, fun b hb => h2 b (by omega)⟩)
                      go_wp2_with fail
                      refine wp_region_ord (S := fun w' => w'.cell? ⟨w.heap.size, 2, none⟩ = some (.slice (some ⟨p2, q2, none⟩) x.o.n x.o.c) ∧ w'.cell? ⟨p2, q2 + i, none⟩ = some (.int .i64 zi) ∧ w'.cell? ⟨p2, q2 + m, none⟩ = some (.int .i64 (o.getD m 0))) [(0, true), (1, true), (2, true), (3, true), (4, true), (5, true), (6, true), (7, true), (8, true), (9, true), (10, true), (11, true), (12, true), (13, true), (14, true)] default (by kernel_rfl) (by kernel_rfl) (by kernel_rfl) ⟨k2, di, dm⟩ ?_
                      simp only [getOrd, nth]
                      repeat (first | (refine ordS (by rfl) ?_; simp only [Act.put, List.setIfInBounds_toArray, List.set_cons_zero, List.set_cons_succ]) | (refine ordN (by rfl) ?_; simp only [Act.put, List.setIfInBounds_toArray, List.set_cons_zero, List.set_cons_succ]) | (refine ordQ (v := ?_) (by rfl) (fun _ hSw => ?_) ?_; rotate_left; (focus ((have hS1 := hSw.1); (have hS2 := hSw.2.1); (have hS3 := hSw.2.2); clear hSw; go_simp; (first | done | with_reducible rfl))); simp only [Act.put, List.setIfInBounds_toArray, List.set_cons_zero, List.set_cons_succ]))
                      refine ordE ?_
                      go_wp2
                      go_roundw
                      case rel => exact ⟨m + 1, _, by omega, by go_num, rfl, hnext, hbd⟩
                      case measure => simp [intOf]; omega
                    · by_cases hzz : zi = o.getD m 0
                      · have hz1 : (zi != o.getD m 0) = false := by rw [← hzz]; simp
                        have hnext : Kept false (NeB cc zi o (m + 1)) := Kept.mk (by
                          constructor
                          · intro h; cases h
                          · rintro ⟨h1, h2⟩
                            exact absurd hzz (h2 m (by omega)))
                        have hzh := Lib.hid hzz
                        clear hzz
                        generalize o.getD m 0 = om at *
                        go_wp2_with fail
                        refine wp_region_ord (S := fun w' => w'.cell? ⟨w.heap.size, 2, none⟩ = some (.slice (some ⟨p2, q2, none⟩) x.o.n x.o.c) ∧ w'.cell? ⟨p2, q2 + i, none⟩ = some (.int .i64 zi) ∧ w'.cell? ⟨p2, q2 + m, none⟩ = some (.int .i64 om)) [(0, true), (1, true), (2, true), (3, true), (4, true), (5, true), (6, true), (7, true), (8, true), (9, true), (10, true), (11, true), (12, true), (13, true), (14, true)] default (by kernel_rfl) (by kernel_rfl) (by kernel_rfl) ⟨k2, di, dm⟩ ?_
                        simp only [getOrd, nth]
                        repeat (first | (refine ordS (by rfl) ?_; simp only [Act.put, List.setIfInBounds_toArray, List.set_cons_zero, List.set_cons_succ]) | (refine ordN (by rfl) ?_; simp only [Act.put, List.setIfInBounds_toArray, List.set_cons_zero, List.set_cons_succ]) | (refine ordQ (v := ?_) (by rfl) (fun _ hSw => ?_) ?_; rotate_left; (focus ((have hS1 := hSw.1); (have hS2 := hSw.2.1); (have hS3 := hSw.2.2); clear hSw; go_simp; (first | done | with_reducible rfl))); simp only [Act.put, List.setIfInBounds_toArray, List.set_cons_zero, List.set_cons_succ]))
                        refine ordE ?_
                        go_wp2
                        go_roundw
                        case rel => exact ⟨m + 1, _, by omega, by go_num, rfl, hnext, hbd⟩
                        case measure => simp [intOf]; omega
                      · have hz1 : (zi != o.getD m 0) = true := by rw [bne_iff_ne]; exact hzz
                        have hnext : Kept true (NeB cc zi o (m + 1)) := Kept.mk (by
                          refine ⟨fun _ => ?_, fun _ => rfl⟩
                          obtain ⟨h1, h2⟩ := hci.h.1 rfl
                          refine ⟨h1, fun b hb => ?_⟩
                          by_cases hbm : b = m
                          · subst hbm; exact hzz
                          · exact h2 b (by omega))
                        have hzh := Lib.hid hzz
                        clear hzz
                        generalize o.getD m 0 = om at *
                        go_wp2_with fail
                        refine wp_region_ord (S := fun w' => w'.cell? ⟨w.heap.size, 2, none⟩ = some (.slice (some ⟨p2, q2, none⟩) x.o.n x.o.c) ∧ w'.cell? ⟨p2, q2 + i, none⟩ = some (.int .i64 zi) ∧ w'.cell? ⟨p2, q2 + m, none⟩ = some (.int .i64 om)) [(0, true), (1, true), (2, true), (3, true), (4, true), (5, true), (6, true), (7, true), (8, true), (9, true), (10, true), (11, true), (12, true), (13, true), (14, true)] default (by kernel_rfl) (by kernel_rfl) (by kernel_rfl) ⟨k2, di, dm⟩ ?_
                        simp only [getOrd, nth]
                        repeat (first | (refine ordS (by rfl) ?_; simp only [Act.put, List.setIfInBounds_toArray, List.set_cons_zero, List.set_cons_succ]) | (refine ordN (by rfl) ?_; simp only [Act.put, List.setIfInBounds_toArray, List.set_cons_zero, List.set_cons_succ]) | (refine ordQ (v := ?_) (by rfl) (fun _ hSw => ?_) ?_; rotate_left; (focus ((have hS1 := hSw.1); (have hS2 := hSw.2.1); (have hS3 := hSw.2.2); clear hSw; go_simp; (first | done | with_reducible rfl))); simp only [Act.put, List.setIfInBounds_toArray, List.set_cons_zero, List.set_cons_succ]))
                        refine ordE ?_
                        go_wp2
                        go_roundw
                        case rel => exact ⟨m + 1, _, by omega, by go_num, rfl, hnext, hbd⟩
                        case measure => simp [intOf]; omega
                  · obtain rfl : m = i := by omega
                    have hnext : Kept c (AllU x o (m + 1)) := Kept.mk (by
                      unfold AllU
                      rw [hci.h, Upto.step, ← HZ.out]
                      unfold NeB
                      rw [HCC.h]
                      unfold InR
                      rw [hcv0.h]
                      unfold AllU
                      constructor
                      · rintro ⟨⟨⟨h1, h2⟩, h3⟩, h4⟩; exact ⟨h1, h2, h3, h4⟩
                      · rintro ⟨h1, h2, h3, h4⟩; exact ⟨⟨⟨h1, h2⟩, h3⟩, h4⟩)
                    go_wp2
                    go_roundw
                    case rel => exact ⟨m + 1, c, by omega, by go_num, rfl, hnext, hbk⟩
                    case measure => simp [intOf]; omega
            · obtain rfl : i = x.o.n := by omega
              have hfin : x.may = c := by
                rw [Bool.eq_iff_iff, may_of h, ← HOZ.out]
                exact hcv.h.symm
              have HFIN := Lib.hid hfin
              clear hcv hfin
              go_wp2_with fail
              refine (alive5_any wo).mono ?_
              rintro e w5 ⟨rfl, hb5⟩
              have hB5 := hBo.trans (hb5.mono hBo.size)
              clear d0 d1 d2
              have ⟨d0, d1, d2, dlt5⟩ := (hbox1.below hbel).below hb5
              have hc := mcheckC x w5 (h.below hB5)
              rw [HFIN.out, Vx.out] at hc
              go_wp2_with fail
              refine hc.mono ?_
              rintro e w6 ⟨rfl, hb6⟩
              have hB6 := hB5.trans (hb6.mono hB5.size)
              clear hc d0 d1 d2
              cases c
              all_goals
                go_wp2
                go_ret
                exact ⟨rfl, hB6⟩

theorem own : ownKnob Try.prog.godebug = none := by kernel_rfl
theorem laidOut : laidOutB Try.prog = true := by kernel_rfl

set_option maxRecDepth 100000 in
theorem lifted (os : Os) (started : os.Started) (H : Type) (enc : TypeId × Value → H) :
    ReturnsInHanded {} Try.checked os 5 .any (Rows.marketsCheckSpec.pre6 enc Try.prog Try.f5 Rows.marketsCheckRow.domain false) (Rows.marketsCheckSpec.post enc Try.prog Try.f5 false true false false) := by
  refine returnsInHanded_of_change (C := Try.checked) own started (by kernel_rfl) Try.func5
    (ChangeSpec.witness6 (enc := enc) (C := Try.checked) false ⟨#[], #[.agg #[.slice none 0 0, .slice none 0 0, .slice none 0 0]], []⟩ 8 (by kernel_rfl) (by kernel_rfl) (by kernel_rfl) (by kernel_rfl)) ?_
  intro W base args ds gs before hval0 hW hcnd _
  have hval : ∀ (j : Nat) t v, Try.f5.params[j]? = some t → args[j]? = some v → Value.okWide Try.prog W .any base t v := hval0
  have hW' := hW
  obtain ⟨p, q, hA0, hV, rfl, hfz, hnd⟩ := hW
  have hA : DataW.TrodAll enc Try.prog W 0 (fun _ => true) true Try.f5.params.toList args.toList ds p := hA0
  rw [Try.params5] at hA hval
  obtain ⟨v0, vs0, d0, ds0, p0, q0, hargs, rfl, rfl, h0, r0⟩ := trodAll_cons hA
  obtain ⟨rfl, rfl, rfl⟩ := trodAll_nil r0
  obtain rfl : args = #[v0] := by cases args; simp_all
  obtain ⟨u0, rfl, k0⟩ := arg_mk Try.underlying25 (by kernel_rfl) (by kernel_rfl) Try.underlying22 Try.underlying23 Try.underlying22 Try.underlying22 (by kernel_rfl) Try.underlying3 (by kernel_rfl) (hval 0 25 v0 rfl rfl) h0
  have hwalk : Calls Try.prog 5 #[u0.v] W fun e w' => e = .returned (.bool true) ∧ Below W.heap.size W w' := walk u0 W k0
  refine hwalk.mono fun e W' ⟨he, hg⟩ => ?_
  subst he
  exact ⟨_, rfl, law_post laidOut (by kernel_rfl) hW' rfl rfl (by kernel_rfl) Try.underlying4 hg⟩

theorem over : Rows.marketsCheckRow.holds Try.pinned (OpenSpec.ofChange Rows.marketsCheckSpec) :=
  OpenClaim.holds_of_wide 5 Try.f5 rfl rfl rfl rfl rfl rfl rfl ⟨rfl, rfl, rfl, rfl, rfl⟩ rfl rfl rfl rfl rfl (by kernel_rfl) Try.func5 (by kernel_rfl)
    (of_decide_eq_true (by kernel_rfl)) (by unfold Func.isWrapper; first | (rw [if_pos (by decide +kernel)]; kernel_rfl) | (rw [if_neg (by decide +kernel)]; exact ⟨rfl, rfl⟩))
    (fun os started H enc _ => lifted os started H enc)

theorem proved : Rows.MarketsCheckSaid :=
  over

end Go.Proofs.Ytoogldllcgbmdaa.marketsCheck
