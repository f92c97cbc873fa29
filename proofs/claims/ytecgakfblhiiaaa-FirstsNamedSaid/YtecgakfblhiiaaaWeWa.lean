/-
  Walks of package weights: the greatest of several, what may be, everybody, the most above.
-/
import Derived.Test.YtecgakfblhiiaaaWeT
import Derived.Test.YtecgakfblhiiaaaWeO
import Derived.Test.YtecgakfblhiiaaaTwin
import Derived.Test.YtecgakfblhiiaaaReg2
import Derived.Lib.MinMax
namespace Go.Proofs.Ytecgakfblhiiaaa
open Go.RowKit
set_option linter.unusedVariables false

theorem infoWe_int : (Try.prog.info? 3).map (fun i => (i.zero, i.size, i.bytes)) = some (some (.int .i64 0), 1, 8) := by kernel_rfl
theorem maxto_snoc {l : List Int} {a : Int} {j : Nat} (h : j < l.length) : (l.take (j + 1)).foldl max a = max ((l.take j).foldl max a) l[j] := by
  rw [List.take_succ_eq_append_getElem h, List.foldl_append]; rfl
set_option maxRecDepth 100000 in
set_option maxHeartbeats 1000000 in
/-- The greatest of one or more. -/
theorem wgreatest_any (a : Int) (l : Ls) (w : World) (hl : l.Ok w) :
    Calls Try.prog 28 #[.int .i64 a, .slice l.A l.n l.c] w fun e w' => e = .returned (.int .i64 (l.zs.foldl max a)) ∧ w' = w := by
  have tl := Nat.le_trans hl.cap hl.top
  have HL := Lib.hid hl.len
  have lrd := hl.rd
  obtain ⟨lA, ln, lc, lz⟩ := l
  simp only at lrd tl HL ⊢
  unfold maxLen at tl
  go_enter Try.func28, Try.ntmps28
  go_wp2_with fail
  go_loopw [0, 9] (fun m i wr => ∃ (j : Nat) (b : Int), j ≤ ln ∧ i = .int .i64 j ∧ m = .int .i64 b ∧ Hid (b = (lz.take j).foldl max a) ∧ wr = w) (fun _ i _ => ln - (intOf i).toNat)
  case atStart => exact ⟨0, a, Nat.zero_le _, rfl, rfl, Lib.hid rfl, rfl⟩
  case round =>
    obtain ⟨j, b, hj, rfl, rfl, hb, rfl⟩ := hrel
    by_cases hlt : j < ln
    · obtain ⟨p, q, rfl, hp, u0, hu0, hc0⟩ := lrd.get hlt
      have hjl : j < lz.length := by rw [HL.out]; exact hlt
      rw [ci64_get _ _ hjl] at hu0
      obtain rfl : iV lz[j] = u0 := Option.some.inj hu0
      unfold iV at hc0
      have HN : Hid (max b lz[j] = (lz.take (j + 1)).foldl max a) := Lib.hid (by rw [maxto_snoc hjl, hb.out])
      have hi1 : (j : Int) < ln := by omega
      generalize lz[j] = z at *
      clear hu0 hjl hb
      go_wp2
      go_roundw
      case rel => exact ⟨j + 1, _, by omega, by go_num, rfl, HN, trivial⟩
      case measure => simp [intOf]; omega
    · obtain rfl : j = ln := by omega
      have HN : Hid (b = lz.foldl max a) := Lib.hid (by
        have h := hb.out
        rwa [List.take_of_length_le (by rw [HL.out]; exact Nat.le_refl _)] at h)
      clear hb
      go_wp2
      go_ret
      exact ⟨by rw [HN.out]; rfl, rfl⟩

def fitA (l : List Int) : Bool := l.all fun z => decide (-1000000 ≤ z) && decide (z ≤ 1000000)
set_option maxRecDepth 100000 in
set_option maxHeartbeats 1000000 in
theorem wallmay_any (l : Ls) (w : World) (hl : l.Ok w) :
    Calls Try.prog 26 #[.slice l.A l.n l.c] w fun e w' => e = .returned (.bool (fitA l.zs)) ∧ w' = w := by
  have tl := Nat.le_trans hl.cap hl.top
  have HL := Lib.hid hl.len
  have lrd := hl.rd
  obtain ⟨lA, ln, lc, lz⟩ := l
  simp only at lrd tl HL ⊢
  unfold maxLen at tl
  go_enter Try.func26, Try.ntmps26
  go_wp2_with fail
  go_loopw [7] (fun i wr => ∃ (j : Nat), j ≤ ln ∧ i = .int .i64 j ∧ Hid (fitA (lz.take j) = true) ∧ wr = w) (fun i _ => ln - (intOf i).toNat)
  case atStart => exact ⟨0, Nat.zero_le _, rfl, Lib.hid rfl, rfl⟩
  case round =>
    obtain ⟨j, hj, rfl, hb, rfl⟩ := hrel
    by_cases hlt : j < ln
    · obtain ⟨p, q, rfl, hp, u0, hu0, hc0⟩ := lrd.get hlt
      have hjl : j < lz.length := by rw [HL.out]; exact hlt
      rw [ci64_get _ _ hjl] at hu0
      obtain rfl : iV lz[j] = u0 := Option.some.inj hu0
      unfold iV at hc0
      have hmem : lz[j] ∈ lz := List.getElem_mem hjl
      have htk := List.take_succ_eq_append_getElem hjl
      have hi1 : (j : Int) < ln := by omega
      obtain ⟨z, hz⟩ : ∃ z, lz[j] = z := ⟨_, rfl⟩
      rw [hz] at hc0 hmem htk
      by_cases c1 : z < -1000000
      · have k1 : decide (z < -1000000) = true := decide_eq_true c1
        have HF : Hid (fitA lz = false) := Lib.hid (by
          rw [Bool.eq_false_iff]
          intro h2
          have := List.all_eq_true.1 h2 z hmem
          simp at this
          omega)
        clear hu0 hz htk hmem c1 hb
        go_wp2
        go_ret
        exact ⟨ret_bool HF.out.symm, rfl⟩
      have k1 : decide (z < -1000000) = false := decide_eq_false c1
      by_cases c2 : 1000000 < z
      · have k2 : decide (1000000 < z) = true := decide_eq_true c2
        have HF : Hid (fitA lz = false) := Lib.hid (by
          rw [Bool.eq_false_iff]
          intro h2
          have := List.all_eq_true.1 h2 z hmem
          simp at this
          omega)
        clear hu0 hz htk hmem c1 c2 hb
        go_wp2
        go_ret
        exact ⟨ret_bool HF.out.symm, rfl⟩
      have k2 : decide (1000000 < z) = false := decide_eq_false c2
      have HN : Hid (fitA (lz.take (j + 1)) = true) := Lib.hid (by
        have h5 := hb.out
        unfold fitA at h5 ⊢
        rw [htk, List.all_append, h5, List.all_cons, decide_eq_true (show -1000000 ≤ z by omega), decide_eq_true (show z ≤ 1000000 by omega)]; rfl)
      clear hu0 hz htk hmem c1 c2 hb
      go_wp2
      go_roundw
      case rel => exact ⟨j + 1, by omega, by go_num, HN, trivial⟩
      case measure => simp [intOf]; omega
    · obtain rfl : j = ln := by omega
      have HN : Hid (fitA lz = true) := Lib.hid (by
        have h := hb.out
        rwa [List.take_of_length_le (by rw [HL.out]; exact Nat.le_refl _)] at h)
      clear hb
      go_wp2
      go_ret
      exact ⟨ret_bool HN.out.symm, rfl⟩

def fitW (l : List Int) (m : Int) : Bool := decide ((l.length : Int) = m) && fitA l
theorem mayW_eq {g : List (List Int)} {m : Int} (h1 : 1 ≤ m) (h2 : m ≤ 8) (h3 : g.length ≤ 8) : mayW g m = g.all fun l => fitW l m := by
  rw [mayW, decide_eq_true h1, decide_eq_true h2, decide_eq_true h3]; rfl
set_option maxRecDepth 100000 in
set_option maxHeartbeats 1000000 in
theorem wmaybe_any (x : Gr) (m : Int) (w : World) (h : x.Ok w) (hm1 : -9223372036854775808 ≤ m) (hm2 : m ≤ 9223372036854775807) :
    Calls Try.prog 20 #[x.v, .int .i64 m] w fun e w' => e = .returned (.bool (mayW x.g m)) ∧ w' = w := by
  have hgl := h.glen
  have hlen := h.len
  have tn := Nat.le_trans h.cap h.top
  unfold maxLen at tn
  obtain ⟨B, hB⟩ : ∃ B, mayW x.g m = B := ⟨_, rfl⟩
  have HB := Lib.hid hB
  have HG := Lib.hid hgl
  rw [hB]
  clear hB hgl
  unfold Gr.v
  go_enter Try.func20, Try.ntmps20
  by_cases q1 : m < 1
  · have g1 : decide (m < 1) = true := decide_eq_true q1
    have HF : Hid (B = false) := Lib.hid (by
      rw [← HB.out, mayW, decide_eq_false (by omega)]; rfl)
    clear q1
    go_wp2
    go_ret
    exact ⟨ret_bool HF.out.symm, rfl⟩
  have g1 : decide (m < 1) = false := decide_eq_false q1
  by_cases q2 : 8 < m
  · have g2 : decide (8 < m) = true := decide_eq_true q2
    have HF : Hid (B = false) := Lib.hid (by
      rw [← HB.out, mayW, decide_eq_false (show ¬ m ≤ 8 by omega)]; simp)
    clear q1 q2
    go_wp2
    go_ret
    exact ⟨ret_bool HF.out.symm, rfl⟩
  have g2 : decide (8 < m) = false := decide_eq_false q2
  by_cases q3 : 8 < x.n
  · have g3 : decide (8 < (x.n : Int)) = true := decide_eq_true (by omega)
    have g3' : decide (8 < x.n) = true := decide_eq_true q3
    have HF : Hid (B = false) := Lib.hid (by
      rw [← HB.out, mayW, decide_eq_false (show ¬ x.g.length ≤ 8 by rw [HG.out]; omega)]; simp)
    clear q1 q2 q3
    go_wp2
    go_ret
    exact ⟨ret_bool HF.out.symm, rfl⟩
  have g3 : decide (8 < (x.n : Int)) = false := decide_eq_false (by omega)
  have g3' : decide (8 < x.n) = false := decide_eq_false q3
  obtain ⟨M, rfl⟩ : ∃ M : Nat, m = M := ⟨m.toNat, by omega⟩
  have HM : Hid (B = x.g.all fun l => fitW l M) := Lib.hid (by
    rw [← HB.out, mayW_eq (by omega) (by omega) (by rw [HG.out]; omega)])
  clear q1 q2 q3 HB
  go_wp2_with fail
  go_loopw [20] (fun i wr => ∃ j : Nat, j ≤ x.n ∧ i = .int .i64 j ∧ Hid ((x.g.take j).all (fun l => fitW l M) = true) ∧ wr = w) (fun i _ => x.n - (intOf i).toNat)
  case atStart => exact ⟨0, Nat.zero_le _, rfl, Lib.hid (by simp), rfl⟩
  case round =>
    obtain ⟨j, hj, rfl, hok, rfl⟩ := hrel
    by_cases hlt : j < x.n
    · obtain ⟨p, q, u, hA, hu, hg, hp, hcell, hk⟩ := h.get hlt
      have hjl : j < x.g.length := by rw [HG.out]; exact hlt
      have hmem : u.zs ∈ x.g := by rw [← hg]; exact getD_mem hjl
      have htk : x.g.take (j + 1) = x.g.take j ++ [u.zs] := by
        rw [List.take_succ_eq_append_getElem hjl, ← hg, List.getD_eq_getElem?_getD, List.getElem?_eq_getElem hjl]; rfl
      have HNO : Hid (fitW u.zs M = false → B = false) := Lib.hid fun hf => by
        rw [HM.out, Bool.eq_false_iff]
        intro h2
        rw [List.all_eq_true.1 h2 _ hmem] at hf
        cases hf
      have HYES : Hid (fitW u.zs M = true → (x.g.take (j + 1)).all (fun l => fitW l M) = true) := Lib.hid fun hf => by
        rw [htk, List.all_append, hok.out]; simp [hf]
      have HUL := Lib.hid hk.len
      have hlt' : (j : Int) < x.n := by omega
      have hj0 : (0 : Int) ≤ j := by omega
      have hct := wallmay_any u wr hk
      clear htk hmem hg hu hok hk
      obtain ⟨uA, un, uc, ul⟩ := u
      simp only at hct HUL HNO HYES
      replace hcell : wr.cell? ⟨p, q + j, none⟩ = some (.slice uA un uc) := hcell
      rw [hA]
      by_cases hun : un = M
      · subst hun
        have gn : (((un : Int)) != (un : Int)) = false := by simp
        have gn2 : (un != un) = false := by simp
        obtain ⟨β, hβ⟩ : ∃ β, fitA ul = β := ⟨_, rfl⟩
        rw [hβ] at hct
        have HE : Hid (fitW ul un = β) := Lib.hid (by rw [fitW, HUL.out, hβ]; simp)
        clear hβ
        go_wp2_with fail
        refine hct.mono ?_
        rintro e w2 ⟨rfl, rfl⟩
        clear hct
        cases β
        · have HF : Hid (B = false) := Lib.hid (HNO.out HE.out)
          go_wp2
          go_ret
          exact ⟨ret_bool HF.out.symm, rfl⟩
        · have HN : Hid ((x.g.take (j + 1)).all (fun l => fitW l un) = true) := Lib.hid (HYES.out HE.out)
          go_wp2
          go_roundw
          case rel => exact ⟨j + 1, by omega, by go_num, HN, trivial⟩
          case measure => simp [intOf]; omega
      · have gn : (((un : Int)) != (M : Int)) = true := by rw [bne_iff_ne]; omega
        have gn2 : (un != M) = true := by rw [bne_iff_ne]; exact hun
        have HF : Hid (B = false) := Lib.hid (HNO.out (by
          rw [fitW, HUL.out, decide_eq_false (by omega)]; rfl))
        clear hun hct
        go_wp2
        go_ret
        exact ⟨ret_bool HF.out.symm, rfl⟩
    · obtain rfl : j = x.n := by omega
      have HT : Hid (B = true) := Lib.hid (by
        have h5 := hok.out
        rw [List.take_of_length_le (by rw [HG.out]; exact Nat.le_refl _)] at h5
        rw [HM.out]; exact h5)
      clear hok
      go_wp2
      go_ret
      exact ⟨ret_bool HT.out.symm, rfl⟩

set_option maxRecDepth 100000 in
set_option maxHeartbeats 1000000 in
theorem wevery_any (A : Option Addr) (n c : Nat) (w : World) (hn : n ≤ 8) :
    Calls Try.prog 22 #[.slice A n c] w fun e w' => e = .returned (.int .i64 ((2 ^ n - 1 : Nat) : Int)) ∧ w' = w := by
  have h9 : n = 0 ∨ n = 1 ∨ n = 2 ∨ n = 3 ∨ n = 4 ∨ n = 5 ∨ n = 6 ∨ n = 7 ∨ n = 8 := by omega
  go_enter Try.func22, Try.ntmps22
  rcases h9 with rfl | rfl | rfl | rfl | rfl | rfl | rfl | rfl | rfl
  all_goals
    clear hn
    go_wp2
    go_ret
    exact ⟨rfl, rfl⟩
end Go.Proofs.Ytecgakfblhiiaaa
