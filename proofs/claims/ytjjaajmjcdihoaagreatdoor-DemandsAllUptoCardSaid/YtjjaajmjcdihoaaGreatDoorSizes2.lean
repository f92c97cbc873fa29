/-
  How much is in a list of lists, in a market: just that number, where it is not too much.
-/
import Derived.Test.YtjjaajmjcdihoaaGreatDoorBulk
import Derived.Test.YtjjaajmjcdihoaaGreatDoorMarkO
namespace Go.Proofs.YtjjaajmjcdihoaaGreatDoor
open Go.RowKit
set_option linter.unusedVariables false

def sumN (l : List Ls) : Nat := (l.map Ls.n).sum
theorem sizeL_sum (l : List Ls) : sizeL l = l.length + sumN l := by
  induction l with
  | nil => rfl
  | cons u l ih => simp only [sizeL, sumN, List.map_cons, List.sum_cons, List.length_cons] at ih ⊢; omega
theorem sumN_snoc (l : List Ls) (u : Ls) : sumN (l ++ [u]) = sumN l + u.n := by simp [sumN]
theorem sumN_take_le (l : List Ls) (j : Nat) : sumN (l.take j) ≤ sumN l := by
  have h := congrArg sumN (List.take_append_drop j l)
  rw [show sumN (l.take j ++ l.drop j) = sumN (l.take j) + sumN (l.drop j) by simp only [sumN, List.map_append, List.sum_append]] at h
  omega
theorem size_mem {l : List Ls} {u : Ls} (h : u ∈ l) : u.n + 1 ≤ sizeL l := by
  induction l with
  | nil => simp at h
  | cons x l ih =>
    simp only [sizeL, List.map_cons, List.sum_cons] at ih ⊢
    rcases List.mem_cons.1 h with rfl | h
    · omega
    · have := ih h; omega

set_option maxRecDepth 100000 in
theorem intssize_n (A : Option Addr) (n c : Nat) (w : World) : Calls Tryz.prog 16 #[.slice A n c] w fun e w' => e = .returned (.int .i64 n) ∧ w = w' := by
  go_enter Tryz.func16, Tryz.ntmps16
  go_wp2
  go_ret
  exact ⟨rfl, rfl⟩

set_option maxRecDepth 100000 in
set_option maxHeartbeats 1000000 in
theorem intlistssize_all (A : Option Addr) (n c : Nat) (t : List Ls) (w : World) (hl : Lss w A n t) (hc : n ≤ c) (hc2 : c ≤ maxLen) (hz : sizeL t ≤ 1048576) :
    Calls Tryz.prog 17 #[.slice A n c] w fun e w' => e = .returned (.int .i64 (sizeL t : Nat)) ∧ w = w' := by
  have tn := Nat.le_trans hc hc2
  unfold maxLen at tn
  have hlen := hl.len
  have hs := sizeL_sum t
  rw [hlen] at hs
  obtain ⟨Z, hZ⟩ : ∃ Z, sizeL t = Z := ⟨_, rfl⟩
  rw [hZ] at hs hz ⊢
  obtain ⟨M, hM⟩ : ∃ M, sumN t = M := ⟨_, rfl⟩
  rw [hM] at hs
  have HM := Lib.hid hM
  have HL := Lib.hid hlen
  clear hZ hM hlen
  go_enter Tryz.func17, Tryz.ntmps17
  go_wp2_with fail
  go_loop [3, 4] (fun v i => ∃ (z j : Nat), j ≤ n ∧ v = .int .i64 z ∧ i = .int .i64 j ∧ Hid (z = n + sumN (t.take j)) ∧ z ≤ Z) (fun _ i => n - (intOf i).toNat)
  case atStart => exact ⟨n, 0, Nat.zero_le _, rfl, rfl, Lib.hid (by simp [sumN]), by omega⟩
  case round =>
    obtain ⟨z, j, hj, rfl, rfl, hzj, hzZ⟩ := hrel
    by_cases hlt : j < n
    · obtain ⟨p, q, u, hA, hu, hp, hcl, hk⟩ := hl.get hlt
      have hcell : w.cell? ⟨p, q + j, none⟩ = some (.slice u.A u.n u.c) := hcl
      have hjl : j < t.length := by rw [HL.out]; exact hlt
      have hnx : z + u.n = n + sumN (t.take (j + 1)) := by
        rw [List.take_succ_eq_append_getElem hjl, sumN_snoc]
        rw [List.getElem?_eq_getElem hjl] at hu
        rw [Option.some.inj hu, hzj.out]; omega
      have hle : z + u.n ≤ Z := by
        have h1 := sumN_take_le t (j + 1)
        rw [HM.out] at h1
        omega
      have HN := Lib.hid hnx
      subst hA
      clear hcl hl hnx hu hjl
      have hz1 : decide (z ≤ 1048576) = true := decide_eq_true (by omega)
      go_wp2_with fail
      refine (intssize_n u.A u.n u.c w).mono ?_
      rintro e w1 ⟨rfl, rfl⟩
      go_wp2
      go_round
      case rel => exact ⟨z + u.n, j + 1, by omega, by go_num, by go_num, HN, hle⟩
      case measure => simp [intOf]; omega
    · obtain rfl : j = n := by omega
      have hzZ2 : z = Z := by
        have h1 := hzj.out
        rw [List.take_of_length_le (by rw [HL.out]; exact Nat.le_refl _), HM.out] at h1
        omega
      clear hs hz hl
      go_wp2
      go_ret
      exact ⟨rfl, rfl⟩

/-- How much is in a market. -/
def Mk.size (x : Mk) : Nat := 1 + x.r.n + sizeL x.b + x.o.n

set_option maxRecDepth 100000 in
set_option maxHeartbeats 1000000 in
theorem marketsize_all (x : Mk) (w : World) (h : x.Ok w) (hz : x.size ≤ 1048576) :
    Calls Tryz.prog 4 #[x.v] w fun e w' => e = .returned (.int .i64 (x.size : Nat)) ∧ Below w.heap.size w w' := by
  have hxv : x.v = .agg #[.slice x.r.A x.r.n x.r.c, .slice x.A x.n x.c, .slice x.o.A x.o.n x.o.c] := rfl
  rw [hxv]
  have hbox := InBox.new w x
  have hBW : Below w.heap.size w (w.alloc (.cells #[.slice x.r.A x.r.n x.r.c, .slice x.A x.n x.c, .slice x.o.A x.o.n x.o.c] 25)) := (Below.refl _ w).alloc (Nat.le_refl _) _
  have hx := h.below hBW
  clear hxv
  have hil := intlistssize_all x.A x.n x.c x.b
  unfold Mk.size at hz ⊢
  generalize sizeL x.b = Z at *
  go_enter Tryz.func4, Tryz.ntmps4
  go_wp2_with fail
  generalize w.alloc (.cells #[.slice x.r.A x.r.n x.r.c, .slice x.A x.n x.c, .slice x.o.A x.o.n x.o.c] 25) = W at *
  have ⟨c0, c1, c2, clt⟩ := hbox
  refine (intssize_n _ _ _ _).mono ?_
  rintro e w1 ⟨rfl, rfl⟩
  have tr := Nat.le_trans hx.r.cap hx.r.top
  have to := Nat.le_trans hx.o.cap hx.o.top
  unfold maxLen at tr to
  have g1 : decide (1 + (x.r.n : Int) ≤ 1048576) = true := decide_eq_true (by omega)
  have hil := hil W hx.lss hx.cap hx.top (by omega)
  go_wp2_with fail
  refine hil.mono ?_
  rintro e w2 ⟨rfl, rfl⟩
  have g2 : decide (1 + (x.r.n : Int) + (Z : Int) ≤ 1048576) = true := decide_eq_true (by omega)
  go_wp2_with fail
  refine (intssize_n _ _ _ _).mono ?_
  rintro e w3 ⟨rfl, rfl⟩
  go_wp2
  go_ret
  exact ⟨ret_int (by push_cast; omega), hBW⟩
end Go.Proofs.YtjjaajmjcdihoaaGreatDoor
