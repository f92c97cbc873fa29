/-
  Walks of SameIntLists and SameMarket: are two lists of lists, are two markets the same?
-/
import Derived.Test.YtjjaajmjcdihoaaGreatDoorSameI
import Derived.Test.YtjjaajmjcdihoaaGreatDoorMark
namespace Go.Proofs.YtjjaajmjcdihoaaGreatDoor
open Go.RowKit
set_option linter.unusedVariables false

/-- The slice value '.slice A n _' holds these lists of ints. -/
structure Lss (w : World) (A : Option Addr) (n : Nat) (l : List Ls) : Prop where
  at_ : RdR w 1 A n (l.map fun u => [u.v])
  ok : ∀ u ∈ l, u.Ok w
theorem Lss.len {w : World} {A : Option Addr} {n : Nat} {l : List Ls} (h : Lss w A n l) : l.length = n := by have := h.at_.1; simpa using this
theorem Lss.get {w : World} {A : Option Addr} {n : Nat} {l : List Ls} (h : Lss w A n l) {j : Nat} (hj : j < n) :
    ∃ (p q : Nat) (u : Ls), A = some ⟨p, q, none⟩ ∧ l[j]? = some u ∧ p < w.heap.size ∧ w.cell? ⟨p, q + j, none⟩ = some u.v ∧ u.Ok w := by
  obtain ⟨p, q, hA, hc⟩ := h.at_.2 (by omega)
  have hl : j < l.length := by rw [h.len]; exact hj
  have h1 := hc j [l[j].v] (by simp [hl]) 0 (by omega)
  rw [Nat.mul_one, Nat.add_zero] at h1
  exact ⟨p, q, l[j], hA, List.getElem?_eq_getElem hl, World.block_lt_of_cell? w _ h1, h1, h.ok _ (List.getElem_mem hl)⟩
theorem Mk.Ok.lss {w : World} {x : Mk} (h : x.Ok w) : Lss w x.A x.n x.b := ⟨h.b, h.bs⟩
def Ls.all (l : List Ls) : List (List Int) := l.map Ls.zs

set_option maxRecDepth 100000 in
set_option maxHeartbeats 400000 in
theorem sameintlists (A : Option Addr) (n c : Nat) (xs : List Ls) (A2 : Option Addr) (m c2 : Nat) (ys : List Ls) (w : World) (hr : Lss w A n xs) (hr2 : Lss w A2 m ys) (hn : n ≤ maxLen) :
    Calls Tryz.prog 9 #[.slice A n c, .slice A2 m c2] w fun e w' => e = .returned (.bool (Ls.all xs == Ls.all ys)) ∧ ∃ q, w' = w.drewN q := by
  unfold maxLen at hn
  have hx := hr.len
  have hy := hr2.len
  have HX := Lib.hid hx
  have HY := Lib.hid hy
  clear hx hy
  by_cases hnm : n = m
  · subst hnm
    go_enter Tryz.func9, Tryz.ntmps9
    go_wp2
    go_loopw [5] (fun i wr => ∃ j : Nat, j ≤ n ∧ i = .int .i64 j ∧ (Ls.all xs).take j = (Ls.all ys).take j ∧ ∃ q, wr = w.drewN q) (fun i _ => n - (intOf i).toNat)
    case atStart => exact ⟨0, Nat.zero_le _, rfl, rfl, 0, rfl⟩
    case round =>
      obtain ⟨j, hj, rfl, ht, q, rfl⟩ := hrel
      have HT := Lib.hid ht
      clear ht
      by_cases hlt : j < n
      · obtain ⟨b, o, u, rfl, hu, hb, hc, hk⟩ := hr.get hlt
        obtain ⟨b2, o2, u2, rfl, hu2, hb2, hc2, hk2⟩ := hr2.get hlt
        have hlx : j < (Ls.all xs).length := by rw [Ls.all, List.length_map, HX.out]; exact hlt
        have hly : j < (Ls.all ys).length := by rw [Ls.all, List.length_map, HY.out]; exact hlt
        have gx : (Ls.all xs)[j] = u.zs := by
          have h : (Ls.all xs)[j]? = some u.zs := by rw [Ls.all, List.getElem?_map, hu]; rfl
          rw [List.getElem?_eq_getElem hlx] at h
          exact Option.some.inj h
        have gy : (Ls.all ys)[j] = u2.zs := by
          have h : (Ls.all ys)[j]? = some u2.zs := by rw [Ls.all, List.getElem?_map, hu2]; rfl
          rw [List.getElem?_eq_getElem hly] at h
          exact Option.some.inj h
        have ht2 := hk.cap
        have ht3 := hk.top
        unfold Ls.v at hc hc2
        by_cases hxy : u.zs = u2.zs
        · have hq : (u.zs == u2.zs) = true := by rw [hxy]; simp
          have HQ := Lib.hid hq
          have HXY := Lib.hid hxy
          clear hxy hq
          go_wp2
          go_quiet ((refine (sameintsq _ _ _ u.zs _ _ _ u2.zs _ (Rd.drewN hk.rd _) (Rd.drewN hk2.rd _) (Nat.le_trans ht2 ht3)).mono ?_; rintro e w' ⟨rfl, q2, rfl⟩; exact ⟨ret_bool HQ.out, _, by rw [World.drewN_drewN, Nat.add_assoc]⟩))
          go_wp2
          go_roundw
          case rel => exact ⟨j + 1, by omega, by go_num, by rw [List.take_succ_eq_append_getElem hlx, List.take_succ_eq_append_getElem hly, HT.out, gx, gy, HXY.out], _, rfl⟩
          case measure => simp [intOf]; omega
        · have hq : (u.zs == u2.zs) = false := by rw [beq_eq_false_iff_ne]; exact hxy
          have HQ := Lib.hid hq
          have hfin : (Ls.all xs == Ls.all ys) = false := by
            rw [beq_eq_false_iff_ne]
            intro h
            apply hxy
            rw [← gx, ← gy]
            exact List.getElem_of_eq h hlx
          have HF := Lib.hid hfin
          clear hxy hq hfin
          go_wp2
          go_quiet ((refine (sameintsq _ _ _ u.zs _ _ _ u2.zs _ (Rd.drewN hk.rd _) (Rd.drewN hk2.rd _) (Nat.le_trans ht2 ht3)).mono ?_; rintro e w' ⟨rfl, q2, rfl⟩; exact ⟨ret_bool HQ.out, _, by rw [World.drewN_drewN, Nat.add_assoc]⟩))
          go_wp2
          go_ret
          exact ⟨ret_bool HF.out.symm, q + nq, by rw [World.drewN_drewN]⟩
      · obtain rfl : j = n := by omega
        have hfin : (Ls.all xs == Ls.all ys) = true := by
          rw [beq_iff_eq]
          have h := HT.out
          rw [List.take_of_length_le (by rw [Ls.all, List.length_map, HX.out]; omega), List.take_of_length_le (by rw [Ls.all, List.length_map, HY.out]; omega)] at h
          exact h
        have HF := Lib.hid hfin
        clear hfin
        go_wp2
        go_ret
        exact ⟨ret_bool HF.out.symm, _, rfl⟩
  · have h1 : ((n : Int) != (m : Int)) = true := by rw [bne_iff_ne]; omega
    have hfin : (Ls.all xs == Ls.all ys) = false := by
      rw [beq_eq_false_iff_ne]
      intro h
      have h2 := congrArg List.length h
      simp only [Ls.all, List.length_map] at h2
      rw [HX.out, HY.out] at h2
      exact hnm h2
    have HF := Lib.hid hfin
    clear hfin
    go_enter Tryz.func9, Tryz.ntmps9
    go_wp2
    go_ret
    exact ⟨ret_bool HF.out.symm, 0, rfl⟩

end Go.Proofs.YtjjaajmjcdihoaaGreatDoor
