/-
  Walks of package markets: the parts that Get reads, one behind the other; Get.
-/
import Derived.Test.YtfhiedlglmgneaaMarkG
import Derived.Test.YtfhiedlglmgneaaMarkWc
import Derived.Shelf.Abstract
namespace Go.Proofs.Ytfhiedlglmgneaa
open Go.RowKit
set_option linter.unusedVariables false

/-- A store into a block that lay there goes ahead of whatever is laid behind it. -/
theorem below_set {B : Nat} {w w1 : World} (h : Below B w w1) {g j : Nat} (hg : g < B) (v : Value) : Below B (w.setCell ⟨g, j, none⟩ v) (w1.setCell ⟨g, j, none⟩ v) := by
  refine ⟨h.os, h.tape, h.output, by simp only [World.setCell, Array.size_modify]; exact h.size, fun k hk => ?_⟩
  have h1 := h.block k hk
  simp only [World.setCell, Array.getElem?_modify]
  rw [h1]

set_option maxRecDepth 100000 in
set_option maxHeartbeats 1000000 in
/-- The part that is a list: it lays it where it was told. -/
theorem listp_any (A : Option Addr) (n c : Nat) (bs : List UInt8) (w : World) (hr : Rd w A n (cu8 bs)) (hc : n ≤ c) (hcm : c ≤ maxLen) (gb gp jp : Nat) (hbox : w.heap[gb]? = some (.cells #[.pointer (some ⟨gp, jp, none⟩)] 58 (0, 0)))
    (B : Nat) (e0 : TypeId) (np cp : Nat) (xs : List Value) (ho : Own w B e0 (some ⟨gp, 0, none⟩) np cp xs) (hj : jp < np) (hne : gb ≠ gp) :
    Calls Try.prog 31 #[.slice A n c, .pointer (some ⟨gb, 0, none⟩)] w fun e w' =>
      (getLp bs = none ∧ e = .returned (.tuple #[.int .i64 0, .int .i64 5]) ∧ Below w.heap.size (w.setCell ⟨gp, jp, none⟩ (.slice none 0 0)) w') ∨
      (∃ l r A' k c', getLp bs = some (l, r) ∧ r.length ≤ n ∧ e = .returned (.tuple #[.int .i64 (n - r.length : Nat), .int .i64 0]) ∧ OwnI w' w.heap.size ⟨A', k, c', l⟩ ∧ Below w.heap.size (w.setCell ⟨gp, jp, none⟩ (.slice A' k c')) w') := by
  have hl : bs.length = n := by have h := hr.len; rw [cu8_len] at h; exact h
  have HL := Lib.hid hl
  have hb0 : w.heap.size ≤ w.heap.size := Nat.le_refl _
  have hgb := lt_of_block hbox
  have cB := cell_of_one hbox
  obtain ⟨g', hg', hgB, hgp⟩ := ho.lt (by have := ho.le; omega)
  obtain rfl : gp = g' := by injection hg' with h; injection h
  clear hg'
  clear hl
  rcases getLp_cases bs with ⟨g1, g2⟩ | ⟨l, r, g1, g2, g3, g4, g5⟩
  · have hgo := getlist_fail A n c bs w.drew hr.drew hc hcm (by rw [← HL.out]; exact g2)
    clear g2
    go_enter Try.func31, Try.ntmps31
    go_wp2_with fail
    refine wp_region_ord (S := fun w' => w'.cell? ⟨gb, 0, none⟩ = some (.pointer (some ⟨gp, jp, none⟩)) ∧ w'.cell? ⟨gb, 0, none⟩ = some (.pointer (some ⟨gp, jp, none⟩))) [(0, true), (1, true), (2, false), (3, true), (4, true), (5, true), (6, true), (7, true), (8, false), (9, true), (10, true)] default (by kernel_rfl) (by kernel_rfl) (by kernel_rfl) ⟨cB, cB⟩ ?_
    simp only [getOrd, nth]
    repeat (first | (refine ordS (by rfl) ?_; simp only [Act.put, List.setIfInBounds_toArray, List.set_cons_zero, List.set_cons_succ]) | (refine ordN (by rfl) ?_; simp only [Act.put, List.setIfInBounds_toArray, List.set_cons_zero, List.set_cons_succ]) | (refine ordQ (v := ?_) (by rfl) (fun _ hSw => ?_) ?_; rotate_left; (focus ((have hS1 := hSw.1); (have hS2 := hSw.2); clear hSw; go_simp; (first | done | with_reducible rfl))); simp only [Act.put, List.setIfInBounds_toArray, List.set_cons_zero, List.set_cons_succ]))
    refine ordD (by rfl) ?_
    intro K hK
    go_simp
    refine hgo.mono ?_
    rintro e w1 ⟨rfl, rfl⟩
    have hoN := ho.drew
    have c1 : w.drew.cell? ⟨gb, 0, none⟩ = some (.pointer (some ⟨gp, jp, none⟩)) := cB
    go_wp2_with fail
    refine hK _ _ ⟨c1, c1⟩ ?_
    clear hK K
    try simp only [Act.put, List.setIfInBounds_toArray, List.set_cons_zero, List.set_cons_succ]
    repeat (first | (refine ordS (by rfl) ?_; simp only [Act.put, List.setIfInBounds_toArray, List.set_cons_zero, List.set_cons_succ]) | (refine ordN (by rfl) ?_; simp only [Act.put, List.setIfInBounds_toArray, List.set_cons_zero, List.set_cons_succ]) | (refine ordQ (v := ?_) (by rfl) (fun _ hSw => ?_) ?_; rotate_left; (focus ((have hS1 := hSw.1); (have hS2 := hSw.2); clear hSw; go_simp; (first | done | with_reducible rfl))); simp only [Act.put, List.setIfInBounds_toArray, List.set_cons_zero, List.set_cons_succ]))
    have fr := hoN.free (by have := hoN.le; omega) jp
    obtain ⟨vo, hvo⟩ : ∃ v, w.drew.cell? ⟨gp, jp, none⟩ = some v := by
      have h := hoN.cell hj
      rw [List.getElem?_eq_getElem (by rw [hoN.len]; exact hj)] at h
      exact ⟨_, h⟩
    refine ordD (by rfl) ?_
    intro K hK
    go_simp
    have cN : (w.drew.setCell ⟨gp, jp, none⟩ (.slice none 0 0)).cell? ⟨gb, 0, none⟩ = some (.pointer (some ⟨gp, jp, none⟩)) := (World.cell?_of_block (setCell_ne' hne)).trans c1
    refine hK _ _ ⟨cN, cN⟩ ?_
    clear hK K
    try simp only [Act.put, List.setIfInBounds_toArray, List.set_cons_zero, List.set_cons_succ]
    repeat (first | (refine ordS (by rfl) ?_; simp only [Act.put, List.setIfInBounds_toArray, List.set_cons_zero, List.set_cons_succ]) | (refine ordN (by rfl) ?_; simp only [Act.put, List.setIfInBounds_toArray, List.set_cons_zero, List.set_cons_succ]) | (refine ordQ (v := ?_) (by rfl) (fun _ hSw => ?_) ?_; rotate_left; (focus ((have hS1 := hSw.1); (have hS2 := hSw.2); clear hSw; go_simp; (first | done | with_reducible rfl))); simp only [Act.put, List.setIfInBounds_toArray, List.set_cons_zero, List.set_cons_succ]))
    refine ordE ?_
    go_wp2
    go_ret2
    exact .inl ⟨g1, rfl, below_set ((Below.refl _ w).drew) hgp _⟩
  · obtain ⟨k, hk⟩ : ∃ k, k = getN (bs.take 1) := ⟨_, rfl⟩
    rw [← hk] at g2 g3 g4
    have hlen := HL.out
    have hgo := getlist_ok A n c bs w.drew hr.drew hc hcm (by omega) k hk (by omega)
    rw [← g2] at hgo
    have hrl : n - r.length = 1 + 4 * k ∧ r.length ≤ n := by rw [g3, List.length_drop]; omega
    obtain ⟨tk, htk⟩ : ∃ tk, 1 + 4 * k = tk := ⟨_, rfl⟩
    rw [htk] at hrl hgo
    have HRL := Lib.hid hrl
    clear g2 g3 g4 hk hrl htk hlen
    go_enter Try.func31, Try.ntmps31
    go_wp2_with fail
    refine wp_region_ord (S := fun w' => w'.cell? ⟨gb, 0, none⟩ = some (.pointer (some ⟨gp, jp, none⟩)) ∧ w'.cell? ⟨gb, 0, none⟩ = some (.pointer (some ⟨gp, jp, none⟩))) [(0, true), (1, true), (2, false), (3, true), (4, true), (5, true), (6, true), (7, true), (8, false), (9, true), (10, true)] default (by kernel_rfl) (by kernel_rfl) (by kernel_rfl) ⟨cB, cB⟩ ?_
    simp only [getOrd, nth]
    repeat (first | (refine ordS (by rfl) ?_; simp only [Act.put, List.setIfInBounds_toArray, List.set_cons_zero, List.set_cons_succ]) | (refine ordN (by rfl) ?_; simp only [Act.put, List.setIfInBounds_toArray, List.set_cons_zero, List.set_cons_succ]) | (refine ordQ (v := ?_) (by rfl) (fun _ hSw => ?_) ?_; rotate_left; (focus ((have hS1 := hSw.1); (have hS2 := hSw.2); clear hSw; go_simp; (first | done | with_reducible rfl))); simp only [Act.put, List.setIfInBounds_toArray, List.set_cons_zero, List.set_cons_succ]))
    refine ordD (by rfl) ?_
    intro K hK
    go_simp
    refine hgo.mono ?_
    rintro e w1 ⟨A', c', rfl, hown, hb1⟩
    have hb1 : Below w.heap.size w w1 := ((Below.refl _ w).drew).trans hb1
    have hoN := ho.below hb1
    have c1 : w1.cell? ⟨gb, 0, none⟩ = some (.pointer (some ⟨gp, jp, none⟩)) := (hb1.cell (p := ⟨gb, 0, none⟩) hgb).trans cB
    go_wp2_with fail
    refine hK _ _ ⟨c1, c1⟩ ?_
    clear hK K
    try simp only [Act.put, List.setIfInBounds_toArray, List.set_cons_zero, List.set_cons_succ]
    repeat (first | (refine ordS (by rfl) ?_; simp only [Act.put, List.setIfInBounds_toArray, List.set_cons_zero, List.set_cons_succ]) | (refine ordN (by rfl) ?_; simp only [Act.put, List.setIfInBounds_toArray, List.set_cons_zero, List.set_cons_succ]) | (refine ordQ (v := ?_) (by rfl) (fun _ hSw => ?_) ?_; rotate_left; (focus ((have hS1 := hSw.1); (have hS2 := hSw.2); clear hSw; go_simp; (first | done | with_reducible rfl))); simp only [Act.put, List.setIfInBounds_toArray, List.set_cons_zero, List.set_cons_succ]))
    have fr := hoN.free (by have := hoN.le; omega) jp
    obtain ⟨vo, hvo⟩ : ∃ v, w1.cell? ⟨gp, jp, none⟩ = some v := by
      have h := hoN.cell hj
      rw [List.getElem?_eq_getElem (by rw [hoN.len]; exact hj)] at h
      exact ⟨_, h⟩
    refine ordD (by rfl) ?_
    intro K hK
    go_simp
    have cN : (w1.setCell ⟨gp, jp, none⟩ (.slice A' k c')).cell? ⟨gb, 0, none⟩ = some (.pointer (some ⟨gp, jp, none⟩)) := (World.cell?_of_block (setCell_ne' hne)).trans c1
    refine hK _ _ ⟨cN, cN⟩ ?_
    clear hK K
    try simp only [Act.put, List.setIfInBounds_toArray, List.set_cons_zero, List.set_cons_succ]
    repeat (first | (refine ordS (by rfl) ?_; simp only [Act.put, List.setIfInBounds_toArray, List.set_cons_zero, List.set_cons_succ]) | (refine ordN (by rfl) ?_; simp only [Act.put, List.setIfInBounds_toArray, List.set_cons_zero, List.set_cons_succ]) | (refine ordQ (v := ?_) (by rfl) (fun _ hSw => ?_) ?_; rotate_left; (focus ((have hS1 := hSw.1); (have hS2 := hSw.2); clear hSw; go_simp; (first | done | with_reducible rfl))); simp only [Act.put, List.setIfInBounds_toArray, List.set_cons_zero, List.set_cons_succ]))
    refine ordE ?_
    go_wp2
    go_ret2
    have hnew : OwnI w1 w.heap.size ⟨A', k, c', l⟩ := ⟨hown, small_fit g5⟩
    exact .inr ⟨l, r, A', k, c', g1, HRL.out.2, by rw [HRL.out.1]; rfl, hnew.keepB fun g hg => setCell_ne' (by omega), below_set hb1 hgp _⟩

set_option maxRecDepth 100000 in
set_option maxHeartbeats 1000000 in
/-- Parts that are read one behind the other: pos says how many bytes so many of them take, J what is so then; F what is so where one can't be read. -/
theorem inturn_any (A : Option Addr) (n c : Nat) (Ap : Option Addr) (np cp : Nat) (gf gb : Nat → Nat) (pos : Nat → Option Nat) (J : Nat → World → Prop) (F : World → Prop) (w : World)
    (hn : n ≤ c) (hcm : c ≤ 9223372036854775807) (hnp : np ≤ 1000) (eg : ∀ k, k < np → Enters Try.prog (gf k))
    (h0 : pos 0 = some 0) (hle : ∀ k p, pos k = some p → p ≤ n) (hmono : ∀ k p p', pos k = some p → pos (k + 1) = some p' → p ≤ p')
    (hread : ∀ k W, J k W → ∀ i, i < np → ∃ b o, Ap = some ⟨b, o, none⟩ ∧ W.cell? ⟨b, o + i, none⟩ = some (.func (.func (gf i)) #[] #[.pointer (some ⟨gb i, 0, none⟩)]))
    (hstep : ∀ k, k < np → ∀ p, pos k = some p → ∀ W, J k W → ∀ Aq, (if c = p then A else A.map (fun x => x.add p)) = Aq → Calls Try.prog (gf k) #[.slice Aq (n - p) (c - p), .pointer (some ⟨gb k, 0, none⟩)] W fun e w' =>
      (∃ p', pos (k + 1) = some p' ∧ e = .returned (.tuple #[.int .i64 (p' - p : Nat), .int .i64 0]) ∧ J (k + 1) w') ∨ (pos (k + 1) = none ∧ e = .returned (.tuple #[.int .i64 0, .int .i64 5]) ∧ F w'))
    (hw : J 0 w) :
    Calls Try.prog 26 #[.slice A n c, .slice Ap np cp] w fun e w' =>
      (∃ p, pos np = some p ∧ e = .returned (.tuple #[.int .i64 p, .int .i64 0]) ∧ J np w') ∨ (∃ k, k < np ∧ pos (k + 1) = none ∧ e = .returned (.tuple #[.int .i64 0, .int .i64 5]) ∧ F w') := by
  go_enter Try.func26, Try.ntmps26
  go_wp2_with fail
  go_loopw [4, 12] (fun v i wr => ∃ k p : Nat, k ≤ np ∧ i = .int .i64 k ∧ v = .int .i64 p ∧ Hid (pos k = some p) ∧ J k wr) (fun _ i _ => np - (intOf i).toNat)
  case atStart => exact ⟨0, 0, Nat.zero_le _, rfl, rfl, Lib.hid h0, hw⟩
  case round =>
    obtain ⟨k, p, hk, rfl, rfl, hp, hJ⟩ := hrel
    by_cases hlt : k < np
    · obtain ⟨b, o, hA, hcell⟩ := hread k wr hJ k hlt
      have hpn := hle k p hp.out
      have eg' := eg k hlt
      obtain ⟨Aq, hAq⟩ : ∃ Aq, (if c = p then A else A.map (fun x => x.add p)) = Aq := ⟨_, rfl⟩
      have hgo := hstep k hlt p hp.out wr hJ Aq hAq
      have hpc : p ≤ c := by omega
      subst hA
      unfold Enters at eg'
      go_wp2_with fail
      refine hgo.mono ?_
      rintro e w1 (⟨p', hp', rfl, hJ'⟩ | ⟨hp', rfl, hF⟩)
      · have hpp := hmono k p p' hp.out hp'
        have hpn' := hle _ _ hp'
        have HP := Lib.hid hp'
        obtain ⟨d, rfl⟩ : ∃ d, p' = p + d := ⟨p' - p, by omega⟩
        have hd : p + d - p = d := by omega
        rw [hd]
        clear hd hp' hgo hAq hread hstep hle hmono hJ hcell eg'
        go_wp2
        go_roundw
        case rel => exact ⟨k + 1, p + d, by omega, by go_num, by go_num, HP, hJ'⟩
        case measure => simp [intOf]; omega
      · have HP := Lib.hid hp'
        clear hp' hgo hAq hread hstep hle hmono hJ hcell eg'
        go_wp2
        go_ret2
        exact .inr ⟨k, hlt, HP.out, rfl, hF⟩
    · obtain rfl : k = np := by omega
      clear hread hstep hle hmono eg
      go_wp2
      go_ret2
      exact .inl ⟨p, hp.out, rfl, hJ⟩

set_option maxRecDepth 100000 in
set_option maxHeartbeats 400000 in
/-- A part that is a list is made. -/
theorem list_any (gp jp : Nat) (w : World) :
    Calls Try.prog 27 #[.pointer (some ⟨gp, jp, none⟩)] w fun e w' => e = .returned (.func (.func 31) #[] #[.pointer (some ⟨w.heap.size, 0, none⟩)]) ∧ w.alloc (.cells #[.pointer (some ⟨gp, jp, none⟩)] 58) = w' := by
  have hmf : ∀ (fn : Fn) (first cap : Array Value) (w : World), (Instr.makeFunc fn first cap).run Try.prog w = .ok (.func fn first cap) w := fun _ _ _ _ => rfl
  go_enter Try.func27, Try.ntmps27
  go_wp2
  go_ret
  exact ⟨rfl, rfl⟩
set_option maxRecDepth 100000 in
set_option maxHeartbeats 400000 in
theorem lists_any (gp jp : Nat) (w : World) :
    Calls Try.prog 28 #[.pointer (some ⟨gp, jp, none⟩)] w fun e w' => e = .returned (.func (.func 33) #[] #[.pointer (some ⟨w.heap.size, 0, none⟩)]) ∧ w.alloc (.cells #[.pointer (some ⟨gp, jp, none⟩)] 60) = w' := by
  have hmf : ∀ (fn : Fn) (first cap : Array Value) (w : World), (Instr.makeFunc fn first cap).run Try.prog w = .ok (.func fn first cap) w := fun _ _ _ _ => rfl
  go_enter Try.func28, Try.ntmps28
  go_wp2
  go_ret
  exact ⟨rfl, rfl⟩
theorem enters_list : Enters Try.prog 31 := enters_of Try.func31 (by kernel_rfl) rfl
theorem enters_lists : Enters Try.prog 33 := enters_of Try.func33 (by kernel_rfl) rfl
theorem infoB_part : (Try.prog.info? 56).map (fun i => (i.zero, i.size, i.bytes)) = some (some .nilFunc, 1, 8) := by kernel_rfl
end Go.Proofs.Ytfhiedlglmgneaa
