/-
  Walks of the document's answers of layer 4: Check, Put, Get.
-/
import Derived.Test.YtbcfncdmkgoidaaDoorProg
import Derived.Test.YtbcfncdmkgoidaaDoorKit
import Derived.Test.YtbcfncdmkgoidaaDoorVecD
import Derived.Test.YtbcfncdmkgoidaaDoorRef01b
import Derived.Test.YtbcfncdmkgoidaaDoorRef01p
import Derived.BigQuiet
import Derived.WalkMore
import Derived.Deep.QuietTactic
import Derived.Deep.DeepMust
namespace Go.Proofs.YtbcfncdmkgoidaaDoor
open Go.RowKit
set_option linter.unusedVariables false

set_option maxRecDepth 100000 in
set_option maxHeartbeats 1000000 in
theorem rcheck_any (A : Option Addr) (n c : Nat) (zs : List Int) (items : Int) (w : World) (hr : Rd w A n (ci64 zs)) :
    Calls Tryd.prog 11 #[.slice A n c, .int .i64 items] w fun e w' => e = .returned (.bool (mayB zs items)) ∧ Below w.heap.size w w' := by
  have hl : zs.length = n := by have h := hr.len; rw [ci64_len] at h; exact h
  by_cases h1 : 1 ≤ items
  · by_cases h2 : items ≤ 8
    · by_cases h3 : (n : Int) = items
      · subst h3
        have t1 : decide ((n : Int) < 1) = false := by simp; omega
        have t2 : decide (8 < (n : Int)) = false := by simp; omega
        have t2' : decide (8 < n) = false := by simp; omega
        have HL := Lib.hid hl
        clear hl
        go_enter Tryd.func11, Tryd.ntmps11
        go_wp2
        go_loopw [5] (fun i wr => ∃ j : Nat, j ≤ n ∧ i = .int .i64 j ∧ (∀ z ∈ zs.take j, 0 ≤ z ∧ z ≤ 1000000) ∧ ∃ q, wr = w.drewN q) (fun i _ => n - (intOf i).toNat)
        case atStart => exact ⟨0, Nat.zero_le _, rfl, fun z hz => by simp at hz, 0, rfl⟩
        case round =>
          obtain ⟨j, hj, rfl, hok, q, rfl⟩ := hrel
          have HOK := Lib.hid hok
          clear hok
          by_cases hlt : j < n
          · have hjl : j < zs.length := by rw [HL.out]; exact hlt
            obtain ⟨b, o, rfl, _, u, hu, hc⟩ := hr.get hlt
            rw [ci64_get _ _ hjl] at hu
            cases hu
            unfold iV at hc
            have hmem := List.getElem_mem hjl
            have hT := List.take_succ_eq_append_getElem hjl
            by_cases hz : 0 ≤ zs[j] ∧ zs[j] ≤ 1000000
            · have HN : Hid (∀ z ∈ zs.take (j + 1), 0 ≤ z ∧ z ≤ 1000000) := Lib.hid (by
                rw [hT]
                intro z hz'
                rcases List.mem_append.1 hz' with h | h
                · exact HOK.out z h
                · rw [List.mem_singleton.1 h]; exact hz)
              generalize zs[j] = x at hc hz
              have u1 : decide (x < 0) = false := by simp; omega
              have u2 : decide (1000000 < x) = false := by simp; omega
              clear hmem hT hz
              go_wp2
              first
                | (go_roundw
                   case rel => exact ⟨j + 1, by omega, by go_num, HN.out, _, rfl⟩
                   case measure => simp [intOf]; omega)
                | (go_quiet (fail)
                   go_wp2
                   go_roundw
                   case rel => exact ⟨j + 1, by omega, by go_num, HN.out, _, rfl⟩
                   case measure => simp [intOf]; omega)
            · have HF := Lib.hid (mayB_bad (bid := zs) (items := (n : Int)) hmem (by omega))
              generalize zs[j] = x at hc hz
              clear hmem hT
              by_cases hz0 : x < 0
              · have u1 : decide (x < 0) = true := by simpa using hz0
                go_wp2
                first
                  | (go_ret
                     exact ⟨ret_bool HF.out.symm, belowN (Below.refl _ _) _⟩)
                  | (go_quiet (fail)
                     go_wp2
                     go_ret
                     exact ⟨ret_bool HF.out.symm, belowN (Below.refl _ _) _⟩)
              · have u1 : decide (x < 0) = false := by simp; omega
                have u2 : decide (1000000 < x) = true := by simp; omega
                go_wp2
                first
                  | (go_ret
                     exact ⟨ret_bool HF.out.symm, belowN (Below.refl _ _) _⟩)
                  | (go_quiet (fail)
                     go_wp2
                     go_ret
                     exact ⟨ret_bool HF.out.symm, belowN (Below.refl _ _) _⟩)
          · obtain rfl : j = n := by omega
            have hall := HOK.out
            rw [List.take_of_length_le (by rw [HL.out]; exact Nat.le_refl _)] at hall
            have HF := Lib.hid (mayB_in (bid := zs) h1 h2 (by rw [HL.out]) hall)
            clear hall
            go_wp2
            go_ret
            exact ⟨ret_bool HF.out.symm, belowN (Below.refl _ _) _⟩
      · have e1 := mayB_out (bid := zs) (items := items) (.inr (.inr (by rw [hl]; exact h3)))
        rw [e1]
        have t1 : decide (items < 1) = false := by simp; omega
        have t2 : decide (8 < items) = false := by simp; omega
        have t3 : ((n : Int) != items) = true := by rw [bne_iff_ne]; exact h3
        clear e1 hl hr
        go_enter Tryd.func11, Tryd.ntmps11
        go_wp2
        go_ret
        exact ⟨rfl, Below.refl _ _⟩
    · have e1 := mayB_out (bid := zs) (items := items) (.inr (.inl (by omega)))
      rw [e1]
      have t1 : decide (items < 1) = false := by simp; omega
      have t2 : decide (8 < items) = true := by simp; omega
      clear e1 hl hr
      go_enter Tryd.func11, Tryd.ntmps11
      go_wp2
      go_ret
      exact ⟨rfl, Below.refl _ _⟩
  · have e1 := mayB_out (bid := zs) (items := items) (.inl (by omega))
    rw [e1]
    have t1 : decide (items < 1) = true := by simp; omega
    clear e1 hl hr
    go_enter Tryd.func11, Tryd.ntmps11
    go_wp2
    go_ret
    exact ⟨rfl, Below.refl _ _⟩

theorem rput_any (A : Option Addr) (n c : Nat) (zs : List Int) (w : World) (hr : Rd w A n (ci64 zs)) (hc : n ≤ c) (hc2 : c ≤ maxLen) :
    Calls Tryd.prog 9 #[.slice A n c] w fun e w' => ∃ A' c', e = .returned (.slice A' (1 + 4 * min n 255) c') ∧ Own w' w.heap.size 5 A' (1 + 4 * min n 255) c' (cu8 (putL zs)) ∧ Below w.heap.size w w' := by
  obtain ⟨L, hL⟩ : ∃ L, 1 + 4 * min n 255 = L := ⟨_, rfl⟩
  rw [hL]
  have e0 : 0 + 1 + 4 * min n 255 = L := by omega
  have HL := Lib.hid hL
  have E0 := Lib.hid e0
  clear hL e0
  go_enter Tryd.func9, Tryd.ntmps9
  go_wp2_with fail
  refine (refputlist_any none 0 0 [] A n c zs w (Rd.nil _ _) (by omega) hr hc hc2).mono ?_
  rintro e w1 ⟨A1, c1, rfl, ho, hb⟩
  rw [E0.out] at ho ⊢
  have ho2 : Own w1 w.heap.size 5 A1 L c1 (cu8 (putL zs)) := by simpa using ho
  clear ho
  go_wp2
  go_ret
  exact ⟨A1, c1, rfl, ho2, hb⟩

set_option maxRecDepth 100000 in
set_option maxHeartbeats 1000000 in
theorem rget_any (A : Option Addr) (n c : Nat) (bs : List UInt8) (items : Int) (w : World) (hr : Rd w A n (cu8 bs)) (hc : n ≤ c) (hc2 : c ≤ maxLen) :
    Calls Tryd.prog 8 #[.slice A n c, .int .i64 items] w fun e w' => ∃ A' N c', e = .returned (.tuple #[.slice A' N c', .int .i64 (getVE bs items)]) ∧ (getV bs items).length = N ∧ Own w' w.heap.size 3 A' N c' (ci64 (getV bs items)) ∧ Below w.heap.size w w' := by
  have hl : bs.length = n := by have h := hr.len; rw [cu8_len] at h; exact h
  have hcm := hc2
  unfold maxLen at hc2
  by_cases h1 : items < 1 ∨ 8 < items
  · have e1 := getVE_arg (bs := bs) h1
    have e2 : getV bs items = [] := getV_none (by rw [e1]; omega)
    rw [e1, e2]
    clear e1 e2
    rcases h1 with h1 | h1
    · go_enter Tryd.func8, Tryd.ntmps8
      go_wp2
      go_ret2
      exact ⟨none, 0, 0, rfl, rfl, Own.none_ _ _ _ _, Below.refl _ _⟩
    · go_enter Tryd.func8, Tryd.ntmps8
      go_wp2
      go_ret2
      exact ⟨none, 0, 0, rfl, rfl, Own.none_ _ _ _ _, Below.refl _ _⟩
  · have t1 : decide (items < 1) = false := by simp; omega
    have t2 : decide (8 < items) = false := by simp; omega
    by_cases h2 : bs.length < 1 + 4 * getN (bs.take 1)
    · have e1 := getVE_short h1 h2
      have e2 : getV bs items = [] := getV_none (by rw [e1]; omega)
      rw [e1, e2]
      clear e1 e2
      have HL := Lib.hid hl
      clear hl
      go_enter Tryd.func8, Tryd.ntmps8
      go_wp2_with fail
      refine (refgetlist_fail A n c bs w hr hc hcm (by rw [← HL.out]; exact h2)).mono ?_
      rintro e w1 ⟨rfl, rfl⟩
      go_wp2
      go_ret2
      exact ⟨none, 0, 0, rfl, rfl, Own.none_ _ _ _ _, Below.refl _ _⟩
    · have hk := getN_take1 bs
      obtain ⟨k, hkk⟩ : ∃ k, k = getN (bs.take 1) := ⟨_, rfl⟩
      have hll := getL_len (bs.drop 1) k
      by_cases h3 : bs.length = 1 + 4 * getN (bs.take 1) ∧ mayB (getL (bs.drop 1) (getN (bs.take 1))) items = true
      · have e1 := getVE_ok h1 h3.1 h3.2
        have e2 := (getVE_zero e1).2.2.2
        rw [e1, e2, ← hkk]
        have hm : mayB (getL (bs.drop 1) k) items = true := by rw [hkk]; exact h3.2
        have hn : n = 1 + 4 * k := by rw [← hl, hkk]; exact h3.1
        have hok := refgetlist_ok A n c bs w hr hc hcm (by omega) k hkk (by omega)
        have HOK := Lib.hid hok
        have HKK := Lib.hid hkk
        clear e1 e2 h3 hl hkk h2 hok
        subst hn
        go_enter Tryd.func8, Tryd.ntmps8
        go_wp2_with fail
        refine HOK.out.mono ?_
        rintro e w1 ⟨A1, c1, rfl, ho, hb⟩
        have hrd := ho.rd
        go_wp2_with fail
        refine (rcheck_any A1 k c1 (getL (bs.drop 1) k) items w1 hrd).mono ?_
        rw [hm]
        rintro e w2 ⟨rfl, hb2⟩
        have ho2 := ho.below hb2
        have hB := hb.trans (hb2.mono hb.size)
        clear ho hrd hb hb2 hm
        go_wp2
        go_ret2
        exact ⟨A1, k, c1, rfl, hll, ho2, hB⟩
      · have e1 := getVE_form h1 h2 h3
        have e2 : getV bs items = [] := getV_none (by rw [e1]; omega)
        rw [e1, e2]
        have hge : 1 + 4 * k ≤ n := by rw [← hl, hkk]; omega
        have hok := refgetlist_ok A n c bs w hr hc hcm (by omega) k hkk hge
        have HOK := Lib.hid hok
        have hcase : n ≠ 1 + 4 * k ∨ mayB (getL (bs.drop 1) k) items = false := by
          by_cases hn : n = 1 + 4 * k
          · right
            rw [Bool.eq_false_iff]
            intro hm
            exact h3 ⟨by rw [hl, ← hkk]; exact hn, by rw [← hkk]; exact hm⟩
          · exact .inl hn
        clear e1 e2 h3 hl hkk h2 hok
        by_cases hn : n = 1 + 4 * k
        · have hm := hcase.resolve_left (fun h => h hn)
          subst hn
          clear hcase
          go_enter Tryd.func8, Tryd.ntmps8
          go_wp2_with fail
          refine HOK.out.mono ?_
          rintro e w1 ⟨A1, c1, rfl, ho, hb⟩
          have hrd := ho.rd
          go_wp2_with fail
          refine (rcheck_any A1 k c1 (getL (bs.drop 1) k) items w1 hrd).mono ?_
          rw [hm]
          rintro e w2 ⟨rfl, hb2⟩
          have hB := hb.trans (hb2.mono hb.size)
          clear ho hrd hb hb2 hm
          go_wp2
          go_ret2
          exact ⟨none, 0, 0, rfl, rfl, Own.none_ _ _ _ _, hB⟩
        · have t3 : (((1 + 4 * k : Nat) : Int) != (n : Int)) = true := by rw [bne_iff_ne]; omega
          clear hcase
          go_enter Tryd.func8, Tryd.ntmps8
          go_wp2_with fail
          refine HOK.out.mono ?_
          rintro e w1 ⟨A1, c1, rfl, ho, hb⟩
          clear ho
          have t3' := t3
          simp at t3'
          go_wp2
          go_ret2
          exact ⟨none, 0, 0, rfl, rfl, Own.none_ _ _ _ _, hb⟩

theorem rcheck_of (A : Option Addr) (n c : Nat) (zs : List Int) (items : Int) (w : World) (hr : Rd w A n (ci64 zs)) (β : Bool) (hb : mayB zs items = β) :
    Calls Tryd.prog 11 #[.slice A n c, .int .i64 items] w fun e w' => e = .returned (.bool β) ∧ Below w.heap.size w w' := by
  subst hb
  exact rcheck_any A n c zs items w hr
theorem rput_of (A : Option Addr) (n c : Nat) (zs : List Int) (w : World) (hr : Rd w A n (ci64 zs)) (hc : n ≤ c) (hc2 : c ≤ maxLen) (bs : List UInt8) (hb : putL zs = bs) (L : Nat) (hL : 1 + 4 * min n 255 = L) :
    Calls Tryd.prog 9 #[.slice A n c] w fun e w' => ∃ A' c', e = .returned (.slice A' L c') ∧ Own w' w.heap.size 5 A' L c' (cu8 bs) ∧ Below w.heap.size w w' := by
  subst hb
  subst hL
  exact rput_any A n c zs w hr hc hc2
theorem rget_of (A : Option Addr) (n c : Nat) (bs : List UInt8) (items : Int) (w : World) (hr : Rd w A n (cu8 bs)) (hc : n ≤ c) (hc2 : c ≤ maxLen) (E : Int) (hE : getVE bs items = E) (l : List Int) (hl : getV bs items = l) (N : Nat) (hN : l.length = N) :
    Calls Tryd.prog 8 #[.slice A n c, .int .i64 items] w fun e w' => ∃ A' c', e = .returned (.tuple #[.slice A' N c', .int .i64 E]) ∧ Own w' w.heap.size 3 A' N c' (ci64 l) ∧ Below w.heap.size w w' := by
  subst hE
  subst hl
  subst hN
  refine (rget_any A n c bs items w hr hc hc2).mono ?_
  rintro e w' ⟨A', N, c', rfl, hN, ho, hb⟩
  rw [hN] at *
  exact ⟨A', c', rfl, ho, hb⟩
end Go.Proofs.YtbcfncdmkgoidaaDoor
