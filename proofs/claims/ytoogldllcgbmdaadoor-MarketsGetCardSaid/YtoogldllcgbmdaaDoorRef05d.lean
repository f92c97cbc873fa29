/-
  Walk of the document's Get of a market.
-/
import Derived.Test.YtoogldllcgbmdaaDoorRef05a
import Derived.Test.YtoogldllcgbmdaaDoorMarkO
import Derived.Test.YtoogldllcgbmdaaDoorMarkG
import Derived.Test.YtoogldllcgbmdaaDoorBookD
namespace Go.Proofs.YtoogldllcgbmdaaDoor
open Go.RowKit
set_option linter.unusedVariables false

theorem info5_ints : (Tryd.prog.info? 24).map (fun i => (i.zero, i.size, i.bytes)) = some (some (.slice none 0 0), 1, 24) := by kernel_rfl
set_option maxRecDepth 100000 in
set_option maxHeartbeats 1000000 in
theorem rgetC : GetC 6 := by
  intro A n c bs w hrd hnc hcm hn
  have hl : bs.length = n := by have h := hrd.len; rw [cu8_len] at h; exact h
  have hcm' := hcm
  unfold maxLen at hcm'
  have hW : ∀ W, (w.alloc (Obj.cells #[.slice none 0 0, .slice none 0 0, .slice none 0 0] 27)).alloc (Obj.cells #[.slice none 0 0, .slice none 0 0, .slice none 0 0] 27) = W →
      Own W w.heap.size 27 (some ⟨w.heap.size, 0, none⟩) 3 3 [.slice none 0 0, .slice none 0 0, .slice none 0 0] ∧ Own W (w.heap.size + 1) 27 (some ⟨w.heap.size + 1, 0, none⟩) 3 3 [.slice none 0 0, .slice none 0 0, .slice none 0 0] ∧ Below w.heap.size w W ∧ W.heap.size = w.heap.size + 2 := by
    rintro _ rfl
    have hz : ∀ o1 : Obj, (w.alloc o1).heap.size = w.heap.size + 1 := fun o1 => Array.size_push ..
    have h1 := Own.lit (B := w.heap.size) w 27 #[.slice none 0 0, .slice none 0 0, .slice none 0 0] 3 (Nat.le_refl _) rfl (by unfold maxLen; omega)
    have h2 := Own.lit (B := w.heap.size + 1) (w.alloc (Obj.cells #[.slice none 0 0, .slice none 0 0, .slice none 0 0] 27)) 27 #[.slice none 0 0, .slice none 0 0, .slice none 0 0] 3 (Nat.le_of_eq (hz _).symm) rfl (by unfold maxLen; omega)
    rw [hz] at h2
    refine ⟨h1.alloc _, h2, ((Below.refl _ w).alloc (Nat.le_refl _) _).alloc (by rw [hz]; omega) _, ?_⟩
    show ((w.heap.push _).push _).size = _
    rw [Array.size_push, Array.size_push]
  go_enter Tryd.func6, Tryd.ntmps6
  go_wp2_with fail
  generalize hWW : (w.alloc (Obj.cells #[.slice none 0 0, .slice none 0 0, .slice none 0 0] 27)).alloc (Obj.cells #[.slice none 0 0, .slice none 0 0, .slice none 0 0] 27) = W
  obtain ⟨hR, hM, hBW, hWs⟩ := hW W hWW
  clear hW hWW
  have hHL := Lib.hid hl
  rcases getLp_cases bs with ⟨p1, p2⟩ | ⟨r, q, p1, p2, p3, p4, p5⟩
  · have HE := Lib.hid (getME_none (readM_n1 p1))
    refine (refgetlist_fail A n c bs W (hrd.below hBW) hnc hcm (by rw [← hl]; exact p2)).mono ?_
    rintro e w1 ⟨rfl, rfl⟩
    clear hl p1 p2
    have hR0 := hR.free (by omega) 0
    have hR1 := hR.cell (j := 0) (by omega)
    have hR2 := hR.cell (j := 1) (by omega)
    have hR3 := hR.cell (j := 2) (by omega)
    have hR4 := hR.free (by omega) 1
    have hR5 := hR.free (by omega) 2
    simp only [List.getElem?_cons_zero, List.getElem?_cons_succ] at hR1 hR2 hR3
    go_wp2
    (try simp only [Exit.inBlock, Exit.then])
    refine bodyPost_ret (v := .tuple #[.agg #[.slice none 0 0, .slice none 0 0, .slice none 0 0], .int .i64 5]) ?r rfl ?_
    case r =>
      simp only [results, Tryd.f6]
      go_simp
    have hE := HE.out
    refine ⟨Mk.nil, by rw [hE]; rfl, MkOwn.nil _ _, by rw [getM_bad (by rw [hE]; omega)]; rfl, ?_⟩
    exact ((hBW.setCell (p := ⟨w.heap.size, 0, none⟩) (Nat.le_refl _) _).setCell (p := ⟨w.heap.size, 1, none⟩) (Nat.le_refl _) _).setCell (p := ⟨w.heap.size, 2, none⟩) (Nat.le_refl _) _
  · have Q1 := Lib.hid p1
    obtain ⟨k1, hk1⟩ : ∃ k, k = getN (bs.take 1) := ⟨_, rfl⟩
    rw [← hk1] at p2 p3 p4
    refine (refgetlist_ok A n c bs W (hrd.below hBW) hnc hcm (by omega) k1 hk1 (by omega)).mono ?_
    rintro e w1 ⟨A1, c1, rfl, ho1, hb1⟩
    rw [← p2] at ho1
    obtain ⟨tk, htk⟩ : ∃ tk, tk = 1 + 4 * k1 := ⟨_, rfl⟩
    rw [← htk] at p3 p4 ⊢
    have htn : tk ≤ n := by omega
    have hR1 := hR.below hb1
    have hM1 := hM.below hb1
    have hB1 := hBW.trans (hb1.mono hBW.size)
    have hr1 : OwnI w1 W.heap.size ⟨A1, k1, c1, r⟩ := ⟨ho1, small_fit p5⟩
    have hcut := hrd.cut (lo := tk) (hi := n) (cap := c) htn (Nat.le_refl _) hnc
    obtain ⟨Aq, hAq⟩ : ∃ Aq, (if c = tk then A else A.map (fun x => x.add tk)) = Aq := ⟨_, rfl⟩
    rw [hAq] at hcut
    rw [cu8_drop, cu8_take, ← p3, List.take_of_length_le (by rw [p3, List.length_drop]; omega)] at hcut
    have hql : q.length = n - tk := by rw [p3, List.length_drop]; omega
    have m0 := hM1.cell (j := 0) (by omega)
    have m1 := hM1.free (by omega) 0
    simp only [List.getElem?_cons_zero] at m0
    have HK1 := Lib.hid hk1
    have HTK := Lib.hid htk
    have hM2 := hM1.set (by omega) 0 (.slice A1 k1 c1)
    simp only [List.set_cons_zero] at hM2
    have hB2 := hB1.setCell (p := ⟨w.heap.size + 1, 0, none⟩) (Nat.le_succ _) (.slice A1 k1 c1)
    have hR2 : Own (w1.setCell ⟨w.heap.size + 1, 0, none⟩ (.slice A1 k1 c1)) w.heap.size 27 (some ⟨w.heap.size, 0, none⟩) 3 3 [.slice none 0 0, .slice none 0 0, .slice none 0 0] := hR1.keep fun g hA _ _ _ => setCell_ne (by intro he; injection hA with hA; injection hA with hA; rw [he] at hA; simp at hA)
    have hsW : w.heap.size + 2 ≤ w1.heap.size := by have := hb1.size; omega
    have hr2 : OwnI (w1.setCell ⟨w.heap.size + 1, 0, none⟩ (.slice A1 k1 c1)) W.heap.size ⟨A1, k1, c1, r⟩ := ⟨hr1.own.keep fun g _ _ hg _ => setCell_ne (by show g ≠ w.heap.size + 1; omega), hr1.fit⟩
    have hcq : n - tk ≤ c - tk ∧ c - tk ≤ 9223372036854775807 ∧ n - tk ≤ 1000000 := by omega
    have hsz2 : (w1.setCell ⟨w.heap.size + 1, 0, none⟩ (.slice A1 k1 c1)).heap.size = w1.heap.size := by simp [World.setCell]
    clear hb1 ho1 hR hM hR1 hM1 hr1 hl p1 p2 hBW hk1 htk p3
    go_wp2_with fail
    clear hAq m0 m1
    generalize n - tk = nq at hcut hql hcq ⊢
    generalize c - tk = cq at hcq ⊢
    generalize w1.setCell ⟨w.heap.size + 1, 0, none⟩ (.slice A1 k1 c1) = w2 at *
    have hcm2 : cq ≤ maxLen := by unfold maxLen; omega
    by_cases hq0 : nq < 1
    · have HE := Lib.hid (getME_none (readM_n2 Q1.out (by omega)))
      refine (refget_short Aq nq cq 1 w2 (by omega) (by omega) hq0).mono ?_
      rintro e w3 ⟨rfl, rfl⟩
      have hR := hR2
      have hR0 := hR.free (by omega) 0
      have hR1 := hR.cell (j := 0) (by omega)
      have hR2 := hR.cell (j := 1) (by omega)
      have hR3 := hR.cell (j := 2) (by omega)
      have hR4 := hR.free (by omega) 1
      have hR5 := hR.free (by omega) 2
      simp only [List.getElem?_cons_zero, List.getElem?_cons_succ] at hR1 hR2 hR3
      go_wp2
      (try simp only [Exit.inBlock, Exit.then])
      refine bodyPost_ret (v := .tuple #[.agg #[.slice none 0 0, .slice none 0 0, .slice none 0 0], .int .i64 5]) ?r rfl ?_
      case r =>
        simp only [results, Tryd.f6]
        go_simp
      have hE := HE.out
      refine ⟨Mk.nil, by rw [hE]; rfl, MkOwn.nil _ _, by rw [getM_bad (by rw [hE]; omega)]; rfl, ?_⟩
      exact ((hB2.setCell (p := ⟨w.heap.size, 0, none⟩) (Nat.le_refl _) _).setCell (p := ⟨w.heap.size, 1, none⟩) (Nat.le_refl _) _).setCell (p := ⟨w.heap.size, 2, none⟩) (Nat.le_refl _) _
    · have hgok := refget_ok Aq nq cq q 1 w2 (hcut.below hB2) hcq.1 hcm2 (by omega) (by omega) (by omega)
      obtain ⟨nb, hnb⟩ : ∃ nb, nb = getN (q.take 1) := ⟨_, rfl⟩
      rw [← hnb] at hgok
      have hnb2 : nb < 256 := by have := getN_take1 q; omega
      refine hgok.mono ?_
      rintro e w3 ⟨rfl, rfl⟩
      have hcut2 := hcut.cut (lo := 1) (hi := nq) (cap := cq) (by omega) (Nat.le_refl _) hcq.1
      rw [cu8_drop, cu8_take, List.take_of_length_le (by rw [List.length_drop]; omega)] at hcut2
      have hadd : (fun x : Addr => x.add 1) = fun x => (⟨x.block, x.off + 1, none⟩ : Addr) := by funext x; simp [Addr.add]
      rw [hadd] at hcut2
      obtain ⟨Ab, hAb⟩ : ∃ Ab, (if cq = 1 then Aq else Aq.map (fun x => (⟨x.block, x.off + 1, none⟩ : Addr))) = Ab := ⟨_, rfl⟩
      rw [hAb] at hcut2
      have HNB := Lib.hid hnb
      have h1n : 1 ≤ nq := by omega
      have hcq2 : nq - 1 ≤ cq - 1 ∧ cq - 1 ≤ 9223372036854775807 ∧ nq - 1 ≤ 1000000 := by omega
      have Q0 := Lib.hid (show ¬ q.length < 1 by omega)
      clear hgok hnb hq0 hcut hadd
      go_wp2_with fail
      clear hAb
      generalize nq - 1 = n5 at hcut2 hcq2 ⊢
      generalize cq - 1 = c5 at hcq2 ⊢
      obtain ⟨q0, hq0⟩ : ∃ q0, q0 = q.drop 1 := ⟨_, rfl⟩
      rw [← hq0] at hcut2
      have HQ0 := Lib.hid hq0
      have hBo := hB2
      obtain ⟨s1, hs1⟩ : ∃ s1, s1 = w2.heap.size := ⟨_, rfl⟩
      have hs1' : w.heap.size + 2 ≤ s1 := by omega
      have hrlt : ∀ g, Blk ⟨A1, k1, c1, r⟩ g → g < s1 := fun g hg => by rw [hs1]; exact (hr2.blk hg).2
      obtain ⟨i1, hi1, hy0, hy1, hy2⟩ := info_parts info5_ints
      have hs1le : s1 ≤ w2.heap.size := Nat.le_of_eq hs1
      clear hs1 hsz2
      go_loopw [0, 9] (fun b i wr => ∃ (j n' c' : Nat) (Ab' : Option Addr) (qj : List UInt8) (A' : Option Addr) (cb : Nat) (t : List Ls), j ≤ nb ∧ i = .int .u64 j ∧ b = .slice Ab' n' c' ∧ Rd w Ab' n' (cu8 qj) ∧ (n' ≤ c' ∧ c' ≤ 9223372036854775807 ∧ n' ≤ 1000000) ∧ Hid (getLs j q0 = some (Ls.all t, qj)) ∧
        Own wr w.heap.size 27 (some ⟨w.heap.size, 0, none⟩) 3 3 [.slice none 0 0, .slice none 0 0, .slice none 0 0] ∧ Own wr (w.heap.size + 1) 27 (some ⟨w.heap.size + 1, 0, none⟩) 3 3 [.slice A1 k1 c1, .slice A' j cb, .slice none 0 0] ∧
        OwnI wr W.heap.size ⟨A1, k1, c1, r⟩ ∧ Outs wr s1 A' j cb t ∧ s1 ≤ wr.heap.size ∧ Below w.heap.size w wr) (fun _ i _ => nb - (intOf i).toNat)
      case atStart => exact ⟨0, n5, c5, Ab, q0, none, 0, [], Nat.zero_le _, rfl, rfl, hcut2, hcq2, Lib.hid rfl, hR2, hM2, hr2, Outs.none_ _ _, hs1le, hB2⟩
      case round =>
        obtain ⟨j, n', c', Ab', qj, A', cb, t, hj, rfl, rfl, hrdj, hcj, hgj, hRj, hMj, hrj, hout, hsj, hBj⟩ := hrel
        have hcmj : c' ≤ maxLen := by unfold maxLen; omega
        have hlj : qj.length = n' := by have h := hrdj.len; rw [cu8_len] at h; exact h
        by_cases hlt : j < nb
        · rcases getLp_cases qj with ⟨g1, g2⟩ | ⟨l, qn, g1, g2, g3, g4, g5⟩
          · have HE := Lib.hid (getME_none (readM_n3 Q1.out (by rw [← HNB.out, ← HQ0.out]; exact getLs_none_le (getLs_end hgj.out g1) (by omega))))
            go_wp2_with fail
            refine (refgetlist_fail Ab' n' c' qj wr (hrdj.below hBj) hcj.1 hcmj (by rw [← hlj]; exact g2)).mono ?_
            rintro e w3 ⟨rfl, rfl⟩
            have hR := hRj
            clear g1 g2 hrdj hlj hcut2
            have hR0 := hR.free (by omega) 0
            have hR1 := hR.cell (j := 0) (by omega)
            have hR2 := hR.cell (j := 1) (by omega)
            have hR3 := hR.cell (j := 2) (by omega)
            have hR4 := hR.free (by omega) 1
            have hR5 := hR.free (by omega) 2
            simp only [List.getElem?_cons_zero, List.getElem?_cons_succ] at hR1 hR2 hR3
            go_wp2
            (try simp only [Exit.inBlock, Exit.then])
            refine bodyPost_ret (v := .tuple #[.agg #[.slice none 0 0, .slice none 0 0, .slice none 0 0], .int .i64 5]) ?r rfl ?_
            case r =>
              simp only [results, Tryd.f6]
              go_simp
            have hE := HE.out
            refine ⟨Mk.nil, by rw [hE]; rfl, MkOwn.nil _ _, by rw [getM_bad (by rw [hE]; omega)]; rfl, ?_⟩
            exact ((hBj.setCell (p := ⟨w.heap.size, 0, none⟩) (Nat.le_refl _) _).setCell (p := ⟨w.heap.size, 1, none⟩) (Nat.le_refl _) _).setCell (p := ⟨w.heap.size, 2, none⟩) (Nat.le_refl _) _
          · have hsn := getLs_next hgj.out g1
            have HSN := Lib.hid hsn
            obtain ⟨k2, hk2⟩ : ∃ k, k = getN (qj.take 1) := ⟨_, rfl⟩
            rw [← hk2] at g2 g3 g4
            have hgok := refgetlist_ok Ab' n' c' qj wr (hrdj.below hBj) hcj.1 hcmj (by omega) k2 hk2 (by omega)
            obtain ⟨tk2, htk2⟩ : ∃ tk, tk = 1 + 4 * k2 := ⟨_, rfl⟩
            rw [← htk2] at g3 g4 hgok
            rw [← g2] at hgok
            have htn2 : tk2 ≤ n' := by omega
            have hcut3 := hrdj.cut (lo := tk2) (hi := n') (cap := c') htn2 (Nat.le_refl _) hcj.1
            rw [cu8_drop, cu8_take, ← g3, List.take_of_length_le (by rw [g3, List.length_drop]; omega)] at hcut3
            obtain ⟨Ac, hAc⟩ : ∃ Ac, (if c' = tk2 then Ab' else Ab'.map (fun x => x.add tk2)) = Ac := ⟨_, rfl⟩
            rw [hAc] at hcut3
            have hcj2 : n' - tk2 ≤ c' - tk2 ∧ c' - tk2 ≤ 9223372036854775807 ∧ n' - tk2 ≤ 1000000 := by omega
            have hsep : ∀ y ∈ t, ∀ g, Blk y g → g < wr.heap.size := fun y hy g hg => ((hout.each y hy).blk hg).2
            clear hsn hk2 htk2 g1 g2 g3 hgj
            go_wp2_with fail
            refine hgok.mono ?_
            rintro e w3 ⟨A2, c2, rfl, ho2, hb2⟩
            have hnew : OwnI w3 wr.heap.size ⟨A2, k2, c2, l⟩ := ⟨ho2, small_fit g5⟩
            have hR3 := hRj.below hb2
            have hM3 := hMj.below hb2
            have hr3 := hrj.below hb2
            have hout3 := hout.below hb2
            have hB3 := hBj.trans (hb2.mono hBj.size)
            have hs3 : s1 ≤ w3.heap.size := Nat.le_trans hsj hb2.size
            have m2 := hM3.cell (j := 1) (by omega)
            simp only [List.getElem?_cons_zero, List.getElem?_cons_succ] at m2
            clear hgok ho2 hb2 hRj hMj hrj hout hBj g5
            go_wp2_with (at_builtin; go_must (refine wpList_app1 w3 rfl _ _ 25 rfl 24 i1 _ 24 Tryd.underlying25 hi1 hy0 hy1 hy2 rfl s1 A' j cb _ rfl hout3.own 1 rfl rfl ?x3 ?x4 ?x5 ?_))
            case x3 => simp only [maxLen]; omega
            case x4 => omega
            case x5 => exact hs3
            intro A3 c3 w4 hown4 hbel4 hfr4 hat4
            have hf4 : ∀ k, k < w3.heap.size → ((j = 0 ∧ cb = 0) ∨ A' ≠ some ⟨k, 0, none⟩) → w4.heap[k]? = w3.heap[k]? := fun k hk hh => hfr4 k hk hh
            have hout4 : Outs w4 s1 A3 (j + 1) c3 (t ++ [(⟨A2, k2, c2, l⟩ : Ls)]) := hout3.snoc hnew hsj hsep hown4 hf4
            have hR4 := hR3.other hout3.own (by decide) hf4
            have hM4 := hM3.other hout3.own (by decide) hf4
            have hr4 := hr3.app hout3.own hf4
            have hB4 : Below w.heap.size w w4 := hB3.trans (hbel4.mono (by omega))
            have m3 := hM4.cell (j := 1) (by omega)
            have m4 := hM4.free (by omega) 1
            simp only [List.getElem?_cons_zero, List.getElem?_cons_succ] at m3
            have hM5 := hM4.set (by omega) 1 (.slice A3 (j + 1) c3)
            simp only [List.set_cons_zero, List.set_cons_succ] at hM5
            have hne : ∀ g, g ≠ w.heap.size + 1 → (w4.setCell ⟨w.heap.size + 1, 1, none⟩ (.slice A3 (j + 1) c3)).heap[g]? = w4.heap[g]? := fun g hg => setCell_ne hg
            have hR5 := hR4.keep (w' := w4.setCell ⟨w.heap.size + 1, 1, none⟩ (.slice A3 (j + 1) c3)) fun g hA _ _ _ => hne g (by intro he; injection hA with hA; injection hA with hA; omega)
            have hr5 := hr4.keepB (w' := w4.setCell ⟨w.heap.size + 1, 1, none⟩ (.slice A3 (j + 1) c3)) fun g hg => hne g (by omega)
            have hout5 := hout4.keepB (w' := w4.setCell ⟨w.heap.size + 1, 1, none⟩ (.slice A3 (j + 1) c3)) fun g hg => hne g (by omega)
            have hB5 := hB4.setCell (p := ⟨w.heap.size + 1, 1, none⟩) (Nat.le_succ _) (.slice A3 (j + 1) c3)
            have hs5 : s1 ≤ (w4.setCell ⟨w.heap.size + 1, 1, none⟩ (.slice A3 (j + 1) c3)).heap.size := by simp only [World.setCell]; have := hbel4.size; simp; omega
            have hgn : Hid (getLs (j + 1) q0 = some (Ls.all (t ++ [(⟨A2, k2, c2, l⟩ : Ls)]), qn)) := Lib.hid (by rw [HSN.out]; simp [Ls.all])
            clear hown4 hbel4 hfr4 hat4 hf4 hout3 hR3 hM3 hr3 hB3 hne hout4 hR4 hM4 hr4 hB4 hsep hnew m2
            go_wp2
            go_roundw
            case rel => exact ⟨j + 1, n' - tk2, c' - tk2, Ac, qn, A3, c3, _, by omega, by go_num, rfl, hcut3, hcj2, hgn, hR5, hM5, hr5, hout5, hs5, hB5⟩
            case measure => simp [intOf]; omega
        · obtain rfl : j = nb := by omega
          have hgj2 : getLs (getN (q.take 1)) (q.drop 1) = some (Ls.all t, qj) := by rw [← HNB.out, ← HQ0.out]; exact hgj.out
          have HG2 := Lib.hid hgj2
          clear hgj2 hlt
          rcases getLp_cases qj with ⟨g1, g2⟩ | ⟨o, qn, g1, g2, g3, g4, g5⟩
          · have HE := Lib.hid (getME_none (readM_n4 Q1.out HG2.out g1))
            go_wp2_with fail
            refine (refgetlist_fail Ab' n' c' qj wr (hrdj.below hBj) hcj.1 hcmj (by rw [← hlj]; exact g2)).mono ?_
            rintro e w3 ⟨rfl, rfl⟩
            have hR := hRj
            clear g1 g2 hrdj hlj hcut2
            have hR0 := hR.free (by omega) 0
            have hR1 := hR.cell (j := 0) (by omega)
            have hR2 := hR.cell (j := 1) (by omega)
            have hR3 := hR.cell (j := 2) (by omega)
            have hR4 := hR.free (by omega) 1
            have hR5 := hR.free (by omega) 2
            simp only [List.getElem?_cons_zero, List.getElem?_cons_succ] at hR1 hR2 hR3
            go_wp2
            (try simp only [Exit.inBlock, Exit.then])
            refine bodyPost_ret (v := .tuple #[.agg #[.slice none 0 0, .slice none 0 0, .slice none 0 0], .int .i64 5]) ?r rfl ?_
            case r =>
              simp only [results, Tryd.f6]
              go_simp
            have hE := HE.out
            refine ⟨Mk.nil, by rw [hE]; rfl, MkOwn.nil _ _, by rw [getM_bad (by rw [hE]; omega)]; rfl, ?_⟩
            exact ((hBj.setCell (p := ⟨w.heap.size, 0, none⟩) (Nat.le_refl _) _).setCell (p := ⟨w.heap.size, 1, none⟩) (Nat.le_refl _) _).setCell (p := ⟨w.heap.size, 2, none⟩) (Nat.le_refl _) _
          · have HRS := Lib.hid (readM_s Q1.out Q0.out HG2.out g1)
            obtain ⟨k2, hk2⟩ : ∃ k, k = getN (qj.take 1) := ⟨_, rfl⟩
            rw [← hk2] at g2 g3 g4
            have hgok := refgetlist_ok Ab' n' c' qj wr (hrdj.below hBj) hcj.1 hcmj (by omega) k2 hk2 (by omega)
            obtain ⟨tk2, htk2⟩ : ∃ tk, tk = 1 + 4 * k2 := ⟨_, rfl⟩
            rw [← htk2] at g3 g4 hgok
            rw [← g2] at hgok
            have htn2 : tk2 ≤ n' := by omega
            have hqn : qn = [] ↔ tk2 = n' := by
              rw [g3, List.drop_eq_nil_iff]
              omega
            have HQN := Lib.hid hqn
            have hsep : ∀ y ∈ t, ∀ g, Blk y g → g < wr.heap.size := fun y hy g hg => ((hout.each y hy).blk hg).2
            have htlo : ∀ y ∈ t, ∀ g, Blk y g → s1 ≤ g := fun y hy g hg => ((hout.each y hy).blk hg).1
            clear hk2 htk2 g1 g2 g3 hgj hqn
            go_wp2_with fail
            refine hgok.mono ?_
            rintro e w3 ⟨A2, c2, rfl, ho2, hb2⟩
            have hnew : OwnI w3 wr.heap.size ⟨A2, k2, c2, o⟩ := ⟨ho2, small_fit g5⟩
            have hR3 := hRj.below hb2
            have hM3 := hMj.below hb2
            have hr3 := hrj.below hb2
            have hout3 := hout.below hb2
            have hB3 := hBj.trans (hb2.mono hBj.size)
            have hs3 : s1 ≤ w3.heap.size := Nat.le_trans hsj hb2.size
            have hapt : AptL ((⟨A1, k1, c1, r⟩ : Ls) :: (t ++ [(⟨A2, k2, c2, o⟩ : Ls)])) := by
              refine List.pairwise_cons.2 ⟨fun a ha g hg hg2 => ?_, aptL_snoc hout.apt hsep fun g hg => (hnew.blk hg).1⟩
              have h1 := hrlt g hg
              rcases List.mem_append.1 ha with ha | ha
              · have := htlo a ha g hg2
                omega
              · rw [List.mem_singleton.1 ha] at hg2
                have := (hnew.blk hg2).1
                omega
            have HAPT := Lib.hid hapt
            have m2 := hM3.cell (j := 2) (by omega)
            have m3 := hM3.free (by omega) 2
            simp only [List.getElem?_cons_zero, List.getElem?_cons_succ] at m2
            have hM5 := hM3.set (by omega) 2 (.slice A2 k2 c2)
            simp only [List.set_cons_zero, List.set_cons_succ] at hM5
            have hne : ∀ g, g ≠ w.heap.size + 1 → (w3.setCell ⟨w.heap.size + 1, 2, none⟩ (.slice A2 k2 c2)).heap[g]? = w3.heap[g]? := fun g hg => setCell_ne hg
            have hR5 := hR3.keep (w' := w3.setCell ⟨w.heap.size + 1, 2, none⟩ (.slice A2 k2 c2)) fun g hA _ _ _ => hne g (by intro he; injection hA with hA; injection hA with hA; omega)
            have hr5 := hr3.keepB (w' := w3.setCell ⟨w.heap.size + 1, 2, none⟩ (.slice A2 k2 c2)) fun g hg => hne g (by omega)
            have hout5 := hout3.keepB (w' := w3.setCell ⟨w.heap.size + 1, 2, none⟩ (.slice A2 k2 c2)) fun g hg => hne g (by omega)
            have hnew5 := hnew.keepB (w' := w3.setCell ⟨w.heap.size + 1, 2, none⟩ (.slice A2 k2 c2)) fun g hg => hne g (by omega)
            have hB5 := hB3.setCell (p := ⟨w.heap.size + 1, 2, none⟩) (Nat.le_succ _) (.slice A2 k2 c2)
            have e0 := hM5.cell (j := 0) (by omega)
            have e1 := hM5.cell (j := 1) (by omega)
            have e2 := hM5.cell (j := 2) (by omega)
            simp only [List.getElem?_cons_zero, List.getElem?_cons_succ] at e0 e1 e2
            have hmk : MkOwn (w3.setCell ⟨w.heap.size + 1, 2, none⟩ (.slice A2 k2 c2)) (w.heap.size + 2) ⟨⟨A1, k1, c1, r⟩, A', j, cb, t, ⟨A2, k2, c2, o⟩⟩ :=
              ⟨hr5.mono (by omega), hnew5.mono (by omega), hout5.own.mono (by omega), fun u hu => (hout5.each u hu).mono (by omega), HAPT.out⟩
            clear hgok ho2 hb2 hRj hMj hrj hout hBj g5 hsep htlo hapt hR3 hM3 hr3 hout3 hB3 hne hr5 hout5 hnew5 hnew hM5
            by_cases htq : tk2 = n'
            · have hqe := HQN.out.2 htq
              have ht' : ((tk2 : Int) != (n' : Int)) = false := by rw [htq]; simp
              have hck := rcheckm ⟨⟨A1, k1, c1, r⟩, A', j, cb, t, ⟨A2, k2, c2, o⟩⟩ _ hmk.ok
              obtain ⟨β, hβ⟩ : ∃ β, mayM r (Ls.all t) o = β := ⟨_, rfl⟩
              rw [hβ] at hck
              have HB := Lib.hid hβ
              have HQE := Lib.hid hqe
              clear htq hβ hqe
              go_wp2_with fail
              refine hck.mono ?_
              rintro e w6 ⟨rfl, hb6⟩
              have hR6 := hR5.below hb6
              have hmk6 := hmk.below hb6
              have hB6 := hB5.trans (hb6.mono hB5.size)
              have l0 : w6.cell? ⟨w.heap.size + 1, 0, none⟩ = some (.slice A1 k1 c1) := (hb6.cell (p := ⟨w.heap.size + 1, 0, none⟩) (by simp only [World.setCell, Array.size_modify]; show w.heap.size + 1 < _; omega)).trans e0
              have l1 : w6.cell? ⟨w.heap.size + 1, 1, none⟩ = some (.slice A' j cb) := (hb6.cell (p := ⟨w.heap.size + 1, 1, none⟩) (by simp only [World.setCell, Array.size_modify]; show w.heap.size + 1 < _; omega)).trans e1
              have l2 : w6.cell? ⟨w.heap.size + 1, 2, none⟩ = some (.slice A2 k2 c2) := (hb6.cell (p := ⟨w.heap.size + 1, 2, none⟩) (by simp only [World.setCell, Array.size_modify]; show w.heap.size + 1 < _; omega)).trans e2
              clear hck hmk hb6 hR5 hB5 e0 e1 e2
              cases β
              · have hx : ¬ (qn = [] ∧ mayM r (Ls.all t) o = true) := fun h => by rw [HB.out] at h; exact absurd h.2 (by simp)
                have HE := Lib.hid (getME_bad HRS.out hx)
                have hR := hR6
                clear hx
                have hR0 := hR.free (by omega) 0
                have hR1 := hR.cell (j := 0) (by omega)
                have hR2 := hR.cell (j := 1) (by omega)
                have hR3 := hR.cell (j := 2) (by omega)
                have hR4 := hR.free (by omega) 1
                have hR5 := hR.free (by omega) 2
                simp only [List.getElem?_cons_zero, List.getElem?_cons_succ] at hR1 hR2 hR3
                go_wp2
                (try simp only [Exit.inBlock, Exit.then])
                refine bodyPost_ret (v := .tuple #[.agg #[.slice none 0 0, .slice none 0 0, .slice none 0 0], .int .i64 4]) ?r rfl ?_
                case r =>
                  simp only [results, Tryd.f6]
                  go_simp
                have hE := HE.out
                refine ⟨Mk.nil, by rw [hE]; rfl, MkOwn.nil _ _, by rw [getM_bad (by rw [hE]; omega)]; rfl, ?_⟩
                exact ((hB6.setCell (p := ⟨w.heap.size, 0, none⟩) (Nat.le_refl _) _).setCell (p := ⟨w.heap.size, 1, none⟩) (Nat.le_refl _) _).setCell (p := ⟨w.heap.size, 2, none⟩) (Nat.le_refl _) _
              · have hE := getME_good HRS.out ⟨HQE.out, HB.out⟩
                have hG := getM_good hE HRS.out
                have HE := Lib.hid hE
                have HG := Lib.hid hG
                clear hE hG
                have hR := hR6
                have hR0 := hR.free (by omega) 0
                have hR1 := hR.cell (j := 0) (by omega)
                have hR2 := hR.cell (j := 1) (by omega)
                have hR3 := hR.cell (j := 2) (by omega)
                have hR4 := hR.free (by omega) 1
                have hR5 := hR.free (by omega) 2
                simp only [List.getElem?_cons_zero, List.getElem?_cons_succ] at hR1 hR2 hR3
                go_wp2
                (try simp only [Exit.inBlock, Exit.then])
                refine bodyPost_ret (v := .tuple #[.agg #[.slice A1 k1 c1, .slice A' j cb, .slice A2 k2 c2], .int .i64 0]) ?r rfl ?_
                case r =>
                  simp only [results, Tryd.f6]
                  go_simp
                have hq : ∀ g, w.heap.size + 2 ≤ g → (((w6.setCell ⟨w.heap.size, 0, none⟩ (.slice A1 k1 c1)).setCell ⟨w.heap.size, 1, none⟩ (.slice A' j cb)).setCell ⟨w.heap.size, 2, none⟩ (.slice A2 k2 c2)).heap[g]? = w6.heap[g]? := fun g hg => ((setCell_ne (by show g ≠ w.heap.size; omega)).trans (setCell_ne (by show g ≠ w.heap.size; omega))).trans (setCell_ne (by show g ≠ w.heap.size; omega))
                refine ⟨⟨⟨A1, k1, c1, r⟩, A', j, cb, t, ⟨A2, k2, c2, o⟩⟩, by rw [HE.out]; rfl, ?_, by rw [HG.out]; rfl, ?_⟩
                · exact (⟨hmk6.r.keepB hq, hmk6.o.keepB hq, hmk6.b.keep (fun g _ _ hg _ => hq g hg), fun u hu => (hmk6.bs u hu).keepB hq, hmk6.apt⟩ : MkOwn _ (w.heap.size + 2) _).mono (by omega)
                · exact ((hB6.setCell (p := ⟨w.heap.size, 0, none⟩) (Nat.le_refl _) _).setCell (p := ⟨w.heap.size, 1, none⟩) (Nat.le_refl _) _).setCell (p := ⟨w.heap.size, 2, none⟩) (Nat.le_refl _) _
            · have hx : ¬ (qn = [] ∧ mayM r (Ls.all t) o = true) := fun h => htq (HQN.out.1 h.1)
              have HE := Lib.hid (getME_bad HRS.out hx)
              have ht' : ((tk2 : Int) != (n' : Int)) = true := by rw [bne_iff_ne]; omega
              have hR := hR5
              clear hx htq
              have hR0 := hR.free (by omega) 0
              have hR1 := hR.cell (j := 0) (by omega)
              have hR2 := hR.cell (j := 1) (by omega)
              have hR3 := hR.cell (j := 2) (by omega)
              have hR4 := hR.free (by omega) 1
              have hR5 := hR.free (by omega) 2
              simp only [List.getElem?_cons_zero, List.getElem?_cons_succ] at hR1 hR2 hR3
              go_wp2
              (try simp only [Exit.inBlock, Exit.then])
              refine bodyPost_ret (v := .tuple #[.agg #[.slice none 0 0, .slice none 0 0, .slice none 0 0], .int .i64 4]) ?r rfl ?_
              case r =>
                simp only [results, Tryd.f6]
                go_simp
              have hE := HE.out
              refine ⟨Mk.nil, by rw [hE]; rfl, MkOwn.nil _ _, by rw [getM_bad (by rw [hE]; omega)]; rfl, ?_⟩
              exact ((hB5.setCell (p := ⟨w.heap.size, 0, none⟩) (Nat.le_refl _) _).setCell (p := ⟨w.heap.size, 1, none⟩) (Nat.le_refl _) _).setCell (p := ⟨w.heap.size, 2, none⟩) (Nat.le_refl _) _
end Go.Proofs.YtoogldllcgbmdaaDoor
