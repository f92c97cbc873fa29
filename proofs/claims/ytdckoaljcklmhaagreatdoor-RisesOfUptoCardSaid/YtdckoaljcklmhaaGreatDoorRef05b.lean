/-
  Walks of the document's Put and Gains of a market.
-/
import Derived.Test.YtdckoaljcklmhaaGreatDoorRef04
import Derived.Test.YtdckoaljcklmhaaGreatDoorMarkO
namespace Go.Proofs.YtdckoaljcklmhaaGreatDoor
open Go.RowKit
set_option linter.unusedVariables false

theorem mayM_out {r : List Int} {b : List (List Int)} {o : List Int} (h : ¬ (mayB r r.length = true ∧ (1 ≤ b.length ∧ b.length ≤ 8 ∧ o.length = b.length))) : mayM r b o = false := by
  rw [Bool.eq_false_iff]
  intro hm
  have h1 := (mayM_iff r b o).1 hm
  exact h ⟨h1.1, h1.2.1⟩
theorem mayM_bid {r : List Int} {b : List (List Int)} {o : List Int} {j : Nat} {l : List Int} (hj : b[j]? = some l) (h : bidB l r.length = false) : mayM r b o = false := by
  rw [Bool.eq_false_iff]
  intro hm
  have h1 := ((mayM_iff r b o).1 hm).2.2.1 l (List.mem_of_getElem? hj)
  rw [h] at h1
  cases h1
theorem mayM_times {r : List Int} {b : List (List Int)} {o : List Int} {j : Nat} (hj : j < b.length) (h : times o (j : Nat) ≠ 1) : mayM r b o = false := by
  rw [Bool.eq_false_iff]
  intro hm
  exact h (((mayM_iff r b o).1 hm).2.2.2 j hj)
theorem mayM_in {r : List Int} {b : List (List Int)} {o : List Int} (h1 : mayB r r.length = true) (h2 : 1 ≤ b.length ∧ b.length ≤ 8 ∧ o.length = b.length) (h3 : ∀ l ∈ b, bidB l r.length = true) (h4 : ∀ i, i < b.length → times o (i : Nat) = 1) : mayM r b o = true :=
  (mayM_iff r b o).2 ⟨h1, h2, h3, h4⟩
theorem times_step (o : List Int) (j k : Nat) (hk : k < o.length) : ((o.take (k + 1)).countP fun z => decide (z = (j : Int))) = ((o.take k).countP fun z => decide (z = (j : Int))) + if o[k] = (j : Int) then 1 else 0 := by
  rw [List.take_succ_eq_append_getElem hk, List.countP_append, List.countP_cons, List.countP_nil]
  by_cases h : o[k] = (j : Int)
  · simp [h]
  · simp [h]

set_option maxRecDepth 100000 in
set_option maxHeartbeats 1000000 in
theorem rcheckm (x : Mk) (w : World) (h : x.Ok w) :
    Calls Tryz.prog 26 #[x.v] w fun e w' => e = .returned (.bool (mayM x.r.zs (Ls.all x.b) x.o.zs)) ∧ Below w.heap.size w w' := by
  have hrn := h.r.len
  have hon := h.o.len
  have hbn : (Ls.all x.b).length = x.n := by rw [Ls.all, List.length_map]; exact h.len
  have hr := h.r.rd
  have ho := h.o.rd
  have hl := h.lss
  have tr := Nat.le_trans h.r.cap h.r.top
  have to := Nat.le_trans h.o.cap h.o.top
  have tn := Nat.le_trans h.cap h.top
  unfold maxLen at tr to tn
  obtain ⟨r, hr0⟩ : ∃ r, r = x.r.zs := ⟨_, rfl⟩
  obtain ⟨b, hb0⟩ : ∃ b, b = Ls.all x.b := ⟨_, rfl⟩
  obtain ⟨o, ho0⟩ : ∃ o, o = x.o.zs := ⟨_, rfl⟩
  rw [← hr0] at hrn hr ⊢
  rw [← hb0] at hbn ⊢
  rw [← ho0] at hon ho ⊢
  have HRN := Lib.hid hrn
  have HON := Lib.hid hon
  have HBN := Lib.hid hbn
  have HB0 := Lib.hid hb0
  clear hrn hon hbn h hr0 ho0 hb0
  unfold Mk.v Ls.v
  go_enter Tryz.func26, Tryz.ntmps26
  go_wp2_with fail
  have hbox := InBox.new w x
  have hBW : Below w.heap.size w (w.alloc (.cells #[.slice x.r.A x.r.n x.r.c, .slice x.A x.n x.c, .slice x.o.A x.o.n x.o.c] 25)) := (Below.refl _ w).alloc (Nat.le_refl _) _
  generalize w.alloc (.cells #[.slice x.r.A x.r.n x.r.c, .slice x.A x.n x.c, .slice x.o.A x.o.n x.o.c] 25) = W at hbox hBW ⊢
  refine (rcheck_any x.r.A x.r.n x.r.c r x.r.n W (hr.below hBW)).mono ?_
  rintro e w1 ⟨rfl, hb1⟩
  have hB1 := hBW.trans (hb1.mono hBW.size)
  obtain ⟨c0, c1, c2, _⟩ := hbox.below hb1
  have hbox1 := hbox.below hb1
  by_cases q0 : mayB r r.length = true
  · have q0' : mayB r x.r.n = true := by rw [← HRN.out]; exact q0
    rw [q0']
    by_cases q1 : 1 ≤ x.n ∧ x.n ≤ 8 ∧ x.o.n = x.n
    · have t1 : decide (x.n < 1) = false := by simp; omega
      have t1' : decide ((x.n : Int) < 1) = false := by simp; omega
      have t2 : decide (8 < x.n) = false := by simp; omega
      have t2' : decide (8 < (x.n : Int)) = false := by simp; omega
      have t3 : ((x.o.n : Int) != (x.n : Int)) = false := by rw [q1.2.2]; simp
      have Q0 := Lib.hid q0
      have q13 := Lib.hid q1.2.2
      have q12 := q1.2.1
      have q11 := q1.1
      have Q2 : Hid (1 ≤ b.length ∧ b.length ≤ 8 ∧ o.length = b.length) := Lib.hid (by rw [HBN.out, HON.out]; exact q1)
      clear q0 q0' q1 hbox c0 c1 c2 hb1
      have ⟨c0, c1, c2, _⟩ := hbox1
      go_wp2_with fail
      go_loopw [5] (fun i wr => ∃ j : Nat, j ≤ x.n ∧ i = .int .i64 j ∧ Hid ((∀ l ∈ b.take j, bidB l r.length = true) ∧ ∀ i, i < j → times o (i : Nat) = 1) ∧ Below w1.heap.size w1 wr) (fun i _ => x.n - (intOf i).toNat)
      case atStart => exact ⟨0, Nat.zero_le _, rfl, Lib.hid ⟨by simp, by omega⟩, Below.refl _ _⟩
      case round =>
        obtain ⟨j, hj, rfl, hok, hbel⟩ := hrel
        obtain ⟨wo, rfl⟩ : ∃ wo, wo = wr := ⟨_, rfl⟩
        have ⟨d0, d1, d2, dlt⟩ := hbox1.below hbel
        have hBo := hB1.trans (hbel.mono hB1.size)
        by_cases hlt : j < x.n
        · obtain ⟨p, q, u, hA, hu, hp, hc, hk⟩ := hl.get hlt
          have hcell : wo.cell? ⟨p, q + j, none⟩ = some (.slice u.A u.n u.c) := (hBo.cell (p := ⟨p, q + j, none⟩) hp).trans hc
          have hbj : b[j]? = some u.zs := by rw [HB0.out, Ls.all, List.getElem?_map, hu]; rfl
          have hun := hk.len
          have hcap := Nat.le_trans hk.cap hk.top
          unfold maxLen at hcap
          rw [hA] at d1
          have hrd := hk.rd
          obtain ⟨uA, un, uc, uz⟩ := u
          simp only at hcell hbj hun hcap hrd
          replace hbj := Lib.hid hbj
          clear hu hk hc hA
          by_cases hz0 : un = 0
          · subst hz0
            have hbid : Hid (bidB uz r.length = true) := Lib.hid (by rw [List.eq_nil_of_length_eq_zero hun]; rfl)
            have hBwo := hBo
            have hblwo := hbel
            clear hun hrd
            have ho2 := ho.below hBwo
            go_wp2_with fail
            go_loop [6, 7] (fun t k => ∃ m : Nat, m ≤ x.n ∧ k = .int .i64 m ∧ ∃ cnt : Nat, t = .int .i64 cnt ∧ cnt ≤ m ∧ Hid (((o.take m).countP fun z => decide (z = (j : Int))) = cnt)) (fun _ k => x.n - (intOf k).toNat)
            case atStart => exact ⟨0, Nat.zero_le _, rfl, 0, rfl, Nat.zero_le _, Lib.hid rfl⟩
            case round =>
              obtain ⟨m, hm, rfl, cnt, rfl, hcm, hcnt⟩ := hrel
              by_cases hmn : m < x.n
              · have hmo : m < x.o.n := by rw [q13.out]; exact hmn
                have hml : m < o.length := by rw [HON.out]; exact hmo
                obtain ⟨p2, q2, hA2, _, u0, hu0, hc0⟩ := ho2.get hmo
                rw [ci64_get _ _ hml] at hu0
                cases hu0
                unfold iV at hc0
                have hst := times_step o j m hml
                rw [hcnt.out] at hst
                have d2' := d2
                rw [hA2] at d2'
                generalize o[m] = z at hc0 hst
                by_cases hz : z = (j : Int)
                · rw [if_pos hz] at hst
                  have HST := Lib.hid hst
                  have hz' : (z == (j : Int)) = true := by rw [hz]; simp
                  have hz2 : decide (z = (j : Int)) = true := by rw [hz]; simp
                  clear hst hz d2
                  go_wp2
                  go_round
                  case rel => exact ⟨m + 1, by omega, by go_num, cnt + 1, by go_num, by omega, Lib.hid HST.out⟩
                  case measure => simp [intOf]; omega
                · rw [if_neg hz] at hst
                  have HST := Lib.hid hst
                  have hz' : (z == (j : Int)) = false := by rw [beq_eq_false_iff_ne]; exact hz
                  clear hst hz d2
                  go_wp2
                  go_round
                  case rel => exact ⟨m + 1, by omega, by go_num, cnt, rfl, by omega, Lib.hid HST.out⟩
                  case measure => simp [intOf]; omega
              · obtain rfl : m = x.n := by omega
                have hcnt2 : times o (j : Nat) = cnt := by
                  have h := hcnt.out
                  rw [List.take_of_length_le (by rw [HON.out, q13.out]; exact Nat.le_refl _)] at h
                  exact h
                by_cases hone : cnt = 1
                · have hok2 : Hid ((∀ l ∈ b.take (j + 1), bidB l r.length = true) ∧ ∀ i, i < j + 1 → times o (i : Nat) = 1) := Lib.hid (by
                    have hjl : j < b.length := by rw [HBN.out]; exact hlt
                    rw [List.take_succ_eq_append_getElem hjl]
                    refine ⟨fun l hl' => ?_, fun i hi => ?_⟩
                    · rcases List.mem_append.1 hl' with hl' | hl'
                      · exact hok.out.1 l hl'
                      · rw [List.mem_singleton.1 hl']
                        have hbj2 := hbj.out
                        rw [List.getElem?_eq_getElem hjl] at hbj2
                        rw [Option.some.inj hbj2]
                        exact hbid.out
                    · by_cases hij : i = j
                      · rw [hij, hcnt2, hone]
                      · exact hok.out.2 i (by omega))
                  have hone' : ((cnt : Int) != 1) = false := by rw [hone]; simp
                  clear hone hcnt2 hcnt
                  go_wp2
                  go_roundw
                  case rel => exact ⟨j + 1, by omega, by go_num, hok2, hblwo⟩
                  case measure => simp [intOf]; omega
                · have HM := Lib.hid (mayM_times (r := r) (b := b) (o := o) (j := j) (by rw [HBN.out]; exact hlt) (by rw [hcnt2]; exact hone))
                  have hone' : ((cnt : Int) != 1) = true := by rw [bne_iff_ne]; omega
                  clear hone hcnt2 hcnt
                  go_wp2
                  go_ret
                  exact ⟨ret_bool HM.out.symm, hBwo⟩
          · have hpos : decide (0 < un) = true := by simp; omega
            have hne : uz ≠ [] := by intro he; rw [he] at hun; exact hz0 hun.symm
            have hbe : bidB uz r.length = mayB uz r.length := by unfold bidB; rw [decide_eq_false hne, Bool.false_or]
            have HBE := Lib.hid hbe
            clear hbe hne hun hz0
            go_wp2_with fail
            refine (rcheck_any uA un uc uz x.r.n _ (hrd.below hBo)).mono ?_
            rintro e w2 ⟨rfl, hb2⟩
            have hBw2 := hBo.trans (hb2.mono hBo.size)
            have hblw2 := hbel.trans (hb2.mono hbel.size)
            have ⟨d0, d1, d2, dlt⟩ := hbox1.below hblw2
            by_cases hmb : mayB uz x.r.n = true
            · rw [hmb]
              have hbid : Hid (bidB uz r.length = true) := Lib.hid (by rw [HBE.out, HRN.out]; exact hmb)
              clear hmb hcell hrd
              have ho2 := ho.below hBw2
              go_wp2_with fail
              go_loop [6, 7] (fun t k => ∃ m : Nat, m ≤ x.n ∧ k = .int .i64 m ∧ ∃ cnt : Nat, t = .int .i64 cnt ∧ cnt ≤ m ∧ Hid (((o.take m).countP fun z => decide (z = (j : Int))) = cnt)) (fun _ k => x.n - (intOf k).toNat)
              case atStart => exact ⟨0, Nat.zero_le _, rfl, 0, rfl, Nat.zero_le _, Lib.hid rfl⟩
              case round =>
                obtain ⟨m, hm, rfl, cnt, rfl, hcm, hcnt⟩ := hrel
                by_cases hmn : m < x.n
                · have hmo : m < x.o.n := by rw [q13.out]; exact hmn
                  have hml : m < o.length := by rw [HON.out]; exact hmo
                  obtain ⟨p2, q2, hA2, _, u0, hu0, hc0⟩ := ho2.get hmo
                  rw [ci64_get _ _ hml] at hu0
                  cases hu0
                  unfold iV at hc0
                  have hst := times_step o j m hml
                  rw [hcnt.out] at hst
                  have d2' := d2
                  rw [hA2] at d2'
                  generalize o[m] = z at hc0 hst
                  by_cases hz : z = (j : Int)
                  · rw [if_pos hz] at hst
                    have HST := Lib.hid hst
                    have hz' : (z == (j : Int)) = true := by rw [hz]; simp
                    have hz2 : decide (z = (j : Int)) = true := by rw [hz]; simp
                    clear hst hz d2
                    go_wp2
                    go_round
                    case rel => exact ⟨m + 1, by omega, by go_num, cnt + 1, by go_num, by omega, Lib.hid HST.out⟩
                    case measure => simp [intOf]; omega
                  · rw [if_neg hz] at hst
                    have HST := Lib.hid hst
                    have hz' : (z == (j : Int)) = false := by rw [beq_eq_false_iff_ne]; exact hz
                    clear hst hz d2
                    go_wp2
                    go_round
                    case rel => exact ⟨m + 1, by omega, by go_num, cnt, rfl, by omega, Lib.hid HST.out⟩
                    case measure => simp [intOf]; omega
                · obtain rfl : m = x.n := by omega
                  have hcnt2 : times o (j : Nat) = cnt := by
                    have h := hcnt.out
                    rw [List.take_of_length_le (by rw [HON.out, q13.out]; exact Nat.le_refl _)] at h
                    exact h
                  by_cases hone : cnt = 1
                  · have hok2 : Hid ((∀ l ∈ b.take (j + 1), bidB l r.length = true) ∧ ∀ i, i < j + 1 → times o (i : Nat) = 1) := Lib.hid (by
                      have hjl : j < b.length := by rw [HBN.out]; exact hlt
                      rw [List.take_succ_eq_append_getElem hjl]
                      refine ⟨fun l hl' => ?_, fun i hi => ?_⟩
                      · rcases List.mem_append.1 hl' with hl' | hl'
                        · exact hok.out.1 l hl'
                        · rw [List.mem_singleton.1 hl']
                          have hbj2 := hbj.out
                          rw [List.getElem?_eq_getElem hjl] at hbj2
                          rw [Option.some.inj hbj2]
                          exact hbid.out
                      · by_cases hij : i = j
                        · rw [hij, hcnt2, hone]
                        · exact hok.out.2 i (by omega))
                    have hone' : ((cnt : Int) != 1) = false := by rw [hone]; simp
                    clear hone hcnt2 hcnt
                    go_wp2
                    go_roundw
                    case rel => exact ⟨j + 1, by omega, by go_num, hok2, hblw2⟩
                    case measure => simp [intOf]; omega
                  · have HM := Lib.hid (mayM_times (r := r) (b := b) (o := o) (j := j) (by rw [HBN.out]; exact hlt) (by rw [hcnt2]; exact hone))
                    have hone' : ((cnt : Int) != 1) = true := by rw [bne_iff_ne]; omega
                    clear hone hcnt2 hcnt
                    go_wp2
                    go_ret
                    exact ⟨ret_bool HM.out.symm, hBw2⟩
            · have hmb := Bool.eq_false_iff.2 hmb
              rw [hmb]
              have HM := Lib.hid (mayM_bid (r := r) (b := b) (o := o) hbj.out (by rw [HBE.out, HRN.out]; exact hmb))
              clear hmb
              go_wp2
              go_ret
              exact ⟨ret_bool HM.out.symm, hBw2⟩
        · obtain rfl : j = x.n := by omega
          have hm : mayM r b o = true := by
            refine mayM_in Q0.out Q2.out ?_ ?_
            · have h := hok.out.1
              rw [List.take_of_length_le (by rw [HBN.out]; exact Nat.le_refl _)] at h
              exact h
            · have h := hok.out.2
              rw [HBN.out]
              exact h
          have HM := Lib.hid hm
          clear hm
          go_wp2
          go_ret
          exact ⟨ret_bool HM.out.symm, hBo⟩
    · have hm : mayM r b o = false := mayM_out (by rw [HBN.out, HON.out]; exact fun h => q1 h.2)
      have HM := Lib.hid hm
      clear hm q0 q0'
      by_cases t1 : x.n < 1
      · have t1' : decide ((x.n : Int) < 1) = true := by simp; omega
        have t1'' : decide (x.n < 1) = true := decide_eq_true t1
        clear q1 t1
        go_wp2
        go_ret
        exact ⟨ret_bool HM.out.symm, hB1⟩
      · by_cases t2 : 8 < x.n
        · have t1' : decide ((x.n : Int) < 1) = false := by simp; omega
          have t1'' : decide (x.n < 1) = false := decide_eq_false t1
          have t2' : decide (8 < (x.n : Int)) = true := by simp; omega
          have t2'' : decide (8 < x.n) = true := decide_eq_true t2
          clear q1 t1 t2
          go_wp2
          go_ret
          exact ⟨ret_bool HM.out.symm, hB1⟩
        · have t1' : decide ((x.n : Int) < 1) = false := by simp; omega
          have t1'' : decide (x.n < 1) = false := decide_eq_false t1
          have t2' : decide (8 < (x.n : Int)) = false := by simp; omega
          have t2'' : decide (8 < x.n) = false := decide_eq_false t2
          have t3 : ((x.o.n : Int) != (x.n : Int)) = true := by rw [bne_iff_ne]; omega
          clear q1 t1 t2
          go_wp2
          go_ret
          exact ⟨ret_bool HM.out.symm, hB1⟩
  · have hm : mayM r b o = false := mayM_out fun h => q0 h.1
    have q0' : mayB r x.r.n = false := by rw [← HRN.out]; exact Bool.eq_false_iff.2 q0
    rw [q0']
    have HM := Lib.hid hm
    clear hm q0 q0'
    go_wp2
    go_ret
    exact ⟨ret_bool HM.out.symm, hB1⟩
end Go.Proofs.YtdckoaljcklmhaaGreatDoor


namespace Go.Proofs.YtdckoaljcklmhaaGreatDoor
open Go.RowKit
set_option linter.unusedVariables false

theorem rcheckC : CheckC 26 := fun x w h => rcheckm x w h
theorem InBox.whole {w : World} {g : Nat} {x : Mk} (h : InBox w g x) : InBox w g x := h
end Go.Proofs.YtdckoaljcklmhaaGreatDoor

