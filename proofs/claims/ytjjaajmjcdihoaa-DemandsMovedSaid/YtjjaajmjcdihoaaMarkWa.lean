/-
  Walks of package markets: bidsMayBe, eachOnce, Check.
-/
import Derived.Test.YtjjaajmjcdihoaaVecW
import Derived.Test.YtjjaajmjcdihoaaMarkE
namespace Go.Proofs.Ytjjaajmjcdihoaa
open Go.RowKit
set_option linter.unusedVariables false

set_option maxRecDepth 100000 in
set_option maxHeartbeats 1000000 in
theorem bidsmay_any (A : Option Addr) (n c : Nat) (t : List Ls) (items : Int) (w : World) (hl : Lss w A n t) (hc : n ≤ c) (hc2 : c ≤ maxLen) :
    Calls Try.prog 28 #[.slice A n c, .int .i64 items] w fun e w' => e = .returned (.bool ((Ls.all t).all fun l => bidB l items)) ∧ Below w.heap.size w w' := by
  obtain ⟨b, hb0⟩ : ∃ b, b = Ls.all t := ⟨_, rfl⟩
  have hbn : b.length = n := by rw [hb0, Ls.all, List.length_map]; exact hl.len
  rw [← hb0]
  have HB0 := Lib.hid hb0
  have HBN := Lib.hid hbn
  have tn := Nat.le_trans hc hc2
  unfold maxLen at tn
  clear hb0 hbn
  go_enter Try.func28, Try.ntmps28
  go_wp2_with fail
  go_loopw [9] (fun i wr => ∃ j : Nat, j ≤ n ∧ i = .int .i64 j ∧ Hid (∀ l ∈ b.take j, bidB l items = true) ∧ Below w.heap.size w wr) (fun i _ => n - (intOf i).toNat)
  case atStart => exact ⟨0, Nat.zero_le _, rfl, Lib.hid (by simp), Below.refl _ _⟩
  case round =>
    obtain ⟨j, hj, rfl, hok, hB⟩ := hrel
    by_cases hlt : j < n
    · obtain ⟨p, q, u, hA, hu, hp, hcl, hk⟩ := hl.get hlt
      have hcell : wr.cell? ⟨p, q + j, none⟩ = some (.slice u.A u.n u.c) := (hB.cell (p := ⟨p, q + j, none⟩) hp).trans hcl
      have hjl : j < b.length := by rw [HBN.out]; exact hlt
      have hbj : b[j] = u.zs := by
        have h : b[j]? = some u.zs := by rw [HB0.out, Ls.all, List.getElem?_map, hu]; rfl
        rw [List.getElem?_eq_getElem hjl] at h
        exact Option.some.inj h
      have hst : ∀ P : List Int → Prop, (∀ l ∈ b.take j, P l) → P u.zs → ∀ l ∈ b.take (j + 1), P l := by
        intro P h1 h2 l hl'
        rw [List.take_succ_eq_append_getElem hjl] at hl'
        rcases List.mem_append.1 hl' with hl' | hl'
        · exact h1 l hl'
        · rw [List.mem_singleton.1 hl', hbj]; exact h2
      have hmem : u.zs ∈ b := by rw [← hbj]; exact List.getElem_mem hjl
      have hun := hk.len
      have hcap := Nat.le_trans hk.cap hk.top
      unfold maxLen at hcap
      have hrd := hk.rd
      obtain ⟨uA, un, uc, uz⟩ := u
      simp only at hcell hun hcap hrd hst hmem
      have HST := Lib.hid hst
      have HM := Lib.hid hmem
      subst hA
      clear hu hk hcl hbj hst hjl hmem hl
      by_cases hz0 : un = 0
      · subst hz0
        have hnext : Hid (∀ l ∈ b.take (j + 1), bidB l items = true) := Lib.hid (HST.out (fun l => bidB l items = true) hok.out (by rw [List.eq_nil_of_length_eq_zero hun]; rfl))
        clear hun hrd
        go_wp2
        go_roundw
        case rel => exact ⟨j + 1, by omega, by go_num, hnext, hB⟩
        case measure => simp [intOf]; omega
      · have hpos : decide (0 < un) = true := by simp; omega
        have hne : uz ≠ [] := by intro he; rw [he] at hun; exact hz0 hun.symm
        obtain ⟨β, hβ⟩ : ∃ β, mayB uz items = β := ⟨_, rfl⟩
        have hbe : bidB uz items = β := by unfold bidB; rw [decide_eq_false hne, Bool.false_or, hβ]
        have HBE := Lib.hid hbe
        have hck := check_of uA un uc uz items wr (hrd.below hB) β hβ
        clear hbe hne hun hz0 hβ hrd
        go_wp2_with fail
        refine hck.mono ?_
        rintro e w2 ⟨rfl, hb2⟩
        have hB2 := hB.trans (hb2.mono hB.size)
        clear hck hb2 hcell
        cases β
        · have hf : (b.all fun l => bidB l items) = false := by
            rw [List.all_eq_false]
            exact ⟨uz, HM.out, by rw [HBE.out]; simp⟩
          have HF := Lib.hid hf
          clear hf
          go_wp2
          go_ret
          exact ⟨ret_bool HF.out.symm, hB2⟩
        · have hnext : Hid (∀ l ∈ b.take (j + 1), bidB l items = true) := Lib.hid (HST.out (fun l => bidB l items = true) hok.out HBE.out)
          go_wp2
          go_roundw
          case rel => exact ⟨j + 1, by omega, by go_num, hnext, hB2⟩
          case measure => simp [intOf]; omega
    · obtain rfl : j = n := by omega
      have hf : (b.all fun l => bidB l items) = true := by
        rw [List.all_eq_true]
        have h := hok.out
        rw [List.take_of_length_le (by rw [HBN.out]; exact Nat.le_refl _)] at h
        exact h
      have HF := Lib.hid hf
      clear hf
      go_wp2
      go_ret
      exact ⟨ret_bool HF.out.symm, hB⟩

set_option maxRecDepth 100000 in
set_option maxHeartbeats 1000000 in
theorem each_any (A : Option Addr) (n c : Nat) (zs : List Int) (k : Nat) (w : World) (hr : Rd w A n (ci64 zs)) (hc : n ≤ c) (hc2 : c ≤ maxLen) (hk : k ≤ 8) :
    Calls Try.prog 29 #[.slice A n c, .int .i64 k] w fun e w' => e = .returned (.bool (eachB zs k)) ∧ Below w.heap.size w w' := by
  have hl : zs.length = n := by have h := hr.len; rw [ci64_len] at h; exact h
  have HL := Lib.hid hl
  have tn := Nat.le_trans hc hc2
  unfold maxLen at tn
  clear hl
  go_enter Try.func29, Try.ntmps29
  have hz : ∀ (v : World) (o1 : Obj), (v.alloc o1).heap.size = v.heap.size + 1 := fun v o1 => Array.size_push ..
  have hS0 := (Own.lit (B := w.heap.size) w 60 #[.int .i64 0, .int .i64 0, .int .i64 0, .int .i64 0, .int .i64 0, .int .i64 0, .int .i64 0, .int .i64 0] 8 (Nat.le_refl _) rfl (by unfold maxLen; omega)).alloc (.cells #[.int .i64 0, .int .i64 0, .int .i64 0, .int .i64 0, .int .i64 0, .int .i64 0, .int .i64 0, .int .i64 0] 60)
  have hS1 := Own.lit (B := w.heap.size + 1) (w.alloc (.cells #[.int .i64 0, .int .i64 0, .int .i64 0, .int .i64 0, .int .i64 0, .int .i64 0, .int .i64 0, .int .i64 0] 60)) 60 #[.int .i64 0, .int .i64 0, .int .i64 0, .int .i64 0, .int .i64 0, .int .i64 0, .int .i64 0, .int .i64 0] 8 (by rw [hz]; exact Nat.le_refl _) rfl (by unfold maxLen; omega)
  rw [hz] at hS1
  have hB := ((Below.refl w.heap.size w).alloc (Nat.le_refl _) (.cells #[.int .i64 0, .int .i64 0, .int .i64 0, .int .i64 0, .int .i64 0, .int .i64 0, .int .i64 0, .int .i64 0] 60)).alloc (by rw [hz]; omega) (.cells #[.int .i64 0, .int .i64 0, .int .i64 0, .int .i64 0, .int .i64 0, .int .i64 0, .int .i64 0, .int .i64 0] 60)
  clear hz
  go_wp2_with fail
  go_loopw [11] (fun i wr => ∃ j : Nat, j ≤ k ∧ i = .int .i64 j ∧ Own wr w.heap.size 60 (some ⟨w.heap.size, 0, none⟩) 8 8 (ci64 (cnts [])) ∧ Own wr (w.heap.size + 1) 60 (some ⟨w.heap.size + 1, 0, none⟩) 8 8 (ci64 (onesN j)) ∧ Below w.heap.size w wr) (fun i _ => k - (intOf i).toNat)
  case atStart => exact ⟨0, Nat.zero_le _, rfl, hS0, hS1, hB⟩
  case round =>
    obtain ⟨j, hj, rfl, h0, h1, hb⟩ := hrel
    clear hS0 hS1 hB
    by_cases hlt : j < k
    · have hj8 : (j : Int) < 8 := by omega
      have hf := h1.free (by omega) j
      have hcl := h1.cell (j := j) (by omega)
      rw [ci64_get _ _ (by rw [onesN_len]; omega)] at hcl
      unfold iV at hcl
      have hset := h1.set (by omega) j (.int .i64 1)
      have hkeep := h0.keep (w' := wr.setCell ⟨w.heap.size + 1, j, none⟩ (.int .i64 1)) fun g hA _ _ _ => setCell_ne' (by intro he; injection hA with hA; injection hA with hA; omega)
      have hb2 := hb.setCell (p := ⟨w.heap.size + 1, j, none⟩) (Nat.le_succ _) (.int .i64 1)
      have hones := onesN_step j (by omega)
      have hset2 : Own (wr.setCell ⟨w.heap.size + 1, j, none⟩ (.int .i64 1)) (w.heap.size + 1) 60 (some ⟨w.heap.size + 1, 0, none⟩) 8 8 (ci64 (onesN (j + 1))) := by
        rw [← hones]
        have e1 : ci64 ((onesN j).set j 1) = (ci64 (onesN j)).set j (.int .i64 1) := by simp [ci64, iV]
        rw [e1]
        exact hset
      clear hset hones h0 h1 hb
      go_wp2
      go_roundw
      case rel => exact ⟨j + 1, by omega, by go_num, hkeep, hset2, hb2⟩
      case measure => simp [intOf]; omega
    · obtain rfl : j = k := by omega
      clear hlt hj
      obtain ⟨wo, rfl⟩ : ∃ wo, wo = wr := ⟨_, rfl⟩
      go_wp2_with fail
      go_loopw [19] (fun i wr => ∃ m : Nat, m ≤ n ∧ i = .int .i64 m ∧ Own wr w.heap.size 60 (some ⟨w.heap.size, 0, none⟩) 8 8 (ci64 (cnts (zs.take m))) ∧ Own wr (w.heap.size + 1) 60 (some ⟨w.heap.size + 1, 0, none⟩) 8 8 (ci64 (onesN j)) ∧ Below w.heap.size w wr ∧ Hid (∀ z ∈ zs.take m, 0 ≤ z ∧ z < j)) (fun i _ => n - (intOf i).toNat)
      case atStart => exact ⟨0, Nat.zero_le _, rfl, h0, h1, hb, Lib.hid (by simp)⟩
      case round =>
        obtain ⟨m, hm, rfl, g0, g1, gb, gin⟩ := hrel
        clear h0 h1 hb
        by_cases hmn : m < n
        · obtain ⟨p, q, rfl, hp, u0, hu0, hc0⟩ := hr.get hmn
          have hml : m < zs.length := by rw [HL.out]; exact hmn
          rw [ci64_get _ _ hml] at hu0
          obtain rfl : iV zs[m] = u0 := Option.some.inj hu0
          have hcell : wr.cell? ⟨p, q + m, none⟩ = some (.int .i64 zs[m]) := (gb.cell (p := ⟨p, q + m, none⟩) hp).trans hc0
          have hmem : zs[m] ∈ zs := List.getElem_mem hml
          have hlast : ∀ P : Int → Prop, (∀ z ∈ zs.take m, P z) → P zs[m] → ∀ z ∈ zs.take (m + 1), P z := by
            intro P h1 h2 z hz
            rw [List.take_succ_eq_append_getElem hml] at hz
            rcases List.mem_append.1 hz with hz | hz
            · exact h1 z hz
            · rw [List.mem_singleton.1 hz]; exact h2
          have hstep := cnts_step zs m hml
          clear hu0 hc0
          generalize hzm : zs[m] = z at hcell hmem hlast hstep
          have HMEM := Lib.hid hmem
          clear hzm hmem hml
          by_cases hneg : z < 0
          · have HE := Lib.hid (eachB_out (n := j) HMEM.out (by omega))
            clear hstep hlast
            go_wp2
            go_ret
            exact ⟨ret_bool HE.out.symm, gb⟩
          · by_cases hbig : (j : Int) ≤ z
            · have HE := Lib.hid (eachB_out (n := j) HMEM.out (by omega))
              clear hstep hlast
              go_wp2
              go_ret
              exact ⟨ret_bool HE.out.symm, gb⟩
            · obtain ⟨zn, rfl⟩ : ∃ zn : Nat, z = (zn : Int) := ⟨z.toNat, by omega⟩
              have hznj : zn < j := by omega
              have hstep := hstep zn rfl (by omega)
              have hnext := Lib.hid (hlast (fun z => 0 ≤ z ∧ z < (j : Int)) gin.out (by omega))
              have hcnt := cnts_get (zs.take m) zn (by omega)
              have hct : times (zs.take m) (zn : Nat) ≤ m := by
                have h := times_len (zs.take m) (zn : Nat)
                rw [List.length_take] at h
                omega
              have hcl := g0.cell (j := zn) (by omega)
              have hfr := g0.free (by omega) zn
              have hcl2 : wr.cell? ⟨w.heap.size, zn, none⟩ = some (.int .i64 (times (zs.take m) (zn : Nat) : Nat)) := by
                rw [hcl, ci64, List.getElem?_map, hcnt]; rfl
              generalize times (zs.take m) (zn : Nat) = tm at hct hcl2 hstep
              have hz8 : (zn : Int) < 8 := by omega
              have hset := g0.set (by omega) zn (.int .i64 ((tm : Int) + 1))
              have hset2 : Own (wr.setCell ⟨w.heap.size, zn, none⟩ (.int .i64 ((tm : Int) + 1))) w.heap.size 60 (some ⟨w.heap.size, 0, none⟩) 8 8 (ci64 (cnts (zs.take (m + 1)))) := by
                rw [← hstep]
                have e1 : ci64 ((cnts (zs.take m)).set zn ((tm : Int) + 1)) = (ci64 (cnts (zs.take m))).set zn (.int .i64 ((tm : Int) + 1)) := by simp [ci64, iV]
                rw [e1]
                exact hset
              have hkeep := g1.keep (w' := wr.setCell ⟨w.heap.size, zn, none⟩ (.int .i64 ((tm : Int) + 1))) fun g hA _ _ _ => setCell_ne' (by intro he; injection hA with hA; injection hA with hA; omega)
              have hb2 := gb.setCell (p := ⟨w.heap.size, zn, none⟩) (Nat.le_refl _) (.int .i64 ((tm : Int) + 1))
              clear hset hstep hlast hcnt hcl g0 g1 gb
              go_wp2
              go_roundw
              case rel => exact ⟨m + 1, by omega, by go_num, hset2, hkeep, hb2, hnext⟩
              case measure => simp [intOf]; omega
        · obtain rfl : m = n := by omega
          have hall : zs.take m = zs := List.take_of_length_le (by rw [HL.out]; exact Nat.le_refl _)
          rw [hall] at g0 gin
          have hfin := eachB_cnts hk gin.out
          obtain ⟨i0, hi0, _, _, _⟩ := info_parts info_int
          have hEQ := fun wq => equal_ints (P := Try.prog) (t := 60) (e := 3) (n := 8) wq Try.underlying60 Try.underlying3 hi0 (by kernel_rfl) (cnts zs) (onesN j) (cnts_len _) (onesN_len _)
          have hc0 := g0.cell (j := 0) (by omega)
          have hc1 := g0.cell (j := 1) (by omega)
          have hc2 := g0.cell (j := 2) (by omega)
          have hc3 := g0.cell (j := 3) (by omega)
          have hc4 := g0.cell (j := 4) (by omega)
          have hc5 := g0.cell (j := 5) (by omega)
          have hc6 := g0.cell (j := 6) (by omega)
          have hc7 := g0.cell (j := 7) (by omega)
          have hd0 := g1.cell (j := 0) (by omega)
          have hd1 := g1.cell (j := 1) (by omega)
          have hd2 := g1.cell (j := 2) (by omega)
          have hd3 := g1.cell (j := 3) (by omega)
          have hd4 := g1.cell (j := 4) (by omega)
          have hd5 := g1.cell (j := 5) (by omega)
          have hd6 := g1.cell (j := 6) (by omega)
          have hd7 := g1.cell (j := 7) (by omega)
          have hl0 := cnts_len zs
          have hl1 := onesN_len j
          generalize cnts zs = l0 at *
          generalize onesN j = l1 at *
          match l0, hl0, l1, hl1 with
          | [a0, a1, a2, a3, a4, a5, a6, a7], _, [b0, b1, b2, b3, b4, b5, b6, b7], _ =>
            simp only [ci64, List.map_cons, List.map_nil, iV, List.getElem?_cons_zero, List.getElem?_cons_succ] at hc0 hc1 hc2 hc3 hc4 hc5 hc6 hc7 hd0 hd1 hd2 hd3 hd4 hd5 hd6 hd7 hEQ
            have HF := Lib.hid hfin
            clear hfin g0 g1
            go_wp2
            go_ret
            refine ⟨ret_bool ?_, gb⟩
            rw [← HF.out, Bool.eq_iff_iff]
            simp

set_option maxRecDepth 100000 in
set_option maxHeartbeats 1000000 in
theorem mcheckC : CheckC 18 := by
  intro x w h
  have hm : x.may = (mayB x.r.zs x.r.n && (decide (1 ≤ x.n) && (decide (x.n ≤ 8) && (((Ls.all x.b).all fun l => bidB l x.r.n) && eachB x.o.zs x.n)))) := by
    have hbl : (Ls.all x.b).length = x.n := by rw [Ls.all, List.length_map]; exact h.len
    rw [Mk.may, mayM_each, hbl, h.r.len]
  obtain ⟨β, hβ⟩ : ∃ β, mayB x.r.zs x.r.n = β := ⟨_, rfl⟩
  obtain ⟨γ, hγ⟩ : ∃ γ, ((Ls.all x.b).all fun l => bidB l x.r.n) = γ := ⟨_, rfl⟩
  obtain ⟨δ, hδ⟩ : ∃ δ, eachB x.o.zs x.n = δ := ⟨_, rfl⟩
  obtain ⟨M, hM⟩ : ∃ M, x.may = M := ⟨_, rfl⟩
  rw [hβ, hγ, hδ, hM] at hm
  rw [hM]
  have HM := Lib.hid hm
  have HBE := Lib.hid hβ
  have HGA := Lib.hid hγ
  have HDE := Lib.hid hδ
  clear hm hβ hγ hδ hM
  have hr := h.r.rd
  have ho := h.o.rd
  have hoc := h.o.cap
  have hot := h.o.top
  have hc := h.cap
  have ht := h.top
  have tr := Nat.le_trans h.r.cap h.r.top
  have to := Nat.le_trans hoc hot
  have tn := Nat.le_trans hc ht
  unfold maxLen at tr to tn
  have hbox := InBox.new w x
  have hBW : Below w.heap.size w (w.alloc (.cells #[.slice x.r.A x.r.n x.r.c, .slice x.A x.n x.c, .slice x.o.A x.o.n x.o.c] 35)) := (Below.refl _ w).alloc (Nat.le_refl _) _
  unfold Mk.v Ls.v
  go_enter Try.func18, Try.ntmps18
  go_wp2_with fail
  generalize w.alloc (.cells #[.slice x.r.A x.r.n x.r.c, .slice x.A x.n x.c, .slice x.o.A x.o.n x.o.c] 35) = W at hbox hBW ⊢
  have ⟨c0, c1, c2, clt⟩ := hbox
  refine wp_region_ord (S := fun w' => w'.cell? ⟨w.heap.size, 0, none⟩ = some (.slice x.r.A x.r.n x.r.c) ∧ w'.cell? ⟨w.heap.size, 1, none⟩ = some (.slice x.A x.n x.c)) [(0, true), (1, true), (2, true), (3, true), (4, true), (5, true), (6, true), (7, true)] default (by kernel_rfl) (by kernel_rfl) (by kernel_rfl) ⟨c0, c1⟩ ?_
  simp only [getOrd, nth]
  repeat (first | (refine ordS (by rfl) ?_; simp only [Act.put, List.setIfInBounds_toArray, List.set_cons_zero, List.set_cons_succ]) | (refine ordN (by rfl) ?_; simp only [Act.put, List.setIfInBounds_toArray, List.set_cons_zero, List.set_cons_succ]) | (refine ordQ (v := ?_) (by rfl) (fun _ hSw => ?_) ?_; rotate_left; (focus ((have hS1 := hSw.1); (have hS2 := hSw.2); clear hSw; go_simp; (first | done | with_reducible rfl))); simp only [Act.put, List.setIfInBounds_toArray, List.set_cons_zero, List.set_cons_succ]))
  refine ordE ?_
  have hboxd : InBox W.drew w.heap.size x := ⟨c0, c1, c2, clt⟩
  have hBd : Below w.heap.size w W.drew := hBW.drew
  clear c0 c1 c2 clt hbox hBW
  generalize W.drew = V at hboxd hBd ⊢
  have ⟨c0, c1, c2, clt⟩ := hboxd
  have hck := check_of x.r.A x.r.n x.r.c x.r.zs x.r.n V (hr.below hBd) β HBE.out
  go_wp2_with fail
  refine hck.mono ?_
  rintro e w1 ⟨rfl, hb1⟩
  have hB1 := hBd.trans (hb1.mono hBd.size)
  have hbox1 := hboxd.below hb1
  clear hck hb1 hboxd hBd c0 c1 c2 clt
  have ⟨c0, c1, c2, clt⟩ := hbox1
  cases β
  · go_wp2
    go_ret
    exact ⟨ret_bool (by rw [HM.out]; simp), hB1⟩
  · by_cases q1 : 1 ≤ x.n
    · by_cases q2 : x.n ≤ 8
      · have hbm := bidsmay_any x.A x.n x.c x.b x.r.n w1 (h.below hB1).lss hc ht
        rw [HGA.out] at hbm
        go_wp2_with fail
        refine hbm.mono ?_
        rintro e w2 ⟨rfl, hb2⟩
        have hB2 := hB1.trans (hb2.mono hB1.size)
        have hbox2 := hbox1.below hb2
        clear hbm hb2 hbox1 hB1 c0 c1 c2 clt
        have ⟨c0, c1, c2, clt⟩ := hbox2
        have e1 := Lib.hid (decide_eq_true q1)
        have e2 := Lib.hid (decide_eq_true q2)
        cases γ
        · go_wp2
          go_ret
          exact ⟨ret_bool (by rw [HM.out]; simp), hB2⟩
        · have he := each_any x.o.A x.o.n x.o.c x.o.zs x.n w2 (ho.below hB2) hoc hot q2
          rw [HDE.out] at he
          go_wp2_with fail
          refine he.mono ?_
          rintro e w3 ⟨rfl, hb3⟩
          have hB3 := hB2.trans (hb3.mono hB2.size)
          clear he hb3
          go_wp2
          go_ret
          exact ⟨ret_bool (by rw [HM.out, e1.out, e2.out]; simp), hB3⟩
      · have d2 := Lib.hid (decide_eq_false q2)
        go_wp2
        go_ret
        exact ⟨ret_bool (by rw [HM.out, d2.out]; simp), hB1⟩
    · have d1 := Lib.hid (decide_eq_false q1)
      go_wp2
      go_ret
      exact ⟨ret_bool (by rw [HM.out, d1.out]; simp), hB1⟩
end Go.Proofs.Ytjjaajmjcdihoaa
