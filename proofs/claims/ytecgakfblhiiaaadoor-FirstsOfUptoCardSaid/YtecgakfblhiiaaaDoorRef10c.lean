/-
  The document's answers of layer 10: Best, Proved.
-/
import Derived.Test.YtecgakfblhiiaaaDoorWeO
import Derived.Test.YtecgakfblhiiaaaDoorBest10
import Derived.Test.YtecgakfblhiiaaaDoorGrL
import Derived.Test.YtecgakfblhiiaaaDoorReg2
import Derived.Lib.MinMax
import Derived.Test.YtecgakfblhiiaaaDoorReg
import Derived.OwnWalk
namespace Go.Proofs.YtecgakfblhiiaaaDoor
open Go.RowKit
set_option linter.unusedVariables false

theorem info10_int : (Tryd.prog.info? 3).map (fun i => (i.zero, i.size, i.bytes)) = some (some (.int .i64 0), 1, 8) := by kernel_rfl
theorem info10_ints : (Tryd.prog.info? 25).map (fun i => (i.zero, i.size, i.bytes)) = some (some (.slice none 0 0), 1, 24) := by kernel_rfl
def fitB (l : List Int) (m : Int) : Bool := decide ((l.length : Int) = m) && l.all fun z => decide (-1000000 ≤ z) && decide (z ≤ 1000000)
theorem fitB_iff {l : List Int} {m : Int} : fitB l m = true ↔ (l.length : Int) = m ∧ ∀ z ∈ l, -1000000 ≤ z ∧ z ≤ 1000000 := by
  simp [fitB]
set_option maxRecDepth 100000 in
set_option maxHeartbeats 1000000 in
theorem rcheckW (x : Gr) (m : Int) (w : World) (h : x.Ok w) (hm1 : -9223372036854775808 ≤ m) (hm2 : m ≤ 9223372036854775807) :
    Calls Tryd.prog 21 #[x.v, .int .i64 m] w fun e w' => e = .returned (.bool (mayW x.g m)) ∧ Below w.heap.size w w' := by
  have hgl := h.glen
  have hlen := h.len
  have tn := Nat.le_trans h.cap h.top
  unfold maxLen at tn
  obtain ⟨B, hB⟩ : ∃ B, mayW x.g m = B := ⟨_, rfl⟩
  have HB := Lib.hid hB
  have HG := Lib.hid hgl
  rw [hB]
  clear hB hgl
  unfold Gr.v
  go_enter Tryd.func21, Tryd.ntmps21
  by_cases q1 : m < 1
  · have g1 : decide (m < 1) = true := decide_eq_true q1
    have HF : Hid (B = false) := Lib.hid (by
      rw [← HB.out, mayW, decide_eq_false (by omega)]; rfl)
    clear q1
    go_wp2
    go_ret
    exact ⟨ret_bool HF.out.symm, Below.refl _ _⟩
  have g1 : decide (m < 1) = false := decide_eq_false q1
  by_cases q2 : 8 < m
  · have g2 : decide (8 < m) = true := decide_eq_true q2
    have HF : Hid (B = false) := Lib.hid (by
      rw [← HB.out, mayW, decide_eq_false (show ¬ m ≤ 8 by omega)]; simp)
    clear q1 q2
    go_wp2
    go_ret
    exact ⟨ret_bool HF.out.symm, Below.refl _ _⟩
  have g2 : decide (8 < m) = false := decide_eq_false q2
  by_cases q3 : 8 < x.n
  · have g3 : decide (8 < (x.n : Int)) = true := decide_eq_true (by omega)
    have g3' : decide (8 < x.n) = true := decide_eq_true q3
    have HF : Hid (B = false) := Lib.hid (by
      rw [← HB.out, mayW, decide_eq_false (show ¬ x.g.length ≤ 8 by rw [HG.out]; omega)]; simp)
    clear q1 q2 q3
    go_wp2
    go_ret
    exact ⟨ret_bool HF.out.symm, Below.refl _ _⟩
  have g3 : decide (8 < (x.n : Int)) = false := decide_eq_false (by omega)
  have g3' : decide (8 < x.n) = false := decide_eq_false q3
  obtain ⟨M, rfl⟩ : ∃ M : Nat, m = M := ⟨m.toNat, by omega⟩
  have HM : Hid (B = x.g.all fun l => fitB l M) := Lib.hid (by
    rw [← HB.out, mayW, decide_eq_true (show (1 : Int) ≤ M by omega), decide_eq_true (show (M : Int) ≤ 8 by omega), decide_eq_true (show x.g.length ≤ 8 by rw [HG.out]; omega)]; rfl)
  clear q1 q2 q3 HB
  go_wp2_with fail
  go_loopw [5] (fun i wr => ∃ j : Nat, j ≤ x.n ∧ i = .int .i64 j ∧ Hid ((x.g.take j).all (fun l => fitB l M) = true) ∧ Below w.heap.size w wr) (fun i _ => x.n - (intOf i).toNat)
  case atStart => exact ⟨0, Nat.zero_le _, rfl, Lib.hid (by simp), Below.refl _ _⟩
  case round =>
    obtain ⟨j, hj, rfl, hok, hb⟩ := hrel
    by_cases hlt : j < x.n
    · obtain ⟨p, q, u, hA, hu, hg, hp, hcl, hk⟩ := h.get hlt
      have hcell : wr.cell? ⟨p, q + j, none⟩ = some (.slice u.A u.n u.c) := (hb.cell (p := ⟨p, q + j, none⟩) hp).trans hcl
      have hjl : j < x.g.length := by rw [HG.out]; exact hlt
      have hmem : u.zs ∈ x.g := by rw [← hg]; exact getD_mem hjl
      have htk : x.g.take (j + 1) = x.g.take j ++ [u.zs] := by
        rw [List.take_succ_eq_append_getElem hjl, ← hg, List.getD_eq_getElem?_getD, List.getElem?_eq_getElem hjl]; rfl
      have HNO : Hid (fitB u.zs M = false → B = false) := Lib.hid fun hf => by
        rw [HM.out, Bool.eq_false_iff]
        intro h2
        rw [List.all_eq_true.1 h2 _ hmem] at hf
        cases hf
      have HYES : Hid (fitB u.zs M = true → (x.g.take (j + 1)).all (fun l => fitB l M) = true) := Lib.hid fun hf => by
        rw [htk, List.all_append, hok.out]; simp [hf]
      have hkb := hk.below hb
      have HUL := Lib.hid hk.len
      have hlt' : (j : Int) < x.n := by omega
      have hj0 : (0 : Int) ≤ j := by omega
      have hurd := hkb.rd
      clear htk hmem hg hu hcl hok hkb
      obtain ⟨uA, un, uc, ul⟩ := u
      simp only at hurd HUL HNO HYES hcell
      rw [hA]
      by_cases hun : un = M
      · subst hun
        have gn : (((un : Int)) != (un : Int)) = false := by simp
        have gn2 : (un != un) = false := by simp
        go_wp2_with fail
        go_loop [6] (fun v => ∃ i : Nat, i ≤ un ∧ v = .int .i64 i ∧ Hid ((ul.take i).all (fun z => decide (-1000000 ≤ z) && decide (z ≤ 1000000)) = true)) (fun v => un - (intOf v).toNat)
        case atStart => exact ⟨0, Nat.zero_le _, rfl, Lib.hid (by simp)⟩
        case round =>
          obtain ⟨i, hi, rfl, hall⟩ := hrel
          have hi0 : (0 : Int) ≤ i := by omega
          by_cases hin : i < un
          · have hin' : (i : Int) < un := by omega
            have hil : i < ul.length := by rw [HUL.out]; exact hin
            obtain ⟨p2, q2, hA2, hp2, y0, hy0, hcy⟩ := hurd.get hin
            rw [ci64_get _ _ hil] at hy0
            obtain rfl : iV ul[i] = y0 := Option.some.inj hy0
            unfold iV at hcy
            have hmem : ul[i] ∈ ul := List.getElem_mem hil
            have htk := List.take_succ_eq_append_getElem hil
            obtain ⟨z, hz⟩ : ∃ z, ul[i] = z := ⟨_, rfl⟩
            rw [hz] at hcy hmem htk
            subst hA2
            by_cases c1 : z < -1000000
            · have k1 : decide (z < -1000000) = true := decide_eq_true c1
              have HF : Hid (B = false) := Lib.hid (HNO.out (by
                rw [Bool.eq_false_iff]
                intro h2
                have := (fitB_iff.1 h2).2 z hmem
                omega))
              clear hy0 hz htk hmem c1
              go_wp2
              go_ret
              exact ⟨ret_bool HF.out.symm, hb⟩
            have k1 : decide (z < -1000000) = false := decide_eq_false c1
            by_cases c2 : 1000000 < z
            · have k2 : decide (1000000 < z) = true := decide_eq_true c2
              have HF : Hid (B = false) := Lib.hid (HNO.out (by
                rw [Bool.eq_false_iff]
                intro h2
                have := (fitB_iff.1 h2).2 z hmem
                omega))
              clear hy0 hz htk hmem c1 c2
              go_wp2
              go_ret
              exact ⟨ret_bool HF.out.symm, hb⟩
            have k2 : decide (1000000 < z) = false := decide_eq_false c2
            have HN : Hid ((ul.take (i + 1)).all (fun z => decide (-1000000 ≤ z) && decide (z ≤ 1000000)) = true) := Lib.hid (by
              rw [htk, List.all_append, hall.out, List.all_cons, decide_eq_true (show -1000000 ≤ z by omega), decide_eq_true (show z ≤ 1000000 by omega)]; rfl)
            clear hy0 hz htk hmem c1 c2 hall
            go_wp2
            go_round
            case rel => exact ⟨i + 1, by omega, by go_num, HN⟩
            case measure => simp [intOf]; omega
          · obtain rfl : un = i := by omega
            have HN : Hid ((x.g.take (j + 1)).all (fun l => fitB l un) = true) := Lib.hid (HYES.out (by
              have h5 := hall.out
              rw [List.take_of_length_le (by rw [HUL.out]; exact Nat.le_refl _)] at h5
              rw [fitB, h5, HUL.out]; simp))
            clear hall
            go_wp2
            go_roundw
            case rel => exact ⟨j + 1, by omega, by go_num, HN, hb⟩
            case measure => simp [intOf]; omega
      · have gn : (((un : Int)) != (M : Int)) = true := by rw [bne_iff_ne]; omega
        have gn2 : (un != M) = true := by rw [bne_iff_ne]; exact hun
        have HF : Hid (B = false) := Lib.hid (HNO.out (by
          rw [Bool.eq_false_iff]
          intro h2
          have := (fitB_iff.1 h2).1
          rw [HUL.out] at this
          omega))
        clear hun
        go_wp2
        go_ret
        exact ⟨ret_bool HF.out.symm, hb⟩
    · obtain rfl : j = x.n := by omega
      have HT : Hid (B = true) := Lib.hid (by
        have h5 := hok.out
        rw [List.take_of_length_le (by rw [HG.out]; exact Nat.le_refl _)] at h5
        rw [HM.out]; exact h5)
      clear hok
      go_wp2
      go_ret
      exact ⟨ret_bool HT.out.symm, hb⟩
end Go.Proofs.YtecgakfblhiiaaaDoor

namespace Go.Proofs.YtecgakfblhiiaaaDoor
open Go.RowKit
set_option linter.unusedVariables false

/-- Bits. -/
theorem and1_i64 (a : Nat) (ha : a < 1000000) : bits .and .i64 (a : Int) 1 = ((a % 2 : Nat) : Int) := by
  have h1 : (BitVec.ofInt 64 (a : Int)).toNat = a := by
    rw [BitVec.ofInt_natCast, BitVec.toNat_ofNat]; exact Nat.mod_eq_of_lt (by omega)
  have h2 : (BitVec.ofInt 64 (1 : Int)).toNat = 1 := by decide
  show IntKind.i64.wrap ((BitVec.ofInt 64 (a : Int) &&& BitVec.ofInt 64 (1 : Int)).toNat : Int) = _
  rw [BitVec.toNat_and, h1, h2, Nat.and_one_is_mod, IntKind.wrap_i64]
  omega
theorem bit10 (p j : Nat) (hp : p < 1000000) : (bits .and .i64 ((p : Int) / 2 ^ j) 1 == 1) = p.testBit j := by
  have h1 : (p : Int) / 2 ^ j = ((p / 2 ^ j : Nat) : Int) := by simp
  have h2 := Nat.div_le_self p (2 ^ j)
  rw [h1, and1_i64 _ (by omega), Nat.testBit_eq_decide_div_mod_eq, Bool.eq_iff_iff, beq_iff_eq, decide_eq_true_eq]
  omega
theorem xor10 (a b : Nat) (ha : a < 1024) (hb : b < 1024) : bits .xor .i64 (a : Int) (b : Int) = ((a ^^^ b : Nat) : Int) := by
  have h1 : (BitVec.ofInt 64 (a : Int)).toNat = a := by
    rw [BitVec.ofInt_natCast, BitVec.toNat_ofNat]; exact Nat.mod_eq_of_lt (by omega)
  have h2 : (BitVec.ofInt 64 (b : Int)).toNat = b := by
    rw [BitVec.ofInt_natCast, BitVec.toNat_ofNat]; exact Nat.mod_eq_of_lt (by omega)
  have h3 : a ^^^ b < 2 ^ 10 := Nat.xor_lt_two_pow (by omega) (by omega)
  show IntKind.i64.wrap ((BitVec.ofInt 64 (a : Int) ^^^ BitVec.ofInt 64 (b : Int)).toNat : Int) = _
  rw [BitVec.toNat_xor, h1, h2, IntKind.wrap_i64]
  omega
theorem OwnI.put10 {w : World} {B g n c k : Nat} {zs : List Int} {z : Int} (h : OwnI w B ⟨some ⟨g, 0, none⟩, n, c, zs⟩) (hc : 0 < c) (hz : -9223372036854775808 ≤ z ∧ z ≤ 9223372036854775807) : OwnI (w.setCell ⟨g, k, none⟩ (.int .i64 z)) B ⟨some ⟨g, 0, none⟩, n, c, zs.set k z⟩ := by
  refine ⟨?_, fun y hy => ?_⟩
  · have h1 := h.own.set hc k (.int .i64 z)
    have h2 : ci64 (zs.set k z) = (ci64 zs).set k (.int .i64 z) := by simp [ci64, iV]
    show Own _ B _ _ n c (ci64 (zs.set k z))
    rw [h2]; exact h1
  · rcases List.mem_or_eq_of_mem_set hy with h1 | h1
    · exact h.fit y h1
    · rw [h1]; exact hz
theorem wrap512 (P : Nat) (h : P ≤ 512) : IntKind.i64.wrap (P : Int) = (P : Int) := by rw [IntKind.wrap_i64]; omega
theorem map_range_get {f : Nat → Int} {N s : Nat} (hs : s < N) : ((List.range N).map f)[s]? = some (f s) := by
  rw [List.getElem?_map, List.getElem?_range hs]; rfl
set_option maxRecDepth 100000 in
set_option maxHeartbeats 1000000 in
theorem rbest_any (x : Gr) (M : Nat) (w : World) (hx : x.Ok w) (hM1 : 1 ≤ M) (hM9 : M ≤ 9) (hn8 : x.n ≤ 8) (hrow : ∀ l ∈ x.g, l.length = M ∧ ∀ z ∈ l, -1000000 ≤ z ∧ z ≤ 1000000) :
    Calls Tryd.prog 59 #[x.v, .int .i64 M] w fun e w' => e = .returned (.int .i64 (bestV (gG x.g) M x.n)) ∧ Below w.heap.size w w' := by
  obtain ⟨i0, hi0, hz0, hz1, hz2⟩ := info_parts info10_int
  have HGL := Lib.hid hx.glen
  have HROW := Lib.hid hrow
  have hGb : ∀ b c, gG x.g b c ≤ 1000000 := fun b c => by
    rw [gG]
    by_cases hb : b < x.g.length
    · rw [List.getD_eq_getElem?_getD (l := x.g), List.getElem?_eq_getElem hb, Option.getD_some, List.getD_eq_getElem?_getD]
      by_cases hc : c < x.g[b].length
      · rw [List.getElem?_eq_getElem hc]; exact ((hrow _ (List.getElem_mem hb)).2 _ (List.getElem_mem hc)).2
      · rw [List.getElem?_eq_none (by omega)]; decide
    · rw [List.getD_eq_getElem?_getD (l := x.g), List.getElem?_eq_none (by omega)]; simp
  obtain ⟨G, hG⟩ : ∃ G, gG x.g = G := ⟨_, rfl⟩
  rw [hG] at hGb ⊢
  have HG := Lib.hid hG
  have HGB := Lib.hid hGb
  have HHB : Hid (∀ i, i ≤ 8 → ∀ s, 0 ≤ haveN G M i s ∧ haveN G M i s ≤ 8000000) := Lib.hid fun i hi s => by
    have h1 := bestV_bound (G := G) (K := 1000000) (by omega) hGb M i
    have h2 : haveN G M i s ≤ bestV G M i := bestN_top
    have h3 : 0 ≤ haveN G M i s := bestN_nonneg
    have h4 : (i : Int) * 1000000 ≤ 8000000 := by omega
    exact ⟨h3, by omega⟩
  obtain ⟨N, hN⟩ : ∃ N, 2 ^ M = N := ⟨_, rfl⟩
  have hN9 : N ≤ 512 := by rw [← hN]; exact Nat.pow_le_pow_right (by omega) hM9
  have hN1 : 2 ≤ N := by rw [← hN]; exact Nat.pow_le_pow_right (n := 2) (by omega) hM1
  have hNi : ((2 : Int) ^ M) = (N : Int) := by rw [← hN]; simp
  have hw : wrap64 (2 ^ M) = (N : Int) := by rw [hNi]; unfold wrap64; omega
  have HN := Lib.hid hN
  have HALL : Hid (haveN G M x.n (N - 1) = bestV G M x.n) := Lib.hid (by rw [← hN]; exact have_all G M x.n)
  clear hrow hG hGb hN hNi
  rw [show x.v = .slice x.A x.n x.c from rfl]
  go_enter Tryd.func59, Tryd.ntmps59
  go_wp2_with (at_make; go_must (refine wpList_mk _ rfl _ _ 25 rfl w.heap.size 3 i0 _ Tryd.underlying25 hi0 hz0 hz1 rfl .i64 .i64 _ _ N rfl rfl hw hw ?mk2 ?mk3 ?mk4 ?_))
  case mk2 => rw [hz2]; omega
  case mk3 => simp only [maxLen]; omega
  case mk4 => exact Nat.le_refl _
  intro wm hownm hbelm
  have hO0 : OwnI wm w.heap.size ⟨some ⟨w.heap.size, 0, none⟩, N, N, (List.range N).map (haveN G M 0)⟩ := by
    refine ⟨?_, fun z hz => ?_⟩
    · have e : ci64 ((List.range N).map (haveN G M 0)) = List.replicate N (.int .i64 0) := by
        rw [ci64, List.map_map]
        exact List.eq_replicate_iff.2 ⟨by simp, fun v hv => by obtain ⟨s, _, rfl⟩ := List.mem_map.1 hv; simp [iV, have_zero]⟩
      show Own wm w.heap.size _ _ N N (ci64 _)
      rw [e]; exact hownm
    · obtain ⟨s, _, rfl⟩ := List.mem_map.1 hz
      rw [have_zero]; omega
  clear hownm
  go_wp2_with fail
  go_loopw [5, 6] (fun o v wr => ∃ (i c : Nat) (A : Option Addr), i ≤ x.n ∧ v = .int .i64 i ∧ o = .slice A N c ∧ OwnI wr w.heap.size ⟨A, N, c, (List.range N).map (haveN G M i)⟩ ∧ Below w.heap.size w wr) (fun _ v _ => x.n - (intOf v).toNat)
  case atStart => exact ⟨0, N, some ⟨w.heap.size, 0, none⟩, Nat.zero_le _, rfl, rfl, hO0, hbelm⟩
  case round =>
    clear hO0 hbelm
    obtain ⟨i, c, A, hi, rfl, rfl, hO, hB⟩ := hrel
    have hrd := hO.own.rd
    simp only at hrd
    by_cases hin : i < x.n
    · have hin' : (i : Int) < x.n := by omega
      have hi0' : (0 : Int) ≤ i := by omega
      obtain ⟨wo, rfl⟩ : ∃ wo, wo = wr := ⟨_, rfl⟩
      obtain ⟨p2, q2, u, hAx, _, hgy, hp2, hcx0, hku⟩ := hx.get hin
      have hcx := (hB.cell (p := ⟨p2, q2 + i, none⟩) hp2).trans hcx0
      have hku2 := hku.below hB
      have hp2o : p2 < wo.heap.size := Nat.lt_of_lt_of_le hp2 hB.size
      have hrw := HROW.out u.zs (by rw [← hgy]; exact getD_mem (by rw [HGL.out]; exact hin))
      have HGR : Hid (∀ k, k < M → ∃ h : k < u.zs.length, G i k = u.zs[k]) := Lib.hid fun k hk => by
        have hkl : k < u.zs.length := by rw [hrw.1]; exact hk
        refine ⟨hkl, ?_⟩
        rw [← HG.out, gG, hgy, List.getD_eq_getElem?_getD, List.getElem?_eq_getElem hkl]; rfl
      have hun : u.n = M := by have := hku.len; rw [← this]; exact hrw.1
      have HZB := Lib.hid hrw.2
      obtain ⟨uA, un, uc, ul⟩ := u
      simp only at hun HGR HZB
      subst hun
      have hurd := hku2.rd
      simp only at hurd
      replace hcx : wo.cell? ⟨p2, q2 + i, none⟩ = some (.slice uA un uc) := hcx
      clear hcx0 hku hku2 hgy hrw
      rw [hAx]
      go_wp2_with (at_builtin; go_must (refine wpList_app wo rfl _ _ 25 rfl 3 i0 _ 8 Tryd.underlying25 hi0 hz0 hz1 hz2 rfl wo.heap.size none 0 0 [] rfl (Own.none_ _ _ _ _) A N c (ci64 ((List.range N).map (haveN G un i))) rfl hrd ?e1 ?e2 ?e3 ?e4 ?_))
      case e1 => intro u hu; obtain ⟨z, _, rfl⟩ := List.mem_map.1 hu; rfl
      case e2 => simp only [maxLen]; omega
      case e3 => omega
      try case e4 => exact Nat.le_refl _
      intro A2 c2 w2 hown2 hbel2 _ _
      have hO2 : OwnI w2 wo.heap.size ⟨A2, N, c2, mixL (haveN G un (i + 1)) (haveN G un i) N 0⟩ := ⟨by rw [mix_zero]; simpa using hown2, fun z hz => by rw [mix_zero] at hz; exact hO.fit z hz⟩
      have hle2 := hO2.own.le
      simp only at hle2
      obtain ⟨g2, hA2, hg2, hg2l⟩ := hO2.own.lt (show 0 < c2 by omega)
      simp only at hA2
      subst hA2
      clear hown2 hg2l
      go_wp2_with fail
      go_loopw [8] (fun v wr => ∃ s : Nat, s ≤ N ∧ v = .int .i64 s ∧ OwnI wr wo.heap.size ⟨some ⟨g2, 0, none⟩, N, c2, mixL (haveN G un (i + 1)) (haveN G un i) N s⟩ ∧ Below wo.heap.size wo wr) (fun v _ => N - (intOf v).toNat)
      case atStart => exact ⟨0, Nat.zero_le _, rfl, hO2, hbel2⟩
      case round =>
        clear hO2 hbel2
        obtain ⟨s, hs, rfl, hOs, hBs⟩ := hrel
        by_cases hsN : s < N
        · have hsN' : (s : Int) < N := by omega
          have hs0 : (0 : Int) ≤ s := by omega
          have hOs0 : OwnI wr wo.heap.size ⟨some ⟨g2, 0, none⟩, N, c2, (mixL (haveN G un (i + 1)) (haveN G un i) N s).set s (foldK G un i s 0)⟩ := by
            rw [foldK_zero, mix_self hsN]; exact hOs
          clear hOs
          obtain ⟨ws, rfl⟩ : ∃ ws, ws = wr := ⟨_, rfl⟩
          go_wp2_with fail
          go_loopw [9] (fun v wr => ∃ k : Nat, k ≤ un ∧ v = .int .i64 k ∧ OwnI wr wo.heap.size ⟨some ⟨g2, 0, none⟩, N, c2, (mixL (haveN G un (i + 1)) (haveN G un i) N s).set s (foldK G un i s k)⟩ ∧ Below wo.heap.size wo wr) (fun v _ => un - (intOf v).toNat)
          case atStart => exact ⟨0, Nat.zero_le _, rfl, hOs0, hBs⟩
          case round =>
            clear hOs0 hBs
            obtain ⟨k, hk, rfl, hOk, hBk⟩ := hrel
            have hk0 : (0 : Int) ≤ k := by omega
            by_cases hkn : k < un
            · have hkn' : (k : Int) < un := by omega
              have hbit := bit10 s k (by omega)
              have hno := foldK_no (G := G) (m := un) (n := i) (s := s) (k := k)
              have hyes := foldK_yes (G := G) (m := un) (n := i) (s := s) (k := k)
              obtain ⟨hkl, hGz⟩ := HGR.out k hkn
              have hzb := HZB.out _ (List.getElem_mem hkl)
              obtain ⟨p4, q4, hA4, hp4, t0, ht0, hct0⟩ := hurd.get hkn
              rw [ci64_get _ _ hkl] at ht0
              obtain rfl : iV ul[k] = t0 := Option.some.inj ht0
              unfold iV at hct0
              obtain ⟨z, hz⟩ : ∃ z, ul[k] = z := ⟨_, rfl⟩
              rw [hz] at hGz hzb hct0
              rw [hGz] at hno hyes
              have hct : ∀ w', Below wo.heap.size wo w' → w'.cell? ⟨p4, q4 + k, none⟩ = some (.int .i64 z) := fun w' hb => (hb.cell (p := ⟨p4, q4 + k, none⟩) hp4).trans hct0
              have hcr : ∀ w', Below wo.heap.size wo w' → w'.cell? ⟨p2, q2 + i, none⟩ = some (.slice uA un uc) := fun w' hb => (hb.cell (p := ⟨p2, q2 + i, none⟩) hp2o).trans hcx
              have d0 := hcr _ hBk
              have d1 := hct _ hBk
              subst hA4
              obtain ⟨δ, hδ⟩ : ∃ δ, s.testBit k = δ := ⟨_, rfl⟩
              rw [hδ] at hbit hno hyes
              have HBIT := Lib.hid hδ
              clear ht0 hz hct0 hkl hGz hδ
              cases δ
              · have hO2 : OwnI wr wo.heap.size ⟨some ⟨g2, 0, none⟩, N, c2, (mixL (haveN G un (i + 1)) (haveN G un i) N s).set s (foldK G un i s (k + 1))⟩ := by
                  rw [hno (by simp)]; exact hOk
                clear hOk hno hyes d0 d1
                go_wp2
                go_roundw
                case rel => exact ⟨k + 1, by omega, by go_num, hO2, hBk⟩
                case measure => simp [intOf]; omega
              · by_cases hz0 : 0 ≤ z
                · have gz : decide (0 ≤ z) = true := decide_eq_true hz0
                  have hY := hyes rfl hz0
                  have hcu := hOk.own.cell (j := s) hsN
                  have hset : ((mixL (haveN G un (i + 1)) (haveN G un i) N s).set s (foldK G un i s k))[s]? = some (foldK G un i s k) := by
                    rw [List.getElem?_set, if_pos rfl, mix_len, if_pos hsN]
                  rw [show ci64 ((mixL (haveN G un (i + 1)) (haveN G un i) N s).set s (foldK G un i s k)) = ((mixL (haveN G un (i + 1)) (haveN G un i) N s).set s (foldK G un i s k)).map iV from rfl, List.getElem?_map, hset] at hcu
                  replace hcu : wr.cell? ⟨g2, s, none⟩ = some (.int .i64 (foldK G un i s k)) := hcu
                  have hfr := hOk.own.free (show 0 < c2 by omega) s
                  have hfb := foldK_bound (G := G) (m := un) (n := i) (s := s) (K := 8000000) (fun t => HHB.out i (by omega) t) (fun c => HGB.out i c) k
                  have hxl := xor_lt (show s < 2 ^ un by rw [HN.out]; exact hsN) hkn
                  rw [HN.out] at hxl
                  have hpk : 2 ^ k ≤ 512 := Nat.le_trans (Nat.pow_le_pow_right (by omega) (show k ≤ 9 by omega)) (by decide)
                  obtain ⟨P, hP⟩ : ∃ P, 2 ^ k = P := ⟨_, rfl⟩
                  have hPi : ((2 : Int) ^ k) = (P : Int) := by rw [← hP]; simp
                  have hwk : wrap64 (2 ^ k) = (P : Int) := by rw [hPi]; rw [hP] at hpk; unfold wrap64; omega
                  rw [hP] at hxl hpk hY
                  have cw0 := wrap512 P hpk
                  have cw4 : IntKind.i64.wrap (2 ^ k) = (P : Int) := by rw [hPi]; exact cw0
                  have cw1 : IntKind.u64.wrap (k : Int) = (k : Int) := by
                    rw [show IntKind.u64.wrap (k : Int) = (k : Int) % 18446744073709551616 by simp [IntKind.wrap, IntKind.bits, IntKind.signed]]
                    exact Int.emod_eq_of_lt hk0 (Int.lt_of_lt_of_le hkn' (Int.le_trans (Int.ofNat_le.2 hM9) (by decide)))
                  have cw2 : IntKind.i64.wrap (2 ^ min (k : Int).toNat 64) = (P : Int) := by
                    rw [Int.toNat_natCast, Nat.min_eq_left (Nat.le_trans (Nat.le_of_lt hkn) (Nat.le_trans hM9 (by decide))), hPi]; exact cw0
                  have cw3 : IntKind.i64.wrap (2 ^ min k 64) = (P : Int) := by rw [Nat.min_eq_left (Nat.le_trans (Nat.le_of_lt hkn) (Nat.le_trans hM9 (by decide))), hPi]; exact cw0
                  have hxo := xor10 s P (Nat.lt_of_lt_of_le hsN (Nat.le_trans hN9 (by decide))) (Nat.lt_of_le_of_lt hpk (by decide))
                  obtain ⟨s2, hs2⟩ : ∃ s2, s ^^^ P = s2 := ⟨_, rfl⟩
                  rw [hs2] at hxl hxo hY
                  have hs2i : (s2 : Int) < N := by omega
                  have hs20 : (0 : Int) ≤ s2 := by omega
                  have hhb := HHB.out i (by omega) s2
                  obtain ⟨p5, q5, hA5, hp5, t1, ht1, hct1⟩ := hrd.get hxl
                  rw [show ci64 ((List.range N).map (haveN G un i)) = ((List.range N).map (haveN G un i)).map iV from rfl, List.getElem?_map, map_range_get hxl] at ht1
                  obtain rfl : iV (haveN G un i s2) = t1 := Option.some.inj ht1
                  unfold iV at hct1
                  obtain ⟨hv, hhv⟩ : ∃ hv, haveN G un i s2 = hv := ⟨_, rfl⟩
                  obtain ⟨fv, hfv⟩ : ∃ fv, foldK G un i s k = fv := ⟨_, rfl⟩
                  rw [hhv] at hct1 hhb hY
                  rw [hfv] at hcu hfb hY
                  have hch : ∀ w', Below wo.heap.size wo w' → w'.cell? ⟨p5, q5 + s2, none⟩ = some (.int .i64 hv) := fun w' hb => (hb.cell (p := ⟨p5, q5 + s2, none⟩) hp5).trans hct1
                  have s5 : IntKind.i64.wrap (hv + z) = hv + z := by rw [IntKind.wrap_i64]; omega
                  have n2 := OwnI.put10 hOk (k := s) (z := foldK G un i s (k + 1)) (show 0 < c2 by omega) (by rw [hY]; omega)
                  rw [List.set_set, hY] at n2
                  have HY := Lib.hid hY
                  have HMX : Hid ((if fv < hv + z then hv + z else fv) = max fv (hv + z)) := Lib.hid (by split <;> omega)
                  subst hA5
                  have e2 := hch _ hBk
                  clear ht1 hhv hfv hno hyes hct1 hY hP hPi hs2
                  have hcud : wr.drew.cell? ⟨g2, s, none⟩ = some (.int .i64 fv) := hcu
                  have hS13 : ∀ w', Below wo.heap.size wo w' → w'.cell? ⟨p2, q2 + i, none⟩ = some (.slice (some ⟨p4, q4, none⟩) un uc) ∧ w'.cell? ⟨p4, q4 + k, none⟩ = some (.int .i64 z) ∧ w'.cell? ⟨p5, q5 + s2, none⟩ = some (.int .i64 hv) := fun w' hb => ⟨hcr w' hb, hct w' hb, hch w' hb⟩
                  go_wp2_with fail
                  refine wp_region_ord (S := fun w' => w'.cell? ⟨p2, q2 + i, none⟩ = some (.slice (some ⟨p4, q4, none⟩) un uc) ∧ w'.cell? ⟨p4, q4 + k, none⟩ = some (.int .i64 z) ∧ w'.cell? ⟨p5, q5 + s2, none⟩ = some (.int .i64 hv)) [(0, true), (1, true), (2, true), (3, true), (4, true), (6, true), (7, true), (8, true), (9, true), (10, true), (11, true), (12, true), (13, true), (14, true), (15, true), (16, true), (17, true), (18, true), (19, true), (20, true), (21, true), (5, false), (22, true), (23, true), (24, false)] default (by kernel_rfl) (by kernel_rfl) (by kernel_rfl) (hS13 _ hBk.drew) ?_
                  simp only [getOrd, nth]
                  repeat (first | (refine ordS (by rfl) ?_; simp only [Act.put, List.setIfInBounds_toArray, List.set_cons_zero, List.set_cons_succ]) | (refine ordN (by rfl) ?_; simp only [Act.put, List.setIfInBounds_toArray, List.set_cons_zero, List.set_cons_succ]) | (refine ordQ (v := ?_) (by rfl) (fun _ hSw => ?_) ?_; rotate_left; (focus ((have hS1 := hSw.1); (have hS2 := hSw.2.1); (have hS3 := hSw.2.2); clear hSw; go_simp; (first | done | with_reducible rfl))); simp only [Act.put, List.setIfInBounds_toArray, List.set_cons_zero, List.set_cons_succ]))
                  refine ordD (by rfl) ?_
                  intro K hK
                  go_simp
                  refine hK _ _ (hS13 _ hBk.drew) ?_
                  clear hK K
                  try simp only [Act.put, List.setIfInBounds_toArray, List.set_cons_zero, List.set_cons_succ]
                  repeat (first | (refine ordS (by rfl) ?_; simp only [Act.put, List.setIfInBounds_toArray, List.set_cons_zero, List.set_cons_succ]) | (refine ordN (by rfl) ?_; simp only [Act.put, List.setIfInBounds_toArray, List.set_cons_zero, List.set_cons_succ]) | (refine ordQ (v := ?_) (by rfl) (fun _ hSw => ?_) ?_; rotate_left; (focus ((have hS1 := hSw.1); (have hS2 := hSw.2.1); (have hS3 := hSw.2.2); clear hSw; go_simp; (first | done | with_reducible rfl))); simp only [Act.put, List.setIfInBounds_toArray, List.set_cons_zero, List.set_cons_succ]))
                  refine ordD (by rfl) ?_
                  intro K hK
                  go_simp
                  have hb5 := (hBk.setCell (p := ⟨g2, s, none⟩) hg2 (.int .i64 (max fv (hv + z)))).drew
                  refine hK _ _ (hS13 _ hb5) ?_
                  clear hK K
                  try simp only [Act.put, List.setIfInBounds_toArray, List.set_cons_zero, List.set_cons_succ]
                  refine ordE ?_
                  have hO2 : OwnI (wr.setCell ⟨g2, s, none⟩ (.int .i64 (max fv (hv + z)))).drew wo.heap.size ⟨some ⟨g2, 0, none⟩, N, c2, (mixL (haveN G un (i + 1)) (haveN G un i) N s).set s (foldK G un i s (k + 1))⟩ := by
                    rw [HY.out]; exact ⟨n2.own.drew, n2.fit⟩
                  clear n2 hOk hcu hcud hfr hS13 hch e2 d0 d1
                  go_wp2
                  go_roundw
                  case rel => exact ⟨k + 1, by omega, by go_num, hO2, hb5⟩
                  case measure => simp [intOf]; omega
                · have gz : decide (0 ≤ z) = false := decide_eq_false hz0
                  have hO2 : OwnI wr wo.heap.size ⟨some ⟨g2, 0, none⟩, N, c2, (mixL (haveN G un (i + 1)) (haveN G un i) N s).set s (foldK G un i s (k + 1))⟩ := by
                    rw [hno (fun h => hz0 h.2)]; exact hOk
                  clear hOk hno hyes
                  go_wp2
                  go_roundw
                  case rel => exact ⟨k + 1, by omega, by go_num, hO2, hBk⟩
                  case measure => simp [intOf]; omega
            · obtain rfl : un = k := by omega
              have hO2 : OwnI wr wo.heap.size ⟨some ⟨g2, 0, none⟩, N, c2, mixL (haveN G un (i + 1)) (haveN G un i) N (s + 1)⟩ := by
                rw [← mix_set, ← foldK_all]; exact hOk
              clear hOk
              go_wp2
              go_roundw
              case rel => exact ⟨s + 1, by omega, by go_num, hO2, hBk⟩
              case measure => simp [intOf]; omega
        · obtain rfl : N = s := by omega
          have hO2 : OwnI wr w.heap.size ⟨some ⟨g2, 0, none⟩, N, c2, (List.range N).map (haveN G un (i + 1))⟩ := by
            rw [← mix_all _ (haveN G un i)]; exact hOs.mono hB.size
          have hB2 := hB.trans (hBs.mono hB.size)
          clear hOs
          go_wp2
          go_roundw
          case rel => exact ⟨i + 1, c2, _, by omega, by go_num, rfl, hO2, hB2⟩
          case measure => simp [intOf]; omega
    · obtain rfl : i = x.n := by omega
      have s6 : IntKind.i64.wrap ((N : Int) - 1) = (N : Int) - 1 := by rw [IntKind.wrap_i64]; omega
      obtain ⟨K, hK⟩ : ∃ K, N = K + 1 := ⟨N - 1, by omega⟩
      subst hK
      obtain ⟨p5, q5, hA5, hp5, t1, ht1, hct1⟩ := hrd.get (show K < K + 1 by omega)
      rw [show ci64 ((List.range (K + 1)).map (haveN G M x.n)) = ((List.range (K + 1)).map (haveN G M x.n)).map iV from rfl, List.getElem?_map, map_range_get (show K < K + 1 by omega)] at ht1
      obtain rfl : iV (haveN G M x.n K) = t1 := Option.some.inj ht1
      unfold iV at hct1
      have hal := HALL.out
      rw [Nat.add_sub_cancel] at hal
      rw [hal] at hct1
      subst hA5
      have s7 : ((K + 1 : Nat) : Int) - 1 = (K : Int) := by omega
      have s8 : (0 : Int) ≤ K := by omega
      have s9 : (K : Int) < ((K + 1 : Nat) : Int) := by omega
      clear ht1 hal
      go_wp2
      go_ret
      exact ⟨rfl, hB⟩
end Go.Proofs.YtecgakfblhiiaaaDoor

namespace Go.Proofs.YtecgakfblhiiaaaDoor
open Go.RowKit
set_option linter.unusedVariables false

/-- Gains, with one more of one item. -/
def withOneL (g : List (List Int)) (k j : Nat) : List (List Int) := (g.take j).map fun l => l ++ [l.getD k 0]
theorem withOneL_succ {g : List (List Int)} {k j : Nat} {l : List Int} (h : g[j]? = some l) : withOneL g k (j + 1) = withOneL g k j ++ [l ++ [l.getD k 0]] := by
  obtain ⟨hj, rfl⟩ := List.getElem?_eq_some_iff.1 h
  rw [withOneL, List.take_succ_eq_append_getElem hj, List.map_append]; rfl
theorem withOneL_row {g : List (List Int)} {m k : Nat} (h : mayW g m = true) (hk : k < m) : ∀ l ∈ withOneL g k g.length, l.length = m + 1 ∧ ∀ z ∈ l, -1000000 ≤ z ∧ z ≤ 1000000 := fun l hl => by
  obtain ⟨h1, h2, h3, h4⟩ := mayW_iff.1 h
  rw [withOneL, List.take_length] at hl
  obtain ⟨r, hr, rfl⟩ := List.mem_map.1 hl
  obtain ⟨h5, h6⟩ := h4 r hr
  refine ⟨by rw [List.length_append, List.length_singleton]; omega, fun z hz => ?_⟩
  rcases List.mem_append.1 hz with hz | hz
  · exact h6 z hz
  · rw [List.mem_singleton.1 hz, List.getD_eq_getElem?_getD, List.getElem?_eq_getElem (show k < r.length by omega)]
    exact h6 _ (List.getElem_mem _)
theorem withOneL_gG {g : List (List Int)} {m k b c : Nat} (h : mayW g m = true) (hb : b < g.length) (hc : c < m + 1) : gG (withOneL g k g.length) b c = oneG (gG g) m k b c := by
  have hl := (may_row h hb).1
  rw [gG_at (l := g[b] ++ [g[b].getD k 0]) (by rw [withOneL, List.take_length, List.getElem?_map, List.getElem?_eq_getElem hb]; rfl), List.getD_eq_getElem?_getD, oneG]
  have hgb : g.getD b [] = g[b] := by rw [List.getD_eq_getElem?_getD, List.getElem?_eq_getElem hb]; rfl
  by_cases e : c = m
  · rw [if_pos e, List.getElem?_append_right (by omega), hl, e, Nat.sub_self, gG, hgb]; rfl
  · rw [if_neg e, List.getElem?_append_left (by omega), gG, hgb, List.getD_eq_getElem?_getD]
theorem withOneL_best {g : List (List Int)} {m k : Nat} (h : mayW g m = true) (hk : k < m) : bestV (gG (withOneL g k g.length)) (m + 1) g.length = bestV (gG g) m g.length + numP (gG g) m g.length k := by
  rw [best_same (G' := oneG (gG g) m k) fun b c hb hc => withOneL_gG (k := k) h hb hc, numP]; omega
theorem OwnI.snocC {w : World} {B n c : Nat} {A : Option Addr} {zs : List Int} {z : Int} (h : Own w B 3 A n c (ci64 zs ++ [.int .i64 z])) (hf : ∀ y ∈ zs, -9223372036854775808 ≤ y ∧ y ≤ 9223372036854775807) (hz : -9223372036854775808 ≤ z ∧ z ≤ 9223372036854775807) : OwnI w B ⟨A, n, c, zs ++ [z]⟩ := by
  refine ⟨?_, fun y hy => ?_⟩
  · show Own w B _ A n c (ci64 (zs ++ [z]))
    rw [ci64_app]; exact h
  · rcases List.mem_append.1 hy with hy | hy
    · exact hf y hy
    · rw [List.mem_singleton.1 hy]; exact hz
theorem own_listsC {w : World} {B : Nat} {A : Option Addr} {n c : Nat} {t : List Ls} (own : Own w B 25 A n c (t.map Ls.v)) (h : ∀ v ∈ t, v.Ok w) : Gr.Ok w ⟨A, n, c, t⟩ := ⟨⟨outs_at own, h⟩, own.le, own.cap⟩
def bidG (G : Nat → Nat → Int) (N : Nat → Int) (m i : Nat) : Int := topN (fun k => G i k - N k) m
theorem top_boundC {G : Nat → Nat → Int} {N : Nat → Int} {m i : Nat} (hG : ∀ c, G i c ≤ 1000000) (hN : ∀ c, c < m → 0 ≤ N c) {j : Nat} (hj : j ≤ m) : 0 ≤ topN (fun k => G i k - N k) j ∧ topN (fun k => G i k - N k) j ≤ 1000000 :=
  ⟨top_nonneg _ _, top_le (by omega) fun k hk => by have := hG k; have := hN k (by omega); omega⟩
set_option maxRecDepth 100000 in
set_option maxHeartbeats 1000000 in
theorem rbestC : BestC 22 := by
  intro x m w hx hm1 hm2
  have hc := rcheckW x m w hx hm1 hm2
  obtain ⟨B, hB0⟩ : ∃ B, mayW x.g m = B := ⟨_, rfl⟩
  rw [hB0] at hc
  have hgl := hx.glen
  have hv : x.v = .slice x.A x.n x.c := rfl
  rw [hv] at hc ⊢
  cases B
  · obtain ⟨e1, e2, _⟩ := we_bad hB0
    rw [e1, e2]
    clear hB0 e1 e2 hv hgl
    go_enter Tryd.func22, Tryd.ntmps22
    go_wp2_with fail
    refine hc.mono ?_
    rintro e w1 ⟨rfl, hb⟩
    clear hc
    go_wp2
    go_ret2
    exact ⟨rfl, hb⟩
  · obtain ⟨M, rfl⟩ : ∃ M : Nat, m = M := ⟨m.toNat, by have := (mayW_iff.1 hB0).1; omega⟩
    obtain ⟨e1, e2, _⟩ := we_ok hB0
    rw [e1, e2, hgl]
    obtain ⟨r1, r2, r3, r4⟩ := mayW_iff.1 hB0
    have HR := Lib.hid (show ∀ l ∈ x.g, l.length = M ∧ ∀ z ∈ l, -1000000 ≤ z ∧ z ≤ 1000000 from fun l hl => ⟨by have := (r4 l hl).1; omega, (r4 l hl).2⟩)
    rw [hgl] at r3
    clear hB0 e1 e2 hgl r4
    go_enter Tryd.func22, Tryd.ntmps22
    go_wp2_with fail
    refine hc.mono ?_
    rintro e w1 ⟨rfl, hb⟩
    clear hc
    have hc := rbest_any x M w1 (hx.below hb) (by omega) (by omega) r3 HR.out
    rw [hv] at hc
    clear hv
    go_wp2_with fail
    refine hc.mono ?_
    rintro e w2 ⟨rfl, hb2⟩
    clear hc
    have hb3 := hb.trans (hb2.mono hb.size)
    go_wp2
    go_ret2
    exact ⟨rfl, hb3⟩
end Go.Proofs.YtecgakfblhiiaaaDoor
