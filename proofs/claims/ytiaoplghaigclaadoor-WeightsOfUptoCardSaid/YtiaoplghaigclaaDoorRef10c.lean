/-
  The document's answers of layer 10: Best, Proved.
-/
import Derived.Test.YtiaoplghaigclaaDoorWeO
import Derived.Test.YtiaoplghaigclaaDoorBest10
import Derived.Test.YtiaoplghaigclaaDoorGrL
import Derived.Test.YtiaoplghaigclaaDoorReg2
import Derived.Lib.MinMax
import Derived.Test.YtiaoplghaigclaaDoorReg
import Derived.OwnWalk
namespace Go.Proofs.YtiaoplghaigclaaDoor
open Go.RowKit
set_option linter.unusedVariables false

theorem info10_int : (Tryd.prog.info? 3).map (fun i => (i.zero, i.size, i.bytes)) = some (some (.int .i64 0), 1, 8) := by kernel_rfl
theorem info10_ints : (Tryd.prog.info? 30).map (fun i => (i.zero, i.size, i.bytes)) = some (some (.slice none 0 0), 1, 24) := by kernel_rfl
def fitB (l : List Int) (m : Int) : Bool := decide ((l.length : Int) = m) && l.all fun z => decide (-1000000 ≤ z) && decide (z ≤ 1000000)
theorem fitB_iff {l : List Int} {m : Int} : fitB l m = true ↔ (l.length : Int) = m ∧ ∀ z ∈ l, -1000000 ≤ z ∧ z ≤ 1000000 := by
  simp [fitB]
set_option maxRecDepth 100000 in
set_option maxHeartbeats 1000000 in
theorem rcheckW (x : Gr) (m : Int) (w : World) (h : x.Ok w) (hm1 : -9223372036854775808 ≤ m) (hm2 : m ≤ 9223372036854775807) :
    Calls Tryd.prog 20 #[x.v, .int .i64 m] w fun e w' => e = .returned (.bool (mayW x.g m)) ∧ Below w.heap.size w w' := by
  have hgl := h.glen
  have hlen := h.len
  have tn := Nat.le_trans h.cap h.top
  unfold maxLen at tn
  obtain ⟨B, hB⟩ : ∃ B, mayW x.g m = B := ⟨_, rfl⟩
  have HB := Lib.hid hB
  have HG := Lib.hid hgl
  rw [hB]
  clear hB hgl
  unfold Gr.v
  go_enter Tryd.func20, Tryd.ntmps20
  by_cases q1 : m < 1
  · have g1 : decide (m < 1) = true := decide_eq_true q1
    have HF : Hid (B = false) := Lib.hid (by
      rw [← HB.out, mayW, decide_eq_false (by omega)]; rfl)
    clear q1
    go_wp2
    go_ret
    exact ⟨ret_bool HF.out.symm, Below.refl _ _⟩
  have g1 : decide (m < 1) = false := decide_eq_false q1
  by_cases q2 : 8 < m
  · have g2 : decide (8 < m) = true := decide_eq_true q2
    have HF : Hid (B = false) := Lib.hid (by
      rw [← HB.out, mayW, decide_eq_false (show ¬ m ≤ 8 by omega)]; simp)
    clear q1 q2
    go_wp2
    go_ret
    exact ⟨ret_bool HF.out.symm, Below.refl _ _⟩
  have g2 : decide (8 < m) = false := decide_eq_false q2
  by_cases q3 : 8 < x.n
  · have g3 : decide (8 < (x.n : Int)) = true := decide_eq_true (by omega)
    have g3' : decide (8 < x.n) = true := decide_eq_true q3
    have HF : Hid (B = false) := Lib.hid (by
      rw [← HB.out, mayW, decide_eq_false (show ¬ x.g.length ≤ 8 by rw [HG.out]; omega)]; simp)
    clear q1 q2 q3
    go_wp2
    go_ret
    exact ⟨ret_bool HF.out.symm, Below.refl _ _⟩
  have g3 : decide (8 < (x.n : Int)) = false := decide_eq_false (by omega)
  have g3' : decide (8 < x.n) = false := decide_eq_false q3
  obtain ⟨M, rfl⟩ : ∃ M : Nat, m = M := ⟨m.toNat, by omega⟩
  have HM : Hid (B = x.g.all fun l => fitB l M) := Lib.hid (by
    rw [← HB.out, mayW, decide_eq_true (show (1 : Int) ≤ M by omega), decide_eq_true (show (M : Int) ≤ 8 by omega), decide_eq_true (show x.g.length ≤ 8 by rw [HG.out]; omega)]; rfl)
  clear q1 q2 q3 HB
  go_wp2_with fail
  go_loopw [5] (fun i wr => ∃ j : Nat, j ≤ x.n ∧ i = .int .i64 j ∧ Hid ((x.g.take j).all (fun l => fitB l M) = true) ∧ Below w.heap.size w wr) (fun i _ => x.n - (intOf i).toNat)
  case atStart => exact ⟨0, Nat.zero_le _, rfl, Lib.hid (by simp), Below.refl _ _⟩
  case round =>
    obtain ⟨j, hj, rfl, hok, hb⟩ := hrel
    by_cases hlt : j < x.n
    · obtain ⟨p, q, u, hA, hu, hg, hp, hcl, hk⟩ := h.get hlt
      have hcell : wr.cell? ⟨p, q + j, none⟩ = some (.slice u.A u.n u.c) := (hb.cell (p := ⟨p, q + j, none⟩) hp).trans hcl
      have hjl : j < x.g.length := by rw [HG.out]; exact hlt
      have hmem : u.zs ∈ x.g := by rw [← hg]; exact getD_mem hjl
      have htk : x.g.take (j + 1) = x.g.take j ++ [u.zs] := by
        rw [List.take_succ_eq_append_getElem hjl, ← hg, List.getD_eq_getElem?_getD, List.getElem?_eq_getElem hjl]; rfl
      have HNO : Hid (fitB u.zs M = false → B = false) := Lib.hid fun hf => by
        rw [HM.out, Bool.eq_false_iff]
        intro h2
        rw [List.all_eq_true.1 h2 _ hmem] at hf
        cases hf
      have HYES : Hid (fitB u.zs M = true → (x.g.take (j + 1)).all (fun l => fitB l M) = true) := Lib.hid fun hf => by
        rw [htk, List.all_append, hok.out]; simp [hf]
      have hkb := hk.below hb
      have HUL := Lib.hid hk.len
      have hlt' : (j : Int) < x.n := by omega
      have hj0 : (0 : Int) ≤ j := by omega
      have hurd := hkb.rd
      clear htk hmem hg hu hcl hok hkb
      obtain ⟨uA, un, uc, ul⟩ := u
      simp only at hurd HUL HNO HYES hcell
      rw [hA]
      by_cases hun : un = M
      · subst hun
        have gn : (((un : Int)) != (un : Int)) = false := by simp
        have gn2 : (un != un) = false := by simp
        go_wp2_with fail
        go_loop [6] (fun v => ∃ i : Nat, i ≤ un ∧ v = .int .i64 i ∧ Hid ((ul.take i).all (fun z => decide (-1000000 ≤ z) && decide (z ≤ 1000000)) = true)) (fun v => un - (intOf v).toNat)
        case atStart => exact ⟨0, Nat.zero_le _, rfl, Lib.hid (by simp)⟩
        case round =>
          obtain ⟨i, hi, rfl, hall⟩ := hrel
          have hi0 : (0 : Int) ≤ i := by omega
          by_cases hin : i < un
          · have hin' : (i : Int) < un := by omega
            have hil : i < ul.length := by rw [HUL.out]; exact hin
            obtain ⟨p2, q2, hA2, hp2, y0, hy0, hcy⟩ := hurd.get hin
            rw [ci64_get _ _ hil] at hy0
            obtain rfl : iV ul[i] = y0 := Option.some.inj hy0
            unfold iV at hcy
            have hmem : ul[i] ∈ ul := List.getElem_mem hil
            have htk := List.take_succ_eq_append_getElem hil
            obtain ⟨z, hz⟩ : ∃ z, ul[i] = z := ⟨_, rfl⟩
            rw [hz] at hcy hmem htk
            subst hA2
            by_cases c1 : z < -1000000
            · have k1 : decide (z < -1000000) = true := decide_eq_true c1
              have HF : Hid (B = false) := Lib.hid (HNO.out (by
                rw [Bool.eq_false_iff]
                intro h2
                have := (fitB_iff.1 h2).2 z hmem
                omega))
              clear hy0 hz htk hmem c1
              go_wp2
              go_ret
              exact ⟨ret_bool HF.out.symm, hb⟩
            have k1 : decide (z < -1000000) = false := decide_eq_false c1
            by_cases c2 : 1000000 < z
            · have k2 : decide (1000000 < z) = true := decide_eq_true c2
              have HF : Hid (B = false) := Lib.hid (HNO.out (by
                rw [Bool.eq_false_iff]
                intro h2
                have := (fitB_iff.1 h2).2 z hmem
                omega))
              clear hy0 hz htk hmem c1 c2
              go_wp2
              go_ret
              exact ⟨ret_bool HF.out.symm, hb⟩
            have k2 : decide (1000000 < z) = false := decide_eq_false c2
            have HN : Hid ((ul.take (i + 1)).all (fun z => decide (-1000000 ≤ z) && decide (z ≤ 1000000)) = true) := Lib.hid (by
              rw [htk, List.all_append, hall.out, List.all_cons, decide_eq_true (show -1000000 ≤ z by omega), decide_eq_true (show z ≤ 1000000 by omega)]; rfl)
            clear hy0 hz htk hmem c1 c2 hall
            go_wp2
            go_round
            case rel => exact ⟨i + 1, by omega, by go_num, HN⟩
            case measure => simp [intOf]; omega
          · obtain rfl : un = i := by omega
            have HN : Hid ((x.g.take (j + 1)).all (fun l => fitB l un) = true) := Lib.hid (HYES.out (by
              have h5 := hall.out
              rw [List.take_of_length_le (by rw [HUL.out]; exact Nat.le_refl _)] at h5
              rw [fitB, h5, HUL.out]; simp))
            clear hall
            go_wp2
            go_roundw
            case rel => exact ⟨j + 1, by omega, by go_num, HN, hb⟩
            case measure => simp [intOf]; omega
      · have gn : (((un : Int)) != (M : Int)) = true := by rw [bne_iff_ne]; omega
        have gn2 : (un != M) = true := by rw [bne_iff_ne]; exact hun
        have HF : Hid (B = false) := Lib.hid (HNO.out (by
          rw [Bool.eq_false_iff]
          intro h2
          have := (fitB_iff.1 h2).1
          rw [HUL.out] at this
          omega))
        clear hun
        go_wp2
        go_ret
        exact ⟨ret_bool HF.out.symm, hb⟩
    · obtain rfl : j = x.n := by omega
      have HT : Hid (B = true) := Lib.hid (by
        have h5 := hok.out
        rw [List.take_of_length_le (by rw [HG.out]; exact Nat.le_refl _)] at h5
        rw [HM.out]; exact h5)
      clear hok
      go_wp2
      go_ret
      exact ⟨ret_bool HT.out.symm, hb⟩
end Go.Proofs.YtiaoplghaigclaaDoor

namespace Go.Proofs.YtiaoplghaigclaaDoor
open Go.RowKit
set_option linter.unusedVariables false

/-- Bits. -/
theorem and1_i64 (a : Nat) (ha : a < 1000000) : bits .and .i64 (a : Int) 1 = ((a % 2 : Nat) : Int) := by
  have h1 : (BitVec.ofInt 64 (a : Int)).toNat = a := by
    rw [BitVec.ofInt_natCast, BitVec.toNat_ofNat]; exact Nat.mod_eq_of_lt (by omega)
  have h2 : (BitVec.ofInt 64 (1 : Int)).toNat = 1 := by decide
  show IntKind.i64.wrap ((BitVec.ofInt 64 (a : Int) &&& BitVec.ofInt 64 (1 : Int)).toNat : Int) = _
  rw [BitVec.toNat_and, h1, h2, Nat.and_one_is_mod, IntKind.wrap_i64]
  omega
theorem bit10 (p j : Nat) (hp : p < 1000000) : (bits .and .i64 ((p : Int) / 2 ^ j) 1 == 1) = p.testBit j := by
  have h1 : (p : Int) / 2 ^ j = ((p / 2 ^ j : Nat) : Int) := by simp
  have h2 := Nat.div_le_self p (2 ^ j)
  rw [h1, and1_i64 _ (by omega), Nat.testBit_eq_decide_div_mod_eq, Bool.eq_iff_iff, beq_iff_eq, decide_eq_true_eq]
  omega
theorem xor10 (a b : Nat) (ha : a < 1024) (hb : b < 1024) : bits .xor .i64 (a : Int) (b : Int) = ((a ^^^ b : Nat) : Int) := by
  have h1 : (BitVec.ofInt 64 (a : Int)).toNat = a := by
    rw [BitVec.ofInt_natCast, BitVec.toNat_ofNat]; exact Nat.mod_eq_of_lt (by omega)
  have h2 : (BitVec.ofInt 64 (b : Int)).toNat = b := by
    rw [BitVec.ofInt_natCast, BitVec.toNat_ofNat]; exact Nat.mod_eq_of_lt (by omega)
  have h3 : a ^^^ b < 2 ^ 10 := Nat.xor_lt_two_pow (by omega) (by omega)
  show IntKind.i64.wrap ((BitVec.ofInt 64 (a : Int) ^^^ BitVec.ofInt 64 (b : Int)).toNat : Int) = _
  rw [BitVec.toNat_xor, h1, h2, IntKind.wrap_i64]
  omega
theorem OwnI.put10 {w : World} {B g n c k : Nat} {zs : List Int} {z : Int} (h : OwnI w B ⟨some ⟨g, 0, none⟩, n, c, zs⟩) (hc : 0 < c) (hz : -9223372036854775808 ≤ z ∧ z ≤ 9223372036854775807) : OwnI (w.setCell ⟨g, k, none⟩ (.int .i64 z)) B ⟨some ⟨g, 0, none⟩, n, c, zs.set k z⟩ := by
  refine ⟨?_, fun y hy => ?_⟩
  · have h1 := h.own.set hc k (.int .i64 z)
    have h2 : ci64 (zs.set k z) = (ci64 zs).set k (.int .i64 z) := by simp [ci64, iV]
    show Own _ B _ _ n c (ci64 (zs.set k z))
    rw [h2]; exact h1
  · rcases List.mem_or_eq_of_mem_set hy with h1 | h1
    · exact h.fit y h1
    · rw [h1]; exact hz
theorem wrap512 (P : Nat) (h : P ≤ 512) : IntKind.i64.wrap (P : Int) = (P : Int) := by rw [IntKind.wrap_i64]; omega
theorem map_range_get {f : Nat → Int} {N s : Nat} (hs : s < N) : ((List.range N).map f)[s]? = some (f s) := by
  rw [List.getElem?_map, List.getElem?_range hs]; rfl
set_option maxRecDepth 100000 in
set_option maxHeartbeats 1000000 in
theorem rbest_any (x : Gr) (M : Nat) (w : World) (hx : x.Ok w) (hM1 : 1 ≤ M) (hM9 : M ≤ 9) (hn8 : x.n ≤ 8) (hrow : ∀ l ∈ x.g, l.length = M ∧ ∀ z ∈ l, -1000000 ≤ z ∧ z ≤ 1000000) :
    Calls Tryd.prog 21 #[x.v, .int .i64 M] w fun e w' => e = .returned (.int .i64 (bestV (gG x.g) M x.n)) ∧ Below w.heap.size w w' := by
  obtain ⟨i0, hi0, hz0, hz1, hz2⟩ := info_parts info10_int
  have HGL := Lib.hid hx.glen
  have HROW := Lib.hid hrow
  have hGb : ∀ b c, gG x.g b c ≤ 1000000 := fun b c => by
    rw [gG]
    by_cases hb : b < x.g.length
    · rw [List.getD_eq_getElem?_getD (l := x.g), List.getElem?_eq_getElem hb, Option.getD_some, List.getD_eq_getElem?_getD]
      by_cases hc : c < x.g[b].length
      · rw [List.getElem?_eq_getElem hc]; exact ((hrow _ (List.getElem_mem hb)).2 _ (List.getElem_mem hc)).2
      · rw [List.getElem?_eq_none (by omega)]; decide
    · rw [List.getD_eq_getElem?_getD (l := x.g), List.getElem?_eq_none (by omega)]; simp
  obtain ⟨G, hG⟩ : ∃ G, gG x.g = G := ⟨_, rfl⟩
  rw [hG] at hGb ⊢
  have HG := Lib.hid hG
  have HGB := Lib.hid hGb
  have HHB : Hid (∀ i, i ≤ 8 → ∀ s, 0 ≤ haveN G M i s ∧ haveN G M i s ≤ 8000000) := Lib.hid fun i hi s => by
    have h1 := bestV_bound (G := G) (K := 1000000) (by omega) hGb M i
    have h2 : haveN G M i s ≤ bestV G M i := bestN_top
    have h3 : 0 ≤ haveN G M i s := bestN_nonneg
    have h4 : (i : Int) * 1000000 ≤ 8000000 := by omega
    exact ⟨h3, by omega⟩
  obtain ⟨N, hN⟩ : ∃ N, 2 ^ M = N := ⟨_, rfl⟩
  have hN9 : N ≤ 512 := by rw [← hN]; exact Nat.pow_le_pow_right (by omega) hM9
  have hN1 : 2 ≤ N := by rw [← hN]; exact Nat.pow_le_pow_right (n := 2) (by omega) hM1
  have hNi : ((2 : Int) ^ M) = (N : Int) := by rw [← hN]; simp
  have hw : wrap64 (2 ^ M) = (N : Int) := by rw [hNi]; unfold wrap64; omega
  have HN := Lib.hid hN
  have HALL : Hid (haveN G M x.n (N - 1) = bestV G M x.n) := Lib.hid (by rw [← hN]; exact have_all G M x.n)
  clear hrow hG hGb hN hNi
  rw [show x.v = .slice x.A x.n x.c from rfl]
  go_enter Tryd.func21, Tryd.ntmps21
  go_wp2_with (at_make; go_must (refine wpList_mk _ rfl _ _ 30 rfl w.heap.size 3 i0 _ Tryd.underlying30 hi0 hz0 hz1 rfl .i64 .i64 _ _ N rfl rfl hw hw ?mk2 ?mk3 ?mk4 ?_))
  case mk2 => rw [hz2]; omega
  case mk3 => simp only [maxLen]; omega
  case mk4 => exact Nat.le_refl _
  intro wm hownm hbelm
  have hO0 : OwnI wm w.heap.size ⟨some ⟨w.heap.size, 0, none⟩, N, N, (List.range N).map (haveN G M 0)⟩ := by
    refine ⟨?_, fun z hz => ?_⟩
    · have e : ci64 ((List.range N).map (haveN G M 0)) = List.replicate N (.int .i64 0) := by
        rw [ci64, List.map_map]
        exact List.eq_replicate_iff.2 ⟨by simp, fun v hv => by obtain ⟨s, _, rfl⟩ := List.mem_map.1 hv; simp [iV, have_zero]⟩
      show Own wm w.heap.size _ _ N N (ci64 _)
      rw [e]; exact hownm
    · obtain ⟨s, _, rfl⟩ := List.mem_map.1 hz
      rw [have_zero]; omega
  clear hownm
  go_wp2_with fail
  go_loopw [5, 6] (fun o v wr => ∃ (i c : Nat) (A : Option Addr), i ≤ x.n ∧ v = .int .i64 i ∧ o = .slice A N c ∧ OwnI wr w.heap.size ⟨A, N, c, (List.range N).map (haveN G M i)⟩ ∧ Below w.heap.size w wr) (fun _ v _ => x.n - (intOf v).toNat)
  case atStart => exact ⟨0, N, some ⟨w.heap.size, 0, none⟩, Nat.zero_le _, rfl, rfl, hO0, hbelm⟩
  case round =>
    clear hO0 hbelm
    obtain ⟨i, c, A, hi, rfl, rfl, hO, hB⟩ := hrel
    have hrd := hO.own.rd
    simp only at hrd
    by_cases hin : i < x.n
    · have hin' : (i : Int) < x.n := by omega
      have hi0' : (0 : Int) ≤ i := by omega
      obtain ⟨wo, rfl⟩ : ∃ wo, wo = wr := ⟨_, rfl⟩
      obtain ⟨p2, q2, u, hAx, _, hgy, hp2, hcx0, hku⟩ := hx.get hin
      have hcx := (hB.cell (p := ⟨p2, q2 + i, none⟩) hp2).trans hcx0
      have hku2 := hku.below hB
      have hp2o : p2 < wo.heap.size := Nat.lt_of_lt_of_le hp2 hB.size
      have hrw := HROW.out u.zs (by rw [← hgy]; exact getD_mem (by rw [HGL.out]; exact hin))
      have HGR : Hid (∀ k, k < M → ∃ h : k < u.zs.length, G i k = u.zs[k]) := Lib.hid fun k hk => by
        have hkl : k < u.zs.length := by rw [hrw.1]; exact hk
        refine ⟨hkl, ?_⟩
        rw [← HG.out, gG, hgy, List.getD_eq_getElem?_getD, List.getElem?_eq_getElem hkl]; rfl
      have hun : u.n = M := by have := hku.len; rw [← this]; exact hrw.1
      have HZB := Lib.hid hrw.2
      obtain ⟨uA, un, uc, ul⟩ := u
      simp only at hun HGR HZB
      subst hun
      have hurd := hku2.rd
      simp only at hurd
      replace hcx : wo.cell? ⟨p2, q2 + i, none⟩ = some (.slice uA un uc) := hcx
      clear hcx0 hku hku2 hgy hrw
      rw [hAx]
      go_wp2_with (at_builtin; go_must (refine wpList_app wo rfl _ _ 30 rfl 3 i0 _ 8 Tryd.underlying30 hi0 hz0 hz1 hz2 rfl wo.heap.size none 0 0 [] rfl (Own.none_ _ _ _ _) A N c (ci64 ((List.range N).map (haveN G un i))) rfl hrd ?e1 ?e2 ?e3 ?e4 ?_))
      case e1 => intro u hu; obtain ⟨z, _, rfl⟩ := List.mem_map.1 hu; rfl
      case e2 => simp only [maxLen]; omega
      case e3 => omega
      try case e4 => exact Nat.le_refl _
      intro A2 c2 w2 hown2 hbel2 _ _
      have hO2 : OwnI w2 wo.heap.size ⟨A2, N, c2, mixL (haveN G un (i + 1)) (haveN G un i) N 0⟩ := ⟨by rw [mix_zero]; simpa using hown2, fun z hz => by rw [mix_zero] at hz; exact hO.fit z hz⟩
      have hle2 := hO2.own.le
      simp only at hle2
      obtain ⟨g2, hA2, hg2, hg2l⟩ := hO2.own.lt (show 0 < c2 by omega)
      simp only at hA2
      subst hA2
      clear hown2 hg2l
      go_wp2_with fail
      go_loopw [8] (fun v wr => ∃ s : Nat, s ≤ N ∧ v = .int .i64 s ∧ OwnI wr wo.heap.size ⟨some ⟨g2, 0, none⟩, N, c2, mixL (haveN G un (i + 1)) (haveN G un i) N s⟩ ∧ Below wo.heap.size wo wr) (fun v _ => N - (intOf v).toNat)
      case atStart => exact ⟨0, Nat.zero_le _, rfl, hO2, hbel2⟩
      case round =>
        clear hO2 hbel2
        obtain ⟨s, hs, rfl, hOs, hBs⟩ := hrel
        by_cases hsN : s < N
        · have hsN' : (s : Int) < N := by omega
          have hs0 : (0 : Int) ≤ s := by omega
          have hOs0 : OwnI wr wo.heap.size ⟨some ⟨g2, 0, none⟩, N, c2, (mixL (haveN G un (i + 1)) (haveN G un i) N s).set s (foldK G un i s 0)⟩ := by
            rw [foldK_zero, mix_self hsN]; exact hOs
          clear hOs
          obtain ⟨ws, rfl⟩ : ∃ ws, ws = wr := ⟨_, rfl⟩
          go_wp2_with fail
          go_loopw [9] (fun v wr => ∃ k : Nat, k ≤ un ∧ v = .int .i64 k ∧ OwnI wr wo.heap.size ⟨some ⟨g2, 0, none⟩, N, c2, (mixL (haveN G un (i + 1)) (haveN G un i) N s).set s (foldK G un i s k)⟩ ∧ Below wo.heap.size wo wr) (fun v _ => un - (intOf v).toNat)
          case atStart => exact ⟨0, Nat.zero_le _, rfl, hOs0, hBs⟩
          case round =>
            clear hOs0 hBs
            obtain ⟨k, hk, rfl, hOk, hBk⟩ := hrel
            have hk0 : (0 : Int) ≤ k := by omega
            by_cases hkn : k < un
            · have hkn' : (k : Int) < un := by omega
              have hbit := bit10 s k (by omega)
              have hno := foldK_no (G := G) (m := un) (n := i) (s := s) (k := k)
              have hyes := foldK_yes (G := G) (m := un) (n := i) (s := s) (k := k)
              obtain ⟨hkl, hGz⟩ := HGR.out k hkn
              have hzb := HZB.out _ (List.getElem_mem hkl)
              obtain ⟨p4, q4, hA4, hp4, t0, ht0, hct0⟩ := hurd.get hkn
              rw [ci64_get _ _ hkl] at ht0
              obtain rfl : iV ul[k] = t0 := Option.some.inj ht0
              unfold iV at hct0
              obtain ⟨z, hz⟩ : ∃ z, ul[k] = z := ⟨_, rfl⟩
              rw [hz] at hGz hzb hct0
              rw [hGz] at hno hyes
              have hct : ∀ w', Below wo.heap.size wo w' → w'.cell? ⟨p4, q4 + k, none⟩ = some (.int .i64 z) := fun w' hb => (hb.cell (p := ⟨p4, q4 + k, none⟩) hp4).trans hct0
              have hcr : ∀ w', Below wo.heap.size wo w' → w'.cell? ⟨p2, q2 + i, none⟩ = some (.slice uA un uc) := fun w' hb => (hb.cell (p := ⟨p2, q2 + i, none⟩) hp2o).trans hcx
              have d0 := hcr _ hBk
              have d1 := hct _ hBk
              subst hA4
              obtain ⟨δ, hδ⟩ : ∃ δ, s.testBit k = δ := ⟨_, rfl⟩
              rw [hδ] at hbit hno hyes
              have HBIT := Lib.hid hδ
              clear ht0 hz hct0 hkl hGz hδ
              cases δ
              · have hO2 : OwnI wr wo.heap.size ⟨some ⟨g2, 0, none⟩, N, c2, (mixL (haveN G un (i + 1)) (haveN G un i) N s).set s (foldK G un i s (k + 1))⟩ := by
                  rw [hno (by simp)]; exact hOk
                clear hOk hno hyes d0 d1
                go_wp2
                go_roundw
                case rel => exact ⟨k + 1, by omega, by go_num, hO2, hBk⟩
                case measure => simp [intOf]; omega
              · by_cases hz0 : 0 ≤ z
                · have gz : decide (0 ≤ z) = true := decide_eq_true hz0
                  have hY := hyes rfl hz0
                  have hcu := hOk.own.cell (j := s) hsN
                  have hset : ((mixL (haveN G un (i + 1)) (haveN G un i) N s).set s (foldK G un i s k))[s]? = some (foldK G un i s k) := by
                    rw [List.getElem?_set, if_pos rfl, mix_len, if_pos hsN]
                  rw [show ci64 ((mixL (haveN G un (i + 1)) (haveN G un i) N s).set s (foldK G un i s k)) = ((mixL (haveN G un (i + 1)) (haveN G un i) N s).set s (foldK G un i s k)).map iV from rfl, List.getElem?_map, hset] at hcu
                  replace hcu : wr.cell? ⟨g2, s, none⟩ = some (.int .i64 (foldK G un i s k)) := hcu
                  have hfr := hOk.own.free (show 0 < c2 by omega) s
                  have hfb := foldK_bound (G := G) (m := un) (n := i) (s := s) (K := 8000000) (fun t => HHB.out i (by omega) t) (fun c => HGB.out i c) k
                  have hxl := xor_lt (show s < 2 ^ un by rw [HN.out]; exact hsN) hkn
                  rw [HN.out] at hxl
                  have hpk : 2 ^ k ≤ 512 := Nat.le_trans (Nat.pow_le_pow_right (by omega) (show k ≤ 9 by omega)) (by decide)
                  obtain ⟨P, hP⟩ : ∃ P, 2 ^ k = P := ⟨_, rfl⟩
                  have hPi : ((2 : Int) ^ k) = (P : Int) := by rw [← hP]; simp
                  have hwk : wrap64 (2 ^ k) = (P : Int) := by rw [hPi]; rw [hP] at hpk; unfold wrap64; omega
                  rw [hP] at hxl hpk hY
                  have cw0 := wrap512 P hpk
                  have cw4 : IntKind.i64.wrap (2 ^ k) = (P : Int) := by rw [hPi]; exact cw0
                  have cw1 : IntKind.u64.wrap (k : Int) = (k : Int) := by
                    rw [show IntKind.u64.wrap (k : Int) = (k : Int) % 18446744073709551616 by simp [IntKind.wrap, IntKind.bits, IntKind.signed]]
                    exact Int.emod_eq_of_lt hk0 (Int.lt_of_lt_of_le hkn' (Int.le_trans (Int.ofNat_le.2 hM9) (by decide)))
                  have cw2 : IntKind.i64.wrap (2 ^ min (k : Int).toNat 64) = (P : Int) := by
                    rw [Int.toNat_natCast, Nat.min_eq_left (Nat.le_trans (Nat.le_of_lt hkn) (Nat.le_trans hM9 (by decide))), hPi]; exact cw0
                  have cw3 : IntKind.i64.wrap (2 ^ min k 64) = (P : Int) := by rw [Nat.min_eq_left (Nat.le_trans (Nat.le_of_lt hkn) (Nat.le_trans hM9 (by decide))), hPi]; exact cw0
                  have hxo := xor10 s P (Nat.lt_of_lt_of_le hsN (Nat.le_trans hN9 (by decide))) (Nat.lt_of_le_of_lt hpk (by decide))
                  obtain ⟨s2, hs2⟩ : ∃ s2, s ^^^ P = s2 := ⟨_, rfl⟩
                  rw [hs2] at hxl hxo hY
                  have hs2i : (s2 : Int) < N := by omega
                  have hs20 : (0 : Int) ≤ s2 := by omega
                  have hhb := HHB.out i (by omega) s2
                  obtain ⟨p5, q5, hA5, hp5, t1, ht1, hct1⟩ := hrd.get hxl
                  rw [show ci64 ((List.range N).map (haveN G un i)) = ((List.range N).map (haveN G un i)).map iV from rfl, List.getElem?_map, map_range_get hxl] at ht1
                  obtain rfl : iV (haveN G un i s2) = t1 := Option.some.inj ht1
                  unfold iV at hct1
                  obtain ⟨hv, hhv⟩ : ∃ hv, haveN G un i s2 = hv := ⟨_, rfl⟩
                  obtain ⟨fv, hfv⟩ : ∃ fv, foldK G un i s k = fv := ⟨_, rfl⟩
                  rw [hhv] at hct1 hhb hY
                  rw [hfv] at hcu hfb hY
                  have hch : ∀ w', Below wo.heap.size wo w' → w'.cell? ⟨p5, q5 + s2, none⟩ = some (.int .i64 hv) := fun w' hb => (hb.cell (p := ⟨p5, q5 + s2, none⟩) hp5).trans hct1
                  have s5 : IntKind.i64.wrap (hv + z) = hv + z := by rw [IntKind.wrap_i64]; omega
                  have n2 := OwnI.put10 hOk (k := s) (z := foldK G un i s (k + 1)) (show 0 < c2 by omega) (by rw [hY]; omega)
                  rw [List.set_set, hY] at n2
                  have HY := Lib.hid hY
                  have HMX : Hid ((if fv < hv + z then hv + z else fv) = max fv (hv + z)) := Lib.hid (by split <;> omega)
                  subst hA5
                  have e2 := hch _ hBk
                  clear ht1 hhv hfv hno hyes hct1 hY hP hPi hs2
                  have hcud : wr.drew.cell? ⟨g2, s, none⟩ = some (.int .i64 fv) := hcu
                  have hS13 : ∀ w', Below wo.heap.size wo w' → w'.cell? ⟨p2, q2 + i, none⟩ = some (.slice (some ⟨p4, q4, none⟩) un uc) ∧ w'.cell? ⟨p4, q4 + k, none⟩ = some (.int .i64 z) ∧ w'.cell? ⟨p5, q5 + s2, none⟩ = some (.int .i64 hv) := fun w' hb => ⟨hcr w' hb, hct w' hb, hch w' hb⟩
                  go_wp2_with fail
                  refine wp_region_ord (S := fun w' => w'.cell? ⟨p2, q2 + i, none⟩ = some (.slice (some ⟨p4, q4, none⟩) un uc) ∧ w'.cell? ⟨p4, q4 + k, none⟩ = some (.int .i64 z) ∧ w'.cell? ⟨p5, q5 + s2, none⟩ = some (.int .i64 hv)) [(0, true), (1, true), (2, true), (3, true), (4, true), (6, true), (7, true), (8, true), (9, true), (10, true), (11, true), (12, true), (13, true), (14, true), (15, true), (16, true), (17, true), (18, true), (19, true), (20, true), (21, true), (5, false), (22, true), (23, true), (24, false)] default (by kernel_rfl) (by kernel_rfl) (by kernel_rfl) (hS13 _ hBk.drew) ?_
                  simp only [getOrd, nth]
                  repeat (first | (refine ordS (by rfl) ?_; simp only [Act.put, List.setIfInBounds_toArray, List.set_cons_zero, List.set_cons_succ]) | (refine ordN (by rfl) ?_; simp only [Act.put, List.setIfInBounds_toArray, List.set_cons_zero, List.set_cons_succ]) | (refine ordQ (v := ?_) (by rfl) (fun _ hSw => ?_) ?_; rotate_left; (focus ((have hS1 := hSw.1); (have hS2 := hSw.2.1); (have hS3 := hSw.2.2); clear hSw; go_simp; (first | done | with_reducible rfl))); simp only [Act.put, List.setIfInBounds_toArray, List.set_cons_zero, List.set_cons_succ]))
                  refine ordD (by rfl) ?_
                  intro K hK
                  go_simp
                  refine hK _ _ (hS13 _ hBk.drew) ?_
                  clear hK K
                  try simp only [Act.put, List.setIfInBounds_toArray, List.set_cons_zero, List.set_cons_succ]
                  repeat (first | (refine ordS (by rfl) ?_; simp only [Act.put, List.setIfInBounds_toArray, List.set_cons_zero, List.set_cons_succ]) | (refine ordN (by rfl) ?_; simp only [Act.put, List.setIfInBounds_toArray, List.set_cons_zero, List.set_cons_succ]) | (refine ordQ (v := ?_) (by rfl) (fun _ hSw => ?_) ?_; rotate_left; (focus ((have hS1 := hSw.1); (have hS2 := hSw.2.1); (have hS3 := hSw.2.2); clear hSw; go_simp; (first | done | with_reducible rfl))); simp only [Act.put, List.setIfInBounds_toArray, List.set_cons_zero, List.set_cons_succ]))
                  refine ordD (by rfl) ?_
                  intro K hK
                  go_simp
                  have hb5 := (hBk.setCell (p := ⟨g2, s, none⟩) hg2 (.int .i64 (max fv (hv + z)))).drew
                  refine hK _ _ (hS13 _ hb5) ?_
                  clear hK K
                  try simp only [Act.put, List.setIfInBounds_toArray, List.set_cons_zero, List.set_cons_succ]
                  refine ordE ?_
                  have hO2 : OwnI (wr.setCell ⟨g2, s, none⟩ (.int .i64 (max fv (hv + z)))).drew wo.heap.size ⟨some ⟨g2, 0, none⟩, N, c2, (mixL (haveN G un (i + 1)) (haveN G un i) N s).set s (foldK G un i s (k + 1))⟩ := by
                    rw [HY.out]; exact ⟨n2.own.drew, n2.fit⟩
                  clear n2 hOk hcu hcud hfr hS13 hch e2 d0 d1
                  go_wp2
                  go_roundw
                  case rel => exact ⟨k + 1, by omega, by go_num, hO2, hb5⟩
                  case measure => simp [intOf]; omega
                · have gz : decide (0 ≤ z) = false := decide_eq_false hz0
                  have hO2 : OwnI wr wo.heap.size ⟨some ⟨g2, 0, none⟩, N, c2, (mixL (haveN G un (i + 1)) (haveN G un i) N s).set s (foldK G un i s (k + 1))⟩ := by
                    rw [hno (fun h => hz0 h.2)]; exact hOk
                  clear hOk hno hyes
                  go_wp2
                  go_roundw
                  case rel => exact ⟨k + 1, by omega, by go_num, hO2, hBk⟩
                  case measure => simp [intOf]; omega
            · obtain rfl : un = k := by omega
              have hO2 : OwnI wr wo.heap.size ⟨some ⟨g2, 0, none⟩, N, c2, mixL (haveN G un (i + 1)) (haveN G un i) N (s + 1)⟩ := by
                rw [← mix_set, ← foldK_all]; exact hOk
              clear hOk
              go_wp2
              go_roundw
              case rel => exact ⟨s + 1, by omega, by go_num, hO2, hBk⟩
              case measure => simp [intOf]; omega
        · obtain rfl : N = s := by omega
          have hO2 : OwnI wr w.heap.size ⟨some ⟨g2, 0, none⟩, N, c2, (List.range N).map (haveN G un (i + 1))⟩ := by
            rw [← mix_all _ (haveN G un i)]; exact hOs.mono hB.size
          have hB2 := hB.trans (hBs.mono hB.size)
          clear hOs
          go_wp2
          go_roundw
          case rel => exact ⟨i + 1, c2, _, by omega, by go_num, rfl, hO2, hB2⟩
          case measure => simp [intOf]; omega
    · obtain rfl : i = x.n := by omega
      have s6 : IntKind.i64.wrap ((N : Int) - 1) = (N : Int) - 1 := by rw [IntKind.wrap_i64]; omega
      obtain ⟨K, hK⟩ : ∃ K, N = K + 1 := ⟨N - 1, by omega⟩
      subst hK
      obtain ⟨p5, q5, hA5, hp5, t1, ht1, hct1⟩ := hrd.get (show K < K + 1 by omega)
      rw [show ci64 ((List.range (K + 1)).map (haveN G M x.n)) = ((List.range (K + 1)).map (haveN G M x.n)).map iV from rfl, List.getElem?_map, map_range_get (show K < K + 1 by omega)] at ht1
      obtain rfl : iV (haveN G M x.n K) = t1 := Option.some.inj ht1
      unfold iV at hct1
      have hal := HALL.out
      rw [Nat.add_sub_cancel] at hal
      rw [hal] at hct1
      subst hA5
      have s7 : ((K + 1 : Nat) : Int) - 1 = (K : Int) := by omega
      have s8 : (0 : Int) ≤ K := by omega
      have s9 : (K : Int) < ((K + 1 : Nat) : Int) := by omega
      clear ht1 hal
      go_wp2
      go_ret
      exact ⟨rfl, hB⟩
end Go.Proofs.YtiaoplghaigclaaDoor

namespace Go.Proofs.YtiaoplghaigclaaDoor
open Go.RowKit
set_option linter.unusedVariables false

/-- Gains, with one more of one item. -/
def withOneL (g : List (List Int)) (k j : Nat) : List (List Int) := (g.take j).map fun l => l ++ [l.getD k 0]
theorem withOneL_succ {g : List (List Int)} {k j : Nat} {l : List Int} (h : g[j]? = some l) : withOneL g k (j + 1) = withOneL g k j ++ [l ++ [l.getD k 0]] := by
  obtain ⟨hj, rfl⟩ := List.getElem?_eq_some_iff.1 h
  rw [withOneL, List.take_succ_eq_append_getElem hj, List.map_append]; rfl
theorem withOneL_row {g : List (List Int)} {m k : Nat} (h : mayW g m = true) (hk : k < m) : ∀ l ∈ withOneL g k g.length, l.length = m + 1 ∧ ∀ z ∈ l, -1000000 ≤ z ∧ z ≤ 1000000 := fun l hl => by
  obtain ⟨h1, h2, h3, h4⟩ := mayW_iff.1 h
  rw [withOneL, List.take_length] at hl
  obtain ⟨r, hr, rfl⟩ := List.mem_map.1 hl
  obtain ⟨h5, h6⟩ := h4 r hr
  refine ⟨by rw [List.length_append, List.length_singleton]; omega, fun z hz => ?_⟩
  rcases List.mem_append.1 hz with hz | hz
  · exact h6 z hz
  · rw [List.mem_singleton.1 hz, List.getD_eq_getElem?_getD, List.getElem?_eq_getElem (show k < r.length by omega)]
    exact h6 _ (List.getElem_mem _)
theorem withOneL_gG {g : List (List Int)} {m k b c : Nat} (h : mayW g m = true) (hb : b < g.length) (hc : c < m + 1) : gG (withOneL g k g.length) b c = oneG (gG g) m k b c := by
  have hl := (may_row h hb).1
  rw [gG_at (l := g[b] ++ [g[b].getD k 0]) (by rw [withOneL, List.take_length, List.getElem?_map, List.getElem?_eq_getElem hb]; rfl), List.getD_eq_getElem?_getD, oneG]
  have hgb : g.getD b [] = g[b] := by rw [List.getD_eq_getElem?_getD, List.getElem?_eq_getElem hb]; rfl
  by_cases e : c = m
  · rw [if_pos e, List.getElem?_append_right (by omega), hl, e, Nat.sub_self, gG, hgb]; rfl
  · rw [if_neg e, List.getElem?_append_left (by omega), gG, hgb, List.getD_eq_getElem?_getD]
theorem withOneL_best {g : List (List Int)} {m k : Nat} (h : mayW g m = true) (hk : k < m) : bestV (gG (withOneL g k g.length)) (m + 1) g.length = bestV (gG g) m g.length + numP (gG g) m g.length k := by
  rw [best_same (G' := oneG (gG g) m k) fun b c hb hc => withOneL_gG (k := k) h hb hc, numP]; omega
theorem OwnI.snocC {w : World} {B n c : Nat} {A : Option Addr} {zs : List Int} {z : Int} (h : Own w B 3 A n c (ci64 zs ++ [.int .i64 z])) (hf : ∀ y ∈ zs, -9223372036854775808 ≤ y ∧ y ≤ 9223372036854775807) (hz : -9223372036854775808 ≤ z ∧ z ≤ 9223372036854775807) : OwnI w B ⟨A, n, c, zs ++ [z]⟩ := by
  refine ⟨?_, fun y hy => ?_⟩
  · show Own w B _ A n c (ci64 (zs ++ [z]))
    rw [ci64_app]; exact h
  · rcases List.mem_append.1 hy with hy | hy
    · exact hf y hy
    · rw [List.mem_singleton.1 hy]; exact hz
theorem own_listsC {w : World} {B : Nat} {A : Option Addr} {n c : Nat} {t : List Ls} (own : Own w B 30 A n c (t.map Ls.v)) (h : ∀ v ∈ t, v.Ok w) : Gr.Ok w ⟨A, n, c, t⟩ := ⟨⟨outs_at own, h⟩, own.le, own.cap⟩
def bidG (G : Nat → Nat → Int) (N : Nat → Int) (m i : Nat) : Int := topN (fun k => G i k - N k) m
theorem top_boundC {G : Nat → Nat → Int} {N : Nat → Int} {m i : Nat} (hG : ∀ c, G i c ≤ 1000000) (hN : ∀ c, c < m → 0 ≤ N c) {j : Nat} (hj : j ≤ m) : 0 ≤ topN (fun k => G i k - N k) j ∧ topN (fun k => G i k - N k) j ≤ 1000000 :=
  ⟨top_nonneg _ _, top_le (by omega) fun k hk => by have := hG k; have := hN k (by omega); omega⟩
set_option maxRecDepth 100000 in
set_option maxHeartbeats 1000000 in
theorem rbestC : BestC 7 := by
  intro x m w hx hm1 hm2
  have hc := rcheckW x m w hx hm1 hm2
  obtain ⟨B, hB0⟩ : ∃ B, mayW x.g m = B := ⟨_, rfl⟩
  rw [hB0] at hc
  have hgl := hx.glen
  have hv : x.v = .slice x.A x.n x.c := rfl
  rw [hv] at hc ⊢
  cases B
  · obtain ⟨e1, e2, _⟩ := we_bad hB0
    rw [e1, e2]
    clear hB0 e1 e2 hv hgl
    go_enter Tryd.func7, Tryd.ntmps7
    go_wp2_with fail
    refine hc.mono ?_
    rintro e w1 ⟨rfl, hb⟩
    clear hc
    go_wp2
    go_ret2
    exact ⟨rfl, hb⟩
  · obtain ⟨M, rfl⟩ : ∃ M : Nat, m = M := ⟨m.toNat, by have := (mayW_iff.1 hB0).1; omega⟩
    obtain ⟨e1, e2, _⟩ := we_ok hB0
    rw [e1, e2, hgl]
    obtain ⟨r1, r2, r3, r4⟩ := mayW_iff.1 hB0
    have HR := Lib.hid (show ∀ l ∈ x.g, l.length = M ∧ ∀ z ∈ l, -1000000 ≤ z ∧ z ≤ 1000000 from fun l hl => ⟨by have := (r4 l hl).1; omega, (r4 l hl).2⟩)
    rw [hgl] at r3
    clear hB0 e1 e2 hgl r4
    go_enter Tryd.func7, Tryd.ntmps7
    go_wp2_with fail
    refine hc.mono ?_
    rintro e w1 ⟨rfl, hb⟩
    clear hc
    have hc := rbest_any x M w1 (hx.below hb) (by omega) (by omega) r3 HR.out
    rw [hv] at hc
    clear hv
    go_wp2_with fail
    refine hc.mono ?_
    rintro e w2 ⟨rfl, hb2⟩
    clear hc
    have hb3 := hb.trans (hb2.mono hb.size)
    go_wp2
    go_ret2
    exact ⟨rfl, hb3⟩
set_option maxRecDepth 100000 in
set_option maxHeartbeats 1000000 in
theorem rprovedC : ProvedC 9 := by
  intro x m w hx hm1 hm2
  obtain ⟨i0, hi0, hz0, hz1, hz2⟩ := info_parts info10_int
  obtain ⟨i1, hi1', hy0, hy1, hy2⟩ := info_parts info10_ints
  have hc := rcheckW x m w hx hm1 hm2
  obtain ⟨B, hB0⟩ : ∃ B, mayW x.g m = B := ⟨_, rfl⟩
  rw [hB0] at hc
  have hgl := hx.glen
  have hv : x.v = .slice x.A x.n x.c := rfl
  rw [hv] at hc ⊢
  cases B
  · obtain ⟨_, e2, e3, e4⟩ := we_bad hB0
    rw [e2, e3, e4]
    clear hB0 e2 e3 e4 hv hgl
    go_enter Tryd.func9, Tryd.ntmps9
    go_wp2_with fail
    refine hc.mono ?_
    rintro e w1 ⟨rfl, hb⟩
    clear hc
    go_wp2
    go_ret3
    exact ⟨none, 0, 0, none, 0, 0, rfl, OwnI.nil _ _, OwnI.nil _ _, List.pairwise_cons.2 ⟨fun b hb g hg => absurd hg.1 (by simp), List.pairwise_singleton _ _⟩, hb⟩
  · obtain ⟨M, rfl⟩ : ∃ M : Nat, m = M := ⟨m.toNat, by have := (mayW_iff.1 hB0).1; omega⟩
    obtain ⟨_, e2, e3, e4⟩ := we_ok hB0
    obtain ⟨r1, r2, r3, r4⟩ := mayW_iff.1 hB0
    have HROW := Lib.hid (show ∀ l ∈ x.g, l.length = M ∧ ∀ z ∈ l, -1000000 ≤ z ∧ z ≤ 1000000 from fun l hl => ⟨by have := (r4 l hl).1; omega, (r4 l hl).2⟩)
    rw [hgl] at r3
    obtain ⟨G, hG⟩ : ∃ G, gG x.g = G := ⟨_, rfl⟩
    obtain ⟨N, hN⟩ : ∃ N, numP G M x.n = N := ⟨_, rfl⟩
    obtain ⟨a0, ha0⟩ : ∃ a, bestV G M x.n = a := ⟨_, rfl⟩
    have HGL := Lib.hid hgl
    have HG := Lib.hid hG
    have hab : 0 ≤ a0 ∧ a0 ≤ 8000000 := by rw [← ha0, ← hG, ← hgl]; exact best_bound hB0
    have HNB : Hid (∀ k, k < M → 0 ≤ N k ∧ N k ≤ 8000000) := Lib.hid fun k hk => by rw [← hN, ← hG, ← hgl]; exact num_bound hB0 k hk
    have HGB : Hid (∀ b c, G b c ≤ 1000000) := Lib.hid fun b c => by rw [← hG]; exact (gG_bound hB0 b c).2
    have HMO : Hid (∀ k, k < M → ∀ l ∈ withOneL x.g k x.g.length, l.length = M + 1 ∧ ∀ z ∈ l, -1000000 ≤ z ∧ z ≤ 1000000) := Lib.hid fun k hk => withOneL_row hB0 hk
    have HMV : Hid (∀ k, k < M → bestV (gG (withOneL x.g k x.g.length)) (M + 1) x.n = a0 + N k) := Lib.hid fun k hk => by rw [← ha0, ← hN, ← hG, ← hgl]; exact withOneL_best hB0 hk
    have e3' : ofE x.g M = (List.range M).map N := by rw [e3, hgl, hG, hN]
    have e4' : bidE x.g M = (List.range x.n).map (bidG G N M) := by
      rw [e4, hgl, hG]
      exact List.map_congr_left fun i _ => by rw [bidP, hN]; rfl
    rw [e2, e3', e4']
    have hn8 : x.n ≤ 8 := r3
    have hM8 : M ≤ 8 := by omega
    have hM1 : 1 ≤ M := by omega
    have hcb0 := fun w1 (hb : Below w.heap.size w w1) => rbest_any x M w1 (hx.below hb) (by omega) (by omega) hn8 HROW.out
    rw [hG, ha0, hv] at hcb0
    clear hB0 e2 e3 e4 e3' e4' r1 r2 r3 r4 hG hN ha0 hv hgl hm1 hm2
    go_enter Tryd.func9, Tryd.ntmps9
    go_wp2_with fail
    refine hc.mono ?_
    rintro e w1 ⟨rfl, hb1⟩
    clear hc
    have hc := hcb0 w1 hb1
    clear hcb0
    go_wp2_with fail
    refine hc.mono ?_
    rintro e w2 ⟨rfl, hb2⟩
    clear hc
    have hB0 := hb1.trans (hb2.mono hb1.size)
    clear hb1 hb2
    go_wp2_with fail
    go_loopw [9, 10] (fun o v wr => ∃ (k co : Nat) (Ao : Option Addr), k ≤ M ∧ v = .int .i64 k ∧ o = .slice Ao k co ∧ OwnI wr w.heap.size ⟨Ao, k, co, (List.range k).map N⟩ ∧ Below w.heap.size w wr) (fun _ v _ => M - (intOf v).toNat)
    case atStart => exact ⟨0, 0, none, Nat.zero_le _, rfl, rfl, OwnI.nil _ _, hB0⟩
    case round =>
      clear hB0
      obtain ⟨k, co, Ao, hk, rfl, rfl, hof, hB⟩ := hrel
      have hk0 : (0 : Int) ≤ k := by omega
      by_cases hkM : k < M
      · have hkM' : (k : Int) < M := by omega
        obtain ⟨wo, rfl⟩ : ∃ wo, wo = wr := ⟨_, rfl⟩
        go_wp2_with fail
        go_loopw [11, 12] (fun o v wr => ∃ (i c : Nat) (A : Option Addr) (t : List Ls), i ≤ x.n ∧ v = .int .i64 i ∧ o = .slice A i c ∧ Own wr wo.heap.size 30 A i c (t.map Ls.v) ∧ Hid (∀ u ∈ t, OwnI wr wo.heap.size u) ∧ Hid (Ls.all t = withOneL x.g k i) ∧ Below wo.heap.size wo wr) (fun _ v _ => x.n - (intOf v).toNat)
        case atStart => exact ⟨0, 0, none, [], Nat.zero_le _, rfl, rfl, Own.none_ _ _ _ _, Lib.hid (by simp), Lib.hid (by simp [withOneL, Ls.all]), Below.refl _ _⟩
        case round =>
          obtain ⟨i, c, A, t, hi, rfl, rfl, hOt, hrows, hall, hbel⟩ := hrel
          have hsz := hbel.size
          by_cases hin : i < x.n
          · have hin' : (i : Int) < x.n := by omega
            have hi0' : (0 : Int) ≤ i := by omega
            obtain ⟨p2, q2, u, hAx, _, hgy, hp2, hcx0, hku0⟩ := hx.get hin
            have hbw := hB.trans (hbel.mono hB.size)
            have hcx := (hbw.cell (p := ⟨p2, q2 + i, none⟩) hp2).trans hcx0
            have hku := hku0.below hbw
            have hgi : x.g[i]? = some u.zs := by
              rw [← hgy, List.getD_eq_getElem?_getD, List.getElem?_eq_getElem (by rw [HGL.out]; exact hin)]; rfl
            have hrw := HROW.out u.zs (List.mem_of_getElem? hgi)
            have hun : u.n = M := by have := hku.len; rw [← this]; exact hrw.1
            have HN := Lib.hid (withOneL_succ (k := k) hgi)
            have hfit := hku.fit
            obtain ⟨uA, un, uc, ul⟩ := u
            simp only at hun hrw HN hfit
            subst hun
            have hurd := hku.rd
            simp only at hurd
            replace hcx : wr.cell? ⟨p2, q2 + i, none⟩ = some (.slice uA un uc) := hcx
            have hkl : k < ul.length := by rw [hrw.1]; exact hkM
            obtain ⟨p4, q4, hA4, hp4, t0, ht0, hcz⟩ := hurd.get hkM
            rw [ci64_get _ _ hkl] at ht0
            obtain rfl : iV ul[k] = t0 := Option.some.inj ht0
            unfold iV at hcz
            have hzD : ul.getD k 0 = ul[k] := by rw [List.getD_eq_getElem?_getD, List.getElem?_eq_getElem hkl]; rfl
            have hzb := hrw.2 _ (List.getElem_mem hkl)
            rw [hzD] at HN
            obtain ⟨z, hz⟩ : ∃ z, ul[k] = z := ⟨_, rfl⟩
            rw [hz] at hcz HN hzb
            subst hA4
            have hcw : wr.cell? ⟨p2, q2 + i, none⟩ = some (.slice (some ⟨p4, q4, none⟩) un uc) := hcx
            have hp2r : p2 < wr.heap.size := Nat.lt_of_lt_of_le hp2 hbw.size
            have hS : ∀ w', Below wr.heap.size wr w' → w'.cell? ⟨p2, q2 + i, none⟩ = some (.slice (some ⟨p4, q4, none⟩) un uc) ∧ w'.cell? ⟨p4, q4 + k, none⟩ = some (.int .i64 z) := fun w' hb => ⟨(hb.cell (p := ⟨p2, q2 + i, none⟩) hp2r).trans hcx, (hb.cell (p := ⟨p4, q4 + k, none⟩) hp4).trans hcz⟩
            have hp4o : p4 < wo.heap.size := by have h5 := (hku0.rd.get hkM); obtain ⟨p9, q9, h9, h10, _⟩ := h5; cases h9; exact Nat.lt_of_lt_of_le h10 hB.size
            have hp2o : p2 < wo.heap.size := Nat.lt_of_lt_of_le hp2 hB.size
            have hS5 : ∀ w', Below wo.heap.size wo w' → w'.cell? ⟨p2, q2 + i, none⟩ = some (.slice (some ⟨p4, q4, none⟩) un uc) ∧ w'.cell? ⟨p4, q4 + k, none⟩ = some (.int .i64 z) := fun w' hb => ⟨(hb.cell (p := ⟨p2, q2 + i, none⟩) hp2o).trans ((hbel.cell (p := ⟨p2, q2 + i, none⟩) hp2o).symm.trans hcx), (hb.cell (p := ⟨p4, q4 + k, none⟩) hp4o).trans ((hbel.cell (p := ⟨p4, q4 + k, none⟩) hp4o).symm.trans hcz)⟩
            have HAx := Lib.hid hAx
            rw [hAx]
            clear hcx0 hku0 hku hgy hgi hrw ht0 hzD hz hkl hbw hAx
            go_wp2_with fail
            refine wp_region_tr (S := fun w' => w'.cell? ⟨p2, q2 + i, none⟩ = some (.slice (some ⟨p4, q4, none⟩) un uc) ∧ w'.cell? ⟨p4, q4 + k, none⟩ = some (.int .i64 z)) (.q 0 (.q 1 (.q 2 (.q 3 (.q 4 (.q 6 (.q 7 (.q 8 (.q 9 (.q 10 (.q 11 (.q 12 (.b 5 13 (.d 13 (.d 14 (.d 15 (.d 16 (.q 17 .nil))))) (.d 5 (.d 14 (.d 15 (.d 16 (.q 17 .nil)))))))))))))))))) default (by kernel_rfl) (by kernel_rfl) (by kernel_rfl) (hS _ (Below.refl _ wr).drew) ?_
            simp only [getTr, nth]
            repeat (first | (refine trS (by rfl) ?_; simp only [Act.put, List.setIfInBounds_toArray, List.set_cons_zero, List.set_cons_succ]) | (refine trN (by rfl) ?_; simp only [Act.put, List.setIfInBounds_toArray, List.set_cons_zero, List.set_cons_succ]) | (refine trQ (v := ?_) (by rfl) (fun _ hSw => ?_) ?_; rotate_left; (focus ((have hS1 := hSw.1); (have hS2 := hSw.2); clear hSw; go_simp; (first | done | with_reducible rfl))); simp only [Act.put, List.setIfInBounds_toArray, List.set_cons_zero, List.set_cons_succ]))
            obtain ⟨wq, hwq⟩ : ∃ q, q = wr.drew := ⟨_, rfl⟩
            have hqq : Below wr.heap.size wr wq := by rw [hwq]; exact (Below.refl _ wr).drew
            rw [← hwq]
            clear hwq
            refine trB ?_ ?_
            refine trD (by rfl) ?_
            intro K hK
            refine wp_app wq _ _ 30 rfl 3 i0 _ 8 Tryd.underlying30 hi0 hz0 hz1 hz2 rfl wq.heap.size none 0 0 [] (by rfl) (Own.none_ _ _ _ _) _ un uc (ci64 ul) (by rfl) (hurd.below hqq) ?a1 ?a2 ?a3 ?a4 ?_
            case a1 => intro u hu; obtain ⟨z, _, rfl⟩ := List.mem_map.1 hu; rfl
            case a2 => simp only [maxLen]; omega
            case a3 => omega
            try case a4 => exact Nat.le_refl _
            intro A1 c1 w3 hown3 hbel3 _ _
            have hO3 : Own w3 wq.heap.size 3 A1 un c1 (ci64 ul) := by simpa using hown3
            have hb3 : Below wr.heap.size wr w3 := hqq.trans (hbel3.mono hqq.size)
            go_simp
            refine hK _ _ (hS _ hb3) ?_
            clear hK K hown3
            try simp only [Act.put, List.setIfInBounds_toArray, List.set_cons_zero, List.set_cons_succ]
            refine trD (by rfl) ?_
            intro K hK
            go_simp
            have hb3' : Below wr.heap.size wr (w3.alloc (.cells #[.int .i64 z] 3)) := hb3.alloc hb3.size _
            refine hK _ _ (hS _ hb3') ?_
            clear hK K
            try simp only [Act.put, List.setIfInBounds_toArray, List.set_cons_zero, List.set_cons_succ]
            have hlr : Rd (w3.alloc (.cells #[.int .i64 z] 3)) (some ⟨w3.heap.size, 0, none⟩) 1 [.int .i64 z] := (Own.lit (B := 0) w3 3 #[.int .i64 z] 1 (Nat.zero_le _) rfl (by unfold maxLen; omega)).rd
            have hsz3 : wq.heap.size ≤ (w3.alloc (.cells #[.int .i64 z] 3)).heap.size := by have h5 := hbel3.size; rw [World.size_alloc]; omega
            refine trD (by rfl) ?_
            intro K hK
            refine wp_app (w3.alloc (.cells #[.int .i64 z] 3)) _ _ 30 rfl 3 i0 _ 8 Tryd.underlying30 hi0 hz0 hz1 hz2 rfl wq.heap.size A1 un c1 (ci64 ul) (by rfl) (hO3.alloc _) _ 1 1 [.int .i64 z] (by rfl) hlr ?b1 ?b2 ?b3 ?b4 ?_
            case b1 => intro u hu; rw [List.mem_singleton.1 hu]; rfl
            case b2 => simp only [maxLen]; omega
            case b3 => omega
            try case b4 => exact hsz3
            intro A2 c2 w4 hown4 hbel4 _ _
            have hO4 : OwnI w4 wr.heap.size ⟨A2, un + 1, c2, ul ++ [z]⟩ := OwnI.snocC (show Own w4 wr.heap.size 3 A2 (un + 1) c2 (ci64 ul ++ [.int .i64 z]) from hown4.mono hqq.size) hfit (by omega)
            have hb4 : Below wr.heap.size wr w4 := hb3'.trans (hbel4.mono hqq.size)
            go_simp
            refine hK _ _ (hS _ hb4) ?_
            clear hK K hown4 hbel4 hlr hsz3 hb3' hb3 hO3 hbel3
            try simp only [Act.put, List.setIfInBounds_toArray, List.set_cons_zero, List.set_cons_succ]
            rotate_left
            refine trD (by rfl) ?_
            intro K hK
            go_simp
            have hb3' : Below wr.heap.size wr (wq.alloc (.cells #[.int .i64 z] 3)) := hqq.alloc hqq.size _
            have hlr : Rd (wq.alloc (.cells #[.int .i64 z] 3)) (some ⟨wq.heap.size, 0, none⟩) 1 [.int .i64 z] := (Own.lit (B := 0) wq 3 #[.int .i64 z] 1 (Nat.zero_le _) rfl (by unfold maxLen; omega)).rd
            refine hK _ _ (hS _ hb3') ?_
            clear hK K
            try simp only [Act.put, List.setIfInBounds_toArray, List.set_cons_zero, List.set_cons_succ]
            refine trD (by rfl) ?_
            intro K hK
            refine wp_app (wq.alloc (.cells #[.int .i64 z] 3)) _ _ 30 rfl 3 i0 _ 8 Tryd.underlying30 hi0 hz0 hz1 hz2 rfl (wq.alloc (.cells #[.int .i64 z] 3)).heap.size none 0 0 [] (by rfl) (Own.none_ _ _ _ _) _ un uc (ci64 ul) (by rfl) (hurd.below hb3') ?d1 ?d2 ?d3 ?d4 ?_
            case d1 => intro u hu; obtain ⟨z, _, rfl⟩ := List.mem_map.1 hu; rfl
            case d2 => simp only [maxLen]; omega
            case d3 => omega
            try case d4 => exact Nat.le_refl _
            intro A1 c1 w3 hown3 hbel3 _ _
            have hO3 : Own w3 (wq.alloc (.cells #[.int .i64 z] 3)).heap.size 3 A1 un c1 (ci64 ul) := by simpa using hown3
            have hb3 : Below wr.heap.size wr w3 := hb3'.trans (hbel3.mono hb3'.size)
            have hlr3 := hlr.below hbel3
            go_simp
            refine hK _ _ (hS _ hb3) ?_
            clear hK K hown3
            try simp only [Act.put, List.setIfInBounds_toArray, List.set_cons_zero, List.set_cons_succ]
            refine trD (by rfl) ?_
            intro K hK
            refine wp_app w3 _ _ 30 rfl 3 i0 _ 8 Tryd.underlying30 hi0 hz0 hz1 hz2 rfl (wq.alloc (.cells #[.int .i64 z] 3)).heap.size A1 un c1 (ci64 ul) (by rfl) hO3 _ 1 1 [.int .i64 z] (by rfl) hlr3 ?e1 ?e2 ?e3 ?e4 ?_
            case e1 => intro u hu; rw [List.mem_singleton.1 hu]; rfl
            case e2 => simp only [maxLen]; omega
            case e3 => omega
            try case e4 => exact hbel3.size
            intro A2 c2 w4 hown4 hbel4 _ _
            have hO4 : OwnI w4 wr.heap.size ⟨A2, un + 1, c2, ul ++ [z]⟩ := OwnI.snocC (show Own w4 wr.heap.size 3 A2 (un + 1) c2 (ci64 ul ++ [.int .i64 z]) from hown4.mono hb3'.size) hfit (by omega)
            have hb4 : Below wr.heap.size wr w4 := hb3.trans (hbel4.mono hb3'.size)
            go_simp
            refine hK _ _ (hS _ hb4) ?_
            clear hK K hown4 hbel4 hlr hb3' hb3 hO3 hbel3 hlr3
            try simp only [Act.put, List.setIfInBounds_toArray, List.set_cons_zero, List.set_cons_succ]
            all_goals
              refine trD (by rfl) ?_
              intro K hK
              go_simp
              have hb4' : Below wr.heap.size wr (w4.alloc (.cells #[.slice A2 (un + 1) c2] 30)) := hb4.alloc hb4.size _
              refine hK _ _ (hS _ hb4') ?_
              clear hK K
              try simp only [Act.put, List.setIfInBounds_toArray, List.set_cons_zero, List.set_cons_succ]
              have hlr : Rd (w4.alloc (.cells #[.slice A2 (un + 1) c2] 30)) (some ⟨w4.heap.size, 0, none⟩) 1 [.slice A2 (un + 1) c2] := (Own.lit (B := 0) w4 30 #[.slice A2 (un + 1) c2] 1 (Nat.zero_le _) rfl (by unfold maxLen; omega)).rd
              have hbl : Below w4.heap.size w4 (w4.alloc (.cells #[.slice A2 (un + 1) c2] 30)) := (Below.refl _ w4).alloc (Nat.le_refl _) _
              have hOtl := hOt.below hb4'
              have hrowsl : ∀ v ∈ t, OwnI (w4.alloc (.cells #[.slice A2 (un + 1) c2] 30)) wo.heap.size v := fun v hv => (hrows.out v hv).below hb4'
              have hO4l := (hO4.mono hsz).below hbl
              have hszl : wo.heap.size ≤ (w4.alloc (.cells #[.slice A2 (un + 1) c2] 30)).heap.size := Nat.le_trans hsz hb4'.size
              have hbVl := hbel.trans (hb4'.mono hsz)
              refine trD (by rfl) ?_
              intro K hK
              refine wp_app (w4.alloc (.cells #[.slice A2 (un + 1) c2] 30)) _ _ 22 rfl 30 i1 _ 24 Tryd.underlying22 hi1' hy0 hy1 hy2 rfl wo.heap.size A i c (t.map Ls.v) (by rfl) hOtl _ 1 1 [.slice A2 (un + 1) c2] (by rfl) hlr ?_ ?_ ?_ ?_ ?_
              · intro u hu; rw [List.mem_singleton.1 hu]; rfl
              · simp only [maxLen]; omega
              · omega
              · exact hszl
              intro A5 c5 w5 hown5 hbel5 hfr5 _
              have hbV5 := hbVl.trans hbel5
              have hT : Own w5 wo.heap.size 30 A5 (i + 1) c5 ((t ++ [(⟨A2, un + 1, c2, ul ++ [z]⟩ : Ls)]).map Ls.v) := by rw [List.map_append]; exact hown5
              have HR5 : Hid (∀ v ∈ t ++ [⟨A2, un + 1, c2, ul ++ [z]⟩], OwnI w5 wo.heap.size v) := Lib.hid (fun v hv => by
                rcases List.mem_append.1 hv with hv | hv
                · exact (hrowsl v hv).app hOtl hfr5
                · rw [List.mem_singleton.1 hv]
                  exact hO4l.app hOtl hfr5)
              have HA5 : Hid (Ls.all (t ++ [⟨A2, un + 1, c2, ul ++ [z]⟩]) = withOneL x.g k (i + 1)) := Lib.hid (by
                rw [HN.out, ← hall.out]; simp [Ls.all])
              have hS5 := hS5 _ hbV5
              go_simp
              refine hK _ _ hS5 ?_
              clear hK K hown5 hbel5 hfr5 hlr hbl hOtl hrowsl hO4l hszl hbVl hb4' hO4 hb4
              try simp only [Act.put, List.setIfInBounds_toArray, List.set_cons_zero, List.set_cons_succ]
              repeat (first | (refine trS (by rfl) ?_; simp only [Act.put, List.setIfInBounds_toArray, List.set_cons_zero, List.set_cons_succ]) | (refine trN (by rfl) ?_; simp only [Act.put, List.setIfInBounds_toArray, List.set_cons_zero, List.set_cons_succ]) | (refine trQ (v := ?_) (by rfl) (fun _ hSw => ?_) ?_; rotate_left; (focus ((have hS1 := hSw.1); (have hS2 := hSw.2); clear hSw; go_simp; (first | done | with_reducible rfl))); simp only [Act.put, List.setIfInBounds_toArray, List.set_cons_zero, List.set_cons_succ]))
              refine trE ?_
              clear hS5 hS hurd hcx hcz hfit hOt hrows hall hqq hbel hcw
              go_wp2
              go_roundw
              case rel => exact ⟨i + 1, c5, A5, _, by omega, by go_num, rfl, hT, HR5, HA5, hbV5⟩
              case measure => simp [intOf]; omega
          · obtain rfl : i = x.n := by omega
            have hgo : Gr.Ok wr ⟨A, x.n, c, t⟩ := own_listsC hOt fun u hu => (hrows.out u hu).ok
            have HGA : Hid (Gr.g ⟨A, x.n, c, t⟩ = withOneL x.g k x.g.length) := Lib.hid (by rw [HGL.out]; exact hall.out)
            have hcb := rbest_any ⟨A, x.n, c, t⟩ (M + 1) wr hgo (by omega) (by omega) hn8 (by rw [HGA.out]; exact HMO.out k hkM)
            have hval : bestV (gG (Gr.g ⟨A, x.n, c, t⟩)) (M + 1) x.n = a0 + N k := by
              rw [HGA.out]; exact HMV.out k hkM
            rw [show (⟨A, x.n, c, t⟩ : Gr).n = x.n from rfl, hval, show Gr.v ⟨A, x.n, c, t⟩ = .slice A x.n c from rfl] at hcb
            have hnb := HNB.out k hkM
            clear hrows hall hval hOt
            go_wp2_with fail
            refine hcb.mono ?_
            rintro e w2 ⟨rfl, hb2⟩
            clear hcb hgo
            have hb2o := hbel.trans (hb2.mono hsz)
            have hof2 := hof.below hb2o
            have hwsz := hb2o.size
            obtain ⟨nk, hnk⟩ : ∃ q, N k = q := ⟨_, rfl⟩
            rw [hnk] at hnb ⊢
            have HNK := Lib.hid hnk
            have s1 : IntKind.i64.wrap (a0 + nk - a0) = nk := by rw [IntKind.wrap_i64]; omega
            clear hnk hb2 hbel hof
            go_wp2_with (at_builtin; go_must (refine wpList_app1 w2 rfl _ _ 30 rfl 3 i0 _ 8 Tryd.underlying30 hi0 hz0 hz1 hz2 rfl w.heap.size Ao k co _ rfl hof2.own 1 rfl rfl ?g1 ?g2 ?g3 ?_))
            case g1 => simp only [maxLen]; omega
            case g2 => omega
            try case g3 => exact Nat.le_trans hB.size hwsz
            intro A7 c7 w7 hown7 hbel7 _ _
            have hof7 : OwnI w7 w.heap.size ⟨A7, k + 1, c7, (List.range (k + 1)).map N⟩ := by
              rw [List.range_succ, List.map_append]
              refine OwnI.snocC (zs := (List.range k).map N) (z := N k) ?_ hof2.fit (by rw [HNK.out]; omega)
              rw [HNK.out]; exact hown7
            have hB7 : Below w.heap.size w w7 := (hB.trans (hb2o.mono hB.size)).trans hbel7
            clear hown7 hbel7 hof2 hb2o
            go_wp2
            go_roundw
            case rel => exact ⟨k + 1, c7, A7, by omega, by go_num, rfl, hof7, hB7⟩
            case measure => simp [intOf]; omega
      · obtain rfl : M = k := by omega
        obtain ⟨wb, rfl⟩ : ∃ wb, wb = wr := ⟨_, rfl⟩
        go_wp2_with fail
        go_loopw [8, 13] (fun o v wr => ∃ (i cb : Nat) (Ab : Option Addr), i ≤ x.n ∧ v = .int .i64 i ∧ o = .slice Ab i cb ∧ OwnI wr wb.heap.size ⟨Ab, i, cb, (List.range i).map (bidG G N M)⟩ ∧ Below wb.heap.size wb wr) (fun _ v _ => x.n - (intOf v).toNat)
        case atStart => exact ⟨0, 0, none, Nat.zero_le _, rfl, rfl, OwnI.nil _ _, Below.refl _ _⟩
        case round =>
          obtain ⟨i, cb, Ab, hi, rfl, rfl, hbd, hBB⟩ := hrel
          by_cases hin : i < x.n
          · have hin' : (i : Int) < x.n := by omega
            have hi0' : (0 : Int) ≤ i := by omega
            obtain ⟨wo, rfl⟩ : ∃ wo, wo = wr := ⟨_, rfl⟩
            obtain ⟨p2, q2, u, hAx, _, hgy, hp2, hcx0, hku0⟩ := hx.get hin
            have hbw := hB.trans (hBB.mono hB.size)
            have hcx := (hbw.cell (p := ⟨p2, q2 + i, none⟩) hp2).trans hcx0
            have hku := hku0.below hbw
            have hgi : x.g[i]? = some u.zs := by
              rw [← hgy, List.getD_eq_getElem?_getD, List.getElem?_eq_getElem (by rw [HGL.out]; exact hin)]; rfl
            have hrw := HROW.out u.zs (List.mem_of_getElem? hgi)
            have hun : u.n = M := by have := hku.len; rw [← this]; exact hrw.1
            have HGR : Hid (∀ k (hk : k < u.zs.length), G i k = u.zs[k]) := Lib.hid fun k hk => by
              rw [← HG.out, gG, hgy, List.getD_eq_getElem?_getD, List.getElem?_eq_getElem hk]; rfl
            obtain ⟨uA, un, uc, ul⟩ := u
            simp only at hun hrw HGR
            subst hun
            have hurd := hku.rd
            simp only at hurd
            replace hcx : wo.cell? ⟨p2, q2 + i, none⟩ = some (.slice uA un uc) := hcx
            obtain ⟨p4, q4, hA4', _⟩ := hurd.get (show 0 < un by omega)
            subst hA4'
            have hp2o : p2 < wo.heap.size := Nat.lt_of_lt_of_le hp2 hbw.size
            have HUL := Lib.hid hrw.1
            have HZB := Lib.hid hrw.2
            have hof0 := hof
            replace hof := hof.below hBB
            have hofrd := hof.own.rd
            simp only at hofrd
            rw [hAx]
            clear hcx0 hku0 hku hgy hgi hrw hbw
            go_wp2_with fail
            go_loopw [14, 15] (fun o v wr => ∃ k : Nat, k ≤ un ∧ v = .int .i64 k ∧ o = .int .i64 (topN (fun k => G i k - N k) k) ∧ Below wo.heap.size wo wr) (fun _ v _ => un - (intOf v).toNat)
            case atStart => exact ⟨0, Nat.zero_le _, rfl, rfl, Below.refl _ _⟩
            case round =>
              obtain ⟨k, hk, rfl, rfl, hbel⟩ := hrel
              have hk0 : (0 : Int) ≤ k := by omega
              by_cases hkM : k < un
              · have hkM' : (k : Int) < un := by omega
                have hkl : k < ul.length := by rw [HUL.out]; exact hkM
                obtain ⟨p4', q4', hA4, hp4, t0, ht0, hcz0⟩ := hurd.get hkM
                cases hA4
                rw [ci64_get _ _ hkl] at ht0
                obtain rfl : iV ul[k] = t0 := Option.some.inj ht0
                unfold iV at hcz0
                have hGz := HGR.out k hkl
                have hzb := HZB.out _ (List.getElem_mem hkl)
                obtain ⟨z, hz⟩ : ∃ z, ul[k] = z := ⟨_, rfl⟩
                rw [hz] at hcz0 hGz hzb
                have hcz := (hbel.cell (p := ⟨p4, q4 + k, none⟩) hp4).trans hcz0
                have hcx2 := (hbel.cell (p := ⟨p2, q2 + i, none⟩) hp2o).trans hcx
                obtain ⟨p5, q5, hA5, hp5, t1, ht1, hct1⟩ := hofrd.get hkM
                rw [show ci64 ((List.range un).map N) = ((List.range un).map N).map iV from rfl, List.getElem?_map, map_range_get hkM] at ht1
                obtain rfl : iV (N k) = t1 := Option.some.inj ht1
                unfold iV at hct1
                have hnb := HNB.out k hkM
                have htb := top_boundC (G := G) (N := N) (i := i) (fun c => HGB.out i c) (fun c hc => (HNB.out c hc).1) (j := k) (by omega)
                have hstep : topN (fun k => G i k - N k) (k + 1) = max (topN (fun k => G i k - N k) k) (z - N k) := by
                  show max (topN (fun k => G i k - N k) k) (G i k - N k) = _
                  rw [hGz]
                obtain ⟨nk, hnk⟩ : ∃ q, N k = q := ⟨_, rfl⟩
                obtain ⟨tk, htk⟩ : ∃ q, topN (fun k => G i k - N k) k = q := ⟨_, rfl⟩
                rw [hnk] at hct1 hnb hstep
                rw [htk] at htb hstep ⊢
                have hcn := (hbel.cell (p := ⟨p5, q5 + k, none⟩) hp5).trans hct1
                have s1 : IntKind.i64.wrap (z - nk) = z - nk := by rw [IntKind.wrap_i64]; omega
                have HST := Lib.hid hstep
                subst hA5
                clear ht0 hz hcz0 hGz hct1 ht1 hnk htk hstep hkl
                go_wp2_with fail
                refine wp_region_ord (S := fun w' => w'.cell? ⟨p2, q2 + i, none⟩ = some (.slice (some ⟨p4, q4, none⟩) un uc) ∧ w'.cell? ⟨p4, q4 + k, none⟩ = some (.int .i64 z) ∧ w'.cell? ⟨p5, q5 + k, none⟩ = some (.int .i64 nk)) [(0, true), (1, true), (2, true), (3, true), (4, true), (5, true), (6, true), (7, true), (8, true), (9, true), (10, true), (11, true), (12, true), (13, true), (14, true)] default (by kernel_rfl) (by kernel_rfl) (by kernel_rfl) ⟨hcx2, hcz, hcn⟩ ?_
                simp only [getOrd, nth]
                repeat (first | (refine ordS (by rfl) ?_; simp only [Act.put, List.setIfInBounds_toArray, List.set_cons_zero, List.set_cons_succ]) | (refine ordN (by rfl) ?_; simp only [Act.put, List.setIfInBounds_toArray, List.set_cons_zero, List.set_cons_succ]) | (refine ordQ (v := ?_) (by rfl) (fun _ hSw => ?_) ?_; rotate_left; (focus ((have hS1 := hSw.1); (have hS2 := hSw.2.1); (have hS3 := hSw.2.2); clear hSw; go_simp; (first | done | with_reducible rfl))); simp only [Act.put, List.setIfInBounds_toArray, List.set_cons_zero, List.set_cons_succ]))
                refine ordE ?_
                have hbn := hbel.drew
                clear hcx2 hcz hcn hbel
                go_wp2
                go_roundw
                case rel => exact ⟨k + 1, by omega, by go_num, by rw [HST.out], hbn⟩
                case measure => simp [intOf]; omega
              · obtain rfl : k = un := by omega
                have htb := top_boundC (G := G) (N := N) (i := i) (fun c => HGB.out i c) (fun c hc => (HNB.out c hc).1) (j := k) (by omega)
                obtain ⟨tk, htk⟩ : ∃ q, topN (fun k => G i k - N k) k = q := ⟨_, rfl⟩
                rw [htk] at htb ⊢
                have HTK := Lib.hid htk
                have hbd2 := hbd.below hbel
                have hof2 := hof.below hbel
                have hwsz := hbel.size
                have hwsz2 := Nat.le_trans hBB.size hwsz
                clear htk hbd hof
                go_wp2_with (at_builtin; go_must (refine wpList_app1 wr rfl _ _ 30 rfl 3 i0 _ 8 Tryd.underlying30 hi0 hz0 hz1 hz2 rfl wb.heap.size Ab i cb _ rfl hbd2.own 1 rfl rfl ?k1 ?k2 ?k3 ?_))
                case k1 => simp only [maxLen]; omega
                case k2 => omega
                try case k3 => exact hwsz2
                intro A8 c8 w8 hown8 hbel8 hfr8 _
                have hbd8 : OwnI w8 wb.heap.size ⟨A8, i + 1, c8, (List.range (i + 1)).map (bidG G N k)⟩ := by
                  rw [List.range_succ, List.map_append]
                  refine OwnI.snocC (zs := (List.range i).map (bidG G N k)) (z := bidG G N k i) ?_ hbd2.fit (by rw [bidG, HTK.out]; omega)
                  rw [bidG, HTK.out]; exact hown8
                have hbb : Below wb.heap.size wb w8 := (hBB.trans (hbel.mono hBB.size)).trans hbel8
                clear hown8 hbel8 hbd2 hfr8 hbel
                go_wp2
                go_roundw
                case rel => exact ⟨i + 1, c8, A8, by omega, by go_num, rfl, hbd8, hbb⟩
                case measure => simp [intOf]; omega
          · obtain rfl : i = x.n := by omega
            have hof2 := hof.below hBB
            have hB2 := hB.trans (hBB.mono hB.size)
            have hapt : AptL [⟨Ab, x.n, cb, (List.range x.n).map (bidG G N M)⟩, ⟨Ao, M, co, (List.range M).map N⟩] := List.pairwise_cons.2 ⟨fun b hb g hg hg2 => by
              rw [List.mem_singleton.1 hb] at hg2
              have h1 := hbd.blk hg
              have h2 := hof.blk hg2
              omega, List.pairwise_singleton _ _⟩
            have hbd2 := hbd.mono hB.size
            go_wp2
            go_ret3
            exact ⟨_, _, _, _, _, _, rfl, hbd2, hof2, hapt, hB2⟩
end Go.Proofs.YtiaoplghaigclaaDoor
