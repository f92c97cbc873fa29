/-
  The document's answers of layer 8: All (by Hall).
-/
import Derived.Test.YtcjfgkihmhdhlaaGreatDoorRef07c
import Derived.Test.YtcjfgkihmhdhlaaGreatDoorMaP
import Derived.Test.YtcjfgkihmhdhlaaGreatDoorMaO
namespace Go.Proofs.YtcjfgkihmhdhlaaGreatDoor
open Go.RowKit
set_option linter.unusedVariables false

theorem mostN_item {g : List (List Int)} {m j : Nat} (hc : checkG g m = true) (hj : j < g.length) : (mostN g m j).getD j (-1) = -1 := by
  have hno := (mayP_iff.1 (stp_may hc (most_stp hc j (by omega)) hj)).2.2
  rwa [Int.toNat_natCast] at hno
theorem mostN_next {g : List (List Int)} {m j : Nat} (hc : checkG g m = true) (hj : j < g.length) : mostN g m (j + 1) = if foundP g m (mostN g m j) j = true then moreP g m (mostN g m j) j else mostN g m j := by
  have hno := mostN_item hc hj
  rw [mostN_succ, stepM]
  by_cases hf : foundP g m (mostN g m j) j = true
  · rw [if_pos hf, if_pos ⟨hno, hf⟩]
  · rw [if_neg hf, if_neg (fun h => hf h.2)]
theorem info8_int : (Tryz.prog.info? 3).map (fun i => (i.zero, i.size, i.bytes)) = some (some (.int .i64 0), 1, 8) := by kernel_rfl
set_option maxRecDepth 100000 in
set_option maxHeartbeats 1000000 in
theorem rmost8 : MostC 8 := by
  intro x m w hx hm1 hm2
  have hck := rcheckG x m w hx hm1 hm2
  obtain ⟨β, hβ⟩ : ∃ β, checkG x.g m = β := ⟨_, rfl⟩
  have HC := Lib.hid hβ
  rw [show x.v = .slice x.A x.n x.c from rfl] at hck ⊢
  rw [hβ] at hck
  clear hβ
  obtain ⟨i0, hi0, hz0, hz1, hz2⟩ := info_parts info8_int
  go_enter Tryz.func8, Tryz.ntmps8
  go_wp2_with fail
  refine hck.mono ?_
  rintro e w1 ⟨rfl, hb1⟩
  clear hck
  cases β
  · obtain ⟨e1, e2⟩ := most_bad HC.out
    have E1 := Lib.hid e1
    have E2 := Lib.hid e2
    clear e1 e2
    go_wp2
    go_ret2
    refine ⟨none, 0, 0, by rw [E1.out]; rfl, ?_, hb1⟩
    rw [E2.out]
    exact OwnI.nil _ _
  · obtain ⟨M, rfl⟩ : ∃ M : Nat, m = M := ⟨m.toNat, by have := (checkG_iff.1 HC.out).1; omega⟩
    obtain ⟨e1, e2⟩ := most_ok HC.out
    have E1 := Lib.hid e1
    have E2 := Lib.hid e2
    have HGL := Lib.hid hx.glen
    have h8 : x.n ≤ 8 := by have := (checkG_iff.1 HC.out).2.2.1; rw [HGL.out] at this; exact this
    have hM8 : M ≤ 8 := by have := (checkG_iff.1 HC.out).2.1; omega
    clear e1 e2 hm1 hm2
    go_wp2_with fail
    go_loopw [6, 7] (fun o v wr => ∃ (j : Nat) (A : Option Addr) (c : Nat), j ≤ x.n ∧ v = .int .i64 j ∧ o = .slice A j c ∧ OwnI wr w.heap.size ⟨A, j, c, List.replicate j (-1)⟩ ∧ Below w.heap.size w wr) (fun _ v _ => x.n - (intOf v).toNat)
    case atStart => exact ⟨0, none, 0, Nat.zero_le _, rfl, rfl, OwnI.nil _ _, hb1⟩
    case round =>
      obtain ⟨j, A, c, hj, rfl, rfl, hO, hB⟩ := hrel
      clear hb1
      by_cases hjn : j < x.n
      · have hjn' : (j : Int) < x.n := by omega
        have hsz := hB.size
        go_wp2_with (at_builtin; go_must (refine wpList_app1 wr rfl _ _ 25 rfl 3 i0 _ 8 Tryz.underlying25 hi0 hz0 hz1 hz2 rfl w.heap.size A j c _ rfl hO.own 1 rfl rfl ?xx3 ?xx4 ?xx5 ?_))
        case xx3 => simp only [maxLen]; omega
        case xx4 => omega
        try case xx5 => exact hsz
        intro A3 c3 w5 hown5 hbel5 hfr5 hat5
        have hO2 : OwnI w5 w.heap.size ⟨A3, j + 1, c3, List.replicate (j + 1) (-1)⟩ := by
          refine ⟨?_, fun z hz => ?_⟩
          · show Own w5 w.heap.size _ A3 (j + 1) c3 (ci64 (List.replicate (j + 1) (-1)))
            rw [List.replicate_succ', ci64_snoc6]; exact hown5
          · rw [(List.mem_replicate.1 hz).2]; omega
        have hB2 := hB.trans hbel5
        clear hown5 hbel5 hfr5 hat5 hO
        go_wp2
        go_roundw
        case rel => exact ⟨j + 1, A3, c3, by omega, by go_num, rfl, hO2, hB2⟩
        case measure => simp [intOf]; omega
      · obtain rfl : j = x.n := by omega
        have hO0 : OwnI wr w.heap.size ⟨A, x.n, c, mostN x.g M 0⟩ := by rw [mostN_zero, HGL.out]; exact hO
        obtain ⟨ws, hws⟩ : ∃ ws, ws = wr := ⟨_, rfl⟩
        rw [← hws] at hO0 hB ⊢
        clear hO hjn hj hws
        go_wp2_with fail
        go_loopw [6, 8] (fun o v wr => ∃ (j : Nat) (A : Option Addr) (c : Nat), j ≤ x.n ∧ v = .int .i64 j ∧ o = .slice A x.n c ∧ Hid (OwnI wr w.heap.size ⟨A, x.n, c, mostN x.g M j⟩) ∧ Below w.heap.size w wr) (fun _ v _ => x.n - (intOf v).toNat)
        case atStart => exact ⟨0, A, c, Nat.zero_le _, rfl, rfl, Lib.hid hO0, hB⟩
        case round =>
          obtain ⟨j, A, c, hj, rfl, rfl, hO, hB⟩ := hrel
          clear hO0
          by_cases hjn : j < x.n
          · have hjn' : (j : Int) < x.n := by omega
            have hjg : j < x.g.length := by rw [HGL.out]; exact hjn
            have hmay := stp_may HC.out (most_stp HC.out j (by omega)) hjg
            obtain ⟨_, p2, p3, _, _⟩ := path_ok hmay
            have hit := mostN_item HC.out hjg
            have hnx := Lib.hid (mostN_next HC.out hjg)
            have hgd := hO.out.own.rd.get hjn
            obtain ⟨p, q, rfl, hp, u0, hu0, hc0⟩ := hgd
            have hjl : j < (mostN x.g M j).length := by rw [hO.out.len]; exact hjn
            rw [ci64_get _ _ hjl] at hu0
            obtain rfl : iV (mostN x.g M j)[j] = u0 := Option.some.inj hu0
            rw [List.getD_eq_getElem?_getD, List.getElem?_eq_getElem hjl] at hit
            have hit : (mostN x.g M j)[j] = -1 := hit
            unfold iV at hc0
            rw [hit] at hc0
            have hmo := rmore7 x M ⟨some ⟨p, q, none⟩, x.n, c, mostN x.g M j⟩ j wr (hx.below hB) hO.out.ok (by omega) (by omega) (by omega) (by omega)
            rw [show x.v = .slice x.A x.n x.c from rfl] at hmo
            unfold Ls.v at hmo
            simp only at hmo
            rw [p2, p3] at hmo
            obtain ⟨β, hβ⟩ : ∃ β, foundP x.g M (mostN x.g M j) j = β := ⟨_, rfl⟩
            rw [hβ] at hmo
            have HB := Lib.hid hβ
            have HO := Lib.hid (fun (w' : World) (hb : Below wr.heap.size wr w') => hO.out.below hb)
            clear hβ p2 p3 hit hmay hu0 hO
            go_wp2_with fail
            refine hmo.mono ?_
            rintro e w3 ⟨A3, n3, c3, rfl, hO3, hb3⟩
            have hB3 := hB.trans (hb3.mono hB.size)
            clear hmo hc0
            cases β
            · have hz := hnx.out
              rw [HB.out, if_neg (by simp)] at hz
              have HN : Hid (OwnI w3 w.heap.size ⟨some ⟨p, q, none⟩, x.n, c, mostN x.g M (j + 1)⟩) := Lib.hid (by rw [hz]; exact HO.out w3 hb3)
              clear hz hO3 HO hnx hb3
              go_wp2
              go_roundw
              case rel => exact ⟨j + 1, _, c, by omega, by go_num, rfl, HN, hB3⟩
              case measure => simp [intOf]; omega
            · have hz := hnx.out
              rw [HB.out, if_pos rfl] at hz
              have hl3 := hO3.len
              simp only at hl3
              have h5 : (mostN x.g M (j + 1)).length = x.n := by rw [(most_stp HC.out (j + 1) (by omega)).fit.len, HGL.out]
              rw [hz, hl3] at h5
              subst h5
              have HN : Hid (OwnI w3 w.heap.size ⟨A3, x.n, c3, mostN x.g M (j + 1)⟩) := Lib.hid (by rw [hz]; exact hO3.mono hB.size)
              clear hz hO3 HO hnx hl3 hb3
              go_wp2
              go_roundw
              case rel => exact ⟨j + 1, A3, c3, by omega, by go_num, rfl, HN, hB3⟩
              case measure => simp [intOf]; omega
          · obtain rfl : j = x.n := by omega
            have hfin : Hid (OwnI wr w.heap.size ⟨A, x.n, c, mostE x.g M⟩) := Lib.hid (by rw [E2.out, mostP, HGL.out]; exact hO.out)
            clear hO
            go_wp2
            go_ret2
            exact ⟨A, x.n, c, by rw [E1.out]; rfl, hfin.out, hB⟩
end Go.Proofs.YtcjfgkihmhdhlaaGreatDoor

namespace Go.Proofs.YtcjfgkihmhdhlaaGreatDoor
open Go.RowKit
set_option linter.unusedVariables false

/-- A part of some, by bits. -/
def subL (s : List Int) (n j : Nat) : List Int := (partL j n).map fun i => s.getD i.toNat 0
theorem subL_zero (s : List Int) (n : Nat) : subL s n 0 = [] := rfl
theorem subL_succ {s : List Int} {n j : Nat} (hj : j < s.length) : subL s n (j + 1) = subL s n j ++ if n.testBit j = true then [s[j]] else [] := by
  rw [subL, subL, partL, partL, upto_succ, List.map_append]
  congr 1
  by_cases h : n.testBit j = true
  · rw [if_pos h, if_pos h]
    simp [List.getD_eq_getElem?_getD, List.getElem?_eq_getElem hj]
  · rw [if_neg h, if_neg h]; rfl
theorem subL_len (s : List Int) (n j : Nat) : (subL s n j).length = (partL j n).length := by rw [subL, List.length_map]
theorem subL_le (s : List Int) (n j : Nat) : (subL s n j).length ≤ j := by rw [subL_len]; exact upto_len _ _
theorem subL_rises {m : Int} {s : List Int} {n j : Nat} (hs : Rises m s) (hj : j ≤ s.length) : Rises m (subL s n j) := by
  have hr := upto_rises j fun i => n.testBit i
  have hg : ∀ i : Int, i ∈ partL j n → ∃ h : i.toNat < s.length, s.getD i.toNat 0 = s[i.toNat] := fun i hi => by
    have := hr.1 i hi
    refine ⟨by omega, ?_⟩
    rw [List.getD_eq_getElem?_getD, List.getElem?_eq_getElem (by omega)]; rfl
  refine ⟨fun x hx => ?_, ?_⟩
  · obtain ⟨i, hi, rfl⟩ := List.mem_map.1 hx
    obtain ⟨h, e⟩ := hg i hi
    rw [e]
    exact hs.1 _ (List.getElem_mem h)
  · rw [subL, List.pairwise_map]
    refine hr.2.imp_of_mem fun {a b} ha hb hab => ?_
    obtain ⟨h1, e1⟩ := hg a ha
    obtain ⟨h2, e2⟩ := hg b hb
    rw [e1, e2]
    have := hr.1 a ha
    exact List.pairwise_iff_getElem.1 hs.2 _ _ h1 h2 (by omega)
/-- Of each part as many are near to it at least. -/
def GoodP (g : List (List Int)) (m : Nat) (s : List Int) (n : Nat) : Prop := (subL s n s.length).length ≤ (nearG g m (subL s n s.length)).length
theorem good_zero (g : List (List Int)) (m : Nat) (s : List Int) : GoodP g m s 0 := by
  unfold GoodP
  have h : partL s.length 0 = [] := by
    refine List.eq_nil_iff_forall_not_mem.2 fun x hx => ?_
    obtain ⟨i, _, h, _⟩ := mem_upto.1 hx
    simp at h
  rw [subL_len, h]
  exact Nat.zero_le _
theorem all_parts {g : List (List Int)} {m : Nat} {s : List Int} (hc : checkG g m = true) (hs : Rises g.length s) : allB g m s = true ↔ ∀ n, n < 2 ^ s.length → GoodP g m s n := by
  rw [all_hall hc hs]
  constructor
  · intro h n _
    have h1 := h (partL s.length n) (upto_rises _ _)
    rw [near_rows (t := partL s.length n) (upto_rises _ _)] at h1
    rw [GoodP, subL_len]
    exact h1
  · intro h t ht
    obtain ⟨p, hp, rfl⟩ := part_of ht
    have h1 := h p hp
    rw [GoodP, subL_len] at h1
    rw [near_rows ht]
    exact h1

set_option maxRecDepth 100000 in
set_option maxHeartbeats 2000000 in
theorem rall8 : AllC 10 := by
  intro x m u w hx hu hm1 hm2
  obtain ⟨uA, un, uc, ul⟩ := u
  have hck := rcheckG x m w hx hm1 hm2
  have hurd := hu.rd
  have HUL := Lib.hid hu.len
  have hucap := Nat.le_trans hu.cap hu.top
  have hufit := Lib.hid hu.fit
  have HGL := Lib.hid hx.glen
  have hxt := Nat.le_trans hx.cap hx.top
  unfold Ls.v
  simp only at hurd HUL hucap hufit ⊢
  obtain ⟨β, hβ⟩ : ∃ β, checkG x.g m = β := ⟨_, rfl⟩
  have HC := Lib.hid hβ
  rw [show x.v = .slice x.A x.n x.c from rfl] at hck ⊢
  rw [hβ] at hck
  obtain ⟨i0, hi0, hz0, hz1, hz2⟩ := info_parts info8_int
  cases β
  · have hno : nearOk x.g m ul = false := by rw [nearOk, HC.out]; rfl
    have H1 := Lib.hid (near_err_bad hno)
    have H2 : Hid (allE x.g m ul = false) := Lib.hid (by rw [allE, hno]; rfl)
    clear hβ hno
    go_enter Tryz.func10, Tryz.ntmps10
    go_wp2_with fail
    refine hck.mono ?_
    rintro e w1 ⟨rfl, hb1⟩
    clear hck
    go_wp2
    go_ret2
    exact ⟨by rw [H1.out, H2.out]; rfl, hb1⟩
  · obtain ⟨M, rfl⟩ : ∃ M : Nat, m = M := ⟨m.toNat, by have := (checkG_iff.1 HC.out).1; omega⟩
    have h8 : x.n ≤ 8 := by have := (checkG_iff.1 HC.out).2.2.1; rw [HGL.out] at this; exact this
    have hri := fun w1 (hb : Below w.heap.size w w1) => rrises_any uA un uc ul x.n w1 (hurd.below hb) hucap
    obtain ⟨γ, hγ⟩ : ∃ γ, riseB ul x.n = γ := ⟨_, rfl⟩
    rw [hγ] at hri
    have hok : nearOk x.g M ul = γ := by rw [nearOk, HC.out, HGL.out, hγ]; rfl
    cases γ
    · have H1 := Lib.hid (near_err_bad hok)
      have H2 : Hid (allE x.g M ul = false) := Lib.hid (by rw [allE, hok]; rfl)
      clear hβ hγ hok
      go_enter Tryz.func10, Tryz.ntmps10
      go_wp2_with fail
      refine hck.mono ?_
      rintro e w1 ⟨rfl, hb1⟩
      have hri1 := hri w1 hb1
      clear hck hri
      go_wp2_with fail
      refine hri1.mono ?_
      rintro e w2 ⟨rfl, hb2⟩
      have hB2 := hb1.trans (hb2.mono hb1.size)
      clear hri1 hb2 hb1
      go_wp2
      go_ret2
      exact ⟨by rw [H1.out, H2.out]; rfl, hB2⟩
    · have hrs : Rises x.g.length ul := by rw [HGL.out]; exact of_decide_eq_true hγ
      have HRS := Lib.hid hrs
      have hun8 : un ≤ 8 := by
        have h1 := rises_len hrs
        rw [HUL.out, HGL.out] at h1
        omega
      have H1 := Lib.hid (near_err hok)
      have hal : Hid (allE x.g M ul = true ↔ ∀ n, n < 2 ^ un → GoodP x.g M ul n) := Lib.hid (by
        rw [allE, hok, Bool.true_and, Int.toNat_natCast, all_parts HC.out hrs, HUL.out])
      obtain ⟨N, hN⟩ : ∃ N, 2 ^ un = N := ⟨_, rfl⟩
      have hN8 : N ≤ 256 := by rw [← hN]; exact Nat.pow_le_pow_right (by omega) hun8
      have hN1 : 1 ≤ N := by rw [← hN]; exact Nat.one_le_two_pow
      have hNi : ((2 : Int) ^ un) = (N : Int) := by rw [← hN]; simp
      have hw : wrap64 (2 ^ un) = (N : Int) := by rw [hNi]; unfold wrap64; omega
      have HN := Lib.hid hN
      clear hβ hγ hok hrs hNi hN
      go_enter Tryz.func10, Tryz.ntmps10
      go_wp2_with fail
      refine hck.mono ?_
      rintro e w1 ⟨rfl, hb1⟩
      have hri1 := hri w1 hb1
      clear hck hri
      go_wp2_with fail
      refine hri1.mono ?_
      rintro e w2 ⟨rfl, hb2⟩
      have hB2 := hb1.trans (hb2.mono hb1.size)
      clear hri1 hb2 hb1
      go_wp2_with fail
      go_loopw [8] (fun v wr => ∃ p : Nat, 1 ≤ p ∧ p ≤ N ∧ v = .int .i64 p ∧ Hid (∀ q, q < p → GoodP x.g M ul q) ∧ Below w.heap.size w wr) (fun v _ => N - (intOf v).toNat)
      case atStart =>
        refine ⟨1, Nat.le_refl _, hN1, rfl, Lib.hid fun q hq => ?_, hB2⟩
        obtain rfl : q = 0 := by omega
        exact good_zero _ _ _
      case round =>
        obtain ⟨p, hp1, hpN, rfl, hgood, hB⟩ := hrel
        obtain ⟨wo, rfl⟩ : ∃ wo, wo = wr := ⟨_, rfl⟩
        clear hB2
        by_cases hlt : p < N
        · have hlt' : (p : Int) < N := by omega
          go_wp2
          try rw [hw]
          clear hw
          go_loopw [9, 10] (fun o v wr => ∃ (j : Nat) (A2 : Option Addr) (n2 c2 : Nat), j ≤ un ∧ v = .int .i64 j ∧ o = .slice A2 n2 c2 ∧ OwnI wr wo.heap.size ⟨A2, n2, c2, subL ul p j⟩ ∧ Below wo.heap.size wo wr) (fun _ v _ => un - (intOf v).toNat)
          case atStart => exact ⟨0, none, 0, 0, Nat.zero_le _, rfl, rfl, OwnI.nil _ _, Below.refl _ _⟩
          case round =>
            obtain ⟨j, A2, n2, c2, hj, rfl, rfl, hO, hB2⟩ := hrel
            have hlen := hO.len
            have hul := subL_le ul p j
            have hn2 : n2 ≤ j := by
              have h3 : (subL ul p j).length = n2 := hlen
              omega
            clear hlen hul
            by_cases hjL : j < un
            · have hjL' : (j : Int) < un := by omega
              have hj0 : (0 : Int) ≤ j := by omega
              have hbit := bit_i64 p j (by omega)
              have hjl : j < ul.length := by rw [HUL.out]; exact hjL
              have hsnoc : Hid (subL ul p (j + 1) = subL ul p j ++ if p.testBit j = true then [ul[j]] else []) := Lib.hid (subL_succ hjl)
              obtain ⟨δ, hδ⟩ : ∃ δ, p.testBit j = δ := ⟨_, rfl⟩
              rw [hδ] at hbit hsnoc
              clear hδ
              cases δ
              · have hO2 : OwnI wr wo.heap.size ⟨A2, n2, c2, subL ul p (j + 1)⟩ := by rw [hsnoc.out]; simpa using hO
                clear hO hsnoc
                go_wp2
                go_roundw
                case rel => exact ⟨j + 1, A2, n2, c2, by omega, by go_num, rfl, hO2, hB2⟩
                case measure => simp [intOf]; omega
              · have hsz2 := hB2.size
                obtain ⟨p1, q1, hA, hp1', u0, hu0, hcu⟩ := (hurd.below (hB.trans (hB2.mono hB.size))).get hjL
                subst hA
                rw [ci64_get _ _ hjl] at hu0
                obtain rfl : iV ul[j] = u0 := Option.some.inj hu0
                unfold iV at hcu
                have hfz := hufit.out _ (List.getElem_mem hjl)
                obtain ⟨a, ha⟩ : ∃ a, ul[j] = a := ⟨_, rfl⟩
                rw [ha] at hcu hsnoc hfz
                clear hu0 ha
                go_wp2_with (at_builtin; go_must (refine wpList_app1 wr rfl _ _ 25 rfl 3 i0 _ 8 Tryz.underlying25 hi0 hz0 hz1 hz2 rfl wo.heap.size A2 n2 c2 _ rfl hO.own 1 rfl rfl ?xx3 ?xx4 ?xx5 ?_))
                case xx3 => simp only [maxLen]; omega
                case xx4 => omega
                try case xx5 => exact hsz2
                intro A3 c3 w5 hown5 hbel5 hfr5 hat5
                have hO2 : OwnI w5 wo.heap.size ⟨A3, n2 + 1, c3, subL ul p (j + 1)⟩ := by
                  refine ⟨?_, fun z hz => ?_⟩
                  · show Own w5 wo.heap.size _ A3 (n2 + 1) c3 (ci64 (subL ul p (j + 1)))
                    rw [hsnoc.out, if_pos trivial, ci64_snoc6]; exact hown5
                  · have hz : z ∈ subL ul p (j + 1) := hz
                    rw [hsnoc.out, if_pos trivial] at hz
                    rcases List.mem_append.1 hz with hz | hz
                    · exact hO.fit z hz
                    · rw [List.mem_singleton.1 hz]; exact hfz
                have hB3 := hB2.trans hbel5
                clear hown5 hbel5 hfr5 hat5 hO hsnoc hcu
                go_wp2
                go_roundw
                case rel => exact ⟨j + 1, A3, n2 + 1, c3, by omega, by go_num, rfl, hO2, hB3⟩
                case measure => simp [intOf]; omega
            · obtain rfl : j = un := by omega
              have hB3 := hB.trans (hB2.mono hB.size)
              have hsr : Rises x.g.length (subL ul p j) := subL_rises HRS.out (by rw [HUL.out]; exact Nat.le_refl _)
              have hne := rnearG x M ⟨A2, n2, c2, subL ul p j⟩ wr (hx.below hB3) hO.ok (by omega) (by omega)
              rw [show x.v = .slice x.A x.n x.c from rfl] at hne
              unfold Ls.v at hne
              simp only at hne
              rw [near_err (nearOk_of HC.out hsr), near_ans (nearOk_of HC.out hsr)] at hne
              have HLEN : Hid ((subL ul p j).length = n2) := Lib.hid hO.len
              clear hO hB2 hsr
              go_wp2_with fail
              refine hne.mono ?_
              rintro e w6 ⟨A6, n6, c6, rfl, hO6, hb6⟩
              have hl6 : (nearG x.g M (subL ul p j)).length = n6 := hO6.len
              have hB6 := hB3.trans (hb6.mono hB3.size)
              have hgd : Hid (GoodP x.g M ul p ↔ n2 ≤ n6) := Lib.hid (by rw [GoodP, HUL.out, HLEN.out, hl6])
              clear hne hO6 hb6 hl6 HLEN
              by_cases hlt6 : n6 < n2
              · have hlt6' : (n6 : Int) < n2 := by omega
                have hfin : Hid (allE x.g M ul = false) := Lib.hid (by
                  cases h : allE x.g M ul with
                  | false => rfl
                  | true =>
                    have h5 := hgd.out.1 (hal.out.1 h p (by rw [HN.out]; exact hlt))
                    omega)
                clear hgd hgood hal
                go_wp2
                go_ret2
                exact ⟨by rw [H1.out, hfin.out]; rfl, hB6⟩
              · have hlt6' : ¬ (n6 : Int) < n2 := by omega
                have hg2 : Hid (∀ q, q < p + 1 → GoodP x.g M ul q) := Lib.hid fun q hq => by
                  by_cases he : q = p
                  · rw [he]; exact hgd.out.2 (by omega)
                  · exact hgood.out q (by omega)
                clear hgd hgood hal
                go_wp2
                go_roundw
                case rel => exact ⟨p + 1, by omega, by omega, by go_num, hg2, hB6⟩
                case measure => simp [intOf]; omega
        · obtain rfl : p = N := by omega
          have hfin : Hid (allE x.g M ul = true) := Lib.hid (hal.out.2 fun n hn => hgood.out n (by rw [← HN.out]; exact hn))
          clear hgood hal
          go_wp2
          try rw [hw]
          clear hw
          go_wp2
          go_ret2
          exact ⟨by rw [H1.out, hfin.out]; rfl, hB⟩
end Go.Proofs.YtcjfgkihmhdhlaaGreatDoor
