/-
  Walks of the laws' own functions of layer 9: has, within.
-/
import Derived.Test.YtdiklmfaehmmjaaHaE
import Derived.Test.YtdiklmfaehmmjaaGrL
import Derived.Test.YtdiklmfaehmmjaaReg
namespace Go.Proofs.Ytdiklmfaehmmjaa
open Go.RowKit
set_option linter.unusedVariables false

theorem infoH_int : (Try.prog.info? 3).map (fun i => (i.zero, i.size, i.bytes)) = some (some (.int .i64 0), 1, 8) := by kernel_rfl
set_option maxRecDepth 100000 in
set_option maxHeartbeats 1000000 in
theorem hhas_any (A : Option Addr) (n c : Nat) (zs : List Int) (k : Int) (w : World) (hr : Rd w A n (ci64 zs)) (hn : n ≤ maxLen) :
    Calls Try.prog 13 #[.slice A n c, .int .i64 k] w fun e w' => e = .returned (.bool (decide (k ∈ zs))) ∧ w = w' := by
  have hl : zs.length = n := by have h := hr.len; rw [ci64_len] at h; exact h
  have HL := Lib.hid hl
  unfold maxLen at hn
  clear hl
  go_enter Try.func13, Try.ntmps13
  go_wp2_with fail
  go_loop [5] (fun i => ∃ j : Nat, j ≤ n ∧ i = .int .i64 j ∧ Hid (k ∉ zs.take j)) (fun i => n - (intOf i).toNat)
  case atStart => exact ⟨0, Nat.zero_le _, rfl, Lib.hid (by simp)⟩
  case round =>
    obtain ⟨j, hj, rfl, hno⟩ := hrel
    by_cases hlt : j < n
    · obtain ⟨p, q, rfl, hp, u0, hu0, hc0⟩ := hr.get hlt
      have hjl : j < zs.length := by rw [HL.out]; exact hlt
      rw [ci64_get _ _ hjl] at hu0
      obtain rfl : iV zs[j] = u0 := Option.some.inj hu0
      unfold iV at hc0
      have hmem : zs[j] ∈ zs := List.getElem_mem hjl
      have htk : zs.take (j + 1) = zs.take j ++ [zs[j]] := List.take_succ_eq_append_getElem hjl
      generalize zs[j] = z at hc0 hmem htk
      by_cases hz : z = k
      · have hz1 : (z == k) = true := by rw [hz]; simp
        have HM := Lib.hid (show decide (k ∈ zs) = true from decide_eq_true (hz ▸ hmem))
        clear hu0 hz htk hmem
        go_wp2
        go_ret
        exact ⟨ret_bool HM.out.symm, rfl⟩
      · have hz1 : (z == k) = false := by rw [beq_eq_false_iff_ne]; exact hz
        have HN := Lib.hid (show k ∉ zs.take (j + 1) by
          rw [htk]
          intro hm
          rcases List.mem_append.1 hm with hm | hm
          · exact hno.out hm
          · exact hz (List.mem_singleton.1 hm).symm)
        clear hu0 hz htk hmem
        go_wp2
        go_round
        case rel => exact ⟨j + 1, by omega, by go_num, HN⟩
        case measure => simp [intOf]; omega
    · obtain rfl : j = n := by omega
      have HM := Lib.hid (show decide (k ∈ zs) = false from decide_eq_false (by
        have h := hno.out
        rwa [List.take_of_length_le (by rw [HL.out]; exact Nat.le_refl _)] at h))
      go_wp2
      go_ret
      exact ⟨ret_bool HM.out.symm, rfl⟩

theorem hhas_b (u : Ls) (k : Int) (w : World) (hu : u.Ok w) :
    Calls Try.prog 13 #[u.v, .int .i64 k] w fun e w' => e = .returned (.bool (decide (k ∈ u.zs))) ∧ Below w.heap.size w w' :=
  (hhas_any u.A u.n u.c u.zs k w hu.rd (Nat.le_trans hu.cap hu.top)).mono fun e w' ⟨he, hw⟩ => ⟨he, by rw [← hw]; exact Below.refl _ _⟩
/-- Those of the first j of some whose bit is set. -/
def lessL (y : Nat) (zs : List Int) : Nat → List Int
  | 0 => []
  | j + 1 => lessL y zs j ++ if y.testBit j = true then [zs.getD j 0] else []
theorem lessL_sub (y : Nat) (zs : List Int) : ∀ j, j ≤ zs.length → (lessL y zs j).Sublist (zs.take j)
  | 0, _ => List.Sublist.refl _
  | j + 1, h => by
    rw [lessL, List.take_succ_eq_append_getElem (by omega)]
    refine List.Sublist.append (lessL_sub y zs j (by omega)) ?_
    have : zs.getD j 0 = zs[j]'(by omega) := by rw [List.getD_eq_getElem?_getD, List.getElem?_eq_getElem (by omega)]; rfl
    rw [this]
    split
    · exact List.Sublist.refl _
    · exact List.nil_sublist _
theorem lessL_len (y : Nat) (zs : List Int) {j : Nat} (h : j ≤ zs.length) : (lessL y zs j).length ≤ j := by
  have := (lessL_sub y zs j h).length_le
  rw [List.length_take] at this
  omega
theorem lessL_all (y : Nat) (zs : List Int) : (lessL y zs zs.length).Sublist zs := by
  have := lessL_sub y zs zs.length (Nat.le_refl _)
  rwa [List.take_of_length_le (Nat.le_refl _)] at this
theorem countP_next {l : List Int} {f : Int → Bool} {i : Nat} (hi : i < l.length) : (l.take (i + 1)).countP f = (l.take i).countP f + if f l[i] = true then 1 else 0 := by
  rw [List.take_succ_eq_append_getElem hi, List.countP_append, List.countP_singleton]
theorem any_next {w p : List Int} {k : Nat} (hk : k < p.length) : wantAny w (p.take (k + 1)) = (wantAny w (p.take k) || decide (p[k] ∈ w)) := by
  rw [wantAny, wantAny, List.take_succ_eq_append_getElem hk, List.any_append]; simp
theorem within_succ {g : List (List Int)} {s l : List Int} {j : Nat} (hj : j < s.length) : withinL g (s.take (j + 1)) l = withinL g (s.take j) l ++ if wantB (g.getD s[j].toNat []) l = true then [s[j]] else [] := by
  rw [withinL, withinL, List.take_succ_eq_append_getElem hj, List.filter_append]
  congr 1
  by_cases h : wantB (g.getD s[j].toNat []) l = true
  · rw [if_pos h]; simp only [List.filter_cons, List.filter_nil, h, if_true]
  · rw [if_neg h]; simp only [List.filter_cons, List.filter_nil, h]; rfl
theorem want_succ {w l : List Int} {j : Nat} (hj : j < w.length) : wantB (w.take (j + 1)) l = (wantB (w.take j) l && decide (w[j] ∈ l)) := by
  rw [wantB, wantB, List.take_succ_eq_append_getElem hj, List.all_append]; simp
theorem within_len (g : List (List Int)) (s l : List Int) : (withinL g s l).length ≤ s.length := List.length_filter_le _ _
set_option maxRecDepth 100000 in
set_option maxHeartbeats 2000000 in
theorem hwithin_any (x : Gr) (u l : Ls) (w : World) (hx : x.Ok w) (hu : u.Ok w) (hl : l.Ok w) (hr : ∀ i ∈ u.zs, 0 ≤ i ∧ i < (x.n : Int)) (h8 : u.n ≤ 1000) :
    Calls Try.prog 12 #[.slice x.A x.n x.c, .slice u.A u.n u.c, .slice l.A l.n l.c] w fun e w' => ∃ A n c, e = .returned (.slice A n c) ∧ OwnI w' w.heap.size ⟨A, n, c, withinL x.g u.zs l.zs⟩ ∧ Below w.heap.size w w' := by
  obtain ⟨i0, hi0, hz0, hz1, hz2⟩ := info_parts infoH_int
  obtain ⟨uA, un, uc, ul⟩ := u
  obtain ⟨lA, ln, lc, ll⟩ := l
  have hurd := hu.rd
  have hlrd := hl.rd
  have HUL := Lib.hid hu.len
  have tl := Nat.le_trans hl.cap hl.top
  have tx := Nat.le_trans hx.cap hx.top
  have hufit := Lib.hid hu.fit
  have HR := Lib.hid hr
  simp only at hurd hlrd HUL tl h8 hufit HR ⊢
  clear hr
  go_enter Try.func12, Try.ntmps12
  go_wp2_with fail
  go_loopw [7, 8] (fun o v wr => ∃ (j : Nat) (A : Option Addr) (n c : Nat), j ≤ un ∧ v = .int .i64 j ∧ o = .slice A n c ∧ OwnI wr w.heap.size ⟨A, n, c, withinL x.g (ul.take j) ll⟩ ∧ Below w.heap.size w wr) (fun _ v _ => un - (intOf v).toNat)
  case atStart => exact ⟨0, none, 0, 0, Nat.zero_le _, rfl, rfl, OwnI.nil _ _, Below.refl _ _⟩
  case round =>
    obtain ⟨j, A, n, c, hj, rfl, rfl, hO, hB⟩ := hrel
    obtain ⟨wo, rfl⟩ : ∃ wo, wo = wr := ⟨_, rfl⟩
    by_cases hjn : j < un
    · have hjn' : (j : Int) < un := by omega
      have hj0 : (0 : Int) ≤ j := by omega
      have hjl : j < ul.length := by rw [HUL.out]; exact hjn
      have hn8 : n ≤ j := by
        have h1 := hO.len
        have h2 := within_len x.g (ul.take j) ll
        rw [List.length_take] at h2
        have h3 : (withinL x.g (ul.take j) ll).length = n := h1
        omega
      obtain ⟨p1, q1, hA1, hp1, y0, hy0', hcy⟩ := hurd.get hjn
      subst hA1
      rw [ci64_get _ _ hjl] at hy0'
      obtain rfl : iV ul[j] = y0 := Option.some.inj hy0'
      unfold iV at hcy
      have hrg := HR.out _ (List.getElem_mem hjl)
      obtain ⟨a, ha⟩ : ∃ a : Nat, ul[j] = a := ⟨ul[j].toNat, by omega⟩
      have hsuc := within_succ (g := x.g) (l := ll) hjl
      rw [ha] at hcy hrg hsuc
      rw [Int.toNat_natCast] at hsuc
      have han : a < x.n := by omega
      have han' : (a : Int) < x.n := by omega
      have ha0 : (0 : Int) ≤ a := by omega
      have g0 : decide ((a : Int) < 0) = false := decide_eq_false (by omega)
      have g1 : decide ((x.n : Int) ≤ (a : Int)) = false := decide_eq_false (by omega)
      have g1' : decide (x.n ≤ a) = false := decide_eq_false (by omega)
      obtain ⟨p2, q2, v, hA2, _, hgv, hp2, hcv, hkv⟩ := hx.get han
      rw [hgv] at hsuc
      obtain ⟨vA, vn, vc, vl⟩ := v
      unfold Ls.v at hcv
      simp only at hcv hsuc
      have hvrd := hkv.rd
      have HVL := Lib.hid hkv.len
      have tv := Nat.le_trans hkv.cap hkv.top
      simp only at hvrd HVL tv
      unfold maxLen at tv
      have HSUC := Lib.hid hsuc
      have c1 : ∀ w', Below w.heap.size w w' → w'.cell? ⟨p1, q1 + j, none⟩ = some (.int .i64 (a : Int)) := fun w' hb => (hb.cell (p := ⟨p1, q1 + j, none⟩) hp1).trans hcy
      have c2 : ∀ w', Below w.heap.size w w' → w'.cell? ⟨p2, q2 + a, none⟩ = some (.slice vA vn vc) := fun w' hb => (hb.cell (p := ⟨p2, q2 + a, none⟩) hp2).trans hcv
      have hfz : -9223372036854775808 ≤ (a : Int) ∧ (a : Int) ≤ 9223372036854775807 := by have := hufit.out _ (List.getElem_mem hjl); rw [ha] at this; exact this
      clear hy0' ha hsuc hgv hkv hcy hcv
      have e1 := c1 _ hB
      rw [hA2]
      go_wp2_with fail
      clear e1
      go_loopw [9, 10] (fun o v wr => ∃ k : Nat, k ≤ vn ∧ v = .int .i64 k ∧ ∃ β, o = .bool β ∧ Hid (β = wantB (vl.take k) ll) ∧ OwnI wr w.heap.size ⟨A, n, c, withinL x.g (ul.take j) ll⟩ ∧ Below w.heap.size w wr) (fun _ v _ => vn - (intOf v).toNat)
      case atStart => exact ⟨0, Nat.zero_le _, rfl, true, rfl, Lib.hid (by simp [wantB]), hO, hB⟩
      case round =>
        obtain ⟨k, hk, rfl, β, rfl, hβ, hO2, hB2⟩ := hrel
        clear hO hB
        have e1 := c1 _ hB2
        have e2 := c2 _ hB2
        by_cases hkn : k < vn
        · have hkn' : (k : Int) < vn := by omega
          have hk0 : (0 : Int) ≤ k := by omega
          have hkl : k < vl.length := by rw [HVL.out]; exact hkn
          have hws := want_succ (l := ll) hkl
          rw [← hβ.out] at hws
          cases β
          · have HN : Hid (false = wantB (vl.take (k + 1)) ll) := Lib.hid (by rw [hws]; rfl)
            clear hws hβ
            go_wp2
            go_roundw
            case rel => exact ⟨k + 1, by omega, by go_num, false, rfl, HN, hO2, hB2⟩
            case measure => simp [intOf]; omega
          · obtain ⟨p3, q3, hA3, hp3, y0, hy0', hcy⟩ := hvrd.get hkn
            subst hA3
            rw [ci64_get _ _ hkl] at hy0'
            obtain rfl : iV vl[k] = y0 := Option.some.inj hy0'
            unfold iV at hcy
            obtain ⟨b, hb⟩ : ∃ b, vl[k] = b := ⟨_, rfl⟩
            rw [hb] at hcy hws
            have e3 := (hB2.cell (p := ⟨p3, q3 + k, none⟩) hp3).trans hcy
            have hha := hhas_any lA ln lc ll b wr (hlrd.below hB2) tl
            obtain ⟨γ, hγ⟩ : ∃ γ, decide (b ∈ ll) = γ := ⟨_, rfl⟩
            rw [hγ] at hha hws
            have HN : Hid (γ = wantB (vl.take (k + 1)) ll) := Lib.hid (by rw [hws]; simp)
            clear hy0' hb hws hγ hcy hβ
            go_wp2_with fail
            refine hha.mono ?_
            rintro e w5 ⟨rfl, rfl⟩
            clear hha e3
            go_wp2
            go_roundw
            case rel => exact ⟨k + 1, by omega, by go_num, γ, rfl, HN, hO2, hB2⟩
            case measure => simp [intOf]; omega
        · obtain rfl : k = vn := by omega
          have hw : β = wantB vl ll := by
            have h5 := hβ.out
            rwa [List.take_of_length_le (by rw [HVL.out]; exact Nat.le_refl _)] at h5
          have hs2 : Hid (withinL x.g (ul.take (j + 1)) ll = withinL x.g (ul.take j) ll ++ if β = true then [(a : Int)] else []) := Lib.hid (by rw [HSUC.out, hw])
          clear hβ hw HSUC
          cases β
          · have hO3 : OwnI wr w.heap.size ⟨A, n, c, withinL x.g (ul.take (j + 1)) ll⟩ := by rw [hs2.out]; simpa using hO2
            clear hO2 hs2
            go_wp2
            go_roundw
            case rel => exact ⟨j + 1, A, n, c, by omega, by go_num, rfl, hO3, hB2⟩
            case measure => simp [intOf]; omega
          · have hsz := hB2.size
            go_wp2_with (at_builtin; go_must (refine wpList_app1 wr rfl _ _ 25 rfl 3 i0 _ 8 Try.underlying25 hi0 hz0 hz1 hz2 rfl w.heap.size A n c _ rfl hO2.own 1 rfl rfl ?xx3 ?xx4 ?xx5 ?_))
            case xx3 => simp only [maxLen]; omega
            case xx4 => omega
            try case xx5 => exact hsz
            intro A3 c3 w5 hown5 hbel5 hfr5 hat5
            have hO3 : OwnI w5 w.heap.size ⟨A3, n + 1, c3, withinL x.g (ul.take (j + 1)) ll⟩ := by
              refine ⟨?_, fun z hz => ?_⟩
              · show Own w5 w.heap.size _ A3 (n + 1) c3 (ci64 (withinL x.g (ul.take (j + 1)) ll))
                rw [hs2.out, if_pos trivial, ci64_snoc6]; exact hown5
              · have hz : z ∈ withinL x.g (ul.take (j + 1)) ll := hz
                exact hufit.out z (List.mem_of_mem_take (mem_within.1 hz).1)
            have hB3 := hB2.trans hbel5
            clear hown5 hbel5 hfr5 hat5 hO2 hs2 e1 e2
            go_wp2
            go_roundw
            case rel => exact ⟨j + 1, A3, n + 1, c3, by omega, by go_num, rfl, hO3, hB3⟩
            case measure => simp [intOf]; omega
    · obtain rfl : j = un := by omega
      rw [List.take_of_length_le (by rw [HUL.out]; exact Nat.le_refl _)] at hO
      go_wp2
      go_ret
      exact ⟨_, _, _, rfl, hO, hB⟩
end Go.Proofs.Ytdiklmfaehmmjaa
