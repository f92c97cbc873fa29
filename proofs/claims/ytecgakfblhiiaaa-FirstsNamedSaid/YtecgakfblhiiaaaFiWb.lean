/-
  Walks of package firsts: the table, the least item, what is handed out.
-/
import Derived.Test.YtecgakfblhiiaaaFiWa
import Derived.Test.YtecgakfblhiiaaaWeW
namespace Go.Proofs.Ytecgakfblhiiaaa
open Go.RowKit
set_option linter.unusedVariables false

theorem who_at {o : List Int} {n p : Nat} (h : ordB o n = true) (hp : p < o.length) : ∃ w : Nat, o[p] = (w : Int) ∧ w < n ∧ (whoN o)[p]? = some w ∧ (whoN o).drop p = w :: (whoN o).drop (p + 1) := by
  have h1 := ord_in h _ (List.getElem_mem hp)
  have hp2 : p < (whoN o).length := by rw [whoN_len]; exact hp
  refine ⟨o[p].toNat, by omega, by omega, ?_, ?_⟩
  · rw [List.getElem?_eq_getElem hp2, whoN_get hp]
  · rw [List.drop_eq_getElem_cons hp2, whoN_get hp]
theorem drop_ord {o : List Int} {n p : Nat} (h : ordB o n = true) : ((whoN o).drop p).Nodup ∧ ∀ b ∈ (whoN o).drop p, b < n :=
  ⟨(ord_nodup h).sublist (List.drop_sublist _ _), fun b hb => ord_lt h b (List.mem_of_mem_drop hb)⟩
theorem row_gG {g : List (List Int)} {M b : Nat} {u : List Int} (h : mayW g M = true) (hb : b < g.length) (hg : g.getD b [] = u) : u.length = M ∧ ∀ (k : Nat) (hk : k < u.length), u[k] = gG g b k ∧ -1000000 ≤ gG g b k ∧ gG g b k ≤ 1000000 := by
  have h1 := (may_row h hb).1
  have h2 : g[b] = u := by rw [← hg, List.getD_eq_getElem?_getD, List.getElem?_eq_getElem hb]; rfl
  subst h2
  refine ⟨h1, fun k hk => ⟨?_, gG_bound h b k⟩⟩
  rw [gG, hg, List.getD_eq_getElem?_getD, List.getElem?_eq_getElem hk]; rfl
set_option maxRecDepth 100000 in
set_option maxHeartbeats 1000000 in
theorem fleast_any (u : Ls) (b p : Nat) (F B g : Nat → Int) (a : Int) (s M : Nat) (w : World) (ht : TbAt w b F) (hu : u.Ok w) (hun : u.n = M) (hM : M ≤ 8) (hs : s < 2 ^ M) (hp : p < 8) (hg : ∀ (k : Nat) (hk : k < u.zs.length), u.zs[k] = g k ∧ -1000000 ≤ g k ∧ g k ≤ 1000000)
    (hF : ∀ s, s < 2 ^ M → F (p * 256 + s) = B s) (hB : ∀ s, s < 2 ^ M → 0 ≤ B s ∧ B s ≤ 8000000) (ha : 0 ≤ a ∧ a ≤ 8000000) :
    Calls Try.prog 25 #[.slice u.A u.n u.c, .int .i64 a, .int .i64 s, .int .i64 p, .func (.func 19) #[.pointer (some ⟨b, 0, none⟩)] #[]] w fun e w' => e = .returned (.int .i64 (optI (leastF g B a s M))) ∧ w' = w := by
  subst hun
  have HG := Lib.hid hg
  have HF := Lib.hid hF
  have HB := Lib.hid hB
  have tu := Nat.le_trans hu.cap hu.top
  have HL := Lib.hid hu.len
  unfold maxLen at tu
  have hP : 2 ^ u.n ≤ 256 := Nat.pow_le_pow_right (n := 2) (by omega) hM
  have HP : Hid (∀ k, k < u.n → s ^^^ 2 ^ k < 2 ^ u.n) := Lib.hid fun k hk => Nat.xor_lt_two_pow hs (Nat.pow_lt_pow_right (by omega) hk)
  have hs256 : s < 256 := by omega
  obtain ⟨q, hq⟩ : ∃ q, leastF g B a s u.n = q := ⟨_, rfl⟩
  have HQ := Lib.hid hq
  rw [hq]
  clear hg hF hB hP hs hq
  go_enter Try.func25, Try.ntmps25
  go_wp2_with fail
  go_loopw [16] (fun v wr => ∃ k : Nat, k ≤ u.n ∧ v = .int .i64 k ∧ Hid (∀ j, j < k → (s.testBit j && decide (g j + B (s ^^^ 2 ^ j) = a)) = false) ∧ wr = w) (fun v _ => u.n - (intOf v).toNat)
  case atStart => exact ⟨0, Nat.zero_le _, rfl, Lib.hid (fun j hj => absurd hj (by omega)), rfl⟩
  case round =>
    obtain ⟨k, hk, rfl, hno, hwr⟩ := hrel
    have hwr2 := hwr.symm
    subst hwr2
    by_cases hkn : k < u.n
    · have hkn' : (k : Int) < u.n := by omega
      have hk0 : (0 : Int) ≤ k := by omega
      have hkl : k < u.zs.length := by rw [HL.out]; exact hkn
      obtain ⟨p1, q1, hA1, hp1, y0, hy0', hcy⟩ := hu.rd.get hkn
      rw [ci64_get _ _ hkl] at hy0'
      obtain rfl : iV u.zs[k] = y0 := Option.some.inj hy0'
      unfold iV at hcy
      obtain ⟨g1, g2⟩ := HG.out k hkl
      rw [g1] at hcy
      have hk8 : k < 8 := by omega
      have hlh := wrap_pow k hk8
      have hband := and_not s k hs256 hk8
      rw [← hlh] at hband
      have hxn : s.testBit k = true → s ^^^ 2 ^ k ≠ s := fun h e => by
        have h1 := congrArg (fun q => Nat.testBit q k) e
        simp only [Nat.testBit_xor, Nat.testBit_two_pow, h] at h1
        simp at h1
      have hx2 := HP.out k hkn
      have HN1 : Hid ((s.testBit k && decide (g k + B (s ^^^ 2 ^ k) = a)) = false → ∀ j, j < k + 1 → (s.testBit j && decide (g j + B (s ^^^ 2 ^ j) = a)) = false) := Lib.hid fun h j hj => by
        by_cases e : j = k
        · rw [e]; exact h
        · exact hno.out j (by omega)
      have HN2 : Hid ((s.testBit k && decide (g k + B (s ^^^ 2 ^ k) = a)) = true → q = some k) := Lib.hid fun h => by
        rw [← HQ.out]
        exact find_range.2 ⟨hkn, h, hno.out⟩
      rw [hA1]
      have HA1 := Lib.hid hA1
      obtain ⟨z, hz⟩ : ∃ z, g k = z := ⟨_, rfl⟩
      rw [hz] at hcy g2 HN1 HN2
      obtain ⟨δ, hδ⟩ : ∃ δ, s.testBit k = δ := ⟨_, rfl⟩
      rw [hδ] at hband hxn HN1 HN2
      clear hlh hy0' g1 hA1 hz hδ hno
      cases δ
      · simp only [Bool.false_eq_true, if_false] at hband
        have HN : Hid (∀ j, j < k + 1 → (s.testBit j && decide (g j + B (s ^^^ 2 ^ j) = a)) = false) := Lib.hid (HN1.out rfl)
        have gne : ((s : Int) != (s : Int)) = false := by simp
        clear hxn hx2
        go_wp2
        go_roundw
        case rel => exact ⟨k + 1, by omega, by go_num, HN, trivial⟩
        case measure => simp [intOf]; omega
      · simp only [if_true] at hband
        have hne := hxn rfl
        have hfo := HF.out _ hx2
        have hbo := HB.out _ hx2
        obtain ⟨o, ho⟩ : ∃ o, s ^^^ 2 ^ k = o := ⟨_, rfl⟩
        rw [ho] at hband hne hfo hbo hx2 HN1 HN2
        have gne : ((o : Int) != (s : Int)) = true := by rw [bne_iff_ne]; omega
        have hP : 2 ^ u.n ≤ 256 := Nat.pow_le_pow_right (n := 2) (by omega) hM
        have hct := fbehind_any b F p o w ht hp (Nat.lt_of_lt_of_le hx2 hP)
        rw [hfo] at hct
        obtain ⟨f, hf⟩ : ∃ f, B o = f := ⟨_, rfl⟩
        rw [hf] at hct hbo HN1 HN2
        have s1 : IntKind.i64.wrap (z + f) = z + f := by rw [IntKind.wrap_i64]; omega
        clear hxn hne ho hf hfo hx2 hP
        by_cases he : z + f = a
        · have g3 : ((z + f) == a) = true := by rw [beq_iff_eq]; exact he
          have HR : Hid (q = some k) := Lib.hid (HN2.out (by rw [decide_eq_true he]; rfl))
          clear he HN1 HN2
          go_wp2_with fail
          refine hct.mono ?_
          rintro e w2 ⟨rfl, rfl⟩
          clear hct
          go_wp2
          go_ret
          exact ⟨by rw [HR.out]; rfl, rfl⟩
        · have g3 : ((z + f) == a) = false := by rw [beq_eq_false_iff_ne]; exact he
          have HN := Lib.hid (HN1.out (by rw [decide_eq_false he]; rfl))
          clear he HN1 HN2
          go_wp2_with fail
          refine hct.mono ?_
          rintro e w2 ⟨rfl, rfl⟩
          clear hct
          go_wp2
          go_roundw
          case rel => exact ⟨k + 1, by omega, by go_num, HN, trivial⟩
          case measure => simp [intOf]; omega
    · obtain rfl : k = u.n := by omega
      have HR : Hid (q = none) := Lib.hid (by rw [← HQ.out]; exact find_range_none.2 hno.out)
      clear hno
      go_wp2
      go_ret
      exact ⟨by rw [HR.out]; rfl, rfl⟩

/-- What the table says of places from one on. -/
def TbSays (g : List (List Int)) (M : Nat) (o : List Int) (F : Nat → Int) (P : Nat) : Prop := ∀ q s, P ≤ q → q < o.length → s < 2 ^ M → F (q * 256 + s) = hadO (gG g) M ((whoN o).drop (q + 1)) s
set_option maxRecDepth 100000 in
set_option maxHeartbeats 1000000 in
theorem ftable_any (x : Gr) (M : Nat) (y : Ls) (w : World) (hx : x.Ok w) (hy : y.Ok w) (hmay : mayF x.g M y.zs = true) :
    Calls Try.prog 17 #[x.v, y.v, .int .i64 ((2 ^ M - 1 : Nat) : Int)] w fun e w' => e = .returned (.pointer (some ⟨w.heap.size, 0, none⟩)) ∧ (∃ F, TbAt w' w.heap.size F ∧ TbSays x.g M y.zs F 0) ∧ Below w.heap.size w w' := by
  obtain ⟨hm1, hord⟩ := mayF_iff.1 hmay
  have HMAY := Lib.hid hm1
  have HORD := Lib.hid hord
  obtain ⟨c1, hM8, c3⟩ := may_m hm1
  have HGL := Lib.hid hx.glen
  have HYL := Lib.hid hy.len
  have hyl : y.n = x.n := by have := (ordB_iff.1 hord).1; rw [hy.len, hx.glen] at this; exact this
  have hn8 : x.n ≤ 8 := by rw [hx.glen] at c3; exact c3
  have hy8 : y.n ≤ 8 := by omega
  have HYX := Lib.hid hyl
  have hM1 : 1 ≤ M := c1
  obtain ⟨N, hN⟩ : ∃ N, 2 ^ M = N := ⟨_, rfl⟩
  have hN256 : N ≤ 256 := by rw [← hN]; exact Nat.pow_le_pow_right (n := 2) (by omega) hM8
  have hN1 : 1 ≤ N := by rw [← hN]; exact Nat.one_le_two_pow
  have hwN : IntKind.i64.wrap (((N - 1 : Nat) : Int) + 1) = N := by rw [IntKind.wrap_i64]; omega
  have HN := Lib.hid hN
  rw [hN]
  have HB : Hid (∀ q s, 0 ≤ hadO (gG x.g) M ((whoN y.zs).drop q) s ∧ hadO (gG x.g) M ((whoN y.zs).drop q) s ≤ 8000000) := Lib.hid fun q s => by
    obtain ⟨h1, h2⟩ := drop_ord (p := q) hord
    exact hadO_bound hm1 h1 h2 s
  clear hm1 hord hmay c1 c3 hN hyl
  have hv : x.v = .slice x.A x.n x.c := rfl
  have hv2 : y.v = .slice y.A y.n y.c := rfl
  rw [hv, hv2]
  clear hv hv2
  have s0 : IntKind.i64.wrap ((y.n : Int) - 1) = (y.n : Int) - 1 := by rw [IntKind.wrap_i64]; omega
  go_enter Try.func17, Try.ntmps17
  go_wp2_with (refine wpList_newTb rfl rfl ?_)
  intro w1 t1 hb1
  have t1l := t1.lt
  obtain ⟨b, hb⟩ : ∃ b, b = w.heap.size := ⟨_, rfl⟩
  rw [← hb] at t1 t1l ⊢
  have hwb : w.heap.size ≤ b := Nat.le_of_eq hb.symm
  have HT1 : Hid (TbSays x.g M y.zs (fun _ => 0) (y.n - 1)) := Lib.hid fun q s h1 h2 h3 => by
    rw [HYL.out] at h2
    rw [List.drop_eq_nil_of_le (by rw [whoN_len, HYL.out]; omega)]; rfl
  have HBB := Lib.hid hb
  clear hb
  go_wp2_with fail
  go_loopw [8] (fun v wr => ∃ (P : Int) (F : Nat → Int), -1 ≤ P ∧ P < y.n ∧ v = .int .i64 P ∧ TbAt wr b F ∧ Hid (TbSays x.g M y.zs F P.toNat) ∧ Below w.heap.size w wr) (fun v _ => (intOf v).toNat)
  case atStart => exact ⟨(y.n : Int) - 1, _, by omega, by omega, rfl, t1, Lib.hid (by rw [show ((y.n : Int) - 1).toNat = y.n - 1 by omega]; exact HT1.out), hb1⟩
  case round =>
    clear t1 t1l hb1
    obtain ⟨P, F, hP1, hP2, rfl, t, hsay, hB⟩ := hrel
    by_cases hP0 : 0 < P
    · obtain ⟨Q, rfl⟩ : ∃ Q : Nat, P = ((Q + 1 : Nat) : Int) := ⟨P.toNat - 1, by omega⟩
      have hQ : Q + 1 < y.n := by omega
      have hg0 : decide (0 < ((Q + 1 : Nat) : Int)) = true := decide_eq_true hP0
      have HSAY : Hid (TbSays x.g M y.zs F (Q + 1)) := Lib.hid (by have := hsay.out; rwa [Int.toNat_natCast] at this)
      have hsQ : IntKind.i64.wrap (((Q + 1 : Nat) : Int) - 1) = (Q : Int) := by rw [IntKind.wrap_i64]; omega
      obtain ⟨Z, hZ⟩ : ∃ Z : Nat, Z = Q + 1 := ⟨_, rfl⟩
      rw [← hZ] at hg0 HSAY hsQ hQ hP0 ⊢
      have HZ := Lib.hid hZ
      have hg0' : decide (0 < Z) = true := decide_eq_true (by omega)
      have hZ8 : Z < 8 := by omega
      have hQ8 : Q < 8 := by omega
      obtain ⟨wo, rfl⟩ : ∃ wo, wo = wr := ⟨_, rfl⟩
      clear hP1 hP2 hsay hZ hP0
      go_wp2_with fail
      go_loopw [20] (fun v wr => ∃ (s : Nat) (F : Nat → Int), s ≤ N ∧ v = .int .i64 s ∧ TbAt wr b F ∧ Hid (TbSays x.g M y.zs F Z ∧ ∀ t, t < s → F (Q * 256 + t) = hadO (gG x.g) M ((whoN y.zs).drop Z) t) ∧ Below w.heap.size w wr) (fun v _ => N - (intOf v).toNat)
      case atStart => exact ⟨0, F, Nat.zero_le _, rfl, t, Lib.hid ⟨HSAY.out, fun t ht => absurd ht (by omega)⟩, hB⟩
      case round =>
        clear t HSAY hB
        obtain ⟨s, F, hs, rfl, t, hsay, hB⟩ := hrel
        by_cases hsN : s < N
        · have hsN' : (s : Int) < N := by omega
          have hs0 : (0 : Int) ≤ s := by omega
          have hs256 : (s : Int) < 256 := by omega
          have hs2 : s < 256 := by omega
          have hZl : Z < y.zs.length := by rw [HYL.out]; exact hQ
          obtain ⟨p1, q1, hA1, hp1, y0, hy0', hcy0⟩ := hy.rd.get hQ
          rw [ci64_get _ _ hZl] at hy0'
          obtain rfl : iV y.zs[Z] = y0 := Option.some.inj hy0'
          unfold iV at hcy0
          obtain ⟨v, hv1, hv2, hv3, hv4⟩ := who_at HORD.out hZl
          rw [hv1] at hcy0
          have hvx : v < x.n := by rw [← HGL.out]; exact hv2
          obtain ⟨p2, q2, u, hAx, hut, hgy, hp2, hcx0, hku0⟩ := hx.get hvx
          replace hcx0 : w.cell? ⟨p2, q2 + v, none⟩ = some (.slice u.A u.n u.c) := hcx0
          obtain ⟨r1, r2⟩ := row_gG HMAY.out hv2 hgy
          have hun : u.n = M := by have := hku0.len; omega
          have HSY := Lib.hid hsay.out.1
          have HSY2 := Lib.hid hsay.out.2
          have hone := fmost_any u b Z F (hadO (gG x.g) M ((whoN y.zs).drop (Z + 1))) (gG x.g v) s M wr.drew (by exact t) (hku0.below (hB.drew)) hun hM8 (by rw [HN.out]; exact hsN) hZ8 r2 (fun s hs => HSY.out Z s (Nat.le_refl _) hZl hs) (fun s _ => HB.out _ s)
          have hval : hadO (gG x.g) M ((whoN y.zs).drop Z) s = moreF (hadO (gG x.g) M ((whoN y.zs).drop (Z + 1))) (gG x.g v) s M := by rw [hv4]; rfl
          have hzb := HB.out Z s
          rw [← hval] at hone
          have HVAL : Hid (∀ z, hadO (gG x.g) M ((whoN y.zs).drop Z) s = z → TbSays x.g M y.zs (fun t => if t = Q * 256 + s then z else F t) Z ∧ ∀ t, t < s + 1 → (fun t => if t = Q * 256 + s then z else F t) (Q * 256 + t) = hadO (gG x.g) M ((whoN y.zs).drop Z) t) := Lib.hid fun z hz => by
            have hZQ := HZ.out
            refine ⟨fun q s2 h1 h2 h3 => ?_, fun t ht => ?_⟩
            · rw [HN.out] at h3
              show (if q * 256 + s2 = Q * 256 + s then z else F (q * 256 + s2)) = _
              rw [if_neg (by omega)]
              exact HSY.out q s2 h1 h2 (by rw [HN.out]; exact h3)
            · show (if Q * 256 + t = Q * 256 + s then z else F (Q * 256 + t)) = _
              by_cases e : t = s
              · rw [e, if_pos rfl, hz]
              · rw [if_neg (by omega)]; exact HSY2.out t (by omega)
          obtain ⟨z, hz⟩ : ∃ z, hadO (gG x.g) M ((whoN y.zs).drop Z) s = z := ⟨_, rfl⟩
          rw [hz] at hone hzb
          have HNEW := Lib.hid (HVAL.out z hz)
          have hcy := fun w' (h : Below w.heap.size w w') => (h.cell (p := ⟨p1, q1 + Z, none⟩) hp1).trans hcy0
          have hcx := fun w' (h : Below w.heap.size w w') => (h.cell (p := ⟨p2, q2 + v, none⟩) hp2).trans hcx0
          have hS : ∀ w', Below w.heap.size w w' → w'.cell? ⟨p1, q1 + Z, none⟩ = some (.int .i64 (v : Int)) ∧ w'.cell? ⟨p2, q2 + v, none⟩ = some (.slice u.A u.n u.c) := fun w' h => ⟨hcy w' h, hcx w' h⟩
          have hcell := t.cell (s := Q * 256 + s) (by omega)
          have hfree := t.free (s := Q * 256 + s)
          obtain ⟨fo, hfo⟩ : ∃ q, F (Q * 256 + s) = q := ⟨_, rfl⟩
          rw [hfo] at hcell
          have t2 := (show TbAt (wr.setCell ⟨b, Q * 256 + s, none⟩ (.int .i64 z)).drew b _ from t.set (s := Q * 256 + s) (z := z))
          have hB2 := (hB.setCell (p := ⟨b, Q * 256 + s, none⟩) hwb (.int .i64 z)).drew
          have hS2 := hS _ hB2
          have hS1 := hS _ hB.drew
          have hQ' : (Q : Int) < 8 := by omega
          have hQ0 : (0 : Int) ≤ Q := by omega
          have hZ' : (Z : Int) < 8 := by omega
          have hZ0 : (0 : Int) ≤ Z := by omega
          have hZn : (Z : Int) < y.n := by omega
          have hvx' : (v : Int) < x.n := by omega
          have hv0 : (0 : Int) ≤ v := by omega
          rw [hA1, hAx]
          have HA := Lib.hid hA1
          have HAX := Lib.hid hAx
          clear hy0' hcy0 hcx0 hku0 hgy hv1 hv2 hv3 hv4 hA1 hAx r1 r2 hval hz hcy hcx hS HVAL hfo hsay HSY HSY2 hut t hB hun
          go_wp2_with fail
          refine wp_region_ord (S := fun w' => w'.cell? ⟨p1, q1 + Z, none⟩ = some (.int .i64 (v : Int)) ∧ w'.cell? ⟨p2, q2 + v, none⟩ = some (.slice u.A u.n u.c)) [(0, true), (1, true), (2, true), (3, true), (4, true), (5, true), (6, true), (7, true), (8, true), (9, true), (10, true), (11, true), (12, true), (13, true), (14, true), (15, true), (17, true), (18, true), (16, false), (19, true), (20, false)] default (by kernel_rfl) (by kernel_rfl) (by kernel_rfl) hS1 ?_
          simp only [getOrd, nth]
          repeat (first | (refine ordS (by rfl) ?_; simp only [Act.put, List.setIfInBounds_toArray, List.set_cons_zero, List.set_cons_succ]) | (refine ordN (by rfl) ?_; simp only [Act.put, List.setIfInBounds_toArray, List.set_cons_zero, List.set_cons_succ]) | (refine ordQ (v := ?_) (by rfl) (fun _ hSw => ?_) ?_; rotate_left; (focus ((have hS1 := hSw.1); (have hS2 := hSw.2); clear hSw; go_simp; (first | done | with_reducible rfl))); simp only [Act.put, List.setIfInBounds_toArray, List.set_cons_zero, List.set_cons_succ]))
          refine ordD (by rfl) ?_
          intro K hK
          go_simp
          refine hone.mono ?_
          rintro e w6 ⟨rfl, rfl⟩
          clear hone
          go_wp2_with fail
          refine hK _ _ hS1 ?_
          clear hK K
          try simp only [Act.put, List.setIfInBounds_toArray, List.set_cons_zero, List.set_cons_succ]
          repeat (first | (refine ordS (by rfl) ?_; simp only [Act.put, List.setIfInBounds_toArray, List.set_cons_zero, List.set_cons_succ]) | (refine ordN (by rfl) ?_; simp only [Act.put, List.setIfInBounds_toArray, List.set_cons_zero, List.set_cons_succ]) | (refine ordQ (v := ?_) (by rfl) (fun _ hSw => ?_) ?_; rotate_left; (focus ((have hS1 := hSw.1); (have hS2 := hSw.2); clear hSw; go_simp; (first | done | with_reducible rfl))); simp only [Act.put, List.setIfInBounds_toArray, List.set_cons_zero, List.set_cons_succ]))
          refine ordD (by rfl) ?_
          intro K hK
          go_simp
          refine hK _ _ hS2 ?_
          clear hK K
          refine ordE ?_
          clear hS1 hS2 hcell hfree
          go_wp2
          go_roundw
          case rel => exact ⟨s + 1, _, by omega, by go_num, t2, HNEW, hB2⟩
          case measure => simp [intOf]; omega
        · obtain rfl : s = N := by omega
          have HS2 : Hid (TbSays x.g M y.zs F Q) := Lib.hid fun q s2 h1 h2 h3 => by
            by_cases e : q = Q
            · subst e
              rw [HN.out] at h3
              rw [← HZ.out]; exact hsay.out.2 s2 h3
            · have hZQ := HZ.out
              exact hsay.out.1 q s2 (by omega) h2 h3
          clear hsay
          go_wp2
          go_roundw
          case rel => exact ⟨(Q : Int), F, by omega, by have := HZ.out; omega, by go_num, t, Lib.hid (by rw [Int.toNat_natCast]; exact HS2.out), hB⟩
          case measure => have := HZ.out; simp [intOf]; omega
    · have hg0 : decide (0 < P) = false := decide_eq_false hP0
      have HS2 : Hid (TbSays x.g M y.zs F 0) := Lib.hid (by have := hsay.out; rwa [show P.toNat = 0 by omega] at this)
      clear hsay
      go_wp2
      go_ret
      rw [HBB.out] at t
      exact ⟨by rw [HBB.out]; rfl, ⟨F, t, HS2.out⟩, hB⟩
end Go.Proofs.Ytecgakfblhiiaaa
