/-
  The contract of package firsts: the walk of First.
-/
import Derived.Test.YtecgakfblhiiaaaDoorFiT
import Derived.Test.YtecgakfblhiiaaaDoorWeW
import Derived.Test.YtecgakfblhiiaaaDoorCel
namespace Go.Proofs.YtecgakfblhiiaaaDoor
open Go.RowKit
set_option linter.unusedVariables false

def HasOk (o : List Int) (n k : Nat) : Prop := ∀ (i : Nat) (hi : i < o.length), i < k → (0 ≤ o[i] ∧ o[i] < (n : Int)) ∧ ∀ (j : Nat) (hj : j < i), o[i] ≠ o[j]'(by omega)
theorem mem_take_iff {o : List Int} {k : Nat} {z : Int} : z ∈ o.take k ↔ ∃ (j : Nat) (hj : j < o.length), j < k ∧ o[j] = z := by
  constructor
  · intro h
    obtain ⟨i, hi, e⟩ := List.getElem_of_mem h
    rw [List.length_take] at hi
    exact ⟨i, by omega, by omega, by rw [← e, List.getElem_take]⟩
  · rintro ⟨j, hj, hk, rfl⟩
    exact List.mem_take_iff_getElem.2 ⟨j, by omega, rfl⟩
theorem hasOk_succ {o : List Int} {n k : Nat} (h : HasOk o n k) (hk : k < o.length) (h1 : 0 ≤ o[k] ∧ o[k] < (n : Int)) (h2 : o[k] ∉ o.take k) : HasOk o n (k + 1) := by
  intro i hi hik
  by_cases e : i = k
  · subst e
    exact ⟨h1, fun j hj e2 => h2 (mem_take_iff.2 ⟨j, by omega, hj, e2.symm⟩)⟩
  · exact h i hi (by omega)
theorem ord_of_has {o : List Int} {n : Nat} (hl : o.length = n) (h : HasOk o n o.length) : ordB o n = true := ordB_iff.2 ⟨hl, (order_iff hl).2 fun i hi => h i hi hi⟩
theorem has_of_ord {o : List Int} {n k : Nat} (h : ordB o n = true) (hk : k < o.length) : (0 ≤ o[k] ∧ o[k] < (n : Int)) ∧ o[k] ∉ o.take k := by
  obtain ⟨h1, h2⟩ := ordB_iff.1 h
  obtain ⟨h3, h4⟩ := (order_iff h1).1 h2 k hk
  refine ⟨h3, fun hm => ?_⟩
  obtain ⟨j, hj, hjk, e⟩ := mem_take_iff.1 hm
  exact h4 j hjk e.symm
set_option maxRecDepth 100000 in
set_option maxHeartbeats 1000000 in
theorem fhas_any (y : Ls) (n : Nat) (w : World) (hy : y.Ok w) (hn : n ≤ 8) :
    Calls Tryd.prog 17 #[.slice y.A y.n y.c, .int .i64 n] w fun e w' => e = .returned (.bool (ordB y.zs n)) ∧ Below w.heap.size w w' := by
  have ty := Nat.le_trans hy.cap hy.top
  have HL := Lib.hid hy.len
  unfold maxLen at ty
  obtain ⟨B, hB0⟩ : ∃ B, ordB y.zs n = B := ⟨_, rfl⟩
  have HB := Lib.hid hB0
  rw [hB0]
  clear hB0
  go_enter Tryd.func17, Tryd.ntmps17
  by_cases hyn : y.n = n
  rotate_left
  · have gn : ((y.n : Int) != (n : Int)) = true := by rw [bne_iff_ne]; omega
    have gn2 : (y.n != n) = true := by rw [bne_iff_ne]; exact hyn
    have HF : Hid (B = false) := Lib.hid (by rw [← HB.out, ordB, decide_eq_false (by rw [HL.out]; exact hyn)]; rfl)
    clear hyn
    go_wp2
    go_ret
    exact ⟨ret_bool HF.out.symm, Below.refl _ _⟩
  have gn : ((y.n : Int) != (n : Int)) = false := by rw [bne_eq_false_iff_eq]; omega
  have gn2 : (y.n != n) = false := by rw [bne_eq_false_iff_eq]; exact hyn
  have HYN := Lib.hid hyn
  have hy8 : y.n ≤ 8 := by omega
  clear hyn
  go_wp2_with fail
  have bS := SetAt.new w 64
  have bB : Below w.heap.size w (w.alloc (.cells #[.bool false, .bool false, .bool false, .bool false, .bool false, .bool false, .bool false, .bool false] 64)) := (Below.refl _ w).alloc (Nat.le_refl _) _
  obtain ⟨w1, hw1⟩ : ∃ q, q = w.alloc (.cells #[.bool false, .bool false, .bool false, .bool false, .bool false, .bool false, .bool false, .bool false] 64) := ⟨_, rfl⟩
  rw [← hw1] at bS bB
  try rw [← hw1]
  have HW1 := Lib.hid hw1
  clear hw1 gn gn2
  go_loopw [14] (fun v wr => ∃ k : Nat, k ≤ y.n ∧ v = .int .i64 k ∧ Hid (HasOk y.zs n k) ∧ SetAt wr w.heap.size 64 (fun i => decide ((i : Int) ∈ y.zs.take k)) ∧ Below w.heap.size w wr) (fun v _ => y.n - (intOf v).toNat)
  case atStart =>
    refine ⟨0, Nat.zero_le _, rfl, Lib.hid (fun i hi h => absurd h (by omega)), ?_, ?_⟩
    · simpa using bS
    · exact bB
  case round =>
    clear bS bB
    obtain ⟨k, hk, rfl, hok, bS, hB⟩ := hrel
    by_cases hkn : k < y.n
    · have hkn' : (k : Int) < y.n := by omega
      have hkl : k < y.zs.length := by rw [HL.out]; exact hkn
      obtain ⟨p1, q1, hA1, hp1, y0, hy0', hcy⟩ := (hy.below hB).rd.get hkn
      rw [ci64_get _ _ hkl] at hy0'
      obtain rfl : iV y.zs[k] = y0 := Option.some.inj hy0'
      unfold iV at hcy
      have HNO : Hid (B = true → (0 ≤ y.zs[k] ∧ y.zs[k] < (n : Int)) ∧ y.zs[k] ∉ y.zs.take k) := Lib.hid fun h => has_of_ord (by rw [HB.out]; exact h) hkl
      have HYES : Hid (0 ≤ y.zs[k] ∧ y.zs[k] < (n : Int) → y.zs[k] ∉ y.zs.take k → HasOk y.zs n (k + 1)) := Lib.hid fun h1 h2 => hasOk_succ hok.out hkl h1 h2
      have HTK : Hid (∀ z, z ∈ y.zs.take (k + 1) ↔ z ∈ y.zs.take k ∨ z = y.zs[k]) := Lib.hid fun z => by rw [List.take_succ_eq_append_getElem hkl, List.mem_append, List.mem_singleton]
      obtain ⟨z, hz⟩ : ∃ z, y.zs[k] = z := ⟨_, rfl⟩
      rw [hz] at hcy HNO HYES HTK
      rw [hA1]
      have HA1 := Lib.hid hA1
      clear hy0' hz hA1 hok
      by_cases z0 : z < 0
      · have g1 : decide (z < 0) = true := decide_eq_true z0
        have HF : Hid (B = false) := Lib.hid (by
          rw [Bool.eq_false_iff]; intro h; have := (HNO.out h).1; omega)
        clear z0
        go_wp2
        go_ret
        exact ⟨ret_bool HF.out.symm, hB⟩
      have g1 : decide (z < 0) = false := decide_eq_false z0
      by_cases z1 : (n : Int) ≤ z
      · have g2 : decide ((n : Int) ≤ z) = true := decide_eq_true z1
        have HF : Hid (B = false) := Lib.hid (by
          rw [Bool.eq_false_iff]; intro h; have := (HNO.out h).1; omega)
        clear z0 z1
        go_wp2
        go_ret
        exact ⟨ret_bool HF.out.symm, hB⟩
      have g2 : decide ((n : Int) ≤ z) = false := decide_eq_false z1
      obtain ⟨u, rfl⟩ : ∃ u : Nat, z = u := ⟨z.toNat, by omega⟩
      have hun : u < n := by omega
      have hu8 : u < 8 := by omega
      have hu8' : (u : Int) < 8 := by omega
      have hu0 : (0 : Int) ≤ u := by omega
      clear z0 z1
      have hcs := bS.cell hu8
      have hfr := bS.frozen u
      by_cases hm : (u : Int) ∈ y.zs.take k
      · rw [decide_eq_true hm] at hcs
        have HF : Hid (B = false) := Lib.hid (by
          rw [Bool.eq_false_iff]; intro h; exact (HNO.out h).2 hm)
        clear hm bS
        go_wp2
        go_ret
        exact ⟨ret_bool HF.out.symm, hB⟩
      · rw [decide_eq_false hm] at hcs
        have HN := Lib.hid (HYES.out ⟨by omega, by omega⟩ hm)
        have bS2 := bS.set (f' := fun i => decide ((i : Int) ∈ y.zs.take (k + 1))) (v := true) hu8 fun j hj => by
          by_cases e : j = u
          · subst e; rw [if_pos rfl, decide_eq_true ((HTK.out _).2 (.inr rfl))]
          · rw [if_neg e, decide_eq_decide, HTK.out]
            exact ⟨fun h => h.resolve_right (by omega), .inl⟩
        have hB2 := hB.setCell (p := ⟨w.heap.size, u, none⟩) (Nat.le_refl _) (.bool true)
        clear hm bS hB
        go_wp2
        go_roundw
        case rel => exact ⟨k + 1, by omega, by go_num, HN, bS2, hB2⟩
        case measure => simp [intOf]; omega
    · obtain rfl : k = y.n := by omega
      have HT : Hid (B = true) := Lib.hid (by
        rw [← HB.out]
        refine ord_of_has (by rw [HL.out]; exact HYN.out) ?_
        rw [HL.out]; exact hok.out)
      clear hok bS
      go_wp2
      go_ret
      exact ⟨ret_bool HT.out.symm, hB⟩

set_option maxRecDepth 100000 in
set_option maxHeartbeats 1000000 in
theorem fbehind_any (b : Nat) (F : Nat → Int) (p s : Nat) (w : World) (ht : TbAt w b F) (hp : p < 8) (hs : s < 256) :
    Calls Tryd.prog 20 #[.pointer (some ⟨b, 0, none⟩), .int .i64 p, .int .i64 s] w fun e w' => e = .returned (.int .i64 (F (p * 256 + s))) ∧ w' = w := by
  have hc := ht.cell (s := p * 256 + s) (by omega)
  have hp' : (p : Int) < 8 := by omega
  have hp0 : (0 : Int) ≤ p := by omega
  have hs' : (s : Int) < 256 := by omega
  have hs0 : (0 : Int) ≤ s := by omega
  obtain ⟨f, hf⟩ : ∃ f, F (p * 256 + s) = f := ⟨_, rfl⟩
  rw [hf] at hc ⊢
  clear hf ht
  go_enter Tryd.func20, Tryd.ntmps20
  go_wp2
  go_ret
  exact ⟨rfl, rfl⟩

set_option maxRecDepth 100000 in
set_option maxHeartbeats 1000000 in
theorem fmost_any (u : Ls) (b p : Nat) (F B g : Nat → Int) (s M : Nat) (w : World) (ht : TbAt w b F) (hu : u.Ok w) (hun : u.n = M) (hM : M ≤ 8) (hs : s < 2 ^ M) (hp : p < 8) (hg : ∀ (k : Nat) (hk : k < u.zs.length), u.zs[k] = g k ∧ -1000000 ≤ g k ∧ g k ≤ 1000000)
    (hF : ∀ s, s < 2 ^ M → F (p * 256 + s) = B s) (hB : ∀ s, s < 2 ^ M → 0 ≤ B s ∧ B s ≤ 8000000) :
    Calls Tryd.prog 57 #[.slice u.A u.n u.c, .int .i64 s, .pointer (some ⟨b, p * 256, none⟩)] w fun e w' => e = .returned (.int .i64 (moreF B g s M)) ∧ w' = w := by
  subst hun
  have HG := Lib.hid hg
  have HF := Lib.hid hF
  have HB := Lib.hid hB
  have tu := Nat.le_trans hu.cap hu.top
  have HL := Lib.hid hu.len
  unfold maxLen at tu
  have hP : 2 ^ u.n ≤ 256 := Nat.pow_le_pow_right (n := 2) (by omega) hM
  have HP : Hid (∀ k, k < u.n → s ^^^ 2 ^ k < 2 ^ u.n) := Lib.hid fun k hk => Nat.xor_lt_two_pow hs (Nat.pow_lt_pow_right (by omega) hk)
  have HS := Lib.hid hs
  have hs256 : s < 256 := by omega
  have hs' : (s : Int) < 256 := by omega
  have hs0 : (0 : Int) ≤ s := by omega
  have hc0 := ht.cell (s := p * 256 + s) (by omega)
  rw [hF s hs] at hc0
  have hb0 := hB s hs
  have HMB : Hid (∀ k, k ≤ u.n → 0 ≤ moreF B g s k ∧ moreF B g s k ≤ 9000000) := Lib.hid fun k hk => by
    have h1 := more_ge0 (F := B) (g := g) (s := s) (j := k)
    refine ⟨by omega, more_le (by omega) fun j hj hsj => ?_⟩
    have h2 := HB.out _ (HP.out j (by omega))
    have h3 := (HG.out j (by rw [HL.out]; omega)).2
    omega
  clear hg hF hB hP hs
  obtain ⟨b0, hb0'⟩ : ∃ q, B s = q := ⟨_, rfl⟩
  rw [hb0'] at hc0 hb0
  have HB0 := Lib.hid hb0'
  clear hb0'
  go_enter Tryd.func57, Tryd.ntmps57
  go_wp2_with fail
  go_loopw [7, 18] (fun mv v wr => ∃ (k : Nat) (a : Int), k ≤ u.n ∧ v = .int .i64 k ∧ mv = .int .i64 a ∧ Hid (a = moreF B g s k) ∧ wr = w) (fun _ v _ => u.n - (intOf v).toNat)
  case atStart => exact ⟨0, b0, Nat.zero_le _, rfl, rfl, Lib.hid HB0.out.symm, rfl⟩
  case round =>
    obtain ⟨k, a, hk, rfl, rfl, ha, hwr⟩ := hrel
    have hwr2 := hwr.symm
    subst hwr2
    by_cases hkn : k < u.n
    · have hkn' : (k : Int) < u.n := by omega
      have hk0 : (0 : Int) ≤ k := by omega
      have hkl : k < u.zs.length := by rw [HL.out]; exact hkn
      obtain ⟨p1, q1, hA1, hp1, y0, hy0', hcy⟩ := hu.rd.get hkn
      rw [ci64_get _ _ hkl] at hy0'
      obtain rfl : iV u.zs[k] = y0 := Option.some.inj hy0'
      unfold iV at hcy
      obtain ⟨g1, g2⟩ := HG.out k hkl
      rw [g1] at hcy
      have hk8 : k < 8 := by omega
      have hlh := wrap_pow k hk8
      have hband := and_not s k hs256 hk8
      rw [← hlh] at hband
      have hmo : moreF B g s (k + 1) = if s.testBit k = true then max (moreF B g s k) (B (s ^^^ 2 ^ k) + g k) else moreF B g s k := rfl
      have hxn : s.testBit k = true → s ^^^ 2 ^ k ≠ s := fun h e => by
        have h1 := congrArg (fun q => Nat.testBit q k) e
        simp only [Nat.testBit_xor, Nat.testBit_two_pow, h] at h1
        simp at h1
      have hx2 := HP.out k hkn
      have hba := HMB.out k hk
      rw [← ha.out] at hmo hba
      have HA := Lib.hid ha.out
      rw [hA1]
      have HA1 := Lib.hid hA1
      obtain ⟨z, hz⟩ : ∃ z, g k = z := ⟨_, rfl⟩
      rw [hz] at hcy hmo g2
      obtain ⟨δ, hδ⟩ : ∃ δ, s.testBit k = δ := ⟨_, rfl⟩
      rw [hδ] at hband hmo hxn
      clear hlh hy0' g1 hA1 hz hδ ha
      cases δ
      · simp only [Bool.false_eq_true, if_false] at hband hmo
        have HN : Hid (a = moreF B g s (k + 1)) := Lib.hid hmo.symm
        have gne : ((s : Int) != (s : Int)) = false := by simp
        clear hmo hxn hx2
        go_wp2
        go_roundw
        case rel => exact ⟨k + 1, a, by omega, by go_num, rfl, HN, trivial⟩
        case measure => simp [intOf]; omega
      · simp only [if_true] at hband hmo
        have hne := hxn rfl
        have hfo := HF.out _ hx2
        have hbo := HB.out _ hx2
        obtain ⟨o, ho⟩ : ∃ o, s ^^^ 2 ^ k = o := ⟨_, rfl⟩
        rw [ho] at hband hmo hne hfo hbo hx2
        have gne : ((o : Int) != (s : Int)) = true := by rw [bne_iff_ne]; omega
        have hP : 2 ^ u.n ≤ 256 := Nat.pow_le_pow_right (n := 2) (by omega) hM
        have ho256 : o < 256 := Nat.lt_of_lt_of_le hx2 hP
        have hco := ht.cell (s := p * 256 + o) (by omega)
        rw [hfo] at hco
        obtain ⟨f, hf⟩ : ∃ f, B o = f := ⟨_, rfl⟩
        rw [hf] at hco hbo hmo
        have HN : Hid (max a (z + f) = moreF B g s (k + 1)) := Lib.hid (by rw [hmo, Int.add_comm])
        have s1 : IntKind.i64.wrap (z + f) = z + f := by rw [IntKind.wrap_i64]; omega
        have ho0 : (0 : Int) ≤ o := by omega
        have ho256' : (o : Int) < 256 := by omega
        clear hmo hxn hne ho hf hfo hx2 hP
        go_wp2
        go_roundw
        case rel => exact ⟨k + 1, _, by omega, by go_num, rfl, HN, trivial⟩
        case measure => simp [intOf]; omega
    · obtain rfl : k = u.n := by omega
      go_wp2
      go_ret
      exact ⟨by rw [ha.out]; rfl, rfl⟩
end Go.Proofs.YtecgakfblhiiaaaDoor

namespace Go.Proofs.YtecgakfblhiiaaaDoor
open Go.RowKit
set_option linter.unusedVariables false

theorem who_at {o : List Int} {n p : Nat} (h : ordB o n = true) (hp : p < o.length) : ∃ w : Nat, o[p] = (w : Int) ∧ w < n ∧ (whoN o)[p]? = some w ∧ (whoN o).drop p = w :: (whoN o).drop (p + 1) := by
  have h1 := ord_in h _ (List.getElem_mem hp)
  have hp2 : p < (whoN o).length := by rw [whoN_len]; exact hp
  refine ⟨o[p].toNat, by omega, by omega, ?_, ?_⟩
  · rw [List.getElem?_eq_getElem hp2, whoN_get hp]
  · rw [List.drop_eq_getElem_cons hp2, whoN_get hp]
theorem drop_ord {o : List Int} {n p : Nat} (h : ordB o n = true) : ((whoN o).drop p).Nodup ∧ ∀ b ∈ (whoN o).drop p, b < n :=
  ⟨(ord_nodup h).sublist (List.drop_sublist _ _), fun b hb => ord_lt h b (List.mem_of_mem_drop hb)⟩
theorem row_gG {g : List (List Int)} {M b : Nat} {u : List Int} (h : mayW g M = true) (hb : b < g.length) (hg : g.getD b [] = u) : u.length = M ∧ ∀ (k : Nat) (hk : k < u.length), u[k] = gG g b k ∧ -1000000 ≤ gG g b k ∧ gG g b k ≤ 1000000 := by
  have h1 := (may_row h hb).1
  have h2 : g[b] = u := by rw [← hg, List.getD_eq_getElem?_getD, List.getElem?_eq_getElem hb]; rfl
  subst h2
  refine ⟨h1, fun k hk => ⟨?_, gG_bound h b k⟩⟩
  rw [gG, hg, List.getD_eq_getElem?_getD, List.getElem?_eq_getElem hk]; rfl
set_option maxRecDepth 100000 in
set_option maxHeartbeats 1000000 in
theorem fleast_any (u : Ls) (b p : Nat) (F B g : Nat → Int) (a : Int) (s M : Nat) (w : World) (ht : TbAt w b F) (hu : u.Ok w) (hun : u.n = M) (hM : M ≤ 8) (hs : s < 2 ^ M) (hp : p < 8) (hg : ∀ (k : Nat) (hk : k < u.zs.length), u.zs[k] = g k ∧ -1000000 ≤ g k ∧ g k ≤ 1000000)
    (hF : ∀ s, s < 2 ^ M → F (p * 256 + s) = B s) (hB : ∀ s, s < 2 ^ M → 0 ≤ B s ∧ B s ≤ 8000000) (ha : 0 ≤ a ∧ a ≤ 8000000) :
    Calls Tryd.prog 58 #[.slice u.A u.n u.c, .int .i64 a, .int .i64 s, .int .i64 p, .func (.func 20) #[.pointer (some ⟨b, 0, none⟩)] #[]] w fun e w' => e = .returned (.int .i64 (optI (leastF g B a s M))) ∧ w' = w := by
  subst hun
  have HG := Lib.hid hg
  have HF := Lib.hid hF
  have HB := Lib.hid hB
  have tu := Nat.le_trans hu.cap hu.top
  have HL := Lib.hid hu.len
  unfold maxLen at tu
  have hP : 2 ^ u.n ≤ 256 := Nat.pow_le_pow_right (n := 2) (by omega) hM
  have HP : Hid (∀ k, k < u.n → s ^^^ 2 ^ k < 2 ^ u.n) := Lib.hid fun k hk => Nat.xor_lt_two_pow hs (Nat.pow_lt_pow_right (by omega) hk)
  have hs256 : s < 256 := by omega
  obtain ⟨q, hq⟩ : ∃ q, leastF g B a s u.n = q := ⟨_, rfl⟩
  have HQ := Lib.hid hq
  rw [hq]
  clear hg hF hB hP hs hq
  go_enter Tryd.func58, Tryd.ntmps58
  go_wp2_with fail
  go_loopw [16] (fun v wr => ∃ k : Nat, k ≤ u.n ∧ v = .int .i64 k ∧ Hid (∀ j, j < k → (s.testBit j && decide (g j + B (s ^^^ 2 ^ j) = a)) = false) ∧ wr = w) (fun v _ => u.n - (intOf v).toNat)
  case atStart => exact ⟨0, Nat.zero_le _, rfl, Lib.hid (fun j hj => absurd hj (by omega)), rfl⟩
  case round =>
    obtain ⟨k, hk, rfl, hno, hwr⟩ := hrel
    have hwr2 := hwr.symm
    subst hwr2
    by_cases hkn : k < u.n
    · have hkn' : (k : Int) < u.n := by omega
      have hk0 : (0 : Int) ≤ k := by omega
      have hkl : k < u.zs.length := by rw [HL.out]; exact hkn
      obtain ⟨p1, q1, hA1, hp1, y0, hy0', hcy⟩ := hu.rd.get hkn
      rw [ci64_get _ _ hkl] at hy0'
      obtain rfl : iV u.zs[k] = y0 := Option.some.inj hy0'
      unfold iV at hcy
      obtain ⟨g1, g2⟩ := HG.out k hkl
      rw [g1] at hcy
      have hk8 : k < 8 := by omega
      have hlh := wrap_pow k hk8
      have hband := and_not s k hs256 hk8
      rw [← hlh] at hband
      have hxn : s.testBit k = true → s ^^^ 2 ^ k ≠ s := fun h e => by
        have h1 := congrArg (fun q => Nat.testBit q k) e
        simp only [Nat.testBit_xor, Nat.testBit_two_pow, h] at h1
        simp at h1
      have hx2 := HP.out k hkn
      have HN1 : Hid ((s.testBit k && decide (g k + B (s ^^^ 2 ^ k) = a)) = false → ∀ j, j < k + 1 → (s.testBit j && decide (g j + B (s ^^^ 2 ^ j) = a)) = false) := Lib.hid fun h j hj => by
        by_cases e : j = k
        · rw [e]; exact h
        · exact hno.out j (by omega)
      have HN2 : Hid ((s.testBit k && decide (g k + B (s ^^^ 2 ^ k) = a)) = true → q = some k) := Lib.hid fun h => by
        rw [← HQ.out]
        exact find_range.2 ⟨hkn, h, hno.out⟩
      rw [hA1]
      have HA1 := Lib.hid hA1
      obtain ⟨z, hz⟩ : ∃ z, g k = z := ⟨_, rfl⟩
      rw [hz] at hcy g2 HN1 HN2
      obtain ⟨δ, hδ⟩ : ∃ δ, s.testBit k = δ := ⟨_, rfl⟩
      rw [hδ] at hband hxn HN1 HN2
      clear hlh hy0' g1 hA1 hz hδ hno
      cases δ
      · simp only [Bool.false_eq_true, if_false] at hband
        have HN : Hid (∀ j, j < k + 1 → (s.testBit j && decide (g j + B (s ^^^ 2 ^ j) = a)) = false) := Lib.hid (HN1.out rfl)
        have gne : ((s : Int) != (s : Int)) = false := by simp
        clear hxn hx2
        go_wp2
        go_roundw
        case rel => exact ⟨k + 1, by omega, by go_num, HN, trivial⟩
        case measure => simp [intOf]; omega
      · simp only [if_true] at hband
        have hne := hxn rfl
        have hfo := HF.out _ hx2
        have hbo := HB.out _ hx2
        obtain ⟨o, ho⟩ : ∃ o, s ^^^ 2 ^ k = o := ⟨_, rfl⟩
        rw [ho] at hband hne hfo hbo hx2 HN1 HN2
        have gne : ((o : Int) != (s : Int)) = true := by rw [bne_iff_ne]; omega
        have hP : 2 ^ u.n ≤ 256 := Nat.pow_le_pow_right (n := 2) (by omega) hM
        have hct := fbehind_any b F p o w ht hp (Nat.lt_of_lt_of_le hx2 hP)
        rw [hfo] at hct
        obtain ⟨f, hf⟩ : ∃ f, B o = f := ⟨_, rfl⟩
        rw [hf] at hct hbo HN1 HN2
        have s1 : IntKind.i64.wrap (z + f) = z + f := by rw [IntKind.wrap_i64]; omega
        clear hxn hne ho hf hfo hx2 hP
        by_cases he : z + f = a
        · have g3 : ((z + f) == a) = true := by rw [beq_iff_eq]; exact he
          have HR : Hid (q = some k) := Lib.hid (HN2.out (by rw [decide_eq_true he]; rfl))
          clear he HN1 HN2
          go_wp2_with fail
          refine hct.mono ?_
          rintro e w2 ⟨rfl, rfl⟩
          clear hct
          go_wp2
          go_ret
          exact ⟨by rw [HR.out]; rfl, rfl⟩
        · have g3 : ((z + f) == a) = false := by rw [beq_eq_false_iff_ne]; exact he
          have HN := Lib.hid (HN1.out (by rw [decide_eq_false he]; rfl))
          clear he HN1 HN2
          go_wp2_with fail
          refine hct.mono ?_
          rintro e w2 ⟨rfl, rfl⟩
          clear hct
          go_wp2
          go_roundw
          case rel => exact ⟨k + 1, by omega, by go_num, HN, trivial⟩
          case measure => simp [intOf]; omega
    · obtain rfl : k = u.n := by omega
      have HR : Hid (q = none) := Lib.hid (by rw [← HQ.out]; exact find_range_none.2 hno.out)
      clear hno
      go_wp2
      go_ret
      exact ⟨by rw [HR.out]; rfl, rfl⟩

/-- What the table says of places from one on. -/
def TbSays (g : List (List Int)) (M : Nat) (o : List Int) (F : Nat → Int) (P : Nat) : Prop := ∀ q s, P ≤ q → q < o.length → s < 2 ^ M → F (q * 256 + s) = hadO (gG g) M ((whoN o).drop (q + 1)) s
set_option maxRecDepth 100000 in
set_option maxHeartbeats 1000000 in
theorem ftable_any (x : Gr) (M : Nat) (y : Ls) (w : World) (hx : x.Ok w) (hy : y.Ok w) (hmay : mayF x.g M y.zs = true) :
    Calls Tryd.prog 18 #[x.v, y.v, .int .i64 ((2 ^ M - 1 : Nat) : Int)] w fun e w' => e = .returned (.pointer (some ⟨w.heap.size, 0, none⟩)) ∧ (∃ F, TbAt w' w.heap.size F ∧ TbSays x.g M y.zs F 0) ∧ Below w.heap.size w w' := by
  obtain ⟨hm1, hord⟩ := mayF_iff.1 hmay
  have HMAY := Lib.hid hm1
  have HORD := Lib.hid hord
  obtain ⟨c1, hM8, c3⟩ := may_m hm1
  have HGL := Lib.hid hx.glen
  have HYL := Lib.hid hy.len
  have hyl : y.n = x.n := by have := (ordB_iff.1 hord).1; rw [hy.len, hx.glen] at this; exact this
  have hn8 : x.n ≤ 8 := by rw [hx.glen] at c3; exact c3
  have hy8 : y.n ≤ 8 := by omega
  have HYX := Lib.hid hyl
  have hM1 : 1 ≤ M := c1
  obtain ⟨N, hN⟩ : ∃ N, 2 ^ M = N := ⟨_, rfl⟩
  have hN256 : N ≤ 256 := by rw [← hN]; exact Nat.pow_le_pow_right (n := 2) (by omega) hM8
  have hN1 : 1 ≤ N := by rw [← hN]; exact Nat.one_le_two_pow
  have hwN : IntKind.i64.wrap (((N - 1 : Nat) : Int) + 1) = N := by rw [IntKind.wrap_i64]; omega
  have HN := Lib.hid hN
  rw [hN]
  have HB : Hid (∀ q s, 0 ≤ hadO (gG x.g) M ((whoN y.zs).drop q) s ∧ hadO (gG x.g) M ((whoN y.zs).drop q) s ≤ 8000000) := Lib.hid fun q s => by
    obtain ⟨h1, h2⟩ := drop_ord (p := q) hord
    exact hadO_bound hm1 h1 h2 s
  clear hm1 hord hmay c1 c3 hN hyl
  have hv : x.v = .slice x.A x.n x.c := rfl
  have hv2 : y.v = .slice y.A y.n y.c := rfl
  rw [hv, hv2]
  clear hv hv2
  have s0 : IntKind.i64.wrap ((y.n : Int) - 1) = (y.n : Int) - 1 := by rw [IntKind.wrap_i64]; omega
  go_enter Tryd.func18, Tryd.ntmps18
  go_wp2_with (refine wpList_newTb rfl rfl ?_)
  intro w1 t1 hb1
  have t1l := t1.lt
  obtain ⟨b, hb⟩ : ∃ b, b = w.heap.size := ⟨_, rfl⟩
  rw [← hb] at t1 t1l ⊢
  have hwb : w.heap.size ≤ b := Nat.le_of_eq hb.symm
  have HT1 : Hid (TbSays x.g M y.zs (fun _ => 0) (y.n - 1)) := Lib.hid fun q s h1 h2 h3 => by
    rw [HYL.out] at h2
    rw [List.drop_eq_nil_of_le (by rw [whoN_len, HYL.out]; omega)]; rfl
  have HBB := Lib.hid hb
  clear hb
  go_wp2_with fail
  go_loopw [8] (fun v wr => ∃ (P : Int) (F : Nat → Int), -1 ≤ P ∧ P < y.n ∧ v = .int .i64 P ∧ TbAt wr b F ∧ Hid (TbSays x.g M y.zs F P.toNat) ∧ Below w.heap.size w wr) (fun v _ => (intOf v).toNat)
  case atStart => exact ⟨(y.n : Int) - 1, _, by omega, by omega, rfl, t1, Lib.hid (by rw [show ((y.n : Int) - 1).toNat = y.n - 1 by omega]; exact HT1.out), hb1⟩
  case round =>
    clear t1 t1l hb1
    obtain ⟨P, F, hP1, hP2, rfl, t, hsay, hB⟩ := hrel
    by_cases hP0 : 0 < P
    · obtain ⟨Q, rfl⟩ : ∃ Q : Nat, P = ((Q + 1 : Nat) : Int) := ⟨P.toNat - 1, by omega⟩
      have hQ : Q + 1 < y.n := by omega
      have hg0 : decide (0 < ((Q + 1 : Nat) : Int)) = true := decide_eq_true hP0
      have HSAY : Hid (TbSays x.g M y.zs F (Q + 1)) := Lib.hid (by have := hsay.out; rwa [Int.toNat_natCast] at this)
      have hsQ : IntKind.i64.wrap (((Q + 1 : Nat) : Int) - 1) = (Q : Int) := by rw [IntKind.wrap_i64]; omega
      obtain ⟨Z, hZ⟩ : ∃ Z : Nat, Z = Q + 1 := ⟨_, rfl⟩
      rw [← hZ] at hg0 HSAY hsQ hQ hP0 ⊢
      have HZ := Lib.hid hZ
      have hg0' : decide (0 < Z) = true := decide_eq_true (by omega)
      have hZ8 : Z < 8 := by omega
      have hQ8 : Q < 8 := by omega
      obtain ⟨wo, rfl⟩ : ∃ wo, wo = wr := ⟨_, rfl⟩
      clear hP1 hP2 hsay hZ hP0
      go_wp2_with fail
      go_loopw [20] (fun v wr => ∃ (s : Nat) (F : Nat → Int), s ≤ N ∧ v = .int .i64 s ∧ TbAt wr b F ∧ Hid (TbSays x.g M y.zs F Z ∧ ∀ t, t < s → F (Q * 256 + t) = hadO (gG x.g) M ((whoN y.zs).drop Z) t) ∧ Below w.heap.size w wr) (fun v _ => N - (intOf v).toNat)
      case atStart => exact ⟨0, F, Nat.zero_le _, rfl, t, Lib.hid ⟨HSAY.out, fun t ht => absurd ht (by omega)⟩, hB⟩
      case round =>
        clear t HSAY hB
        obtain ⟨s, F, hs, rfl, t, hsay, hB⟩ := hrel
        by_cases hsN : s < N
        · have hsN' : (s : Int) < N := by omega
          have hs0 : (0 : Int) ≤ s := by omega
          have hs256 : (s : Int) < 256 := by omega
          have hs2 : s < 256 := by omega
          have hZl : Z < y.zs.length := by rw [HYL.out]; exact hQ
          obtain ⟨p1, q1, hA1, hp1, y0, hy0', hcy0⟩ := hy.rd.get hQ
          rw [ci64_get _ _ hZl] at hy0'
          obtain rfl : iV y.zs[Z] = y0 := Option.some.inj hy0'
          unfold iV at hcy0
          obtain ⟨v, hv1, hv2, hv3, hv4⟩ := who_at HORD.out hZl
          rw [hv1] at hcy0
          have hvx : v < x.n := by rw [← HGL.out]; exact hv2
          obtain ⟨p2, q2, u, hAx, hut, hgy, hp2, hcx0, hku0⟩ := hx.get hvx
          replace hcx0 : w.cell? ⟨p2, q2 + v, none⟩ = some (.slice u.A u.n u.c) := hcx0
          obtain ⟨r1, r2⟩ := row_gG HMAY.out hv2 hgy
          have hun : u.n = M := by have := hku0.len; omega
          have HSY := Lib.hid hsay.out.1
          have HSY2 := Lib.hid hsay.out.2
          have hone := fmost_any u b Z F (hadO (gG x.g) M ((whoN y.zs).drop (Z + 1))) (gG x.g v) s M wr.drew (by exact t) (hku0.below (hB.drew)) hun hM8 (by rw [HN.out]; exact hsN) hZ8 r2 (fun s hs => HSY.out Z s (Nat.le_refl _) hZl hs) (fun s _ => HB.out _ s)
          have hval : hadO (gG x.g) M ((whoN y.zs).drop Z) s = moreF (hadO (gG x.g) M ((whoN y.zs).drop (Z + 1))) (gG x.g v) s M := by rw [hv4]; rfl
          have hzb := HB.out Z s
          rw [← hval] at hone
          have HVAL : Hid (∀ z, hadO (gG x.g) M ((whoN y.zs).drop Z) s = z → TbSays x.g M y.zs (fun t => if t = Q * 256 + s then z else F t) Z ∧ ∀ t, t < s + 1 → (fun t => if t = Q * 256 + s then z else F t) (Q * 256 + t) = hadO (gG x.g) M ((whoN y.zs).drop Z) t) := Lib.hid fun z hz => by
            have hZQ := HZ.out
            refine ⟨fun q s2 h1 h2 h3 => ?_, fun t ht => ?_⟩
            · rw [HN.out] at h3
              show (if q * 256 + s2 = Q * 256 + s then z else F (q * 256 + s2)) = _
              rw [if_neg (by omega)]
              exact HSY.out q s2 h1 h2 (by rw [HN.out]; exact h3)
            · show (if Q * 256 + t = Q * 256 + s then z else F (Q * 256 + t)) = _
              by_cases e : t = s
              · rw [e, if_pos rfl, hz]
              · rw [if_neg (by omega)]; exact HSY2.out t (by omega)
          obtain ⟨z, hz⟩ : ∃ z, hadO (gG x.g) M ((whoN y.zs).drop Z) s = z := ⟨_, rfl⟩
          rw [hz] at hone hzb
          have HNEW := Lib.hid (HVAL.out z hz)
          have hcy := fun w' (h : Below w.heap.size w w') => (h.cell (p := ⟨p1, q1 + Z, none⟩) hp1).trans hcy0
          have hcx := fun w' (h : Below w.heap.size w w') => (h.cell (p := ⟨p2, q2 + v, none⟩) hp2).trans hcx0
          have hS : ∀ w', Below w.heap.size w w' → w'.cell? ⟨p1, q1 + Z, none⟩ = some (.int .i64 (v : Int)) ∧ w'.cell? ⟨p2, q2 + v, none⟩ = some (.slice u.A u.n u.c) := fun w' h => ⟨hcy w' h, hcx w' h⟩
          have hcell := t.cell (s := Q * 256 + s) (by omega)
          have hfree := t.free (s := Q * 256 + s)
          obtain ⟨fo, hfo⟩ : ∃ q, F (Q * 256 + s) = q := ⟨_, rfl⟩
          rw [hfo] at hcell
          have t2 := (show TbAt (wr.setCell ⟨b, Q * 256 + s, none⟩ (.int .i64 z)).drew b _ from t.set (s := Q * 256 + s) (z := z))
          have hB2 := (hB.setCell (p := ⟨b, Q * 256 + s, none⟩) hwb (.int .i64 z)).drew
          have hS2 := hS _ hB2
          have hS1 := hS _ hB.drew
          have hQ' : (Q : Int) < 8 := by omega
          have hQ0 : (0 : Int) ≤ Q := by omega
          have hZ' : (Z : Int) < 8 := by omega
          have hZ0 : (0 : Int) ≤ Z := by omega
          have hZn : (Z : Int) < y.n := by omega
          have hvx' : (v : Int) < x.n := by omega
          have hv0 : (0 : Int) ≤ v := by omega
          rw [hA1, hAx]
          have HA := Lib.hid hA1
          have HAX := Lib.hid hAx
          clear hy0' hcy0 hcx0 hku0 hgy hv1 hv2 hv3 hv4 hA1 hAx r1 r2 hval hz hcy hcx hS HVAL hfo hsay HSY HSY2 hut t hB hun
          go_wp2_with fail
          refine wp_region_ord (S := fun w' => w'.cell? ⟨p1, q1 + Z, none⟩ = some (.int .i64 (v : Int)) ∧ w'.cell? ⟨p2, q2 + v, none⟩ = some (.slice u.A u.n u.c)) [(0, true), (1, true), (2, true), (3, true), (4, true), (5, true), (6, true), (7, true), (8, true), (9, true), (10, true), (11, true), (12, true), (13, true), (14, true), (15, true), (17, true), (18, true), (16, false), (19, true), (20, false)] default (by kernel_rfl) (by kernel_rfl) (by kernel_rfl) hS1 ?_
          simp only [getOrd, nth]
          repeat (first | (refine ordS (by rfl) ?_; simp only [Act.put, List.setIfInBounds_toArray, List.set_cons_zero, List.set_cons_succ]) | (refine ordN (by rfl) ?_; simp only [Act.put, List.setIfInBounds_toArray, List.set_cons_zero, List.set_cons_succ]) | (refine ordQ (v := ?_) (by rfl) (fun _ hSw => ?_) ?_; rotate_left; (focus ((have hS1 := hSw.1); (have hS2 := hSw.2); clear hSw; go_simp; (first | done | with_reducible rfl))); simp only [Act.put, List.setIfInBounds_toArray, List.set_cons_zero, List.set_cons_succ]))
          refine ordD (by rfl) ?_
          intro K hK
          go_simp
          refine hone.mono ?_
          rintro e w6 ⟨rfl, rfl⟩
          clear hone
          go_wp2_with fail
          refine hK _ _ hS1 ?_
          clear hK K
          try simp only [Act.put, List.setIfInBounds_toArray, List.set_cons_zero, List.set_cons_succ]
          repeat (first | (refine ordS (by rfl) ?_; simp only [Act.put, List.setIfInBounds_toArray, List.set_cons_zero, List.set_cons_succ]) | (refine ordN (by rfl) ?_; simp only [Act.put, List.setIfInBounds_toArray, List.set_cons_zero, List.set_cons_succ]) | (refine ordQ (v := ?_) (by rfl) (fun _ hSw => ?_) ?_; rotate_left; (focus ((have hS1 := hSw.1); (have hS2 := hSw.2); clear hSw; go_simp; (first | done | with_reducible rfl))); simp only [Act.put, List.setIfInBounds_toArray, List.set_cons_zero, List.set_cons_succ]))
          refine ordD (by rfl) ?_
          intro K hK
          go_simp
          refine hK _ _ hS2 ?_
          clear hK K
          refine ordE ?_
          clear hS1 hS2 hcell hfree
          go_wp2
          go_roundw
          case rel => exact ⟨s + 1, _, by omega, by go_num, t2, HNEW, hB2⟩
          case measure => simp [intOf]; omega
        · obtain rfl : s = N := by omega
          have HS2 : Hid (TbSays x.g M y.zs F Q) := Lib.hid fun q s2 h1 h2 h3 => by
            by_cases e : q = Q
            · subst e
              rw [HN.out] at h3
              rw [← HZ.out]; exact hsay.out.2 s2 h3
            · have hZQ := HZ.out
              exact hsay.out.1 q s2 (by omega) h2 h3
          clear hsay
          go_wp2
          go_roundw
          case rel => exact ⟨(Q : Int), F, by omega, by have := HZ.out; omega, by go_num, t, Lib.hid (by rw [Int.toNat_natCast]; exact HS2.out), hB⟩
          case measure => have := HZ.out; simp [intOf]; omega
    · have hg0 : decide (0 < P) = false := decide_eq_false hP0
      have HS2 : Hid (TbSays x.g M y.zs F 0) := Lib.hid (by have := hsay.out; rwa [show P.toNat = 0 by omega] at this)
      clear hsay
      go_wp2
      go_ret
      rw [HBB.out] at t
      exact ⟨by rw [HBB.out]; rfl, ⟨F, t, HS2.out⟩, hB⟩
end Go.Proofs.YtecgakfblhiiaaaDoor

namespace Go.Proofs.YtecgakfblhiiaaaDoor
open Go.RowKit
set_option linter.unusedVariables false

theorem all_pow (M : Nat) (h : M ≤ 8) : wrap64 (wrap64 (2 ^ M) - 1) = ((2 ^ M - 1 : Nat) : Int) := by
  have h1 : (2 : Int) ^ M = ((2 ^ M : Nat) : Int) := by simp
  have h2 : 2 ^ M ≤ 2 ^ 8 := Nat.pow_le_pow_right (by omega) h
  have h3 := Nat.one_le_two_pow (n := M)
  rw [h1]
  generalize 2 ^ M = P at *
  unfold wrap64
  omega
set_option maxRecDepth 100000 in
set_option maxHeartbeats 1000000 in
theorem fhand_any (x : Gr) (M : Nat) (y : Ls) (b : Nat) (F : Nat → Int) (w : World) (hx : x.Ok w) (hy : y.Ok w) (hmay : mayF x.g M y.zs = true) (ht : TbAt w b F) (hsay : TbSays x.g M y.zs F 0) :
    Calls Tryd.prog 19 #[x.v, y.v, .int .i64 (bestV (gG x.g) M x.g.length), .int .i64 ((2 ^ M - 1 : Nat) : Int), .func (.func 20) #[.pointer (some ⟨b, 0, none⟩)] #[]] w fun e w' => ∃ A n c, e = .returned (.slice A n c) ∧ OwnI w' w.heap.size ⟨A, n, c, firstE x.g M y.zs⟩ ∧ Below w.heap.size w w' := by
  obtain ⟨i0, hi0, hz0, hz1, hz2⟩ := info_parts infoWe_int
  obtain ⟨hm1, hord⟩ := mayF_iff.1 hmay
  have HMAYF := Lib.hid hmay
  have HMAY := Lib.hid hm1
  have HORD := Lib.hid hord
  have HSAY := Lib.hid hsay
  obtain ⟨c1, hM8, c3⟩ := may_m hm1
  have HGL := Lib.hid hx.glen
  have HYL := Lib.hid hy.len
  have hyl : y.n = x.n := by have := (ordB_iff.1 hord).1; rw [hy.len, hx.glen] at this; exact this
  have hn8 : x.n ≤ 8 := by rw [hx.glen] at c3; exact c3
  have hy8 : y.n ≤ 8 := by omega
  have HYX := Lib.hid hyl
  have hP256 : 2 ^ M ≤ 256 := Nat.pow_le_pow_right (n := 2) (by omega) hM8
  have HP256 := Lib.hid hP256
  have HB : Hid (∀ q s, 0 ≤ hadO (gG x.g) M ((whoN y.zs).drop q) s ∧ hadO (gG x.g) M ((whoN y.zs).drop q) s ≤ 8000000) := Lib.hid fun q s => by
    obtain ⟨h1, h2⟩ := drop_ord (p := q) hord
    exact hadO_bound hm1 h1 h2 s
  have HST0 := Lib.hid (stp_start hmay)
  obtain ⟨a0, ha0⟩ : ∃ q, bestV (gG x.g) M x.g.length = q := ⟨_, rfl⟩
  obtain ⟨s0, hs0⟩ : ∃ q, 2 ^ M - 1 = q := ⟨_, rfl⟩
  obtain ⟨FL, hFL⟩ : ∃ q, firstE x.g M y.zs = q := ⟨_, rfl⟩
  rw [ha0, hs0] at HST0
  rw [ha0, hs0, hFL]
  have HFL := Lib.hid hFL
  clear hm1 hord hmay c1 c3 hyl hP256 ha0 hs0 hsay hFL
  have hv : x.v = .slice x.A x.n x.c := rfl
  have hv2 : y.v = .slice y.A y.n y.c := rfl
  rw [hv, hv2]
  clear hv hv2
  go_enter Tryd.func19, Tryd.ntmps19
  go_wp2_with (at_make; go_must (refine wpList_mk _ rfl _ _ 25 rfl w.heap.size 3 i0 _ Tryd.underlying25 hi0 hz0 hz1 rfl .i64 .i64 _ _ x.n rfl rfl rfl rfl ?mk2 ?mk3 ?mk4 ?_))
  case mk2 => rw [hz2]; omega
  case mk3 => simp only [maxLen]; omega
  case mk4 => exact Nat.le_refl _
  intro w1 ho1 hb1
  have hO1 : OwnI w1 w.heap.size ⟨some ⟨w.heap.size, 0, none⟩, x.n, x.n, List.replicate x.g.length 0⟩ := by
    refine ⟨?_, fun z hz => ?_⟩
    · show Own w1 w.heap.size _ _ x.n x.n (ci64 _)
      rw [HGL.out]
      have e : ci64 (List.replicate x.n 0) = List.replicate x.n (.int .i64 0) := by simp [ci64, iV]
      rw [e]; exact ho1
    · rw [(List.mem_replicate.1 hz).2]; omega
  clear ho1
  go_wp2_with fail
  go_loopw [2, 3, 21] (fun av sv v wr => ∃ (p s : Nat) (a : Int) (H : List Int), p ≤ y.n ∧ v = .int .i64 p ∧ av = .int .i64 a ∧ sv = .int .i64 s ∧ Hid (StP x.g M y.zs p s H a) ∧ OwnI wr w.heap.size ⟨some ⟨w.heap.size, 0, none⟩, x.n, x.n, H⟩ ∧ Below w.heap.size w wr) (fun _ _ v _ => y.n - (intOf v).toNat)
  case atStart => exact ⟨0, s0, a0, _, Nat.zero_le _, rfl, rfl, rfl, HST0, hO1, hb1⟩
  case round =>
    clear hO1 hb1
    obtain ⟨p, s, a, H, hp, rfl, rfl, rfl, hst, hO, hB⟩ := hrel
    by_cases hpn : p < y.n
    · have hpn' : (p : Int) < y.n := by omega
      have hp0 : (0 : Int) ≤ p := by omega
      have hpl : p < y.zs.length := by rw [HYL.out]; exact hpn
      obtain ⟨p1, q1, hA1, hp1, y0, hy0', hcy0⟩ := hy.rd.get hpn
      rw [ci64_get _ _ hpl] at hy0'
      obtain rfl : iV y.zs[p] = y0 := Option.some.inj hy0'
      unfold iV at hcy0
      obtain ⟨v, hv1, hv2, hv3, hv4⟩ := who_at HORD.out hpl
      rw [hv1] at hcy0
      have hvx : v < x.n := by rw [← HGL.out]; exact hv2
      have hvx' : (v : Int) < x.n := by omega
      have hv0 : (0 : Int) ≤ v := by omega
      obtain ⟨p2, q2, u, hAx, hut, hgy, hp2, hcx0, hku0⟩ := hx.get hvx
      replace hcx0 : w.cell? ⟨p2, q2 + v, none⟩ = some (.slice u.A u.n u.c) := hcx0
      obtain ⟨r1, r2⟩ := row_gG HMAY.out hv2 hgy
      have hun : u.n = M := by have := hku0.len; omega
      have HV3 := Lib.hid hv3
      have hcy := (hB.cell (p := ⟨p1, q1 + p, none⟩) hp1).trans hcy0
      have hcx := (hB.cell (p := ⟨p2, q2 + v, none⟩) hp2).trans hcx0
      have ha := hst.out.a_
      have hab : 0 ≤ a ∧ a ≤ 8000000 := by rw [ha]; exact HB.out _ _
      have hs2 := hst.out.s_
      have hs256 : s < 256 := Nat.lt_of_lt_of_le hs2 HP256.out
      have hct := fleast_any u b p F (hadO (gG x.g) M ((whoN y.zs).drop (p + 1))) (gG x.g v) a s M wr (ht.below hB) (hku0.below hB) hun hM8 hs2 (by omega) r2 (fun s hs => HSAY.out p s (Nat.zero_le _) hpl hs) (fun s _ => HB.out _ s) hab
      obtain ⟨q, hq⟩ : ∃ q, leastF (gG x.g v) (hadO (gG x.g) M ((whoN y.zs).drop (p + 1))) a s M = q := ⟨_, rfl⟩
      have hst2 := stp_step HORD.out hst.out hM8 hv3 q hq
      rw [hq] at hct
      have HQ := Lib.hid hq
      have HST2 := Lib.hid hst2
      have HUN := Lib.hid hun
      have HR2 := Lib.hid r2
      have HU := Lib.hid hku0
      rw [hA1, hAx]
      have HA := Lib.hid hA1
      have HAX := Lib.hid hAx
      clear hy0' hcy0 hcx0 hku0 hgy hv1 hv2 hv3 hv4 hA1 hAx r1 r2 hq hst2 hun hut ha hst hs2
      go_wp2_with fail
      refine hct.mono ?_
      rintro e w2 ⟨rfl, hw2⟩
      replace hw2 := hw2.symm
      subst hw2
      clear hct
      have hfr := hO.own.free (show 0 < x.n by omega) v
      obtain ⟨vo, hvo⟩ : ∃ q, wr.cell? ⟨w.heap.size, v, none⟩ = some q := by
        have := hO.own.cell (j := v) hvx
        exact ⟨_, this.trans (List.getElem?_eq_getElem (by have h5 : (ci64 H).length = x.n := hO.own.len; rw [h5]; exact hvx))⟩
      have hO2 := hO.putW (k := v) (z := optI q) (show 0 < x.n by omega) (by
        cases q with
        | none => simp only [optI]; omega
        | some k => have := (least_some HQ.out).1; simp only [optI]; omega)
      have hB2 := hB.setCell (p := ⟨w.heap.size, v, none⟩) (Nat.le_refl _) (.int .i64 (optI q))
      cases q with
      | none =>
        rw [show optI none = -1 from rfl] at hO2 hB2 HST2 ⊢
        clear hO hB hab
        go_wp2
        go_roundw
        case rel => exact ⟨p + 1, s, a, _, by omega, by go_num, rfl, rfl, HST2, hO2, hB2⟩
        case measure => simp [intOf]; omega
      | some k =>
        rw [show optI (some k) = (k : Int) from rfl] at hO2 hB2 HST2 ⊢
        obtain ⟨k1, k2, k3⟩ := least_some HQ.out
        have hkl : k < u.zs.length := by have h1 := HU.out.len; have h2 := HUN.out; omega
        obtain ⟨p4, q4, hA4, hp4, t0, ht0, hct0⟩ := HU.out.rd.get (show k < u.n by have h2 := HUN.out; omega)
        rw [ci64_get _ _ hkl] at ht0
        obtain rfl : iV u.zs[k] = t0 := Option.some.inj ht0
        unfold iV at hct0
        obtain ⟨g1, g2⟩ := HR2.out k hkl
        rw [g1] at hct0
        have hct := (hB2.cell (p := ⟨p4, q4 + k, none⟩) hp4).trans hct0
        have hk8 : k < 8 := by omega
        have hlh := wrap_pow k hk8
        have hband := and_not s k hs256 hk8
        rw [← hlh, k2, if_pos rfl] at hband
        have hkn' : (k : Int) < u.n := by have h2 := HUN.out; omega
        have hk0 : (0 : Int) ≤ k := by omega
        have gk : ((k : Int) != -1) = true := by rw [bne_iff_ne]; omega
        have HST3 : Hid (StP x.g M y.zs (p + 1) (s ^^^ 2 ^ k) (H.set v (k : Int)) (a - gG x.g v k)) := Lib.hid HST2.out
        obtain ⟨z, hz⟩ : ∃ q, gG x.g v k = q := ⟨_, rfl⟩
        rw [hz] at hct HST3 g2
        obtain ⟨o, ho⟩ : ∃ q, s ^^^ 2 ^ k = q := ⟨_, rfl⟩
        rw [ho] at hband HST3
        have s1 : IntKind.i64.wrap (a - z) = a - z := by rw [IntKind.wrap_i64]; omega
        rw [hA4] at hcx ⊢
        have HA4 := Lib.hid hA4
        clear hO hB hab k1 k2 k3 ht0 hct0 g1 hlh hz ho hA4 HST2
        go_wp2
        go_roundw
        case rel => exact ⟨p + 1, o, a - z, _, by omega, by go_num, rfl, rfl, HST3, hO2, hB2⟩
        case measure => simp [intOf]; omega
    · obtain rfl : p = y.n := by omega
      have HR : Hid (H = FL) := Lib.hid (by
        rw [← HFL.out]
        refine stp_end HMAYF.out (s := s) (a := a) ?_
        rw [HYL.out]; exact hst.out)
      rw [HR.out] at hO
      clear hst
      go_wp2
      go_ret
      exact ⟨_, _, _, rfl, hO, hB⟩

set_option maxRecDepth 100000 in
set_option maxHeartbeats 1000000 in
theorem pfirstC : FirstC 7 := by
  intro x m y w hx hm1 hm2 hy
  have hmf : ∀ (fn : Fn) (first cap : Array Value) (w : World), (Instr.makeFunc fn first cap).run Tryd.prog w = .ok (.func fn first cap) w := fun _ _ _ _ => rfl
  have HGL := Lib.hid hx.glen
  have HYL := Lib.hid hy.len
  have hcb := pbestC x m w hx hm1 hm2
  obtain ⟨B, hB0⟩ : ∃ B, mayF x.g m y.zs = B := ⟨_, rfl⟩
  have HB := Lib.hid hB0
  have HBAD : Hid (B = false → fErr x.g m y.zs = 1 ∧ firstE x.g m y.zs = []) := Lib.hid fun h => fi_bad (by rw [hB0]; exact h)
  obtain ⟨E, hE⟩ : ∃ q, fErr x.g m y.zs = q := ⟨_, rfl⟩
  obtain ⟨FL, hFL⟩ : ∃ q, firstE x.g m y.zs = q := ⟨_, rfl⟩
  rw [hE, hFL] at HBAD ⊢
  have HE := Lib.hid hE
  have HFL := Lib.hid hFL
  have hv : x.v = .slice x.A x.n x.c := rfl
  have hv2 : y.v = .slice y.A y.n y.c := rfl
  have HV := Lib.hid hv
  have HV2 := Lib.hid hv2
  rw [hv] at hcb ⊢
  rw [hv2]
  clear hB0 hE hFL hv hv2
  cases hW : mayW x.g m with
  | false =>
    obtain ⟨e1, e2, e3, e4⟩ := we_bad hW
    rw [e1, e2] at hcb
    have HF := Lib.hid (HBAD.out (by rw [← HB.out, mayF, hW]; rfl))
    clear hW e1 e2 e3 e4
    go_enter Tryd.func7, Tryd.ntmps7
    go_wp2_with fail
    refine hcb.mono ?_
    rintro e w1 ⟨rfl, hb1⟩
    clear hcb
    go_wp2
    go_ret2
    exact ⟨none, 0, 0, by rw [HF.out.1]; rfl, by rw [HF.out.2]; exact OwnI.nil _ _, hb1⟩
  | true =>
    obtain ⟨M, rfl⟩ : ∃ M : Nat, m = M := ⟨m.toNat, by have := (mayW_iff.1 hW).1; omega⟩
    obtain ⟨hM1, hM8, hx8⟩ := may_m hW
    rw [HGL.out] at hx8
    rw [(we_ok hW).1, (we_ok hW).2.1] at hcb
    have HW := Lib.hid hW
    clear hW
    obtain ⟨a0, ha0⟩ : ∃ q, bestV (gG x.g) M x.g.length = q := ⟨_, rfl⟩
    rw [ha0] at hcb
    have HA0 := Lib.hid ha0
    clear ha0
    go_enter Tryd.func7, Tryd.ntmps7
    go_wp2_with fail
    refine hcb.mono ?_
    rintro e w1 ⟨rfl, hb1⟩
    clear hcb
    have hch := fhas_any y x.n w1 (hy.below hb1) hx8
    obtain ⟨β, hβ⟩ : ∃ q, ordB y.zs x.n = q := ⟨_, rfl⟩
    rw [hβ] at hch
    have HO := Lib.hid hβ
    clear hβ
    go_wp2_with fail
    refine hch.mono ?_
    rintro e w2 ⟨rfl, hb2⟩
    clear hch
    have hB2 := hb1.trans (hb2.mono hb1.size)
    clear hb1 hb2
    cases β with
    | false =>
      have HF := Lib.hid (HBAD.out (by rw [← HB.out, mayF, HGL.out, HO.out]; simp))
      go_wp2
      go_ret2
      exact ⟨none, 0, 0, by rw [HF.out.1]; rfl, by rw [HF.out.2]; exact OwnI.nil _ _, hB2⟩
    | true =>
      have hmay : mayF x.g M y.zs = true := mayF_iff.2 ⟨HW.out, by rw [HGL.out]; exact HO.out⟩
      have HMAY := Lib.hid hmay
      have HE0 : Hid (E = 0) := Lib.hid (by rw [← HE.out]; exact (fi_ok hmay).1)
      have hct := ftable_any x M y w2 (hx.below hB2) (hy.below hB2) hmay
      rw [HV.out, HV2.out] at hct
      have hp1 := all_pow M hM8
      obtain ⟨S, hS⟩ : ∃ q, 2 ^ M - 1 = q := ⟨_, rfl⟩
      rw [hS] at hp1 hct
      have HS := Lib.hid hS
      clear hS
      clear hmay
      go_wp2_with fail
      refine hct.mono ?_
      rintro e w3 ⟨rfl, ⟨F, ht, hsay⟩, hb3⟩
      clear hct
      have hB3 := hB2.trans (hb3.mono hB2.size)
      have hch := fhand_any x M y w2.heap.size F w3 (hx.below hB3) (hy.below hB3) HMAY.out ht hsay
      rw [HV.out, HV2.out, HA0.out, HFL.out, HS.out] at hch
      clear ht hsay hb3
      go_wp2_with fail
      refine hch.mono ?_
      rintro e w4 ⟨A, n, c, rfl, hO, hb4⟩
      clear hch
      have hB4 := hB3.trans (hb4.mono hB3.size)
      have hO4 := hO.mono hB3.size
      clear hO hb4
      go_wp2
      go_ret2
      exact ⟨_, _, _, by rw [HE0.out]; rfl, hO4, hB4⟩
end Go.Proofs.YtecgakfblhiiaaaDoor
