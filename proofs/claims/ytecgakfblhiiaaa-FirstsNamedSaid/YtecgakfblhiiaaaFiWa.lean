/-
  Walks of package firsts: an order, the most behind a place.
-/
import Derived.Test.YtecgakfblhiiaaaFiT
import Derived.Test.YtecgakfblhiiaaaWeWb
import Derived.Test.YtecgakfblhiiaaaCel
namespace Go.Proofs.Ytecgakfblhiiaaa
open Go.RowKit
set_option linter.unusedVariables false

def HasOk (o : List Int) (n k : Nat) : Prop := ∀ (i : Nat) (hi : i < o.length), i < k → (0 ≤ o[i] ∧ o[i] < (n : Int)) ∧ ∀ (j : Nat) (hj : j < i), o[i] ≠ o[j]'(by omega)
theorem mem_take_iff {o : List Int} {k : Nat} {z : Int} : z ∈ o.take k ↔ ∃ (j : Nat) (hj : j < o.length), j < k ∧ o[j] = z := by
  constructor
  · intro h
    obtain ⟨i, hi, e⟩ := List.getElem_of_mem h
    rw [List.length_take] at hi
    exact ⟨i, by omega, by omega, by rw [← e, List.getElem_take]⟩
  · rintro ⟨j, hj, hk, rfl⟩
    exact List.mem_take_iff_getElem.2 ⟨j, by omega, rfl⟩
theorem hasOk_succ {o : List Int} {n k : Nat} (h : HasOk o n k) (hk : k < o.length) (h1 : 0 ≤ o[k] ∧ o[k] < (n : Int)) (h2 : o[k] ∉ o.take k) : HasOk o n (k + 1) := by
  intro i hi hik
  by_cases e : i = k
  · subst e
    exact ⟨h1, fun j hj e2 => h2 (mem_take_iff.2 ⟨j, by omega, hj, e2.symm⟩)⟩
  · exact h i hi (by omega)
theorem ord_of_has {o : List Int} {n : Nat} (hl : o.length = n) (h : HasOk o n o.length) : ordB o n = true := ordB_iff.2 ⟨hl, (order_iff hl).2 fun i hi => h i hi hi⟩
theorem has_of_ord {o : List Int} {n k : Nat} (h : ordB o n = true) (hk : k < o.length) : (0 ≤ o[k] ∧ o[k] < (n : Int)) ∧ o[k] ∉ o.take k := by
  obtain ⟨h1, h2⟩ := ordB_iff.1 h
  obtain ⟨h3, h4⟩ := (order_iff h1).1 h2 k hk
  refine ⟨h3, fun hm => ?_⟩
  obtain ⟨j, hj, hjk, e⟩ := mem_take_iff.1 hm
  exact h4 j hjk e.symm
set_option maxRecDepth 100000 in
set_option maxHeartbeats 1000000 in
theorem fhas_any (y : Ls) (n : Nat) (w : World) (hy : y.Ok w) (hn : n ≤ 8) :
    Calls Try.prog 16 #[.slice y.A y.n y.c, .int .i64 n] w fun e w' => e = .returned (.bool (ordB y.zs n)) ∧ Below w.heap.size w w' := by
  have ty := Nat.le_trans hy.cap hy.top
  have HL := Lib.hid hy.len
  unfold maxLen at ty
  obtain ⟨B, hB0⟩ : ∃ B, ordB y.zs n = B := ⟨_, rfl⟩
  have HB := Lib.hid hB0
  rw [hB0]
  clear hB0
  go_enter Try.func16, Try.ntmps16
  by_cases hyn : y.n = n
  rotate_left
  · have gn : ((y.n : Int) != (n : Int)) = true := by rw [bne_iff_ne]; omega
    have gn2 : (y.n != n) = true := by rw [bne_iff_ne]; exact hyn
    have HF : Hid (B = false) := Lib.hid (by rw [← HB.out, ordB, decide_eq_false (by rw [HL.out]; exact hyn)]; rfl)
    clear hyn
    go_wp2
    go_ret
    exact ⟨ret_bool HF.out.symm, Below.refl _ _⟩
  have gn : ((y.n : Int) != (n : Int)) = false := by rw [bne_eq_false_iff_eq]; omega
  have gn2 : (y.n != n) = false := by rw [bne_eq_false_iff_eq]; exact hyn
  have HYN := Lib.hid hyn
  have hy8 : y.n ≤ 8 := by omega
  clear hyn
  go_wp2_with fail
  have bS := SetAt.new w 52
  have bB : Below w.heap.size w (w.alloc (.cells #[.bool false, .bool false, .bool false, .bool false, .bool false, .bool false, .bool false, .bool false] 52)) := (Below.refl _ w).alloc (Nat.le_refl _) _
  obtain ⟨w1, hw1⟩ : ∃ q, q = w.alloc (.cells #[.bool false, .bool false, .bool false, .bool false, .bool false, .bool false, .bool false, .bool false] 52) := ⟨_, rfl⟩
  rw [← hw1] at bS bB
  try rw [← hw1]
  have HW1 := Lib.hid hw1
  clear hw1 gn gn2
  go_loopw [14] (fun v wr => ∃ k : Nat, k ≤ y.n ∧ v = .int .i64 k ∧ Hid (HasOk y.zs n k) ∧ SetAt wr w.heap.size 52 (fun i => decide ((i : Int) ∈ y.zs.take k)) ∧ Below w.heap.size w wr) (fun v _ => y.n - (intOf v).toNat)
  case atStart =>
    refine ⟨0, Nat.zero_le _, rfl, Lib.hid (fun i hi h => absurd h (by omega)), ?_, ?_⟩
    · simpa using bS
    · exact bB
  case round =>
    clear bS bB
    obtain ⟨k, hk, rfl, hok, bS, hB⟩ := hrel
    by_cases hkn : k < y.n
    · have hkn' : (k : Int) < y.n := by omega
      have hkl : k < y.zs.length := by rw [HL.out]; exact hkn
      obtain ⟨p1, q1, hA1, hp1, y0, hy0', hcy⟩ := (hy.below hB).rd.get hkn
      rw [ci64_get _ _ hkl] at hy0'
      obtain rfl : iV y.zs[k] = y0 := Option.some.inj hy0'
      unfold iV at hcy
      have HNO : Hid (B = true → (0 ≤ y.zs[k] ∧ y.zs[k] < (n : Int)) ∧ y.zs[k] ∉ y.zs.take k) := Lib.hid fun h => has_of_ord (by rw [HB.out]; exact h) hkl
      have HYES : Hid (0 ≤ y.zs[k] ∧ y.zs[k] < (n : Int) → y.zs[k] ∉ y.zs.take k → HasOk y.zs n (k + 1)) := Lib.hid fun h1 h2 => hasOk_succ hok.out hkl h1 h2
      have HTK : Hid (∀ z, z ∈ y.zs.take (k + 1) ↔ z ∈ y.zs.take k ∨ z = y.zs[k]) := Lib.hid fun z => by rw [List.take_succ_eq_append_getElem hkl, List.mem_append, List.mem_singleton]
      obtain ⟨z, hz⟩ : ∃ z, y.zs[k] = z := ⟨_, rfl⟩
      rw [hz] at hcy HNO HYES HTK
      rw [hA1]
      have HA1 := Lib.hid hA1
      clear hy0' hz hA1 hok
      by_cases z0 : z < 0
      · have g1 : decide (z < 0) = true := decide_eq_true z0
        have HF : Hid (B = false) := Lib.hid (by
          rw [Bool.eq_false_iff]; intro h; have := (HNO.out h).1; omega)
        clear z0
        go_wp2
        go_ret
        exact ⟨ret_bool HF.out.symm, hB⟩
      have g1 : decide (z < 0) = false := decide_eq_false z0
      by_cases z1 : (n : Int) ≤ z
      · have g2 : decide ((n : Int) ≤ z) = true := decide_eq_true z1
        have HF : Hid (B = false) := Lib.hid (by
          rw [Bool.eq_false_iff]; intro h; have := (HNO.out h).1; omega)
        clear z0 z1
        go_wp2
        go_ret
        exact ⟨ret_bool HF.out.symm, hB⟩
      have g2 : decide ((n : Int) ≤ z) = false := decide_eq_false z1
      obtain ⟨u, rfl⟩ : ∃ u : Nat, z = u := ⟨z.toNat, by omega⟩
      have hun : u < n := by omega
      have hu8 : u < 8 := by omega
      have hu8' : (u : Int) < 8 := by omega
      have hu0 : (0 : Int) ≤ u := by omega
      clear z0 z1
      have hcs := bS.cell hu8
      have hfr := bS.frozen u
      by_cases hm : (u : Int) ∈ y.zs.take k
      · rw [decide_eq_true hm] at hcs
        have HF : Hid (B = false) := Lib.hid (by
          rw [Bool.eq_false_iff]; intro h; exact (HNO.out h).2 hm)
        clear hm bS
        go_wp2
        go_ret
        exact ⟨ret_bool HF.out.symm, hB⟩
      · rw [decide_eq_false hm] at hcs
        have HN := Lib.hid (HYES.out ⟨by omega, by omega⟩ hm)
        have bS2 := bS.set (f' := fun i => decide ((i : Int) ∈ y.zs.take (k + 1))) (v := true) hu8 fun j hj => by
          by_cases e : j = u
          · subst e; rw [if_pos rfl, decide_eq_true ((HTK.out _).2 (.inr rfl))]
          · rw [if_neg e, decide_eq_decide, HTK.out]
            exact ⟨fun h => h.resolve_right (by omega), .inl⟩
        have hB2 := hB.setCell (p := ⟨w.heap.size, u, none⟩) (Nat.le_refl _) (.bool true)
        clear hm bS hB
        go_wp2
        go_roundw
        case rel => exact ⟨k + 1, by omega, by go_num, HN, bS2, hB2⟩
        case measure => simp [intOf]; omega
    · obtain rfl : k = y.n := by omega
      have HT : Hid (B = true) := Lib.hid (by
        rw [← HB.out]
        refine ord_of_has (by rw [HL.out]; exact HYN.out) ?_
        rw [HL.out]; exact hok.out)
      clear hok bS
      go_wp2
      go_ret
      exact ⟨ret_bool HT.out.symm, hB⟩

set_option maxRecDepth 100000 in
set_option maxHeartbeats 1000000 in
theorem fbehind_any (b : Nat) (F : Nat → Int) (p s : Nat) (w : World) (ht : TbAt w b F) (hp : p < 8) (hs : s < 256) :
    Calls Try.prog 19 #[.pointer (some ⟨b, 0, none⟩), .int .i64 p, .int .i64 s] w fun e w' => e = .returned (.int .i64 (F (p * 256 + s))) ∧ w' = w := by
  have hc := ht.cell (s := p * 256 + s) (by omega)
  have hp' : (p : Int) < 8 := by omega
  have hp0 : (0 : Int) ≤ p := by omega
  have hs' : (s : Int) < 256 := by omega
  have hs0 : (0 : Int) ≤ s := by omega
  obtain ⟨f, hf⟩ : ∃ f, F (p * 256 + s) = f := ⟨_, rfl⟩
  rw [hf] at hc ⊢
  clear hf ht
  go_enter Try.func19, Try.ntmps19
  go_wp2
  go_ret
  exact ⟨rfl, rfl⟩

set_option maxRecDepth 100000 in
set_option maxHeartbeats 1000000 in
theorem fmost_any (u : Ls) (b p : Nat) (F B g : Nat → Int) (s M : Nat) (w : World) (ht : TbAt w b F) (hu : u.Ok w) (hun : u.n = M) (hM : M ≤ 8) (hs : s < 2 ^ M) (hp : p < 8) (hg : ∀ (k : Nat) (hk : k < u.zs.length), u.zs[k] = g k ∧ -1000000 ≤ g k ∧ g k ≤ 1000000)
    (hF : ∀ s, s < 2 ^ M → F (p * 256 + s) = B s) (hB : ∀ s, s < 2 ^ M → 0 ≤ B s ∧ B s ≤ 8000000) :
    Calls Try.prog 24 #[.slice u.A u.n u.c, .int .i64 s, .pointer (some ⟨b, p * 256, none⟩)] w fun e w' => e = .returned (.int .i64 (moreF B g s M)) ∧ w' = w := by
  subst hun
  have HG := Lib.hid hg
  have HF := Lib.hid hF
  have HB := Lib.hid hB
  have tu := Nat.le_trans hu.cap hu.top
  have HL := Lib.hid hu.len
  unfold maxLen at tu
  have hP : 2 ^ u.n ≤ 256 := Nat.pow_le_pow_right (n := 2) (by omega) hM
  have HP : Hid (∀ k, k < u.n → s ^^^ 2 ^ k < 2 ^ u.n) := Lib.hid fun k hk => Nat.xor_lt_two_pow hs (Nat.pow_lt_pow_right (by omega) hk)
  have HS := Lib.hid hs
  have hs256 : s < 256 := by omega
  have hs' : (s : Int) < 256 := by omega
  have hs0 : (0 : Int) ≤ s := by omega
  have hc0 := ht.cell (s := p * 256 + s) (by omega)
  rw [hF s hs] at hc0
  have hb0 := hB s hs
  have HMB : Hid (∀ k, k ≤ u.n → 0 ≤ moreF B g s k ∧ moreF B g s k ≤ 9000000) := Lib.hid fun k hk => by
    have h1 := more_ge0 (F := B) (g := g) (s := s) (j := k)
    refine ⟨by omega, more_le (by omega) fun j hj hsj => ?_⟩
    have h2 := HB.out _ (HP.out j (by omega))
    have h3 := (HG.out j (by rw [HL.out]; omega)).2
    omega
  clear hg hF hB hP hs
  obtain ⟨b0, hb0'⟩ : ∃ q, B s = q := ⟨_, rfl⟩
  rw [hb0'] at hc0 hb0
  have HB0 := Lib.hid hb0'
  clear hb0'
  go_enter Try.func24, Try.ntmps24
  go_wp2_with fail
  go_loopw [7, 18] (fun mv v wr => ∃ (k : Nat) (a : Int), k ≤ u.n ∧ v = .int .i64 k ∧ mv = .int .i64 a ∧ Hid (a = moreF B g s k) ∧ wr = w) (fun _ v _ => u.n - (intOf v).toNat)
  case atStart => exact ⟨0, b0, Nat.zero_le _, rfl, rfl, Lib.hid HB0.out.symm, rfl⟩
  case round =>
    obtain ⟨k, a, hk, rfl, rfl, ha, hwr⟩ := hrel
    have hwr2 := hwr.symm
    subst hwr2
    by_cases hkn : k < u.n
    · have hkn' : (k : Int) < u.n := by omega
      have hk0 : (0 : Int) ≤ k := by omega
      have hkl : k < u.zs.length := by rw [HL.out]; exact hkn
      obtain ⟨p1, q1, hA1, hp1, y0, hy0', hcy⟩ := hu.rd.get hkn
      rw [ci64_get _ _ hkl] at hy0'
      obtain rfl : iV u.zs[k] = y0 := Option.some.inj hy0'
      unfold iV at hcy
      obtain ⟨g1, g2⟩ := HG.out k hkl
      rw [g1] at hcy
      have hk8 : k < 8 := by omega
      have hlh := wrap_pow k hk8
      have hband := and_not s k hs256 hk8
      rw [← hlh] at hband
      have hmo : moreF B g s (k + 1) = if s.testBit k = true then max (moreF B g s k) (B (s ^^^ 2 ^ k) + g k) else moreF B g s k := rfl
      have hxn : s.testBit k = true → s ^^^ 2 ^ k ≠ s := fun h e => by
        have h1 := congrArg (fun q => Nat.testBit q k) e
        simp only [Nat.testBit_xor, Nat.testBit_two_pow, h] at h1
        simp at h1
      have hx2 := HP.out k hkn
      have hba := HMB.out k hk
      rw [← ha.out] at hmo hba
      have HA := Lib.hid ha.out
      rw [hA1]
      have HA1 := Lib.hid hA1
      obtain ⟨z, hz⟩ : ∃ z, g k = z := ⟨_, rfl⟩
      rw [hz] at hcy hmo g2
      obtain ⟨δ, hδ⟩ : ∃ δ, s.testBit k = δ := ⟨_, rfl⟩
      rw [hδ] at hband hmo hxn
      clear hlh hy0' g1 hA1 hz hδ ha
      cases δ
      · simp only [Bool.false_eq_true, if_false] at hband hmo
        have HN : Hid (a = moreF B g s (k + 1)) := Lib.hid hmo.symm
        have gne : ((s : Int) != (s : Int)) = false := by simp
        clear hmo hxn hx2
        go_wp2
        go_roundw
        case rel => exact ⟨k + 1, a, by omega, by go_num, rfl, HN, trivial⟩
        case measure => simp [intOf]; omega
      · simp only [if_true] at hband hmo
        have hne := hxn rfl
        have hfo := HF.out _ hx2
        have hbo := HB.out _ hx2
        obtain ⟨o, ho⟩ : ∃ o, s ^^^ 2 ^ k = o := ⟨_, rfl⟩
        rw [ho] at hband hmo hne hfo hbo hx2
        have gne : ((o : Int) != (s : Int)) = true := by rw [bne_iff_ne]; omega
        have hP : 2 ^ u.n ≤ 256 := Nat.pow_le_pow_right (n := 2) (by omega) hM
        have ho256 : o < 256 := Nat.lt_of_lt_of_le hx2 hP
        have hco := ht.cell (s := p * 256 + o) (by omega)
        rw [hfo] at hco
        obtain ⟨f, hf⟩ : ∃ f, B o = f := ⟨_, rfl⟩
        rw [hf] at hco hbo hmo
        have HN : Hid (max a (z + f) = moreF B g s (k + 1)) := Lib.hid (by rw [hmo, Int.add_comm])
        have s1 : IntKind.i64.wrap (z + f) = z + f := by rw [IntKind.wrap_i64]; omega
        have ho0 : (0 : Int) ≤ o := by omega
        have ho256' : (o : Int) < 256 := by omega
        clear hmo hxn hne ho hf hfo hx2 hP
        go_wp2
        go_roundw
        case rel => exact ⟨k + 1, _, by omega, by go_num, rfl, HN, trivial⟩
        case measure => simp [intOf]; omega
    · obtain rfl : k = u.n := by omega
      go_wp2
      go_ret
      exact ⟨by rw [ha.out]; rfl, rfl⟩
end Go.Proofs.Ytecgakfblhiiaaa
