/-
  Walks of package weights: the most above, one more of an item.
-/
import Derived.Test.YtecgakfblhiiaaaWeWa
import Derived.Test.YtecgakfblhiiaaaReg
import Derived.OwnWalk
namespace Go.Proofs.Ytecgakfblhiiaaa
open Go.RowKit
set_option linter.unusedVariables false

theorem top_fold (f : Nat → Int) : ∀ m, ((List.range m).map f).foldl max 0 = topN f m
  | 0 => rfl
  | m + 1 => by rw [List.range_succ, List.map_append, List.foldl_append, top_fold f m]; rfl
theorem OwnI.snocW {w : World} {B n c : Nat} {A : Option Addr} {zs : List Int} {z : Int} (h : Own w B 3 A n c (ci64 zs ++ [.int .i64 z])) (hf : ∀ y ∈ zs, -9223372036854775808 ≤ y ∧ y ≤ 9223372036854775807) (hz : -9223372036854775808 ≤ z ∧ z ≤ 9223372036854775807) : OwnI w B ⟨A, n, c, zs ++ [z]⟩ := by
  refine ⟨?_, fun y hy => ?_⟩
  · show Own w B _ A n c (ci64 (zs ++ [z]))
    rw [ci64_app]; exact h
  · rcases List.mem_append.1 hy with hy | hy
    · exact hf y hy
    · rw [List.mem_singleton.1 hy]; exact hz
theorem map_range_getW {f : Nat → Int} {N s : Nat} (hs : s < N) : ((List.range N).map f)[s]? = some (f s) := by
  rw [List.getElem?_map, List.getElem?_range hs]; rfl
/-- What can be had if there is one more of an item: asked one by one. -/
def moreF (F g : Nat → Int) (s : Nat) : Nat → Int
  | 0 => F s
  | k + 1 => if s.testBit k = true then max (moreF F g s k) (F (s ^^^ 2 ^ k) + g k) else moreF F g s k
theorem moreF_have {G : Nat → Nat → Int} {m c s : Nat} : ∀ k, moreF (haveN G m c) (G c) s k = foldK G m c s k
  | 0 => rfl
  | k + 1 => by
    rw [moreF, moreF_have k]
    by_cases h : s.testBit k = true
    · rw [if_pos h, foldK_in h (have_less h)]
    · rw [if_neg h, foldK_no fun hc => h hc.1]
theorem moreF_congr {F F' g g' : Nat → Int} {s : Nat} (hF : ∀ s, F s = F' s) : ∀ {k}, (∀ i, i < k → g i = g' i) → moreF F g s k = moreF F' g' s k
  | 0, _ => hF s
  | k + 1, h => by rw [moreF, moreF, moreF_congr hF fun i hi => h i (by omega), h k (by omega), hF]
theorem wrap_pow (k : Nat) (hk : k < 8) : wrap64 (2 ^ k) = ((2 ^ k : Nat) : Int) := by
  have h1 : (2 : Int) ^ k = ((2 ^ k : Nat) : Int) := by simp
  have h2 : 2 ^ k < 2 ^ 8 := Nat.pow_lt_pow_right (by omega) hk
  rw [h1]
  generalize 2 ^ k = P at *
  unfold wrap64
  omega
theorem and_not (s k : Nat) (hs : s < 256) (hk : k < 8) : bits .andNot .i64 (s : Int) ((2 ^ k : Nat) : Int) = ((if s.testBit k = true then s ^^^ 2 ^ k else s : Nat) : Int) := by
  have hp : 2 ^ k < 2 ^ 8 := Nat.pow_lt_pow_right (by omega) hk
  have h1 : (BitVec.ofInt 64 (s : Int)).toNat = s := by
    rw [BitVec.ofInt_natCast, BitVec.toNat_ofNat]; exact Nat.mod_eq_of_lt (by omega)
  have h2 : (BitVec.ofInt 64 ((2 ^ k : Nat) : Int)).toNat = 2 ^ k := by
    rw [BitVec.ofInt_natCast, BitVec.toNat_ofNat]; exact Nat.mod_eq_of_lt (by omega)
  have h3 : (BitVec.ofInt 64 (s : Int) &&& ~~~ BitVec.ofInt 64 ((2 ^ k : Nat) : Int)).toNat = if s.testBit k = true then s ^^^ 2 ^ k else s := by
    apply Nat.eq_of_testBit_eq
    intro i
    rw [BitVec.toNat_and, BitVec.toNat_not, h1, h2, Nat.testBit_and, Nat.sub_sub, Nat.add_comm 1, Nat.testBit_two_pow_sub_succ (Nat.lt_of_lt_of_le hp (by decide)), Nat.testBit_two_pow]
    have hsi : ∀ i, 64 ≤ i → s.testBit i = false := fun i hi => Nat.testBit_lt_two_pow (Nat.lt_of_lt_of_le (show s < 2 ^ 8 by omega) (Nat.pow_le_pow_right (by omega) (by omega)))
    by_cases hb : s.testBit k = true
    · rw [if_pos hb, Nat.testBit_xor, Nat.testBit_two_pow]
      by_cases hki : k = i
      · subst hki; simp [hb]
      · by_cases h64 : i < 64
        · simp [hki, h64]
        · simp [hki, hsi i (by omega)]
    · rw [if_neg hb]
      by_cases hki : k = i
      · subst hki; simp [hb]
      · by_cases h64 : i < 64
        · simp [hki, h64]
        · simp [hki, hsi i (by omega)]
  have h4 : (if s.testBit k = true then s ^^^ 2 ^ k else s) < 256 := by
    split
    · exact Nat.xor_lt_two_pow (n := 8) hs hp
    · exact hs
  show IntKind.i64.wrap ((BitVec.ofInt 64 (s : Int) &&& ~~~ BitVec.ofInt 64 ((2 ^ k : Nat) : Int)).toNat : Int) = _
  rw [h3, IntKind.wrap_i64]
  omega
def TabAt (w : World) (b : Nat) (F : Nat → Int) : Prop := w.heap[b]? = some (.cells (ci64 ((List.range 256).map F)).toArray 48 (0, 0))
theorem TabAt.lt {w : World} {b : Nat} {F : Nat → Int} (h : TabAt w b F) : b < w.heap.size := (Array.getElem?_eq_some_iff.1 h).1
theorem TabAt.below {w w' : World} {b : Nat} {F : Nat → Int} (h : TabAt w b F) (hb : Below w.heap.size w w') : TabAt w' b F := (hb.block b h.lt).trans h
theorem TabAt.cell {w : World} {b s : Nat} {F : Nat → Int} (h : TabAt w b F) (hs : s < 256) : w.cell? ⟨b, s, none⟩ = some (.int .i64 (F s)) := by
  rw [cell_of_row _ _ _ _ _ _ h, List.getElem?_toArray]
  rw [show ci64 ((List.range 256).map F) = ((List.range 256).map F).map iV from rfl, List.getElem?_map, map_range_getW hs]; rfl
set_option maxRecDepth 100000 in
set_option maxHeartbeats 1000000 in
theorem wone_any (x : Gr) (b : Nat) (F : Nat → Int) (k s M : Nat) (w : World) (ht : TabAt w b F) (hx : x.Ok w) (hn8 : x.n ≤ 8) (hs : s < 256) (hk : k < M) (hrow : ∀ l ∈ x.g, l.length = M ∧ ∀ z ∈ l, -1000000 ≤ z ∧ z ≤ 1000000) (hF : ∀ s, 0 ≤ F s ∧ F s ≤ 10000000) :
    Calls Try.prog 27 #[.pointer (some ⟨b, 0, none⟩), x.v, .int .i64 k, .int .i64 s] w fun e w' => e = .returned (.int .i64 (moreF F (fun i => gG x.g i k) s x.n)) ∧ Below w.heap.size w w' := by
  obtain ⟨i0, hi0, hz0, hz1, hz2⟩ := info_parts infoWe_int
  have HGL := Lib.hid hx.glen
  have HROW := Lib.hid hrow
  have HF := Lib.hid hF
  clear hrow hF
  rw [show x.v = .slice x.A x.n x.c from rfl]
  go_enter Try.func27, Try.ntmps27
  go_wp2_with (at_make; go_must (refine wpList_mk0 _ rfl _ _ 25 rfl w.heap.size 3 i0 _ Try.underlying25 hi0 hz0 hz1 .i64 .i64 _ 8 rfl rfl rfl ?c2 ?c3 ?c4 ?_))
  case c2 => rw [hz2]; omega
  case c3 => simp only [maxLen]; omega
  case c4 => exact Nat.le_refl _
  intro w1 ho1 hb1
  have hO1 : OwnI w1 w.heap.size ⟨some ⟨w.heap.size, 0, none⟩, 0, 8, []⟩ := ⟨ho1, fun z hz => by simp at hz⟩
  clear ho1
  go_wp2_with fail
  go_loopw [9, 16] (fun o v wr => ∃ (i n c : Nat) (A : Option Addr) (zs : List Int), i ≤ x.n ∧ n ≤ i ∧ v = .int .i64 i ∧ o = .slice A n c ∧ OwnI wr w.heap.size ⟨A, n, c, zs⟩ ∧ Hid (zs.foldl max (F s) = moreF F (fun i => gG x.g i k) s i) ∧ Below w.heap.size w wr) (fun _ v _ => x.n - (intOf v).toNat)
  case atStart => exact ⟨0, 0, 8, some ⟨w.heap.size, 0, none⟩, [], Nat.zero_le _, Nat.zero_le _, rfl, rfl, hO1, Lib.hid rfl, hb1⟩
  case round =>
    clear hO1 hb1
    obtain ⟨i, n, c, A, zs, hi, hni, rfl, rfl, hO, hzs, hB⟩ := hrel
    by_cases hlt : i < x.n
    · have hlt' : (i : Int) < x.n := by omega
      have hi0' : (0 : Int) ≤ i := by omega
      obtain ⟨p2, q2, u, hAx, _, hgy, hp2, hcx0, hku⟩ := hx.get hlt
      have hcx := (hB.cell (p := ⟨p2, q2 + i, none⟩) hp2).trans hcx0
      have hku2 := hku.below hB
      have hiN : i < 8 := by omega
      have hlh := wrap_pow i hiN
      have hband := and_not s i hs hiN
      rw [← hlh] at hband
      have hmo : moreF F (fun i => gG x.g i k) s (i + 1) = if s.testBit i = true then max (moreF F (fun i => gG x.g i k) s i) (F (s ^^^ 2 ^ i) + gG x.g i k) else moreF F (fun i => gG x.g i k) s i := rfl
      have hxo : s ^^^ 2 ^ i < 256 := Nat.xor_lt_two_pow (n := 8) hs (Nat.pow_lt_pow_right (by omega) hiN)
      have hxn : s.testBit i = true → s ^^^ 2 ^ i ≠ s := fun h e => by
        have h1 := congrArg (fun q => Nat.testBit q i) e
        simp only [Nat.testBit_xor, Nat.testBit_two_pow, h] at h1
        simp at h1
      have hgi : x.g[i]? = some u.zs := by
        rw [← hgy, List.getD_eq_getElem?_getD, List.getElem?_eq_getElem (by rw [HGL.out]; exact hlt)]; rfl
      have hrw := HROW.out u.zs (List.mem_of_getElem? hgi)
      have hun : u.n = M := by have := hku.len; rw [← this]; exact hrw.1
      have hkl : k < u.zs.length := by rw [hrw.1]; exact hk
      have hGz : gG x.g i k = u.zs[k] := by rw [gG, hgy, List.getD_eq_getElem?_getD, List.getElem?_eq_getElem hkl]; rfl
      have hzb := hrw.2 _ (List.getElem_mem hkl)
      obtain ⟨uA, un, uc, ul⟩ := u
      simp only at hun hGz hzb hkl
      subst hun
      have hurd := hku.rd
      simp only at hurd
      obtain ⟨p4, q4, hA4, hp4, t0, ht0, hct0⟩ := hurd.get hk
      rw [ci64_get _ _ hkl] at ht0
      obtain rfl : iV ul[k] = t0 := Option.some.inj ht0
      unfold iV at hct0
      obtain ⟨z, hz⟩ : ∃ z, ul[k] = z := ⟨_, rfl⟩
      rw [hz] at hGz hzb hct0
      rw [hGz] at hmo
      subst hA4
      replace hcx0 : w.cell? ⟨p2, q2 + i, none⟩ = some (.slice (some ⟨p4, q4, none⟩) un uc) := hcx0
      replace hcx : wr.cell? ⟨p2, q2 + i, none⟩ = some (.slice (some ⟨p4, q4, none⟩) un uc) := hcx
      have hkn' : (k : Int) < un := by omega
      have hk0 : (0 : Int) ≤ k := by omega
      have hFo := HF.out (s ^^^ 2 ^ i)
      have hFs := HF.out s
      obtain ⟨δ, hδ⟩ : ∃ δ, s.testBit i = δ := ⟨_, rfl⟩
      rw [hδ] at hband hmo hxn
      clear hlh hgi hrw hGz hz hkl hgy ht0 hδ hku hku2
      rw [hAx]
      cases δ
      · simp only [Bool.false_eq_true, if_false] at hband hmo
        have HN : Hid (zs.foldl max (F s) = moreF F (fun i => gG x.g i k) s (i + 1)) := Lib.hid (by rw [hmo, hzs.out])
        have gne : ((s : Int) != (s : Int)) = false := by simp
        clear hmo hzs hxn hFo hxo
        go_wp2
        go_roundw
        case rel => exact ⟨i + 1, n, c, A, zs, by omega, by omega, by go_num, rfl, hO, HN, hB⟩
        case measure => simp [intOf]; omega
      · simp only [if_true] at hband hmo
        have hne := hxn rfl
        obtain ⟨o, ho⟩ : ∃ o, s ^^^ 2 ^ i = o := ⟨_, rfl⟩
        rw [ho] at hband hmo hxo hne hFo
        have gne : ((o : Int) != (s : Int)) = true := by rw [bne_iff_ne]; omega
        obtain ⟨f, hf⟩ : ∃ f, F o = f := ⟨_, rfl⟩
        have hco := ht.cell hxo
        rw [hf] at hFo hmo hco
        have s1 : IntKind.i64.wrap (f + z) = f + z := by rw [IntKind.wrap_i64]; omega
        have hbl := ht.lt
        have hS : ∀ w', Below w.heap.size w w' → w'.cell? ⟨b, o, none⟩ = some (.int .i64 f) ∧ w'.cell? ⟨p4, q4 + k, none⟩ = some (.int .i64 z) := fun w' hb => ⟨(hb.cell (p := ⟨b, o, none⟩) hbl).trans hco, (hb.cell (p := ⟨p4, q4 + k, none⟩) hp4).trans hct0⟩
        have HN : Hid ((zs ++ [f + z]).foldl max (F s) = moreF F (fun i => gG x.g i k) s (i + 1)) := Lib.hid (by rw [hmo, List.foldl_append, hzs.out]; rfl)
        have ho0 : (0 : Int) ≤ o := by omega
        have ho256 : (o : Int) < 256 := by omega
        have gnil : Try.prog.cellsOf 3 = 1 := by kernel_rfl
        clear hmo hzs hxn hne ho hf hco hct0
        go_wp2_with fail
        refine wp_region_ord (S := fun w' => w'.cell? ⟨b, o, none⟩ = some (.int .i64 f) ∧ w'.cell? ⟨p4, q4 + k, none⟩ = some (.int .i64 z)) [(0, true), (1, true), (2, true), (3, true), (4, true), (5, true), (6, true), (7, true), (8, true), (9, true), (10, true), (11, false), (12, false), (13, true)] default (by kernel_rfl) (by kernel_rfl) (by kernel_rfl) (hS _ hB.drew) ?_
        simp only [getOrd, nth]
        obtain ⟨wd, hwd⟩ : ∃ wd, wd = wr.drew := ⟨_, rfl⟩
        have b0 : Below w.heap.size w wd := by rw [hwd]; exact hB.drew
        replace hO : OwnI wd w.heap.size ⟨A, n, c, zs⟩ := by rw [hwd]; exact ⟨hO.own.drew, hO.fit⟩
        rw [← hwd]
        clear hwd
        repeat (first | (refine ordS (by rfl) ?_; simp only [Act.put, List.setIfInBounds_toArray, List.set_cons_zero, List.set_cons_succ]) | (refine ordN (by rfl) ?_; simp only [Act.put, List.setIfInBounds_toArray, List.set_cons_zero, List.set_cons_succ]) | (refine ordQ (v := ?_) (by rfl) (fun _ hSw => ?_) ?_; rotate_left; (focus ((have hS1 := hSw.1); (have hS2 := hSw.2); clear hSw; go_simp; (first | done | with_reducible rfl))); simp only [Act.put, List.setIfInBounds_toArray, List.set_cons_zero, List.set_cons_succ]))
        refine ordD (by rfl) ?_
        intro K hK
        go_simp
        have hbb : Below wd.heap.size wd (wd.alloc (.cells #[.int .i64 (f + z)] 3)) := (Below.refl _ wd).alloc (Nat.le_refl _) _
        have b1 : Below w.heap.size w (wd.alloc (.cells #[.int .i64 (f + z)] 3)) := b0.trans (hbb.mono b0.size)
        refine hK _ _ (hS _ b1) ?_
        clear hK K
        try simp only [Act.put, List.setIfInBounds_toArray, List.set_cons_zero, List.set_cons_succ]
        refine ordD (by rfl) ?_
        intro K hK
        have hlr : Rd (wd.alloc (.cells #[.int .i64 (f + z)] 3)) (some ⟨wd.heap.size, 0, none⟩) 1 [.int .i64 (f + z)] := (Own.lit (B := 0) wd 3 #[.int .i64 (f + z)] 1 (Nat.zero_le _) rfl (by unfold maxLen; omega)).rd
        have hsz1 := b1.size
        refine wp_app (wd.alloc (.cells #[.int .i64 (f + z)] 3)) _ _ 25 rfl 3 i0 _ 8 Try.underlying25 hi0 hz0 hz1 hz2 rfl w.heap.size A n c (ci64 zs) rfl (hO.own.below hbb) _ 1 1 [.int .i64 (f + z)] rfl hlr ?a11 ?a12 ?a13 ?a14 ?_
        case a11 => intro u hu; rw [List.mem_singleton.1 hu]; rfl
        case a12 => simp only [maxLen]; omega
        case a13 => omega
        try case a14 => omega
        intro A9 c9 w9 hown9 hbel9 _ _
        have hO9 : OwnI w9 w.heap.size ⟨A9, n + 1, c9, zs ++ [f + z]⟩ := OwnI.snocW hown9 hO.fit (by omega)
        have b2 : Below w.heap.size w w9 := b1.trans hbel9
        go_simp
        refine hK _ _ (hS _ b2) ?_
        clear hK K hbb hlr hown9 hbel9 b1 hsz1
        try simp only [Act.put, List.setIfInBounds_toArray, List.set_cons_zero, List.set_cons_succ]
        repeat (first | (refine ordS (by rfl) ?_; simp only [Act.put, List.setIfInBounds_toArray, List.set_cons_zero, List.set_cons_succ]) | (refine ordN (by rfl) ?_; simp only [Act.put, List.setIfInBounds_toArray, List.set_cons_zero, List.set_cons_succ]) | (refine ordQ (v := ?_) (by rfl) (fun _ hSw => ?_) ?_; rotate_left; (focus ((have hS1 := hSw.1); (have hS2 := hSw.2); clear hSw; go_simp; (first | done | with_reducible rfl))); simp only [Act.put, List.setIfInBounds_toArray, List.set_cons_zero, List.set_cons_succ]))
        refine ordE ?_
        clear hS hO b0
        go_wp2
        go_roundw
        case rel => exact ⟨i + 1, n + 1, c9, A9, zs ++ [f + z], by omega, by omega, by go_num, rfl, hO9, HN, b2⟩
        case measure => simp [intOf]; omega
    · obtain rfl : i = x.n := by omega
      have hct := wgreatest_any (F s) _ wr hO.ok
      simp only at hct
      rw [hzs.out] at hct
      have hcs := (ht.below hB).cell hs
      obtain ⟨f, hf⟩ : ∃ f, F s = f := ⟨_, rfl⟩
      rw [hf] at hcs hct
      have hs0 : (0 : Int) ≤ s := by omega
      have hs256 : (s : Int) < 256 := by omega
      clear hO hzs hf
      go_wp2_with fail
      refine hct.mono ?_
      rintro e w2 ⟨rfl, rfl⟩
      clear hct
      go_wp2
      go_ret
      exact ⟨rfl, hB⟩
end Go.Proofs.Ytecgakfblhiiaaa
