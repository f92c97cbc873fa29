/-
  Proved: salesroomlaw04.VectorsBack answers true, for any bid, any number of items and any byte, in whatever memory. No conditions.
-/
import Derived.Test.YtbcfncdmkgoidaaRows
import Derived.Test.YtbcfncdmkgoidaaAlive4
import Derived.Test.YtbcfncdmkgoidaaLift
namespace Go.Proofs.Ytbcfncdmkgoidaa.vectorsBack
open Go.ChangeShapes Go.WideShapes Go.ChangeAt Go.RowKit
set_option linter.unusedVariables false

theorem back_form (bid : List Int) (h : bid.length ≤ 255) (items : Int) (hi : ¬ (items < 1 ∨ 8 < items)) (x : UInt8) : getVE (putL bid ++ [x]) items = 4 := by
  have h1 := putL_first bid h [x]
  have h2 := putL_len bid
  refine getVE_form hi ?_ ?_
  · rw [h1, List.length_append, h2]; simp; omega
  · rintro ⟨h3, _⟩
    rw [h1, List.length_append, h2] at h3
    simp at h3
    omega
theorem back_short (bid : List Int) (h : bid.length ≤ 255) (items : Int) (hi : ¬ (items < 1 ∨ 8 < items)) : getVE ((putL bid).take (4 * bid.length)) items = 5 := by
  have h2 := putL_len bid
  refine getVE_short hi ?_
  rcases Nat.eq_zero_or_pos bid.length with h0 | h0
  · rw [h0]; simp [getN]
  · have h1 := putL_first bid h []
    rw [List.append_nil] at h1
    have e : ((putL bid).take (4 * bid.length)).take 1 = (putL bid).take 1 := by rw [List.take_take, Nat.min_eq_left (by omega)]
    rw [e, h1, List.length_take, h2]
    omega
theorem back_all (bid : List Int) (h : bid.length ≤ 255) (items : Int) (hi : ¬ (items < 1 ∨ 8 < items)) :
    (mayB (bid.map fun z => z % 4294967296) items = true → getVE (putL bid) items = 0 ∧ getV (putL bid) items = bid.map fun z => z % 4294967296) ∧
    (mayB (bid.map fun z => z % 4294967296) items = false → getVE (putL bid) items = 4 ∧ getV (putL bid) items = []) := by
  have h1 := putL_first bid h []
  have h2 := putL_len bid
  have h3 := putL_rest bid h []
  rw [List.append_nil] at h1 h3
  constructor
  · intro hm
    have e := getVE_ok (bs := putL bid) hi (by rw [h1, h2]; omega) (by rw [h1, h3]; exact hm)
    exact ⟨e, by rw [(getVE_zero e).2.2.2, h1, h3]⟩
  · intro hm
    have e := getVE_form (bs := putL bid) hi (by rw [h1, h2]; omega) (by rw [h1, h3, hm]; simp)
    exact ⟨e, getV_none (by rw [e]; omega)⟩

set_option maxRecDepth 100000 in
set_option maxHeartbeats 1000000 in
theorem walk_out (A : Option Addr) (n c : Nat) (z : Int) (y : Nat) (w : World) (hc2 : c ≤ maxLen) (hc : n ≤ c) (hn : 255 < n) :
    Calls Try.prog 4 #[.slice A n c, .int .i64 z, .int .u8 y] w fun e w' => e = .returned (.bool true) ∧ Below w.heap.size w w' := by
  unfold maxLen at hc2
  have h1 : decide (255 < n) = true := by simpa using hn
  go_enter Try.func4, Try.ntmps4
  go_wp2_with fail
  refine (alive4_any w).mono ?_
  rintro e w2 ⟨rfl, b2⟩
  go_wp2_with fail
  refine (alive4_any w2).mono ?_
  rintro e w3 ⟨rfl, b3⟩
  go_wp2
  go_ret
  exact ⟨rfl, b2.trans (b3.mono b2.size)⟩

set_option maxRecDepth 100000 in
set_option maxHeartbeats 1000000 in
theorem walk_in (A : Option Addr) (n c : Nat) (zs : List Int) (z : Int) (y : Nat) (hy : y < 256) (w : World) (hr : Rd w A n (ci64 zs)) (hc2 : c ≤ maxLen) (hc : n ≤ c) (hn : n ≤ 255) :
    Calls Try.prog 4 #[.slice A n c, .int .i64 z, .int .u8 y] w fun e w' => e = .returned (.bool true) ∧ Below w.heap.size w w' := by
  obtain ⟨i0, hi0, hz0, hz1, hz2⟩ := info_parts info_u8
  have hl : zs.length = n := by have h := hr.len; rw [ci64_len] at h; exact h
  have hcm := hc2
  unfold maxLen at hc2
  have h1 : decide (255 < n) = false := by simp; omega
  obtain ⟨bs, hbs⟩ : ∃ bs, putL zs = bs := ⟨_, rfl⟩
  have hbl : bs.length = 1 + 4 * n := by rw [← hbs, putL_len, hl]; omega
  have e5 : 1 + 4 * min n 255 = 1 + 4 * n := by omega
  have hx : bV (UInt8.ofNat y) = .int .u8 y := by simp [bV]; omega
  obtain ⟨x, hxx⟩ : ∃ x, UInt8.ofNat y = x := ⟨_, rfl⟩
  rw [hxx] at hx
  obtain ⟨E, hE⟩ : ∃ E, getVE bs z = E := ⟨_, rfl⟩
  obtain ⟨l, hL⟩ : ∃ l, getV bs z = l := ⟨_, rfl⟩
  obtain ⟨N, hN⟩ : ∃ N, l.length = N := ⟨_, rfl⟩
  obtain ⟨F, hF⟩ : ∃ F, getVE (bs ++ [x]) z = F := ⟨_, rfl⟩
  obtain ⟨lF, hLF⟩ : ∃ l, getV (bs ++ [x]) z = l := ⟨_, rfl⟩
  obtain ⟨NF, hNF⟩ : ∃ N, lF.length = N := ⟨_, rfl⟩
  obtain ⟨K, hK⟩ : ∃ K, getVE (bs.take (4 * n)) z = K := ⟨_, rfl⟩
  obtain ⟨lK, hLK⟩ : ∃ l, getV (bs.take (4 * n)) z = l := ⟨_, rfl⟩
  obtain ⟨NK, hNK⟩ : ∃ N, lK.length = N := ⟨_, rfl⟩
  have HLEN := Lib.hid hl
  have HBS := Lib.hid hbs
  have HBL := Lib.hid hbl
  have HX := Lib.hid hx
  have HE := Lib.hid hE
  have HL := Lib.hid hL
  have HN := Lib.hid hN
  have HF := Lib.hid hF
  have HLF := Lib.hid hLF
  have HNF := Lib.hid hNF
  have HK := Lib.hid hK
  have HLK := Lib.hid hLK
  have HNK := Lib.hid hNK
  have E5 := Lib.hid e5
  clear hl hbs hbl hx hxx hE hL hN hF hLF hNF hK hLK hNK e5
  go_enter Try.func4, Try.ntmps4
  go_wp2_with fail
  refine (alive4_any w).mono ?_
  rintro e w1 ⟨rfl, b1⟩
  have r1 := hr.below b1
  clear hr
  go_wp2_with fail
  refine (put_of A n c zs w1 r1 hc hcm bs HBS.out (1 + 4 * n) E5.out).mono ?_
  rintro e w2 ⟨A2, c2, rfl, o2, b2⟩
  have r2 := r1.below b2
  have B2 := b1.trans (b2.mono b1.size)
  have hcn := o2.le
  have hcm2 := o2.cap
  clear r1 b1 b2
  go_wp2_with fail
  refine (get_of A2 (1 + 4 * n) c2 bs z w2 o2.rd hcn hcm2 E HE.out l HL.out N HN.out).mono ?_
  rintro e w3 ⟨A3, c3, rfl, o3, b3⟩
  have r3 := r2.below b3
  have o23 := o2.below b3
  have B3 := B2.trans (b3.mono B2.size)
  clear r2 o2 b3 B2
  go_wp2_with (at_builtin; go_must (refine wpList_app _ rfl _ _ 27 rfl 5 i0 _ 1 Try.underlying27 hi0 hz0 hz1 hz2 rfl w3.heap.size none 0 0 [] rfl (Own.none_ _ _ _ _) A2 (1 + 4 * n) c2 _ rfl o23.rd (cu8_one _) ?c3 ?c4 ?c5 ?_))
  case c3 => simp only [maxLen]; omega
  case c4 => omega
  case c5 => exact Nat.le_refl _
  intro A4 c4 w4 o4 b4 _ _
  have s4 := b4.size
  have o4' : Own w4 w3.heap.size 5 A4 (1 + 4 * n) c4 (cu8 bs) := by simpa using o4
  clear o4
  go_wp2_with (at_builtin; go_must (refine wpList_app1 _ rfl _ _ 27 rfl 5 i0 _ 1 Try.underlying27 hi0 hz0 hz1 hz2 rfl w3.heap.size A4 (1 + 4 * n) c4 _ rfl o4' 1 rfl rfl ?d3 ?d4 ?d5 ?_))
  case d3 => simp only [maxLen]; omega
  case d4 => omega
  case d5 => exact s4
  intro A5 c5 w5 o5 b5 _ _
  have b35 := b4.trans b5
  have r5 := r3.below b35
  have o25 := o23.below b35
  have o35 := o3.below b35
  have B5 := B3.trans (b35.mono B3.size)
  have o5' : Own w5 w3.heap.size 5 A5 (1 + 4 * n + 1) c5 (cu8 (bs ++ [x])) := by
    rw [cu8_app]
    show Own w5 w3.heap.size 5 A5 (1 + 4 * n + 1) c5 (cu8 bs ++ [bV x])
    rw [HX.out]
    exact o5
  have hc5 := o5'.le
  have hc5m := o5'.cap
  clear r3 o23 o3 b4 b5 B3 o4' o5 b35
  go_wp2_with fail
  refine (get_of A5 (1 + 4 * n + 1) c5 (bs ++ [x]) z w5 o5'.rd hc5 hc5m F HF.out lF HLF.out NF HNF.out).mono ?_
  rintro e w6 ⟨A6, c6, rfl, o6, b6⟩
  have r6 := r5.below b6
  have o26 := o25.below b6
  have o36 := o35.below b6
  have B6 := B5.trans (b6.mono B5.size)
  clear r5 o25 o35 b6 B5 o5' o6
  have o26' := o26.rd.take (hi := 4 * n) (by omega)
  rw [cu8_take] at o26'
  have g1 : (0 : Int) ≤ ((4 * n : Nat) : Int) := by omega
  have g2 : ((4 * n : Nat) : Int) ≤ (c2 : Int) := by omega
  go_wp2_with fail
  refine (get_of A2 (4 * n) c2 (bs.take (4 * n)) z w6 o26' (by omega) hcm2 K HK.out lK HLK.out NK HNK.out).mono ?_
  rintro e w7 ⟨A7, c7, rfl, o7, b7⟩
  have r7 := r6.below b7
  have o37 := o36.below b7
  have B7 := B6.trans (b7.mono B6.size)
  clear r6 o26 o36 b7 B6 o26' o7 g1 g2
  by_cases ha : z < 1 ∨ 8 < z
  · obtain rfl : E = 1 := by rw [← HE.out]; exact getVE_arg ha
    obtain rfl : F = 1 := by rw [← HF.out]; exact getVE_arg ha
    obtain rfl : K = 1 := by rw [← HK.out]; exact getVE_arg ha
    clear o37 r7
    rcases ha with ha | ha
    · have t1 : decide (z < 1) = true := by simpa using ha
      go_wp2
      go_ret
      exact ⟨rfl, B7⟩
    · have t1 : decide (z < 1) = false := by simp; omega
      have t2 : decide (8 < z) = true := by simpa using ha
      go_wp2
      go_ret
      exact ⟨rfl, B7⟩
  · have t1 : decide (z < 1) = false := by simp; omega
    have t2 : decide (8 < z) = false := by simp; omega
    have hle : zs.length ≤ 255 := by rw [HLEN.out]; exact hn
    obtain rfl : F = 4 := by rw [← HF.out, ← HBS.out]; exact back_form zs hle z ha x
    obtain rfl : K = 5 := by rw [← HK.out, ← HBS.out, ← HLEN.out]; exact back_short zs hle z ha
    obtain ⟨k1, k2⟩ := back_all zs hle z ha
    rw [HBS.out] at k1 k2
    by_cases hm : mayB (zs.map fun z => z % 4294967296) z = true
    · obtain ⟨k3, k4⟩ := k1 hm
      obtain rfl : E = 0 := by rw [← HE.out]; exact k3
      have hlm : l = zs.map fun z => z % 4294967296 := by rw [← HL.out]; exact k4
      have hNn : N = n := by rw [← HN.out, hlm, List.length_map, HLEN.out]
      have hml : mayB l z = true := by rw [hlm]; exact hm
      subst hNn
      by_cases hb : mayB zs z = true
      · have heq : l = zs := by rw [hlm]; exact mod_may ((mayB_iff _ _).1 hb).2.2.2
        subst heq
        clear k1 k2 k3 k4 hm hlm hml ha hle
        go_wp2_with fail
        refine (check_of A N c l z w7 r7 true hb).mono ?_
        rintro e w8 ⟨rfl, b8⟩
        have r8 := r7.below b8
        have o38 := o37.below b8
        have B8 := B7.trans (b8.mono B7.size)
        clear r7 o37 b8 B7 hb
        go_wp2_with fail
        refine (sameints_eq A3 N c3 l A c w8 o38.rd r8 (by simp only [maxLen]; omega)).mono ?_
        rintro e w9 ⟨rfl, b9⟩
        have B9 := B8.trans (b9.mono B8.size)
        clear r8 o38 b9 B8
        go_wp2
        go_ret
        exact ⟨rfl, B9⟩
      · have hbf : mayB zs z = false := by simpa using hb
        clear k1 k2 k3 k4 hm hlm ha hle hb
        go_wp2_with fail
        refine (check_of A N c zs z w7 r7 false hbf).mono ?_
        rintro e w8 ⟨rfl, b8⟩
        have o38 := o37.below b8
        have B8 := B7.trans (b8.mono B7.size)
        clear r7 o37 b8 B7 hbf
        go_wp2_with fail
        refine (check_of A3 N c3 l z w8 o38.rd true hml).mono ?_
        rintro e w9 ⟨rfl, b9⟩
        have B9 := B8.trans (b9.mono B8.size)
        clear o38 b9 B8 hml
        go_wp2
        go_ret
        exact ⟨rfl, B9⟩
    · have hmf : mayB (zs.map fun z => z % 4294967296) z = false := by simpa using hm
      obtain ⟨k3, k4⟩ := k2 hmf
      obtain rfl : E = 4 := by rw [← HE.out]; exact k3
      have hbf : mayB zs z = false := by
        rw [Bool.eq_false_iff]
        intro hb
        rw [mod_may ((mayB_iff _ _).1 hb).2.2.2] at hm
        exact hm hb
      clear k1 k2 k3 k4 hm hmf ha hle
      go_wp2_with fail
      refine (check_of A n c zs z w7 r7 false hbf).mono ?_
      rintro e w8 ⟨rfl, b8⟩
      have B8 := B7.trans (b8.mono B7.size)
      clear r7 o37 b8 B7 hbf
      go_wp2
      go_ret
      exact ⟨rfl, B8⟩

theorem walk (A : Option Addr) (n c : Nat) (zs : List Int) (z : Int) (hz1 : -9223372036854775808 ≤ z) (hz2 : z ≤ 9223372036854775807) (y : Nat) (hy : y < 256) (w : World) (hr : Rd w A n (ci64 zs)) (hc2 : c ≤ maxLen) (hc : n ≤ c) :
    Calls Try.prog 4 #[.slice A n c, .int .i64 z, .int .u8 y] w fun e w' => e = .returned (.bool true) ∧ Below w.heap.size w w' := by
  by_cases h : n ≤ 255
  · exact walk_in A n c zs z y hy w hr hc2 hc h
  · exact walk_out A n c z y w hc2 hc (by omega)

theorem own : ownKnob Try.prog.godebug = none := by kernel_rfl
theorem laidOut : laidOutB Try.prog = true := by kernel_rfl

set_option maxRecDepth 100000 in
theorem lifted (os : Os) (started : os.Started) (H : Type) (enc : TypeId × Value → H) :
    ReturnsInHanded {} Try.checked os 4 .any (Rows.vectorsBackSpec.pre6 enc Try.prog Try.f4 Rows.vectorsBackRow.domain false) (Rows.vectorsBackSpec.post enc Try.prog Try.f4 false true false false) := by
  refine returnsInHanded_of_change (C := Try.checked) own started (by kernel_rfl) Try.func4
    (ChangeSpec.witness6 (enc := enc) (C := Try.checked) false ⟨#[], #[.slice none 0 0, .int .i64 0, .int .u8 0], []⟩ 8 (by kernel_rfl) (by kernel_rfl) (by kernel_rfl) (by kernel_rfl)) ?_
  intro W base args ds gs before hval0 hW hcnd _
  have hval : ∀ (j : Nat) t v, Try.f4.params[j]? = some t → args[j]? = some v → Value.okWide Try.prog W .any base t v := hval0
  have hW' := hW
  obtain ⟨p, q, hA0, hV, rfl, hfz, hnd⟩ := hW
  have hA : DataW.TrodAll enc Try.prog W 0 (fun _ => true) true Try.f4.params.toList args.toList ds p := hA0
  rw [Try.params4] at hA hval
  obtain ⟨v0, vs0, d0, ds0, p0, q0, hargs, rfl, rfl, h0, r0⟩ := trodAll_cons hA
  obtain ⟨v1, vs1, d1, ds1, p1, q1, rfl, rfl, rfl, h1, r1⟩ := trodAll_cons r0
  obtain ⟨v2, vs2, d2, ds2, p2, q2, rfl, rfl, rfl, h2, r2⟩ := trodAll_cons r1
  obtain ⟨rfl, rfl, rfl⟩ := trodAll_nil r2
  obtain rfl : args = #[v0, v1, v2] := by cases args; simp_all
  obtain ⟨A0, n0, c0, l0, rfl, a0, b0, e0, g0⟩ := arg_i64s Try.underlying23 Try.underlying3 (by kernel_rfl) (hval 0 23 v0 rfl rfl) h0
  obtain ⟨x1, rfl, rfl, rfl, w1⟩ := open_int Try.underlying3 (hval 1 3 v1 rfl rfl) h1
  have y1 := bounds_i64 w1
  obtain ⟨x2, rfl, rfl, rfl, w2⟩ := open_int Try.underlying5 (hval 2 5 v2 rfl rfl) h2
  obtain ⟨y2, rfl, z2⟩ := fit_u8 w2
  have hwalk : Calls Try.prog 4 #[.slice A0 n0 c0, .int .i64 x1, .int .u8 y2] W fun e w' => e = .returned (.bool true) ∧ Below W.heap.size W w' := walk A0 n0 c0 l0 x1 y1.1 y1.2 y2 z2 W a0 e0 b0
  refine hwalk.mono fun e W' ⟨he, hg⟩ => ?_
  subst he
  exact ⟨_, rfl, law_post laidOut (by kernel_rfl) hW' rfl rfl (by kernel_rfl) Try.underlying4 hg⟩

theorem over : Rows.vectorsBackRow.holds Try.pinned (OpenSpec.ofChange Rows.vectorsBackSpec) :=
  OpenClaim.holds_of_wide 4 Try.f4 rfl rfl rfl rfl rfl rfl rfl ⟨rfl, rfl, rfl, rfl, rfl⟩ rfl rfl rfl rfl rfl (by kernel_rfl) Try.func4 (by kernel_rfl)
    (of_decide_eq_true (by kernel_rfl)) (by unfold Func.isWrapper; first | (rw [if_pos (by decide +kernel)]; kernel_rfl) | (rw [if_neg (by decide +kernel)]; exact ⟨rfl, rfl⟩))
    (fun os started H enc _ => lifted os started H enc)

theorem proved : Rows.VectorsBackSaid :=
  over

end Go.Proofs.Ytbcfncdmkgoidaa.vectorsBack
