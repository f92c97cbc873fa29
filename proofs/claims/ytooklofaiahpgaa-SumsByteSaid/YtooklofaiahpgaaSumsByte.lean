/-
  Proved: salesroomlaw02.SumsByte answers true, for any bytes, any place and any byte, in whatever memory. No conditions.
-/
import Derived.Test.YtooklofaiahpgaaRows
import Derived.Test.YtooklofaiahpgaaAlive2
import Derived.Test.YtooklofaiahpgaaLift
import Derived.Test.YtooklofaiahpgaaReg2
namespace Go.Proofs.Ytooklofaiahpgaa.sumsByte
open Go.ChangeShapes Go.WideShapes Go.ChangeAt Go.RowKit
set_option linter.unusedVariables false

theorem info_u8 : (Try.prog.info? 5).map (fun i => (i.zero, i.size, i.bytes)) = some (some (.int .u8 0), 1, 1) := by kernel_rfl

set_option maxRecDepth 100000 in
set_option maxHeartbeats 1000000 in
theorem walk_long (A : Option Addr) (n c : Nat) (y C : Nat) (w : World) (hc2 : c ≤ maxLen) (hc : n ≤ c) (hn : n = 0 ∨ 50000 < n) :
    Calls Try.prog 5 #[.slice A n c, .int .u16 y, .int .u8 C] w fun e w' => e = .returned (.bool true) ∧ Below w.heap.size w w' := by
  unfold maxLen at hc2
  rcases hn with rfl | hn
  · go_enter Try.func5, Try.ntmps5
    go_wp2_with fail
    refine (alive2_any _).mono ?_
    rintro e w1 ⟨rfl, hb1⟩
    go_wp2
    go_ret
    exact ⟨rfl, hb1⟩
  · have h0 : ((n : Int) == 0) = false := by rw [beq_eq_false_iff_ne]; omega
    have h1 : decide (50000 < n) = true := by simpa using hn
    go_enter Try.func5, Try.ntmps5
    go_wp2_with fail
    refine (alive2_any _).mono ?_
    rintro e w1 ⟨rfl, hb1⟩
    go_wp2
    go_ret
    exact ⟨rfl, hb1⟩

theorem rd_of {w w' : World} {B : Nat} {A : Option Addr} {n : Nat} {xs : List Value} (h : Rd w A n xs) (hb : Below B w w') (hlt : ∀ b o, A = some ⟨b, o, none⟩ → b < B) : Rd w' A n xs :=
  h.keep fun b o hA _ => hb.block b (hlt b o hA)
theorem rd_at {w w' : World} {B b o n : Nat} {xs : List Value} (h : Rd w (some ⟨b, o, none⟩) n xs) (hb : Below B w w') (hlt : b < B) : Rd w' (some ⟨b, o, none⟩) n xs :=
  h.keep fun b' o' hA _ => by cases hA; exact hb.block b hlt

set_option maxRecDepth 100000 in
set_option maxHeartbeats 2000000 in
theorem walk_short (A : Option Addr) (n c : Nat) (bs : List UInt8) (y : Nat) (hy : y < 65536) (C : UInt8) (w : World) (hr : Rd w A n (cu8 bs)) (hc2 : c ≤ maxLen) (hc : n ≤ c) (hn0 : 0 < n) (hn : n ≤ 50000) :
    Calls Try.prog 5 #[.slice A n c, .int .u16 y, .int .u8 C.toNat] w fun e w' => e = .returned (.bool true) ∧ Below w.heap.size w w' := by
  obtain ⟨i0, hi0, hz0, hz1, hz2⟩ := info_parts info_u8
  have hl : bs.length = n := by have h := hr.len; rw [cu8_len] at h; exact h
  have HL := Lib.hid hl
  have h0 : ((n : Int) == 0) = false := by rw [beq_eq_false_iff_ne]; omega
  have h1 : decide (50000 < n) = false := by simp; omega
  have hmod : (y : Int) % (n : Int) = ((y % n : Nat) : Int) := (Int.natCast_emod _ _).symm
  have hk : y % n < n := Nat.mod_lt _ hn0
  generalize y % n = k at hmod hk
  have hkl : k < bs.length := by rw [HL.out]; exact hk
  have HB := Lib.hid (sumF_byte 2166136261 (by omega) bs k hkl C)
  obtain ⟨b0, o0, rfl, hb0, u0, hu0, hcell⟩ := hr.get hk
  rw [cu8_get bs k hkl] at hu0
  obtain rfl : bV bs[k] = u0 := by injection hu0
  have hcell' : w.cell? ⟨b0, o0 + k, none⟩ = some (.int .u8 bs[k].toNat) := hcell
  clear hl hcell hu0
  have hcm := hc2
  unfold maxLen at hc2
  have g1 : (0 : Int) ≤ (k : Int) := by omega
  have g2 : (k : Int) ≤ (c : Int) := by omega
  have g3 : (k : Int) + 1 ≤ (n : Int) := by omega
  have g4 : (0 : Int) ≤ (k : Int) + 1 := by omega
  have g5 : (n : Int) ≤ (c : Int) := by omega
  have q1 : Rd w (some ⟨b0, o0, none⟩) k (cu8 (bs.take k)) := by have h := hr.take (hi := k) (by omega); rw [cu8_take] at h; exact h
  go_enter Try.func5, Try.ntmps5
  go_wp2_with fail

  have s1 : IntKind.i64.wrap ((k : Int) + 1) = (k : Int) + 1 := IntWalk.i64_in _ (by omega)
  have q2 : Rd w (if c = k + 1 then some (⟨b0, o0, none⟩ : Addr) else some ⟨b0, o0 + (k + 1), none⟩) (n - (k + 1)) (cu8 (bs.drop (k + 1))) := by
    split
    · rw [List.drop_of_length_le (by rw [HL.out]; omega), show n - (k + 1) = 0 by omega]
      exact Rd.nil _ _
    · have h := hr.cut_at (lo := k + 1) (hi := n) (by omega) (by omega)
      rw [cu8_drop, cu8_take, List.take_of_length_le (by rw [List.length_drop, HL.out]; exact Nat.le_refl _)] at h
      exact h
  have q5 : ∀ b o, (if c = k + 1 then some (⟨b0, o0, none⟩ : Addr) else some ⟨b0, o0 + (k + 1), none⟩) = some ⟨b, o, none⟩ → b < w.heap.size := by
    intro b o h
    split at h <;> (cases h; exact hb0)
  refine wp_region_tr (S := fun _ => True) (.q 0 (.q 1 (.q 2 (.q 4 (.q 7 (.q 8 (.q 9 (.q 10 (.b 3 5 (.d 5 (.d 6 (.d 11 (.q 12 .nil)))) (.d 3 (.d 6 (.d 11 (.q 12 .nil))))))))))))) default (by kernel_rfl) (by kernel_rfl) (by kernel_rfl) trivial ?_
  simp only [getTr, nth]
  repeat (first | (refine trS (by rfl) ?_; simp only [Act.put, List.setIfInBounds_toArray, List.set_cons_zero, List.set_cons_succ]) | (refine trN (by rfl) ?_; simp only [Act.put, List.setIfInBounds_toArray, List.set_cons_zero, List.set_cons_succ]) | (refine trQ (v := ?_) (by rfl) (fun _ hSw => ?_) ?_; rotate_left; (focus (go_simp; (first | done | with_reducible rfl))); simp only [Act.put, List.setIfInBounds_toArray, List.set_cons_zero, List.set_cons_succ]))
  generalize (if c = k + 1 then some (⟨b0, o0, none⟩ : Addr) else some ⟨b0, o0 + (k + 1), none⟩) = A5 at q2 q5 ⊢
  refine trB ?_ ?_
  refine trD (by rfl) ?_
  intro K hK
  refine wp_app _ _ _ _ rfl 5 i0 _ 1 Try.underlying22 hi0 hz0 hz1 hz2 rfl (w.heap.size) none 0 0 [] (by rfl) (Own.none_ _ _ _ _) _ k c _ (by rfl) (q1.drew) (cu8_one _) (by simp only [maxLen]; omega) (by omega) (Nat.le_refl _) ?_
  intro A1 c1 w1 h1o h1b h1f h1a
  refine hK _ _ trivial ?_
  clear hK K
  rw [Nat.zero_add, List.nil_append] at h1o
  simp only [Nat.zero_add]
  simp only [Act.put, List.setIfInBounds_toArray, List.set_cons_zero, List.set_cons_succ]
  refine trD (by rfl) ?_
  intro K hK
  go_simp
  refine hK _ _ trivial ?_
  clear hK K
  try simp only [Act.put, List.setIfInBounds_toArray, List.set_cons_zero, List.set_cons_succ]
  refine trD (by rfl) ?_
  intro K hK
  refine wp_app _ _ _ _ rfl 5 i0 _ 1 Try.underlying22 hi0 hz0 hz1 hz2 rfl (w.heap.size) A1 k c1 _ (by rfl) (h1o.alloc _) _ 1 1 _ (by rfl) (rd_lit w1 _ _ _ 1 _ rfl [C] rfl rfl) (cu8_one _) (by simp only [maxLen]; omega) (by omega) (by have h := h1b.size; simp at h ⊢; omega) ?_
  intro A2 c2 w2 h2o h2b h2f h2a
  refine hK _ _ trivial ?_
  clear hK K
  simp only [Act.put, List.setIfInBounds_toArray, List.set_cons_zero, List.set_cons_succ]
  have q3 := rd_of ((rd_of q2.drew h1b q5).alloc _) h2b q5
  refine trD (by rfl) ?_
  intro K hK
  refine wp_app _ _ _ _ rfl 5 i0 _ 1 Try.underlying22 hi0 hz0 hz1 hz2 rfl (w.heap.size) A2 (k + 1) c2 _ (by rfl) (h2o) _ (n - (k + 1)) (c - (k + 1)) _ (by rfl) (q3) (cu8_one _) (by simp only [maxLen]; omega) (by omega) (by have h := h1b.size; have h2 := h2b.size; simp at h h2 ⊢; omega) ?_
  intro A3 c3 w3 h3o h3b h3f h3a
  refine hK _ _ trivial ?_
  clear hK K
  simp only [Act.put, List.setIfInBounds_toArray, List.set_cons_zero, List.set_cons_succ]
  repeat (first | (refine trS (by rfl) ?_; simp only [Act.put, List.setIfInBounds_toArray, List.set_cons_zero, List.set_cons_succ]) | (refine trN (by rfl) ?_; simp only [Act.put, List.setIfInBounds_toArray, List.set_cons_zero, List.set_cons_succ]) | (refine trQ (v := ?_) (by rfl) (fun _ hSw => ?_) ?_; rotate_left; (focus (go_simp; (first | done | with_reducible rfl))); simp only [Act.put, List.setIfInBounds_toArray, List.set_cons_zero, List.set_cons_succ]))
  refine trE ?_
  have hB : Below w.heap.size w w3 := (((Below.refl _ w).drew.trans h1b).alloc (by have h := h1b.size; simpa using h) _).trans (h2b.trans h3b)
  have ho := h3o
  clear h1o h1b h1f h1a h2o h2b h2f h2a h3o h3b h3f h3a q3
  rotate_left
  refine trD (by rfl) ?_
  intro K hK
  go_simp
  refine hK _ _ trivial ?_
  clear hK K
  try simp only [Act.put, List.setIfInBounds_toArray, List.set_cons_zero, List.set_cons_succ]
  refine trD (by rfl) ?_
  intro K hK
  refine wp_app _ _ _ _ rfl 5 i0 _ 1 Try.underlying22 hi0 hz0 hz1 hz2 rfl (w.heap.size + 1) none 0 0 [] (by rfl) (Own.none_ _ _ _ _) _ k c _ (by rfl) ((q1.drew).alloc _) (cu8_one _) (by simp only [maxLen]; omega) (by omega) (by simp) ?_
  intro A1 c1 w1 h1o h1b h1f h1a
  refine hK _ _ trivial ?_
  clear hK K
  rw [Nat.zero_add, List.nil_append] at h1o
  simp only [Nat.zero_add]
  simp only [Act.put, List.setIfInBounds_toArray, List.set_cons_zero, List.set_cons_succ]
  refine trD (by rfl) ?_
  intro K hK
  refine wp_app _ _ _ _ rfl 5 i0 _ 1 Try.underlying22 hi0 hz0 hz1 hz2 rfl (w.heap.size + 1) A1 k c1 _ (by rfl) (h1o) _ 1 1 _ (by rfl) (rd_at (rd_lit w.drew _ _ _ 1 w.heap.size rfl [C] rfl rfl) h1b (by omega)) (cu8_one _) (by simp only [maxLen]; omega) (by omega) (by have h := h1b.size; simp at h; omega) ?_
  intro A2 c2 w2 h2o h2b h2f h2a
  refine hK _ _ trivial ?_
  clear hK K
  simp only [Act.put, List.setIfInBounds_toArray, List.set_cons_zero, List.set_cons_succ]
  have q3 := rd_of (rd_of (q2.drew.alloc _) h1b (fun b o h => Nat.lt_succ_of_lt (q5 b o h))) h2b (fun b o h => Nat.lt_succ_of_lt (q5 b o h))
  refine trD (by rfl) ?_
  intro K hK
  refine wp_app _ _ _ _ rfl 5 i0 _ 1 Try.underlying22 hi0 hz0 hz1 hz2 rfl (w.heap.size + 1) A2 (k + 1) c2 _ (by rfl) (h2o) _ (n - (k + 1)) (c - (k + 1)) _ (by rfl) (q3) (cu8_one _) (by simp only [maxLen]; omega) (by omega) (by have h := h1b.size; have h2 := h2b.size; simp at h h2; omega) ?_
  intro A3 c3 w3 h3o h3b h3f h3a
  refine hK _ _ trivial ?_
  clear hK K
  simp only [Act.put, List.setIfInBounds_toArray, List.set_cons_zero, List.set_cons_succ]
  repeat (first | (refine trS (by rfl) ?_; simp only [Act.put, List.setIfInBounds_toArray, List.set_cons_zero, List.set_cons_succ]) | (refine trN (by rfl) ?_; simp only [Act.put, List.setIfInBounds_toArray, List.set_cons_zero, List.set_cons_succ]) | (refine trQ (v := ?_) (by rfl) (fun _ hSw => ?_) ?_; rotate_left; (focus (go_simp; (first | done | with_reducible rfl))); simp only [Act.put, List.setIfInBounds_toArray, List.set_cons_zero, List.set_cons_succ]))
  refine trE ?_
  have hB : Below w.heap.size w w3 := ((Below.refl _ w).drew.alloc (Nat.le_refl _) _).trans ((h1b.trans (h2b.trans h3b)).mono (Nat.le_succ _))
  have ho := h3o.mono (show w.heap.size ≤ w.heap.size + 1 by omega)
  clear h1o h1b h1f h1a h2o h2b h2f h2a h3o h3b h3f h3a q3

  all_goals
    have hlen : k + 1 + (n - (k + 1)) = n := by omega
    rw [hlen] at ho
    simp only [hlen]
    clear hlen q1 q2 q5 s1 g1 g2 g3 g4 g5
    obtain ⟨β, f1, f2⟩ : ∃ β : Bool, (((sumF 2166136261 ((bs.take k ++ [C]) ++ bs.drop (k + 1)) : Nat) : Int) == ((sumF 2166136261 bs : Nat) : Int)) = β ∧ ((C.toNat : Int) == (bs[k].toNat : Int)) = β := by
      have hb := HB.out
      by_cases hC : C = bs[k]
      · refine ⟨true, ?_, ?_⟩
        · rw [beq_iff_eq, hb.2 hC]
        · rw [beq_iff_eq, hC]
      · refine ⟨false, ?_, ?_⟩
        · rw [beq_eq_false_iff_ne]
          intro h
          exact hC (hb.1 (by omega))
        · rw [beq_eq_false_iff_ne]
          intro h
          exact hC (UInt8.toNat_inj.1 (by omega))
    have ho' : Rd w3 A3 n (cu8 ((bs.take k ++ [C]) ++ bs.drop (k + 1))) := by rw [cu8_app, cu8_app]; exact ho.rd
    have hr3 := hr.below hB
    have hc3 : w3.cell? ⟨b0, o0 + k, none⟩ = some (.int .u8 bs[k].toNat) := by rw [hB.cell (p := ⟨b0, o0 + k, none⟩) hb0]; exact hcell'
    have hb3 : b0 < w3.heap.size := Nat.lt_of_lt_of_le hb0 hB.size
    clear ho hcell'
    go_wp2_with fail
    refine wp_region_ord (S := fun w' => w'.cell? ⟨b0, o0 + k, none⟩ = some (.int .u8 bs[k].toNat)) [(0, false), (1, true), (2, true), (4, true), (7, true), (8, true), (9, true), (10, true), (11, true), (12, true), (3, false), (5, false), (6, true), (13, true), (14, true), (15, true)] default (by kernel_rfl) (by kernel_rfl) (by kernel_rfl) hc3 ?_
    simp only [getOrd, nth]
    refine ordD (by rfl) ?_
    intro K hK
    go_simp
    refine (alive2_any _).mono ?_
    rintro e w4 ⟨rfl, hb4⟩
    have hc4 : w4.cell? ⟨b0, o0 + k, none⟩ = some (.int .u8 bs[k].toNat) := by rw [hb4.cell (p := ⟨b0, o0 + k, none⟩) hb3]; exact hc3
    have hr4 := hr3.drew.below hb4
    have ho4 := ho'.drew.below hb4
    have hb4' : b0 < w4.heap.size := Nat.lt_of_lt_of_le hb3 hb4.size
    have hB4 : Below w.heap.size w w4 := hB.drew.trans (hb4.mono hB.size)
    go_wp2_with fail
    refine hK _ _ hc4 ?_
    clear hK K hb4 hc3 hr3 ho' hb3 hB
    try simp only [Act.put, List.setIfInBounds_toArray, List.set_cons_zero, List.set_cons_succ]
    repeat (first | (refine ordS (by rfl) ?_; simp only [Act.put, List.setIfInBounds_toArray, List.set_cons_zero, List.set_cons_succ]) | (refine ordN (by rfl) ?_; simp only [Act.put, List.setIfInBounds_toArray, List.set_cons_zero, List.set_cons_succ]) | (refine ordQ (v := ?_) (by rfl) (fun _ hSw => ?_) ?_; rotate_left; (focus (go_simp; (first | done | with_reducible rfl))); simp only [Act.put, List.setIfInBounds_toArray, List.set_cons_zero, List.set_cons_succ]))
    refine ordD (by rfl) ?_
    intro K hK
    go_simp
    refine (of_any A3 n c3 _ w4 ho4 (by omega)).mono ?_
    rintro e w5 ⟨rfl, hb5⟩
    have hc5 : w5.cell? ⟨b0, o0 + k, none⟩ = some (.int .u8 bs[k].toNat) := by rw [hb5.cell (p := ⟨b0, o0 + k, none⟩) hb4']; exact hc4
    have hr5 := hr4.below hb5
    have hB5 := hB4.trans (hb5.mono hB4.size)
    have hb5' : b0 < w5.heap.size := Nat.lt_of_lt_of_le hb4' hb5.size
    generalize sumF 2166136261 ((bs.take k ++ [C]) ++ bs.drop (k + 1)) = T1 at f1 ⊢
    go_wp2_with fail
    refine hK _ _ hc5 ?_
    clear hK K hb5 hc4 hr4 ho4 hb4' hB4
    try simp only [Act.put, List.setIfInBounds_toArray, List.set_cons_zero, List.set_cons_succ]
    repeat (first | (refine ordS (by rfl) ?_; simp only [Act.put, List.setIfInBounds_toArray, List.set_cons_zero, List.set_cons_succ]) | (refine ordN (by rfl) ?_; simp only [Act.put, List.setIfInBounds_toArray, List.set_cons_zero, List.set_cons_succ]) | (refine ordQ (v := ?_) (by rfl) (fun _ hSw => ?_) ?_; rotate_left; (focus (go_simp; (first | done | with_reducible rfl))); simp only [Act.put, List.setIfInBounds_toArray, List.set_cons_zero, List.set_cons_succ]))
    refine ordD (by rfl) ?_
    intro K hK
    go_simp
    refine (of_any _ n c bs w5 hr5 (by omega)).mono ?_
    rintro e w6 ⟨rfl, hb6⟩
    have hc6 : w6.cell? ⟨b0, o0 + k, none⟩ = some (.int .u8 bs[k].toNat) := by rw [hb6.cell (p := ⟨b0, o0 + k, none⟩) hb5']; exact hc5
    have hB6 := hB5.trans (hb6.mono hB5.size)
    generalize sumF 2166136261 bs = T2 at f1 ⊢
    go_wp2_with fail
    refine hK _ _ hc6 ?_
    clear hK K hb6 hc5 hr5 hb5' hB5
    try simp only [Act.put, List.setIfInBounds_toArray, List.set_cons_zero, List.set_cons_succ]
    repeat (first | (refine ordS (by rfl) ?_; simp only [Act.put, List.setIfInBounds_toArray, List.set_cons_zero, List.set_cons_succ]) | (refine ordN (by rfl) ?_; simp only [Act.put, List.setIfInBounds_toArray, List.set_cons_zero, List.set_cons_succ]) | (refine ordQ (v := ?_) (by rfl) (fun _ hSw => ?_) ?_; rotate_left; (focus (go_simp; (first | done | with_reducible rfl))); simp only [Act.put, List.setIfInBounds_toArray, List.set_cons_zero, List.set_cons_succ]))
    refine ordE ?_
    go_wp2
    go_ret
    exact ⟨by simp, hB6⟩

theorem walk (A : Option Addr) (n c : Nat) (bs : List UInt8) (y : Nat) (hy : y < 65536) (C : Nat) (hC : C < 256) (w : World) (hr : Rd w A n (cu8 bs)) (hc2 : c ≤ maxLen) (hc : n ≤ c) :
    Calls Try.prog 5 #[.slice A n c, .int .u16 y, .int .u8 C] w fun e w' => e = .returned (.bool true) ∧ Below w.heap.size w w' := by
  obtain ⟨C', rfl⟩ : ∃ C' : UInt8, C = C'.toNat := ⟨UInt8.ofNat C, by simp; omega⟩
  by_cases hn : n ≤ 50000
  · by_cases hn0 : 0 < n
    · exact walk_short A n c bs y hy C' w hr hc2 hc hn0 hn
    · exact walk_long A n c y _ w hc2 hc (.inl (by omega))
  · exact walk_long A n c y _ w hc2 hc (.inr (by omega))

theorem own : ownKnob Try.prog.godebug = none := by kernel_rfl
theorem laidOut : laidOutB Try.prog = true := by kernel_rfl

set_option maxRecDepth 100000 in
theorem lifted (os : Os) (started : os.Started) (H : Type) (enc : TypeId × Value → H) :
    ReturnsInHanded {} Try.checked os 5 .any (Rows.sumsByteSpec.pre6 enc Try.prog Try.f5 Rows.sumsByteRow.domain false) (Rows.sumsByteSpec.post enc Try.prog Try.f5 false true false false) := by
  refine returnsInHanded_of_change (C := Try.checked) own started (by kernel_rfl) Try.func5
    (ChangeSpec.witness6 (enc := enc) (C := Try.checked) false ⟨#[], #[.slice none 0 0, .int .u16 0, .int .u8 0], []⟩ 8 (by kernel_rfl) (by kernel_rfl) (by kernel_rfl) (by kernel_rfl)) ?_
  intro W base args ds gs before hval0 hW hcnd _
  have hval : ∀ (j : Nat) t v, Try.f5.params[j]? = some t → args[j]? = some v → Value.okWide Try.prog W .any base t v := hval0
  have hW' := hW
  obtain ⟨p, q, hA0, hV, rfl, hfz, hnd⟩ := hW
  have hA : DataW.TrodAll enc Try.prog W 0 (fun _ => true) true Try.f5.params.toList args.toList ds p := hA0
  rw [Try.params5] at hA hval
  obtain ⟨v0, vs0, d0, ds0, p0, q0, hargs, rfl, rfl, h0, r0⟩ := trodAll_cons hA
  obtain ⟨v1, vs1, d1, ds1, p1, q1, rfl, rfl, rfl, h1, r1⟩ := trodAll_cons r0
  obtain ⟨v2, vs2, d2, ds2, p2, q2, rfl, rfl, rfl, h2, r2⟩ := trodAll_cons r1
  obtain ⟨rfl, rfl, rfl⟩ := trodAll_nil r2
  obtain rfl : args = #[v0, v1, v2] := by cases args; simp_all
  obtain ⟨A0, n0, c0, l0, rfl, a0, b0, e0⟩ := arg_u8s Try.underlying22 Try.underlying5 (by kernel_rfl) (hval 0 22 v0 rfl rfl) h0
  obtain ⟨x1, rfl, rfl, rfl, w1⟩ := open_int Try.underlying31 (hval 1 31 v1 rfl rfl) h1
  obtain ⟨y1, rfl, z1⟩ := fit_u16 w1
  obtain ⟨x2, rfl, rfl, rfl, w2⟩ := open_int Try.underlying5 (hval 2 5 v2 rfl rfl) h2
  obtain ⟨y2, rfl, z2⟩ := fit_u8 w2
  have hwalk : Calls Try.prog 5 #[.slice A0 n0 c0, .int .u16 y1, .int .u8 y2] W fun e w' => e = .returned (.bool true) ∧ Below W.heap.size W w' := walk A0 n0 c0 l0 y1 z1 y2 z2 W a0 e0 b0
  refine hwalk.mono fun e W' ⟨he, hg⟩ => ?_
  subst he
  exact ⟨_, rfl, law_post laidOut (by kernel_rfl) hW' rfl rfl (by kernel_rfl) Try.underlying4 hg⟩

theorem over : Rows.sumsByteRow.holds Try.pinned (OpenSpec.ofChange Rows.sumsByteSpec) :=
  OpenClaim.holds_of_wide 5 Try.f5 rfl rfl rfl rfl rfl rfl rfl ⟨rfl, rfl, rfl, rfl, rfl⟩ rfl rfl rfl rfl rfl (by kernel_rfl) Try.func5 (by kernel_rfl)
    (of_decide_eq_true (by kernel_rfl)) (by unfold Func.isWrapper; first | (rw [if_pos (by decide +kernel)]; kernel_rfl) | (rw [if_neg (by decide +kernel)]; exact ⟨rfl, rfl⟩))
    (fun os started H enc _ => lifted os started H enc)

theorem proved : Rows.SumsByteSaid :=
  over
end Go.Proofs.Ytooklofaiahpgaa.sumsByte
