/-
  Each part of so many, by bits: the laws' own.
-/
import Derived.Test.YtcjfgkihmhdhlaaMaO
import Derived.Test.YtcjfgkihmhdhlaaGrL
namespace Go.Proofs.Ytcjfgkihmhdhlaa
open Go.RowKit
set_option linter.unusedVariables false

theorem infoM_int : (Try.prog.info? 3).map (fun i => (i.zero, i.size, i.bytes)) = some (some (.int .i64 0), 1, 8) := by kernel_rfl
theorem infoM_ints : (Try.prog.info? 25).map (fun i => (i.zero, i.size, i.bytes)) = some (some (.slice none 0 0), 1, 24) := by kernel_rfl
/-- One bit. -/
theorem bits_and1_i64 (a : Nat) (ha : a < 1000000) : bits .and .i64 (a : Int) 1 = ((a % 2 : Nat) : Int) := by
  have h1 : (BitVec.ofInt 64 (a : Int)).toNat = a := by
    rw [BitVec.ofInt_natCast, BitVec.toNat_ofNat]; exact Nat.mod_eq_of_lt (by omega)
  have h2 : (BitVec.ofInt 64 (1 : Int)).toNat = 1 := by decide
  show IntKind.i64.wrap ((BitVec.ofInt 64 (a : Int) &&& BitVec.ofInt 64 (1 : Int)).toNat : Int) = _
  rw [BitVec.toNat_and, h1, h2, Nat.and_one_is_mod, IntKind.wrap_i64]
  omega
theorem bits_and1_u8 (a : Nat) (ha : a < 256) : bits .and .u8 (a : Int) 1 = ((a % 2 : Nat) : Int) := by
  have h1 : (BitVec.ofInt 8 (a : Int)).toNat = a := by
    rw [BitVec.ofInt_natCast, BitVec.toNat_ofNat]; exact Nat.mod_eq_of_lt (by omega)
  have h2 : (BitVec.ofInt 8 (1 : Int)).toNat = 1 := by decide
  show IntKind.u8.wrap ((BitVec.ofInt 8 (a : Int) &&& BitVec.ofInt 8 (1 : Int)).toNat : Int) = _
  rw [BitVec.toNat_and, h1, h2, Nat.and_one_is_mod, IntKind.wrap_u8]
  omega
theorem bit_nat (p j : Nat) : (((p / 2 ^ j % 2 : Nat) : Int) == 1) = p.testBit j := by
  rw [Nat.testBit_eq_decide_div_mod_eq, Bool.eq_iff_iff, beq_iff_eq, decide_eq_true_eq]
  omega
theorem bit_i64 (p j : Nat) (hp : p < 1000000) : (bits .and .i64 ((p : Int) / 2 ^ j) 1 == 1) = p.testBit j := by
  have h1 : (p : Int) / 2 ^ j = ((p / 2 ^ j : Nat) : Int) := by simp
  have h2 := Nat.div_le_self p (2 ^ j)
  rw [h1, bits_and1_i64 _ (by omega)]
  exact bit_nat p j
theorem bit_u8 (p j : Nat) (hp : p < 256) : (bits .and .u8 ((p : Int) / 2 ^ j) 1 == 1) = p.testBit j := by
  have h1 : (p : Int) / 2 ^ j = ((p / 2 ^ j : Nat) : Int) := by simp
  have h2 := Nat.div_le_self p (2 ^ j)
  rw [h1, bits_and1_u8 _ (by omega)]
  exact bit_nat p j
/-- Whatever of the first L: there is a number with these bits. -/
theorem bits_all (f : Nat → Bool) : ∀ L, ∃ p, p < 2 ^ L ∧ ∀ i, i < L → p.testBit i = f i
  | 0 => ⟨0, by simp, fun i hi => absurd hi (by omega)⟩
  | L + 1 => by
    obtain ⟨p, hp, h⟩ := bits_all f L
    cases hf : f L with
    | false =>
      refine ⟨p, by rw [Nat.pow_succ]; omega, fun i hi => ?_⟩
      by_cases he : i = L
      · rw [he, hf]; exact Nat.testBit_lt_two_pow hp
      · exact h i (by omega)
    | true =>
      refine ⟨2 ^ L + p, by rw [Nat.pow_succ]; omega, fun i hi => ?_⟩
      by_cases he : i = L
      · rw [he, hf, Nat.testBit_two_pow_add_eq, Nat.testBit_lt_two_pow hp]; rfl
      · rw [Nat.testBit_two_pow_add_gt (by omega)]; exact h i (by omega)
/-- The parts of so many, by bits. -/
def partL (L p : Nat) : List Int := upto L fun i => p.testBit i
def partsL (L N : Nat) : List (List Int) := (List.range N).map (partL L)
theorem partsL_succ (L N : Nat) : partsL L (N + 1) = partsL L N ++ [partL L N] := by
  rw [partsL, partsL, List.range_succ, List.map_append]; rfl
theorem partsL_len (L N : Nat) : (partsL L N).length = N := by simp [partsL]
theorem part_of {L : Nat} {s : List Int} (hs : Rises L s) : ∃ p, p < 2 ^ L ∧ partL L p = s := by
  obtain ⟨p, hp, h⟩ := bits_all (fun i => decide ((i : Int) ∈ s)) L
  exact ⟨p, hp, (upto_congr h).trans (upto_of_rises hs)⟩

set_option maxRecDepth 100000 in
set_option maxHeartbeats 1000000 in
theorem parts_any (L : Nat) (w : World) (hL : L ≤ 8) :
    Calls Try.prog 12 #[.int .i64 L] w fun e w' => ∃ A n c, e = .returned (.slice A n c) ∧ ∃ t, Outs w' w.heap.size A n c t ∧ Ls.all t = partsL L (2 ^ L) ∧ Below w.heap.size w w' := by
  obtain ⟨i0, hi0, hz0, hz1, hz2⟩ := info_parts infoM_int
  obtain ⟨i1, hi1, hy0, hy1, hy2⟩ := info_parts infoM_ints
  obtain ⟨N, hN⟩ : ∃ N, 2 ^ L = N := ⟨_, rfl⟩
  have hN8 : N ≤ 256 := by rw [← hN]; exact Nat.pow_le_pow_right (by omega) hL
  have hNi : ((2 : Int) ^ L) = (N : Int) := by rw [← hN]; simp
  have hw : wrap64 (2 ^ L) = (N : Int) := by rw [hNi]; unfold wrap64; omega
  rw [hN]
  clear hNi hN
  go_enter Try.func12, Try.ntmps12
  go_wp2
  go_loopw [3, 4] (fun o v wr => ∃ (p : Nat) (A : Option Addr) (n c : Nat) (t : List Ls), p ≤ N ∧ v = .int .i64 p ∧ o = .slice A n c ∧ Outs wr w.heap.size A n c t ∧ Hid (Ls.all t = partsL L p) ∧ Below w.heap.size w wr) (fun _ v _ => N - (intOf v).toNat)
  case atStart => exact ⟨0, none, 0, 0, [], by omega, rfl, rfl, Outs.none_ _ _, Lib.hid rfl, Below.refl _ _⟩
  case round =>
    obtain ⟨p, A, n, c, t, hp, rfl, rfl, ho, hall, hb⟩ := hrel
    obtain ⟨wo, rfl⟩ : ∃ wo, wo = wr := ⟨_, rfl⟩
    have hnp : n = p := by
      have h1 := ho.len
      have h2 := congrArg List.length hall.out
      rw [partsL_len, Ls.all, List.length_map] at h2
      omega
    subst hnp
    by_cases hpN : n < N
    · have hpN' : (n : Int) < N := by omega
      go_wp2
      try rw [hw]
      clear hw
      go_loopw [5, 6] (fun o v wr => ∃ (j : Nat) (A2 : Option Addr) (n2 c2 : Nat), j ≤ L ∧ v = .int .i64 j ∧ o = .slice A2 n2 c2 ∧ OwnI wr wo.heap.size ⟨A2, n2, c2, partL j n⟩ ∧ Below wo.heap.size wo wr) (fun _ v _ => L - (intOf v).toNat)
      case atStart => exact ⟨0, none, 0, 0, by omega, rfl, rfl, OwnI.nil _ _, Below.refl _ _⟩
      case round =>
        obtain ⟨j, A2, n2, c2, hj, rfl, rfl, hO, hB⟩ := hrel
        have hlen := hO.len
        have hul := upto_len j fun i => n.testBit i
        by_cases hjL : j < L
        · have hjL' : (j : Int) < L := by omega
          have hbit := bit_i64 n j (by omega)
          have hsnoc : Hid (partL (j + 1) n = partL j n ++ if n.testBit j = true then [(j : Int)] else []) := Lib.hid (upto_succ j _)
          obtain ⟨β, hβ⟩ : ∃ β, n.testBit j = β := ⟨_, rfl⟩
          rw [hβ] at hbit hsnoc
          clear hβ
          cases β
          · have hO2 : OwnI wr wo.heap.size ⟨A2, n2, c2, partL (j + 1) n⟩ := by rw [hsnoc.out]; simpa using hO
            clear hO hlen hul hsnoc
            go_wp2
            go_roundw
            case rel => exact ⟨j + 1, A2, n2, c2, by omega, by go_num, rfl, hO2, hB⟩
            case measure => simp [intOf]; omega
          · have hsz2 := hB.size
            have hn2 : n2 ≤ j := by
              have : (partL j n).length = n2 := hlen
              unfold partL at this
              omega
            clear hlen hul
            go_wp2_with (at_builtin; go_must (refine wpList_app1 wr rfl _ _ 25 rfl 3 i0 _ 8 Try.underlying25 hi0 hz0 hz1 hz2 rfl wo.heap.size A2 n2 c2 _ rfl hO.own _ rfl rfl ?xx3 ?xx4 ?xx5 ?_))
            case xx3 => simp only [maxLen]; omega
            case xx4 => omega
            try case xx5 => exact hsz2
            intro A3 c3 w5 hown5 hbel5 hfr5 hat5
            have hO2 : OwnI w5 wo.heap.size ⟨A3, n2 + 1, c3, partL (j + 1) n⟩ := by
              refine ⟨?_, fun z hz => ?_⟩
              · show Own w5 wo.heap.size _ A3 (n2 + 1) c3 (ci64 (partL (j + 1) n))
                rw [hsnoc.out, if_pos trivial, ci64_snoc6]; exact hown5
              · have := (upto_rises (j + 1) fun i => n.testBit i).1 z hz; omega
            have hB2 := hB.trans hbel5
            clear hown5 hbel5 hfr5 hat5 hO hsnoc
            go_wp2
            go_roundw
            case rel => exact ⟨j + 1, A3, n2 + 1, c3, by omega, by go_num, rfl, hO2, hB2⟩
            case measure => simp [intOf]; omega
        · obtain rfl : j = L := by omega
          have hnew : OwnI wr wo.heap.size ⟨A2, n2, c2, partL j n⟩ := hO
          have hall2 : Hid (Ls.all (t ++ [(⟨A2, n2, c2, partL j n⟩ : Ls)]) = partsL j (n + 1)) := Lib.hid (by
            rw [partsL_succ, ← hall.out]
            simp [Ls.all])
          have houtr : Outs wr w.heap.size A n c t := ho.below hB
          have hsep : ∀ y ∈ t, ∀ g, Blk y g → g < wo.heap.size := fun y hy g hg => ((ho.each y hy).blk hg).2
          have hwo : w.heap.size ≤ wo.heap.size := hb.size
          have hwor := hB.size
          clear hO ho hall hlen hul
          go_wp2_with (at_builtin; go_must (refine wpList_app1 wr rfl _ _ 22 rfl 25 i1 _ 24 Try.underlying22 hi1 hy0 hy1 hy2 rfl w.heap.size A n c _ rfl houtr.own 1 rfl rfl ?d3 ?d4 ?d5 ?_))
          case d3 => simp only [maxLen]; omega
          case d4 => omega
          try case d5 => omega
          intro A3 c3 w3 hown3 hbel3 hfr3 hat3
          have hf3 : ∀ k, k < wr.heap.size → ((n = 0 ∧ c = 0) ∨ A ≠ some ⟨k, 0, none⟩) → w3.heap[k]? = wr.heap[k]? := fun k hk hh => hfr3 k hk hh
          have hout3 : Outs w3 w.heap.size A3 (n + 1) c3 (t ++ [(⟨A2, n2, c2, partL j n⟩ : Ls)]) := houtr.snoc hnew hwo hsep hown3 hf3
          have hbel4 : Below w.heap.size w w3 := (hb.trans (hB.mono hb.size)).trans hbel3
          clear hown3 hbel3 hfr3 hat3 houtr hnew hsep hB
          go_wp2
          go_roundw
          case rel => exact ⟨n + 1, A3, n + 1, c3, _, by omega, by go_num, rfl, hout3, hall2, hbel4⟩
          case measure => simp [intOf]; omega
    · obtain rfl : n = N := by omega
      go_wp2
      go_ret
      exact ⟨A, _, c, rfl, t, ho, hall.out, hb⟩
end Go.Proofs.Ytcjfgkihmhdhlaa
