/-
  Proved: WeightsLeast holds of all gains and all other numbers of items: none of which that is so are lower for any item.
-/
import Derived.Test.YtiaoplghaigclaaRows
import Derived.Test.YtiaoplghaigclaaLift
import Derived.Test.YtiaoplghaigclaaAlive10
import Derived.Test.YtiaoplghaigclaaZeros
import Derived.Test.YtiaoplghaigclaaReg
import Derived.Test.YtiaoplghaigclaaVecArgs
import Derived.Lib.MinMax
namespace Go.Proofs.Ytiaoplghaigclaa.weightsLeast
open Go.ChangeShapes Go.WideShapes Go.ChangeAt Go.RowKit
set_option linter.unusedVariables false

theorem info6_int : (Try.prog.info? 3).map (fun i => (i.zero, i.size, i.bytes)) = some (some (.int .i64 0), 1, 8) := by kernel_rfl
/-- Another number of an item. -/
def qN (zs : List Int) (k : Nat) : Int := ((zs.getD k 0).toNat % 2000001 : Nat)
theorem qN_bound (zs : List Int) (k : Nat) : 0 ≤ qN zs k ∧ qN zs k ≤ 2000000 := by
  unfold qN
  have := Nat.mod_lt (zs.getD k 0).toNat (show 2000001 > 0 by omega)
  omega
def vN (G : Nat → Nat → Int) (zs : List Int) (m i : Nat) : Int := topN (fun k => G i k - qN zs k) m
def lowB (N : Nat → Int) (zs : List Int) (j : Nat) : Bool := (List.range j).any fun k => decide (qN zs k < N k)
theorem lowB_succ (N : Nat → Int) (zs : List Int) (j : Nat) : lowB N zs (j + 1) = (lowB N zs j || decide (qN zs j < N j)) := by
  rw [lowB, List.range_succ, List.any_append, ← lowB]; simp
theorem sum_bound {f : Nat → Int} {K : Int} (hK : 0 ≤ K) : ∀ {j : Nat}, (∀ i, i < j → 0 ≤ f i ∧ f i ≤ K) → 0 ≤ sumW f j ∧ sumW f j ≤ j * K
  | 0, _ => by simp [sumW]
  | j + 1, h => by
    rw [sumW]
    have h1 := sum_bound hK (j := j) fun i hi => h i (by omega)
    have h2 := h j (by omega)
    have h3 : ((j + 1 : Nat) : Int) * K = j * K + K := by rw [Int.natCast_add, Int.add_mul]; simp
    omega
theorem least_sum {G : Nat → Nat → Int} {m n : Nat} (zs : List Int) : bestV G m n ≤ sumW (vN G zs m) n + sumW (qN zs) m :=
  best_le (fun b _ => top_nonneg _ _) (fun c _ => (qN_bound zs c).1) fun b c hb hc => by
    have := top_ge (f := fun k => G b k - qN zs k) hc
    unfold vN
    omega
theorem least_low {G : Nat → Nat → Int} {m n : Nat} (zs : List Int) (h : lowB (numP G m n) zs m = true) : sumW (vN G zs m) n + sumW (qN zs) m ≠ bestV G m n := fun e => by
  obtain ⟨k, hk, h2⟩ := List.any_eq_true.1 h
  have := num_le (G := G) (fun b _ => top_nonneg (fun k => G b k - qN zs k) m) (fun c _ => (qN_bound zs c).1) (fun b c hb hc => by
    have := top_ge (f := fun k => G b k - qN zs k) hc
    show G b c ≤ topN (fun k => G b k - qN zs k) m + qN zs c
    omega) e (List.mem_range.1 hk)
  have h3 := of_decide_eq_true h2
  omega

set_option maxRecDepth 100000 in
set_option maxHeartbeats 4000000 in
theorem walk (x : Gr) (m : Int) (A1 : Option Addr) (n1 c1 : Nat) (zs : List Int) (w : World) (h : x.Ok w) (hm1 : -9223372036854775808 ≤ m) (hm2 : m ≤ 9223372036854775807) (h1 : Rd w A1 n1 (zs.map (Value.int .u32))) (hzs : ∀ z ∈ zs, 0 ≤ z ∧ z < 4294967296) :
    Calls Try.prog 4 #[.agg #[x.v, .int .i64 m], .slice A1 n1 c1] w fun e w' => e = .returned (.bool true) ∧ Below w.heap.size w w' := by
  have hx := h
  have hB := Below.refl w.heap.size w
  have hxv : x.v = .slice x.A x.n x.c := rfl
  have Vx := Lib.hid hxv
  rw [hxv]
  have hgl := h.glen
  have HGL := Lib.hid hgl
  have htop := Nat.le_trans h.cap h.top
  unfold maxLen at htop
  obtain ⟨B, hB0⟩ : ∃ B, mayW x.g m = B := ⟨_, rfl⟩
  clear hxv hgl h
  go_enter Try.func4, Try.ntmps4
  have bg := WBox.new w x m
  have hbx : Below w.heap.size w (w.alloc (.cells #[.slice x.A x.n x.c, .int .i64 m] 24)) := (Below.refl _ w).alloc (Nat.le_refl _) _
  replace hx := hx.below hbx
  replace h1 := h1.below hbx
  replace hB := hB.trans (hbx.mono hB.size)
  clear hbx
  cases B
  · have E1 := Lib.hid (we_bad hB0)
    clear hB0
    have eg0 := bg.c0
    have eg1 := bg.c1
    have hc := pbestC x m (w.alloc (.cells #[.slice x.A x.n x.c, .int .i64 m] 24)) hx (by omega) (by omega)
    rw [Vx.out, E1.out.1, E1.out.2.1] at hc
    go_wp2_with fail
    clear eg0 eg1
    generalize w.alloc (.cells #[.slice x.A x.n x.c, .int .i64 m] 24) = W1 at *
    refine hc.mono ?_
    rintro e v2 ⟨rfl, hb⟩
    clear hc
    replace hx := hx.below hb
    replace h1 := h1.below hb
    replace bg := bg.below hb
    replace hB := hB.trans (hb.mono hB.size)
    clear hb
    have eg0 := bg.c0
    have eg1 := bg.c1
    have hc := pprovedC x m v2 hx (by omega) (by omega)
    rw [Vx.out, E1.out.2.1, E1.out.2.2.2, E1.out.2.2.1] at hc
    go_wp2_with fail
    clear eg0 eg1
    refine hc.mono ?_
    rintro e v3 ⟨A2, n2, c2, A2p, n2p, c2p, rfl, h2, h2p, hapt, hb⟩
    clear hc
    replace hx := hx.below hb
    replace h1 := h1.below hb
    replace bg := bg.below hb
    replace hB := hB.trans (hb.mono hB.size)
    clear hb
    clear hapt
    clear h2 h2p
    have eg0 := bg.c0
    have eg1 := bg.c1
    have hc := alive10_any v3
    go_wp2_with fail
    clear eg0 eg1
    refine hc.mono ?_
    rintro e v4 ⟨rfl, hb⟩
    clear hc
    replace hx := hx.below hb
    replace h1 := h1.below hb
    replace bg := bg.below hb
    replace hB := hB.trans (hb.mono hB.size)
    clear hb
    have eg0 := bg.c0
    have eg1 := bg.c1
    go_wp2
    go_ret
    exact ⟨rfl, hB⟩
  · obtain ⟨M, rfl⟩ : ∃ M : Nat, m = M := ⟨m.toNat, by have := (mayW_iff.1 hB0).1; omega⟩
    have HB0 := Lib.hid hB0
    obtain ⟨hM1, hM8, hx8⟩ := may_m hB0
    rw [HGL.out] at hx8
    have EE := Lib.hid (we_ok hB0).2.1
    obtain ⟨a0, ha0⟩ : ∃ a, bestE x.g M = a := ⟨_, rfl⟩
    obtain ⟨ul, hul⟩ : ∃ a, bidE x.g M = a := ⟨_, rfl⟩
    obtain ⟨pl, hpl⟩ : ∃ a, ofE x.g M = a := ⟨_, rfl⟩
    have EB := Lib.hid ha0
    have EU := Lib.hid hul
    have EP := Lib.hid hpl
    have ULN : Hid (ul.length = x.n) := Lib.hid (by rw [← hul, bidE_len hB0, HGL.out])
    have PLN : Hid (pl.length = M) := Lib.hid (by rw [← hpl, ofE_len hB0])
    have UGET : Hid (∀ i, i < x.n → ul[i]? = some (bidP (gG x.g) M x.n i)) := Lib.hid (fun i hi => by rw [← hul, bidE_get hB0 (by rw [HGL.out]; exact hi), HGL.out])
    have PGET : Hid (∀ k, k < M → pl[k]? = some (numP (gG x.g) M x.n k)) := Lib.hid (fun k hk => by rw [← hpl, ofE_get hB0 hk, HGL.out])
    have BV : Hid (a0 = bestV (gG x.g) M x.n) := Lib.hid (by rw [← ha0, (we_ok hB0).1, HGL.out])
    have hab : 0 ≤ a0 ∧ a0 ≤ 8000000 := by rw [← ha0, (we_ok hB0).1]; exact best_bound hB0
    have HRW : Hid (∀ u ∈ x.t, u.n = M) := Lib.hid (fun u hu => by
      have h1 := (mayW_iff.1 hB0).2.2.2 u.zs (by rw [Gr.g, Ls.all]; exact List.mem_map_of_mem hu)
      have h2 := (hx.lss.ok u hu).len
      omega)
    clear hB0 ha0 hul hpl hm1 hm2
    have eg0 := bg.c0
    have eg1 := bg.c1
    have hc := pbestC x M (w.alloc (.cells #[.slice x.A x.n x.c, .int .i64 (M : Int)] 24)) hx (by omega) (by omega)
    rw [Vx.out, EB.out, EE.out] at hc
    go_wp2_with fail
    clear eg0 eg1
    generalize w.alloc (.cells #[.slice x.A x.n x.c, .int .i64 (M : Int)] 24) = W1 at *
    refine hc.mono ?_
    rintro e v2 ⟨rfl, hb⟩
    clear hc
    replace hx := hx.below hb
    replace h1 := h1.below hb
    replace bg := bg.below hb
    replace hB := hB.trans (hb.mono hB.size)
    clear hb
    have eg0 := bg.c0
    have eg1 := bg.c1
    have hc := pprovedC x M v2 hx (by omega) (by omega)
    rw [Vx.out, EE.out, EU.out, EP.out] at hc
    go_wp2_with fail
    clear eg0 eg1
    refine hc.mono ?_
    rintro e v3 ⟨A2, n2, c2, A2p, n2p, c2p, rfl, h2, h2p, hapt, hb⟩
    clear hc
    replace hx := hx.below hb
    replace h1 := h1.below hb
    replace bg := bg.below hb
    replace hB := hB.trans (hb.mono hB.size)
    clear hb
    clear hapt
    obtain rfl : M = n2p := by have h5 := h2p.len; have h6 := PLN.out; simp only at h5; omega
    clear h2
    by_cases hn1 : n1 < M
    · have gn : decide ((n1 : Int) < (M : Int)) = true := decide_eq_true (by omega)
      have eg0 := bg.c0
      have eg1 := bg.c1
      have hc := alive10_any v3
      go_wp2_with fail
      clear eg0 eg1
      refine hc.mono ?_
      rintro e v4 ⟨rfl, hb⟩
      clear hc
      replace hx := hx.below hb
      replace h1 := h1.below hb
      replace h2p := h2p.below hb
      replace bg := bg.below hb
      replace hB := hB.trans (hb.mono hB.size)
      clear hb
      have eg0 := bg.c0
      have eg1 := bg.c1
      go_wp2
      go_ret
      exact ⟨rfl, hB⟩
    · have gn : decide ((n1 : Int) < (M : Int)) = false := decide_eq_false (by omega)
      have gne : (((M : Int)) != (M : Int)) = false := by simp
      have eg0 := bg.c0
      have eg1 := bg.c1
      have hc := wmay_any x M v3 hx (by omega) (by omega)
      rw [HB0.out] at hc
      go_wp2_with fail
      clear eg0 eg1
      refine hc.mono ?_
      rintro e v4 ⟨rfl, hb⟩
      clear hc
      replace hx := hx.below hb
      replace h1 := h1.below hb
      replace h2p := h2p.below hb
      replace bg := bg.below hb
      replace hB := hB.trans (hb.mono hB.size)
      clear hb
      obtain ⟨N, hN⟩ : ∃ N, numP (gG x.g) M x.n = N := ⟨_, rfl⟩
      have hNb : ∀ k, k < M → 0 ≤ N k ∧ N k ≤ 8000000 := fun k hk => by rw [← hN]; have := num_bound HB0.out k hk; rw [HGL.out] at this; exact this
      have PG2 : Hid (∀ k, k < M → pl[k]? = some (N k)) := Lib.hid (fun k hk => by rw [← hN]; exact PGET.out k hk)
      have HLE : Hid (a0 ≤ sumW (vN (gG x.g) zs M) x.n + sumW (qN zs) M) := Lib.hid (by rw [BV.out]; exact least_sum zs)
      have HLO : Hid (lowB N zs M = true → sumW (vN (gG x.g) zs M) x.n + sumW (qN zs) M ≠ a0) := Lib.hid (by rw [BV.out, ← hN]; exact least_low zs)
      have HNB := Lib.hid hNb
      have HZL2 : Hid (zs.length = n1) := Lib.hid (by have := h1.len; rwa [List.length_map] at this)
      clear hN hNb
      have eg0 := bg.c0
      have eg1 := bg.c1
      go_wp2_with fail
      go_loopw [10, 11, 12] (fun s l v wr => ∃ k : Nat, k ≤ M ∧ v = .int .i64 k ∧ s = .int .i64 (sumW (qN zs) k) ∧ l = .bool (lowB N zs k) ∧ wr = v4) (fun _ _ v _ => M - (intOf v).toNat)
      case atStart => exact ⟨0, Nat.zero_le _, rfl, rfl, rfl, rfl⟩
      case round =>
        obtain ⟨k, hk, rfl, rfl, rfl, hwr⟩ := hrel
        have hwr2 := hwr.symm
        subst hwr2
        by_cases hkn : k < M
        · have hkn' : (k : Int) < M := by omega
          have hkn1 : (k : Int) < n1 := by omega
          have hk0 : (0 : Int) ≤ k := by omega
          have hb := HNB.out k hkn
          have hsb := sum_bound (f := qN zs) (K := 2000000) (by omega) (j := k) fun i _ => qN_bound zs i
          have hs1 : sumW (qN zs) (k + 1) = sumW (qN zs) k + qN zs k := rfl
          have hl1 := lowB_succ N zs k
          obtain ⟨p1, q1, hA1, hp1, y0, hy0, hcy⟩ := h2p.ok.rd.get hkn
          simp only at hA1
          rw [show ci64 pl = pl.map iV from rfl, List.getElem?_map, PG2.out k hkn] at hy0
          obtain rfl : iV (N k) = y0 := Option.some.inj hy0
          unfold iV at hcy
          obtain ⟨p2, q2, hA2, hp2, z0, hz0, hcz⟩ := h1.get (show k < n1 by omega)
          have hkl : k < zs.length := by rw [HZL2.out]; omega
          rw [List.getElem?_map, List.getElem?_eq_getElem hkl] at hz0
          obtain rfl : Value.int .u32 zs[k] = z0 := Option.some.inj hz0
          have hzb := hzs zs[k] (List.getElem_mem hkl)
          have hqk : qN zs k = (zs[k].toNat % 2000001 : Nat) := by rw [qN, List.getD_eq_getElem?_getD, List.getElem?_eq_getElem hkl]; rfl
          obtain ⟨zn, hzn⟩ : ∃ zn : Nat, zs[k] = zn := ⟨zs[k].toNat, by omega⟩
          rw [hzn] at hcz hzb hqk
          rw [Int.toNat_natCast] at hqk
          obtain ⟨r, hr⟩ : ∃ r : Nat, zn % 2000001 = r := ⟨_, rfl⟩
          have hrb : r < 2000001 := by rw [← hr]; exact Nat.mod_lt _ (by omega)
          have t1 : ((zn : Int)).tmod 2000001 = (r : Int) := by rw [Int.tmod_eq_emod_of_nonneg (by omega), ← hr]; simp
          rw [hr] at hqk
          rw [hqk] at hs1 hl1
          have u1 : IntKind.u32.wrap (r : Int) = (r : Int) := by rw [IntKind.wrap_u32]; omega
          have u2 : IntKind.i64.wrap (r : Int) = (r : Int) := by rw [IntKind.wrap_i64]; omega
          obtain ⟨nk, hnk⟩ : ∃ q, N k = q := ⟨_, rfl⟩
          obtain ⟨sk, hsk⟩ : ∃ q, sumW (qN zs) k = q := ⟨_, rfl⟩
          obtain ⟨lk, hlk⟩ : ∃ q, lowB N zs k = q := ⟨_, rfl⟩
          obtain ⟨γ, hγ⟩ : ∃ q, decide ((r : Int) < nk) = q := ⟨_, rfl⟩
          rw [hnk] at hb hcy hl1
          rw [hsk] at hsb hs1 ⊢
          rw [hlk, hγ] at hl1
          rw [hlk]
          have HS1 := Lib.hid hs1
          have HL1 := Lib.hid hl1
          have s1 : IntKind.i64.wrap (sk + r) = sk + r := by rw [IntKind.wrap_i64]; omega
          subst hA1
          subst hA2
          clear hy0 hz0 hnk hs1 hsk hlk hl1 hqk hzn hr
          cases lk
          · go_wp2
            go_roundw
            case rel => exact ⟨k + 1, by omega, by go_num, by rw [HS1.out], by rw [HL1.out]; rfl, by first | rfl | trivial⟩
            case measure => simp [intOf]; omega
          · go_wp2
            go_roundw
            case rel => exact ⟨k + 1, by omega, by go_num, by rw [HS1.out], by rw [HL1.out]; rfl, by first | rfl | trivial⟩
            case measure => simp [intOf]; omega
        · obtain rfl : k = M := by omega
          have hsP := sum_bound (f := qN zs) (K := 2000000) (by omega) (j := k) fun i _ => qN_bound zs i
          obtain ⟨P, hP⟩ : ∃ P, sumW (qN zs) k = P := ⟨_, rfl⟩
          obtain ⟨lk, hlk⟩ : ∃ q, lowB N zs k = q := ⟨_, rfl⟩
          rw [hP] at hsP ⊢
          rw [hlk]
          have HP := Lib.hid hP
          have HLK := Lib.hid hlk
          clear hP hlk
          go_wp2_with fail
          go_loopw [10, 14] (fun s v wr => ∃ i : Nat, i ≤ x.n ∧ v = .int .i64 i ∧ s = .int .i64 (P + sumW (vN (gG x.g) zs k) i) ∧ Below v4.heap.size v4 wr) (fun _ v _ => x.n - (intOf v).toNat)
          case atStart => exact ⟨0, Nat.zero_le _, rfl, by simp [sumW], Below.refl _ _⟩
          case round =>
            obtain ⟨i, hi, rfl, rfl, hbel⟩ := hrel
            have e0 := (bg.below hbel).c0
            have e1 := (bg.below hbel).c1
            by_cases hin : i < x.n
            · have hin' : (i : Int) < x.n := by omega
              have hi0 : (0 : Int) ≤ i := by omega
              have hvb : ∀ i j, 0 ≤ topN (fun k => gG x.g i k - qN zs k) j ∧ topN (fun k => gG x.g i k - qN zs k) j ≤ 1000000 := fun i j => ⟨top_nonneg _ _, top_le (by omega) fun k _ => by
                have := (gG_bound HB0.out i k).2
                have := (qN_bound zs k).1
                omega⟩
              have hsb := sum_bound (f := vN (gG x.g) zs k) (K := 1000000) (by omega) (j := i) fun i _ => hvb i k
              have hs1 : sumW (vN (gG x.g) zs k) (i + 1) = sumW (vN (gG x.g) zs k) i + vN (gG x.g) zs k i := rfl
              obtain ⟨sk, hsk⟩ : ∃ q, sumW (vN (gG x.g) zs k) i = q := ⟨_, rfl⟩
              rw [hsk] at hsb hs1 ⊢
              have HS1 := Lib.hid hs1
              obtain ⟨p2, q2, y, hAx, hgy, hp2, hcx0, hky⟩ := gr_get (A := x.A) (n := x.n) (c := x.c) (t := x.t) hx rfl hin
              have hcx := (hbel.cell (p := ⟨p2, q2 + i, none⟩) hp2).trans hcx0
              have hyl : y.n = k := by
                have h1 := hky.len
                have h2 := (may_row HB0.out (b := i) (by rw [HGL.out]; exact hin)).1
                have h3 : x.g.getD i [] = y.zs := hgy
                rw [← h3, List.getD_eq_getElem?_getD, List.getElem?_eq_getElem (by rw [HGL.out]; exact hin)] at h1
                simp only [Option.getD_some] at h1
                omega
              have HGY := Lib.hid (show x.g.getD i [] = y.zs from hgy)
              have HYL := Lib.hid hky.len
              have HVB := Lib.hid hvb
              rw [hAx] at e0
              have HAx := Lib.hid hAx
              clear hs1 hsk hcx0 hgy hAx hvb
              go_wp2_with fail
              obtain ⟨wo, rfl⟩ : ∃ wo, wo = wr := ⟨_, rfl⟩
              go_loopw [15, 16] (fun o v wr => ∃ j : Nat, j ≤ k ∧ v = .int .i64 j ∧ o = .int .i64 (topN (fun k => gG x.g i k - qN zs k) j) ∧ Below wo.heap.size wo wr) (fun _ v _ => k - (intOf v).toNat)
              case atStart => exact ⟨0, Nat.zero_le _, rfl, rfl, Below.refl _ _⟩
              case round =>
                obtain ⟨j, hj, rfl, rfl, hbj⟩ := hrel
                have hj0 : (0 : Int) ≤ j := by omega
                by_cases hjk : j < k
                · have hjk' : (j : Int) < k := by omega
                  have hjy : (j : Int) < y.n := by omega
                  have hjy2 : j < y.n := by omega
                  have hjn1 : (j : Int) < n1 := by omega
                  have hbV := hbel.trans (hbj.mono hbel.size)
                  obtain ⟨p3, q3, hA3, hp3, z0, hz0, hcz0⟩ := h1.get (show j < n1 by omega)
                  have hkl : j < zs.length := by rw [HZL2.out]; omega
                  rw [List.getElem?_map, List.getElem?_eq_getElem hkl] at hz0
                  obtain rfl : Value.int .u32 zs[j] = z0 := Option.some.inj hz0
                  have hzb := hzs zs[j] (List.getElem_mem hkl)
                  have hqk : qN zs j = (zs[j].toNat % 2000001 : Nat) := by rw [qN, List.getD_eq_getElem?_getD, List.getElem?_eq_getElem hkl]; rfl
                  have hcz := (hbV.cell (p := ⟨p3, q3 + j, none⟩) hp3).trans hcz0
                  obtain ⟨zn, hzn⟩ : ∃ zn : Nat, zs[j] = zn := ⟨zs[j].toNat, by omega⟩
                  rw [hzn] at hcz hzb hqk
                  rw [Int.toNat_natCast] at hqk
                  obtain ⟨r, hr⟩ : ∃ r : Nat, zn % 2000001 = r := ⟨_, rfl⟩
                  have hrb : r < 2000001 := by rw [← hr]; exact Nat.mod_lt _ (by omega)
                  have t1 : ((zn : Int)).tmod 2000001 = (r : Int) := by rw [Int.tmod_eq_emod_of_nonneg (by omega), ← hr]; simp
                  rw [hr] at hqk
                  have u1 : IntKind.u32.wrap (r : Int) = (r : Int) := by rw [IntKind.wrap_u32]; omega
                  have u2 : IntKind.i64.wrap (r : Int) = (r : Int) := by rw [IntKind.wrap_i64]; omega
                  obtain ⟨p4, q4, hA4, hp4, t0, ht0, hct0⟩ := hky.rd.get hjy2
                  have hjl : j < y.zs.length := by rw [HYL.out]; exact hjy2
                  rw [ci64_get _ _ hjl] at ht0
                  obtain rfl : iV y.zs[j] = t0 := Option.some.inj ht0
                  unfold iV at hct0
                  have hct := (hbV.cell (p := ⟨p4, q4 + j, none⟩) hp4).trans hct0
                  have hgj : gG x.g i j = y.zs[j] := by
                    rw [gG, HGY.out, List.getD_eq_getElem?_getD, List.getElem?_eq_getElem hjl]; rfl
                  have hzjb := gG_bound HB0.out i j
                  rw [hgj] at hzjb
                  have hT : topN (fun k => gG x.g i k - qN zs k) (j + 1) = max (topN (fun k => gG x.g i k - qN zs k) j) (gG x.g i j - qN zs j) := rfl
                  obtain ⟨tj, htj⟩ : ∃ q, topN (fun k => gG x.g i k - qN zs k) j = q := ⟨_, rfl⟩
                  obtain ⟨zj, hzj⟩ : ∃ q, y.zs[j] = q := ⟨_, rfl⟩
                  rw [htj, hgj, hqk, hzj] at hT
                  rw [hzj] at hct hzjb
                  rw [htj]
                  have HT := Lib.hid hT
                  have s2 : IntKind.i64.wrap (zj - r) = zj - r := by rw [IntKind.wrap_i64]; omega
                  have d0 := (bg.below hbV).c0
                  have d1 := (hbj.cell (p := ⟨p2, q2 + i, none⟩) (by have := hbel.size; show p2 < wo.heap.size; omega)).trans hcx
                  rw [HAx.out] at d0
                  rw [hA4] at d1
                  subst hA3
                  have HA4 := Lib.hid hA4
                  clear hz0 hcz0 ht0 hct0 hgj hjl hzj hA4 e0 hcx hT htj hqk hzn hr
                  go_wp2_with fail
                  refine wp_region_ord (S := fun w' => w'.cell? ⟨w.heap.size, 0, none⟩ = some (.slice (some ⟨p2, q2, none⟩) x.n x.c) ∧ w'.cell? ⟨p2, q2 + i, none⟩ = some (.slice (some ⟨p4, q4, none⟩) y.n y.c) ∧ w'.cell? ⟨p3, q3 + j, none⟩ = some (.int .u32 (zn : Int)) ∧ w'.cell? ⟨p4, q4 + j, none⟩ = some (.int .i64 zj)) [(0, true), (1, true), (2, true), (3, true), (4, true), (5, true), (6, true), (7, true), (8, true), (9, true), (10, true), (11, true), (12, true), (13, true), (14, true), (15, true), (16, true), (17, true)] default (by kernel_rfl) (by kernel_rfl) (by kernel_rfl) ⟨d0, d1, hcz, hct⟩ ?_
                  simp only [getOrd, nth]
                  repeat (first | (refine ordS (by rfl) ?_; simp only [Act.put, List.setIfInBounds_toArray, List.set_cons_zero, List.set_cons_succ]) | (refine ordN (by rfl) ?_; simp only [Act.put, List.setIfInBounds_toArray, List.set_cons_zero, List.set_cons_succ]) | (refine ordQ (v := ?_) (by rfl) (fun _ hSw => ?_) ?_; rotate_left; (focus ((have hS1 := hSw.1); (have hS2 := hSw.2.1); (have hS3 := hSw.2.2.1); (have hS4 := hSw.2.2.2); clear hSw; go_simp; (first | done | with_reducible rfl))); simp only [Act.put, List.setIfInBounds_toArray, List.set_cons_zero, List.set_cons_succ]))
                  refine ordE ?_
                  have hbj2 : Below wo.heap.size wo wr.drew := hbj.drew
                  go_wp2
                  go_roundw
                  case rel => exact ⟨j + 1, by omega, by go_num, by rw [HT.out], hbj2⟩
                  case measure => simp [intOf]; omega
                · obtain rfl : j = k := by omega
                  have hbV := hbel.trans (hbj.mono hbel.size)
                  have hvv := HVB.out i j
                  obtain ⟨vi, hvi⟩ : ∃ q, topN (fun k => gG x.g i k - qN zs k) j = q := ⟨_, rfl⟩
                  rw [hvi] at hvv ⊢
                  have HN : Hid (P + sumW (vN (gG x.g) zs j) (i + 1) = P + sk + vi) := Lib.hid (by rw [HS1.out, vN, hvi]; omega)
                  have s3 : IntKind.i64.wrap (P + sk + vi) = P + sk + vi := by rw [IntKind.wrap_i64]; omega
                  clear hvi
                  go_wp2
                  go_roundw
                  case rel => exact ⟨i + 1, by omega, by go_num, by rw [HN.out], hbV⟩
                  case measure => simp [intOf]; omega

            · obtain rfl : i = x.n := by omega
              clear e0 e1
              have hB := hB.trans (hbel.mono hB.size)
              have hxr := hx.below hbel
              have bgr := bg.below hbel
              obtain ⟨T, hT⟩ : ∃ T, P + sumW (vN (gG x.g) zs k) x.n = T := ⟨_, rfl⟩
              have hTle : a0 ≤ T := by rw [← hT, ← HP.out]; have := HLE.out; omega
              have g5 : decide (a0 ≤ T) = true := decide_eq_true hTle
              have hlo : lk = true → (T == a0) = false := fun h => by
                rw [beq_eq_false_iff_ne, ← hT, ← HP.out]
                have := HLO.out (by rw [HLK.out]; exact h)
                omega
              rw [hT]
              clear hT
              cases lk
              · skip
                clear hlo
                have eg0 := bgr.c0
                have eg1 := bgr.c1
                have hc := alive10_any wr
                go_wp2_with fail
                clear eg0 eg1
                refine hc.mono ?_
                rintro e v5 ⟨rfl, hb⟩
                clear hc
                replace hxr := hxr.below hb
                replace bgr := bgr.below hb
                replace hB := hB.trans (hb.mono hB.size)
                clear hb
                have eg0 := bgr.c0
                have eg1 := bgr.c1
                go_wp2
                go_ret
                exact ⟨rfl, hB⟩
              · have g6 := hlo rfl
                clear hlo
                have eg0 := bgr.c0
                have eg1 := bgr.c1
                have hc := alive10_any wr
                go_wp2_with fail
                clear eg0 eg1
                refine hc.mono ?_
                rintro e v5 ⟨rfl, hb⟩
                clear hc
                replace hxr := hxr.below hb
                replace bgr := bgr.below hb
                replace hB := hB.trans (hb.mono hB.size)
                clear hb
                have eg0 := bgr.c0
                have eg1 := bgr.c1
                go_wp2
                go_ret
                exact ⟨rfl, hB⟩

theorem own : ownKnob Try.prog.godebug = none := by kernel_rfl
theorem laidOut : laidOutB Try.prog = true := by kernel_rfl

set_option maxRecDepth 100000 in
theorem lifted (os : Os) (started : os.Started) (H : Type) (enc : TypeId × Value → H) :
    ReturnsInHanded {} Try.checked os 4 .any (Rows.weightsLeastSpec.pre6 enc Try.prog Try.f4 Rows.weightsLeastRow.domain false) (Rows.weightsLeastSpec.post enc Try.prog Try.f4 false true false false) := by
  refine returnsInHanded_of_change (C := Try.checked) own started (by kernel_rfl) Try.func4
    (ChangeSpec.witness6 (enc := enc) (C := Try.checked) false ⟨#[], #[.agg #[.slice none 0 0, .int .i64 0], .slice none 0 0], []⟩ 8 (by kernel_rfl) (by kernel_rfl) (by kernel_rfl) (by kernel_rfl)) ?_
  intro W base args ds gs before hval0 hW hcnd _
  have hval : ∀ (j : Nat) t v, Try.f4.params[j]? = some t → args[j]? = some v → Value.okWide Try.prog W .any base t v := hval0
  have hW' := hW
  obtain ⟨p, q, hA0, hV, rfl, hfz, hnd⟩ := hW
  have hA : DataW.TrodAll enc Try.prog W 0 (fun _ => true) true Try.f4.params.toList args.toList ds p := hA0
  rw [Try.params4] at hA hval
  obtain ⟨v0, vs0, d0, ds0, p0, q0, hargs, rfl, rfl, h0, r0⟩ := trodAll_cons hA
  obtain ⟨v1, vs1, d1, ds1, p1, q1, rfl, rfl, rfl, h1, r1⟩ := trodAll_cons r0
  obtain ⟨rfl, rfl, rfl⟩ := trodAll_nil r1
  obtain rfl : args = #[v0, v1] := by cases args; simp_all
  obtain ⟨u0, m0, rfl, k0, a0, b0⟩ := arg_gr Try.underlying24 (by kernel_rfl) (by kernel_rfl) Try.underlying22 Try.underlying3 Try.underlying28 (by kernel_rfl) Try.underlying3 (by kernel_rfl) (hval 0 24 v0 rfl rfl) h0
  obtain ⟨A1, n1, c1, l1, rfl, a1, b1, e1, g1⟩ := arg_ks Try.underlying33 Try.underlying34 (by kernel_rfl) (hval 1 33 v1 rfl rfl) h1
  have hwalk : Calls Try.prog 4 #[.agg #[u0.v, .int .i64 m0], .slice A1 n1 c1] W fun e w' => e = .returned (.bool true) ∧ Below W.heap.size W w' := walk u0 m0 A1 n1 c1 l1 W k0 a0 b0 a1 (fun z hz => by obtain ⟨y, rfl, hy⟩ := fit_u32 (g1 z hz); omega)
  refine hwalk.mono fun e W' ⟨he, hg⟩ => ?_
  subst he
  exact ⟨_, rfl, law_post laidOut (by kernel_rfl) hW' rfl rfl (by kernel_rfl) Try.underlying4 hg⟩

theorem over : Rows.weightsLeastRow.holds Try.pinned (OpenSpec.ofChange Rows.weightsLeastSpec) :=
  OpenClaim.holds_of_wide 4 Try.f4 rfl rfl rfl rfl rfl rfl rfl ⟨rfl, rfl, rfl, rfl, rfl⟩ rfl rfl rfl rfl rfl (by kernel_rfl) Try.func4 (by kernel_rfl)
    (of_decide_eq_true (by kernel_rfl)) (by unfold Func.isWrapper; first | (rw [if_pos (by decide +kernel)]; kernel_rfl) | (rw [if_neg (by decide +kernel)]; exact ⟨rfl, rfl⟩))
    (fun os started H enc _ => lifted os started H enc)

theorem proved : Rows.WeightsLeastSaid :=
  over

end Go.Proofs.Ytiaoplghaigclaa.weightsLeast
