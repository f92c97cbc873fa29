/-
  The document's answers of layer 7: More, Reach.
-/
import Derived.Test.YtcjfgkihmhdhlaaGreatDoorPaO
import Derived.Test.YtcjfgkihmhdhlaaGreatDoorRef06b
import Derived.Deep.CutRange
import Derived.Test.YtcjfgkihmhdhlaaGreatDoorPaWm
import Derived.Test.YtcjfgkihmhdhlaaGreatDoorRef06
import Derived.Deep.LoopGhost
namespace Go.Proofs.YtcjfgkihmhdhlaaGreatDoor
open Go.RowKit
set_option linter.unusedVariables false

theorem holder_first {has : List Int} {k : Int} {j : Nat} (hj : j < has.length) (hno : k ∉ has.take j) (he : has[j] = k) : holder has k = j := by
  unfold holder
  rw [show has.findIdx? (fun x => decide (x = k)) = some j from List.findIdx?_eq_some_iff_getElem.2 ⟨hj, decide_eq_true he, fun i hi => by
    have h1 : has[i] ≠ k := fun h => hno (h ▸ List.mem_take_iff_getElem.2 ⟨i, by omega, rfl⟩)
    simp [h1]⟩]
theorem holder_not {has : List Int} {k : Int} (h : k ∉ has) : holder has k = -1 := by
  unfold holder
  have h1 : has.findIdx? (fun x => decide (x = k)) = none := List.findIdx?_eq_none_iff.2 fun x hx => decide_eq_false (show ¬ x = k by intro he; rw [he] at hx; exact h hx)
  rw [h1]

set_option maxRecDepth 100000 in
set_option maxHeartbeats 400000 in
theorem rholder_any (A : Option Addr) (n c : Nat) (zs : List Int) (k : Int) (w : World) (hr : Rd w A n (ci64 zs)) (hn : n ≤ maxLen) :
    Calls Tryz.prog 92 #[.slice A n c, .int .i64 k] w fun e w' => e = .returned (.int .i64 (holder zs k)) ∧ w = w' := by
  have hl : zs.length = n := by have h := hr.len; rw [ci64_len] at h; exact h
  have HL := Lib.hid hl
  unfold maxLen at hn
  clear hl
  go_enter Tryz.func92, Tryz.ntmps92
  go_wp2_with fail
  go_loop [5] (fun i => ∃ j : Nat, j ≤ n ∧ i = .int .i64 j ∧ Hid (k ∉ zs.take j)) (fun i => n - (intOf i).toNat)
  case atStart => exact ⟨0, Nat.zero_le _, rfl, Lib.hid (by simp)⟩
  case round =>
    obtain ⟨j, hj, rfl, hno⟩ := hrel
    by_cases hlt : j < n
    · obtain ⟨p, q, rfl, hp, u0, hu0, hc0⟩ := hr.get hlt
      have hjl : j < zs.length := by rw [HL.out]; exact hlt
      rw [ci64_get _ _ hjl] at hu0
      obtain rfl : iV zs[j] = u0 := Option.some.inj hu0
      unfold iV at hc0
      have htk : zs.take (j + 1) = zs.take j ++ [zs[j]] := List.take_succ_eq_append_getElem hjl
      have hfirst : zs[j] = k → holder zs k = j := holder_first hjl hno.out
      obtain ⟨z, hz0⟩ : ∃ z, zs[j] = z := ⟨_, rfl⟩
      rw [hz0] at hc0 htk hfirst
      by_cases hz : z = k
      · have hz1 : (z == k) = true := by rw [hz]; simp
        have HM := Lib.hid (hfirst hz)
        clear hu0 hz htk hfirst hz0
        go_wp2
        go_ret
        exact ⟨ret_int HM.out.symm, rfl⟩
      · have hz1 : (z == k) = false := by rw [beq_eq_false_iff_ne]; exact hz
        have HN := Lib.hid (show k ∉ zs.take (j + 1) by
          rw [htk]
          intro hm
          rcases List.mem_append.1 hm with hm | hm
          · exact hno.out hm
          · exact hz (List.mem_singleton.1 hm).symm)
        clear hu0 hz htk hfirst hz0
        go_wp2
        go_round
        case rel => exact ⟨j + 1, by omega, by go_num, HN⟩
        case measure => simp [intOf]; omega
    · obtain rfl : j = n := by omega
      have HM := Lib.hid (show holder zs k = -1 from holder_not (by
        have h := hno.out
        rwa [List.take_of_length_le (by rw [HL.out]; exact Nat.le_refl _)] at h))
      go_wp2
      go_ret
      exact ⟨ret_int HM.out.symm, rfl⟩

set_option maxRecDepth 100000 in
set_option maxHeartbeats 1000000 in
theorem rmay_any (x : Gr) (m : Int) (u : Ls) (z : Int) (w : World) (hx : x.Ok w) (hu : u.Ok w) (hm1 : -9223372036854775808 ≤ m) (hm2 : m ≤ 9223372036854775807) :
    Calls Tryz.prog 60 #[x.v, .int .i64 m, u.v, .int .i64 z] w fun e w' => e = .returned (.bool (mayP x.g m u.zs z)) ∧ Below w.heap.size w w' := by
  obtain ⟨B, hB⟩ : ∃ B, mayP x.g m u.zs z = B := ⟨_, rfl⟩
  obtain ⟨F, hF⟩ : ∃ F, fitsG x.g m u.zs = F := ⟨_, rfl⟩
  rw [hB]
  have hc := rfitsG x m u w hx hu hm1 hm2
  rw [hF] at hc
  have HB := Lib.hid hB
  have HF := Lib.hid hF
  have HG := Lib.hid hx.glen
  have HU := Lib.hid hu.len
  have hxv : x.v = .slice x.A x.n x.c := rfl
  have hur := hu.rd
  have hut := Nat.le_trans hu.cap hu.top
  have hxt := Nat.le_trans hx.cap hx.top
  unfold maxLen at hut hxt
  rw [hxv] at hc ⊢
  obtain ⟨A, n, c, zs⟩ := u
  simp only at HB HF HU hur hut
  unfold Ls.v at hc ⊢
  simp only at hc ⊢
  clear hB hF hxv
  go_enter Tryz.func60, Tryz.ntmps60
  go_wp2_with fail
  refine hc.mono ?_
  rintro e w1 ⟨rfl, hb⟩
  clear hc
  cases F
  · have HR : Hid (B = false) := Lib.hid (by rw [← HB.out, mayP, HF.out]; rfl)
    go_wp2
    go_ret
    exact ⟨ret_bool HR.out.symm, hb⟩
  have HL := Lib.hid (fitsG_iff.1 HF.out).2.1
  by_cases h0 : 0 ≤ z
  · have g0 : decide (0 ≤ z) = true := decide_eq_true h0
    by_cases h1 : z < x.n
    · have g1 : decide (z < (x.n : Int)) = true := decide_eq_true h1
      obtain ⟨i, rfl⟩ : ∃ i : Nat, z = i := ⟨z.toNat, by omega⟩
      have hnn : n = x.n := by rw [← HU.out, HL.out, HG.out]
      have hin : i < n := by omega
      have hin' : (i : Int) < n := by omega
      have hil : i < zs.length := by rw [HU.out]; exact hin
      obtain ⟨p, q, rfl, hp, u0, hu0, hc0⟩ := hur.get hin
      rw [ci64_get _ _ hil] at hu0
      obtain rfl : iV zs[i] = u0 := Option.some.inj hu0
      unfold iV at hc0
      have hgd : zs.getD i (-1) = zs[i] := by rw [List.getD_eq_getElem?_getD, List.getElem?_eq_getElem hil]; rfl
      obtain ⟨a, ha⟩ : ∃ a, zs[i] = a := ⟨_, rfl⟩
      rw [ha] at hc0 hgd
      have hcw : w1.cell? ⟨p, q + i, none⟩ = some (.int .i64 a) := (hb.cell (p := ⟨p, q + i, none⟩) hp).trans hc0
      obtain ⟨β, hβ⟩ : ∃ β, (a == -1) = β := ⟨_, rfl⟩
      have HR : Hid (B = β) := Lib.hid (by
        rw [← HB.out, mayP, HF.out, Int.toNat_natCast, hgd, decide_eq_true (show 0 ≤ (i : Int) ∧ (i : Int) < x.g.length by rw [HG.out]; omega), Bool.true_and, Bool.true_and, ← hβ, Bool.eq_iff_iff, decide_eq_true_eq, beq_iff_eq])
      clear hu0 ha hc0 hgd hnn hil
      go_wp2
      go_ret
      exact ⟨ret_bool HR.out.symm, hb⟩
    · have g1 : decide (z < (x.n : Int)) = false := decide_eq_false h1
      have HR : Hid (B = false) := Lib.hid (by
        rw [← HB.out, mayP, HF.out, decide_eq_false (show ¬ (0 ≤ z ∧ z < x.g.length) by rw [HG.out]; omega)]; rfl)
      go_wp2
      go_ret
      exact ⟨ret_bool HR.out.symm, hb⟩
  · have g0 : decide (0 ≤ z) = false := decide_eq_false h0
    have HR : Hid (B = false) := Lib.hid (by
      rw [← HB.out, mayP, HF.out, decide_eq_false (show ¬ (0 ≤ z ∧ z < x.g.length) by omega)]; rfl)
    go_wp2
    go_ret
    exact ⟨ret_bool HR.out.symm, hb⟩
end Go.Proofs.YtcjfgkihmhdhlaaGreatDoor

namespace Go.Proofs.YtcjfgkihmhdhlaaGreatDoor
open Go.RowKit
set_option linter.unusedVariables false

theorem info7_int : (Tryz.prog.info? 3).map (fun i => (i.zero, i.size, i.bytes)) = some (some (.int .i64 0), 1, 8) := by kernel_rfl
theorem run_end {g : List (List Int)} {has : List Int} {on : Bool} {fuel n : Nat} {s : St} (h : s.f ≠ -1 ∨ s.q.length ≤ n) : runP g has on fuel n s = s := by
  cases fuel with
  | zero => rfl
  | succ f => rw [runP, if_neg (by rintro ⟨a, b⟩; rcases h with h | h; exact h a; omega)]
theorem run_step {g : List (List Int)} {has : List Int} {on : Bool} {fuel n : Nat} {s : St} {b : Int} (hf : s.f = -1) (hn : n < s.q.length) (hb : s.q[n]? = some b) : runP g has on (fuel + 1) n s = runP g has on fuel (n + 1) (scanP has on b (g.getD b.toNat []) s) := by
  rw [runP, if_pos ⟨hf, hn⟩]
  rw [List.getD_eq_getElem?_getD, hb]; rfl
theorem visit_seen {has : List Int} {on : Bool} {i k : Int} {s : St} (h : s.by_.getD k.toNat (-1) ≠ -1) : visitP has on i s k = s := by
  unfold visitP; rw [if_pos (.inr h)]
theorem visit_new {has : List Int} {on : Bool} {i k : Int} {s : St} (hf : s.f = -1) (h : s.by_.getD k.toNat (-1) = -1) : visitP has on i s k = if holder has k ≠ -1 then ⟨s.q ++ [holder has k], s.by_.set k.toNat i, -1⟩ else if on = true then ⟨s.q, s.by_.set k.toNat i, -1⟩ else ⟨s.q, s.by_.set k.toNat i, k⟩ := by
  unfold visitP
  rw [if_neg (by rintro (h1 | h1); exact h1 hf; exact h1 h)]

set_option maxRecDepth 100000 in
set_option maxHeartbeats 2000000 in
theorem rsearch_any (x : Gr) (M : Nat) (A : Option Addr) (n c : Nat) (zs : List Int) (i : Nat) (on : Bool) (w : World) (hx : x.Ok w) (hu : Ls.Ok w ⟨A, n, c, zs⟩) (hmay : mayP x.g M zs i = true) :
    Calls Tryz.prog 61 #[x.v, .int .i64 M, .slice A n c, .int .i64 i, .bool on] w fun e w' => ∃ A1 n1 c1 A2 n2 c2, e = .returned (.tuple #[.slice A1 n1 c1, .slice A2 n2 c2, .int .i64 (searchP x.g M zs i on).f]) ∧
      Own w' w.heap.size 3 A1 n1 c1 (ci64 (searchP x.g M zs i on).q) ∧ Own w' w.heap.size 3 A2 n2 c2 (ci64 (searchP x.g M zs i on).by_) ∧ Below w.heap.size w w' := by
  obtain ⟨i0, hi0, hz0, hz1, hz2⟩ := info_parts info7_int
  obtain ⟨m1, hm1, hM8, hg8, hzl, i1, hi1, hif⟩ := may_nat hmay
  obtain rfl : m1 = M := by omega
  obtain rfl : i1 = i := by omega
  have HMY := Lib.hid hmay
  have HG := Lib.hid hx.glen
  have HZ := Lib.hid (show zs.length = n from hu.len)
  rw [hx.glen] at hg8 hif
  have hnn : n = x.n := by rw [← HZ.out, hzl, HG.out]
  obtain ⟨S, hS⟩ : ∃ S, searchP x.g m1 zs i1 on = S := ⟨_, rfl⟩
  have HS := Lib.hid hS
  have hut := Nat.le_trans hu.cap hu.top
  have hxv : x.v = .slice x.A x.n x.c := rfl
  rw [hS, hxv]
  have hur := hu.rd
  simp only at hur hut
  have hck := may_check HMY.out
  have hrs : Hid (∀ b : Nat, b < x.n → Rises m1 (x.g.getD b [])) := Lib.hid (fun b hb => (checkG_iff.1 hck).2.2.2 _ (getD_mem (by rw [HG.out]; exact hb)))
  have hfit : Hid (Fit x.g m1 zs) := Lib.hid (may_fits HMY.out)
  have hf0 : Hid (zs.getD i1 (-1) = -1) := Lib.hid (by have := (mayP_iff.1 HMY.out).2.2; rwa [Int.toNat_natCast] at this)
  obtain ⟨g, hg0⟩ : ∃ g, x.g = g := ⟨_, rfl⟩
  rw [hg0] at HG HMY HS hrs hfit
  obtain ⟨A0, n0, c0, t0⟩ := x
  have HG0 := Lib.hid (show Ls.all t0 = g from hg0)
  have hxt := Nat.le_trans hx.cap hx.top
  unfold maxLen at hxt
  simp only at HG hrs hg8 hif hnn hxt ⊢
  have HNB : Hid (zs.length < 1000) := Lib.hid (by rw [HZ.out]; omega)
  clear hmay hm1 hi1 hzl hnn hS hxv hck hg0
  go_enter Tryz.func61, Tryz.ntmps61
  go_wp2_with fail
  go_loopw [11, 13] (fun o v wr => ∃ (j : Nat) (A2 : Option Addr) (c2 : Nat), j ≤ m1 ∧ v = .int .i64 j ∧ o = .slice A2 j c2 ∧ Own wr w.heap.size 3 A2 j c2 (ci64 (List.replicate j (-1))) ∧ Below w.heap.size w wr) (fun _ v _ => m1 - (intOf v).toNat)
  case atStart => exact ⟨0, none, 0, Nat.zero_le _, rfl, rfl, Own.none_ _ _ _ _, Below.refl _ _⟩
  case round =>
    obtain ⟨j, A2, c2, hj, rfl, rfl, ho, hbel⟩ := hrel
    by_cases hjm : j < m1
    · have hjm' : (j : Int) < m1 := by omega
      have hsz := hbel.size
      go_wp2_with (at_builtin; go_must (refine wpList_app1 wr rfl _ _ 25 rfl 3 i0 _ 8 Tryz.underlying25 hi0 hz0 hz1 hz2 rfl w.heap.size A2 j c2 _ rfl ho 1 rfl rfl ?c3 ?c4 ?c5 ?_))
      case c3 => simp only [maxLen]; omega
      case c4 => omega
      try case c5 => exact hsz
      intro A3 c3 w3 hown3 hbel3 hfr3 hat3
      have hown4 : Own w3 w.heap.size 3 A3 (j + 1) c3 (ci64 (List.replicate (j + 1) (-1))) := by
        rw [List.replicate_succ', ci64_snoc6]
        exact hown3
      have hbk3 := hbel.trans hbel3
      clear hown3 hbel3 hfr3 hat3 ho
      go_wp2
      go_roundw
      case rel => exact ⟨j + 1, A3, c3, by omega, by go_num, rfl, hown4, hbk3⟩
      case measure => simp [intOf]; omega
    · obtain rfl : j = m1 := by omega
      obtain ⟨wb, hwb⟩ : ∃ wb, wb = wr := ⟨_, rfl⟩
      rw [← hwb] at ho hbel ⊢
      clear hwb
      have hxb := hx.below hbel
      have hub := hur.below hbel
      have hlit := Own.lit (B := wb.heap.size) wb 3 #[.int .i64 (i1 : Int)] 1 (Nat.le_refl _) rfl (by unfold maxLen; omega)
      have hlb : Below wb.heap.size wb (wb.alloc (.cells #[.int .i64 (i1 : Int)] 3)) := (Below.refl _ wb).alloc (Nat.le_refl _) _
      have ho1 := ho.below hlb
      have hblk : Hid (∀ g, 0 < c2 → A2 = some ⟨g, 0, none⟩ → g < wb.heap.size) := Lib.hid (fun g hc hA => (ho.blk hc hA).2)
      have hs0 : Hid (Core g j zs i1 on (startP j i1) ∧ (startP j i1).f = -1 ∧ runP g zs on (j + 2 - 0) 0 (startP j i1) = S) := Lib.hid ⟨start_core on (by rw [HG.out]; omega), rfl, HS.out⟩
      go_wp2_with fail
      go_loopw [10, 11, 14] (fun o by2 v wr => ∃ (k : Nat) (s : St) (A1 : Option Addr) (c1 : Nat), k ≤ s.q.length ∧ s.q.length ≤ j + 1 ∧ v = .int .i64 k ∧ o = .slice A1 s.q.length c1 ∧ by2 = .slice A2 j c2 ∧ Own wr wb.heap.size 3 A1 s.q.length c1 (ci64 s.q) ∧ Own wr w.heap.size 3 A2 j c2 (ci64 s.by_) ∧ Hid (Core g j zs i1 on s ∧ s.f = -1 ∧ runP g zs on (j + 2 - k) k s = S) ∧ Below w.heap.size w wr ∧ wb.heap.size ≤ wr.heap.size) (fun _ _ v _ => j + 2 - (intOf v).toNat)
      case atStart => exact ⟨0, startP j i1, _, _, Nat.zero_le _, by simp [startP], rfl, rfl, rfl, hlit, ho1, hs0, hbel.trans (hlb.mono hbel.size), hlb.size⟩
      case round =>
        obtain ⟨k, s, A1, c1, hk, hql, rfl, rfl, rfl, hoq, hob, hcore, hbelr, hszr⟩ := hrel
        clear hlit hlb ho ho1 hs0
        by_cases hkq : k < s.q.length
        · have hkq' : (k : Int) < s.q.length := by omega
          obtain ⟨p1, q1, rfl, hp1, y0, hy0, hcy⟩ := hoq.rd.get hkq
          rw [ci64_get _ _ hkq] at hy0
          obtain rfl : iV s.q[k] = y0 := Option.some.inj hy0
          unfold iV at hcy
          have hbm : s.q[k] ∈ s.q := List.getElem_mem hkq
          have hbr := hcore.out.1.rng _ hbm
          have hget : s.q[k]? = some s.q[k] := List.getElem?_eq_getElem hkq
          rw [HG.out] at hbr
          obtain ⟨a, ha⟩ : ∃ a, s.q[k] = a := ⟨_, rfl⟩
          rw [ha] at hcy hbr hbm hget
          obtain ⟨b, rfl⟩ : ∃ b : Nat, a = b := ⟨a.toNat, by omega⟩
          have hbn : b < n0 := by omega
          have hbn' : (b : Int) < n0 := by omega
          have hb0 : (0 : Int) ≤ b := by omega
          obtain ⟨p, q, u, rfl, hgu, hp, hcu, hku⟩ := gr_get hx HG0.out hbn
          have hrl := hrs.out b hbn
          rw [hgu] at hrl
          have hun := hku.len
          have hutop := Nat.le_trans hku.cap hku.top
          unfold maxLen at hutop
          have hu8 : u.n ≤ j := by rw [← hun]; exact rises_len hrl
          have hrdu := hku.rd
          obtain ⟨uA, un, uc, l⟩ := u
          simp only at hcu hun hu8 hrdu hrl hgu
          have HRL := Lib.hid hrl
          have HUN := Lib.hid hun
          have hrun : runP g zs on (j + 2 - (k + 1)) (k + 1) (scanP zs on b l s) = S := by
            have h5 := hcore.out.2.2
            rw [show j + 2 - k = (j + 2 - (k + 1)) + 1 by omega, run_step hcore.out.2.1 hkq hget, Int.toNat_natCast, hgu] at h5
            exact h5
          obtain ⟨S1, hS1⟩ : ∃ S1, scanP zs on b l s = S1 := ⟨_, rfl⟩
          rw [hS1] at hrun
          have HRUN := Lib.hid hrun
          have h30 : Hid (Core g j zs i1 on s ∧ s.f = -1 ∧ (b : Int) ∈ s.q ∧ scanP zs on b (l.drop 0) s = S1) := Lib.hid ⟨hcore.out.1, hcore.out.2.1, hbm, by rw [List.drop_zero]; exact hS1⟩
          have HGU := Lib.hid hgu
          obtain ⟨wo, rfl⟩ : ∃ wo, wo = wr := ⟨_, rfl⟩
          clear hy0 ha hbr hbm hget hrl hun hrun hS1 hku hgu hcore
          go_wp2_with fail
          go_loopw [10, 11, 16] (fun o by2 v wr => ∃ (r : Nat) (s2 : St) (A1 : Option Addr) (c1 : Nat), r ≤ un ∧ k < s2.q.length ∧ s2.q.length ≤ j + 1 ∧ v = .int .i64 r ∧ o = .slice A1 s2.q.length c1 ∧ by2 = .slice A2 j c2 ∧ Own wr wb.heap.size 3 A1 s2.q.length c1 (ci64 s2.q) ∧ Own wr w.heap.size 3 A2 j c2 (ci64 s2.by_) ∧ Hid (Core g j zs i1 on s2 ∧ s2.f = -1 ∧ (b : Int) ∈ s2.q ∧ scanP zs on b (l.drop r) s2 = S1) ∧ Below w.heap.size w wr ∧ wb.heap.size ≤ wr.heap.size) (fun _ _ v _ => un - (intOf v).toNat)
          case atStart => exact ⟨0, s, _, c1, Nat.zero_le _, hkq, hql, rfl, rfl, rfl, hoq, hob, h30, hbelr, hszr⟩
          case round =>
            obtain ⟨r, s2, A3, c3, hr, hk2, hq2, rfl, rfl, rfl, ho3, hob3, hin, hb3, hs3⟩ := hrel
            clear hoq hob h30
            have hcu3 : wr.cell? ⟨p, q + b, none⟩ = some (.slice uA un uc) := (hb3.cell (p := ⟨p, q + b, none⟩) hp).trans hcu
            by_cases hru : r < un
            · have hru' : (r : Int) < un := by omega
              obtain ⟨p2, q2, rfl, hp2, y0, hy0, hcl⟩ := hrdu.get hru
              have hrl : r < l.length := by rw [HUN.out]; exact hru
              rw [ci64_get _ _ hrl] at hy0
              obtain rfl : iV l[r] = y0 := Option.some.inj hy0
              unfold iV at hcl
              have hkr := HRL.out.1 _ (List.getElem_mem hrl)
              have hkm : l[r] ∈ g.getD b [] := by rw [HGU.out]; exact List.getElem_mem hrl
              have hdr : l.drop r = l[r] :: l.drop (r + 1) := List.drop_eq_getElem_cons hrl
              obtain ⟨kk, hkk⟩ : ∃ kk, l[r] = kk := ⟨_, rfl⟩
              rw [hkk] at hcl hkr hkm hdr
              obtain ⟨kn, rfl⟩ : ∃ y : Nat, kk = y := ⟨kk.toNat, by omega⟩
              have hclr : wr.cell? ⟨p2, q2 + r, none⟩ = some (.int .i64 (kn : Int)) := (hb3.cell (p := ⟨p2, q2 + r, none⟩) hp2).trans hcl
              have hknj : kn < j := by omega
              have hknj' : (kn : Int) < j := by omega
              have hkn0 : (0 : Int) ≤ kn := by omega
              have hsc : scanP zs on b (l.drop (r + 1)) (visitP zs on b s2 (kn : Int)) = S1 := by
                have h5 := hin.out.2.2.2
                rw [hdr] at h5
                exact h5
              have hcv := visit_core (on := on) hfit.out (from_ := (i1 : Int)) (by rw [Int.toNat_natCast]; exact hf0.out) hin.out.1 hin.out.2.2.1 (k := (kn : Int)) ⟨by omega, by omega⟩ (by rw [Int.toNat_natCast]; exact hkm)
              have hql2 := q_len hcv
              have hbq := mem_of_vis_q zs on (i := (b : Int)) (kn : Int) hin.out.2.2.1
              have hjc := hob3.le
              obtain ⟨g2, rfl, hg2w, hg2r⟩ := hob3.lt (by omega)
              have hg2b : g2 < wb.heap.size := hblk.out g2 (by omega) rfl
              have hbl : kn < s2.by_.length := by rw [hin.out.1.len]; exact hknj
              have hcb := hob3.cell (j := kn) hknj
              rw [ci64_get _ _ hbl] at hcb
              have hgd : s2.by_.getD kn (-1) = s2.by_[kn] := by rw [List.getD_eq_getElem?_getD, List.getElem?_eq_getElem hbl]; rfl
              unfold iV at hcb
              obtain ⟨y, hy⟩ : ∃ y, s2.by_[kn] = y := ⟨_, rfl⟩
              rw [hy] at hcb hgd
              have hfn := hin.out.2.1
              clear hy0 hkk hkr hkm hdr hrl hcl hy hbl
              by_cases hy1 : y = -1
              · have k1 : (y != -1) = false := by rw [hy1]; rfl
                have hvn := visit_new (on := on) (has := zs) (i := (b : Int)) (k := (kn : Int)) hfn (by rw [Int.toNat_natCast, hgd]; exact hy1)
                rw [Int.toNat_natCast] at hvn
                obtain ⟨h, hh⟩ : ∃ h, holder zs (kn : Int) = h := ⟨_, rfl⟩
                rw [hh] at hvn
                have hfr := hob3.free (by omega) kn
                have hset := hob3.set (by omega) kn (.int .i64 (b : Int))
                have e1 : (ci64 s2.by_).set kn (.int .i64 (b : Int)) = ci64 (s2.by_.set kn (b : Int)) := by simp [ci64, iV]
                rw [e1] at hset
                have hq3 : Own (wr.setCell ⟨g2, kn, none⟩ (.int .i64 (b : Int))) wb.heap.size 3 A3 s2.q.length c3 (ci64 s2.q) := ho3.keep fun g' hA _ hg' _ => Below.heap_setCell _ _ _ _ (show g' ≠ g2 by omega)
                have hbs := hb3.setCell (p := ⟨g2, kn, none⟩) hg2w (.int .i64 (b : Int))
                have hss : wb.heap.size ≤ (wr.setCell ⟨g2, kn, none⟩ (.int .i64 (b : Int))).heap.size := by
                  simp only [World.setCell, Array.size_modify]; exact hs3
                have hrh := fun v (hv : Below w.heap.size w v) => rholder_any A n c zs (kn : Int) v (hur.below hv) hut
                simp only [hh] at hrh
                have hhr : -1 ≤ h ∧ h < 1000 := by
                  by_cases h1 : holder zs (kn : Int) = -1
                  · omega
                  · obtain ⟨c', d1, d2, _⟩ := holder_some h1
                    have d3 := HNB.out
                    omega
                have HSC := Lib.hid hsc
                have HCV := Lib.hid hcv
                have HBQ := Lib.hid hbq
                have HVN := Lib.hid hvn
                clear hsc hcv hbq hvn hh e1 hy1 hgd hfn
                go_upto_region 16 with fail
                clear hfr hcb k1 hcu3 hclr
                generalize wr.setCell ⟨g2, kn, none⟩ (.int .i64 (b : Int)) = ws at *
                have hrw := hrh ws hbs
                go_wp2_with fail
                refine hrw.mono ?_
                rintro e w8 ⟨rfl, rfl⟩
                clear hrw hrh
                by_cases hh1 : h = -1
                · have k2 : (h != -1) = false := by rw [hh1]; rfl
                  have hvn := HVN.out
                  rw [if_neg (by simp [hh1])] at hvn
                  clear hh1
                  cases on
                  · rw [if_neg (by simp)] at hvn
                    have hS1 : S1 = ⟨s2.q, s2.by_.set kn (b : Int), (kn : Int)⟩ := by
                      rw [← HSC.out, hvn, scan_stop]
                      simp only; omega
                    have hS2 : S = ⟨s2.q, s2.by_.set kn (b : Int), (kn : Int)⟩ := by
                      rw [← HRUN.out, hS1, run_end (.inl (by simp only; omega))]
                    have hfin : Hid (S.f = (kn : Int) ∧ S.q = s2.q ∧ S.by_ = s2.by_.set kn (b : Int)) := Lib.hid (by rw [hS2]; exact ⟨rfl, rfl, rfl⟩)
                    clear hvn hS1 hS2
                    have hqw := hq3.mono (show w.heap.size ≤ wb.heap.size from hbel.size)
                    go_wp2
                    go_ret3
                    refine ⟨A3, s2.q.length, c3, some ⟨g2, 0, none⟩, j, c2, by rw [hfin.out.1]; rfl, ?_, ?_, hbs⟩
                    · rw [hfin.out.2.1]; exact hqw
                    · rw [hfin.out.2.2]; exact hset
                  · rw [if_pos rfl] at hvn
                    have HN : Hid (Core g j zs i1 true ⟨s2.q, s2.by_.set kn (b : Int), -1⟩ ∧ (St.mk s2.q (s2.by_.set kn (b : Int)) (-1)).f = -1 ∧ (b : Int) ∈ (St.mk s2.q (s2.by_.set kn (b : Int)) (-1)).q ∧ scanP zs true b (l.drop (r + 1)) ⟨s2.q, s2.by_.set kn (b : Int), -1⟩ = S1) := Lib.hid (by
                      rw [← hvn]; exact ⟨HCV.out, by rw [hvn], HBQ.out, HSC.out⟩)
                    clear hvn
                    go_wp2
                    go_roundw
                    case rel => exact ⟨r + 1, ⟨s2.q, s2.by_.set kn (b : Int), -1⟩, A3, c3, by omega, hk2, hq2, by go_num, rfl, rfl, hq3, hset, Lib.hid ⟨HN.out.1, rfl, HN.out.2.2.1, HN.out.2.2.2⟩, hbs, hss⟩
                    case measure => simp [intOf]; omega
                · have k2 : (h != -1) = true := by rw [bne_iff_ne]; exact hh1
                  have hvn := HVN.out
                  rw [if_pos hh1] at hvn
                  have hq4 : s2.q.length + 1 ≤ j + 1 := by
                    rw [hvn] at hql2
                    simpa using hql2
                  have HN : Hid (Core g j zs i1 on ⟨s2.q ++ [h], s2.by_.set kn (b : Int), -1⟩ ∧ (St.mk (s2.q ++ [h]) (s2.by_.set kn (b : Int)) (-1)).f = -1 ∧ (b : Int) ∈ (St.mk (s2.q ++ [h]) (s2.by_.set kn (b : Int)) (-1)).q ∧ scanP zs on b (l.drop (r + 1)) ⟨s2.q ++ [h], s2.by_.set kn (b : Int), -1⟩ = S1) := Lib.hid (by
                    rw [← hvn]; exact ⟨HCV.out, by rw [hvn], HBQ.out, HSC.out⟩)
                  clear hvn hh1 hql2
                  go_wp2_with (at_builtin; go_must (refine wpList_app1 ws rfl _ _ 25 rfl 3 i0 _ 8 Tryz.underlying25 hi0 hz0 hz1 hz2 rfl wb.heap.size A3 s2.q.length c3 _ rfl hq3 1 rfl rfl ?d3 ?d4 ?d5 ?_))
                  case d3 => simp only [maxLen]; omega
                  case d4 => omega
                  try case d5 => exact hss
                  intro A5 c5 w5 hown5 hbel5 hfr5 hat5
                  have hq5 : Own w5 wb.heap.size 3 A5 (s2.q ++ [h]).length c5 (ci64 (s2.q ++ [h])) := by
                    rw [ci64_snoc6, List.length_append, List.length_singleton]
                    exact hown5
                  have hset5 : Own w5 w.heap.size 3 (some ⟨g2, 0, none⟩) j c2 (ci64 (s2.by_.set kn (b : Int))) := hset.keep fun g' hA _ _ _ => by
                    cases hA
                    exact hbel5.block _ hg2b
                  have hbs5 := hbs.trans (hbel5.mono hbel.size)
                  have hss5 := Nat.le_trans hss hbel5.size
                  clear hown5 hbel5 hfr5 hat5 hq3 hset
                  go_wp2
                  go_roundw
                  case rel => exact ⟨r + 1, ⟨s2.q ++ [h], s2.by_.set kn (b : Int), -1⟩, A5, c5, by omega, by simp; omega, by simp; omega, by go_num, by simp, rfl, hq5, hset5, Lib.hid ⟨HN.out.1, rfl, HN.out.2.2.1, HN.out.2.2.2⟩, hbs5, hss5⟩
                  case measure => simp [intOf]; omega
              · have k1 : (y != -1) = true := by rw [bne_iff_ne]; exact hy1
                rw [visit_seen (by rw [Int.toNat_natCast, hgd]; exact hy1)] at hsc
                have HN : Hid (Core g j zs i1 on s2 ∧ s2.f = -1 ∧ (b : Int) ∈ s2.q ∧ scanP zs on b (l.drop (r + 1)) s2 = S1) := Lib.hid ⟨hin.out.1, hin.out.2.1, hin.out.2.2.1, hsc⟩
                clear hsc hcv hbq hgd hfn hy1 hql2
                go_wp2
                go_roundw
                case rel => exact ⟨r + 1, s2, A3, c3, by omega, hk2, hq2, by go_num, rfl, rfl, ho3, hob3, HN, hb3, hs3⟩
                case measure => simp [intOf]; omega
            · obtain rfl : r = un := by omega
              have HN : Hid (Core g j zs i1 on s2 ∧ s2.f = -1 ∧ runP g zs on (j + 2 - (k + 1)) (k + 1) s2 = S) := Lib.hid (by
                have h5 := hin.out.2.2.2
                rw [List.drop_of_length_le (by rw [HUN.out]; exact Nat.le_refl _)] at h5
                have h6 : s2 = S1 := h5
                exact ⟨hin.out.1, hin.out.2.1, by rw [h6]; exact HRUN.out⟩)
              clear hin
              go_wp2
              go_roundw
              case rel => exact ⟨k + 1, s2, A3, c3, by omega, hq2, by go_num, rfl, rfl, ho3, hob3, HN, hb3, hs3⟩
              case measure => simp [intOf]; omega
        · obtain rfl : k = s.q.length := by omega
          have hfin : Hid (S.f = -1 ∧ S.q = s.q ∧ S.by_ = s.by_) := Lib.hid (by
            have h5 := hcore.out.2.2
            rw [run_end (.inr (Nat.le_refl _))] at h5
            rw [← h5]; exact ⟨hcore.out.2.1, rfl, rfl⟩)
          have hqw := hoq.mono (show w.heap.size ≤ wb.heap.size from hbel.size)
          clear hcore
          go_wp2
          go_ret3
          refine ⟨A1, s.q.length, c1, A2, j, c2, by rw [hfin.out.1]; rfl, ?_, ?_, hbelr⟩
          · rw [hfin.out.2.1]; exact hqw
          · rw [hfin.out.2.2]; exact hob
end Go.Proofs.YtcjfgkihmhdhlaaGreatDoor

namespace Go.Proofs.YtcjfgkihmhdhlaaGreatDoor
open Go.RowKit
set_option linter.unusedVariables false

set_option maxRecDepth 100000 in
set_option maxHeartbeats 1000000 in
theorem rmore7 (x : Gr) (m : Int) (u : Ls) (z : Int) (w : World) (hx : x.Ok w) (hu : u.Ok w) (hm1 : -9223372036854775808 ≤ m) (hm2 : m ≤ 9223372036854775807) (hz1 : -9223372036854775808 ≤ z) (hz2 : z ≤ 9223372036854775807) :
    Calls Tryz.prog 21 #[x.v, .int .i64 m, u.v, .int .i64 z] w fun e w' => ∃ A' n' c', e = .returned (.tuple #[.slice A' n' c', .bool (moreB x.g m u.zs z), .int .i64 (pathErr x.g m u.zs z)]) ∧ OwnI w' w.heap.size ⟨A', n', c', moreL x.g m u.zs z⟩ ∧ Below w.heap.size w w' := by
  obtain ⟨i0, hi0, hy0, hy1, hy2⟩ := info_parts info7_int
  obtain ⟨A, n, c, zs⟩ := u
  have hmay := rmay_any x m ⟨A, n, c, zs⟩ z w hx hu hm1 hm2
  obtain ⟨β, hβ⟩ : ∃ β, mayP x.g m zs z = β := ⟨_, rfl⟩
  have HM := Lib.hid hβ
  simp only at hmay
  rw [hβ] at hmay
  have hxv : x.v = .slice x.A x.n x.c := rfl
  have HXV := Lib.hid hxv
  rw [hxv] at hmay ⊢
  unfold Ls.v at hmay ⊢
  simp only at hmay ⊢
  clear hβ hxv
  go_enter Tryz.func21, Tryz.ntmps21
  go_wp2_with fail
  refine hmay.mono ?_
  rintro e w1 ⟨rfl, hb1⟩
  clear hmay
  cases β
  · have hbad := Lib.hid (path_bad HM.out)
    go_wp2
    go_ret3
    refine ⟨none, 0, 0, by rw [hbad.out.1, hbad.out.2.1]; rfl, ?_, hb1⟩
    rw [hbad.out.2.2.1]
    exact OwnI.nil _ _
  obtain ⟨M, rfl, hM8, hg8, hzl, i, rfl, hif⟩ := may_nat HM.out
  have HOK := Lib.hid (path_ok HM.out)
  have HG := Lib.hid hx.glen
  have HZ := Lib.hid (show zs.length = n from hu.len)
  rw [hx.glen] at hg8 hif
  have HZL : Hid (n = x.n) := Lib.hid (by rw [← HZ.out, hzl, HG.out])
  have hn8 : n ≤ 8 := by rw [HZL.out]; exact hg8
  clear hzl
  have hrun := rsearch_any x M A n c zs i false w1 (hx.below hb1) (hu.below hb1) HM.out
  rw [HXV.out] at hrun
  obtain ⟨S, hS⟩ : ∃ S, searchP x.g M zs i false = S := ⟨_, rfl⟩
  have HS := Lib.hid (show moreS x.g M zs i = S from hS)
  rw [hS] at hrun
  clear hS
  go_wp2_with fail
  refine hrun.mono ?_
  rintro e w3 ⟨A1, n1, c1, A2, n2, c2, rfl, hoq, hoby, hb3⟩
  clear hrun hoq
  have hB3 := hb1.trans (hb3.mono hb1.size)
  have hoby := hoby.mono hb1.size
  clear hb3
  by_cases hf : S.f = -1
  · have hk : (S.f == -1) = true := by rw [hf]; rfl
    have hbad : Hid (pathErr x.g M zs i = 0 ∧ moreB x.g M zs i = false ∧ moreL x.g M zs i = []) := Lib.hid (by
      obtain ⟨h1, h2, h3, _⟩ := HOK.out
      refine ⟨h1, h2.trans ?_, h3.trans ?_⟩
      · rw [foundP, HS.out]; exact decide_eq_false (fun h => h hf)
      · rw [moreP, HS.out, if_pos hf])
    clear hf
    go_wp2
    go_ret3
    refine ⟨none, 0, 0, by rw [hbad.out.1, hbad.out.2.1]; rfl, ?_, hB3⟩
    rw [hbad.out.2.2]
    exact OwnI.nil _ _
  have hk : (S.f == -1) = false := by rw [beq_eq_false_iff_ne]; exact hf
  have hgood : Hid (pathErr x.g M zs i = 0 ∧ moreB x.g M zs i = true ∧ moreL x.g M zs i = augP S.by_ (M + 2) S.f zs) := Lib.hid (by
    obtain ⟨h1, h2, h3, _⟩ := HOK.out
    refine ⟨h1, h2.trans ?_, h3.trans ?_⟩
    · rw [foundP, HS.out]; exact decide_eq_true hf
    · rw [moreP, HS.out, if_neg hf])
  have hn0 : 0 < n := by rw [HZL.out]; omega
  have hcore : Core x.g M zs i false S := by
    have := (done_of (on := false) HM.out).core
    rwa [show searchP x.g M zs i false = S from HS.out] at this
  have HC := Lib.hid hcore
  have HF : Hid (Fit x.g M zs) := Lib.hid (may_fits HM.out)
  have HF0 : Hid (zs.getD (i : Int).toNat (-1) = -1) := Lib.hid (mayP_iff.1 HM.out).2.2
  have HBL : Hid (S.by_.length = n2) := Lib.hid (by have := hoby.len; rwa [ci64_len] at this)
  have hn2 : n2 = M := by rw [← HBL.out]; exact hcore.len
  subst hn2
  obtain ⟨r0, hr0, htrk⟩ := trk_start HF.out hcore hf
  obtain ⟨R, hR⟩ : ∃ R, augP S.by_ (n2 + 2) S.f zs = R := ⟨_, rfl⟩
  have HGD : Hid (moreL x.g n2 zs i = R) := Lib.hid (by rw [hgood.out.2.2, hR])
  have HGE : Hid (pathErr x.g n2 zs i = 0 ∧ moreB x.g n2 zs i = true) := Lib.hid ⟨hgood.out.1, hgood.out.2.1⟩
  have hst : Hid ((S.f = -1 ∨ ∃ r, r < n2 + 2 ∧ Trk x.g n2 zs S zs S.f r) ∧ zs.length = n ∧ augP S.by_ (n2 + 2) S.f zs = R ∧ ∀ z ∈ zs, -9223372036854775808 ≤ z ∧ z ≤ 9223372036854775807) := Lib.hid ⟨.inr ⟨r0, by omega, htrk⟩, HZ.out, hR, hu.fit⟩
  have hrd := (hu.below hB3).rd
  simp only at hrd
  obtain ⟨k0, hk0⟩ : ∃ k, S.f = k := ⟨_, rfl⟩
  rw [hk0] at hst hk ⊢
  clear hk0 htrk hcore hf hR hgood hr0
  have hB3s := hB3.size
  go_wp2_with (at_builtin; go_must (refine wpList_app w3 rfl _ _ 25 rfl 3 i0 _ 8 Tryz.underlying25 hi0 hy0 hy1 hy2 rfl w3.heap.size none 0 0 [] rfl (Own.none_ _ _ _ _) _ n c (ci64 zs) rfl hrd ?d1 ?d2 ?d3 ?d4 ?_))
  case d1 => intro u hu; obtain ⟨z, _, rfl⟩ := List.mem_map.1 hu; rfl
  case d2 => simp only [maxLen]; omega
  case d3 => omega
  try case d4 => exact Nat.le_refl _
  intro A5 c5 w4 hown5 hbel5 _ _
  try simp only [Nat.zero_add, List.nil_append] at hown5
  have hle5 := hown5.le
  obtain ⟨g5, rfl, hg5w, hg5r⟩ := hown5.lt (by omega)
  have hB4 := hB3.trans (hbel5.mono hB3s)
  have hby4 := hoby.below hbel5
  have HBK : Hid (∀ g, 0 < c2 → A2 = some ⟨g, 0, none⟩ → g < w3.heap.size) := Lib.hid (fun g hc hA => (hoby.blk hc hA).2)
  clear hoby hbel5 hg5r hB3
  go_wp2_with fail
  go_loopg [13] (n2 + 2) (fun f v wr => ∃ (k : Int) (out : List Int), v = .int .i64 k ∧ Hid ((k = -1 ∨ ∃ r, r < f ∧ Trk x.g n2 zs S out k r) ∧ out.length = n ∧ augP S.by_ f k out = R ∧ ∀ z ∈ out, -9223372036854775808 ≤ z ∧ z ≤ 9223372036854775807) ∧ Own wr w3.heap.size 3 (some ⟨g5, 0, none⟩) n c5 (ci64 out) ∧ Own wr w.heap.size 3 A2 n2 c2 (ci64 S.by_) ∧ Below w.heap.size w wr)
  case atStart => exact ⟨k0, zs, rfl, hst, hown5, hby4, hB4⟩
  case round =>
    obtain ⟨k, out, rfl, hin, own, hby, hBr⟩ := hrel
    clear hst hown5 hby4 hB4
    by_cases hk : k = -1
    · have hk1 : (k != -1) = false := by rw [hk]; rfl
      have hfin : Hid (out = R ∧ ∀ z ∈ out, -9223372036854775808 ≤ z ∧ z ≤ 9223372036854775807) := Lib.hid (by
        have h5 := hin.out.2.2.1
        rw [hk, aug_end] at h5
        exact ⟨h5, hin.out.2.2.2⟩)
      clear hk
      go_wp2
      go_ret3
      refine ⟨_, n, c5, by rw [HGE.out.1, HGE.out.2]; rfl, ?_, hBr⟩
      rw [HGD.out, ← hfin.out.1]
      exact ⟨own.mono hB3s, hfin.out.2⟩
    · have hk1 : (k != -1) = true := by rw [bne_iff_ne]; exact hk
      obtain ⟨r, hr, htrk⟩ := hin.out.1.resolve_left hk
      have hk0r := htrk.k0
      obtain ⟨kn, rfl⟩ : ∃ y : Nat, k = y := ⟨k.toNat, by omega⟩
      have hknM : kn < n2 := by omega
      have hknM' : (kn : Int) < n2 := by omega
      have hkn0 : (0 : Int) ≤ kn := by omega
      obtain ⟨y, hy⟩ : ∃ y, S.by_.getD kn (-1) = y := ⟨_, rfl⟩
      obtain ⟨hb1, hob, hnx⟩ := trk_step HF.out HF0.out HC.out (b := y) htrk (by rw [Int.toNat_natCast]; exact hy)
      have hjc := hby.le
      obtain ⟨g2, rfl, hg2w, hg2r⟩ := hby.lt (by omega)
      have hg23 := HBK.out g2 (by omega) rfl
      have hbl : kn < S.by_.length := by rw [HBL.out]; exact hknM
      have hcb0 := hby.cell (j := kn) hknM
      rw [ci64_get _ _ hbl] at hcb0
      have hcb : wr.cell? ⟨g2, kn, none⟩ = some (.int .i64 y) := by
        rw [hcb0]
        show some (Value.int .i64 S.by_[kn]) = _
        rw [← hy, List.getD_eq_getElem?_getD, List.getElem?_eq_getElem hbl]; rfl
      have haug := aug_next (by_ := S.by_) (fuel := gk - 1) (k := (kn : Int)) (b := y) (out := out) hk (by rw [Int.toNat_natCast]; exact hy)
      rw [show gk - 1 + 1 = gk by omega, hin.out.2.2.1] at haug
      obtain ⟨d, rfl⟩ : ∃ d : Nat, y = d := ⟨y.toNat, by omega⟩
      rw [Int.toNat_natCast] at hob hnx haug
      have hdn : d < n := by rw [HZL.out, ← HG.out]; omega
      have hdn' : (d : Int) < n := by omega
      have hd0 : (0 : Int) ≤ d := by omega
      have hol : d < out.length := by rw [hin.out.2.1]; exact hdn
      obtain ⟨a, ha⟩ : ∃ a, zs.getD d (-1) = a := ⟨_, rfl⟩
      rw [ha] at hob hnx
      rw [hob] at haug
      have hcr : wr.cell? ⟨g5, d, none⟩ = some (.int .i64 a) := by
        rw [own.cell hdn, ci64_get _ _ hol]
        show some (Value.int .i64 out[d]) = _
        rw [← hob, List.getD_eq_getElem?_getD, List.getElem?_eq_getElem hol]; rfl
      have hfr := own.free (by omega) d
      have own2 := own.set (by omega) d (.int .i64 (kn : Int))
      have e1 : (ci64 out).set d (.int .i64 (kn : Int)) = ci64 (out.set d (kn : Int)) := by simp [ci64, iV]
      rw [e1] at own2
      have hby2 : Own (wr.setCell ⟨g5, d, none⟩ (.int .i64 (kn : Int))) w.heap.size 3 (some ⟨g2, 0, none⟩) n2 c2 (ci64 S.by_) := hby.keep fun g' hA _ _ _ => heap_setCell_other _ _ _ _ (by cases hA; show g2 ≠ g5; omega)
      have hB2 := hBr.setCell (p := ⟨g5, d, none⟩) (Nat.le_trans hB3s hg5w) (.int .i64 (kn : Int))
      have HN : Hid ((a = -1 ∨ ∃ r, r < gk - 1 ∧ Trk x.g n2 zs S (out.set d (kn : Int)) a r) ∧ (out.set d (kn : Int)).length = n ∧ augP S.by_ (gk - 1) a (out.set d (kn : Int)) = R ∧ ∀ z ∈ out.set d (kn : Int), -9223372036854775808 ≤ z ∧ z ≤ 9223372036854775807) := Lib.hid (by
        refine ⟨hnx.imp id ?_, by rw [List.length_set]; exact hin.out.2.1, haug.symm, fun z hz => ?_⟩
        · rintro ⟨r', h1, h2⟩
          exact ⟨r', by omega, h2⟩
        · rcases List.mem_or_eq_of_mem_set hz with h1 | h1
          · exact hin.out.2.2.2 z h1
          · rw [h1]; omega)
      clear hy hob hnx haug ha own hby hBr e1 hin htrk hk hb1 hcb0 hol hbl
      go_wp2
      go_roundg (gk - 1)
      case measure => omega
      case rel => exact ⟨a, out.set d (kn : Int), rfl, HN, own2, hby2, hB2⟩
end Go.Proofs.YtcjfgkihmhdhlaaGreatDoor
