/-
  Walks of package halls: all of it.
-/
import Derived.Test.YtdckoaljcklmhaaGreatDoorMaW
import Derived.Test.YtdckoaljcklmhaaGreatDoorZeros
import Derived.Test.YtdckoaljcklmhaaGreatDoorGrWi
import Derived.Test.YtdckoaljcklmhaaGreatDoorHaE
import Derived.RangeFuncLeaves
import Derived.OwnWalkIn
import Derived.TacticsInMore
import Derived.WalkKit
import Derived.Shelf.Abstract
import Derived.Test.YtdckoaljcklmhaaGreatDoorSeqR
import Derived.Test.YtdckoaljcklmhaaGreatDoorHaF
namespace Go.Proofs.YtdckoaljcklmhaaGreatDoor
open Go.RowKit
set_option linter.unusedVariables false

theorem infoC_int : (Tryz.prog.info? 3).map (fun i => (i.zero, i.size, i.bytes)) = some (some (.int .i64 0), 1, 8) := by kernel_rfl
theorem Own.zero {w : World} {B : Nat} {e : TypeId} {A : Option Addr} {n c : Nat} {xs : List Value} (h : Own w B e A n c xs) : Own w B e A 0 c [] := by
  refine ⟨rfl, ?_⟩
  rcases h.2 with ⟨_, h0⟩ | ⟨g, cur, hA, hg, hh, _, hm, hs, _⟩
  · exact .inl ⟨rfl, h0⟩
  · exact .inr ⟨g, cur, hA, hg, hh, Nat.zero_le _, hm, hs, by simp⟩
set_option maxRecDepth 100000 in
set_option maxHeartbeats 1000000 in
theorem hgrow_any (k : Nat) (h1 : 1 ≤ k) (h2 : k ≤ 64) (w : World) :
    Calls Tryz.prog 141 #[.slice none 0 0, .int .i64 k] w fun e w' => ∃ A c, e = .returned (.slice A 0 c) ∧ Own w' w.heap.size 3 A 0 c [] ∧ Below w.heap.size w w' := by
  obtain ⟨i0, hi0, hz0, hz1, hz2⟩ := info_parts infoC_int
  have k1 : decide ((k : Int) < 0) = false := decide_eq_false (by omega)
  have k2 : decide (0 < (k : Int)) = true := decide_eq_true (by omega)
  have s1 : IntKind.i64.wrap (k : Int) = k := by rw [IntKind.wrap_i64]; omega
  have s2 : IntKind.i64.wrap ((k : Int) - 0) = k := by rw [IntKind.wrap_i64]; omega
  have hown := Own.none_ w w.heap.size 3 none
  go_enter Tryz.func141, Tryz.ntmps141
  go_wp2_with (at_builtin; go_must (refine wpList_app0 w rfl _ _ 22 3 rfl 3 i0 _ 8 .i64 .i64 Tryz.underlying22 Tryz.underlying3 hi0 hz0 hz1 hz2 rfl rfl w.heap.size _ 0 0 [] rfl hown k _ rfl ?d1 ?d2 ?d3 ?d4 ?_))
  case d1 => first | rfl | (simp only [Int.sub_zero, s1, s2])
  case d2 => simp only [maxLen]; omega
  case d3 => omega
  try case d4 => exact Nat.le_refl _
  intro A2 c2 w2 hown2 hbel2
  have hz := hown2.zero
  clear hown hown2
  go_wp2
  go_ret
  exact ⟨_, _, rfl, hz, hbel2⟩
/-- How long so many of them are together. -/
def joinTo (g : List (List Int)) (j : Nat) : List Int := (g.take j).flatten
theorem joinTo_succ {g : List (List Int)} {j : Nat} (h : j < g.length) : joinTo g (j + 1) = joinTo g j ++ g.getD j [] := by
  rw [joinTo, List.take_succ_eq_append_getElem h, List.flatten_append, joinTo, List.getD_eq_getElem?_getD, List.getElem?_eq_getElem h]
  simp
theorem joinTo_all {g : List (List Int)} {j : Nat} (h : g.length ≤ j) : joinTo g j = g.flatten := by rw [joinTo, List.take_of_length_le h]
theorem joinTo_le (g : List (List Int)) (j : Nat) : (joinTo g j).length ≤ g.flatten.length := by
  have h : (joinTo g j ++ (g.drop j).flatten) = g.flatten := by rw [joinTo, ← List.flatten_append, List.take_append_drop]
  rw [← h, List.length_append]
  omega
set_option maxRecDepth 100000 in
set_option maxHeartbeats 1000000 in
theorem hconcat_any (x : Gr) (w : World) (hx : x.Ok w) (h1 : 1 ≤ x.g.flatten.length) (h2 : x.g.flatten.length ≤ 64) (hfit : ∀ l ∈ x.g, ∀ z ∈ l, -9223372036854775808 ≤ z ∧ z ≤ 9223372036854775807) :
    Calls Tryz.prog 132 #[.slice x.A x.n x.c] w fun e w' => ∃ A n c, e = .returned (.slice A n c) ∧ OwnI w' w.heap.size ⟨A, n, c, x.g.flatten⟩ ∧ Below w.heap.size w w' := by
  obtain ⟨i0, hi0, hz0, hz1, hz2⟩ := info_parts infoC_int
  have HG := Lib.hid hx.glen
  have tx := Nat.le_trans hx.cap hx.top
  unfold maxLen at tx
  have HF := Lib.hid hfit
  clear hfit
  go_enter Tryz.func132, Tryz.ntmps132
  go_wp2_with fail
  go_loopw [3, 11] (fun v i wr => ∃ (j m : Nat), j ≤ x.n ∧ i = .int .i64 j ∧ v = .int .i64 m ∧ Hid (m = (joinTo x.g j).length) ∧ wr = w) (fun _ i _ => x.n - (intOf i).toNat)
  case atStart => exact ⟨0, 0, Nat.zero_le _, rfl, rfl, Lib.hid rfl, rfl⟩
  case round =>
    obtain ⟨j, m, hj, rfl, rfl, hm, rfl⟩ := hrel
    have hle := joinTo_le x.g j
    rw [← hm.out] at hle
    by_cases hjn : j < x.n
    · have hjn' : (j : Int) < x.n := by omega
      obtain ⟨p, q, y, hA, hgy, hp, hcy, hky⟩ := gr_get (A := x.A) (n := x.n) (c := x.c) (t := x.t) hx rfl hjn
      have hgj : x.g.getD j [] = y.zs := hgy
      have hle2 := joinTo_le x.g (j + 1)
      rw [joinTo_succ (by rw [HG.out]; exact hjn), List.length_append, hgj, hky.len, ← hm.out] at hle2
      have HN : Hid (m + y.n = (joinTo x.g (j + 1)).length) := Lib.hid (by rw [joinTo_succ (by rw [HG.out]; exact hjn), List.length_append, hgj, hky.len, ← hm.out])
      have s1 : IntKind.i64.wrap ((m : Int) + y.n) = (m : Int) + y.n := by rw [IntKind.wrap_i64]; omega
      have k1 : decide ((m : Int) + y.n < 0) = false := decide_eq_false (by omega)
      clear hgy hgj hm hle hky
      rw [hA]
      go_wp2
      go_roundw
      case rel => exact ⟨j + 1, m + y.n, by omega, by go_num, by go_num, HN, trivial⟩
      case measure => simp [intOf]; omega
    · obtain rfl : j = x.n := by omega
      obtain ⟨wo, rfl⟩ : ∃ wo, wo = wr := ⟨_, rfl⟩
      have hm2 : Hid (m = x.g.flatten.length) := Lib.hid (by rw [hm.out, joinTo_all (by rw [HG.out]; exact Nat.le_refl _)])
      have hgw := hgrow_any m (by rw [hm2.out]; exact h1) (by omega) wo
      clear hm hle
      go_wp2_with fail
      refine hgw.mono ?_
      rintro e w2 ⟨A2, c2, rfl, ho2, hb2⟩
      clear hgw
      go_wp2_with fail
      go_loopw [6, 27] (fun v i wr => ∃ (j n c : Nat) (A : Option Addr), j ≤ x.n ∧ i = .int .i64 j ∧ v = .slice A n c ∧ Hid (n = (joinTo x.g j).length) ∧ Own wr wo.heap.size 3 A n c (ci64 (joinTo x.g j)) ∧ Below wo.heap.size wo wr) (fun _ i _ => x.n - (intOf i).toNat)
      case atStart => exact ⟨0, 0, c2, A2, Nat.zero_le _, rfl, rfl, Lib.hid rfl, ho2, hb2⟩
      case round =>
        obtain ⟨j, n, c, A, hj, rfl, rfl, hm, own, hB⟩ := hrel
        clear ho2 hb2
        have hle := joinTo_le x.g j
        rw [← hm.out] at hle
        by_cases hjn : j < x.n
        · have hjn' : (j : Int) < x.n := by omega
          obtain ⟨p, q, y, hA, hgy, hp, hcy, hky⟩ := gr_get (A := x.A) (n := x.n) (c := x.c) (t := x.t) hx rfl hjn
          have hgj : x.g.getD j [] = y.zs := hgy
          have hle2 := joinTo_le x.g (j + 1)
          have hcw := (hB.cell (p := ⟨p, q + j, none⟩) hp).trans hcy
          have hrd := hky.rd.below hB
          rw [joinTo_succ (by rw [HG.out]; exact hjn), List.length_append, hgj, hky.len, ← hm.out] at hle2
          have HN : Hid (n + y.n = (joinTo x.g (j + 1)).length) := Lib.hid (by rw [joinTo_succ (by rw [HG.out]; exact hjn), List.length_append, hgj, hky.len, ← hm.out])
          have HJ : Hid (ci64 (joinTo x.g (j + 1)) = ci64 (joinTo x.g j) ++ ci64 y.zs) := Lib.hid (by rw [joinTo_succ (by rw [HG.out]; exact hjn), hgj, ci64_app])
          have hsz := hB.size
          clear hgy hgj hm hle hky hcy
          rw [hA]
          go_wp2_with (at_builtin; go_must (refine wpList_app wr rfl _ _ 22 rfl 3 i0 _ 8 Tryz.underlying22 hi0 hz0 hz1 hz2 rfl wo.heap.size A n c _ rfl own _ y.n y.c (ci64 y.zs) rfl hrd ?d1 ?d2 ?d3 ?d4 ?_))
          case d1 => intro u hu; obtain ⟨z, _, rfl⟩ := List.mem_map.1 hu; rfl
          case d2 => simp only [maxLen]; omega
          case d3 => omega
          try case d4 => exact hsz
          intro A4 c4 w4 own4 hb4 _ _
          have hB4 := hB.trans hb4
          rw [← HJ.out] at own4
          clear own hB hb4 hcw hrd
          go_wp2
          go_roundw
          case rel => exact ⟨j + 1, n + y.n, c4, A4, by omega, by go_num, rfl, HN, own4, hB4⟩
          case measure => simp [intOf]; omega
        · obtain rfl : j = x.n := by omega
          have hj : joinTo x.g x.n = x.g.flatten := joinTo_all (by rw [HG.out]; exact Nat.le_refl _)
          rw [hj] at own
          have hO : Hid (OwnI wr wo.heap.size ⟨A, n, c, x.g.flatten⟩) := Lib.hid ⟨own, fun z hz => by
            obtain ⟨l, hl, hz⟩ := List.mem_flatten.1 hz
            exact HF.out l hl z hz⟩
          clear own hm hle hj
          go_wp2
          go_ret
          exact ⟨_, _, _, rfl, hO.out, hB⟩
end Go.Proofs.YtdckoaljcklmhaaGreatDoor


namespace Go.Proofs.YtdckoaljcklmhaaGreatDoor
open Go.RowKit
set_option linter.unusedVariables false

theorem want_snoc {w l : List Int} {j : Nat} (hj : j < w.length) : wantB (w.take (j + 1)) l = (wantB (w.take j) l && decide (w[j] ∈ l)) := by
  rw [wantB, List.take_succ_eq_append_getElem hj, List.all_append, ← wantB]; simp
theorem within_snoc {g : List (List Int)} {s l : List Int} {j : Nat} (hj : j < s.length) : (withinL g (s.take (j + 1)) l).length = (withinL g (s.take j) l).length + if wantB (g.getD s[j].toNat []) l = true then 1 else 0 := by
  rw [withinL, List.take_succ_eq_append_getElem hj, List.filter_append, List.length_append, ← withinL]
  by_cases h : wantB (g.getD s[j].toNat []) l = true
  · rw [if_pos h, List.filter_cons, if_pos h]; rfl
  · rw [if_neg h, List.filter_cons, if_neg h]; rfl
theorem within_short (g : List (List Int)) (s l : List Int) : (withinL g s l).length ≤ s.length := List.length_filter_le _ _

set_option maxRecDepth 100000 in
set_option maxHeartbeats 1000000 in
theorem hamong_any (u : Ls) (l : Ls) (w : World) (hu : u.Ok w) (hl : l.Ok w) :
    Calls Tryz.prog 121 #[.slice u.A u.n u.c, .slice l.A l.n l.c] w fun e w' => e = .returned (.bool (wantB u.zs l.zs)) ∧ w' = w := by
  have HU := Lib.hid hu.len
  have tl := Nat.le_trans hl.cap hl.top
  have tu := Nat.le_trans hu.cap hu.top
  have lrd := hl.rd
  have urd := hu.rd
  obtain ⟨lA, ln, lc, lz⟩ := l
  obtain ⟨uA, un, uc, uz⟩ := u
  simp only at lrd urd tl tu HU ⊢
  go_enter Tryz.func121, Tryz.ntmps121
  go_wp2_with fail
  have tun : un ≤ 9223372036854775807 := by unfold maxLen at tu; omega
  go_loopw [9] (fun i wr => ∃ j : Nat, j ≤ un ∧ i = .int .i64 j ∧ Hid (wantB (uz.take j) lz = true) ∧ wr = w) (fun i _ => un - (intOf i).toNat)
  case atStart => exact ⟨0, Nat.zero_le _, rfl, Lib.hid rfl, rfl⟩
  case round =>
    obtain ⟨j, hj, rfl, hw, rfl⟩ := hrel
    by_cases hlt : j < un
    · obtain ⟨p, q, rfl, hp, u0, hu0, hc0⟩ := urd.get hlt
      have hjl : j < uz.length := by rw [HU.out]; exact hlt
      rw [ci64_get _ _ hjl] at hu0
      obtain rfl : iV uz[j] = u0 := Option.some.inj hu0
      unfold iV at hc0
      have hi1 : (j : Int) < un := by omega
      have hct := gcontains_any lA ln lc lz uz[j] wr lrd tl
      have HW := Lib.hid (want_snoc (l := lz) hjl)
      have HT := Lib.hid (show wantB uz lz = (wantB (uz.take j) lz && wantB (uz.drop j) lz) by rw [wantB, wantB, wantB, ← List.all_append, List.take_append_drop])
      have HD := Lib.hid (show uz.drop j = uz[j] :: uz.drop (j + 1) from List.drop_eq_getElem_cons hjl)
      generalize uz[j] = z at *
      obtain ⟨β, hβ⟩ : ∃ β, decide (z ∈ lz) = β := ⟨_, rfl⟩
      rw [hβ] at hct
      have HB := Lib.hid hβ
      clear hu0 hjl hβ
      go_wp2_with fail
      refine hct.mono ?_
      rintro e w2 ⟨rfl, rfl⟩
      clear hct
      cases β
      · have HN : Hid (wantB uz lz = false) := Lib.hid (by
          rw [HT.out, HD.out, wantB, wantB, List.all_cons, HB.out]; simp)
        clear HW HT HD HB hw
        go_wp2
        go_ret
        exact ⟨ret_bool HN.out.symm, rfl⟩
      · have HN : Hid (wantB (uz.take (j + 1)) lz = true) := Lib.hid (by rw [HW.out, hw.out, HB.out]; rfl)
        clear HW HT HD HB hw
        go_wp2
        go_roundw
        case rel => exact ⟨j + 1, by omega, by go_num, HN, trivial⟩
        case measure => simp [intOf]; omega
    · obtain rfl : j = un := by omega
      have HN : Hid (wantB uz lz = true) := Lib.hid (by
        have h := hw.out
        rwa [List.take_of_length_le (by rw [HU.out]; exact Nat.le_refl _)] at h)
      clear hw
      go_wp2
      go_ret
      exact ⟨ret_bool HN.out.symm, rfl⟩

set_option maxRecDepth 100000 in
set_option maxHeartbeats 1000000 in
theorem hwant_any (x : Gr) (u l : Ls) (w : World) (hx : x.Ok w) (hu : u.Ok w) (hl : l.Ok w) (hr : ∀ i ∈ u.zs, 0 ≤ i ∧ i < (x.n : Int)) (h8 : u.n ≤ 1000) :
    Calls Tryz.prog 104 #[.slice x.A x.n x.c, .slice u.A u.n u.c, .slice l.A l.n l.c] w fun e w' => e = .returned (.int .i64 ((withinL x.g u.zs l.zs).length : Int)) ∧ w' = w := by
  have HU := Lib.hid hu.len
  have tu := Nat.le_trans hu.cap hu.top
  have tx := Nat.le_trans hx.cap hx.top
  unfold maxLen at tx
  have urd := hu.rd
  have HR := Lib.hid hr
  obtain ⟨uA, un, uc, uz⟩ := u
  simp only at urd tu HU HR h8 ⊢
  clear hr
  go_enter Tryz.func104, Tryz.ntmps104
  go_wp2_with fail
  go_loopw [7, 12] (fun v i wr => ∃ j m : Nat, j ≤ un ∧ i = .int .i64 j ∧ v = .int .i64 m ∧ Hid (m = (withinL x.g (uz.take j) l.zs).length) ∧ wr = w) (fun _ i _ => un - (intOf i).toNat)
  case atStart => exact ⟨0, 0, Nat.zero_le _, rfl, rfl, Lib.hid rfl, rfl⟩
  case round =>
    obtain ⟨j, m, hj, rfl, rfl, hm, rfl⟩ := hrel
    by_cases hlt : j < un
    · obtain ⟨p, q, rfl, hp, u0, hu0, hc0⟩ := urd.get hlt
      have hjl : j < uz.length := by rw [HU.out]; exact hlt
      rw [ci64_get _ _ hjl] at hu0
      obtain rfl : iV uz[j] = u0 := Option.some.inj hu0
      unfold iV at hc0
      have hi1 : (j : Int) < un := by omega
      have hz := HR.out _ (List.getElem_mem hjl)
      have HW := Lib.hid (within_snoc (g := x.g) (l := l.zs) hjl)
      have hml : m ≤ 1000 := by
        have h := within_short x.g (uz.take j) l.zs
        rw [← hm.out, List.length_take, HU.out] at h
        omega
      obtain ⟨d, hd⟩ : ∃ d : Nat, uz[j] = d := ⟨uz[j].toNat, by omega⟩
      rw [hd] at hc0 hz HW
      rw [Int.toNat_natCast] at HW
      have hdn : d < x.n := by omega
      have hdn' : (d : Int) < x.n := by omega
      obtain ⟨p2, q2, y, hA, hgy, hp2, hcy, hky⟩ := gr_get (A := x.A) (n := x.n) (c := x.c) (t := x.t) hx rfl hdn
      have hgj : x.g.getD d [] = y.zs := hgy
      have ham := hamong_any y l wr hky hl
      rw [hgj] at HW
      obtain ⟨β, hβ⟩ : ∃ β, wantB y.zs l.zs = β := ⟨_, rfl⟩
      rw [hβ] at ham
      rw [hβ] at HW
      rw [hA]
      clear hu0 hjl hβ hd hgy hgj hky
      go_wp2_with fail
      refine ham.mono ?_
      rintro e w2 ⟨rfl, rfl⟩
      clear ham
      cases β
      · have HN : Hid (m = (withinL x.g (uz.take (j + 1)) l.zs).length) := Lib.hid (by rw [HW.out, ← hm.out]; rfl)
        clear HW hm
        go_wp2
        go_roundw
        case rel => exact ⟨j + 1, m, by omega, by go_num, rfl, HN, trivial⟩
        case measure => simp [intOf]; omega
      · have HN : Hid (m + 1 = (withinL x.g (uz.take (j + 1)) l.zs).length) := Lib.hid (by rw [HW.out, ← hm.out]; rfl)
        have s1 : IntKind.i64.wrap ((m : Int) + 1) = (m : Int) + 1 := by rw [IntKind.wrap_i64]; omega
        clear HW hm
        go_wp2
        go_roundw
        case rel => exact ⟨j + 1, m + 1, by omega, by go_num, by go_num, HN, trivial⟩
        case measure => simp [intOf]; omega
    · obtain rfl : j = un := by omega
      have HN : Hid (m = (withinL x.g uz l.zs).length) := Lib.hid (by
        have h := hm.out
        rwa [List.take_of_length_le (by rw [HU.out]; exact Nat.le_refl _)] at h)
      clear hm
      go_wp2
      go_ret
      refine ⟨?_, rfl⟩
      rw [HN.out]
      rfl
end Go.Proofs.YtdckoaljcklmhaaGreatDoor


namespace Go.Proofs.YtdckoaljcklmhaaGreatDoor
open Go.RowKit
set_option linter.unusedVariables false
attribute [local go_sem] Oper.semAt_some

theorem KeptFrom.grown {B : Nat} {w a b : World} {row : Option Nat} (h : KeptFrom B w a) (hg : a.grownBy b row) (hr : ∀ r, row = some r → w.heap.size ≤ r) : KeptFrom B w b :=
  ⟨Nat.le_trans h.size hg.size, fun k hk hlt => (hg.block k (by have := h.size; omega) (fun e => by have := hr k e.symm; omega)).trans (h.same k hk hlt)⟩
/-! A function's way out, where it has gone through functions. -/
def markD (D : Nat) : Deferred := { target := .collected D, args := #[] }
def shutD (w : World) (Ds : List Nat) : World := Ds.foldl (fun w D => w.putObj D (.deferred none)) w
theorem shutD_stays {β : Type} {B : Nat} {J : β → World → Prop} (hJ : Stays B J) {s : β} : ∀ (Ds : List Nat) (w : World), B ≤ w.heap.size → (∀ D ∈ Ds, B ≤ D) → J s w → J s (shutD w Ds)
  | [], _, _, _, h => h
  | D :: Ds, w, hB, hD, h => shutD_stays hJ Ds _ (by rw [World.putObj_size]; exact hB) (fun d hd => hD d (List.mem_cons_of_mem _ hd)) (hJ _ _ _ hB (below_put (o := .deferred none) (hD D (List.mem_cons_self ..))) h)
theorem shutD_own {β : Type} {B : Nat} {J : β → World → Prop} (hJ : OwnFrom B J) {s : β} : ∀ (Ds : List Nat) (w : World), Ds.Nodup → (∀ D ∈ Ds, B ≤ D ∧ w.heap[D]? = some (.deferred (some []))) → J s w → J s (shutD w Ds)
  | [], _, _, _, h => h
  | D :: Ds, w, hn, hD, h => by
    obtain ⟨h1, h2⟩ := List.nodup_cons.1 hn
    obtain ⟨h3, h4⟩ := hD D (List.mem_cons_self ..)
    refine shutD_own hJ Ds _ h2 (fun d hd => ⟨(hD d (List.mem_cons_of_mem _ hd)).1, ?_⟩) (hJ.putObj _ h h3 h4 rfl)
    rw [World.putObj_heap_other (fun e => h1 (by rw [← e]; exact hd))]
    exact (hD d (List.mem_cons_of_mem _ hd)).2
theorem leaves_shut {F : Fence} {n : Nat} {P : Program} {fn : Func} {tmps : Array Value} {R : Ending → World → Prop} {v : Value} (hr : ∀ w, (results fn tmps).run P w = .ok v w) : ∀ (Ds : List Nat) (w : World), Ds.Nodup → (∀ D ∈ Ds, w.heap[D]? = some (.deferred (some []))) → R (.returned v) (shutD w Ds) →
    LeavesInM F n P fn tmps R (Ds.map markD) .returning w
  | [], w, _, _, h => ⟨v, hr w, h⟩
  | D :: Ds, w, hn, hK, h => by
    obtain ⟨h1, h2⟩ := List.nodup_cons.1 hn
    refine ⟨by simp, .inl ⟨_, _, rfl, run_takeDeferred (hK D (List.mem_cons_self ..)), leaves_shut hr Ds _ h2 (fun d hd => ?_) h⟩⟩
    rw [World.putObj_heap_other (fun e => h1 (by rw [← e]; exact hd))]
    exact hK d (List.mem_cons_of_mem _ hd)
/-- The marks that are left so far. -/
def MarksAt (B : Nat) (w : World) (ds : List Deferred) : Prop := ∃ Ds : List Nat, ds = Ds.map markD ∧ Ds.Nodup ∧ ∀ D ∈ Ds, B ≤ D ∧ w.heap[D]? = some (.deferred (some []))
theorem MarksAt.nil (B : Nat) (w : World) : MarksAt B w [] := ⟨[], rfl, List.nodup_nil, by simp⟩
theorem MarksAt.kept {B : Nat} {w w' : World} {ds : List Deferred} (h : MarksAt B w ds) (hk : KeptFrom B w w') : MarksAt B w' ds := by
  obtain ⟨Ds, h1, h2, h3⟩ := h
  exact ⟨Ds, h1, h2, fun D hD => ⟨(h3 D hD).1, hk.at (h3 D hD).1 (h3 D hD).2⟩⟩
theorem MarksAt.more {B D : Nat} {w w' : World} {ds : List Deferred} (h : MarksAt B w ds) (hk : KeptFrom B w w') (hB : B ≤ D) (hD : w.heap.size ≤ D) (hd : w'.heap[D]? = some (.deferred (some []))) : MarksAt B w' ({ target := .collected D, args := #[] } :: ds) := by
  obtain ⟨Ds, h1, h2, h3⟩ := h
  refine ⟨D :: Ds, by rw [h1]; rfl, List.nodup_cons.2 ⟨fun hm => ?_, h2⟩, fun d hm => ?_⟩
  · have := (Array.getElem?_eq_some_iff.1 (h3 D hm).2).1
    omega
  · rcases List.mem_cons.1 hm with e | hm
    · rw [e]; exact ⟨hB, hd⟩
    · exact ⟨(h3 d hm).1, hk.at (h3 d hm).1 (h3 d hm).2⟩

/-! The sets of so many items. -/
def encL (u : Ls) : Array Value := #[.slice u.A u.n u.c]
set_option maxHeartbeats 1000000 in
theorem hsetsOf_any (A : Option Addr) (n c : Nat) (k : Int) (w : World) : Calls Tryz.prog 120 #[.slice A n c, .int .i64 k] w fun e w' => e = .returned (.func (.func 131) #[] #[.pointer (some ⟨w.heap.size + 1, 0, none⟩), .pointer (some ⟨w.heap.size, 0, none⟩)]) ∧ w' = (w.alloc (.cells #[.slice A n c] 22)).alloc (.cells #[.int .i64 k] 3) := by
  go_enter Tryz.func120, Tryz.ntmps120
  go_wp2
  go_ret
  exact ⟨rfl, rfl⟩
theorem hsets_any (A : Option Addr) (n c : Nat) (w : World) : Calls Tryz.prog 103 #[.slice A n c] w fun e w' => e = .returned (.func (.func 119) #[] #[.pointer (some ⟨w.heap.size, 0, none⟩)]) ∧ w' = w.alloc (.cells #[.slice A n c] 22) := by
  go_enter Tryz.func103, Tryz.ntmps103
  go_wp2
  go_ret
  exact ⟨rfl, rfl⟩
/-- What is asked of the sets of so many items. -/
def SetsOfC : Prop := ∀ (k : Nat) (u : Ls) (b1 b2 B : Nat) (w : World), Boxed w b1 22 (.slice u.A u.n u.c) → Boxed w b2 3 (.int .i64 k) → u.Ok w → B ≤ w.heap.size → u.n ≤ 8 → k ≤ 8 →
  SeqO Tryz.prog 131 #[.pointer (some ⟨b2, 0, none⟩), .pointer (some ⟨b1, 0, none⟩)] encL (fun x W => OwnI W B x ∧ x.zs ∈ setsN u.zs k) (fun xs => xs.map Ls.zs = setsN u.zs k) (fun pre => pre.map Ls.zs <+: setsN u.zs k) w

set_option maxRecDepth 100000 in
set_option maxHeartbeats 1000000 in
theorem hsets1_any (HS : SetsOfC) (u : Ls) (b B : Nat) (w : World) (hb : Boxed w b 22 (.slice u.A u.n u.c)) (hu : u.Ok w) (hB : B ≤ w.heap.size) (h8 : u.n ≤ 8) :
    SeqO Tryz.prog 119 #[.pointer (some ⟨b, 0, none⟩)] encL (fun x W => OwnI W B x ∧ x.zs ∈ allSets u.zs) (fun xs => xs.map Ls.zs = allSets u.zs) (fun pre => pre.map Ls.zs <+: allSets u.zs) w := by
  intro l J Jx W hW hJ hJx hY h0
  have HL := Lib.hid hu.len
  have hbW := boxed_below hb hW
  have huW := hu.below hW
  refine (callsIn_wide (n := 4)).1 ?_
  refine callsIn_of_wp_marks Tryz.func119 rfl trivial ?_ rfl
  simp only [Tryz.ntmps119, List.size_toArray, List.length_cons, List.length_nil, Nat.reduceAdd, Nat.reduceSub, Array.replicate_succ, Array.replicate_zero, List.push_toArray, List.append_toArray, List.nil_append, List.cons_append]
  have hcb := (hbW.alloc (.cells #[.func (.yield l) #[] #[]] 69)).cell
  have s0 : IntKind.i64.wrap ((u.n : Int) + 1) = (u.n : Int) + 1 := by rw [IntKind.wrap_i64]; omega
  refine wpIn_wide.2 ?_
  go_wp2
  have bY := Boxed.new W 69 (.func (.yield l) #[] #[])
  have bU := hbW.alloc (.cells #[.func (.yield l) #[] #[]] 69)
  have hBl := (Below.refl W.heap.size W).alloc (Nat.le_refl _) (.cells #[.func (.yield l) #[] #[]] 69)
  have hJl := hJ _ _ _ (Nat.le_refl _) hBl h0
  have hWl : W.heap.size ≤ W.heap.size := Nat.le_refl _
  clear hcb
  obtain ⟨yb, hyb⟩ : ∃ y, y = W.heap.size := ⟨_, rfl⟩
  rw [← hyb] at bY ⊢
  clear hyb
  generalize W.alloc (.cells #[.func (.yield l) #[] #[]] 69) = Wl at bY bU hBl hJl ⊢
  refine wp_loop (fun a' w' => ∃ (j : Nat) (u3 u9 u10 u11 u12 u13 u19 : Value) (ds : List Deferred), (j ≤ u.n + 1 ∧ Below Wl.heap.size Wl w' ∧ MarksAt W.heap.size w' ds ∧ Hid (∃ pre : List Ls, pre.map Ls.zs = setsUp u.zs j ∧ J pre w')) ∧
      a' = { tmps := #[.func (.yield l) #[] #[], .pointer (some ⟨b, 0, none⟩), .pointer (some ⟨yb, 0, none⟩), u3, undef, .slice u.A u.n u.c, .int .i64 u.n, .int .i64 ((u.n : Int) + 1), .int .i64 j, u9, u10, u11, u12, u13, undef, undef, undef, undef, undef, u19], defers := ds })
    (fun a' _ => u.n + 1 - (intOf (a'.tmps.getD 8 undef)).toNat) ⟨0, _, _, _, _, _, _, _, [], ⟨Nat.zero_le _, Below.refl _ _, MarksAt.nil _ _, Lib.hid ⟨[], rfl, hJl⟩⟩, rfl⟩ ?_
  rintro _ wr ⟨j, u3, u9, u10, u11, u12, u13, u19, ds, ⟨hj, hbl, hmk, hpre⟩, rfl⟩
  by_cases hlt : j < u.n + 1
  · have hlt' : (j : Int) < (u.n : Int) + 1 := by omega
    have cU := (boxed_below bU hbl).cell
    have hso := hsetsOf_any u.A u.n u.c j wr
    go_wp2_with fail
    refine hso.mono ?_
    rintro e w' ⟨rfl, rfl⟩
    clear hso
    go_wp2
    have cU1 := (boxed_below bU hbl)
    have k1 : KeptFrom W.heap.size wr ((wr.alloc (.cells #[.slice u.A u.n u.c] 22)).alloc (.cells #[.int .i64 (j : Int)] 3)) := .of_below (((Below.refl _ wr).alloc (Nat.le_refl _) _).alloc (by simp) _)
    have hb1 : Below Wl.heap.size Wl ((wr.alloc (.cells #[.slice u.A u.n u.c] 22)).alloc (.cells #[.int .i64 (j : Int)] 3)) := (hbl.alloc hbl.size _).alloc (by rw [World.size_alloc]; have := hbl.size; omega) _
    have bA := (Boxed.new wr 22 (.slice u.A u.n u.c)).alloc (.cells #[.int .i64 (j : Int)] 3)
    have bK := Boxed.new (wr.alloc (.cells #[.slice u.A u.n u.c] 22)) 3 (.int .i64 (j : Int))
    rw [World.size_alloc] at bK
    obtain ⟨a1, ha1⟩ : ∃ a, a = wr.heap.size := ⟨_, rfl⟩
    rw [← ha1] at bA bK ⊢
    clear ha1
    have hm1 := hmk.kept k1
    obtain ⟨pre, hpz, hJp⟩ := hpre.out
    have hsW : W.heap.size ≤ ((wr.alloc (.cells #[.slice u.A u.n u.c] 22)).alloc (.cells #[.int .i64 (j : Int)] 3)).heap.size := by have := hb1.size; have := hBl.size; omega
    have hJ1 := hJ _ _ ((wr.alloc (.cells #[.slice u.A u.n u.c] 22)).alloc (.cells #[.int .i64 (j : Int)] 3)) (by have := hbl.size; have := hBl.size; omega) (((Below.refl _ wr).alloc (by have := hbl.size; have := hBl.size; omega) _).alloc (by rw [World.size_alloc]; have := hbl.size; have := hBl.size; omega) _) hJp
    clear hJp hmk hbl k1
    generalize (wr.alloc (.cells #[.slice u.A u.n u.c] 22)).alloc (.cells #[.int .i64 (j : Int)] 3) = w1 at *
    have huw1 := huW.below (hBl.trans (hb1.mono hBl.size))
    have hbW1 : Below W.heap.size W w1 := hBl.trans (hb1.mono hBl.size)
    refine (wpIn_wide (n := 4)).1 ?_
    refine range_seqO (n := 4) (by omega) (gf := 131) (lb := #[.pointer (some ⟨a1 + 1, 0, none⟩), .pointer (some ⟨a1, 0, none⟩)]) rfl (enters_of Tryz.func131 (by kernel_rfl) rfl)
      (HS j u a1 (a1 + 1) B w1 bA bK huw1 (by have := hW.size; omega) h8 (by omega)) (Below.refl _ _) (fun _ => rfl) (fun x a b hc h => ⟨h.1.cel hc, h.2⟩)
      (fun pre' W' => (∃ q : List Ls, q.map Ls.zs = setsUp u.zs j ++ pre'.map Ls.zs ∧ J q W') ∧ Below w1.heap.size w1 W')
      (fun c pre' W' => c = .ret ∧ (∃ q : List Ls, q.map Ls.zs = setsUp u.zs j ++ pre'.map Ls.zs ∧ Jx q W') ∧ KeptFrom W.heap.size w1 W')
      (fun s a b ha hab h => by
        obtain ⟨⟨q, h1, h2⟩, h3⟩ := h
        exact ⟨⟨q, h1, hJ _ _ _ (by omega) (hab.mono hsW) h2⟩, h3.trans hab⟩)
      (fun c s a b row h hg hr => by
        obtain ⟨rfl, ⟨q, h1, h2⟩, h3⟩ := h
        exact ⟨rfl, ⟨q, h1, hJx _ _ _ row h2 hg (fun r e => ⟨by have := (hr r e).1; omega, (hr r e).2⟩)⟩, h3.grown hg fun r e => (hr r e).1⟩)
      ⟨⟨pre, by rw [hpz]; simp, hJ1⟩, Below.refl _ _⟩
      (fun x a' _ => a' = { tmps := #[.func (.yield l) #[] #[], .pointer (some ⟨b, 0, none⟩), .pointer (some ⟨yb, 0, none⟩), .int .i64 j, .slice x.A x.n x.c, .slice u.A u.n u.c, .int .i64 u.n, .int .i64 ((u.n : Int) + 1), .int .i64 j, .bool true, .int .i64 j, .slice u.A u.n u.c, .int .i64 j, .func (.func 131) #[] #[.pointer (some ⟨a1 + 1, 0, none⟩), .pointer (some ⟨a1, 0, none⟩)], .slice x.A x.n x.c, undef, undef, undef, undef, u19], defers := [] })
      (fun _ _ _ _ _ h => h) ?assign ?body ?done ?stop
    case assign =>
      intro l2 pre' x V K hI hE hV hK
      simp only [encL, List.zip_toArray, List.zip_cons_cons, List.zip_nil_right, List.foldl_toArray', List.foldl_cons, List.foldl_nil, List.size_toArray, List.setIfInBounds_toArray, List.set_cons_succ, List.set_cons_zero]
      gi_wp2
      exact hK _ _ (Below.refl _ _) rfl
    case body =>
      rintro l2 pre' x a' V ⟨⟨q, hq, hJq⟩, hVb⟩ ⟨hO, hm⟩ rfl hV
      have cY := (boxed_below bY (hb1.trans (hVb.mono hb1.size))).cell
      have hmem : x.zs ∈ allSets u.zs := mem_allSets.2 (mem_setsN.1 hm).1
      obtain ⟨fn, tmps, assign, body, hy, hR⟩ := yield_wide (m' := 1) (hY q x V hJq ⟨hO, hmem⟩ (hbW1.trans (hVb.mono hsW)))
      unfold encL at hy
      gi_wp2
      refine (show RoundIn (Fence.wide.inRound l2) 1 _ _ _ _ _ _ _ _ from hR).mono ?_
      rintro e W3 (⟨rfl, hJ3, hb3⟩ | ⟨rfl, hJx3, hk3⟩)
      · gi_wp2
        exact ⟨hb3, ⟨q ++ [x], by simp [hq], hJ3⟩, hVb.trans (hb3.mono hVb.size)⟩
      · gi_wp2
        exact ⟨hk3.mono hsW, rfl, ⟨q ++ [x], by simp [hq], hJx3⟩, (KeptFrom.of_below hVb).trans hk3⟩
    case done =>
      rintro D ys V hD hys ⟨⟨q, hq, hJq⟩, hVb⟩ hK
      have hmk2 := hm1.more (.of_below hVb) (by omega) hD hK
      have s1 : IntKind.i64.wrap ((j : Int) + 1) = ((j + 1 : Nat) : Int) := by rw [IntKind.wrap_i64]; omega
      go_wp2
      refine ⟨⟨j + 1, _, _, _, _, _, _, _, _, ⟨by omega, hb1.trans (hVb.mono hb1.size), hmk2, Lib.hid ⟨q, by rw [hq, hys, setsUp_succ], hJq⟩⟩, rfl⟩, ?_⟩
      simp [intOf]; omega
    case stop =>
      rintro D c pre' V hD hsp ⟨rfl, ⟨q, hq, hJxq⟩, hk⟩ hK
      obtain ⟨Ds, hds, hnd, hDs⟩ := hm1.more hk (by omega) hD hK
      gi_wp2
      show LeavesInM _ _ _ _ _ _ _ _ _
      simp only [hds]
      refine leaves_shut (fun w => results_none rfl _ _ _) Ds V hnd (fun d hd => (hDs d hd).2) ⟨⟨_, rfl⟩, .inr ⟨q, ?_, shutD_own hJx Ds V hnd hDs hJxq⟩⟩
      rw [hq]
      refine List.IsPrefix.trans ?_ (setsUp_pre u.zs (show j + 1 ≤ u.zs.length + 1 by rw [HL.out]; omega))
      rw [setsUp_succ]
      exact (List.prefix_append_right_inj _).2 hsp
  · obtain rfl : j = u.n + 1 := by omega
    obtain ⟨Ds, hds, hnd, hDs⟩ := hmk
    obtain ⟨q, hq, hJq⟩ := hpre.out
    go_wp2
    show LeavesInM _ _ _ _ _ _ _ _ _
    simp only [hds]
    refine leaves_shut (fun w => results_none rfl _ _ _) Ds wr hnd (fun d hd => (hDs d hd).2) ⟨⟨_, rfl⟩, .inl ⟨q, ?_, shutD_stays hJ Ds wr (by have := hbl.size; have := hBl.size; omega) (fun d hd => (hDs d hd).1) hJq⟩⟩
    rw [hq, allSets, HL.out]
end Go.Proofs.YtdckoaljcklmhaaGreatDoor


namespace Go.Proofs.YtdckoaljcklmhaaGreatDoor
open Go.RowKit
set_option linter.unusedVariables false
attribute [local go_sem] Oper.semAt_some

theorem Ls.Ok.tail {w : World} {u : Ls} (h : u.Ok w) {i : Nat} (hi : i ≤ u.n) : Ls.Ok w ⟨if u.c = i then u.A else u.A.map (·.add i), u.n - i, u.c - i, u.zs.drop i⟩ := by
  have h1 := h.rd.cut (lo := i) (hi := u.n) (cap := u.c) hi (Nat.le_refl _) h.cap
  rw [List.take_of_length_le (by rw [List.length_drop, h.rd.len]; exact Nat.le_refl _)] at h1
  refine ⟨?_, ?_, ?_, fun z hz => h.fit z (List.mem_of_mem_drop hz)⟩
  · show Rd w _ _ (ci64 (u.zs.drop i))
    rw [ci64, List.map_drop]; exact h1
  · show u.n - i ≤ u.c - i
    have := h.cap; omega
  · show u.c - i ≤ maxLen
    have := h.top; omega

set_option maxRecDepth 100000 in
set_option maxHeartbeats 1000000 in
theorem hsetsOf1_zero (u : Ls) (b1 b2 B : Nat) (w : World) (hb2 : Boxed w b2 3 (.int .i64 0)) (hB : B ≤ w.heap.size) :
    SeqO Tryz.prog 131 #[.pointer (some ⟨b2, 0, none⟩), .pointer (some ⟨b1, 0, none⟩)] encL (fun x W => OwnI W B x ∧ x.zs ∈ setsN u.zs 0) (fun xs => xs.map Ls.zs = setsN u.zs 0) (fun pre => pre.map Ls.zs <+: setsN u.zs 0) w := by
  intro l J Jx W hW hJ hJx hY h0
  have hbW := boxed_below hb2 hW
  refine (callsIn_wide (n := 4)).1 ?_
  refine callsIn_of_wp_marks Tryz.func131 rfl trivial ?_ rfl
  simp only [Tryz.ntmps131, List.size_toArray, List.length_cons, List.length_nil, Nat.reduceAdd, Nat.reduceSub, Array.replicate_succ, Array.replicate_zero, List.push_toArray, List.append_toArray, List.nil_append, List.cons_append]
  have hcb := (hbW.alloc (.cells #[.func (.yield l) #[] #[]] 69)).cell
  have hcy := (Boxed.new W 69 (.func (.yield l) #[] #[])).cell
  have hBl := (Below.refl W.heap.size W).alloc (Nat.le_refl _) (.cells #[.func (.yield l) #[] #[]] 69)
  have hJl := hJ _ _ _ (Nat.le_refl _) hBl h0
  obtain ⟨fn, tmps, assign, body, hy, hR⟩ := hY [] Ls.nil _ hJl ⟨OwnI.nil _ _, by rw [setsN_zero]; simp [Ls.nil]⟩ hBl
  unfold encL at hy
  simp only [Ls.nil] at hy
  gi_wp2
  refine hR.mono ?_
  rintro e W3 (⟨rfl, hJ3, hb3⟩ | ⟨rfl, hJx3, hk3⟩)
  · gi_wp2
    refine postM_ret (results_none rfl _ _ _) rfl ⟨⟨_, rfl⟩, .inl ⟨_, ?_, hJ3⟩⟩
    rw [setsN_zero]; rfl
  · gi_wp2
    refine postM_ret (results_none rfl _ _ _) rfl ⟨⟨_, rfl⟩, .inr ⟨_, ?_, hJx3⟩⟩
    rw [setsN_zero]; exact List.prefix_refl _
set_option maxRecDepth 100000 in
set_option maxHeartbeats 2000000 in
theorem hsetsOf1_any : SetsOfC := by
  intro k
  induction k with
  | zero => exact fun u b1 b2 B w hb1 hb2 hu hB h8 hk => hsetsOf1_zero u b1 b2 B w hb2 hB
  | succ k ih =>
  intro u b1 b2 B w hb1 hb2 hu hB h8 hk l J Jx W hW hJ hJx hY h0
  have HL := Lib.hid hu.len
  have IH := Lib.hid ih
  have HYH := Lib.hid hY
  clear ih hY
  have hb1W := boxed_below hb1 hW
  have hb2W := boxed_below hb2 hW
  have huW := hu.below hW
  have tu := Nat.le_trans hu.cap hu.top
  unfold maxLen at tu
  refine (callsIn_wide (n := 4)).1 ?_
  refine callsIn_of_wp_marks Tryz.func131 rfl trivial ?_ rfl
  simp only [Tryz.ntmps131, List.size_toArray, List.length_cons, List.length_nil, Nat.reduceAdd, Nat.reduceSub, Array.replicate_succ, Array.replicate_zero, List.push_toArray, List.append_toArray, List.nil_append, List.cons_append]
  have hc1 := (hb1W.alloc (.cells #[.func (.yield l) #[] #[]] 69)).cell
  have hc2 := (hb2W.alloc (.cells #[.func (.yield l) #[] #[]] 69)).cell
  have k0 : (((k + 1 : Nat) : Int) == 0) = false := by rw [beq_eq_false_iff_ne]; omega
  refine wpIn_wide.2 ?_
  go_wp2
  have bY := Boxed.new W 69 (.func (.yield l) #[] #[])
  have bU := hb1W.alloc (.cells #[.func (.yield l) #[] #[]] 69)
  have bK := hb2W.alloc (.cells #[.func (.yield l) #[] #[]] 69)
  have hBl := (Below.refl W.heap.size W).alloc (Nat.le_refl _) (.cells #[.func (.yield l) #[] #[]] 69)
  have hJl := hJ _ _ _ (Nat.le_refl _) hBl h0
  clear hc1 hc2
  obtain ⟨yb, hyb⟩ : ∃ y, y = W.heap.size := ⟨_, rfl⟩
  rw [← hyb] at bY ⊢
  clear hyb
  generalize W.alloc (.cells #[.func (.yield l) #[] #[]] 69) = Wl at bY bU bK hBl hJl ⊢
  refine wp_loop (fun a' w' => ∃ (j : Nat) (u4 u5 u14 u15 u16 u17 u18 u19 u20 u21 u22 u23 u24 u34 : Value) (ds : List Deferred), (j ≤ u.n ∧ Below Wl.heap.size Wl w' ∧ MarksAt W.heap.size w' ds ∧ Hid (∃ pre : List Ls, pre.map Ls.zs = setsTo u.zs k j ∧ J pre w')) ∧
      a' = { tmps := #[.func (.yield l) #[] #[], .pointer (some ⟨b2, 0, none⟩), .pointer (some ⟨b1, 0, none⟩), .pointer (some ⟨yb, 0, none⟩), u4, u5, undef, .int .i64 ((k : Int) + 1), .bool false, undef, undef, .slice u.A u.n u.c, .int .i64 u.n, .int .i64 j, u14, u15, u16, u17, u18, u19, u20, u21, u22, u23, u24, undef, undef, undef, undef, undef, undef, undef, undef, undef, u34], defers := ds })
    (fun a' _ => u.n - (intOf (a'.tmps.getD 13 undef)).toNat) ⟨0, _, _, _, _, _, _, _, _, _, _, _, _, _, _, [], ⟨Nat.zero_le _, Below.refl _ _, MarksAt.nil _ _, Lib.hid ⟨[], rfl, hJl⟩⟩, rfl⟩ ?_
  rintro _ wr ⟨j, u4, u5, u14, u15, u16, u17, u18, u19, u20, u21, u22, u23, u24, u34, ds, ⟨hj, hbl, hmk, hpre⟩, rfl⟩
  by_cases hlt : j < u.n
  · have hlt' : (j : Int) < u.n := by omega
    obtain ⟨p, q, hA, hp, u0, hu0, hc0⟩ := (huW.below (hBl.trans (hbl.mono hBl.size))).rd.get hlt
    have hjl : j < u.zs.length := by rw [HL.out]; exact hlt
    rw [ci64_get _ _ hjl] at hu0
    obtain rfl : iV u.zs[j] = u0 := Option.some.inj hu0
    unfold iV at hc0
    obtain ⟨z, hz⟩ : ∃ z, u.zs[j] = z := ⟨_, rfl⟩
    rw [hz] at hc0
    have HZ := Lib.hid hz
    clear hu0 hz
    have hAq := hA
    rw [hA]
    have HA := Lib.hid hA
    clear hA hAq
    go_wp2_with fail
    have bF := Boxed.new wr 3 (.int .i64 z)
    have k1 : KeptFrom W.heap.size wr (wr.alloc (.cells #[.int .i64 z] 3)) := .of_below ((Below.refl _ wr).alloc (Nat.le_refl _) _)
    have hb1 : Below Wl.heap.size Wl (wr.alloc (.cells #[.int .i64 z] 3)) := hbl.alloc hbl.size _
    obtain ⟨fb, hfb⟩ : ∃ a, a = wr.heap.size := ⟨_, rfl⟩
    rw [← hfb] at bF ⊢
    clear hfb
    have hm1 := hmk.kept k1
    obtain ⟨pre, hpz, hJp⟩ := hpre.out
    have hsW : W.heap.size ≤ (wr.alloc (.cells #[.int .i64 z] 3)).heap.size := by have := hb1.size; have := hBl.size; omega
    have hJ1 := hJ _ _ (wr.alloc (.cells #[.int .i64 z] 3)) (by have := hbl.size; have := hBl.size; omega) ((Below.refl _ wr).alloc (by have := hbl.size; have := hBl.size; omega) _) hJp
    clear hJp hmk hbl k1 hc0
    generalize wr.alloc (.cells #[.int .i64 z] 3) = w1 at *
    have cU := (boxed_below bU hb1).cell
    have cK := (boxed_below bK hb1).cell
    have s1 : IntKind.i64.wrap ((j : Int) + 1) = (j : Int) + 1 := by rw [IntKind.wrap_i64]; omega
    have s2 : IntKind.i64.wrap (k : Int) = (k : Int) := by rw [IntKind.wrap_i64]; omega
    have htl := (huW.below (hBl.trans (hb1.mono hBl.size))).tail (i := j + 1) (by omega)
    rw [show (fun x : Addr => x.add (j + 1)) = fun x => ⟨x.block, x.off + (j + 1), none⟩ from by funext x; simp [Addr.add]] at htl
    have g1 : (0 : Int) ≤ (j : Int) + 1 := by omega
    have g2 : (j : Int) + 1 ≤ (u.n : Int) := by omega
    have g3 : (u.n : Int) ≤ (u.c : Int) := by have := hu.cap; omega
    refine wp_region_ord (S := fun w' => w'.cell? ⟨b1, 0, none⟩ = some (.slice u.A u.n u.c) ∧ w'.cell? ⟨b2, 0, none⟩ = some (.int .i64 ((k + 1 : Nat) : Int))) [(0, true), (1, true), (2, true), (3, true), (4, true), (5, true), (6, false)] default (by kernel_rfl) (by kernel_rfl) (by kernel_rfl) ⟨cU, cK⟩ ?_
    simp only [getOrd, nth]
    repeat (first | (refine ordS (by rfl) ?_; simp only [Act.put, List.setIfInBounds_toArray, List.set_cons_zero, List.set_cons_succ]) | (refine ordN (by rfl) ?_; simp only [Act.put, List.setIfInBounds_toArray, List.set_cons_zero, List.set_cons_succ]) | (refine ordQ (v := ?_) (by rfl) (fun _ hSw => ?_) ?_; rotate_left; (focus ((have hS1 := hSw.1); (have hS2 := hSw.2); clear hSw; go_simp; (first | done | with_reducible rfl))); simp only [Act.put, List.setIfInBounds_toArray, List.set_cons_zero, List.set_cons_succ]))
    obtain ⟨TA, hTA⟩ : ∃ TA, (if u.c = j + 1 then u.A else Option.map (fun x : Addr => (⟨x.block, x.off + (j + 1), none⟩ : Addr)) u.A) = TA := ⟨_, rfl⟩
    rw [hTA] at htl ⊢
    clear hTA
    have hso := hsetsOf_any TA (u.n - (j + 1)) (u.c - (j + 1)) k w1.drew
    refine ordD (by rfl) ?_
    intro K hK
    go_simp
    refine hso.mono ?_
    rintro e w' ⟨rfl, rfl⟩
    have kd : Below w1.heap.size w1 ((w1.drew.alloc (.cells #[.slice TA (u.n - (j + 1)) (u.c - (j + 1))] 22)).alloc (.cells #[.int .i64 (k : Int)] 3)) := ((Below.refl _ w1).drew.alloc (Nat.le_refl _) _).alloc (by rw [World.size_alloc]; show w1.heap.size ≤ w1.heap.size + 1; omega) _
    have bA := (Boxed.new w1.drew 22 (.slice TA (u.n - (j + 1)) (u.c - (j + 1)))).alloc (.cells #[.int .i64 (k : Int)] 3)
    have bN := Boxed.new (w1.drew.alloc (.cells #[.slice TA (u.n - (j + 1)) (u.c - (j + 1))] 22)) 3 (.int .i64 (k : Int))
    rw [World.size_alloc] at bN
    obtain ⟨a1, ha1⟩ : ∃ a, a = w1.drew.heap.size := ⟨_, rfl⟩
    rw [← ha1] at bA bN ⊢
    clear ha1 hso
    refine hK _ _ ⟨(boxed_below bU (hb1.trans (kd.mono hb1.size))).cell, (boxed_below bK (hb1.trans (kd.mono hb1.size))).cell⟩ ?_
    clear hK K cU cK
    have hb2 := hb1.trans (kd.mono hb1.size)
    have hm2 := hm1.kept (.of_below kd)
    have hsW2 : W.heap.size ≤ ((w1.drew.alloc (.cells #[.slice TA (u.n - (j + 1)) (u.c - (j + 1))] 22)).alloc (.cells #[.int .i64 (k : Int)] 3)).heap.size := Nat.le_trans hsW kd.size
    have hJ2 := hJ _ _ _ hsW (kd.mono hsW) hJ1
    have bF2 := boxed_below bF kd
    have htl2 := htl.below kd
    clear hJ1 hm1 bF htl hb1 kd hsW
    generalize (w1.drew.alloc (.cells #[.slice TA (u.n - (j + 1)) (u.c - (j + 1))] 22)).alloc (.cells #[.int .i64 (k : Int)] 3) = w2 at *
    try simp only [Act.put, List.setIfInBounds_toArray, List.set_cons_zero, List.set_cons_succ]
    refine ordE ?_
    go_wp2
    have huz : u.zs.drop j = z :: u.zs.drop (j + 1) := by rw [List.drop_eq_getElem_cons hjl, HZ.out]
    have hzfit : -9223372036854775808 ≤ z ∧ z ≤ 9223372036854775807 := by rw [← HZ.out]; exact hu.fit _ (List.getElem_mem hjl)
    have hbW2 : Below W.heap.size W w2 := hBl.trans (hb2.mono hBl.size)
    refine (wpIn_wide (n := 4)).1 ?_
    refine range_seqO (n := 4) (by omega) (gf := 131) (lb := #[.pointer (some ⟨a1 + 1, 0, none⟩), .pointer (some ⟨a1, 0, none⟩)]) rfl (enters_of Tryz.func131 (by kernel_rfl) rfl)
      (IH.out ⟨TA, u.n - (j + 1), u.c - (j + 1), u.zs.drop (j + 1)⟩ a1 (a1 + 1) B w2 bA bN htl2 (by have := hW.size; omega) (by show u.n - (j + 1) ≤ 8; omega) (by omega)) (Below.refl _ _) (fun _ => rfl) (fun x a b hc h => ⟨h.1.cel hc, h.2⟩)
      (fun pre' W' => (∃ q : List Ls, q.map Ls.zs = setsTo u.zs k j ++ (pre'.map Ls.zs).map (z :: ·) ∧ J q W') ∧ Below w2.heap.size w2 W')
      (fun c pre' W' => c = .ret ∧ (∃ q : List Ls, q.map Ls.zs = setsTo u.zs k j ++ (pre'.map Ls.zs).map (z :: ·) ∧ Jx q W') ∧ KeptFrom W.heap.size w2 W')
      (fun s a b ha hab h => by
        obtain ⟨⟨q, h1, h2⟩, h3⟩ := h
        exact ⟨⟨q, h1, hJ _ _ _ (by omega) (hab.mono hsW2) h2⟩, h3.trans hab⟩)
      (fun c s a b row h hg hr => by
        obtain ⟨rfl, ⟨q, h1, h2⟩, h3⟩ := h
        exact ⟨rfl, ⟨q, h1, hJx _ _ _ row h2 hg (fun r e => ⟨by have := (hr r e).1; omega, (hr r e).2⟩)⟩, h3.grown hg fun r e => (hr r e).1⟩)
      ⟨⟨pre, by rw [hpz]; simp, hJ2⟩, Below.refl _ _⟩
      (fun x a' _ => a' = { tmps := #[Value.func (Fn.yield l) #[] #[], .pointer (some ⟨b2, 0, none⟩), .pointer (some ⟨b1, 0, none⟩), .pointer (some ⟨yb, 0, none⟩), .int .i64 (j : Int), .pointer (some ⟨fb, 0, none⟩), .slice x.A x.n x.c, .int .i64 ((k : Int) + 1), .bool false, undef, undef, .slice (some ⟨p, q, none⟩) u.n u.c, .int .i64 (u.n : Int), .int .i64 (j : Int), .bool true, .int .i64 (j : Int), .pointer (some ⟨p, q + j, none⟩), .int .i64 z, .slice u.A u.n u.c, .int .i64 (j : Int), .int .i64 ((j : Int) + 1), .slice TA (u.n - (j + 1)) (u.c - (j + 1)), .int .i64 ((k : Int) + 1), .int .i64 (k : Int), .func (.func 131) #[] #[.pointer (some ⟨a1 + 1, 0, none⟩), .pointer (some ⟨a1, 0, none⟩)], .slice x.A x.n x.c, undef, undef, undef, undef, undef, undef, undef, undef, u34], defers := [] })
      (fun _ _ _ _ _ h => h) ?assign ?body ?done ?stop
    case assign =>
      intro l2 pre' x V K hI hE hV hK
      simp only [encL, List.zip_toArray, List.zip_cons_cons, List.zip_nil_right, List.foldl_toArray', List.foldl_cons, List.foldl_nil, List.size_toArray, List.setIfInBounds_toArray, List.set_cons_succ, List.set_cons_zero]
      gi_wp2
      exact hK _ _ (Below.refl _ _) rfl
    case body =>
      rintro l2 pre' x a' V ⟨⟨qs, hq, hJq⟩, hVb⟩ ⟨hO, hm⟩ rfl hV
      have yY := boxed_below bY (hb2.trans (hVb.mono hb2.size))
      have yF := boxed_below bF2 hVb
      have hxo := hO.ok
      obtain ⟨hsub, hxk⟩ := mem_setsN.1 hm
      have hx8 : x.zs.length ≤ 8 := by omega
      have HM : Hid (z :: x.zs ∈ setsN u.zs (k + 1)) := Lib.hid (mem_setsN.2 ⟨by
        have h5 : (z :: x.zs).Sublist (u.zs.drop j) := by rw [huz]; exact hsub.cons_cons z
        exact h5.trans (List.drop_sublist _ _), by rw [List.length_cons, hxk]⟩)
      have HXK := Lib.hid hxk
      clear hm hsub hxk
      have hVW : W.heap.size ≤ V.heap.size := Nat.le_trans hsW2 hVb.size
      have hBV : B ≤ V.heap.size := by have := hW.size; omega
      have hbWV := hbW2.trans (hVb.mono hsW2)
      gi_wp2
      refine region_toRoundF (by kernel_rfl) (by kernel_rfl) fun F hF => ?_
      have yY1 := yY.alloc (.cells #[.int .i64 z] 3)
      have own1 := Own.lit (B := V.heap.size) V 3 #[.int .i64 z] 1 (Nat.le_refl _) rfl (by simp [maxLen])
      have hs1 : (V.alloc (.cells #[.int .i64 z] 3)).heap.size = V.heap.size + 1 := World.size_alloc ..
      have kV1 : Below V.heap.size V (V.alloc (.cells #[.int .i64 z] 3)) := (Below.refl _ V).alloc (Nat.le_refl _) _
      have yY2 := yY1.alloc (.cells #[.slice (some ⟨V.heap.size, 0, none⟩) 1 1, .slice x.A x.n x.c] 22)
      have kV2 : Below V.heap.size V ((V.alloc (.cells #[.int .i64 z] 3)).alloc (.cells #[.slice (some ⟨V.heap.size, 0, none⟩) 1 1, .slice x.A x.n x.c] 22)).drew := (kV1.alloc kV1.size _).drew
      have own2 := (Own.lit (B := V.heap.size) (V.alloc (.cells #[.int .i64 z] 3)) 22 #[.slice (some ⟨V.heap.size, 0, none⟩) 1 1, .slice x.A x.n x.c] 2 kV1.size rfl (by simp [maxLen])).drew
      rw [hs1] at own2
      have own1' := (own1.alloc (.cells #[.slice (some ⟨V.heap.size, 0, none⟩) 1 1, .slice x.A x.n x.c] 22)).drew
      have cY := yY.cell
      have cF := yF.cell
      have cY1 := yY1.cell
      have cY2 := yY2.cell
      have T6 : ∀ (W5 : World) (A : Option Addr) (n c : Nat), OwnI W5 V.heap.size ⟨A, n, c, z :: x.zs⟩ → Below V.heap.size V W5 → F 2 #[true, true, true, true, true, true, false, false] { tmps := #[Value.func (Fn.yield l) #[] #[], .pointer (some ⟨b2, 0, none⟩), .pointer (some ⟨b1, 0, none⟩), .pointer (some ⟨yb, 0, none⟩), .int .i64 (j : Int), .pointer (some ⟨fb, 0, none⟩), .slice x.A x.n x.c, .int .i64 ((k : Int) + 1), .bool false, undef, undef, .slice (some ⟨p, q, none⟩) u.n u.c, .int .i64 (u.n : Int), .int .i64 (j : Int), .bool true, .int .i64 (j : Int), .pointer (some ⟨p, q + j, none⟩), .int .i64 z, .slice u.A u.n u.c, .int .i64 (j : Int), .int .i64 ((j : Int) + 1), .slice TA (u.n - (j + 1)) (u.c - (j + 1)), .int .i64 ((k : Int) + 1), .int .i64 (k : Int), .func (.func 131) #[] #[.pointer (some ⟨a1 + 1, 0, none⟩), .pointer (some ⟨a1, 0, none⟩)], .slice x.A x.n x.c, .func (.yield l) #[] #[], .int .i64 z, .slice (some ⟨V.heap.size, 0, none⟩) 1 1, .slice x.A x.n x.c, .slice (some ⟨V.heap.size + 1, 0, none⟩) 2 2, .slice A n c, undef, undef, u34], defers := [] } W5 := by
        intro W5 A n c hO5 hB5
        obtain ⟨fn, tmps, assign, body, hy, hR⟩ := yield_wide (m' := 1) (HYH.out qs ⟨A, n, c, z :: x.zs⟩ W5 (hJ _ _ _ hVW (hB5.mono hVW) hJq) ⟨hO5.mono hBV, HM.out⟩ (hbWV.trans (hB5.mono hVW)))
        unfold encL at hy
        simp only at hy
        rw [hF]
        refine wpAnyIn_ready (rs := [6]) (by kernel_rfl) (by simp) (AllReadyIn.cons rfl (fun K hK => ?_) AllReadyIn.nil)
        rw [if_pos (by rfl)]
        refine ⟨fun _ _ => trivial, ?_⟩
        go_simp
        refine hR.mono ?_
        rintro e W3 (⟨rfl, hJ3, hb3⟩ | ⟨rfl, hJx3, hk3⟩)
        · refine hK _ _ ?_
          clear hK K
          rw [← hF]
          rw [hF]
          refine wpAnyIn_ready (rs := [7]) (by kernel_rfl) (by simp) (AllReadyIn.cons rfl (fun K hK => ?_) AllReadyIn.nil)
          rw [if_pos (by rfl)]
          refine ⟨fun _ _ => trivial, ?_⟩
          go_simp
          refine hK _ _ ?_
          clear hK K
          refine wpAnyIn_done (by kernel_rfl) ?_ _
          gi_wp2
          exact ⟨hB5.trans (hb3.mono hB5.size), ⟨qs ++ [⟨A, n, c, z :: x.zs⟩], by simp [hq], hJ3⟩, hVb.trans ((hB5.trans (hb3.mono hB5.size)).mono hVb.size)⟩
        · refine hK _ _ ?_
          clear hK K
          rw [← hF]
          rw [hF]
          refine wpAnyIn_ready (rs := [7]) (by kernel_rfl) (by simp) (AllReadyIn.cons rfl (fun K hK => ?_) AllReadyIn.nil)
          rw [if_pos (by rfl)]
          refine ⟨fun _ _ => trivial, ?_⟩
          go_simp
          refine hK _ _ ?_
          clear hK K
          refine wpAnyIn_done (by kernel_rfl) ?_ _
          gi_wp2
          exact ⟨((KeptFrom.of_below hB5).trans hk3).mono hsW2, rfl, ⟨qs ++ [⟨A, n, c, z :: x.zs⟩], by simp [hq], hJx3⟩, (KeptFrom.of_below hVb).trans ((KeptFrom.of_below hB5).trans hk3)⟩
      have CC : Calls Tryz.prog 132 #[.slice (some ⟨V.heap.size + 1, 0, none⟩) 2 2] ((V.alloc (.cells #[.int .i64 z] 3)).alloc (.cells #[.slice (some ⟨V.heap.size, 0, none⟩) 1 1, .slice x.A x.n x.c] 22)).drew fun e w' => ∃ A n c, e = .returned (.slice A n c) ∧ OwnI w' V.heap.size ⟨A, n, c, z :: x.zs⟩ ∧ Below V.heap.size V w' := by
        have hg : Gr.Ok ((V.alloc (.cells #[.int .i64 z] 3)).alloc (.cells #[.slice (some ⟨V.heap.size, 0, none⟩) 1 1, .slice x.A x.n x.c] 22)).drew ⟨some ⟨V.heap.size + 1, 0, none⟩, 2, 2, [⟨some ⟨V.heap.size, 0, none⟩, 1, 1, [z]⟩, x]⟩ := by
          refine lss_own own2 fun v hv => ?_
          rcases List.mem_cons.1 hv with e | hv
          · rw [e]
            exact ⟨own1'.rd, Nat.le_refl _, by simp [maxLen], fun y hy => by rw [List.mem_singleton.1 hy]; exact hzfit⟩
          · rw [List.mem_singleton.1 hv]
            exact hxo.below kV2
        have hfl : (Gr.g ⟨some ⟨V.heap.size + 1, 0, none⟩, 2, 2, [⟨some ⟨V.heap.size, 0, none⟩, 1, 1, [z]⟩, x]⟩).flatten = z :: x.zs := by simp [Gr.g, Ls.all]
        refine (hconcat_any _ _ hg (by rw [hfl]; simp) (by rw [hfl, List.length_cons]; omega) (fun l hl y hy => ?_)).mono ?_
        · have hl2 : l = [z] ∨ l = x.zs := by simpa [Gr.g, Ls.all] using hl
          rcases hl2 with e | e
          · rw [e] at hy; rw [List.mem_singleton.1 hy]; exact hzfit
          · rw [e] at hy; exact hxo.fit y hy
        · rintro e w' ⟨A, n, c, rfl, ho, hb⟩
          rw [hfl] at ho
          exact ⟨A, n, c, rfl, ho.mono kV2.size, kV2.trans (hb.mono kV2.size)⟩
      have T5 : F 3 #[true, true, true, true, true, false, false, false] { tmps := #[Value.func (Fn.yield l) #[] #[], .pointer (some ⟨b2, 0, none⟩), .pointer (some ⟨b1, 0, none⟩), .pointer (some ⟨yb, 0, none⟩), .int .i64 (j : Int), .pointer (some ⟨fb, 0, none⟩), .slice x.A x.n x.c, .int .i64 ((k : Int) + 1), .bool false, undef, undef, .slice (some ⟨p, q, none⟩) u.n u.c, .int .i64 (u.n : Int), .int .i64 (j : Int), .bool true, .int .i64 (j : Int), .pointer (some ⟨p, q + j, none⟩), .int .i64 z, .slice u.A u.n u.c, .int .i64 (j : Int), .int .i64 ((j : Int) + 1), .slice TA (u.n - (j + 1)) (u.c - (j + 1)), .int .i64 ((k : Int) + 1), .int .i64 (k : Int), .func (.func 131) #[] #[.pointer (some ⟨a1 + 1, 0, none⟩), .pointer (some ⟨a1, 0, none⟩)], .slice x.A x.n x.c, .func (.yield l) #[] #[], .int .i64 z, .slice (some ⟨V.heap.size, 0, none⟩) 1 1, .slice x.A x.n x.c, .slice (some ⟨V.heap.size + 1, 0, none⟩) 2 2, undef, undef, undef, u34], defers := [] } ((V.alloc (.cells #[.int .i64 z] 3)).alloc (.cells #[.slice (some ⟨V.heap.size, 0, none⟩) 1 1, .slice x.A x.n x.c] 22)).drew := by
        rw [hF]
        refine wpAnyIn_ready (rs := [5]) (by kernel_rfl) (by simp) (AllReadyIn.cons rfl (fun K hK => ?_) AllReadyIn.nil)
        rw [if_pos (by rfl)]
        refine ⟨fun _ _ => trivial, ?_⟩
        go_simp
        refine (callsIn_wide.2 CC).mono ?_
        rintro e W5 ⟨A, n, c, rfl, hO5, hB5⟩
        refine hK _ _ ?_
        clear hK K
        rw [← hF]
        exact T6 W5 A n c hO5 hB5
      have T5b : ∀ (W5 : World) (A : Option Addr) (n c : Nat), OwnI W5 V.heap.size ⟨A, n, c, z :: x.zs⟩ → Below V.heap.size V W5 → F 3 #[false, true, true, true, true, true, false, false] { tmps := #[Value.func (Fn.yield l) #[] #[], .pointer (some ⟨b2, 0, none⟩), .pointer (some ⟨b1, 0, none⟩), .pointer (some ⟨yb, 0, none⟩), .int .i64 (j : Int), .pointer (some ⟨fb, 0, none⟩), .slice x.A x.n x.c, .int .i64 ((k : Int) + 1), .bool false, undef, undef, .slice (some ⟨p, q, none⟩) u.n u.c, .int .i64 (u.n : Int), .int .i64 (j : Int), .bool true, .int .i64 (j : Int), .pointer (some ⟨p, q + j, none⟩), .int .i64 z, .slice u.A u.n u.c, .int .i64 (j : Int), .int .i64 ((j : Int) + 1), .slice TA (u.n - (j + 1)) (u.c - (j + 1)), .int .i64 ((k : Int) + 1), .int .i64 (k : Int), .func (.func 131) #[] #[.pointer (some ⟨a1 + 1, 0, none⟩), .pointer (some ⟨a1, 0, none⟩)], .slice x.A x.n x.c, undef, .int .i64 z, .slice (some ⟨V.heap.size, 0, none⟩) 1 1, .slice x.A x.n x.c, .slice (some ⟨V.heap.size + 1, 0, none⟩) 2 2, .slice A n c, undef, undef, u34], defers := [] } W5 := by
        intro W5 A n c hO5 hB5
        have cY5 := (boxed_below yY hB5).cell
        rw [hF]
        refine wpAnyIn_ready (rs := [0]) (by kernel_rfl) (by simp) (AllReadyIn.cons rfl (fun K hK => ?_) AllReadyIn.nil)
        rw [if_pos (by rfl)]
        refine ⟨fun _ _ => trivial, ?_⟩
        go_simp
        refine hK _ _ ?_
        clear hK K
        rw [← hF]
        exact T6 W5 A n c hO5 hB5
      have T4b : F 4 #[false, true, true, true, true, false, false, false] { tmps := #[Value.func (Fn.yield l) #[] #[], .pointer (some ⟨b2, 0, none⟩), .pointer (some ⟨b1, 0, none⟩), .pointer (some ⟨yb, 0, none⟩), .int .i64 (j : Int), .pointer (some ⟨fb, 0, none⟩), .slice x.A x.n x.c, .int .i64 ((k : Int) + 1), .bool false, undef, undef, .slice (some ⟨p, q, none⟩) u.n u.c, .int .i64 (u.n : Int), .int .i64 (j : Int), .bool true, .int .i64 (j : Int), .pointer (some ⟨p, q + j, none⟩), .int .i64 z, .slice u.A u.n u.c, .int .i64 (j : Int), .int .i64 ((j : Int) + 1), .slice TA (u.n - (j + 1)) (u.c - (j + 1)), .int .i64 ((k : Int) + 1), .int .i64 (k : Int), .func (.func 131) #[] #[.pointer (some ⟨a1 + 1, 0, none⟩), .pointer (some ⟨a1, 0, none⟩)], .slice x.A x.n x.c, undef, .int .i64 z, .slice (some ⟨V.heap.size, 0, none⟩) 1 1, .slice x.A x.n x.c, .slice (some ⟨V.heap.size + 1, 0, none⟩) 2 2, undef, undef, undef, u34], defers := [] } ((V.alloc (.cells #[.int .i64 z] 3)).alloc (.cells #[.slice (some ⟨V.heap.size, 0, none⟩) 1 1, .slice x.A x.n x.c] 22)).drew := by
        rw [hF]
        refine wpAnyIn_ready (rs := [0, 5]) (by kernel_rfl) (by simp) (AllReadyIn.cons rfl (fun K hK => ?_) (AllReadyIn.cons rfl (fun K hK => ?_) AllReadyIn.nil))
        · rw [if_pos (by rfl)]
          refine ⟨fun _ _ => trivial, ?_⟩
          go_simp
          refine hK _ _ ?_
          clear hK K
          rw [← hF]
          exact T5
        · rw [if_pos (by rfl)]
          refine ⟨fun _ _ => trivial, ?_⟩
          go_simp
          refine (callsIn_wide.2 CC).mono ?_
          rintro e W5 ⟨A, n, c, rfl, hO5, hB5⟩
          refine hK _ _ ?_
          clear hK K
          rw [← hF]
          exact T5b W5 A n c hO5 hB5
      have T4 : F 4 #[true, true, true, true, false, false, false, false] { tmps := #[Value.func (Fn.yield l) #[] #[], .pointer (some ⟨b2, 0, none⟩), .pointer (some ⟨b1, 0, none⟩), .pointer (some ⟨yb, 0, none⟩), .int .i64 (j : Int), .pointer (some ⟨fb, 0, none⟩), .slice x.A x.n x.c, .int .i64 ((k : Int) + 1), .bool false, undef, undef, .slice (some ⟨p, q, none⟩) u.n u.c, .int .i64 (u.n : Int), .int .i64 (j : Int), .bool true, .int .i64 (j : Int), .pointer (some ⟨p, q + j, none⟩), .int .i64 z, .slice u.A u.n u.c, .int .i64 (j : Int), .int .i64 ((j : Int) + 1), .slice TA (u.n - (j + 1)) (u.c - (j + 1)), .int .i64 ((k : Int) + 1), .int .i64 (k : Int), .func (.func 131) #[] #[.pointer (some ⟨a1 + 1, 0, none⟩), .pointer (some ⟨a1, 0, none⟩)], .slice x.A x.n x.c, .func (.yield l) #[] #[], .int .i64 z, .slice (some ⟨V.heap.size, 0, none⟩) 1 1, .slice x.A x.n x.c, undef, undef, undef, undef, u34], defers := [] } (V.alloc (.cells #[.int .i64 z] 3)).drew := by
        rw [hF]
        refine wpAnyIn_ready (rs := [4]) (by kernel_rfl) (by simp) (AllReadyIn.cons rfl (fun K hK => ?_) AllReadyIn.nil)
        rw [if_pos (by rfl)]
        refine ⟨fun _ _ => trivial, ?_⟩
        go_simp
        refine hK _ _ ?_
        clear hK K
        rw [← hF]
        exact T5
      have T3b : F 5 #[false, true, true, true, false, false, false, false] { tmps := #[Value.func (Fn.yield l) #[] #[], .pointer (some ⟨b2, 0, none⟩), .pointer (some ⟨b1, 0, none⟩), .pointer (some ⟨yb, 0, none⟩), .int .i64 (j : Int), .pointer (some ⟨fb, 0, none⟩), .slice x.A x.n x.c, .int .i64 ((k : Int) + 1), .bool false, undef, undef, .slice (some ⟨p, q, none⟩) u.n u.c, .int .i64 (u.n : Int), .int .i64 (j : Int), .bool true, .int .i64 (j : Int), .pointer (some ⟨p, q + j, none⟩), .int .i64 z, .slice u.A u.n u.c, .int .i64 (j : Int), .int .i64 ((j : Int) + 1), .slice TA (u.n - (j + 1)) (u.c - (j + 1)), .int .i64 ((k : Int) + 1), .int .i64 (k : Int), .func (.func 131) #[] #[.pointer (some ⟨a1 + 1, 0, none⟩), .pointer (some ⟨a1, 0, none⟩)], .slice x.A x.n x.c, undef, .int .i64 z, .slice (some ⟨V.heap.size, 0, none⟩) 1 1, .slice x.A x.n x.c, undef, undef, undef, undef, u34], defers := [] } (V.alloc (.cells #[.int .i64 z] 3)).drew := by
        rw [hF]
        refine wpAnyIn_ready (rs := [0, 4]) (by kernel_rfl) (by simp) (AllReadyIn.cons rfl (fun K hK => ?_) (AllReadyIn.cons rfl (fun K hK => ?_) AllReadyIn.nil))
        · rw [if_pos (by rfl)]
          refine ⟨fun _ _ => trivial, ?_⟩
          go_simp
          refine hK _ _ ?_
          clear hK K
          rw [← hF]
          exact T4
        · rw [if_pos (by rfl)]
          refine ⟨fun _ _ => trivial, ?_⟩
          go_simp
          refine hK _ _ ?_
          clear hK K
          rw [← hF]
          exact T4b
      have T3 : F 5 #[true, true, false, true, false, false, false, false] { tmps := #[Value.func (Fn.yield l) #[] #[], .pointer (some ⟨b2, 0, none⟩), .pointer (some ⟨b1, 0, none⟩), .pointer (some ⟨yb, 0, none⟩), .int .i64 (j : Int), .pointer (some ⟨fb, 0, none⟩), .slice x.A x.n x.c, .int .i64 ((k : Int) + 1), .bool false, undef, undef, .slice (some ⟨p, q, none⟩) u.n u.c, .int .i64 (u.n : Int), .int .i64 (j : Int), .bool true, .int .i64 (j : Int), .pointer (some ⟨p, q + j, none⟩), .int .i64 z, .slice u.A u.n u.c, .int .i64 (j : Int), .int .i64 ((j : Int) + 1), .slice TA (u.n - (j + 1)) (u.c - (j + 1)), .int .i64 ((k : Int) + 1), .int .i64 (k : Int), .func (.func 131) #[] #[.pointer (some ⟨a1 + 1, 0, none⟩), .pointer (some ⟨a1, 0, none⟩)], .slice x.A x.n x.c, .func (.yield l) #[] #[], .int .i64 z, undef, .slice x.A x.n x.c, undef, undef, undef, undef, u34], defers := [] } V.drew := by
        rw [hF]
        refine wpAnyIn_ready (rs := [2]) (by kernel_rfl) (by simp) (AllReadyIn.cons rfl (fun K hK => ?_) AllReadyIn.nil)
        rw [if_pos (by rfl)]
        refine ⟨fun _ _ => trivial, ?_⟩
        go_simp
        refine hK _ _ ?_
        clear hK K
        rw [← hF]
        exact T4
      have T2b : F 6 #[false, true, false, true, false, false, false, false] { tmps := #[Value.func (Fn.yield l) #[] #[], .pointer (some ⟨b2, 0, none⟩), .pointer (some ⟨b1, 0, none⟩), .pointer (some ⟨yb, 0, none⟩), .int .i64 (j : Int), .pointer (some ⟨fb, 0, none⟩), .slice x.A x.n x.c, .int .i64 ((k : Int) + 1), .bool false, undef, undef, .slice (some ⟨p, q, none⟩) u.n u.c, .int .i64 (u.n : Int), .int .i64 (j : Int), .bool true, .int .i64 (j : Int), .pointer (some ⟨p, q + j, none⟩), .int .i64 z, .slice u.A u.n u.c, .int .i64 (j : Int), .int .i64 ((j : Int) + 1), .slice TA (u.n - (j + 1)) (u.c - (j + 1)), .int .i64 ((k : Int) + 1), .int .i64 (k : Int), .func (.func 131) #[] #[.pointer (some ⟨a1 + 1, 0, none⟩), .pointer (some ⟨a1, 0, none⟩)], .slice x.A x.n x.c, undef, .int .i64 z, undef, .slice x.A x.n x.c, undef, undef, undef, undef, u34], defers := [] } V.drew := by
        rw [hF]
        refine wpAnyIn_ready (rs := [0, 2]) (by kernel_rfl) (by simp) (AllReadyIn.cons rfl (fun K hK => ?_) (AllReadyIn.cons rfl (fun K hK => ?_) AllReadyIn.nil))
        · rw [if_pos (by rfl)]
          refine ⟨fun _ _ => trivial, ?_⟩
          go_simp
          refine hK _ _ ?_
          clear hK K
          rw [← hF]
          exact T3
        · rw [if_pos (by rfl)]
          refine ⟨fun _ _ => trivial, ?_⟩
          go_simp
          refine hK _ _ ?_
          clear hK K
          rw [← hF]
          exact T3b
      have T2 : F 6 #[true, false, false, true, false, false, false, false] { tmps := #[Value.func (Fn.yield l) #[] #[], .pointer (some ⟨b2, 0, none⟩), .pointer (some ⟨b1, 0, none⟩), .pointer (some ⟨yb, 0, none⟩), .int .i64 (j : Int), .pointer (some ⟨fb, 0, none⟩), .slice x.A x.n x.c, .int .i64 ((k : Int) + 1), .bool false, undef, undef, .slice (some ⟨p, q, none⟩) u.n u.c, .int .i64 (u.n : Int), .int .i64 (j : Int), .bool true, .int .i64 (j : Int), .pointer (some ⟨p, q + j, none⟩), .int .i64 z, .slice u.A u.n u.c, .int .i64 (j : Int), .int .i64 ((j : Int) + 1), .slice TA (u.n - (j + 1)) (u.c - (j + 1)), .int .i64 ((k : Int) + 1), .int .i64 (k : Int), .func (.func 131) #[] #[.pointer (some ⟨a1 + 1, 0, none⟩), .pointer (some ⟨a1, 0, none⟩)], .slice x.A x.n x.c, .func (.yield l) #[] #[], undef, undef, .slice x.A x.n x.c, undef, undef, undef, undef, u34], defers := [] } V.drew := by
        rw [hF]
        refine wpAnyIn_ready (rs := [1]) (by kernel_rfl) (by simp) (AllReadyIn.cons rfl (fun K hK => ?_) AllReadyIn.nil)
        rw [if_pos (by rfl)]
        refine ⟨fun _ _ => trivial, ?_⟩
        go_simp
        refine hK _ _ ?_
        clear hK K
        rw [← hF]
        exact T3
      have T1 : F 7 #[false, false, false, true, false, false, false, false] { tmps := #[Value.func (Fn.yield l) #[] #[], .pointer (some ⟨b2, 0, none⟩), .pointer (some ⟨b1, 0, none⟩), .pointer (some ⟨yb, 0, none⟩), .int .i64 (j : Int), .pointer (some ⟨fb, 0, none⟩), .slice x.A x.n x.c, .int .i64 ((k : Int) + 1), .bool false, undef, undef, .slice (some ⟨p, q, none⟩) u.n u.c, .int .i64 (u.n : Int), .int .i64 (j : Int), .bool true, .int .i64 (j : Int), .pointer (some ⟨p, q + j, none⟩), .int .i64 z, .slice u.A u.n u.c, .int .i64 (j : Int), .int .i64 ((j : Int) + 1), .slice TA (u.n - (j + 1)) (u.c - (j + 1)), .int .i64 ((k : Int) + 1), .int .i64 (k : Int), .func (.func 131) #[] #[.pointer (some ⟨a1 + 1, 0, none⟩), .pointer (some ⟨a1, 0, none⟩)], .slice x.A x.n x.c, undef, undef, undef, .slice x.A x.n x.c, undef, undef, undef, undef, u34], defers := [] } V.drew := by
        rw [hF]
        refine wpAnyIn_ready (rs := [0, 1]) (by kernel_rfl) (by simp) (AllReadyIn.cons rfl (fun K hK => ?_) (AllReadyIn.cons rfl (fun K hK => ?_) AllReadyIn.nil))
        · rw [if_pos (by rfl)]
          refine ⟨fun _ _ => trivial, ?_⟩
          go_simp
          refine hK _ _ ?_
          clear hK K
          rw [← hF]
          exact T2
        · rw [if_pos (by rfl)]
          refine ⟨fun _ _ => trivial, ?_⟩
          go_simp
          refine hK _ _ ?_
          clear hK K
          rw [← hF]
          exact T2b
      show F 8 #[false, false, false, false, false, false, false, false] _ _
      rw [hF]
      refine wpAnyIn_take (i := 3) (v := .slice x.A x.n x.c) rfl rfl (by kernel_rfl) (by kernel_rfl) (by kernel_rfl) (fun _ _ _ h => h) ⟨Or.inl ⟨by rfl, fun w => ?_⟩, fun _ => rfl⟩ ?_
      · go_simp
      rw [← hF]
      exact T1
    case done =>
      rintro D ys V hD hys ⟨⟨qs, hq, hJq⟩, hVb⟩ hK
      have hmk2 := hm2.more (.of_below hVb) (by omega) hD hK
      have HN : Hid (qs.map Ls.zs = setsTo u.zs k (j + 1)) := Lib.hid (by
        rw [hq, hys, setsTo_succ, List.getD_eq_getElem?_getD, List.getElem?_eq_getElem hjl, HZ.out]; rfl)
      clear hq hys
      go_wp2
      refine ⟨⟨j + 1, _, _, _, _, _, _, _, _, _, _, _, _, _, _, _, ⟨by omega, hb2.trans (hVb.mono hb2.size), hmk2, Lib.hid ⟨qs, HN.out, hJq⟩⟩, rfl⟩, ?_⟩
      simp [intOf]; omega
    case stop =>
      rintro D c pre' V hD hsp ⟨rfl, ⟨qs, hq, hJxq⟩, hk⟩ hK
      obtain ⟨Ds, hds, hnd, hDs⟩ := hm2.more hk (by omega) hD hK
      gi_wp2
      show LeavesInM _ _ _ _ _ _ _ _ _
      refine leaves_shut (fun w => results_none rfl _ _ _) Ds V hnd (fun d hd => (hDs d hd).2) ⟨⟨_, rfl⟩, .inr ⟨qs, ?_, shutD_own hJx Ds V hnd hDs hJxq⟩⟩
      rw [hq, ← setsTo_all]
      refine List.IsPrefix.trans ?_ (setsTo_pre u.zs k (show j + 1 ≤ u.zs.length by omega))
      rw [setsTo_succ, List.getD_eq_getElem?_getD, List.getElem?_eq_getElem hjl, HZ.out]
      refine (List.prefix_append_right_inj _).2 ?_
      obtain ⟨r, hr⟩ := hsp
      exact ⟨r.map (z :: ·), by rw [← List.map_append, hr]; rfl⟩
  · obtain rfl : j = u.n := by omega
    obtain ⟨Ds, hds, hnd, hDs⟩ := hmk
    obtain ⟨qs, hq, hJq⟩ := hpre.out
    go_wp2
    show LeavesInM _ _ _ _ _ _ _ _ _
    refine leaves_shut (fun w => results_none rfl _ _ _) Ds wr hnd (fun d hd => (hDs d hd).2) ⟨⟨_, rfl⟩, .inl ⟨qs, ?_, shutD_stays hJ Ds wr (by have := hbl.size; have := hBl.size; omega) (fun d hd => (hDs d hd).1) hJq⟩⟩
    rw [hq, ← setsTo_all, HL.out]
end Go.Proofs.YtdckoaljcklmhaaGreatDoor


namespace Go.Proofs.YtdckoaljcklmhaaGreatDoor
open Go.RowKit
set_option linter.unusedVariables false
attribute [local go_sem] Oper.semAt_some

/-- Three results are put into their boxes. -/
theorem put3 {W : World} {r1 r2 r3 : Nat} {t1 t2 t3 : TypeId} {o1 o2 o3 : Value} (v1 v2 v3 : Value) (h1 : Boxed W r1 t1 o1) (h2 : Boxed W r2 t2 o2) (h3 : Boxed W r3 t3 o3) (n12 : r1 ≠ r2) (n13 : r1 ≠ r3) (n23 : r2 ≠ r3) :
    Boxed (W.setCell ⟨r1, 0, none⟩ v1) r2 t2 o2 ∧ Boxed ((W.setCell ⟨r1, 0, none⟩ v1).setCell ⟨r2, 0, none⟩ v2) r3 t3 o3 ∧
    Boxed (((W.setCell ⟨r1, 0, none⟩ v1).setCell ⟨r2, 0, none⟩ v2).setCell ⟨r3, 0, none⟩ v3) r1 t1 v1 ∧ Boxed (((W.setCell ⟨r1, 0, none⟩ v1).setCell ⟨r2, 0, none⟩ v2).setCell ⟨r3, 0, none⟩ v3) r2 t2 v2 ∧ Boxed (((W.setCell ⟨r1, 0, none⟩ v1).setCell ⟨r2, 0, none⟩ v2).setCell ⟨r3, 0, none⟩ v3) r3 t3 v3 := by
  have a2 := h2.other (Ne.symm n12) v1
  have a3 := (h3.other (Ne.symm n13) v1).other (Ne.symm n23) v2
  exact ⟨a2, a3, ((h1.set v1).other n12 v2).other n13 v3, (a2.set v2).other n23 v3, a3.set v3⟩
theorem below3 {w W : World} {B r1 r2 r3 : Nat} {v1 v2 v3 : Value} (h : Below B w W) (h1 : B ≤ r1) (h2 : B ≤ r2) (h3 : B ≤ r3) : Below B w (((W.setCell ⟨r1, 0, none⟩ v1).setCell ⟨r2, 0, none⟩ v2).setCell ⟨r3, 0, none⟩ v3) :=
  ((h.setCell (p := ⟨r1, 0, none⟩) h1 v1).setCell (p := ⟨r2, 0, none⟩) h2 v2).setCell (p := ⟨r3, 0, none⟩) h3 v3
theorem OwnI.box {w : World} {B r : Nat} {u : Ls} {t : TypeId} {o : Value} (v : Value) (h : OwnI w B u) (hb : Boxed w r t o) (ht : t ≠ 3) : OwnI (w.setCell ⟨r, 0, none⟩ v) B u := by
  refine ⟨⟨h.own.1, ?_⟩, h.fit⟩
  rcases h.own.2 with h0 | ⟨g, cur, hA, hg, hh, rr⟩
  · exact .inl h0
  · refine .inr ⟨g, cur, hA, hg, ?_, rr⟩
    rw [Below.heap_setCell _ _ _ _ (fun e => by
      have h3 : w.heap[r]? = some (.cells #[o] t (0, 0)) := hb
      rw [show g = r from e, h3] at hh
      exact ht (Obj.cells.inj (Option.some.inj hh)).2.1)]
    exact hh
set_option maxRecDepth 100000 in
set_option maxHeartbeats 2000000 in
theorem pfewC : FewC 96 := by
  intro x m u w hx hu hm1 hm2
  refine (callsIn_wide (n := 4)).1 ?_
  refine callsIn_of_wp_marks Tryz.func96 rfl trivial ?_ rfl
  rw [show x.v = .slice x.A x.n x.c from rfl, show u.v = .slice u.A u.n u.c from rfl]
  simp only [Tryz.ntmps96, List.size_toArray, List.length_cons, List.length_nil, Nat.reduceAdd, Nat.reduceSub, Array.replicate_succ, Array.replicate_zero, List.push_toArray, List.append_toArray, List.nil_append, List.cons_append]
  refine wpIn_wide.2 ?_
  go_wp2_with fail
  have bG := ((((Boxed.new w 23 (.slice x.A x.n x.c)).alloc (.cells #[.slice u.A u.n u.c] 22)).alloc (.cells #[.slice none 0 0] 22)).alloc (.cells #[.bool false] 4)).alloc (.cells #[.int .i64 0] 30)
  have bS := (((Boxed.new (w.alloc (.cells #[.slice x.A x.n x.c] 23)) 22 (.slice u.A u.n u.c)).alloc (.cells #[.slice none 0 0] 22)).alloc (.cells #[.bool false] 4)).alloc (.cells #[.int .i64 0] 30)
  have b1 := ((Boxed.new ((w.alloc (.cells #[.slice x.A x.n x.c] 23)).alloc (.cells #[.slice u.A u.n u.c] 22)) 22 (.slice none 0 0)).alloc (.cells #[.bool false] 4)).alloc (.cells #[.int .i64 0] 30)
  have b2 := (Boxed.new (((w.alloc (.cells #[.slice x.A x.n x.c] 23)).alloc (.cells #[.slice u.A u.n u.c] 22)).alloc (.cells #[.slice none 0 0] 22)) 4 (.bool false)).alloc (.cells #[.int .i64 0] 30)
  have b3 := Boxed.new ((((w.alloc (.cells #[.slice x.A x.n x.c] 23)).alloc (.cells #[.slice u.A u.n u.c] 22)).alloc (.cells #[.slice none 0 0] 22)).alloc (.cells #[.bool false] 4)) 30 (.int .i64 0)
  have hB5 : Below w.heap.size w (((((w.alloc (.cells #[.slice x.A x.n x.c] 23)).alloc (.cells #[.slice u.A u.n u.c] 22)).alloc (.cells #[.slice none 0 0] 22)).alloc (.cells #[.bool false] 4)).alloc (.cells #[.int .i64 0] 30)) :=
    (((((Below.refl _ w).alloc (Nat.le_refl _) _).alloc (by simp only [World.size_alloc]; omega) _).alloc (by simp only [World.size_alloc]; omega) _).alloc (by simp only [World.size_alloc]; omega) _).alloc (by simp only [World.size_alloc]; omega) _
  simp only [World.size_alloc] at bS b1 b2 b3
  generalize ((((w.alloc (.cells #[.slice x.A x.n x.c] 23)).alloc (.cells #[.slice u.A u.n u.c] 22)).alloc (.cells #[.slice none 0 0] 22)).alloc (.cells #[.bool false] 4)).alloc (.cells #[.int .i64 0] 30) = w5 at *
  obtain ⟨bs, hbs⟩ : ∃ b, b = w.heap.size + 1 := ⟨_, rfl⟩
  obtain ⟨r1, hr1⟩ : ∃ b, b = w.heap.size + 1 + 1 := ⟨_, rfl⟩
  obtain ⟨r2, hr2⟩ : ∃ b, b = w.heap.size + 1 + 1 + 1 := ⟨_, rfl⟩
  obtain ⟨r3, hr3⟩ : ∃ b, b = w.heap.size + 1 + 1 + 1 + 1 := ⟨_, rfl⟩
  rw [← hr3] at b3
  rw [← hr2] at b2
  rw [← hr1] at b1
  rw [← hbs] at bS
  rw [← hr3, ← hr2, ← hr1, ← hbs]
  have n12 : r1 ≠ r2 := by omega
  have n13 : r1 ≠ r3 := by omega
  have n23 : r2 ≠ r3 := by omega
  have l1 : w.heap.size ≤ r1 := by omega
  have l2 : w.heap.size ≤ r2 := by omega
  have l3 : w.heap.size ≤ r3 := by omega
  clear hr1 hr2 hr3 hbs
  have HL1 := Lib.hid l1
  have HL2 := Lib.hid l2
  have HL3 := Lib.hid l3
  have HUL := Lib.hid hu.len
  have hne := gnearC x m u w5 (hx.below hB5) (hu.below hB5) hm1 hm2
  rw [show x.v = .slice x.A x.n x.c from rfl] at hne
  unfold Ls.v at hne
  obtain ⟨β, hβ⟩ : ∃ β, nearOk x.g m u.zs = β := ⟨_, rfl⟩
  have HB := Lib.hid hβ
  cases β
  · rw [near_err_bad hβ] at hne
    obtain ⟨f1, f2⟩ := few_bad hβ
    have F1 := Lib.hid f1
    have F2 := Lib.hid f2
    have F3 := Lib.hid (near_err_bad hβ)
    clear hβ f1 f2
    refine hne.mono ?_
    rintro e w1 ⟨A, n, c, rfl, hO, hb1⟩
    clear hne hO
    have hB1 := hB5.trans (hb1.mono hB5.size)
    have c1 := boxed_below b1 hb1
    have c2 := boxed_below b2 hb1
    have c3 := boxed_below b3 hb1
    obtain ⟨p2, p3, q1, q2, q3⟩ := put3 (.slice none 0 0) (.bool false) (.int .i64 1) c1 c2 c3 n12 n13 n23
    have hB2 := below3 (v1 := .slice none 0 0) (v2 := .bool false) (v3 := .int .i64 1) hB1 l1 l2 l3
    have x1 := c1.cell
    have y1 := c1.frozen
    have x2 := p2.cell
    have y2 := p2.frozen
    have x3 := p3.cell
    have y3 := p3.frozen
    have z1 := q1.cell
    have z2 := q2.cell
    have z3 := q3.cell
    clear c1 c2 c3 p2 p3 q1 q2 q3 b1 b2 b3 bG bS l1 l2 l3 n12 n13 n23
    go_wp2
    refine postM_ret (v := .tuple #[.slice none 0 0, .bool false, .int .i64 1]) (by simp [results, Tryz.f96, go_sem, z1, z2, z3]) rfl ⟨none, 0, 0, by rw [F1.out, F3.out], by rw [F2.out]; exact OwnI.nil _ _, hB2⟩
  have hb0 := hβ
  rw [nearOk, Bool.and_eq_true] at hb0
  have HC := Lib.hid hb0.1
  have HS := Lib.hid (of_decide_eq_true hb0.2 : Rises x.g.length u.zs)
  clear hb0
  obtain ⟨M, rfl⟩ : ∃ M : Nat, m = M := ⟨m.toNat, by have := (checkG_iff.1 HC.out).1; omega⟩
  have hM8 := (checkG_iff.1 HC.out).2.1
  rw [near_err hβ, near_ans hβ] at hne
  have E0 := Lib.hid (near_err hβ)
  have hal : Hid ((fewP x.g M u.zs).isSome = !allE x.g M u.zs) := Lib.hid (by
    rw [few_not HC.out HS.out, allE, hβ, Bool.true_and, Int.toNat_natCast])
  clear hβ
  refine hne.mono ?_
  rintro e w1 ⟨A, n, c, rfl, hO, hb1⟩
  clear hne
  have hB1 := hB5.trans (hb1.mono hB5.size)
  have c1 := boxed_below b1 hb1
  have c2 := boxed_below b2 hb1
  have c3 := boxed_below b3 hb1
  have cG := (boxed_below bG hb1)
  have cS := (boxed_below bS hb1)
  have gG := cG.cell
  have gS := cS.cell
  have hO1 := hO.mono hB5.size
  clear hO b1 b2 b3 bG bS hb1 hB5
  have hav := pallC x M u w1 (hx.below hB1) (hu.below hB1) hm1 hm2
  rw [show x.v = .slice x.A x.n x.c from rfl, E0.out] at hav
  unfold Ls.v at hav
  obtain ⟨γ, hγ⟩ : ∃ γ, allE x.g M u.zs = γ := ⟨_, rfl⟩
  rw [hγ] at hav hal
  clear hγ
  go_wp2_with fail
  refine hav.mono ?_
  rintro e w2 ⟨rfl, hb2⟩
  clear hav
  have hB2 := hB1.trans (hb2.mono hB1.size)
  have d1 := boxed_below c1 hb2
  have d2 := boxed_below c2 hb2
  have d3 := boxed_below c3 hb2
  have dG := boxed_below cG hb2
  have dS := boxed_below cS hb2
  have hO2 := hO1.below hb2
  clear c1 c2 c3 cG cS gG gS hO1 hb2 hB1
  cases γ
  · have hno : (fewP x.g M u.zs).isSome = true := by rw [hal.out]; rfl
    have HN := Lib.hid hno
    clear hno hal
    obtain ⟨V, hV⟩ : ∃ V : Ls, V = ⟨A, n, c, nearG x.g M u.zs⟩ := ⟨_, rfl⟩
    have hse := hsets_any A n c w2
    have hVn : n ≤ 8 := by
      have h1 := hO2.len
      have h2 := rises_len (upto_rises M fun i => u.zs.any fun z => decide ((i : Int) ∈ x.g.getD z.toNat []))
      simp only at h1
      rw [← h1, nearG]
      omega
    have hOk := hO2.ok
    have dG1 := dG.cell
    have dS1 := dS.cell
    go_wp2_with fail
    refine hse.mono ?_
    rintro e w' ⟨rfl, rfl⟩
    clear hse dG1 dS1
    have kb : Below w2.heap.size w2 (w2.alloc (.cells #[.slice A n c] 22)) := (Below.refl _ w2).alloc (Nat.le_refl _) _
    have eN := Boxed.new w2 22 (.slice A n c)
    have e1 := boxed_below d1 kb
    have e2 := boxed_below d2 kb
    have e3 := boxed_below d3 kb
    have eG := boxed_below dG kb
    have eS := boxed_below dS kb
    have hB3 := hB2.trans (kb.mono hB2.size)
    have hOk3 := hOk.below kb
    clear d1 d2 d3 dG dS hOk hO2
    obtain ⟨nb, hnb⟩ : ∃ b, b = w2.heap.size := ⟨_, rfl⟩
    rw [← hnb] at eN ⊢
    clear hnb kb hB2
    generalize w2.alloc (.cells #[.slice A n c] 22) = w3 at *
    go_wp2
    refine (wpIn_wide (n := 4)).1 ?_
    refine range_seqO (n := 4) (by omega) (gf := 119) (lb := #[.pointer (some ⟨nb, 0, none⟩)]) rfl (enters_of Tryz.func119 (by kernel_rfl) rfl)
      (hsets1_any hsetsOf1_any ⟨A, n, c, nearG x.g M u.zs⟩ nb w.heap.size w3 eN hOk3 hB3.size hVn) (Below.refl _ _) (fun _ => rfl) (fun x a b hc h => ⟨h.1.cel hc, h.2⟩)
      (fun pre W' => (∀ y ∈ pre, fewB x.g u.zs y.zs = false) ∧ Below w3.heap.size w3 W')
      (fun c pre W' => (c = .ret ∧ ∃ (pre0 : List Ls) (y : Ls), pre = pre0 ++ [y] ∧ (∀ v ∈ pre0, fewB x.g u.zs v.zs = false) ∧ fewB x.g u.zs y.zs = true ∧ OwnI W' w.heap.size y ∧ Boxed W' r1 22 (.slice y.A y.n y.c) ∧ Boxed W' r2 4 (.bool true) ∧ Boxed W' r3 30 (.int .i64 0)) ∧ Below w.heap.size w W')
      (fun s a b ha hab h => ⟨h.1, h.2.trans hab⟩)
      (fun c => OwnFrom.and (ownFrom_cel _ fun s a b hc h => by
        obtain ⟨rfl, pre0, y, h1, h2, h3, h4, h5, h6, h7⟩ := h
        exact ⟨rfl, pre0, y, h1, h2, h3, h4.cel hc, boxed_cel h5 hc, boxed_cel h6 hc, boxed_cel h7 hc⟩) (ownFrom_below (Nat.le_refl _) hB3.size))
      ⟨by simp, Below.refl _ _⟩
      (fun y a' _ => a' = { tmps := #[Value.slice x.A x.n x.c, .int .i64 (M : Int), .slice u.A u.n u.c, .pointer (some ⟨w.heap.size, 0, none⟩), undef, .pointer (some ⟨bs, 0, none⟩), .pointer (some ⟨r1, 0, none⟩), .pointer (some ⟨r2, 0, none⟩), .pointer (some ⟨r3, 0, none⟩), .slice A n c, .int .i64 0, .bool false, .int .i64 0, .slice y.A y.n y.c, .tuple #[.slice A n c, .int .i64 0], .slice x.A x.n x.c, .int .i64 (M : Int), .slice u.A u.n u.c, .tuple #[.slice A n c, .int .i64 0], .slice A n c, .int .i64 0, .int .i64 0, .bool false, undef, .tuple #[.bool false, .int .i64 0], .slice x.A x.n x.c, .int .i64 (M : Int), .slice u.A u.n u.c, .tuple #[.bool false, .int .i64 0], .bool false, .int .i64 0, .bool false, .slice A n c, .func (.func 119) #[] #[.pointer (some ⟨nb, 0, none⟩)], .slice y.A y.n y.c, undef, undef, undef, undef, undef, undef, undef, undef], defers := [] })
      (fun _ _ _ _ _ h => h) ?assign ?body ?done ?stop
    case assign =>
      intro l2 pre' y V2 K hI hE hV2 hK
      simp only [encL, List.zip_toArray, List.zip_cons_cons, List.zip_nil_right, List.foldl_toArray', List.foldl_cons, List.foldl_nil, List.size_toArray, List.setIfInBounds_toArray, List.set_cons_succ, List.set_cons_zero]
      gi_wp2
      exact hK _ _ (Below.refl _ _) rfl
    case body =>
      rintro l2' pre' y a' V2 ⟨hpre, hVb⟩ ⟨hOy, hmem⟩ rfl hV2
      have yG := (boxed_below eG hVb).cell
      have yS := (boxed_below eS hVb).cell
      have f1 := boxed_below e1 hVb
      have f2 := boxed_below e2 hVb
      have f3 := boxed_below e3 hVb
      have hBV := hB3.trans (hVb.mono hB3.size)
      have hYL := hOy.len
      have hwa := hwant_any x u y V2 (hx.below hBV) (hu.below hBV) hOy.ok (by have h := HS.out.1; rw [hx.glen] at h; exact h) (by
        have h1 := rises_len HS.out
        have h2 := (checkG_iff.1 HC.out).2.2.1
        rw [HUL.out] at h1
        omega)
      obtain ⟨k, hk⟩ : ∃ k, (withinL x.g u.zs y.zs).length = k := ⟨_, rfl⟩
      have hfw : Hid (fewB x.g u.zs y.zs = decide ((y.n : Int) < (k : Int))) := Lib.hid (by
        rw [fewB, hk, hYL, decide_eq_decide]; omega)
      rw [hk] at hwa
      clear hk
      obtain ⟨δ, hδ⟩ : ∃ δ, decide ((y.n : Int) < (k : Int)) = δ := ⟨_, rfl⟩
      have HF := Lib.hid (hfw.out.trans hδ)
      have HYO := Lib.hid hOy
      have HYM := Lib.hid hmem
      have HP := Lib.hid hpre
      have HVB := Lib.hid hVb
      have HBV := Lib.hid hBV
      clear hOy hmem hpre hYL hfw
      cases δ
      · have g1 : ¬ y.n < k := by have := of_decide_eq_false hδ; omega
        clear f1 f2 f3 l1 l2 l3 n12 n13 n23
        gi_wp2_with (refine ⟨trivial, ?_⟩; refine (CallsIn.inRound l2' (callsIn_wide.2 hwa)).mono ?_; rintro e w' ⟨rfl, rfl⟩)
        refine ⟨Below.refl _ _, fun v hv => ?_, HVB.out⟩
        rcases List.mem_append.1 hv with hv | hv
        · exact HP.out v hv
        · rw [List.mem_singleton.1 hv]; exact HF.out
      · have g1 : y.n < k := by have := of_decide_eq_true hδ; omega
        obtain ⟨p2, p3, q1, q2, q3⟩ := put3 (.slice y.A y.n y.c) (.bool true) (.int .i64 0) f1 f2 f3 n12 n13 n23
        have hB4 := Lib.hid (below3 (v1 := .slice y.A y.n y.c) (v2 := .bool true) (v3 := .int .i64 0) hBV l1 l2 l3)
        have hk4 : Hid (KeptFrom w3.heap.size V2 (((V2.setCell ⟨r1, 0, none⟩ (.slice y.A y.n y.c)).setCell ⟨r2, 0, none⟩ (.bool true)).setCell ⟨r3, 0, none⟩ (.int .i64 0))) := Lib.hid ⟨by simp [World.setCell, Array.size_modify], fun k hk _ => by
          have h1 := e1.lt
          have h2 := e2.lt
          have h3 := e3.lt
          rw [Below.heap_setCell _ _ _ _ (by show k ≠ r3; omega), Below.heap_setCell _ _ _ _ (by show k ≠ r2; omega), Below.heap_setCell _ _ _ _ (by show k ≠ r1; omega)]⟩
        have x1 := f1.cell
        have y1 := f1.frozen
        have x2 := p2.cell
        have y2 := p2.frozen
        have x3 := p3.cell
        have y3 := p3.frozen
        have Q := Lib.hid (⟨q1, q2, q3⟩ : _ ∧ _ ∧ _)
        have HY4 := Lib.hid (((HYO.out.box (.slice y.A y.n y.c) f1 (by decide)).box (.bool true) p2 (by decide)).box (.int .i64 0) p3 (by decide))
        clear f1 f2 f3 p2 p3 q1 q2 q3 l1 l2 l3 n12 n13 n23 hBV
        gi_wp2_with (refine ⟨trivial, ?_⟩; refine (CallsIn.inRound l2' (callsIn_wide.2 hwa)).mono ?_; rintro e w' ⟨rfl, rfl⟩)
        exact ⟨hk4.out, ⟨rfl, pre', y, rfl, HP.out, HF.out, HY4.out, Q.out.1, Q.out.2.1, Q.out.2.2⟩, hB4.out⟩
    case done =>
      rintro D ys V2 hD hys ⟨hall, hVb⟩ hK
      have hnone : fewP x.g M u.zs = none := none_few fun l hl => by
        rw [show allSets (nearG x.g M u.zs) = _ from hys.symm] at hl
        obtain ⟨y, hy, rfl⟩ := List.mem_map.1 hl
        exact hall y hy
      have h := HN.out
      rw [hnone] at h
      cases h
    case stop =>
      rintro D c pre V2 hD hsp ⟨⟨rfl, pre0, y, rfl, h2, h3, h4, h5, h6, h7⟩, hBw⟩ hK
      obtain ⟨post, hpost⟩ := hsp
      have hsome : fewP x.g M u.zs = some y.zs := first_few (pre := pre0.map Ls.zs) (post := post) (by
        rw [← hpost, List.map_append, List.append_assoc]; rfl) (fun l hl => by
        obtain ⟨v, hv, rfl⟩ := List.mem_map.1 hl
        exact h2 v hv) h3
      obtain ⟨f1, f2⟩ := few_yes HB.out hsome
      have F1 := Lib.hid f1
      have F2 := Lib.hid f2
      clear f1 f2
      have hc := cel_putObj (w := V2) (l := D) (.deferred none) hK rfl
      have z1 := (boxed_cel h5 hc).cell
      have z2 := (boxed_cel h6 hc).cell
      have z3 := (boxed_cel h7 hc).cell
      gi_wp2
      refine postM_mark (v := .tuple #[.slice y.A y.n y.c, .bool true, .int .i64 0]) hK (by simp [results, Tryz.f96, go_sem, z1, z2, z3]) rfl ⟨y.A, y.n, y.c, by rw [F1.out, E0.out], ?_, hBw.trans (belowK_b (w := w) (Nat.le_refl _) _ D _ _ (Nat.le_trans hB3.size hD) hK rfl rfl)⟩
      rw [F2.out]
      exact h4.cel hc
  · have hn : fewP x.g M u.zs = none := by
      have h := hal.out
      rw [Bool.not_true] at h
      exact Option.isNone_iff_eq_none.1 (by simpa using h)
    obtain ⟨f1, f2⟩ := few_no HB.out hn
    have F1 := Lib.hid f1
    have F2 := Lib.hid f2
    clear f1 f2 hn
    obtain ⟨p2, p3, q1, q2, q3⟩ := put3 (.slice none 0 0) (.bool false) (.int .i64 0) d1 d2 d3 n12 n13 n23
    have hB3 := below3 (v1 := .slice none 0 0) (v2 := .bool false) (v3 := .int .i64 0) hB2 l1 l2 l3
    have x1 := d1.cell
    have y1 := d1.frozen
    have x2 := p2.cell
    have y2 := p2.frozen
    have x3 := p3.cell
    have y3 := p3.frozen
    have z1 := q1.cell
    have z2 := q2.cell
    have z3 := q3.cell
    clear d1 d2 d3 p2 p3 q1 q2 q3 dG dS l1 l2 l3 n12 n13 n23 hO2
    go_wp2
    refine postM_ret (v := .tuple #[.slice none 0 0, .bool false, .int .i64 0]) (by simp [results, Tryz.f96, go_sem, z1, z2, z3]) rfl ⟨none, 0, 0, by rw [F1.out, E0.out], by rw [F2.out]; exact OwnI.nil _ _, hB3⟩
end Go.Proofs.YtdckoaljcklmhaaGreatDoor


namespace Go.Proofs.YtdckoaljcklmhaaGreatDoor
end Go.Proofs.YtdckoaljcklmhaaGreatDoor

