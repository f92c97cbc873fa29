/-
  Walks of package weights: Best, Proved.
-/
import Derived.Test.YtiaoplghaigclaaDoorWeT
import Derived.Test.YtiaoplghaigclaaDoorWeO
import Derived.Test.YtiaoplghaigclaaDoorTwin
import Derived.Test.YtiaoplghaigclaaDoorReg2
import Derived.Lib.MinMax
import Derived.Test.YtiaoplghaigclaaDoorReg
import Derived.OwnWalk
import Derived.Laws.Rows
import Derived.Laws.Tables
import Derived.Laws.CopyOwn
import Derived.Test.YtiaoplghaigclaaDoorWeI
namespace Go.Proofs.YtiaoplghaigclaaDoor
open Go.RowKit
set_option linter.unusedVariables false

theorem infoW_int : (Tryd.prog.info? 3).map (fun i => (i.zero, i.size, i.bytes)) = some (some (.int .i64 0), 1, 8) := by kernel_rfl
theorem maxto_snoc {l : List Int} {a : Int} {j : Nat} (h : j < l.length) : (l.take (j + 1)).foldl max a = max ((l.take j).foldl max a) l[j] := by
  rw [List.take_succ_eq_append_getElem h, List.foldl_append]; rfl
set_option maxRecDepth 100000 in
set_option maxHeartbeats 1000000 in
/-- The greatest of one or more. -/
theorem wgreatest_any (a : Int) (l : Ls) (w : World) (hl : l.Ok w) :
    Calls Tryd.prog 55 #[.int .i64 a, .slice l.A l.n l.c] w fun e w' => e = .returned (.int .i64 (l.zs.foldl max a)) ∧ w' = w := by
  have tl := Nat.le_trans hl.cap hl.top
  have HL := Lib.hid hl.len
  have lrd := hl.rd
  obtain ⟨lA, ln, lc, lz⟩ := l
  simp only at lrd tl HL ⊢
  unfold maxLen at tl
  go_enter Tryd.func55, Tryd.ntmps55
  go_wp2_with fail
  go_loopw [0, 9] (fun m i wr => ∃ (j : Nat) (b : Int), j ≤ ln ∧ i = .int .i64 j ∧ m = .int .i64 b ∧ Hid (b = (lz.take j).foldl max a) ∧ wr = w) (fun _ i _ => ln - (intOf i).toNat)
  case atStart => exact ⟨0, a, Nat.zero_le _, rfl, rfl, Lib.hid rfl, rfl⟩
  case round =>
    obtain ⟨j, b, hj, rfl, rfl, hb, rfl⟩ := hrel
    by_cases hlt : j < ln
    · obtain ⟨p, q, rfl, hp, u0, hu0, hc0⟩ := lrd.get hlt
      have hjl : j < lz.length := by rw [HL.out]; exact hlt
      rw [ci64_get _ _ hjl] at hu0
      obtain rfl : iV lz[j] = u0 := Option.some.inj hu0
      unfold iV at hc0
      have HN : Hid (max b lz[j] = (lz.take (j + 1)).foldl max a) := Lib.hid (by rw [maxto_snoc hjl, hb.out])
      have hi1 : (j : Int) < ln := by omega
      generalize lz[j] = z at *
      clear hu0 hjl hb
      go_wp2
      go_roundw
      case rel => exact ⟨j + 1, _, by omega, by go_num, rfl, HN, trivial⟩
      case measure => simp [intOf]; omega
    · obtain rfl : j = ln := by omega
      have HN : Hid (b = lz.foldl max a) := Lib.hid (by
        have h := hb.out
        rwa [List.take_of_length_le (by rw [HL.out]; exact Nat.le_refl _)] at h)
      clear hb
      go_wp2
      go_ret
      exact ⟨by rw [HN.out]; rfl, rfl⟩

def fitA (l : List Int) : Bool := l.all fun z => decide (-1000000 ≤ z) && decide (z ≤ 1000000)
set_option maxRecDepth 100000 in
set_option maxHeartbeats 1000000 in
theorem wallmay_any (l : Ls) (w : World) (hl : l.Ok w) :
    Calls Tryd.prog 54 #[.slice l.A l.n l.c] w fun e w' => e = .returned (.bool (fitA l.zs)) ∧ w' = w := by
  have tl := Nat.le_trans hl.cap hl.top
  have HL := Lib.hid hl.len
  have lrd := hl.rd
  obtain ⟨lA, ln, lc, lz⟩ := l
  simp only at lrd tl HL ⊢
  unfold maxLen at tl
  go_enter Tryd.func54, Tryd.ntmps54
  go_wp2_with fail
  go_loopw [7] (fun i wr => ∃ (j : Nat), j ≤ ln ∧ i = .int .i64 j ∧ Hid (fitA (lz.take j) = true) ∧ wr = w) (fun i _ => ln - (intOf i).toNat)
  case atStart => exact ⟨0, Nat.zero_le _, rfl, Lib.hid rfl, rfl⟩
  case round =>
    obtain ⟨j, hj, rfl, hb, rfl⟩ := hrel
    by_cases hlt : j < ln
    · obtain ⟨p, q, rfl, hp, u0, hu0, hc0⟩ := lrd.get hlt
      have hjl : j < lz.length := by rw [HL.out]; exact hlt
      rw [ci64_get _ _ hjl] at hu0
      obtain rfl : iV lz[j] = u0 := Option.some.inj hu0
      unfold iV at hc0
      have hmem : lz[j] ∈ lz := List.getElem_mem hjl
      have htk := List.take_succ_eq_append_getElem hjl
      have hi1 : (j : Int) < ln := by omega
      obtain ⟨z, hz⟩ : ∃ z, lz[j] = z := ⟨_, rfl⟩
      rw [hz] at hc0 hmem htk
      by_cases c1 : z < -1000000
      · have k1 : decide (z < -1000000) = true := decide_eq_true c1
        have HF : Hid (fitA lz = false) := Lib.hid (by
          rw [Bool.eq_false_iff]
          intro h2
          have := List.all_eq_true.1 h2 z hmem
          simp at this
          omega)
        clear hu0 hz htk hmem c1 hb
        go_wp2
        go_ret
        exact ⟨ret_bool HF.out.symm, rfl⟩
      have k1 : decide (z < -1000000) = false := decide_eq_false c1
      by_cases c2 : 1000000 < z
      · have k2 : decide (1000000 < z) = true := decide_eq_true c2
        have HF : Hid (fitA lz = false) := Lib.hid (by
          rw [Bool.eq_false_iff]
          intro h2
          have := List.all_eq_true.1 h2 z hmem
          simp at this
          omega)
        clear hu0 hz htk hmem c1 c2 hb
        go_wp2
        go_ret
        exact ⟨ret_bool HF.out.symm, rfl⟩
      have k2 : decide (1000000 < z) = false := decide_eq_false c2
      have HN : Hid (fitA (lz.take (j + 1)) = true) := Lib.hid (by
        have h5 := hb.out
        unfold fitA at h5 ⊢
        rw [htk, List.all_append, h5, List.all_cons, decide_eq_true (show -1000000 ≤ z by omega), decide_eq_true (show z ≤ 1000000 by omega)]; rfl)
      clear hu0 hz htk hmem c1 c2 hb
      go_wp2
      go_roundw
      case rel => exact ⟨j + 1, by omega, by go_num, HN, trivial⟩
      case measure => simp [intOf]; omega
    · obtain rfl : j = ln := by omega
      have HN : Hid (fitA lz = true) := Lib.hid (by
        have h := hb.out
        rwa [List.take_of_length_le (by rw [HL.out]; exact Nat.le_refl _)] at h)
      clear hb
      go_wp2
      go_ret
      exact ⟨ret_bool HN.out.symm, rfl⟩

def fitW (l : List Int) (m : Int) : Bool := decide ((l.length : Int) = m) && fitA l
theorem mayW_eq {g : List (List Int)} {m : Int} (h1 : 1 ≤ m) (h2 : m ≤ 8) (h3 : g.length ≤ 8) : mayW g m = g.all fun l => fitW l m := by
  rw [mayW, decide_eq_true h1, decide_eq_true h2, decide_eq_true h3]; rfl
set_option maxRecDepth 100000 in
set_option maxHeartbeats 1000000 in
theorem wmaybe_any (x : Gr) (m : Int) (w : World) (h : x.Ok w) (hm1 : -9223372036854775808 ≤ m) (hm2 : m ≤ 9223372036854775807) :
    Calls Tryd.prog 17 #[x.v, .int .i64 m] w fun e w' => e = .returned (.bool (mayW x.g m)) ∧ w' = w := by
  have hgl := h.glen
  have hlen := h.len
  have tn := Nat.le_trans h.cap h.top
  unfold maxLen at tn
  obtain ⟨B, hB⟩ : ∃ B, mayW x.g m = B := ⟨_, rfl⟩
  have HB := Lib.hid hB
  have HG := Lib.hid hgl
  rw [hB]
  clear hB hgl
  unfold Gr.v
  go_enter Tryd.func17, Tryd.ntmps17
  by_cases q1 : m < 1
  · have g1 : decide (m < 1) = true := decide_eq_true q1
    have HF : Hid (B = false) := Lib.hid (by
      rw [← HB.out, mayW, decide_eq_false (by omega)]; rfl)
    clear q1
    go_wp2
    go_ret
    exact ⟨ret_bool HF.out.symm, rfl⟩
  have g1 : decide (m < 1) = false := decide_eq_false q1
  by_cases q2 : 8 < m
  · have g2 : decide (8 < m) = true := decide_eq_true q2
    have HF : Hid (B = false) := Lib.hid (by
      rw [← HB.out, mayW, decide_eq_false (show ¬ m ≤ 8 by omega)]; simp)
    clear q1 q2
    go_wp2
    go_ret
    exact ⟨ret_bool HF.out.symm, rfl⟩
  have g2 : decide (8 < m) = false := decide_eq_false q2
  by_cases q3 : 8 < x.n
  · have g3 : decide (8 < (x.n : Int)) = true := decide_eq_true (by omega)
    have g3' : decide (8 < x.n) = true := decide_eq_true q3
    have HF : Hid (B = false) := Lib.hid (by
      rw [← HB.out, mayW, decide_eq_false (show ¬ x.g.length ≤ 8 by rw [HG.out]; omega)]; simp)
    clear q1 q2 q3
    go_wp2
    go_ret
    exact ⟨ret_bool HF.out.symm, rfl⟩
  have g3 : decide (8 < (x.n : Int)) = false := decide_eq_false (by omega)
  have g3' : decide (8 < x.n) = false := decide_eq_false q3
  obtain ⟨M, rfl⟩ : ∃ M : Nat, m = M := ⟨m.toNat, by omega⟩
  have HM : Hid (B = x.g.all fun l => fitW l M) := Lib.hid (by
    rw [← HB.out, mayW_eq (by omega) (by omega) (by rw [HG.out]; omega)])
  clear q1 q2 q3 HB
  go_wp2_with fail
  go_loopw [20] (fun i wr => ∃ j : Nat, j ≤ x.n ∧ i = .int .i64 j ∧ Hid ((x.g.take j).all (fun l => fitW l M) = true) ∧ wr = w) (fun i _ => x.n - (intOf i).toNat)
  case atStart => exact ⟨0, Nat.zero_le _, rfl, Lib.hid (by simp), rfl⟩
  case round =>
    obtain ⟨j, hj, rfl, hok, rfl⟩ := hrel
    by_cases hlt : j < x.n
    · obtain ⟨p, q, u, hA, hu, hg, hp, hcell, hk⟩ := h.get hlt
      have hjl : j < x.g.length := by rw [HG.out]; exact hlt
      have hmem : u.zs ∈ x.g := by rw [← hg]; exact getD_mem hjl
      have htk : x.g.take (j + 1) = x.g.take j ++ [u.zs] := by
        rw [List.take_succ_eq_append_getElem hjl, ← hg, List.getD_eq_getElem?_getD, List.getElem?_eq_getElem hjl]; rfl
      have HNO : Hid (fitW u.zs M = false → B = false) := Lib.hid fun hf => by
        rw [HM.out, Bool.eq_false_iff]
        intro h2
        rw [List.all_eq_true.1 h2 _ hmem] at hf
        cases hf
      have HYES : Hid (fitW u.zs M = true → (x.g.take (j + 1)).all (fun l => fitW l M) = true) := Lib.hid fun hf => by
        rw [htk, List.all_append, hok.out]; simp [hf]
      have HUL := Lib.hid hk.len
      have hlt' : (j : Int) < x.n := by omega
      have hj0 : (0 : Int) ≤ j := by omega
      have hct := wallmay_any u wr hk
      clear htk hmem hg hu hok hk
      obtain ⟨uA, un, uc, ul⟩ := u
      simp only at hct HUL HNO HYES
      replace hcell : wr.cell? ⟨p, q + j, none⟩ = some (.slice uA un uc) := hcell
      rw [hA]
      by_cases hun : un = M
      · subst hun
        have gn : (((un : Int)) != (un : Int)) = false := by simp
        have gn2 : (un != un) = false := by simp
        obtain ⟨β, hβ⟩ : ∃ β, fitA ul = β := ⟨_, rfl⟩
        rw [hβ] at hct
        have HE : Hid (fitW ul un = β) := Lib.hid (by rw [fitW, HUL.out, hβ]; simp)
        clear hβ
        go_wp2_with fail
        refine hct.mono ?_
        rintro e w2 ⟨rfl, rfl⟩
        clear hct
        cases β
        · have HF : Hid (B = false) := Lib.hid (HNO.out HE.out)
          go_wp2
          go_ret
          exact ⟨ret_bool HF.out.symm, rfl⟩
        · have HN : Hid ((x.g.take (j + 1)).all (fun l => fitW l un) = true) := Lib.hid (HYES.out HE.out)
          go_wp2
          go_roundw
          case rel => exact ⟨j + 1, by omega, by go_num, HN, trivial⟩
          case measure => simp [intOf]; omega
      · have gn : (((un : Int)) != (M : Int)) = true := by rw [bne_iff_ne]; omega
        have gn2 : (un != M) = true := by rw [bne_iff_ne]; exact hun
        have HF : Hid (B = false) := Lib.hid (HNO.out (by
          rw [fitW, HUL.out, decide_eq_false (by omega)]; rfl))
        clear hun hct
        go_wp2
        go_ret
        exact ⟨ret_bool HF.out.symm, rfl⟩
    · obtain rfl : j = x.n := by omega
      have HT : Hid (B = true) := Lib.hid (by
        have h5 := hok.out
        rw [List.take_of_length_le (by rw [HG.out]; exact Nat.le_refl _)] at h5
        rw [HM.out]; exact h5)
      clear hok
      go_wp2
      go_ret
      exact ⟨ret_bool HT.out.symm, rfl⟩

set_option maxRecDepth 100000 in
set_option maxHeartbeats 1000000 in
theorem wevery_any (A : Option Addr) (n c : Nat) (w : World) (hn : n ≤ 8) :
    Calls Tryd.prog 19 #[.slice A n c] w fun e w' => e = .returned (.int .i64 ((2 ^ n - 1 : Nat) : Int)) ∧ w' = w := by
  have h9 : n = 0 ∨ n = 1 ∨ n = 2 ∨ n = 3 ∨ n = 4 ∨ n = 5 ∨ n = 6 ∨ n = 7 ∨ n = 8 := by omega
  go_enter Tryd.func19, Tryd.ntmps19
  rcases h9 with rfl | rfl | rfl | rfl | rfl | rfl | rfl | rfl | rfl
  all_goals
    clear hn
    go_wp2
    go_ret
    exact ⟨rfl, rfl⟩
end Go.Proofs.YtiaoplghaigclaaDoor

namespace Go.Proofs.YtiaoplghaigclaaDoor
open Go.RowKit
set_option linter.unusedVariables false

theorem top_fold (f : Nat → Int) : ∀ m, ((List.range m).map f).foldl max 0 = topN f m
  | 0 => rfl
  | m + 1 => by rw [List.range_succ, List.map_append, List.foldl_append, top_fold f m]; rfl
theorem OwnI.snocW {w : World} {B n c : Nat} {A : Option Addr} {zs : List Int} {z : Int} (h : Own w B 3 A n c (ci64 zs ++ [.int .i64 z])) (hf : ∀ y ∈ zs, -9223372036854775808 ≤ y ∧ y ≤ 9223372036854775807) (hz : -9223372036854775808 ≤ z ∧ z ≤ 9223372036854775807) : OwnI w B ⟨A, n, c, zs ++ [z]⟩ := by
  refine ⟨?_, fun y hy => ?_⟩
  · show Own w B _ A n c (ci64 (zs ++ [z]))
    rw [ci64_app]; exact h
  · rcases List.mem_append.1 hy with hy | hy
    · exact hf y hy
    · rw [List.mem_singleton.1 hy]; exact hz
theorem map_range_getW {f : Nat → Int} {N s : Nat} (hs : s < N) : ((List.range N).map f)[s]? = some (f s) := by
  rw [List.getElem?_map, List.getElem?_range hs]; rfl
set_option maxRecDepth 100000 in
set_option maxHeartbeats 1000000 in
theorem wabove_any (u v : Ls) (M : Nat) (G N : Nat → Int) (w : World) (hu : u.Ok w) (hv : v.Ok w) (hM : M ≤ 8) (hzu : u.zs = (List.range M).map G) (hzv : v.zs = (List.range M).map N)
    (hG : ∀ k, k < M → -1000000 ≤ G k ∧ G k ≤ 1000000) (hN : ∀ k, k < M → -1000000 ≤ N k ∧ N k ≤ 10000000) :
    Calls Tryd.prog 23 #[.slice u.A u.n u.c, .slice v.A v.n v.c] w fun e w' => e = .returned (.int .i64 (topN (fun k => G k - N k) M)) ∧ Below w.heap.size w w' := by
  obtain ⟨i0, hi0, hz0, hz1, hz2⟩ := info_parts infoW_int
  have hun : u.n = M := by have := hu.len; rw [hzu] at this; simpa using this.symm
  have hvn : v.n = M := by have := hv.len; rw [hzv] at this; simpa using this.symm
  have urd := hu.rd
  have vrd := hv.rd
  rw [hzu] at urd
  rw [hzv] at vrd
  have HG := Lib.hid hG
  have HN := Lib.hid hN
  clear hu hv hzu hzv hG hN
  obtain ⟨uA, un, uc, uz⟩ := u
  obtain ⟨vA, vn, vc, vz⟩ := v
  simp only at urd vrd hun hvn ⊢
  subst hun
  subst hvn
  go_enter Tryd.func23, Tryd.ntmps23
  go_wp2_with (at_make; go_must (refine wpList_mk0 _ rfl _ _ 30 rfl w.heap.size 3 i0 _ Tryd.underlying30 hi0 hz0 hz1 .i64 .i64 _ 8 rfl rfl rfl ?c2 ?c3 ?c4 ?_))
  case c2 => rw [hz2]; omega
  case c3 => simp only [maxLen]; omega
  case c4 => exact Nat.le_refl _
  intro w1 ho1 hb1
  have hO1 : OwnI w1 w.heap.size ⟨some ⟨w.heap.size, 0, none⟩, 0, 8, (List.range 0).map fun k => G k - N k⟩ := ⟨ho1, fun z hz => by simp at hz⟩
  clear ho1
  go_wp2_with fail
  go_loopw [5, 11] (fun o v wr => ∃ (j c : Nat) (A : Option Addr), j ≤ vn ∧ v = .int .i64 j ∧ o = .slice A j c ∧ OwnI wr w.heap.size ⟨A, j, c, (List.range j).map fun k => G k - N k⟩ ∧ Below w.heap.size w wr) (fun _ v _ => vn - (intOf v).toNat)
  case atStart => exact ⟨0, 8, some ⟨w.heap.size, 0, none⟩, Nat.zero_le _, rfl, rfl, hO1, hb1⟩
  case round =>
    clear hO1 hb1
    obtain ⟨j, c, A, hj, rfl, rfl, hO, hB⟩ := hrel
    by_cases hlt : j < vn
    · have hlt' : (j : Int) < vn := by omega
      have hj0 : (0 : Int) ≤ j := by omega
      obtain ⟨p1, q1, hA1, hp1, u0, hu0, hcu⟩ := urd.get hlt
      rw [show ci64 ((List.range vn).map G) = ((List.range vn).map G).map iV from rfl, List.getElem?_map, map_range_getW hlt] at hu0
      obtain rfl : iV (G j) = u0 := Option.some.inj hu0
      unfold iV at hcu
      obtain ⟨p2, q2, hA2, hp2, t0, ht0, hct⟩ := vrd.get hlt
      rw [show ci64 ((List.range vn).map N) = ((List.range vn).map N).map iV from rfl, List.getElem?_map, map_range_getW hlt] at ht0
      obtain rfl : iV (N j) = t0 := Option.some.inj ht0
      unfold iV at hct
      have hgb := HG.out j hlt
      have hnb := HN.out j hlt
      replace hcu := (hB.cell (p := ⟨p1, q1 + j, none⟩) hp1).trans hcu
      replace hct := (hB.cell (p := ⟨p2, q2 + j, none⟩) hp2).trans hct
      obtain ⟨gj, hgj⟩ : ∃ q, G j = q := ⟨_, rfl⟩
      obtain ⟨nj, hnj⟩ : ∃ q, N j = q := ⟨_, rfl⟩
      rw [hgj] at hcu hgb
      rw [hnj] at hct hnb
      have HGJ := Lib.hid hgj
      have HNJ := Lib.hid hnj
      have s1 : IntKind.i64.wrap (gj - nj) = gj - nj := by rw [IntKind.wrap_i64]; omega
      subst hA1
      subst hA2
      have hsz := hB.size
      clear hu0 ht0 hgj hnj
      go_wp2_with (at_builtin; go_must (refine wpList_app1 wr rfl _ _ 30 rfl 3 i0 _ 8 Tryd.underlying30 hi0 hz0 hz1 hz2 rfl w.heap.size A j c _ rfl hO.own 1 rfl rfl ?g1 ?g2 ?g3 ?_))
      case g1 => simp only [maxLen]; omega
      case g2 => omega
      try case g3 => exact hsz
      intro A7 c7 w7 hown7 hbel7 _ _
      have hO7 : OwnI w7 w.heap.size ⟨A7, j + 1, c7, (List.range (j + 1)).map fun k => G k - N k⟩ := by
        rw [List.range_succ, List.map_append]
        refine OwnI.snocW (zs := (List.range j).map fun k => G k - N k) (z := G j - N j) ?_ hO.fit (by rw [HGJ.out, HNJ.out]; omega)
        rw [HGJ.out, HNJ.out]; exact hown7
      have hB7 : Below w.heap.size w w7 := hB.trans hbel7
      clear hown7 hbel7 hO hB hcu hct
      go_wp2
      go_roundw
      case rel => exact ⟨j + 1, c7, A7, by omega, by go_num, rfl, hO7, hB7⟩
      case measure => simp [intOf]; omega
    · obtain rfl : j = vn := by omega
      have hct := wgreatest_any 0 _ wr hO.ok
      simp only at hct
      rw [top_fold] at hct
      clear hO
      go_wp2_with fail
      refine hct.mono ?_
      rintro e w2 ⟨rfl, rfl⟩
      clear hct
      go_wp2
      go_ret
      exact ⟨rfl, hB⟩

/-- What can be had if there is one more of an item: asked one by one. -/
def moreF (F g : Nat → Int) (s : Nat) : Nat → Int
  | 0 => F s
  | k + 1 => if s.testBit k = true then max (moreF F g s k) (F (s ^^^ 2 ^ k) + g k) else moreF F g s k
theorem moreF_have {G : Nat → Nat → Int} {m c s : Nat} : ∀ k, moreF (haveN G m c) (G c) s k = foldK G m c s k
  | 0 => rfl
  | k + 1 => by
    rw [moreF, moreF_have k]
    by_cases h : s.testBit k = true
    · rw [if_pos h, foldK_in h (have_less h)]
    · rw [if_neg h, foldK_no fun hc => h hc.1]
theorem moreF_congr {F F' g g' : Nat → Int} {s : Nat} (hF : ∀ s, F s = F' s) : ∀ {k}, (∀ i, i < k → g i = g' i) → moreF F g s k = moreF F' g' s k
  | 0, _ => hF s
  | k + 1, h => by rw [moreF, moreF, moreF_congr hF fun i hi => h i (by omega), h k (by omega), hF]
theorem wrap_pow (k : Nat) (hk : k < 8) : wrap64 (2 ^ k) = ((2 ^ k : Nat) : Int) := by
  have h1 : (2 : Int) ^ k = ((2 ^ k : Nat) : Int) := by simp
  have h2 : 2 ^ k < 2 ^ 8 := Nat.pow_lt_pow_right (by omega) hk
  rw [h1]
  generalize 2 ^ k = P at *
  unfold wrap64
  omega
theorem and_not (s k : Nat) (hs : s < 256) (hk : k < 8) : bits .andNot .i64 (s : Int) ((2 ^ k : Nat) : Int) = ((if s.testBit k = true then s ^^^ 2 ^ k else s : Nat) : Int) := by
  have hp : 2 ^ k < 2 ^ 8 := Nat.pow_lt_pow_right (by omega) hk
  have h1 : (BitVec.ofInt 64 (s : Int)).toNat = s := by
    rw [BitVec.ofInt_natCast, BitVec.toNat_ofNat]; exact Nat.mod_eq_of_lt (by omega)
  have h2 : (BitVec.ofInt 64 ((2 ^ k : Nat) : Int)).toNat = 2 ^ k := by
    rw [BitVec.ofInt_natCast, BitVec.toNat_ofNat]; exact Nat.mod_eq_of_lt (by omega)
  have h3 : (BitVec.ofInt 64 (s : Int) &&& ~~~ BitVec.ofInt 64 ((2 ^ k : Nat) : Int)).toNat = if s.testBit k = true then s ^^^ 2 ^ k else s := by
    apply Nat.eq_of_testBit_eq
    intro i
    rw [BitVec.toNat_and, BitVec.toNat_not, h1, h2, Nat.testBit_and, Nat.sub_sub, Nat.add_comm 1, Nat.testBit_two_pow_sub_succ (Nat.lt_of_lt_of_le hp (by decide)), Nat.testBit_two_pow]
    have hsi : ∀ i, 64 ≤ i → s.testBit i = false := fun i hi => Nat.testBit_lt_two_pow (Nat.lt_of_lt_of_le (show s < 2 ^ 8 by omega) (Nat.pow_le_pow_right (by omega) (by omega)))
    by_cases hb : s.testBit k = true
    · rw [if_pos hb, Nat.testBit_xor, Nat.testBit_two_pow]
      by_cases hki : k = i
      · subst hki; simp [hb]
      · by_cases h64 : i < 64
        · simp [hki, h64]
        · simp [hki, hsi i (by omega)]
    · rw [if_neg hb]
      by_cases hki : k = i
      · subst hki; simp [hb]
      · by_cases h64 : i < 64
        · simp [hki, h64]
        · simp [hki, hsi i (by omega)]
  have h4 : (if s.testBit k = true then s ^^^ 2 ^ k else s) < 256 := by
    split
    · exact Nat.xor_lt_two_pow (n := 8) hs hp
    · exact hs
  show IntKind.i64.wrap ((BitVec.ofInt 64 (s : Int) &&& ~~~ BitVec.ofInt 64 ((2 ^ k : Nat) : Int)).toNat : Int) = _
  rw [h3, IntKind.wrap_i64]
  omega
def TabAt (w : World) (b : Nat) (F : Nat → Int) : Prop := w.heap[b]? = some (.cells (ci64 ((List.range 256).map F)).toArray 54 (0, 0))
theorem TabAt.lt {w : World} {b : Nat} {F : Nat → Int} (h : TabAt w b F) : b < w.heap.size := (Array.getElem?_eq_some_iff.1 h).1
theorem TabAt.below {w w' : World} {b : Nat} {F : Nat → Int} (h : TabAt w b F) (hb : Below w.heap.size w w') : TabAt w' b F := (hb.block b h.lt).trans h
theorem TabAt.cell {w : World} {b s : Nat} {F : Nat → Int} (h : TabAt w b F) (hs : s < 256) : w.cell? ⟨b, s, none⟩ = some (.int .i64 (F s)) := by
  rw [cell_of_row _ _ _ _ _ _ h, List.getElem?_toArray]
  rw [show ci64 ((List.range 256).map F) = ((List.range 256).map F).map iV from rfl, List.getElem?_map, map_range_getW hs]; rfl
set_option maxRecDepth 100000 in
set_option maxHeartbeats 1000000 in
theorem wone_any (x : Gr) (b : Nat) (F : Nat → Int) (k s M : Nat) (w : World) (ht : TabAt w b F) (hx : x.Ok w) (hn8 : x.n ≤ 8) (hs : s < 256) (hk : k < M) (hrow : ∀ l ∈ x.g, l.length = M ∧ ∀ z ∈ l, -1000000 ≤ z ∧ z ≤ 1000000) (hF : ∀ s, 0 ≤ F s ∧ F s ≤ 10000000) :
    Calls Tryd.prog 22 #[.pointer (some ⟨b, 0, none⟩), x.v, .int .i64 k, .int .i64 s] w fun e w' => e = .returned (.int .i64 (moreF F (fun i => gG x.g i k) s x.n)) ∧ Below w.heap.size w w' := by
  obtain ⟨i0, hi0, hz0, hz1, hz2⟩ := info_parts infoW_int
  have HGL := Lib.hid hx.glen
  have HROW := Lib.hid hrow
  have HF := Lib.hid hF
  clear hrow hF
  rw [show x.v = .slice x.A x.n x.c from rfl]
  go_enter Tryd.func22, Tryd.ntmps22
  go_wp2_with (at_make; go_must (refine wpList_mk0 _ rfl _ _ 30 rfl w.heap.size 3 i0 _ Tryd.underlying30 hi0 hz0 hz1 .i64 .i64 _ 8 rfl rfl rfl ?c2 ?c3 ?c4 ?_))
  case c2 => rw [hz2]; omega
  case c3 => simp only [maxLen]; omega
  case c4 => exact Nat.le_refl _
  intro w1 ho1 hb1
  have hO1 : OwnI w1 w.heap.size ⟨some ⟨w.heap.size, 0, none⟩, 0, 8, []⟩ := ⟨ho1, fun z hz => by simp at hz⟩
  clear ho1
  go_wp2_with fail
  go_loopw [9, 16] (fun o v wr => ∃ (i n c : Nat) (A : Option Addr) (zs : List Int), i ≤ x.n ∧ n ≤ i ∧ v = .int .i64 i ∧ o = .slice A n c ∧ OwnI wr w.heap.size ⟨A, n, c, zs⟩ ∧ Hid (zs.foldl max (F s) = moreF F (fun i => gG x.g i k) s i) ∧ Below w.heap.size w wr) (fun _ v _ => x.n - (intOf v).toNat)
  case atStart => exact ⟨0, 0, 8, some ⟨w.heap.size, 0, none⟩, [], Nat.zero_le _, Nat.zero_le _, rfl, rfl, hO1, Lib.hid rfl, hb1⟩
  case round =>
    clear hO1 hb1
    obtain ⟨i, n, c, A, zs, hi, hni, rfl, rfl, hO, hzs, hB⟩ := hrel
    by_cases hlt : i < x.n
    · have hlt' : (i : Int) < x.n := by omega
      have hi0' : (0 : Int) ≤ i := by omega
      obtain ⟨p2, q2, u, hAx, _, hgy, hp2, hcx0, hku⟩ := hx.get hlt
      have hcx := (hB.cell (p := ⟨p2, q2 + i, none⟩) hp2).trans hcx0
      have hku2 := hku.below hB
      have hiN : i < 8 := by omega
      have hlh := wrap_pow i hiN
      have hband := and_not s i hs hiN
      rw [← hlh] at hband
      have hmo : moreF F (fun i => gG x.g i k) s (i + 1) = if s.testBit i = true then max (moreF F (fun i => gG x.g i k) s i) (F (s ^^^ 2 ^ i) + gG x.g i k) else moreF F (fun i => gG x.g i k) s i := rfl
      have hxo : s ^^^ 2 ^ i < 256 := Nat.xor_lt_two_pow (n := 8) hs (Nat.pow_lt_pow_right (by omega) hiN)
      have hxn : s.testBit i = true → s ^^^ 2 ^ i ≠ s := fun h e => by
        have h1 := congrArg (fun q => Nat.testBit q i) e
        simp only [Nat.testBit_xor, Nat.testBit_two_pow, h] at h1
        simp at h1
      have hgi : x.g[i]? = some u.zs := by
        rw [← hgy, List.getD_eq_getElem?_getD, List.getElem?_eq_getElem (by rw [HGL.out]; exact hlt)]; rfl
      have hrw := HROW.out u.zs (List.mem_of_getElem? hgi)
      have hun : u.n = M := by have := hku.len; rw [← this]; exact hrw.1
      have hkl : k < u.zs.length := by rw [hrw.1]; exact hk
      have hGz : gG x.g i k = u.zs[k] := by rw [gG, hgy, List.getD_eq_getElem?_getD, List.getElem?_eq_getElem hkl]; rfl
      have hzb := hrw.2 _ (List.getElem_mem hkl)
      obtain ⟨uA, un, uc, ul⟩ := u
      simp only at hun hGz hzb hkl
      subst hun
      have hurd := hku.rd
      simp only at hurd
      obtain ⟨p4, q4, hA4, hp4, t0, ht0, hct0⟩ := hurd.get hk
      rw [ci64_get _ _ hkl] at ht0
      obtain rfl : iV ul[k] = t0 := Option.some.inj ht0
      unfold iV at hct0
      obtain ⟨z, hz⟩ : ∃ z, ul[k] = z := ⟨_, rfl⟩
      rw [hz] at hGz hzb hct0
      rw [hGz] at hmo
      subst hA4
      replace hcx0 : w.cell? ⟨p2, q2 + i, none⟩ = some (.slice (some ⟨p4, q4, none⟩) un uc) := hcx0
      replace hcx : wr.cell? ⟨p2, q2 + i, none⟩ = some (.slice (some ⟨p4, q4, none⟩) un uc) := hcx
      have hkn' : (k : Int) < un := by omega
      have hk0 : (0 : Int) ≤ k := by omega
      have hFo := HF.out (s ^^^ 2 ^ i)
      have hFs := HF.out s
      obtain ⟨δ, hδ⟩ : ∃ δ, s.testBit i = δ := ⟨_, rfl⟩
      rw [hδ] at hband hmo hxn
      clear hlh hgi hrw hGz hz hkl hgy ht0 hδ hku hku2
      rw [hAx]
      cases δ
      · simp only [Bool.false_eq_true, if_false] at hband hmo
        have HN : Hid (zs.foldl max (F s) = moreF F (fun i => gG x.g i k) s (i + 1)) := Lib.hid (by rw [hmo, hzs.out])
        have gne : ((s : Int) != (s : Int)) = false := by simp
        clear hmo hzs hxn hFo hxo
        go_wp2
        go_roundw
        case rel => exact ⟨i + 1, n, c, A, zs, by omega, by omega, by go_num, rfl, hO, HN, hB⟩
        case measure => simp [intOf]; omega
      · simp only [if_true] at hband hmo
        have hne := hxn rfl
        obtain ⟨o, ho⟩ : ∃ o, s ^^^ 2 ^ i = o := ⟨_, rfl⟩
        rw [ho] at hband hmo hxo hne hFo
        have gne : ((o : Int) != (s : Int)) = true := by rw [bne_iff_ne]; omega
        obtain ⟨f, hf⟩ : ∃ f, F o = f := ⟨_, rfl⟩
        have hco := ht.cell hxo
        rw [hf] at hFo hmo hco
        have s1 : IntKind.i64.wrap (f + z) = f + z := by rw [IntKind.wrap_i64]; omega
        have hbl := ht.lt
        have hS : ∀ w', Below w.heap.size w w' → w'.cell? ⟨b, o, none⟩ = some (.int .i64 f) ∧ w'.cell? ⟨p4, q4 + k, none⟩ = some (.int .i64 z) := fun w' hb => ⟨(hb.cell (p := ⟨b, o, none⟩) hbl).trans hco, (hb.cell (p := ⟨p4, q4 + k, none⟩) hp4).trans hct0⟩
        have HN : Hid ((zs ++ [f + z]).foldl max (F s) = moreF F (fun i => gG x.g i k) s (i + 1)) := Lib.hid (by rw [hmo, List.foldl_append, hzs.out]; rfl)
        have ho0 : (0 : Int) ≤ o := by omega
        have ho256 : (o : Int) < 256 := by omega
        have gnil : Tryd.prog.cellsOf 3 = 1 := by kernel_rfl
        clear hmo hzs hxn hne ho hf hco hct0
        go_wp2_with fail
        refine wp_region_ord (S := fun w' => w'.cell? ⟨b, o, none⟩ = some (.int .i64 f) ∧ w'.cell? ⟨p4, q4 + k, none⟩ = some (.int .i64 z)) [(0, true), (1, true), (2, true), (3, true), (4, true), (5, true), (6, true), (7, true), (8, true), (9, true), (10, true), (11, false), (12, false), (13, true)] default (by kernel_rfl) (by kernel_rfl) (by kernel_rfl) (hS _ hB.drew) ?_
        simp only [getOrd, nth]
        obtain ⟨wd, hwd⟩ : ∃ wd, wd = wr.drew := ⟨_, rfl⟩
        have b0 : Below w.heap.size w wd := by rw [hwd]; exact hB.drew
        replace hO : OwnI wd w.heap.size ⟨A, n, c, zs⟩ := by rw [hwd]; exact ⟨hO.own.drew, hO.fit⟩
        rw [← hwd]
        clear hwd
        repeat (first | (refine ordS (by rfl) ?_; simp only [Act.put, List.setIfInBounds_toArray, List.set_cons_zero, List.set_cons_succ]) | (refine ordN (by rfl) ?_; simp only [Act.put, List.setIfInBounds_toArray, List.set_cons_zero, List.set_cons_succ]) | (refine ordQ (v := ?_) (by rfl) (fun _ hSw => ?_) ?_; rotate_left; (focus ((have hS1 := hSw.1); (have hS2 := hSw.2); clear hSw; go_simp; (first | done | with_reducible rfl))); simp only [Act.put, List.setIfInBounds_toArray, List.set_cons_zero, List.set_cons_succ]))
        refine ordD (by rfl) ?_
        intro K hK
        go_simp
        have hbb : Below wd.heap.size wd (wd.alloc (.cells #[.int .i64 (f + z)] 3)) := (Below.refl _ wd).alloc (Nat.le_refl _) _
        have b1 : Below w.heap.size w (wd.alloc (.cells #[.int .i64 (f + z)] 3)) := b0.trans (hbb.mono b0.size)
        refine hK _ _ (hS _ b1) ?_
        clear hK K
        try simp only [Act.put, List.setIfInBounds_toArray, List.set_cons_zero, List.set_cons_succ]
        refine ordD (by rfl) ?_
        intro K hK
        have hlr : Rd (wd.alloc (.cells #[.int .i64 (f + z)] 3)) (some ⟨wd.heap.size, 0, none⟩) 1 [.int .i64 (f + z)] := (Own.lit (B := 0) wd 3 #[.int .i64 (f + z)] 1 (Nat.zero_le _) rfl (by unfold maxLen; omega)).rd
        have hsz1 := b1.size
        refine wp_app (wd.alloc (.cells #[.int .i64 (f + z)] 3)) _ _ 30 rfl 3 i0 _ 8 Tryd.underlying30 hi0 hz0 hz1 hz2 rfl w.heap.size A n c (ci64 zs) rfl (hO.own.below hbb) _ 1 1 [.int .i64 (f + z)] rfl hlr ?a11 ?a12 ?a13 ?a14 ?_
        case a11 => intro u hu; rw [List.mem_singleton.1 hu]; rfl
        case a12 => simp only [maxLen]; omega
        case a13 => omega
        try case a14 => omega
        intro A9 c9 w9 hown9 hbel9 _ _
        have hO9 : OwnI w9 w.heap.size ⟨A9, n + 1, c9, zs ++ [f + z]⟩ := OwnI.snocW hown9 hO.fit (by omega)
        have b2 : Below w.heap.size w w9 := b1.trans hbel9
        go_simp
        refine hK _ _ (hS _ b2) ?_
        clear hK K hbb hlr hown9 hbel9 b1 hsz1
        try simp only [Act.put, List.setIfInBounds_toArray, List.set_cons_zero, List.set_cons_succ]
        repeat (first | (refine ordS (by rfl) ?_; simp only [Act.put, List.setIfInBounds_toArray, List.set_cons_zero, List.set_cons_succ]) | (refine ordN (by rfl) ?_; simp only [Act.put, List.setIfInBounds_toArray, List.set_cons_zero, List.set_cons_succ]) | (refine ordQ (v := ?_) (by rfl) (fun _ hSw => ?_) ?_; rotate_left; (focus ((have hS1 := hSw.1); (have hS2 := hSw.2); clear hSw; go_simp; (first | done | with_reducible rfl))); simp only [Act.put, List.setIfInBounds_toArray, List.set_cons_zero, List.set_cons_succ]))
        refine ordE ?_
        clear hS hO b0
        go_wp2
        go_roundw
        case rel => exact ⟨i + 1, n + 1, c9, A9, zs ++ [f + z], by omega, by omega, by go_num, rfl, hO9, HN, b2⟩
        case measure => simp [intOf]; omega
    · obtain rfl : i = x.n := by omega
      have hct := wgreatest_any (F s) _ wr hO.ok
      simp only at hct
      rw [hzs.out] at hct
      have hcs := (ht.below hB).cell hs
      obtain ⟨f, hf⟩ : ∃ f, F s = f := ⟨_, rfl⟩
      rw [hf] at hcs hct
      have hs0 : (0 : Int) ≤ s := by omega
      have hs256 : (s : Int) < 256 := by omega
      clear hO hzs hf
      go_wp2_with fail
      refine hct.mono ?_
      rintro e w2 ⟨rfl, rfl⟩
      clear hct
      go_wp2
      go_ret
      exact ⟨rfl, hB⟩
end Go.Proofs.YtiaoplghaigclaaDoor

namespace Go.Proofs.YtiaoplghaigclaaDoor
open Go.RowKit
set_option linter.unusedVariables false

/-- A table by value. -/
def tabC (F : Nat → Int) : Array Value := (ci64 ((List.range 256).map F)).toArray
def tabV (F : Nat → Int) : Value := .agg (tabC F)
theorem tabC_size (F : Nat → Int) : (tabC F).size = 256 := by simp [tabC, ci64]
theorem tabC_one (F : Nat → Int) : (tabC F).all (·.oneCell') = true := by
  rw [Array.all_eq_true_iff_forall_mem]
  intro v hv
  rw [tabC, List.mem_toArray] at hv
  obtain ⟨z, _, rfl⟩ := List.mem_map.1 hv
  rfl
theorem tab_zero : (Tryd.prog.info? 54).bind (·.zero) = some (tabV fun _ => 0) := by kernel_rfl
theorem tab_size : (Tryd.prog.info? 54).map (·.size) = some 256 := by kernel_rfl
theorem tab_under : Tryd.prog.underlying 54 = some (.array 256 3) := by kernel_rfl
theorem TabAt.row {w : World} {b : Nat} {F : Nat → Int} (h : TabAt w b F) : w.heap[b]? = some (.cells (tabC F) 54 (0, 0)) := h
theorem TabAt.keep {w w' : World} {b : Nat} {F : Nat → Int} (h : TabAt w b F) (hk : w'.heap[b]? = w.heap[b]?) : TabAt w' b F := hk.trans h
theorem TabAt.drew {w : World} {b : Nat} {F : Nat → Int} (h : TabAt w b F) : TabAt w.drew b F := h
theorem TabAt.free {w : World} {b s : Nat} {F : Nat → Int} (h : TabAt w b F) : w.frozen? ⟨b, s, none⟩ = false := frozen_of_row _ _ _ _ _ h
theorem TabAt.set {w : World} {b s : Nat} {z : Int} {F F' : Nat → Int} (h : TabAt w b F) (hF : ∀ t, t < 256 → F' t = if t = s then z else F t) : TabAt (w.setCell ⟨b, s, none⟩ (.int .i64 z)) b F' := by
  have h1 := heap_setCell_same w b s _ _ (.int .i64 z) h
  unfold TabAt
  rw [h1]
  congr 2
  rw [List.setIfInBounds_toArray]
  congr 1
  refine List.ext_getElem? fun i => ?_
  rw [List.getElem?_set]
  rw [show ci64 ((List.range 256).map F) = ((List.range 256).map F).map iV from rfl, show ci64 ((List.range 256).map F') = ((List.range 256).map F').map iV from rfl, List.getElem?_map, List.getElem?_map, List.length_map, List.length_map, List.length_range, List.getElem?_map, List.getElem?_map]
  by_cases hi : i < 256
  · rw [List.getElem?_range hi, Option.map_some, Option.map_some, Option.map_some, hF i hi]
    by_cases e : s = i
    · rw [if_pos e, if_pos (by omega), if_pos e.symm]; rfl
    · rw [if_neg e, if_neg (fun h => e h.symm)]; rfl
  · rw [List.getElem?_eq_none (l := List.range 256) (by simp; omega)]
    by_cases e : s = i
    · rw [if_pos e, if_neg (by omega)]; rfl
    · rw [if_neg e]; rfl
theorem TabAt.other {w : World} {b g s : Nat} {v : Value} {F : Nat → Int} (h : TabAt w b F) (hne : b ≠ g) : TabAt (w.setCell ⟨g, s, none⟩ v) b F := h.keep (heap_setCell_other w _ _ _ hne)

theorem run_allocAny {P : Program} (T : TypeId) (i : TypeInfo) (z : Value) (w : World) (hq : P.info? T = some i) (hz : i.zero = some z) : (Instr.alloc T true (.tuple #[])).run P w = .ok (.pointer (some ⟨w.heap.size, 0, none⟩)) (w.alloc (.cells z.cells T)) := by
  simp [Instr.alloc, zeroValue, typeInfo, hq, hz, newVar, newRow]
theorem TabAt.new (w : World) : TabAt (w.alloc (.cells (tabC fun _ => 0) 54)) w.heap.size fun _ => 0 := heap_alloc_new w _
theorem tab_info : ∃ i, Tryd.prog.info? 54 = some i ∧ i.zero = some (tabV fun _ => 0) ∧ i.size = 256 := by
  have hz := tab_zero
  have hs := tab_size
  cases hq : Tryd.prog.info? 54 with
  | none => rw [hq] at hz; cases hz
  | some i =>
    rw [hq] at hz hs
    exact ⟨i, rfl, hz, Option.some.inj hs⟩
/-- A new table. -/
theorem wpList_newTab {w : World} {ops : Array Oper} {rest : List Oper} {o : Oper} {a : Act} {Q : Exit → Act → World → Prop} (hg : o.guard = none) (hop : o.op = Op.alloc 54)
    (h : ∀ w', TabAt w' w.heap.size (fun _ => 0) → Below w.heap.size w w' → wpList Tryd.prog ops Q rest (a.put o.dst (.pointer (some ⟨w.heap.size, 0, none⟩))) w') : wpList Tryd.prog ops Q (o :: rest) a w := by
  refine wpList_plain hg fun K hK => ?_
  obtain ⟨i, hq, hz, _⟩ := tab_info
  have hr := run_allocAny (P := Tryd.prog) 54 i _ w hq hz
  have hc : (tabV fun _ => 0).cells = tabC fun _ => 0 := rfl
  rw [hc] at hr
  have h2 := hK _ _ (h (w.alloc (.cells (tabC fun _ => 0) 54)) (TabAt.new w) ((Below.refl _ w).alloc (Nat.le_refl _) _))
  unfold Oper.wp execOp
  simp only [hop, Sem.run_bind, Sem.run_pure, Result.andThen_ok, hr]
  exact h2
/-- A table is loaded whole. -/
theorem wpList_loadTab {w : World} {ops : Array Oper} {rest : List Oper} {o : Oper} {a : Act} {Q : Exit → Act → World → Prop} (hg : o.guard = none) (x : Operand) (hop : o.op = Op.load 54 x)
    (g : Nat) (hx : a.eval x = .pointer (some ⟨g, 0, none⟩)) (F : Nat → Int) (ht : TabAt w g F) (h : wpList Tryd.prog ops Q rest (a.put o.dst (tabV F)) w) : wpList Tryd.prog ops Q (o :: rest) a w := by
  obtain ⟨i, hq, _, hs⟩ := tab_info
  exact wpList_load_row hg _ x hop g hx _ (tabC F) _ _ ht tab_under rfl (by rw [hq, tabC_size, ← hs]; rfl) h
/-- A table is stored whole. -/
theorem wpList_storeTab {w : World} {ops : Array Oper} {rest : List Oper} {o : Oper} {a : Act} {Q : Exit → Act → World → Prop} (hg : o.guard = none) (x y : Operand) (hop : o.op = Op.store 54 x y)
    (g : Nat) (hx : a.eval x = .pointer (some ⟨g, 0, none⟩)) (F F' : Nat → Int) (hy : a.eval y = tabV F') (ht : TabAt w g F)
    (h : ∀ w', TabAt w' g F' → (∀ k, k ≠ g → w'.heap[k]? = w.heap[k]?) → w'.heap.size = w.heap.size → (∀ B, B ≤ g → Below B w w') → wpList Tryd.prog ops Q rest (a.put o.dst undef) w') : wpList Tryd.prog ops Q (o :: rest) a w := by
  obtain ⟨i, hq, _, hs⟩ := tab_info
  refine wpList_store_row hg _ x y hop g (tabC F') hx hy _ (tabC F) ht (by rw [hq, tabC_size, ← hs]; rfl) (by rw [tabC_size, tabC_size]) (tabC_one F') (h _ (setRow_heap w g _ _ _ _ ht) (fun k hk => setRow_other w g k _ hk) (by simp) fun B hB => below_setRow (Below.refl B w) hB _)

/-! What can be had of the first items. -/
theorem moreF_eq {F F' g g' : Nat → Int} {s : Nat} (h0 : F s = F' s) : ∀ {k}, (∀ i, i < k → s.testBit i = true → F (s ^^^ 2 ^ i) = F' (s ^^^ 2 ^ i) ∧ g i = g' i) → moreF F g s k = moreF F' g' s k
  | 0, _ => h0
  | k + 1, h => by
    rw [moreF, moreF, moreF_eq h0 fun i hi => h i (by omega)]
    by_cases hb : s.testBit k = true
    · rw [if_pos hb, if_pos hb, (h k (by omega) hb).1, (h k (by omega) hb).2]
    · rw [if_neg hb, if_neg hb]
def hadT (G : Nat → Nat → Int) (n c s : Nat) : Int := if s < 2 ^ n then haveN (turnG G) n c s else 0
def mixT (G : Nat → Nat → Int) (n c s t : Nat) : Int := if t < s then hadT G n (c + 1) t else 0
theorem mixT_zero (G : Nat → Nat → Int) (n c : Nat) : mixT G n c 0 = fun _ => 0 := by
  funext t; rw [mixT, if_neg (by omega)]
theorem mixT_all (G : Nat → Nat → Int) (n c : Nat) : mixT G n c (2 ^ n) = hadT G n (c + 1) := by
  funext t
  unfold mixT
  by_cases h : t < 2 ^ n
  · rw [if_pos h]
  · rw [if_neg h, hadT, if_neg h]
theorem mixT_succ (G : Nat → Nat → Int) (n c s t : Nat) : mixT G n c (s + 1) t = if t = s then hadT G n (c + 1) s else mixT G n c s t := by
  unfold mixT
  by_cases h : t = s
  · rw [if_pos h, if_pos (by omega), h]
  · rw [if_neg h]
    by_cases h2 : t < s
    · rw [if_pos h2, if_pos (by omega)]
    · rw [if_neg h2, if_neg (by omega)]
theorem hadT_zero (G : Nat → Nat → Int) (n : Nat) : hadT G n 0 = fun _ => 0 := by
  funext t
  unfold hadT
  split <;> rfl
theorem hadT_step {G : Nat → Nat → Int} {n c s : Nat} (hs : s < 2 ^ n) : moreF (hadT G n c) (fun i => G i c) s n = hadT G n (c + 1) s := by
  rw [hadT, if_pos hs, ← foldK_all, ← moreF_have]
  refine moreF_eq (by rw [hadT, if_pos hs]) fun i hi _ => ⟨?_, rfl⟩
  rw [hadT, if_pos (xor_lt hs hi)]
theorem hadT_bound {g : List (List Int)} {m : Int} (h : mayW g m = true) (n c s : Nat) (hn : n ≤ 8) (hc : c ≤ 8) : 0 ≤ hadT (gG g) n c s ∧ hadT (gG g) n c s ≤ 8000000 := by
  unfold hadT
  split
  · refine ⟨bestN_nonneg, Int.le_trans (bestN_top (G := turnG (gG g)) (m := n) (n := c)) ?_⟩
    have := bestV_bound (G := turnG (gG g)) (K := 1000000) (by omega) (fun b c => (gG_bound h c b).2) n c
    omega
  · omega
theorem hadT_all (G : Nat → Nat → Int) (m n : Nat) : hadT G n m (2 ^ n - 1) = bestV G m n := by
  rw [hadT, if_pos (Nat.sub_lt (Nat.two_pow_pos n) (by omega)), have_all, turn_best]
theorem hadT_more {G : Nat → Nat → Int} {m n k : Nat} (hk : k < m) : moreF (hadT G n m) (fun i => G i k) (2 ^ n - 1) n = bestV G m n + numP G m n k := by
  have h0 : 2 ^ n - 1 < 2 ^ n := Nat.sub_lt (Nat.two_pow_pos n) (by omega)
  have h1 : ∀ s, s < 2 ^ n → hadT G n m s = haveN (turnG (oneG G m k)) n m s := fun s hs => by
    rw [hadT, if_pos hs, haveN, haveN]
    exact bestN_row fun b hb c _ => by
      show G c b = oneG G m k c b
      rw [oneG, if_neg (by omega)]
  have h2 : moreF (hadT G n m) (fun i => G i k) (2 ^ n - 1) n = moreF (haveN (turnG (oneG G m k)) n m) (turnG (oneG G m k) m) (2 ^ n - 1) n := by
    refine moreF_eq (h1 _ h0) fun i hi _ => ⟨h1 _ (xor_lt h0 hi), ?_⟩
    show G i k = oneG G m k i m
    rw [oneG, if_pos rfl]
  rw [h2, moreF_have, foldK_all, have_all, turn_best, numP]
  omega
end Go.Proofs.YtiaoplghaigclaaDoor

namespace Go.Proofs.YtiaoplghaigclaaDoor
open Go.RowKit
set_option linter.unusedVariables false

set_option maxRecDepth 100000 in
set_option maxHeartbeats 1000000 in
theorem wtable_any (x : Gr) (M : Nat) (w : World) (hx : x.Ok w) (hmay : mayW x.g M = true) :
    Calls Tryd.prog 18 #[x.v, .int .i64 M] w fun e w' => e = .returned (tabV (hadT (gG x.g) x.n M)) ∧ Below w.heap.size w w' := by
  obtain ⟨r1, r2, r3, r4⟩ := mayW_iff.1 hmay
  have hgl := hx.glen
  rw [hgl] at r3
  have hn8 : x.n ≤ 8 := r3
  have hM8 : M ≤ 8 := by omega
  have HROW := Lib.hid (show ∀ l ∈ x.g, l.length = M ∧ ∀ z ∈ l, -1000000 ≤ z ∧ z ≤ 1000000 from fun l hl => ⟨by have := (r4 l hl).1; omega, (r4 l hl).2⟩)
  have HB : Hid (∀ c s, c ≤ 8 → 0 ≤ hadT (gG x.g) x.n c s ∧ hadT (gG x.g) x.n c s ≤ 8000000) := Lib.hid fun c s hc => hadT_bound hmay x.n c s hn8 hc
  have HST : Hid (∀ c s, s < 2 ^ x.n → moreF (hadT (gG x.g) x.n c) (fun i => gG x.g i c) s x.n = hadT (gG x.g) x.n (c + 1) s) := Lib.hid fun c s hs => hadT_step hs
  obtain ⟨N, hN⟩ : ∃ N, 2 ^ x.n = N := ⟨_, rfl⟩
  have hN256 : N ≤ 256 := by rw [← hN]; exact Nat.pow_le_pow_right (n := 2) (by omega) hn8
  have hN1 : 1 ≤ N := by rw [← hN]; exact Nat.one_le_two_pow
  have hwN : IntKind.i64.wrap (((N - 1 : Nat) : Int) + 1) = N := by rw [IntKind.wrap_i64]; omega
  have HALL : Hid (∀ c, mixT (gG x.g) x.n c N = hadT (gG x.g) x.n (c + 1)) := Lib.hid fun c => by rw [← hN]; exact mixT_all _ _ c
  have hev := fun w1 => wevery_any x.A x.n x.c w1 hn8
  rw [hN] at HST hev
  clear r1 r2 r3 r4 hgl hmay hN
  rw [show x.v = .slice x.A x.n x.c from rfl]
  go_enter Tryd.func18, Tryd.ntmps18
  go_wp2_with (refine wpList_newTab rfl rfl ?_)
  intro w1 t41 hb1
  have t41l := t41.lt
  obtain ⟨b4, hb4⟩ : ∃ b4, b4 = w.heap.size := ⟨_, rfl⟩
  rw [← hb4] at t41 t41l ⊢
  have hwb4 : w.heap.size ≤ b4 := Nat.le_of_eq hb4.symm
  clear hb4
  go_wp2_with (refine wpList_newTab rfl rfl ?_)
  intro w2 t52 hb2
  have t52l := t52.lt
  have t42 := t41.below hb2
  have hbw2 := hb1.trans (hb2.mono hb1.size)
  obtain ⟨b5, hb5⟩ : ∃ b5, b5 = w1.heap.size := ⟨_, rfl⟩
  rw [← hb5] at t52 t52l hb2 t41l ⊢
  rw [← hadT_zero (gG x.g) x.n] at t52
  clear hb5 hb1 t41 hb2
  go_wp2_with fail
  go_loopw [10] (fun v wr => ∃ c : Nat, c ≤ M ∧ v = .int .i64 c ∧ TabAt wr b4 (fun _ => 0) ∧ TabAt wr b5 (hadT (gG x.g) x.n c) ∧ Below w.heap.size w wr) (fun v _ => M - (intOf v).toNat)
  case atStart => exact ⟨0, Nat.zero_le _, rfl, t42, t52, hbw2⟩
  case round =>
    clear t42 t52 hbw2
    obtain ⟨c, hc, rfl, t4, t5, hB⟩ := hrel
    by_cases hlt : c < M
    · have hlt' : (c : Int) < M := by omega
      obtain ⟨wo, rfl⟩ : ∃ wo, wo = wr := ⟨_, rfl⟩
      go_wp2_with (refine wpList_newTab rfl rfl ?_)
      intro w3 t7 hb3
      have t4' := t4.below hb3
      have t5' := t5.below hb3
      have hB3 := hB.trans (hb3.mono hB.size)
      have h57 : b5 < wo.heap.size := t5.lt
      obtain ⟨b7, hb7⟩ : ∃ b7, b7 = wo.heap.size := ⟨_, rfl⟩
      have hw7 : w.heap.size ≤ b7 := by rw [hb7]; exact hB.size
      rw [← hb7] at t7 h57 ⊢
      rw [← mixT_zero (gG x.g) x.n c] at t7
      have hct := hev w3
      clear hb7 hb3 t4 t5 hB
      go_wp2_with fail
      refine hct.mono ?_
      rintro e w4 ⟨rfl, rfl⟩
      clear hct
      go_wp2_with fail
      go_loopw [16] (fun v wr => ∃ s : Nat, s ≤ N ∧ v = .int .i64 s ∧ TabAt wr b4 (fun _ => 0) ∧ TabAt wr b5 (hadT (gG x.g) x.n c) ∧ TabAt wr b7 (mixT (gG x.g) x.n c s) ∧ Below w.heap.size w wr) (fun v _ => N - (intOf v).toNat)
      case atStart => exact ⟨0, Nat.zero_le _, rfl, t4', t5', t7, hB3⟩
      case round =>
        clear t4' t5' t7 hB3
        obtain ⟨s, hs, rfl, t4, t5, t7, hB⟩ := hrel
        by_cases hsN : s < N
        · have hsN' : (s : Int) < N := by omega
          have hs0 : (0 : Int) ≤ s := by omega
          have hs256 : (s : Int) < 256 := by omega
          have hs2 : s < 256 := by omega
          have hone := wone_any x b5 (hadT (gG x.g) x.n c) c s M wr t5 (hx.below hB) hn8 hs2 hlt HROW.out fun s => by
            have := HB.out c s (by omega); omega
          rw [HST.out c s hsN, show x.v = .slice x.A x.n x.c from rfl] at hone
          have hzb := HB.out (c + 1) s (by omega)
          have hmx : ∀ t, t < 256 → mixT (gG x.g) x.n c (s + 1) t = if t = s then hadT (gG x.g) x.n (c + 1) s else mixT (gG x.g) x.n c s t := fun t _ => mixT_succ _ _ _ _ _
          obtain ⟨z, hz⟩ : ∃ z, hadT (gG x.g) x.n (c + 1) s = z := ⟨_, rfl⟩
          rw [hz] at hone hmx
          have HMX := Lib.hid hmx
          clear hz hmx
          go_wp2_with fail
          refine hone.mono ?_
          rintro e w5 ⟨rfl, hb5⟩
          clear hone
          have t4' := t4.below hb5
          have t5' := t5.below hb5
          have t7' := t7.below hb5
          have hB5 := hB.trans (hb5.mono hB.size)
          have hcell := t7'.cell hs2
          have hfree := t7'.free (s := s)
          have u4 := t4'.other (g := b7) (s := s) (v := .int .i64 z) (by omega)
          have u5 := t5'.other (g := b7) (s := s) (v := .int .i64 z) (by omega)
          have u7 := t7'.set (z := z) HMX.out
          have hB6 := hB5.setCell (p := ⟨b7, s, none⟩) hw7 (.int .i64 z)
          clear t4 t5 t7 t4' t5' t7' hB hB5 hb5
          go_wp2
          go_roundw
          case rel => exact ⟨s + 1, by omega, by go_num, u4, u5, u7, hB6⟩
          case measure => simp [intOf]; omega
        · obtain rfl : s = N := by omega
          rw [HALL.out] at t7
          go_wp2_with (first | (refine wpList_loadTab rfl _ rfl b7 rfl _ t7 ?_) | (refine wpList_storeTab rfl _ _ rfl b5 rfl _ _ rfl t5 ?_))
          intro w6 u5 hk6 hs6 hb6
          have u4 := t4.keep (hk6 b4 (by omega))
          have hB6 := hB.trans (hb6 _ (Nat.le_trans hwb4 (by omega)))
          clear t4 t5 t7 hB hk6 hs6 hb6
          go_wp2
          go_roundw
          case rel => exact ⟨c + 1, by omega, by go_num, u4, u5, hB6⟩
          case measure => simp [intOf]; omega
    · obtain rfl : c = M := by omega
      go_wp2_with (first | (refine wpList_loadTab rfl _ rfl b5 rfl _ t5 ?_) | (refine wpList_storeTab rfl _ _ rfl b4 rfl _ _ rfl t4 ?_))
      intro w6 u4 hk6 hs6 hb6
      have hB6 := hB.trans (hb6 _ hwb4)
      clear t4 t5 hB hk6 hs6 hb6
      obtain ⟨i, hq, _, hsz⟩ := tab_info
      go_wp2
      refine bodyPost_ret (v := tabV (hadT (gG x.g) x.n c)) (results_cell_row rfl _ _ b4 _ (tabC (hadT (gG x.g) x.n c)) _ _ rfl u4 tab_under rfl (by rw [hq, tabC_size, ← hsz]; rfl)) rfl ⟨rfl, hB6⟩
end Go.Proofs.YtiaoplghaigclaaDoor

namespace Go.Proofs.YtiaoplghaigclaaDoor
open Go.RowKit
set_option linter.unusedVariables false

theorem OwnI.putW {w : World} {B g n c k : Nat} {zs : List Int} {z : Int} (h : OwnI w B ⟨some ⟨g, 0, none⟩, n, c, zs⟩) (hc : 0 < c) (hz : -9223372036854775808 ≤ z ∧ z ≤ 9223372036854775807) : OwnI (w.setCell ⟨g, k, none⟩ (.int .i64 z)) B ⟨some ⟨g, 0, none⟩, n, c, zs.set k z⟩ := by
  refine ⟨?_, fun y hy => ?_⟩
  · have h1 := h.own.set hc k (.int .i64 z)
    have h2 : ci64 (zs.set k z) = (ci64 zs).set k (.int .i64 z) := by simp [ci64, iV]
    show Own _ B _ _ n c (ci64 (zs.set k z))
    rw [h2]; exact h1
  · rcases List.mem_or_eq_of_mem_set hy with h1 | h1
    · exact h.fit y h1
    · rw [h1]; exact hz
set_option maxRecDepth 100000 in
set_option maxHeartbeats 1000000 in
theorem pbestC : BestC 6 := by
  intro x m w hx hm1 hm2
  have hc := wmaybe_any x m w hx hm1 hm2
  obtain ⟨B, hB0⟩ : ∃ B, mayW x.g m = B := ⟨_, rfl⟩
  rw [hB0] at hc
  have hgl := hx.glen
  have hv : x.v = .slice x.A x.n x.c := rfl
  rw [hv] at hc ⊢
  cases B
  · obtain ⟨e1, e2, _⟩ := we_bad hB0
    rw [e1, e2]
    clear hB0 e1 e2 hv hgl
    go_enter Tryd.func6, Tryd.ntmps6
    go_wp2_with fail
    refine hc.mono ?_
    rintro e w1 ⟨rfl, rfl⟩
    clear hc
    go_wp2
    go_ret2
    exact ⟨rfl, Below.refl _ _⟩
  · obtain ⟨M, rfl⟩ : ∃ M : Nat, m = M := ⟨m.toNat, by have := (mayW_iff.1 hB0).1; omega⟩
    obtain ⟨e1, e2, _⟩ := we_ok hB0
    rw [e1, e2, hgl]
    have r3 := (mayW_iff.1 hB0).2.2.1
    rw [hgl] at r3
    have hn8 : x.n ≤ 8 := r3
    have htb := wtable_any x M w hx hB0
    rw [hv] at htb
    have hev := fun w1 => wevery_any x.A x.n x.c w1 hn8
    have hall := hadT_all (gG x.g) M x.n
    have hp : 2 ^ x.n ≤ 2 ^ 8 := Nat.pow_le_pow_right (by omega) hn8
    obtain ⟨N, hN⟩ : ∃ N, 2 ^ x.n - 1 = N := ⟨_, rfl⟩
    have hN2 : N < 256 := by rw [← hN]; exact Nat.lt_of_lt_of_le (Nat.sub_lt (Nat.two_pow_pos _) (by omega)) hp
    rw [hN] at hev hall
    have hN0 : (0 : Int) ≤ N := by omega
    have hN256 : (N : Int) < 256 := by omega
    clear hB0 e1 e2 hgl r3 hp hN hv
    go_enter Tryd.func6, Tryd.ntmps6
    go_wp2_with fail
    refine hc.mono ?_
    rintro e w1 ⟨rfl, rfl⟩
    clear hc
    go_wp2_with fail
    refine htb.mono ?_
    rintro e w2 ⟨rfl, hb2⟩
    clear htb
    go_wp2_with (refine wpList_newTab rfl rfl ?_)
    intro w3 t6 hb3
    have hB3 := hb2.trans (hb3.mono hb2.size)
    have h26 := hb2.size
    obtain ⟨b6, hb6⟩ : ∃ b6, b6 = w2.heap.size := ⟨_, rfl⟩
    rw [← hb6] at t6 h26 ⊢
    clear hb6 hb2 hb3
    go_wp2_with (refine wpList_storeTab rfl _ _ rfl b6 rfl _ _ rfl t6 ?_)
    intro w4 t64 hq1 hq2 hb4
    clear hq1 hq2
    have hB4 := hB3.trans (hb4 _ h26)
    have hcell := t64.cell hN2
    rw [hall] at hcell
    have hct := hev w4
    clear hev t6 hB3 hb4 hall
    go_wp2_with fail
    refine hct.mono ?_
    rintro e w5 ⟨rfl, rfl⟩
    clear hct
    go_wp2
    go_ret2
    exact ⟨rfl, hB4⟩

set_option maxRecDepth 100000 in
set_option maxHeartbeats 1000000 in
theorem pprovedC : ProvedC 8 := by
  intro x m w hx hm1 hm2
  obtain ⟨i0, hi0, hz0, hz1, hz2⟩ := info_parts infoW_int
  have hc := wmaybe_any x m w hx hm1 hm2
  obtain ⟨B, hB0⟩ : ∃ B, mayW x.g m = B := ⟨_, rfl⟩
  rw [hB0] at hc
  have hgl := hx.glen
  have hv : x.v = .slice x.A x.n x.c := rfl
  rw [hv] at hc ⊢
  cases B
  · obtain ⟨_, e2, e3, e4⟩ := we_bad hB0
    rw [e2, e3, e4]
    clear hB0 e2 e3 e4 hv hgl
    go_enter Tryd.func8, Tryd.ntmps8
    go_wp2_with fail
    refine hc.mono ?_
    rintro e w1 ⟨rfl, rfl⟩
    clear hc
    go_wp2
    go_ret3
    exact ⟨none, 0, 0, none, 0, 0, rfl, OwnI.nil _ _, OwnI.nil _ _, List.pairwise_cons.2 ⟨fun b hb g hg => absurd hg.1 (by simp), List.pairwise_singleton _ _⟩, Below.refl _ _⟩
  · obtain ⟨M, rfl⟩ : ∃ M : Nat, m = M := ⟨m.toNat, by have := (mayW_iff.1 hB0).1; omega⟩
    obtain ⟨_, e2, e3, e4⟩ := we_ok hB0
    obtain ⟨r1, r2, r3, r4⟩ := mayW_iff.1 hB0
    have HROW := Lib.hid (show ∀ l ∈ x.g, l.length = M ∧ ∀ z ∈ l, -1000000 ≤ z ∧ z ≤ 1000000 from fun l hl => ⟨by have := (r4 l hl).1; omega, (r4 l hl).2⟩)
    rw [hgl] at r3
    have hn8 : x.n ≤ 8 := r3
    have hM8 : M ≤ 8 := by omega
    have hM1 : 1 ≤ M := by omega
    have htb := wtable_any x M w hx hB0
    rw [hv] at htb
    have hev := fun w1 => wevery_any x.A x.n x.c w1 hn8
    have hall := hadT_all (gG x.g) M x.n
    have HMO : Hid (∀ k, k < M → moreF (hadT (gG x.g) x.n M) (fun i => gG x.g i k) (2 ^ x.n - 1) x.n = bestV (gG x.g) M x.n + numP (gG x.g) M x.n k) := Lib.hid fun k hk => hadT_more hk
    have HF : Hid (∀ s, 0 ≤ hadT (gG x.g) x.n M s ∧ hadT (gG x.g) x.n M s ≤ 10000000) := Lib.hid fun s => by
      have := hadT_bound hB0 x.n M s hn8 hM8; omega
    have hp : 2 ^ x.n ≤ 2 ^ 8 := Nat.pow_le_pow_right (by omega) hn8
    obtain ⟨S, hS⟩ : ∃ S, 2 ^ x.n - 1 = S := ⟨_, rfl⟩
    have hS2 : S < 256 := by rw [← hS]; exact Nat.lt_of_lt_of_le (Nat.sub_lt (Nat.two_pow_pos _) (by omega)) hp
    rw [hS] at hev hall HMO
    have hS0 : (0 : Int) ≤ S := by omega
    have hS256 : (S : Int) < 256 := by omega
    obtain ⟨N, hN⟩ : ∃ N, numP (gG x.g) M x.n = N := ⟨_, rfl⟩
    obtain ⟨a0, ha0⟩ : ∃ a, bestV (gG x.g) M x.n = a := ⟨_, rfl⟩
    have HGL := Lib.hid hgl
    have hab : 0 ≤ a0 ∧ a0 ≤ 8000000 := by rw [← ha0, ← hgl]; exact best_bound hB0
    have HNB : Hid (∀ k, k < M → 0 ≤ N k ∧ N k ≤ 8000000) := Lib.hid fun k hk => by rw [← hN, ← hgl]; exact num_bound hB0 k hk
    have HGB : Hid (∀ b c, -1000000 ≤ gG x.g b c ∧ gG x.g b c ≤ 1000000) := Lib.hid fun b c => gG_bound hB0 b c
    have e3' : ofE x.g M = (List.range M).map N := by rw [e3, hgl, hN]
    have e4' : bidE x.g M = (List.range x.n).map fun i => topN (fun k => gG x.g i k - N k) M := by
      rw [e4, hgl]
      exact List.map_congr_left fun i _ => by rw [bidP, hN]
    rw [e2, e3', e4']
    rw [hN, ha0] at HMO
    rw [ha0] at hall
    clear hB0 e2 e3 e4 e3' e4' r1 r2 r3 r4 hN ha0 hp hS hgl hm1 hm2 hv
    obtain ⟨T, hT⟩ : ∃ T, hadT (gG x.g) x.n M = T := ⟨_, rfl⟩
    rw [hT] at htb hall HMO HF
    clear hT
    go_enter Tryd.func8, Tryd.ntmps8
    go_wp2_with fail
    refine hc.mono ?_
    rintro e w1 ⟨rfl, hw1⟩
    replace hw1 := hw1.symm
    subst hw1
    clear hc
    go_wp2_with fail
    refine htb.mono ?_
    rintro e w2 ⟨rfl, hb2⟩
    clear htb
    have hct := hev w2
    clear hev
    go_wp2_with fail
    refine hct.mono ?_
    rintro e w2' ⟨rfl, rfl⟩
    clear hct
    go_wp2_with (refine wpList_newTab rfl rfl ?_)
    intro w3 t6 hb3
    have hB3 := hb2.trans (hb3.mono hb2.size)
    have h26 := hb2.size
    obtain ⟨b7, hb7⟩ : ∃ b7, b7 = w2'.heap.size := ⟨_, rfl⟩
    rw [← hb7] at t6 h26 ⊢
    clear hb7 hb2 hb3
    go_wp2_with (refine wpList_storeTab rfl _ _ rfl b7 rfl _ _ rfl t6 ?_)
    intro w4 t7 hq1 hq2 hb4
    clear hq1 hq2
    have hB4 := hB3.trans (hb4 _ h26)
    have hb7l := t7.lt
    clear t6 hB3 hb4
    go_wp2_with (at_make; go_must (refine wpList_mk _ rfl _ _ 30 rfl w4.heap.size 3 i0 _ Tryd.underlying30 hi0 hz0 hz1 rfl .i64 .i64 _ _ M rfl rfl rfl rfl ?mk2 ?mk3 ?mk4 ?_))
    case mk2 => rw [hz2]; omega
    case mk3 => simp only [maxLen]; omega
    case mk4 => exact Nat.le_refl _
    intro w5 ho5 hb5
    have t75 := t7.below hb5
    have hB5 := hB4.trans (hb5.mono hB4.size)
    have h7g : b7 < w4.heap.size := hb7l
    obtain ⟨g5, hg5⟩ : ∃ g5, g5 = w4.heap.size := ⟨_, rfl⟩
    have hwg5 : w.heap.size ≤ g5 := by rw [hg5]; exact hB4.size
    rw [← hg5] at ho5 h7g ⊢
    have hO5 : OwnI w5 g5 ⟨some ⟨g5, 0, none⟩, M, M, mixL N (fun _ => 0) M 0⟩ := by
      refine ⟨?_, fun z hz => ?_⟩
      · rw [mix_zero]
        have e : ci64 ((List.range M).map fun _ => (0 : Int)) = List.replicate M (.int .i64 0) := by
          rw [ci64, List.map_map]
          exact List.eq_replicate_iff.2 ⟨by simp, fun v hv => by obtain ⟨s, _, rfl⟩ := List.mem_map.1 hv; rfl⟩
        show Own w5 g5 _ _ M M (ci64 _)
        rw [e]; exact ho5
      · rw [mix_zero] at hz
        obtain ⟨s, _, rfl⟩ := List.mem_map.1 hz
        omega
    clear ho5 hg5 hb5 t7 hB4
    go_wp2_with fail
    go_loopw [25] (fun v wr => ∃ j : Nat, j ≤ M ∧ v = .int .i64 j ∧ TabAt wr b7 T ∧ OwnI wr g5 ⟨some ⟨g5, 0, none⟩, M, M, mixL N (fun _ => 0) M j⟩ ∧ Below w.heap.size w wr) (fun v _ => M - (intOf v).toNat)
    case atStart => exact ⟨0, Nat.zero_le _, rfl, t75, hO5, hB5⟩
    case round =>
      clear t75 hO5 hB5
      obtain ⟨j, hj, rfl, t7, hO, hB⟩ := hrel
      by_cases hlt : j < M
      · have hlt' : (j : Int) < M := by omega
        have hj0 : (0 : Int) ≤ j := by omega
        obtain ⟨wd, hwd⟩ : ∃ wd, wd = wr.drew := ⟨_, rfl⟩
        have t7d : TabAt wd b7 T := by rw [hwd]; exact t7
        have hOd : OwnI wd g5 ⟨some ⟨g5, 0, none⟩, M, M, mixL N (fun _ => 0) M j⟩ := by rw [hwd]; exact ⟨hO.own.drew, hO.fit⟩
        have hBd : Below w.heap.size w wd := by rw [hwd]; exact hB.drew
        have hone := wone_any x b7 T j S M wd t7d (hx.below hBd) hn8 hS2 hlt HROW.out HF.out
        rw [HMO.out j hlt, show x.v = .slice x.A x.n x.c from rfl] at hone
        have hnb := HNB.out j hlt
        obtain ⟨nj, hnj⟩ : ∃ q, N j = q := ⟨_, rfl⟩
        rw [hnj] at hone hnb
        have s1 : IntKind.i64.wrap (a0 + nj - a0) = nj := by rw [IntKind.wrap_i64]; omega
        have hS : ∀ w', Below wd.heap.size wd w' → w'.cell? ⟨b7, S, none⟩ = some (.int .i64 a0) := fun w' hb => by
          have := (t7d.below hb).cell hS2
          rwa [hall] at this
        have HNJ := Lib.hid hnj
        clear hnj t7 hO hB
        go_wp2_with fail
        refine wp_region_ord (S := fun w' => w'.cell? ⟨b7, S, none⟩ = some (.int .i64 a0)) [(0, true), (1, true), (2, true), (3, true), (4, true), (6, true), (7, true), (8, true), (5, false), (9, true), (10, true), (11, false)] default (by kernel_rfl) (by kernel_rfl) (by kernel_rfl) (by rw [← hwd]; exact hS _ (Below.refl _ _)) ?_
        simp only [getOrd, nth]
        rw [← hwd]
        clear hwd
        repeat (first | (refine ordS (by rfl) ?_; simp only [Act.put, List.setIfInBounds_toArray, List.set_cons_zero, List.set_cons_succ]) | (refine ordN (by rfl) ?_; simp only [Act.put, List.setIfInBounds_toArray, List.set_cons_zero, List.set_cons_succ]) | (refine ordQ (v := ?_) (by rfl) (fun _ hSw => ?_) ?_; rotate_left; (focus ((have hS1 := hSw); clear hSw; go_simp; (first | done | with_reducible rfl))); simp only [Act.put, List.setIfInBounds_toArray, List.set_cons_zero, List.set_cons_succ]))
        refine ordD (by rfl) ?_
        intro K hK
        go_simp
        refine hone.mono ?_
        rintro e w6 ⟨rfl, hb6⟩
        clear hone
        have t76 := t7d.below hb6
        have hO6 := hOd.below hb6
        have hB6 := hBd.trans (hb6.mono hBd.size)
        have hc6 := hS _ hb6
        have hcell := hO6.own.cell (j := j) hlt
        rw [show ci64 (mixL N (fun _ => 0) M j) = (mixL N (fun _ => 0) M j).map iV from rfl, List.getElem?_map, mix_get hlt] at hcell
        replace hcell : w6.cell? ⟨g5, j, none⟩ = some (.int .i64 0) := hcell
        have hfree := hO6.own.free (show 0 < M by omega) j
        have hO7 : OwnI (w6.setCell ⟨g5, j, none⟩ (.int .i64 nj)) g5 ⟨some ⟨g5, 0, none⟩, M, M, mixL N (fun _ => 0) M (j + 1)⟩ := by
          have := hO6.putW (k := j) (z := nj) (by omega) (by omega)
          rw [← HNJ.out, mix_set] at this
          rw [← HNJ.out]; exact this
        have t77 : TabAt (w6.setCell ⟨g5, j, none⟩ (.int .i64 nj)) b7 T := t76.other (by omega)
        have hB7 := hB6.setCell (p := ⟨g5, j, none⟩) hwg5 (.int .i64 nj)
        have hc7 := t77.cell hS2
        rw [hall] at hc7
        clear hOd t7d hBd hS hb6 hB6 t76
        go_wp2_with fail
        refine hK _ _ hc6 ?_
        clear hK K
        try simp only [Act.put, List.setIfInBounds_toArray, List.set_cons_zero, List.set_cons_succ]
        repeat (first | (refine ordS (by rfl) ?_; simp only [Act.put, List.setIfInBounds_toArray, List.set_cons_zero, List.set_cons_succ]) | (refine ordN (by rfl) ?_; simp only [Act.put, List.setIfInBounds_toArray, List.set_cons_zero, List.set_cons_succ]) | (refine ordQ (v := ?_) (by rfl) (fun _ hSw => ?_) ?_; rotate_left; (focus ((have hS1 := hSw); clear hSw; go_simp; (first | done | with_reducible rfl))); simp only [Act.put, List.setIfInBounds_toArray, List.set_cons_zero, List.set_cons_succ]))
        refine ordD (by rfl) ?_
        intro K hK
        go_simp
        refine hK _ _ hc7 ?_
        clear hK K
        refine ordE ?_
        clear hc6 hc7 hcell hfree hO6
        go_wp2
        go_roundw
        case rel => exact ⟨j + 1, by omega, by go_num, t77, hO7, hB7⟩
        case measure => simp [intOf]; omega
      · obtain rfl : j = M := by omega
        rw [mix_all] at hO
        obtain ⟨wo, rfl⟩ : ∃ wo, wo = wr := ⟨_, rfl⟩
        clear t7 HMO HF hall
        go_wp2_with (at_make; go_must (refine wpList_mk _ rfl _ _ 30 rfl wo.heap.size 3 i0 _ Tryd.underlying30 hi0 hz0 hz1 rfl .i64 .i64 _ _ x.n rfl rfl rfl rfl ?mj2 ?mj3 ?mj4 ?_))
        case mj2 => rw [hz2]; omega
        case mj3 => simp only [maxLen]; omega
        case mj4 => exact Nat.le_refl _
        intro w8 ho8 hb8
        have hO8 := hO.below hb8
        have hB8 := hB.trans (hb8.mono hB.size)
        obtain ⟨g8, hg8⟩ : ∃ g8, g8 = wo.heap.size := ⟨_, rfl⟩
        have hwg8 : w.heap.size ≤ g8 := by rw [hg8]; exact hB.size
        have h58 : g5 < g8 := by
          obtain ⟨g', hA', _, h3⟩ := hO.own.lt (show 0 < j by omega)
          simp only at hA'
          cases hA'
          rw [hg8]; exact h3
        rw [← hg8] at ho8 ⊢
        have hZ8 : OwnI w8 g8 ⟨some ⟨g8, 0, none⟩, x.n, x.n, mixL (fun i => topN (fun k => gG x.g i k - N k) j) (fun _ => 0) x.n 0⟩ := by
          refine ⟨?_, fun z hz => ?_⟩
          · rw [mix_zero]
            have e : ci64 ((List.range x.n).map fun _ => (0 : Int)) = List.replicate x.n (.int .i64 0) := by
              rw [ci64, List.map_map]
              exact List.eq_replicate_iff.2 ⟨by simp, fun v hv => by obtain ⟨s, _, rfl⟩ := List.mem_map.1 hv; rfl⟩
            show Own w8 g8 _ _ x.n x.n (ci64 _)
            rw [e]; exact ho8
          · rw [mix_zero] at hz
            obtain ⟨s, _, rfl⟩ := List.mem_map.1 hz
            omega
        clear ho8 hg8 hb8 hO hB
        go_wp2_with fail
        go_loopw [45] (fun v wr => ∃ i : Nat, i ≤ x.n ∧ v = .int .i64 i ∧ OwnI wr g5 ⟨some ⟨g5, 0, none⟩, j, j, (List.range j).map N⟩ ∧ OwnI wr g8 ⟨some ⟨g8, 0, none⟩, x.n, x.n, mixL (fun i => topN (fun k => gG x.g i k - N k) j) (fun _ => 0) x.n i⟩ ∧ Below w.heap.size w wr) (fun v _ => x.n - (intOf v).toNat)
        case atStart => exact ⟨0, Nat.zero_le _, rfl, hO8, hZ8, hB8⟩
        case round =>
          clear hO8 hZ8 hB8
          obtain ⟨i, hi, rfl, hO, hZ, hB⟩ := hrel
          by_cases hin : i < x.n
          · have hin' : (i : Int) < x.n := by omega
            have hi0' : (0 : Int) ≤ i := by omega
            obtain ⟨p2, q2, u, hAx, _, hgy, hp2, hcx0, hku0⟩ := hx.get hin
            have hcx := (hB.cell (p := ⟨p2, q2 + i, none⟩) hp2).trans hcx0
            have hku := hku0.below hB
            have hgi : x.g[i]? = some u.zs := by
              rw [← hgy, List.getD_eq_getElem?_getD, List.getElem?_eq_getElem (by rw [HGL.out]; exact hin)]; rfl
            have hrw := HROW.out u.zs (List.mem_of_getElem? hgi)
            have huz : u.zs = (List.range j).map (gG x.g i) := by
              refine List.ext_getElem? fun k => ?_
              rw [List.getElem?_map]
              by_cases hk : k < j
              · rw [List.getElem?_range hk, List.getElem?_eq_getElem (by rw [hrw.1]; exact hk), Option.map_some, gG, hgy, List.getD_eq_getElem?_getD, List.getElem?_eq_getElem (by rw [hrw.1]; exact hk)]; rfl
              · rw [List.getElem?_eq_none (by rw [hrw.1]; omega), List.getElem?_eq_none (by simp; omega)]; rfl
            have hab2 := wabove_any u ⟨some ⟨g5, 0, none⟩, j, j, (List.range j).map N⟩ j (gG x.g i) N wr hku hO.ok hM8 huz rfl (fun k _ => HGB.out i k) fun k hk => by have := HNB.out k hk; omega
            simp only at hab2
            have htb := top_le (f := fun k => gG x.g i k - N k) (a := 1000000) (by omega) (m := j) fun k hk => by
              have := HGB.out i k; have := HNB.out k hk; omega
            have htn := top_nonneg (fun k => gG x.g i k - N k) j
            obtain ⟨q, hq⟩ : ∃ q, topN (fun k => gG x.g i k - N k) j = q := ⟨_, rfl⟩
            rw [hq] at hab2 htb htn
            have HQ := Lib.hid hq
            replace hcx : wr.cell? ⟨p2, q2 + i, none⟩ = some (.slice u.A u.n u.c) := hcx
            clear hcx0 hku0 hku hgi hrw huz hq hgy
            rw [hAx]
            go_wp2_with fail
            refine hab2.mono ?_
            rintro e w9 ⟨rfl, hb9⟩
            clear hab2
            have hO9 := hO.below hb9
            have hZ9 := hZ.below hb9
            have hB9 := hB.trans (hb9.mono hB.size)
            have hcell := hZ9.own.cell (j := i) hin
            rw [show ci64 (mixL (fun i => topN (fun k => gG x.g i k - N k) j) (fun _ => 0) x.n i) = (mixL (fun i => topN (fun k => gG x.g i k - N k) j) (fun _ => 0) x.n i).map iV from rfl, List.getElem?_map, mix_get hin] at hcell
            replace hcell : w9.cell? ⟨g8, i, none⟩ = some (.int .i64 0) := hcell
            have hfree := hZ9.own.free (show 0 < x.n by omega) i
            have hZ10 : OwnI (w9.setCell ⟨g8, i, none⟩ (.int .i64 q)) g8 ⟨some ⟨g8, 0, none⟩, x.n, x.n, mixL (fun i => topN (fun k => gG x.g i k - N k) j) (fun _ => 0) x.n (i + 1)⟩ := by
              have := hZ9.putW (k := i) (z := topN (fun k => gG x.g i k - N k) j) (by omega) (by rw [HQ.out]; omega)
              rw [mix_set (f := fun i => topN (fun k => gG x.g i k - N k) j)] at this
              rw [← HQ.out]; exact this
            have hO10 : OwnI (w9.setCell ⟨g8, i, none⟩ (.int .i64 q)) g5 ⟨some ⟨g5, 0, none⟩, j, j, (List.range j).map N⟩ := ⟨hO9.own.keep fun g hA _ hg _ => heap_setCell_other w9 _ _ _ (by cases hA; show g5 ≠ g8; omega), hO9.fit⟩
            have hB10 := hB9.setCell (p := ⟨g8, i, none⟩) hwg8 (.int .i64 q)
            clear hO hZ hB hb9 hO9 hZ9 hB9 hcx
            go_wp2
            go_roundw
            case rel => exact ⟨i + 1, by omega, by go_num, hO10, hZ10, hB10⟩
            case measure => simp [intOf]; omega
          · obtain rfl : i = x.n := by omega
            rw [mix_all] at hZ
            have hapt : AptL [⟨some ⟨g8, 0, none⟩, x.n, x.n, (List.range x.n).map fun i => topN (fun k => gG x.g i k - N k) j⟩, ⟨some ⟨g5, 0, none⟩, j, j, (List.range j).map N⟩] := List.pairwise_cons.2 ⟨fun b hb g hg hg2 => by
              rw [List.mem_singleton.1 hb] at hg2
              have h1 := hg.2
              have h2 := hg2.2
              cases h1
              cases h2
              omega, List.pairwise_singleton _ _⟩
            have hZ2 := hZ.mono hwg8
            have hO2 := hO.mono hwg5
            clear hZ hO
            go_wp2
            go_ret3
            exact ⟨_, _, _, _, _, _, rfl, hZ2, hO2, hapt, hB⟩
end Go.Proofs.YtiaoplghaigclaaDoor
