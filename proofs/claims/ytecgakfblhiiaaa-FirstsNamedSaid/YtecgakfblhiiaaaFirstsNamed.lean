/-
  Proved: salesroomlaw11.FirstsNamed answers true, for any gains, any items, any order, by however far the names are moved, in whatever memory. No other conditions.
-/
import Derived.Test.YtecgakfblhiiaaaRows
import Derived.Test.YtecgakfblhiiaaaLift
import Derived.Test.YtecgakfblhiiaaaAlive11
import Derived.Test.YtecgakfblhiiaaaZeros
import Derived.Test.YtecgakfblhiiaaaFiE
import Derived.Test.YtecgakfblhiiaaaReg
namespace Go.Proofs.Ytecgakfblhiiaaa.firstsNamed
open Go.ChangeShapes Go.WideShapes Go.ChangeAt Go.RowKit
set_option linter.unusedVariables false

theorem info6_int : (Try.prog.info? 3).map (fun i => (i.zero, i.size, i.bytes)) = some (some (.int .i64 0), 1, 8) := by kernel_rfl
theorem infoI_ints : (Try.prog.info? 25).map (fun i => (i.zero, i.size, i.bytes)) = some (some (.slice none 0 0), 1, 24) := by kernel_rfl
/-- Lists, each laid where it stands when all are moved, so many of them. -/
def turnS (t : List Ls) (r n : Nat) : Nat → List Ls
  | 0 => List.replicate n Ls.nil
  | i + 1 => (turnS t r n i).set ((i + r) % n) (t.getD i Ls.nil)
theorem turnS_len (t : List Ls) (r n : Nat) : ∀ i, (turnS t r n i).length = n
  | 0 => by rw [turnS, List.length_replicate]
  | i + 1 => by rw [turnS, List.length_set, turnS_len t r n i]
theorem turnS_get {t : List Ls} {r n : Nat} (hr : r ≤ n) : ∀ {i : Nat}, i ≤ n → ∀ j, j < i → (turnS t r n i)[(j + r) % n]? = some (t.getD j Ls.nil)
  | 0, _, j, h => absurd h (by omega)
  | i + 1, hi, j, hj => by
    rw [turnS]
    by_cases e : j = i
    · subst e
      rw [List.getElem?_set, if_pos rfl, if_pos (by rw [turnS_len]; exact rot_lt (by omega))]
    · rw [List.getElem?_set_ne (fun h => e (rot_inj (n := n) hr (by omega) (by omega) h).symm)]
      exact turnS_get hr (by omega) j (by omega)
theorem turnS_at {t : List Ls} {r n p : Nat} (hr : r ≤ n) (hp : p < n) : (turnS t r n n)[p]? = some (t.getD ((p + (n - r)) % n) Ls.nil) := by
  have h1 := turnS_get (t := t) hr (Nat.le_refl n) ((p + (n - r)) % n) (rot_lt hp)
  rwa [rot_back hr hp] at h1
theorem turnS_mem {t : List Ls} {r n : Nat} (hr : r ≤ n) (hn : t.length = n) {u : Ls} (h : u ∈ turnS t r n n) : u ∈ t := by
  obtain ⟨p, hp, rfl⟩ := List.getElem_of_mem h
  rw [turnS_len] at hp
  have h1 := turnS_at (t := t) hr hp
  rw [List.getElem?_eq_getElem (by rw [turnS_len]; exact hp)] at h1
  rw [Option.some.inj h1, List.getD_eq_getElem?_getD, List.getElem?_eq_getElem (by rw [hn]; exact rot_lt hp)]
  exact List.getElem_mem _
theorem turnS_gG {t : List Ls} {r n b c : Nat} (hr : r ≤ n) (hn : t.length = n) (hb : b < n) : gG (Ls.all (turnS t r n n)) ((b + r) % n) c = gG (Ls.all t) b c := by
  have h1 := turnS_get (t := t) hr (Nat.le_refl n) b hb
  rw [gG_at (l := (t.getD b Ls.nil).zs) (by rw [Ls.all, List.getElem?_map, h1]; rfl), gG, Ls.all, List.getD_eq_getElem?_getD (l := t.map _), List.getElem?_map, List.getD_eq_getElem?_getD (l := t), List.getElem?_eq_getElem (by omega)]; rfl
theorem turnS_may {t : List Ls} {r n : Nat} {m : Int} (hr : r ≤ n) (hn : t.length = n) (h : mayW (Ls.all t) m = true) : mayW (Ls.all (turnS t r n n)) m = true := by
  obtain ⟨h1, h2, h3, h4⟩ := mayW_iff.1 h
  refine mayW_iff.2 ⟨h1, h2, by rw [Ls.all, List.length_map, turnS_len]; rw [Ls.all, List.length_map] at h3; omega, fun l hl => ?_⟩
  obtain ⟨u, hu, rfl⟩ := List.mem_map.1 hl
  exact h4 _ (List.mem_map_of_mem (turnS_mem hr hn hu))
/-- An order, moved. -/
def turnO (o : List Int) (r n : Nat) : List Int := o.map fun z => (((z.toNat + r) % n : Nat) : Int)
theorem turnO_succ {o : List Int} {r n i : Nat} (h : i < o.length) : turnO (o.take (i + 1)) r n = turnO (o.take i) r n ++ [((((o[i]).toNat + r) % n : Nat) : Int)] := by
  rw [turnO, List.take_succ_eq_append_getElem h, List.map_append]; rfl
theorem turnO_who (o : List Int) (r n : Nat) : whoN (turnO o r n) = (whoN o).map fun b => (b + r) % n := by
  rw [whoN, turnO, whoN, List.map_map, List.map_map]
  exact List.map_congr_left fun a _ => Int.toNat_natCast _
theorem turnO_ord {o : List Int} {r n : Nat} (hr : r ≤ n) (h : ordB o n = true) : ordB (turnO o r n) n = true := by
  have hlen := (ordB_iff.1 h).1
  have hin := ord_in h
  have hnd := ord_nodup h
  refine ordB_iff.2 ⟨by rw [turnO, List.length_map]; exact hlen, fun i hi => ?_⟩
  refine times_once (fun a k ha hk => ?_) _ ?_
  · simp only [turnO, List.length_map] at ha
    simp only [turnO, List.getElem_map]
    intro e
    have h1 := hin _ (List.getElem_mem ha)
    have h2 := hin _ (List.getElem_mem (show k < o.length by omega))
    have h3 := rot_inj (n := n) hr (b := (o[a]).toNat) (b' := (o[k]'(by omega)).toNat) (by omega) (by omega) (by exact_mod_cast e)
    have h4 := List.pairwise_iff_getElem.1 hnd k a (by rw [whoN_len]; omega) (by rw [whoN_len]; exact ha) hk
    rw [whoN_get (by omega), whoN_get ha] at h4
    exact h4 h3.symm
  · have h1 := ord_all h (rot_lt (r := n - r) hi)
    obtain ⟨z, hz, hz2⟩ := List.mem_map.1 h1
    refine List.mem_map.2 ⟨z, hz, ?_⟩
    rw [hz2, rot_back hr hi]
theorem turn_first {t : List Ls} {r n M : Nat} {o : List Int} (hr : r ≤ n) (hn : t.length = n) (h : mayF (Ls.all t) M o = true) :
    mayF (Ls.all (turnS t r n n)) M (turnO o r n) = true ∧ ∀ b, b < n → (firstE (Ls.all (turnS t r n n)) M (turnO o r n))[(b + r) % n]? = some (optI (firstV (Ls.all t) M o b)) := by
  obtain ⟨h1, h2⟩ := mayF_iff.1 h
  have hl : (Ls.all t).length = n := by rw [Ls.all, List.length_map]; exact hn
  have hl2 : (Ls.all (turnS t r n n)).length = n := by rw [Ls.all, List.length_map, turnS_len]
  rw [hl] at h2
  have hm : mayF (Ls.all (turnS t r n n)) M (turnO o r n) = true := mayF_iff.2 ⟨turnS_may hr hn h1, by rw [hl2]; exact turnO_ord hr h2⟩
  refine ⟨hm, fun b hb => ?_⟩
  rw [firstE_get hm (by rw [hl2]; exact rot_lt hb), firstV, firstV, turnO_who, hl, hl2, first_turn hr (fun b c hb _ => turnS_gG hr hn hb) (ord_lt h2) hb]

set_option maxRecDepth 100000 in
set_option maxHeartbeats 4000000 in
theorem walk (x : Gr) (m : Int) (y : Ls) (t : Nat) (w : World) (h : x.Ok w) (hm1 : -9223372036854775808 ≤ m) (hm2 : m ≤ 9223372036854775807) (h1' : y.Ok w) (ht : t < 256) :
    Calls Try.prog 6 #[.agg #[x.v, .int .i64 m], y.v, .int .u8 t] w fun e w' => e = .returned (.bool true) ∧ Below w.heap.size w w' := by
  have hx := h
  have hy := h1'
  have hB := Below.refl w.heap.size w
  have hxv : x.v = .slice x.A x.n x.c := rfl
  have hyv : y.v = .slice y.A y.n y.c := rfl
  have Vx := Lib.hid hxv
  have Vy := Lib.hid hyv
  rw [hxv, hyv]
  have hgl := h.glen
  have HGL := Lib.hid hgl
  have HYL := Lib.hid hy.len
  have htop := Nat.le_trans h.cap h.top
  have ttop := Nat.le_trans hy.cap hy.top
  unfold maxLen at htop ttop
  obtain ⟨B, hB0⟩ : ∃ B, mayF x.g m y.zs = B := ⟨_, rfl⟩
  clear hxv hyv hgl h h1'
  go_enter Try.func6, Try.ntmps6
  have bg := WBox.new w x m
  have hbx : Below w.heap.size w (w.alloc (.cells #[.slice x.A x.n x.c, .int .i64 m] 24)) := (Below.refl _ w).alloc (Nat.le_refl _) _
  replace hx := hx.below hbx
  replace hy := hy.below hbx
  replace hB := hB.trans (hbx.mono hB.size)
  clear hbx
  cases B
  · have E1 := Lib.hid (fi_bad hB0)
    obtain ⟨f0, hf0⟩ : ∃ q, wErr x.g m = q := ⟨_, rfl⟩
    obtain ⟨a0, ha0⟩ : ∃ q, bestE x.g m = q := ⟨_, rfl⟩
    have EF := Lib.hid hf0
    have EA := Lib.hid ha0
    clear hB0 hf0 ha0
    have eg0 := bg.c0
    have eg1 := bg.c1
    have hc := pfirstC x m y (w.alloc (.cells #[.slice x.A x.n x.c, .int .i64 m] 24)) hx (by omega) (by omega) hy
    rw [Vx.out, Vy.out, E1.out.1, E1.out.2] at hc
    go_wp2_with fail
    clear eg0 eg1
    generalize w.alloc (.cells #[.slice x.A x.n x.c, .int .i64 m] 24) = W1 at *
    refine hc.mono ?_
    rintro e v2 ⟨A1, n1, c1, rfl, h1, hb⟩
    clear hc
    replace hx := hx.below hb
    replace hy := hy.below hb
    replace bg := bg.below hb
    replace hB := hB.trans (hb.mono hB.size)
    clear hb
    have eg0 := bg.c0
    have eg1 := bg.c1
    have hc := alive11_any v2
    go_wp2_with fail
    clear eg0 eg1
    refine hc.mono ?_
    rintro e v3 ⟨rfl, hb⟩
    clear hc
    replace hx := hx.below hb
    replace hy := hy.below hb
    replace h1 := h1.below hb
    replace bg := bg.below hb
    replace hB := hB.trans (hb.mono hB.size)
    clear hb
    have eg0 := bg.c0
    have eg1 := bg.c1
    go_wp2
    go_ret
    exact ⟨rfl, hB⟩
  · obtain ⟨hBw, hBo⟩ := mayF_iff.1 hB0
    obtain ⟨M, rfl⟩ : ∃ M : Nat, m = M := ⟨m.toNat, by have := (mayW_iff.1 hBw).1; omega⟩
    have HB0 := Lib.hid hB0
    have HBW := Lib.hid hBw
    have HBO := Lib.hid hBo
    obtain ⟨hM1, hM8, hx8⟩ := may_m hBw
    rw [HGL.out] at hx8
    have EE := Lib.hid (we_ok hBw).2.1
    have FE := Lib.hid (fi_ok hB0).1
    obtain ⟨a0, ha0⟩ : ∃ a, bestE x.g M = a := ⟨_, rfl⟩
    obtain ⟨hl, hhl⟩ : ∃ a, firstE x.g M y.zs = a := ⟨_, rfl⟩
    have EB := Lib.hid ha0
    have EH := Lib.hid hhl
    have FO := Lib.hid (show FirstOf (gG x.g) M x.n (whoN y.zs) (firstV x.g M y.zs) from by rw [← HGL.out]; exact first_is hB0)
    have HLN : Hid (hl.length = x.n) := Lib.hid (by rw [← hhl, firstE_len hB0, HGL.out])
    have HGET : Hid (∀ b, b < x.n → hl[b]? = some (optI (firstV x.g M y.zs b))) := Lib.hid (fun b hb => by rw [← hhl, firstE_get hB0 (by rw [HGL.out]; exact hb)])
    have HFIT : Hid (∀ b, b < x.n → -1 ≤ optI (firstV x.g M y.zs b) ∧ optI (firstV x.g M y.zs b) < M) := Lib.hid (fun b hb => optI_fit hB0 (by rw [HGL.out]; exact hb))
    have BV : Hid (a0 = bestV (gG x.g) M x.n) := Lib.hid (by rw [← ha0, (we_ok hBw).1, HGL.out])
    have hab : 0 ≤ a0 ∧ a0 ≤ 8000000 := by rw [← ha0, (we_ok hBw).1]; exact best_bound hBw
    have hyn : y.n = x.n := by have h1 := (ordB_iff.1 hBo).1; rw [HYL.out, HGL.out] at h1; exact h1
    have HYN := Lib.hid hyn
    have HRW : Hid (∀ u ∈ x.t, u.n = M) := Lib.hid (fun u hu => by
      have h1 := (mayW_iff.1 hBw).2.2.2 u.zs (by rw [Gr.g, Ls.all]; exact List.mem_map_of_mem hu)
      have h2 := (hx.lss.ok u hu).len
      omega)
    clear hB0 hBw hBo ha0 hhl hm1 hm2 hyn
    have eg0 := bg.c0
    have eg1 := bg.c1
    have hc := pfirstC x M y (w.alloc (.cells #[.slice x.A x.n x.c, .int .i64 (M : Int)] 24)) hx (by omega) (by omega) hy
    rw [Vx.out, Vy.out, FE.out, EH.out] at hc
    go_wp2_with fail
    clear eg0 eg1
    generalize w.alloc (.cells #[.slice x.A x.n x.c, .int .i64 (M : Int)] 24) = W1 at *
    refine hc.mono ?_
    rintro e v2 ⟨A1, n1, c1, rfl, h1, hb⟩
    clear hc
    replace hx := hx.below hb
    replace hy := hy.below hb
    replace bg := bg.below hb
    replace hB := hB.trans (hb.mono hB.size)
    clear hb
    obtain rfl : n1 = x.n := by have h5 := h1.len; have h6 := HLN.out; simp only at h5; omega
    by_cases hn0 : x.n = 0
    · have gn : ((x.n : Int) == 0) = true := by rw [beq_iff_eq]; omega
      have gn2 : (x.n == 0) = true := by rw [beq_iff_eq]; exact hn0
      clear hn0
      have eg0 := bg.c0
      have eg1 := bg.c1
      have eg0 := bg.c0
      have eg1 := bg.c1
      have hc := alive11_any v2
      go_wp2_with fail
      clear eg0 eg1
      refine hc.mono ?_
      rintro e v3 ⟨rfl, hb⟩
      clear hc
      replace hx := hx.below hb
      replace hy := hy.below hb
      replace h1 := h1.below hb
      replace bg := bg.below hb
      replace hB := hB.trans (hb.mono hB.size)
      clear hb
      have eg0 := bg.c0
      have eg1 := bg.c1
      go_wp2
      go_ret
      exact ⟨rfl, hB⟩
    · have gn : ((x.n : Int) == 0) = false := by rw [beq_eq_false_iff_ne]; omega
      have gn2 : (x.n == 0) = false := by rw [beq_eq_false_iff_ne]; exact hn0
      have gne : (((x.n : Int)) != (x.n : Int)) = false := by simp
      have gne2 : (x.n != x.n) = false := by simp
      have gy : ((y.n : Int) != (x.n : Int)) = false := by rw [bne_eq_false_iff_eq, HYN.out]
      have gy2 : (y.n != x.n) = false := by rw [bne_eq_false_iff_eq]; exact HYN.out
      obtain ⟨r, hr⟩ : ∃ k : Nat, t % x.n = k := ⟨_, rfl⟩
      have hrn : r < x.n := by rw [← hr]; exact Nat.mod_lt _ (by omega)
      have t1 : ((t : Int)).tmod (x.n : Int) = (r : Int) := by rw [Int.tmod_eq_emod_of_nonneg (by omega), ← hr]; simp
      have s1 : IntKind.i64.wrap (t : Int) = (t : Int) := by rw [IntKind.wrap_i64]; omega
      have s2 : IntKind.i64.wrap (r : Int) = (r : Int) := by rw [IntKind.wrap_i64]; omega
      have sn : IntKind.i64.wrap (x.n : Int) = (x.n : Int) := by rw [IntKind.wrap_i64]; omega
      have swn : wrap64 (x.n : Int) = (x.n : Int) := by unfold wrap64; omega
      clear hr
      have hxl : x.t.length = x.n := hx.len
      obtain ⟨f1, f2⟩ := turn_first (t := x.t) (r := r) (M := M) (o := y.zs) (Nat.le_of_lt hrn) hxl HB0.out
      obtain ⟨rl, hrl⟩ : ∃ q, firstE (Ls.all (turnS x.t r x.n x.n)) M (turnO y.zs r x.n) = q := ⟨_, rfl⟩
      have F0 := Lib.hid f1
      have F1 := Lib.hid (fi_ok f1).1
      have F2 := Lib.hid hrl
      have F3 : Hid (∀ b, b < x.n → rl[(b + r) % x.n]? = some (optI (firstV x.g M y.zs b))) := Lib.hid (by rw [← hrl]; exact f2)
      have F4 : Hid (rl.length = x.n) := Lib.hid (by rw [← hrl, firstE_len f1, Ls.all, List.length_map, turnS_len])
      have HXL := Lib.hid hxl
      clear f1 f2 hrl hxl
      obtain ⟨i0, hi0, hz0, hz1, hz2⟩ := info_parts info6_int
      obtain ⟨i1, hi1', hy0, hy1, hy2⟩ := info_parts infoI_ints
      have eg0 := bg.c0
      have eg1 := bg.c1
      go_wp2_with (at_make; go_must (refine wpList_mk _ rfl _ _ 22 rfl v2.heap.size 25 i1 _ Try.underlying22 hi1' hy0 hy1 rfl .i64 .i64 _ _ x.n rfl rfl rfl rfl ?mk2 ?mk3 ?mk4 ?_))
      case mk2 => rw [hy2]; exact Nat.le_trans (Nat.mul_le_mul_left 24 hx8) (by decide)
      case mk3 => exact Nat.le_trans hx8 (by unfold maxLen; decide)
      case mk4 => exact Nat.le_refl _
      intro wm hownm hbelm
      clear t1 s1 s2
      obtain ⟨g9, hg9⟩ : ∃ g, g = v2.heap.size := ⟨_, rfl⟩
      rw [← hg9] at hownm ⊢
      have HG9 := Lib.hid hg9
      have hO0 : Own wm v2.heap.size 25 (some ⟨g9, 0, none⟩) x.n x.n ((turnS x.t r x.n 0).map Ls.v) := by
        rw [turnS, List.map_replicate]; rw [HG9.out]; rw [hg9] at hownm; exact hownm
      clear hownm hg9 eg0 eg1
      go_wp2_with fail
      go_loopw [12, 13] (fun o v wr => ∃ (i c : Nat) (A : Option Addr), i ≤ x.n ∧ v = .int .i64 i ∧ o = .slice A i c ∧ Own wr v2.heap.size 25 (some ⟨g9, 0, none⟩) x.n x.n ((turnS x.t r x.n i).map Ls.v) ∧ OwnI wr v2.heap.size ⟨A, i, c, turnO (y.zs.take i) r x.n⟩ ∧ Below v2.heap.size v2 wr) (fun _ v _ => x.n - (intOf v).toNat)
      case atStart => exact ⟨0, 0, none, Nat.zero_le _, rfl, rfl, hO0, OwnI.nil _ _, hbelm⟩
      case round =>
        clear hO0 hbelm
        obtain ⟨i, c, A, hi, rfl, rfl, hOt, hOo, hbel⟩ := hrel
        have e0 := (bg.below hbel).c0
        have hsz := hbel.size
        by_cases hin : i < x.n
        · have hin' : (i : Int) < x.n := by omega
          have hi0' : (0 : Int) ≤ i := by omega
          obtain ⟨k, hk⟩ : ∃ k, (i + r) % x.n = k := ⟨_, rfl⟩
          have hkn : k < x.n := by rw [← hk]; exact Nat.mod_lt _ (by omega)
          have hkn' : (k : Int) < x.n := by omega
          have hk0 : (0 : Int) ≤ k := by omega
          have s5 : IntKind.i64.wrap ((i : Int) + r) = (i : Int) + r := by rw [IntKind.wrap_i64]; omega
          have s6 : IntKind.i64.wrap (k : Int) = (k : Int) := by rw [IntKind.wrap_i64]; omega
          obtain ⟨p2, q2, u, hAx, hux, hgy, hp2, hcx0, hku0⟩ := hx.get hin
          have hcx := (hbel.cell (p := ⟨p2, q2 + i, none⟩) hp2).trans hcx0
          have hSuc : (turnS x.t r x.n (i + 1)).map Ls.v = ((turnS x.t r x.n i).map Ls.v).set k u.v := by
            rw [turnS, hk, List.getD_eq_getElem?_getD, hux, List.map_set]; rfl
          have HSUC := Lib.hid hSuc
          replace hcx : wr.cell? ⟨p2, q2 + i, none⟩ = some (.slice u.A u.n u.c) := hcx
          have hp2V : p2 < v2.heap.size := hp2
          have hS : ∀ w', Below v2.heap.size v2 w' → w'.cell? ⟨w.heap.size, 0, none⟩ = some (.slice (some ⟨p2, q2, none⟩) x.n x.c) ∧ w'.cell? ⟨p2, q2 + i, none⟩ = some (.slice u.A u.n u.c) := fun w' hb => ⟨by rw [← hAx]; exact (bg.below hb).c0, (hb.cell (p := ⟨p2, q2 + i, none⟩) hp2V).trans hcx0⟩
          have hcu := hOt.cell (j := k) hkn
          rw [List.getElem?_map, List.getElem?_eq_getElem (show k < (turnS x.t r x.n i).length by rw [turnS_len]; exact hkn)] at hcu
          obtain ⟨ov, hov⟩ : ∃ q, (turnS x.t r x.n i)[k]'(by rw [turnS_len]; exact hkn) = q := ⟨_, rfl⟩
          rw [hov] at hcu
          replace hcu : wr.cell? ⟨g9, k, none⟩ = some (.slice ov.A ov.n ov.c) := hcu
          have hcud : wr.drew.cell? ⟨g9, k, none⟩ = some (.slice ov.A ov.n ov.c) := hcu
          have hfr := hOt.free (show 0 < x.n by omega) k
          have hOs := (hOt.set (show 0 < x.n by omega) k u.v).drew
          rw [← HSUC.out] at hOs
          have hOos : OwnI (wr.setCell ⟨g9, k, none⟩ u.v).drew v2.heap.size ⟨A, i, c, turnO (y.zs.take i) r x.n⟩ := ⟨(hOo.setL hOt (show 0 < x.n by omega)).own.drew, (hOo.setL (v := u.v) (b := k) hOt (show 0 < x.n by omega)).fit⟩
          have hbs : Below v2.heap.size v2 (wr.setCell ⟨g9, k, none⟩ u.v).drew := (hbel.setCell (p := ⟨g9, k, none⟩) (by show v2.heap.size ≤ g9; rw [HG9.out]; exact Nat.le_refl _) _).drew
          rw [hAx] at e0
          have hil : i < y.zs.length := by rw [HYL.out, HYN.out]; exact hin
          have hiy : (i : Int) < y.n := by rw [HYN.out]; omega
          obtain ⟨p0, q0, hA0, hp0, y0, hyy0, hcy0⟩ := (hy.below hbs).rd.get (show i < y.n by rw [HYN.out]; exact hin)
          rw [ci64_get _ _ hil] at hyy0
          obtain rfl : iV y.zs[i] = y0 := Option.some.inj hyy0
          unfold iV at hcy0
          have hzin := ord_in HBO.out _ (List.getElem_mem hil)
          rw [HGL.out] at hzin
          have hts := turnO_succ (r := r) (n := x.n) hil
          obtain ⟨z, hz⟩ : ∃ z, y.zs[i] = z := ⟨_, rfl⟩
          rw [hz] at hcy0 hzin hts
          obtain ⟨zn, rfl⟩ : ∃ q : Nat, z = q := ⟨z.toNat, by omega⟩
          rw [Int.toNat_natCast] at hts
          obtain ⟨k2, hk2⟩ : ∃ k, (zn + r) % x.n = k := ⟨_, rfl⟩
          rw [hk2] at hts
          have hk2n : k2 < x.n := by rw [← hk2]; exact Nat.mod_lt _ (by omega)
          have s7 : IntKind.i64.wrap ((zn : Int) + r) = (zn : Int) + r := by rw [IntKind.wrap_i64]; omega
          have s8 : IntKind.i64.wrap (k2 : Int) = (k2 : Int) := by rw [IntKind.wrap_i64]; omega
          have HTS := Lib.hid hts
          have HA0 := Lib.hid hA0
          have HAX := Lib.hid hAx
          have hszs := hbs.size
          have t3 : ((i : Int) + r).tmod (x.n : Int) = (k : Int) := by rw [Int.tmod_eq_emod_of_nonneg (by omega), ← hk]; simp
          have t4 : ((zn : Int) + r).tmod (x.n : Int) = (k2 : Int) := by rw [Int.tmod_eq_emod_of_nonneg (by omega), ← hk2]; simp
          clear hcx0 hku0 hgy hux hSuc hov hOo hOt hyy0 hz hts hk hk2 hAx hA0
          go_wp2_with fail
          refine wp_region_ord (S := fun w' => w'.cell? ⟨w.heap.size, 0, none⟩ = some (.slice (some ⟨p2, q2, none⟩) x.n x.c) ∧ w'.cell? ⟨p2, q2 + i, none⟩ = some (.slice u.A u.n u.c)) [(0, true), (1, true), (2, true), (3, true), (4, true), (5, true), (6, true), (7, true), (8, true), (9, true), (10, true), (11, true), (12, false)] default (by kernel_rfl) (by kernel_rfl) (by kernel_rfl) (hS _ hbel.drew) ?_
          simp only [getOrd, nth]
          repeat (first | (refine ordS (by rfl) ?_; simp only [Act.put, List.setIfInBounds_toArray, List.set_cons_zero, List.set_cons_succ]) | (refine ordN (by rfl) ?_; simp only [Act.put, List.setIfInBounds_toArray, List.set_cons_zero, List.set_cons_succ]) | (refine ordQ (v := ?_) (by rfl) (fun _ hSw => ?_) ?_; rotate_left; (focus ((have hS1 := hSw.1); (have hS2 := hSw.2); clear hSw; go_simp; (first | done | with_reducible rfl))); simp only [Act.put, List.setIfInBounds_toArray, List.set_cons_zero, List.set_cons_succ]))
          refine ordD (by rfl) ?_
          intro K hK
          go_simp
          refine hK _ _ (hS _ hbs) ?_
          clear hK K
          try simp only [Act.put, List.setIfInBounds_toArray, List.set_cons_zero, List.set_cons_succ]
          repeat (first | (refine ordS (by rfl) ?_; simp only [Act.put, List.setIfInBounds_toArray, List.set_cons_zero, List.set_cons_succ]) | (refine ordN (by rfl) ?_; simp only [Act.put, List.setIfInBounds_toArray, List.set_cons_zero, List.set_cons_succ]) | (refine ordQ (v := ?_) (by rfl) (fun _ hSw => ?_) ?_; rotate_left; (focus ((have hS1 := hSw.1); (have hS2 := hSw.2); clear hSw; go_simp; (first | done | with_reducible rfl))); simp only [Act.put, List.setIfInBounds_toArray, List.set_cons_zero, List.set_cons_succ]))
          refine ordE ?_
          obtain ⟨ws, hws⟩ : ∃ q, q = (wr.setCell ⟨g9, k, none⟩ u.v).drew := ⟨_, rfl⟩
          rw [← hws] at hOs hOos hbs hcy0 hszs
          try rw [show (wr.setCell ⟨g9, k, none⟩ (.slice u.A u.n u.c)).drew = ws from hws.symm]
          clear hws hcu hcud hfr hS hcx e0 hbel hsz
          rw [HA0.out]
          go_wp2_with (at_builtin; go_must (refine wpList_app1 ws rfl _ _ 25 rfl 3 i0 _ 8 Try.underlying25 hi0 hz0 hz1 hz2 rfl v2.heap.size A i c _ rfl hOos.own 1 rfl rfl ?f1 ?f2 ?f3 ?_))
          case f1 => clear t3 t4; simp only [maxLen]; omega
          case f2 => clear t3 t4; omega
          try case f3 => exact hszs
          intro A6 c6 w6 hown6 hbel6 hfr6 _
          clear t3 t4
          have hO6 : OwnI w6 v2.heap.size ⟨A6, i + 1, c6, turnO (y.zs.take (i + 1)) r x.n⟩ := by
            refine ⟨?_, fun q hq => ?_⟩
            · show Own w6 v2.heap.size _ A6 (i + 1) c6 (ci64 (turnO (y.zs.take (i + 1)) r x.n))
              rw [HTS.out, ci64_app]; exact hown6
            · have hq : q ∈ turnO (y.zs.take (i + 1)) r x.n := hq
              rw [HTS.out] at hq
              rcases List.mem_append.1 hq with hq | hq
              · exact hOos.fit q hq
              · rw [List.mem_singleton.1 hq]; omega
          have hOs6 := Own.other hOs hOos.own (by decide) hfr6
          have hb6 := hbs.trans hbel6
          clear hown6 hbel6 hfr6 hOos hOs hcy0
          go_wp2
          (try rw [← HA0.out])
          go_roundw
          case rel => exact ⟨i + 1, c6, A6, by omega, by go_num, rfl, hOs6, hO6, hb6⟩
          case measure => simp [intOf]; omega
        · obtain rfl : i = x.n := by omega
          have hgo : Gr.Ok wr ⟨some ⟨g9, 0, none⟩, x.n, x.n, turnS x.t r x.n x.n⟩ := own_lists hOt fun v hv => hx.lss.ok v (turnS_mem (Nat.le_of_lt hrn) HXL.out hv) |>.below hbel
          have HGA : Hid (Gr.g ⟨some ⟨g9, 0, none⟩, x.n, x.n, turnS x.t r x.n x.n⟩ = Ls.all (turnS x.t r x.n x.n)) := Lib.hid rfl
          have HOA : Hid (turnO (y.zs.take x.n) r x.n = turnO y.zs r x.n) := Lib.hid (by rw [List.take_of_length_le (by rw [HYL.out, HYN.out]; exact Nat.le_refl _)])
          have hoo : Ls.Ok wr ⟨A, x.n, c, turnO y.zs r x.n⟩ := by have h5 := hOo.ok; rw [HOA.out] at h5; exact h5
          clear hOt hOo e0
          replace bg := bg.below hbel
          replace h1 := h1.below hbel
          replace hB := hB.trans (hbel.mono hB.size)
          clear hbel
          have eg0 := bg.c0
          have eg1 := bg.c1
          have hc := pfirstC ⟨some ⟨g9, 0, none⟩, x.n, x.n, turnS x.t r x.n x.n⟩ (M : Int) ⟨A, x.n, c, turnO y.zs r x.n⟩ wr hgo (by omega) (by omega) hoo
          rw [show Gr.v ⟨some ⟨g9, 0, none⟩, x.n, x.n, turnS x.t r x.n x.n⟩ = .slice (some ⟨g9, 0, none⟩) x.n x.n from rfl, show Ls.v ⟨A, x.n, c, turnO y.zs r x.n⟩ = .slice A x.n c from rfl, HGA.out, F1.out, F2.out] at hc
          go_wp2_with fail
          clear eg0 eg1
          refine hc.mono ?_
          rintro e v3 ⟨A7, n7, c7, rfl, h7, hb⟩
          clear hc
          replace hgo := hgo.below hb
          replace hoo := hoo.below hb
          replace h1 := h1.below hb
          replace bg := bg.below hb
          replace hB := hB.trans (hb.mono hB.size)
          clear hb
          clear hgo hoo
          obtain rfl : n7 = x.n := by have h5 := h7.len; have h6 := F4.out; simp only at h5; omega
          go_wp2_with fail
          go_loopw [16] (fun v wr => ∃ i : Nat, i ≤ x.n ∧ v = .int .i64 i ∧ Below v3.heap.size v3 wr) (fun v _ => x.n - (intOf v).toNat)
          case atStart => exact ⟨0, Nat.zero_le _, rfl, Below.refl _ _⟩
          case round =>
            obtain ⟨i, hi, rfl, hbel⟩ := hrel
            have hi0' : (0 : Int) ≤ i := by omega
            by_cases hin : i < x.n
            · have hin' : (i : Int) < x.n := by omega
              obtain ⟨k, hk⟩ : ∃ k, (i + r) % x.n = k := ⟨_, rfl⟩
              have hkn : k < x.n := by rw [← hk]; exact Nat.mod_lt _ (by omega)
              have hkn' : (k : Int) < x.n := by omega
              have hk0 : (0 : Int) ≤ k := by omega
              have s5 : IntKind.i64.wrap ((i : Int) + r) = (i : Int) + r := by rw [IntKind.wrap_i64]; omega
              have s6 : IntKind.i64.wrap (k : Int) = (k : Int) := by rw [IntKind.wrap_i64]; omega
              have hf3 := F3.out i hin
              rw [hk] at hf3
              obtain ⟨p3, q3, hA3, hp3, y0, hy0, hc3⟩ := (h7.below hbel).ok.rd.get hkn
              simp only at hA3
              rw [show ci64 rl = rl.map iV from rfl, List.getElem?_map, hf3] at hy0
              obtain rfl := Option.some.inj hy0
              obtain ⟨p4, q4, hA4, hp4, y1, hy1, hc4⟩ := (h1.below hbel).ok.rd.get hin
              simp only at hA4
              rw [show ci64 hl = hl.map iV from rfl, List.getElem?_map, HGET.out i hin] at hy1
              obtain rfl := Option.some.inj hy1
              unfold iV at hc3 hc4
              obtain ⟨z, hz⟩ : ∃ z, optI (firstV x.g M y.zs i) = z := ⟨_, rfl⟩
              rw [hz] at hc3 hc4
              have gz : (z != z) = false := by simp
              rw [hA3, hA4]
              have HA3 := Lib.hid hA3
              have HA4 := Lib.hid hA4
              have hbn := hbel.drew
              have t3 : ((i : Int) + r).tmod (x.n : Int) = (k : Int) := by rw [Int.tmod_eq_emod_of_nonneg (by omega), ← hk]; simp
              clear hf3 hy0 hy1 hz hk hA3 hA4
              go_wp2_with fail
              refine wp_region_ord (S := fun w' => w'.cell? ⟨p3, q3 + k, none⟩ = some (.int .i64 z) ∧ w'.cell? ⟨p4, q4 + i, none⟩ = some (.int .i64 z)) [(0, true), (1, true), (2, true), (3, true), (4, true), (5, true), (6, true), (7, true), (8, true), (9, true), (10, true), (11, true), (12, true)] default (by kernel_rfl) (by kernel_rfl) (by kernel_rfl) ⟨hc3, hc4⟩ ?_
              simp only [getOrd, nth]
              repeat (first | (refine ordS (by rfl) ?_; simp only [Act.put, List.setIfInBounds_toArray, List.set_cons_zero, List.set_cons_succ]) | (refine ordN (by rfl) ?_; simp only [Act.put, List.setIfInBounds_toArray, List.set_cons_zero, List.set_cons_succ]) | (refine ordQ (v := ?_) (by rfl) (fun _ hSw => ?_) ?_; rotate_left; (focus ((have hS1 := hSw.1); (have hS2 := hSw.2); clear hSw; go_simp; (first | done | with_reducible rfl))); simp only [Act.put, List.setIfInBounds_toArray, List.set_cons_zero, List.set_cons_succ]))
              refine ordE ?_
              clear t3
              go_wp2
              go_roundw
              case rel => exact ⟨i + 1, by omega, by go_num, hbn⟩
              case measure => simp [intOf]; omega
            · obtain rfl : i = x.n := by omega
              have hwv : Below w.heap.size w wr := hB.trans (hbel.mono hB.size)
              have hc := alive11_any wr
              go_wp2_with fail
              refine hc.mono ?_
              rintro e v9 ⟨rfl, hb⟩
              clear hc
              have hfin := hwv.trans (hb.mono hwv.size)
              go_wp2
              go_ret
              exact ⟨rfl, hfin⟩

theorem own : ownKnob Try.prog.godebug = none := by kernel_rfl
theorem laidOut : laidOutB Try.prog = true := by kernel_rfl

set_option maxRecDepth 100000 in
theorem lifted (os : Os) (started : os.Started) (H : Type) (enc : TypeId × Value → H) :
    ReturnsInHanded {} Try.checked os 6 .any (Rows.firstsNamedSpec.pre6 enc Try.prog Try.f6 Rows.firstsNamedRow.domain false) (Rows.firstsNamedSpec.post enc Try.prog Try.f6 false true false false) := by
  refine returnsInHanded_of_change (C := Try.checked) own started (by kernel_rfl) Try.func6
    (ChangeSpec.witness6 (enc := enc) (C := Try.checked) false ⟨#[], #[.agg #[.slice none 0 0, .int .i64 0], .slice none 0 0, .int .u8 0], []⟩ 8 (by kernel_rfl) (by kernel_rfl) (by kernel_rfl) (by kernel_rfl)) ?_
  intro W base args ds gs before hval0 hW hcnd _
  have hval : ∀ (j : Nat) t v, Try.f6.params[j]? = some t → args[j]? = some v → Value.okWide Try.prog W .any base t v := hval0
  have hW' := hW
  obtain ⟨p, q, hA0, hV, rfl, hfz, hnd⟩ := hW
  have hA : DataW.TrodAll enc Try.prog W 0 (fun _ => true) true Try.f6.params.toList args.toList ds p := hA0
  rw [Try.params6] at hA hval
  obtain ⟨v0, vs0, d0, ds0, p0, q0, hargs, rfl, rfl, h0, r0⟩ := trodAll_cons hA
  obtain ⟨v1, vs1, d1, ds1, p1, q1, rfl, rfl, rfl, h1, r1⟩ := trodAll_cons r0
  obtain ⟨v2, vs2, d2, ds2, p2, q2, rfl, rfl, rfl, h2, r2⟩ := trodAll_cons r1
  obtain ⟨rfl, rfl, rfl⟩ := trodAll_nil r2
  obtain rfl : args = #[v0, v1, v2] := by cases args; simp_all
  obtain ⟨u0, m0, rfl, k0, a0, b0⟩ := arg_gr Try.underlying24 (by kernel_rfl) (by kernel_rfl) Try.underlying22 Try.underlying3 Try.underlying25 (by kernel_rfl) Try.underlying3 (by kernel_rfl) (hval 0 24 v0 rfl rfl) h0
  obtain ⟨A1, n1, c1, l1, rfl, a1, b1, e1, g1⟩ := arg_i64s Try.underlying25 Try.underlying3 (by kernel_rfl) (hval 1 25 v1 rfl rfl) h1
  obtain ⟨x2, rfl, rfl, rfl, w2⟩ := open_int Try.underlying5 (hval 2 5 v2 rfl rfl) h2
  obtain ⟨y2, rfl, z2⟩ := fit_u8 w2
  have hwalk : Calls Try.prog 6 #[.agg #[u0.v, .int .i64 m0], .slice A1 n1 c1, .int .u8 y2] W fun e w' => e = .returned (.bool true) ∧ Below W.heap.size W w' := walk u0 m0 ⟨A1, n1, c1, l1⟩ y2 W k0 a0 b0 ⟨a1, b1, e1, g1⟩ z2
  refine hwalk.mono fun e W' ⟨he, hg⟩ => ?_
  subst he
  exact ⟨_, rfl, law_post laidOut (by kernel_rfl) hW' rfl rfl (by kernel_rfl) Try.underlying4 hg⟩

theorem over : Rows.firstsNamedRow.holds Try.pinned (OpenSpec.ofChange Rows.firstsNamedSpec) :=
  OpenClaim.holds_of_wide 6 Try.f6 rfl rfl rfl rfl rfl rfl rfl ⟨rfl, rfl, rfl, rfl, rfl⟩ rfl rfl rfl rfl rfl (by kernel_rfl) Try.func6 (by kernel_rfl)
    (of_decide_eq_true (by kernel_rfl)) (by unfold Func.isWrapper; first | (rw [if_pos (by decide +kernel)]; kernel_rfl) | (rw [if_neg (by decide +kernel)]; exact ⟨rfl, rfl⟩))
    (fun os started H enc _ => lifted os started H enc)

theorem proved : Rows.FirstsNamedSaid :=
  over

end Go.Proofs.Ytecgakfblhiiaaa.firstsNamed
