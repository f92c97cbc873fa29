/-
  What the laws of layer 11 lean on: what a matching gains; two lists written down, and a list behind them.
-/
import Derived.Test.YtecgakfblhiiaaaFiW
import Derived.Test.YtecgakfblhiiaaaWeL
import Derived.Test.YtecgakfblhiiaaaWeM
namespace Go.Proofs.Ytecgakfblhiiaaa
open Go.RowKit
set_option linter.unusedVariables false

/-- An item, told as a number, or none. -/
def itemO (z : Int) : Option Nat := if z = -1 then none else some z.toNat
theorem itemO_opt (o : Option Nat) : itemO (optI o) = o := by
  cases o with
  | none => rfl
  | some k => rw [itemO, optI, if_neg (by omega)]; simp
def hasA (l : List Int) (b : Nat) : Option Nat := itemO (l.getD b (-1))
/-- May one have what is told of it, with what is told of those ahead of it? -/
def mayAt (g : List (List Int)) (M : Nat) (l : List Int) (i : Nat) : Bool := decide (l.getD i (-1) = -1) || (decide (0 ≤ l.getD i (-1)) && (decide (l.getD i (-1) < M) && (decide (0 ≤ gG g i (l.getD i (-1)).toNat) && (List.range i).all fun k => decide (l.getD k (-1) ≠ l.getD i (-1)))))
def validW (g : List (List Int)) (M : Nat) (l : List Int) : Bool := decide (l.length = g.length) && (List.range g.length).all (mayAt g M l)
def sumV (g : List (List Int)) (M : Nat) (l : List Int) : Int := if validW g M l = true then wtN (gG g) (hasA l) g.length else 0
theorem mayAt_iff {g : List (List Int)} {M : Nat} {l : List Int} {i : Nat} : mayAt g M l i = true ↔ l.getD i (-1) = -1 ∨ (0 ≤ l.getD i (-1) ∧ l.getD i (-1) < M ∧ 0 ≤ gG g i (l.getD i (-1)).toNat ∧ ∀ k, k < i → l.getD k (-1) ≠ l.getD i (-1)) := by
  rw [mayAt]; simp only [Bool.or_eq_true, Bool.and_eq_true, decide_eq_true_eq, List.all_eq_true, List.mem_range]
theorem valid_mt {g : List (List Int)} {M : Nat} {l : List Int} (h : validW g M l = true) : l.length = g.length ∧ Mt (gG g) M g.length topP (hasA l) := by
  rw [validW, Bool.and_eq_true, decide_eq_true_eq, List.all_eq_true] at h
  have h2 : ∀ i, i < g.length → ∀ c, hasA l i = some c → l.getD i (-1) = c ∧ c < M ∧ 0 ≤ gG g i c ∧ ∀ k, k < i → l.getD k (-1) ≠ l.getD i (-1) := fun i hi c e => by
    rcases mayAt_iff.1 (h.2 i (List.mem_range.2 hi)) with h3 | ⟨h3, h4, h5, h6⟩
    · rw [hasA, itemO, if_pos h3] at e; cases e
    · rw [hasA, itemO, if_neg (by omega)] at e
      cases e
      exact ⟨by omega, by omega, h5, h6⟩
  refine ⟨h.1, ⟨fun b b' c hb hb' e e' => ?_, fun b hb c e => ⟨(h2 b hb c e).2.1, rfl, (h2 b hb c e).2.2.1⟩⟩⟩
  obtain ⟨a1, _, _, a2⟩ := h2 b hb c e
  obtain ⟨b1, _, _, b2⟩ := h2 b' hb' c e'
  rcases Nat.lt_trichotomy b b' with h | h | h
  · exact absurd (by omega) (b2 b h)
  · exact h
  · exact absurd (by omega) (a2 b' h)
theorem mt_valid {g : List (List Int)} {M : Nat} {A : Nat → Option Nat} (hA : Mt (gG g) M g.length topP A) : validW g M ((List.range g.length).map fun b => optI (A b)) = true ∧ wtN (gG g) (hasA ((List.range g.length).map fun b => optI (A b))) g.length = wtN (gG g) A g.length := by
  have hget : ∀ b, b < g.length → ((List.range g.length).map fun b => optI (A b)).getD b (-1) = optI (A b) := fun b hb => by
    rw [List.getD_eq_getElem?_getD, List.getElem?_map, List.getElem?_range hb]; rfl
  refine ⟨?_, wt_same fun b hb => by rw [hasA, hget b hb, itemO_opt]⟩
  rw [validW, Bool.and_eq_true, decide_eq_true_eq, List.all_eq_true]
  refine ⟨by simp, fun i hi => mayAt_iff.2 ?_⟩
  have hi := List.mem_range.1 hi
  rw [hget i hi]
  cases e : A i with
  | none => exact .inl rfl
  | some c =>
    obtain ⟨h1, _, h2⟩ := hA.ok i hi c e
    refine .inr ⟨by simp only [optI]; omega, by simp only [optI]; omega, by simpa [optI] using h2, fun k hk => ?_⟩
    rw [hget k (by omega)]
    intro he
    have := hA.inj k i c (by omega) hi (by rw [optI_inj he]) e
    omega
theorem lit_gr2_ls (w : World) (a b d : List Int) (ha : a.length ≤ 1000) (fa : ∀ z ∈ a, -1000 ≤ z ∧ z ≤ 1000) (hb : b.length ≤ 1000) (fb : ∀ z ∈ b, -1000 ≤ z ∧ z ≤ 1000) (hd : d.length ≤ 1000) (fd : ∀ z ∈ d, -1000 ≤ z ∧ z ≤ 1000) :
    ∃ (x : Gr) (u : Ls), x.v = .slice (some ⟨w.heap.size + 1 + 1, 0, none⟩) 2 2 ∧ x.g = [a, b] ∧ u.v = .slice (some ⟨w.heap.size + 1 + 1 + 1, 0, none⟩) d.length d.length ∧ u.zs = d ∧ x.Ok ((((w.alloc (.cells (ci64 a).toArray 3)).alloc (.cells (ci64 b).toArray 3)).alloc (.cells #[.slice (some ⟨w.heap.size, 0, none⟩) a.length a.length, .slice (some ⟨w.heap.size + 1, 0, none⟩) b.length b.length] 25)).alloc (.cells (ci64 d).toArray 3)) ∧ u.Ok ((((w.alloc (.cells (ci64 a).toArray 3)).alloc (.cells (ci64 b).toArray 3)).alloc (.cells #[.slice (some ⟨w.heap.size, 0, none⟩) a.length a.length, .slice (some ⟨w.heap.size + 1, 0, none⟩) b.length b.length] 25)).alloc (.cells (ci64 d).toArray 3)) ∧ Below w.heap.size w ((((w.alloc (.cells (ci64 a).toArray 3)).alloc (.cells (ci64 b).toArray 3)).alloc (.cells #[.slice (some ⟨w.heap.size, 0, none⟩) a.length a.length, .slice (some ⟨w.heap.size + 1, 0, none⟩) b.length b.length] 25)).alloc (.cells (ci64 d).toArray 3)) := by
  have hz : ∀ (v : World) (o1 : Obj), (v.alloc o1).heap.size = v.heap.size + 1 := fun v o1 => Array.size_push ..
  obtain ⟨x, h1, h2, h3, h4⟩ := lit_gr2 w a b ha fa hb fb
  obtain ⟨u, k1, k2, k3, k4⟩ := lit_ls (((w.alloc (.cells (ci64 a).toArray 3)).alloc (.cells (ci64 b).toArray 3)).alloc (.cells #[.slice (some ⟨w.heap.size, 0, none⟩) a.length a.length, .slice (some ⟨w.heap.size + 1, 0, none⟩) b.length b.length] 25)) d hd fd
  refine ⟨x, u, h1, h2, ?_, k2, h3.below k4, k3, h4.trans (k4.mono h4.size)⟩
  rw [k1, hz, hz, hz]
theorem wt_le8 {G : Nat → Nat → Int} {A : Nat → Option Nat} (h : ∀ b c, G b c ≤ 1000000) (h0 : ∀ b c, -1000000 ≤ G b c) : ∀ n : Nat, -(n * 1000000) ≤ wtN G A n ∧ wtN G A n ≤ n * 1000000
  | 0 => by simp [wtN]
  | n + 1 => by
    rw [wtN]
    have h1 := wt_le8 (A := A) h h0 n
    have h2 : -1000000 ≤ gainO (G n) (A n) ∧ gainO (G n) (A n) ≤ 1000000 := by
      cases A n with
      | none => simp [gainO]
      | some c => exact ⟨h0 n c, h n c⟩
    omega
set_option maxRecDepth 100000 in
set_option maxHeartbeats 4000000 in
theorem lgains_any (x : Gr) (M : Nat) (y : Ls) (w : World) (hx : x.Ok w) (hy : y.Ok w) (hM : mayW x.g M = true) :
    Calls Try.prog 13 #[.agg #[.slice x.A x.n x.c, .int .i64 M], .slice y.A y.n y.c] w fun e w' => e = .returned (.tuple #[.int .i64 (sumV x.g M y.zs), .bool (validW x.g M y.zs)]) ∧ Below w.heap.size w w' := by
  have HG := Lib.hid hx.glen
  have HYL := Lib.hid hy.len
  obtain ⟨hM1, hM8, hx8⟩ := may_m hM
  rw [HG.out] at hx8
  have ty := Nat.le_trans hy.cap hy.top
  unfold maxLen at ty
  obtain ⟨V, hV⟩ : ∃ V, validW x.g M y.zs = V := ⟨_, rfl⟩
  obtain ⟨SV, hSV⟩ : ∃ V, sumV x.g M y.zs = V := ⟨_, rfl⟩
  rw [hV, hSV]
  have HV := Lib.hid hV
  have HBAD : Hid (V = false → SV = 0) := Lib.hid fun h => by rw [← hSV, sumV, if_neg (by rw [hV, h]; simp)]
  have HNO : Hid (∀ i, i < x.n → mayAt x.g M y.zs i = false → V = false) := Lib.hid fun i hi h => by
    rw [← hV, Bool.eq_false_iff]
    intro h2
    rw [validW, Bool.and_eq_true, List.all_eq_true] at h2
    rw [h2.2 i (List.mem_range.2 (by rw [HG.out]; exact hi))] at h
    cases h
  have HLEN : Hid (y.n ≠ x.n → V = false) := Lib.hid fun h => by
    rw [← hV, Bool.eq_false_iff]
    intro h2
    rw [validW, Bool.and_eq_true, decide_eq_true_eq, HG.out, HYL.out] at h2
    exact h h2.1
  have HYES : Hid (y.n = x.n → (∀ i, i < x.n → mayAt x.g M y.zs i = true) → V = true ∧ SV = wtN (gG x.g) (hasA y.zs) x.n) := Lib.hid fun h h2 => by
    have h3 : V = true := by
      rw [← hV, validW, Bool.and_eq_true, decide_eq_true_eq, List.all_eq_true]
      exact ⟨by rw [HG.out, HYL.out]; exact h, fun i hi => h2 i (by rw [← HG.out]; exact List.mem_range.1 hi)⟩
    exact ⟨h3, by rw [← hSV, sumV, if_pos (by rw [hV]; exact h3), HG.out]⟩
  have HBND : Hid (∀ i : Nat, -((i : Int) * 1000000) ≤ wtN (gG x.g) (hasA y.zs) i ∧ wtN (gG x.g) (hasA y.zs) i ≤ i * 1000000) := Lib.hid fun i => wt_le8 (fun b c => (gG_bound hM b c).2) (fun b c => (gG_bound hM b c).1) i
  have HROW : Hid (∀ b, b < x.n → (x.g.getD b []).length = M ∧ ∀ z ∈ x.g.getD b [], -1000000 ≤ z ∧ z ≤ 1000000) := Lib.hid fun b hb => by
    have h1 := may_row hM (b := b) (by rw [HG.out]; exact hb)
    rw [List.getD_eq_getElem?_getD, List.getElem?_eq_getElem (by rw [HG.out]; exact hb)]; exact h1
  clear hV hSV hM
  have hbx : Below w.heap.size w (w.alloc (.cells #[.slice x.A x.n x.c, .int .i64 (M : Int)] 24)) := (Below.refl _ w).alloc (Nat.le_refl _) _
  have bg := WBox.new w x M
  have e0 := bg.c0
  go_enter Try.func13, Try.ntmps13
  by_cases hyx : y.n = x.n
  rotate_left
  · have gn : ((y.n : Int) != (x.n : Int)) = true := by rw [bne_iff_ne]; omega
    have gn2 : (y.n != x.n) = true := by rw [bne_iff_ne]; exact hyx
    have HF := Lib.hid (HLEN.out hyx)
    have HS := Lib.hid (HBAD.out HF.out)
    clear hyx
    go_wp2
    go_ret2
    exact ⟨by rw [HF.out, HS.out]; try rfl, hbx⟩
  have gn : ((y.n : Int) != (x.n : Int)) = false := by rw [bne_eq_false_iff_eq]; omega
  have gn2 : (y.n != x.n) = false := by rw [bne_eq_false_iff_eq]; exact hyx
  have HYX := Lib.hid hyx
  clear hyx
  go_wp2_with fail
  clear e0 gn gn2
  generalize w.alloc (.cells #[.slice x.A x.n x.c, .int .i64 (M : Int)] 24) = w1 at *
  go_loopw [6, 7] (fun s v wr => ∃ i : Nat, i ≤ x.n ∧ v = .int .i64 i ∧ s = .int .i64 (wtN (gG x.g) (hasA y.zs) i) ∧ Hid (∀ j, j < i → mayAt x.g M y.zs j = true) ∧ Below w.heap.size w wr ∧ Below w1.heap.size w1 wr) (fun _ v _ => x.n - (intOf v).toNat)
  case atStart => exact ⟨0, Nat.zero_le _, rfl, rfl, Lib.hid (fun j hj => absurd hj (by omega)), hbx, Below.refl _ _⟩
  case round =>
    obtain ⟨i, hi, rfl, rfl, hok, hb, hb1⟩ := hrel
    have hi0 : (0 : Int) ≤ i := by omega
    have e0 := (bg.below hb1).c0
    by_cases hin : i < x.n
    · have hin' : (i : Int) < x.n := by omega
      have hiy : i < y.n := by rw [HYX.out]; exact hin
      have hiy' : (i : Int) < y.n := by omega
      have hil : i < y.zs.length := by rw [HYL.out]; exact hiy
      obtain ⟨p1, q1, hA1, hp1, y0, hy0, hc10⟩ := hy.rd.get hiy
      rw [ci64_get _ _ hil] at hy0
      obtain rfl : iV y.zs[i] = y0 := Option.some.inj hy0
      unfold iV at hc10
      have hgz : y.zs.getD i (-1) = y.zs[i] := by rw [List.getD_eq_getElem?_getD, List.getElem?_eq_getElem hil]; rfl
      have hfz := hy.fit _ (List.getElem_mem hil)
      obtain ⟨z, hz⟩ : ∃ z, y.zs[i] = z := ⟨_, rfl⟩
      rw [hz] at hc10 hgz hfz
      have hc1 := (hb.cell (p := ⟨p1, q1 + i, none⟩) hp1).trans hc10
      have HGZ := Lib.hid hgz
      rw [hA1]
      have HA1 := Lib.hid hA1
      have hbi := HBND.out i
      have hsuc : wtN (gG x.g) (hasA y.zs) (i + 1) = wtN (gG x.g) (hasA y.zs) i + gainO (gG x.g i) (itemO z) := by rw [wtN, hasA, HGZ.out]
      clear hy0 hgz hz hc10 hA1
      by_cases hz1 : z = -1
      · have HOK2 : Hid (∀ j, j < i + 1 → mayAt x.g M y.zs j = true) := Lib.hid fun j hj => by
          by_cases e : j = i
          · subst e; exact mayAt_iff.2 (.inl (by rw [HGZ.out]; exact hz1))
          · exact hok.out j (by omega)
        have HSU : Hid (wtN (gG x.g) (hasA y.zs) (i + 1) = wtN (gG x.g) (hasA y.zs) i) := Lib.hid (by rw [hsuc, hz1]; simp [itemO, gainO])
        obtain ⟨sk, hsk⟩ : ∃ q, wtN (gG x.g) (hasA y.zs) i = q := ⟨_, rfl⟩
        rw [hsk] at HSU ⊢
        have gz : (z == -1) = true := by rw [beq_iff_eq]; exact hz1
        clear hz1 hsuc hok hsk hbi
        go_wp2
        go_roundw
        case rel => exact ⟨i + 1, by omega, by go_num, by rw [HSU.out], HOK2, hb, hb1⟩
        case measure => simp [intOf]; omega
      have gz : (z == -1) = false := by rw [beq_eq_false_iff_ne]; exact hz1
      obtain ⟨p2, q2, u, hAx, _, hgy, hp2, hcx0, hku0⟩ := hx.get hin
      have hcx := (hb.cell (p := ⟨p2, q2 + i, none⟩) hp2).trans hcx0
      have hku := hku0.below hb
      have hrw := HROW.out i hin
      rw [hgy] at hrw
      have hun : u.n = M := by have := hku.len; rw [← this]; exact hrw.1
      have hGi : ∀ k (hk : k < u.zs.length), gG x.g i k = u.zs[k] := fun k hk => by
        rw [gG, hgy, List.getD_eq_getElem?_getD, List.getElem?_eq_getElem hk]; rfl
      obtain ⟨uA, un, uc, ul⟩ := u
      simp only at hun hrw hGi
      subst hun
      have hurd := hku.rd
      simp only at hurd
      have HUL := Lib.hid hrw.1
      have HZB := Lib.hid hrw.2
      have HGI := Lib.hid hGi
      obtain ⟨p4, q4, hA4, _⟩ := hurd.get (show 0 < un by omega)
      subst hA4
      replace hcx : wr.cell? ⟨p2, q2 + i, none⟩ = some (.slice (some ⟨p4, q4, none⟩) un uc) := hcx
      rw [hAx] at e0
      have HAX := Lib.hid hAx
      have hS0 : wr.cell? ⟨w.heap.size, 0, none⟩ = some (.slice (some ⟨p2, q2, none⟩) x.n x.c) ∧ wr.cell? ⟨p1, q1 + i, none⟩ = some (.int .i64 z) ∧ wr.cell? ⟨p2, q2 + i, none⟩ = some (.slice (some ⟨p4, q4, none⟩) un uc) := ⟨e0, hc1, hcx⟩
      obtain ⟨sk, hsk⟩ : ∃ q, wtN (gG x.g) (hasA y.zs) i = q := ⟨_, rfl⟩
      have HSK := Lib.hid hsk
      rw [hsk] at hsuc hbi ⊢
      have HSU := Lib.hid hsuc
      have hbd := hb.drew
      have hbd1 := hb1.drew
      clear hcx0 hku0 hku hgy hrw hGi hAx hsk hsuc
      go_wp2_with fail
      by_cases hz0 : z < 0
      · have g1 : decide (z < 0) = true := decide_eq_true hz0
        have HF := Lib.hid (HNO.out i hin (by
          rw [Bool.eq_false_iff]
          intro h
          rcases mayAt_iff.1 h with h | ⟨h, _⟩
          · rw [HGZ.out] at h; exact hz1 h
          · rw [HGZ.out] at h; omega))
        have HS := Lib.hid (HBAD.out HF.out)
        clear hz1 hz0
        refine wp_region_ord (S := fun w' => w'.cell? ⟨w.heap.size, 0, none⟩ = some (.slice (some ⟨p2, q2, none⟩) x.n x.c) ∧ w'.cell? ⟨p1, q1 + i, none⟩ = some (.int .i64 z) ∧ w'.cell? ⟨p2, q2 + i, none⟩ = some (.slice (some ⟨p4, q4, none⟩) un uc)) [(0, true), (1, true), (2, true), (3, true), (4, true), (5, true), (6, true), (7, true), (8, true), (9, true), (10, true), (11, true), (12, true), (13, true), (14, true), (15, true), (16, true), (17, true), (18, true), (19, true), (20, true), (21, true), (22, true), (23, true), (24, true), (25, true), (26, true), (27, true), (28, true), (29, true), (30, true), (31, true)] default (by kernel_rfl) (by kernel_rfl) (by kernel_rfl) hS0 ?_
        simp only [getOrd, nth]
        repeat (first | (refine ordS (by rfl) ?_; simp only [Act.put, List.setIfInBounds_toArray, List.set_cons_zero, List.set_cons_succ]) | (refine ordN (by rfl) ?_; simp only [Act.put, List.setIfInBounds_toArray, List.set_cons_zero, List.set_cons_succ]) | (refine ordQ (v := ?_) (by rfl) (fun _ hSw => ?_) ?_; rotate_left; (focus ((have hS1 := hSw.1); (have hS2 := hSw.2.1); (have hS3 := hSw.2.2); clear hSw; go_simp; (first | done | with_reducible rfl))); simp only [Act.put, List.setIfInBounds_toArray, List.set_cons_zero, List.set_cons_succ]))
        refine ordE ?_
        go_wp2
        go_ret2
        exact ⟨by rw [HF.out, HS.out]; try rfl, hbd⟩
      have g1 : decide (z < 0) = false := decide_eq_false hz0
      obtain ⟨k, rfl⟩ : ∃ k : Nat, z = k := ⟨z.toNat, by omega⟩
      by_cases hkM : k < un
      rotate_left
      · have g2 : decide ((un : Int) ≤ (k : Int)) = true := decide_eq_true (by omega)
        have g2' : decide (un ≤ k) = true := decide_eq_true (by omega)
        have HF := Lib.hid (HNO.out i hin (by
          rw [Bool.eq_false_iff]
          intro h
          rcases mayAt_iff.1 h with h | ⟨_, h, _⟩
          · rw [HGZ.out] at h; exact hz1 h
          · rw [HGZ.out] at h; omega))
        have HS := Lib.hid (HBAD.out HF.out)
        clear hz1 hz0 hkM
        refine wp_region_ord (S := fun w' => w'.cell? ⟨w.heap.size, 0, none⟩ = some (.slice (some ⟨p2, q2, none⟩) x.n x.c) ∧ w'.cell? ⟨p1, q1 + i, none⟩ = some (.int .i64 (k : Int)) ∧ w'.cell? ⟨p2, q2 + i, none⟩ = some (.slice (some ⟨p4, q4, none⟩) un uc)) [(0, true), (1, true), (2, true), (3, true), (4, true), (5, true), (6, true), (7, true), (8, true), (9, true), (10, true), (11, true), (12, true), (13, true), (14, true), (15, true), (16, true), (17, true), (18, true), (19, true), (20, true), (21, true), (22, true), (23, true), (24, true), (25, true), (26, true), (27, true), (28, true), (29, true), (30, true), (31, true)] default (by kernel_rfl) (by kernel_rfl) (by kernel_rfl) hS0 ?_
        simp only [getOrd, nth]
        repeat (first | (refine ordS (by rfl) ?_; simp only [Act.put, List.setIfInBounds_toArray, List.set_cons_zero, List.set_cons_succ]) | (refine ordN (by rfl) ?_; simp only [Act.put, List.setIfInBounds_toArray, List.set_cons_zero, List.set_cons_succ]) | (refine ordQ (v := ?_) (by rfl) (fun _ hSw => ?_) ?_; rotate_left; (focus ((have hS1 := hSw.1); (have hS2 := hSw.2.1); (have hS3 := hSw.2.2); clear hSw; go_simp; (first | done | with_reducible rfl))); simp only [Act.put, List.setIfInBounds_toArray, List.set_cons_zero, List.set_cons_succ]))
        refine ordE ?_
        go_wp2
        go_ret2
        exact ⟨by rw [HF.out, HS.out]; try rfl, hbd⟩
      have g2 : decide ((un : Int) ≤ (k : Int)) = false := decide_eq_false (by omega)
      have g2' : decide (un ≤ k) = false := decide_eq_false (by omega)
      have hkM' : (k : Int) < un := by omega
      have hk0 : (0 : Int) ≤ k := by omega
      have hkl : k < ul.length := by rw [HUL.out]; exact hkM
      obtain ⟨p5, q5, hA5, hp5, t0, ht0, hct⟩ := hurd.get hkM
      cases hA5
      rw [ci64_get _ _ hkl] at ht0
      obtain rfl : iV ul[k] = t0 := Option.some.inj ht0
      unfold iV at hct
      have hGk := HGI.out k hkl
      have htb := HZB.out _ (List.getElem_mem hkl)
      obtain ⟨t, ht⟩ : ∃ t, ul[k] = t := ⟨_, rfl⟩
      rw [ht] at hct hGk htb
      have HGK := Lib.hid hGk
      have hS1 : wr.cell? ⟨w.heap.size, 0, none⟩ = some (.slice (some ⟨p2, q2, none⟩) x.n x.c) ∧ wr.cell? ⟨p1, q1 + i, none⟩ = some (.int .i64 (k : Int)) ∧ wr.cell? ⟨p2, q2 + i, none⟩ = some (.slice (some ⟨p4, q4, none⟩) un uc) ∧ wr.cell? ⟨p4, q4 + k, none⟩ = some (.int .i64 t) := ⟨hS0.1, hS0.2.1, hS0.2.2, hct⟩
      clear ht0 ht hGk
      by_cases ht0 : t < 0
      · have g3 : decide (t < 0) = true := decide_eq_true ht0
        have HF := Lib.hid (HNO.out i hin (by
          rw [Bool.eq_false_iff]
          intro h
          rcases mayAt_iff.1 h with h | ⟨_, _, h, _⟩
          · rw [HGZ.out] at h; exact hz1 h
          · rw [HGZ.out, Int.toNat_natCast, HGK.out] at h; omega))
        have HS := Lib.hid (HBAD.out HF.out)
        clear hz1 hz0 ht0
        refine wp_region_ord (S := fun w' => w'.cell? ⟨w.heap.size, 0, none⟩ = some (.slice (some ⟨p2, q2, none⟩) x.n x.c) ∧ w'.cell? ⟨p1, q1 + i, none⟩ = some (.int .i64 (k : Int)) ∧ w'.cell? ⟨p2, q2 + i, none⟩ = some (.slice (some ⟨p4, q4, none⟩) un uc) ∧ w'.cell? ⟨p4, q4 + k, none⟩ = some (.int .i64 t)) [(0, true), (1, true), (2, true), (3, true), (4, true), (5, true), (6, true), (7, true), (8, true), (9, true), (10, true), (11, true), (12, true), (13, true), (14, true), (15, true), (16, true), (17, true), (18, true), (19, true), (20, true), (21, true), (22, true), (23, true), (24, true), (25, true), (26, true), (27, true), (28, true), (29, true), (30, true), (31, true)] default (by kernel_rfl) (by kernel_rfl) (by kernel_rfl) hS1 ?_
        simp only [getOrd, nth]
        repeat (first | (refine ordS (by rfl) ?_; simp only [Act.put, List.setIfInBounds_toArray, List.set_cons_zero, List.set_cons_succ]) | (refine ordN (by rfl) ?_; simp only [Act.put, List.setIfInBounds_toArray, List.set_cons_zero, List.set_cons_succ]) | (refine ordQ (v := ?_) (by rfl) (fun _ hSw => ?_) ?_; rotate_left; (focus ((have hS1 := hSw.1); (have hS2 := hSw.2.1); (have hS3 := hSw.2.2.1); (have hS4 := hSw.2.2.2); clear hSw; go_simp; (first | done | with_reducible rfl))); simp only [Act.put, List.setIfInBounds_toArray, List.set_cons_zero, List.set_cons_succ]))
        refine ordE ?_
        go_wp2
        go_ret2
        exact ⟨by rw [HF.out, HS.out]; try rfl, hbd⟩
      have g3 : decide (t < 0) = false := decide_eq_false ht0
      refine wp_region_ord (S := fun w' => w'.cell? ⟨w.heap.size, 0, none⟩ = some (.slice (some ⟨p2, q2, none⟩) x.n x.c) ∧ w'.cell? ⟨p1, q1 + i, none⟩ = some (.int .i64 (k : Int)) ∧ w'.cell? ⟨p2, q2 + i, none⟩ = some (.slice (some ⟨p4, q4, none⟩) un uc) ∧ w'.cell? ⟨p4, q4 + k, none⟩ = some (.int .i64 t)) [(0, true), (1, true), (2, true), (3, true), (4, true), (5, true), (6, true), (7, true), (8, true), (9, true), (10, true), (11, true), (12, true), (13, true), (14, true), (15, true), (16, true), (17, true), (18, true), (19, true), (20, true), (21, true), (22, true), (23, true), (24, true), (25, true), (26, true), (27, true), (28, true), (29, true), (30, true), (31, true)] default (by kernel_rfl) (by kernel_rfl) (by kernel_rfl) hS1 ?_
      simp only [getOrd, nth]
      repeat (first | (refine ordS (by rfl) ?_; simp only [Act.put, List.setIfInBounds_toArray, List.set_cons_zero, List.set_cons_succ]) | (refine ordN (by rfl) ?_; simp only [Act.put, List.setIfInBounds_toArray, List.set_cons_zero, List.set_cons_succ]) | (refine ordQ (v := ?_) (by rfl) (fun _ hSw => ?_) ?_; rotate_left; (focus ((have hS1 := hSw.1); (have hS2 := hSw.2.1); (have hS3 := hSw.2.2.1); (have hS4 := hSw.2.2.2); clear hSw; go_simp; (first | done | with_reducible rfl))); simp only [Act.put, List.setIfInBounds_toArray, List.set_cons_zero, List.set_cons_succ]))
      refine ordE ?_
      go_wp2_with fail
      have hyd := hy.rd.below hbd
      go_loopw [8] (fun v ws => ∃ j : Nat, j ≤ i ∧ v = .int .i64 j ∧ Hid (∀ l, l < j → y.zs.getD l (-1) ≠ (k : Int)) ∧ Below w.heap.size w ws ∧ Below w1.heap.size w1 ws) (fun v _ => i - (intOf v).toNat)
      case atStart => exact ⟨0, Nat.zero_le _, rfl, Lib.hid (fun j hj => absurd hj (by omega)), hbd, hbd1⟩
      case round =>
        obtain ⟨j, hj, rfl, hne, hbj, hbj1⟩ := hrel
        have hj0 : (0 : Int) ≤ j := by omega
        by_cases hji : j < i
        · have hji' : (j : Int) < i := by omega
          have hjy : (j : Int) < y.n := by omega
          have hjx : (j : Int) < x.n := by omega
          have hjl : j < y.zs.length := by rw [HYL.out]; omega
          obtain ⟨p6, q6, hA6, hp6, y1, hy1, hc60⟩ := hy.rd.get (show j < y.n by omega)
          rw [HA1.out] at hA6
          cases hA6
          rw [ci64_get _ _ hjl] at hy1
          obtain rfl : iV y.zs[j] = y1 := Option.some.inj hy1
          unfold iV at hc60
          have hgj : y.zs.getD j (-1) = y.zs[j] := by rw [List.getD_eq_getElem?_getD, List.getElem?_eq_getElem hjl]; rfl
          obtain ⟨zj, hzj⟩ : ∃ z, y.zs[j] = z := ⟨_, rfl⟩
          rw [hzj] at hc60 hgj
          have HGJ := Lib.hid hgj
          have hc6 := (hbj.cell (p := ⟨p1, q1 + j, none⟩) hp6).trans hc60
          have hc7 := ((hbj.cell (p := ⟨p1, q1 + i, none⟩) hp1).trans (hb.cell (p := ⟨p1, q1 + i, none⟩) hp1).symm).trans hc1
          have hbjd := hbj.drew
          have hbjd1 := hbj1.drew
          clear hy1 hc60 hgj hzj
          go_wp2_with fail
          by_cases hq : zj = (k : Int)
          · have gq : (zj == (k : Int)) = true := by rw [beq_iff_eq]; exact hq
            have HF := Lib.hid (HNO.out i hin (by
              rw [Bool.eq_false_iff]
              intro h
              rcases mayAt_iff.1 h with h | ⟨_, _, _, h⟩
              · rw [HGZ.out] at h; exact hz1 h
              · exact h j hji (by rw [HGZ.out, HGJ.out]; exact hq)))
            have HS := Lib.hid (HBAD.out HF.out)
            clear hq hz1 hz0 ht0
            refine wp_region_ord (S := fun w' => w'.cell? ⟨p1, q1 + j, none⟩ = some (.int .i64 zj) ∧ w'.cell? ⟨p1, q1 + i, none⟩ = some (.int .i64 (k : Int))) [(0, true), (1, true), (2, true), (3, true), (4, true), (5, true), (6, true), (7, true), (8, true)] default (by kernel_rfl) (by kernel_rfl) (by kernel_rfl) ⟨hc6, hc7⟩ ?_
            simp only [getOrd, nth]
            repeat (first | (refine ordS (by rfl) ?_; simp only [Act.put, List.setIfInBounds_toArray, List.set_cons_zero, List.set_cons_succ]) | (refine ordN (by rfl) ?_; simp only [Act.put, List.setIfInBounds_toArray, List.set_cons_zero, List.set_cons_succ]) | (refine ordQ (v := ?_) (by rfl) (fun _ hSw => ?_) ?_; rotate_left; (focus ((have hS1 := hSw.1); (have hS2 := hSw.2); clear hSw; go_simp; (first | done | with_reducible rfl))); simp only [Act.put, List.setIfInBounds_toArray, List.set_cons_zero, List.set_cons_succ]))
            refine ordE ?_
            go_wp2
            go_ret2
            exact ⟨by rw [HF.out, HS.out]; try rfl, hbjd⟩
          · have gq : (zj == (k : Int)) = false := by rw [beq_eq_false_iff_ne]; exact hq
            have HNE2 : Hid (∀ l, l < j + 1 → y.zs.getD l (-1) ≠ (k : Int)) := Lib.hid fun l hl => by
              by_cases e : l = j
              · rw [e, HGJ.out]; exact hq
              · exact hne.out l (by omega)
            clear hq hz1 hz0 ht0 hne
            refine wp_region_ord (S := fun w' => w'.cell? ⟨p1, q1 + j, none⟩ = some (.int .i64 zj) ∧ w'.cell? ⟨p1, q1 + i, none⟩ = some (.int .i64 (k : Int))) [(0, true), (1, true), (2, true), (3, true), (4, true), (5, true), (6, true), (7, true), (8, true)] default (by kernel_rfl) (by kernel_rfl) (by kernel_rfl) ⟨hc6, hc7⟩ ?_
            simp only [getOrd, nth]
            repeat (first | (refine ordS (by rfl) ?_; simp only [Act.put, List.setIfInBounds_toArray, List.set_cons_zero, List.set_cons_succ]) | (refine ordN (by rfl) ?_; simp only [Act.put, List.setIfInBounds_toArray, List.set_cons_zero, List.set_cons_succ]) | (refine ordQ (v := ?_) (by rfl) (fun _ hSw => ?_) ?_; rotate_left; (focus ((have hS1 := hSw.1); (have hS2 := hSw.2); clear hSw; go_simp; (first | done | with_reducible rfl))); simp only [Act.put, List.setIfInBounds_toArray, List.set_cons_zero, List.set_cons_succ]))
            refine ordE ?_
            go_wp2
            go_roundw
            case rel => exact ⟨j + 1, by omega, by go_num, HNE2, hbjd, hbjd1⟩
            case measure => simp [intOf]; omega
        · obtain rfl : j = i := by omega
          have HOK2 : Hid (∀ l, l < j + 1 → mayAt x.g un y.zs l = true) := Lib.hid fun l hl => by
            by_cases e : l = j
            · subst e
              refine mayAt_iff.2 (.inr ⟨by rw [HGZ.out]; omega, by rw [HGZ.out]; omega, by rw [HGZ.out, Int.toNat_natCast, HGK.out]; omega, fun k' hk' => by rw [HGZ.out]; exact hne.out k' hk'⟩)
            · exact hok.out l (by omega)
          have hSU2 : wtN (gG x.g) (hasA y.zs) (j + 1) = sk + t := by
            rw [HSU.out, itemO, if_neg (by omega), gainO, Int.toNat_natCast, HGK.out]
          have HSU2 := Lib.hid hSU2
          have s1 : IntKind.i64.wrap (sk + t) = sk + t := by rw [IntKind.wrap_i64]; omega
          have e1 := (bg.below hbj1).c0
          rw [HAX.out] at e1
          have hd1 := ((hbj.cell (p := ⟨p1, q1 + j, none⟩) hp1).trans (hb.cell (p := ⟨p1, q1 + j, none⟩) hp1).symm).trans hc1
          have hd2 := ((hbj.cell (p := ⟨p2, q2 + j, none⟩) hp2).trans (hb.cell (p := ⟨p2, q2 + j, none⟩) hp2).symm).trans hcx
          have hp4w : p4 < w.heap.size := by
            obtain ⟨p9, q9, u9, h9, _, _, _, h10, h11⟩ := hx.get hin
            rw [HAX.out] at h9
            cases h9
            have h12 := (hb.cell (p := ⟨p2, q2 + j, none⟩) hp2).trans h10
            rw [hcx] at h12
            have h13 : (Value.slice (some ⟨p4, q4, none⟩) un uc) = Value.slice u9.A u9.n u9.c := Option.some.inj h12
            simp only [Value.slice.injEq] at h13
            obtain ⟨a1, a2, a3⟩ := h13
            obtain ⟨p8, q8, h14, h15, _⟩ := h11.rd.get (show 0 < u9.n by omega)
            rw [← a1] at h14
            cases h14
            exact h15
          have hd3 := ((hbj.cell (p := ⟨p4, q4 + k, none⟩) hp4w).trans (hb.cell (p := ⟨p4, q4 + k, none⟩) hp4w).symm).trans hct
          have hbjd := hbj.drew
          have hbjd1 := hbj1.drew
          clear hne hok hSU2 hz1 hz0 ht0
          go_wp2_with fail
          refine wp_region_ord (S := fun w' => w'.cell? ⟨w.heap.size, 0, none⟩ = some (.slice (some ⟨p2, q2, none⟩) x.n x.c) ∧ w'.cell? ⟨p1, q1 + j, none⟩ = some (.int .i64 (k : Int)) ∧ w'.cell? ⟨p2, q2 + j, none⟩ = some (.slice (some ⟨p4, q4, none⟩) un uc) ∧ w'.cell? ⟨p4, q4 + k, none⟩ = some (.int .i64 t)) [(0, true), (1, true), (2, true), (3, true), (4, true), (5, true), (6, true), (7, true), (8, true), (9, true), (10, true), (11, true), (12, true), (13, true)] default (by kernel_rfl) (by kernel_rfl) (by kernel_rfl) ⟨e1, hd1, hd2, hd3⟩ ?_
          simp only [getOrd, nth]
          repeat (first | (refine ordS (by rfl) ?_; simp only [Act.put, List.setIfInBounds_toArray, List.set_cons_zero, List.set_cons_succ]) | (refine ordN (by rfl) ?_; simp only [Act.put, List.setIfInBounds_toArray, List.set_cons_zero, List.set_cons_succ]) | (refine ordQ (v := ?_) (by rfl) (fun _ hSw => ?_) ?_; rotate_left; (focus ((have hS1 := hSw.1); (have hS2 := hSw.2.1); (have hS3 := hSw.2.2.1); (have hS4 := hSw.2.2.2); clear hSw; go_simp; (first | done | with_reducible rfl))); simp only [Act.put, List.setIfInBounds_toArray, List.set_cons_zero, List.set_cons_succ]))
          refine ordE ?_
          go_wp2
          go_roundw
          case rel => exact ⟨j + 1, by omega, by go_num, by rw [HSU2.out], HOK2, hbjd, hbjd1⟩
          case measure => simp [intOf]; omega
    · obtain rfl : x.n = i := by omega
      obtain ⟨h1, h2⟩ := HYES.out HYX.out hok.out
      have H1 := Lib.hid h1
      have H2 := Lib.hid h2
      have gl : decide ((x.n : Int) < (y.n : Int)) = false := decide_eq_false (by rw [HYX.out]; omega)
      have gl2 : decide (x.n < y.n) = false := decide_eq_false (by rw [HYX.out]; omega)
      clear h1 h2
      go_wp2
      go_ret2
      exact ⟨by rw [H1.out, H2.out]; try rfl, hb⟩
end Go.Proofs.Ytecgakfblhiiaaa
