/-
  Walk of package markets: the part that is how many lists there are, and these.
-/
import Derived.Test.YtfhiedlglmgneaaMarkWd
import Derived.Laws.EntriesVeiled
namespace Go.Proofs.Ytfhiedlglmgneaa
open Go.RowKit
set_option linter.unusedVariables false

/-- make([]E, n) in a region that draws its order. -/
theorem wp_mk {P : Program} (w : World) {o : Oper} {a : Act} {K : Act → World → Prop} {Q : Exit → Act → World → Prop} (l c : Operand) (t : TypeId) (hop : o.op = Op.makeSlice t l c)
    (B : Nat) (e : TypeId) (i : TypeInfo) (z : Value) (h1 : P.underlying t = some (.slice e)) (h2 : P.info? e = some i) (h3 : i.zero = some z) (h4 : i.size = 1) (hz : z.cells = #[z])
    (kl kc : IntKind) (L C : Int) (n : Nat) (hl : a.eval l = .int kl L) (hc : a.eval c = .int kc C) (hL : L = (n : Int)) (hC : C = (n : Int)) (b2 : i.bytes * n ≤ 281474976710656) (b3 : n ≤ maxLen) (b4 : B ≤ w.heap.size)
    (hK : ∀ w', Own w' B e (some ⟨w.heap.size, 0, none⟩) n n (List.replicate n z) → Below w.heap.size w w' → K (a.put o.dst (.slice (some ⟨w.heap.size, 0, none⟩) n n)) w') : o.wp P a w K Q := by
  obtain ⟨w', hrun, r1, r2⟩ := run_make_full (P := P) w B t e i z 1 h1 h2 h3 h4 kl kc n b2 b3 b4
  subst hL
  subst hC
  unfold Oper.wp
  simp [execOp, hop, hl, hc, hrun, Result.andThen]
  refine hK w' ?_ ?_
  · obtain ⟨A2, c2, hv, h⟩ := Own.of_row r1
    cases hv
    rw [hz, Nat.mul_one, toList_madeCells_one] at h
    exact h
  · exact (Below.refl _ w).grown r2 (Nat.le_refl _) (by intro k hk; cases hk)

/-- How many lists there are, and these. -/
def readLs (bs : List UInt8) : Option (List (List Int) × List UInt8) := if bs.length < 1 then none else getLs (getN (bs.take 1)) (bs.drop 1)
/-- The part that box g holds. -/
def fnv (g : Nat) : Value := .func (.func 31) #[] #[.pointer (some ⟨g, 0, none⟩)]
/-- The boxes of parts that are lists, each of which is told its place in a row. -/
def Boxes (w : World) (lo gR : Nat) (gs : List Nat) : Prop := ∀ i g, gs[i]? = some g → lo < g ∧ w.heap[g]? = some (.cells #[.pointer (some ⟨gR, i, none⟩)] 58 (0, 0))
theorem Boxes.keep {w w' : World} {lo gR : Nat} {gs : List Nat} (h : Boxes w lo gR gs) (hk : ∀ g, lo < g → g < w.heap.size → w'.heap[g]? = w.heap[g]?) : Boxes w' lo gR gs := fun i g hg => by
  obtain ⟨h1, h2⟩ := h i g hg
  exact ⟨h1, by rw [hk g h1 (lt_of_block h2)]; exact h2⟩
theorem Boxes.snoc {w : World} {lo gR g : Nat} {gs : List Nat} (h : Boxes w lo gR gs) (hg : lo < g) (hb : w.heap[g]? = some (.cells #[.pointer (some ⟨gR, gs.length, none⟩)] 58 (0, 0))) : Boxes w lo gR (gs ++ [g]) := fun i g' hg' => by
  by_cases hi : i < gs.length
  · rw [List.getElem?_append_left hi] at hg'
    exact h i g' hg'
  · rw [List.getElem?_append_right (by omega)] at hg'
    have h0 : i - gs.length = 0 := by
      rcases Nat.eq_zero_or_pos (i - gs.length) with h0 | h0
      · exact h0
      · rw [List.getElem?_eq_none (by simp; omega)] at hg'; cases hg'
    rw [h0] at hg'
    cases hg'
    obtain rfl : i = gs.length := by omega
    exact ⟨hg, hb⟩
theorem fn_step {w : World} {B g m j : Nat} {gs : List Nat} {x : Nat} (h : Own w B 56 (some ⟨g, 0, none⟩) m m (gs.map fnv ++ List.replicate (m - j) .nilFunc)) (hl : gs.length = j) (hj : j < m) :
    Own (w.setCell ⟨g, j, none⟩ (fnv x)) B 56 (some ⟨g, 0, none⟩) m m ((gs ++ [x]).map fnv ++ List.replicate (m - (j + 1)) .nilFunc) := by
  have h1 := h.set (by omega) j (fnv x)
  rw [show m - j = (m - (j + 1)) + 1 by omega, List.replicate_succ] at h1
  have e : (gs.map fnv ++ Value.nilFunc :: List.replicate (m - (j + 1)) Value.nilFunc).set j (fnv x) = (gs ++ [x]).map fnv ++ List.replicate (m - (j + 1)) Value.nilFunc := by
    have hl2 : j = (gs.map fnv).length := by simp [hl]
    conv => lhs; rw [hl2]
    simp [hl]
  rw [e] at h1
  exact h1

/-- One more is filled, and more memory is laid. -/
theorem Fill.put2 {W w' : World} {B g n : Nat} {t : List Ls} {u : Ls} (h : Fill W B (some ⟨g, 0, none⟩) n t) (hn : t.length < n) (hb : Below W.heap.size (W.setCell ⟨g, t.length, none⟩ u.v) w') (hu : OwnI w' W.heap.size u) : Fill w' B (some ⟨g, 0, none⟩) n (t ++ [u]) := by
  have hsz : (W.setCell ⟨g, t.length, none⟩ u.v).heap.size = W.heap.size := by simp only [World.setCell, Array.size_modify]
  have hb' : Below (W.setCell ⟨g, t.length, none⟩ u.v).heap.size (W.setCell ⟨g, t.length, none⟩ u.v) w' := by rw [hsz]; exact hb
  obtain ⟨g', _, hB1, hB2⟩ := h.own.lt (by omega)
  refine ⟨(h.set hn u).below hb', fun x hx => ?_, aptL_snoc h.apt h.sep fun k hk => (hu.blk hk).1, by simp; omega⟩
  rcases List.mem_append.1 hx with hx | hx
  · exact ((h.each x hx).setO h.own (by omega) (by decide) _ _).below hb'
  · rw [List.mem_singleton.1 hx]
    exact hu.mono (by omega)
/-- How many bytes so many lists take. -/
def posLs (q0 : List UInt8) (k : Nat) : Option Nat := (getLs k q0).map fun x => q0.length - x.2.length
theorem getLs_drop {k : Nat} {q0 q : List UInt8} {ls : List (List Int)} (h : getLs k q0 = some (ls, q)) : q = q0.drop (q0.length - q.length) ∧ q.length ≤ q0.length := by
  obtain ⟨_, _, h3⟩ := getLs_of h
  have hl : q0.length = (putLs ls).length + q.length := by rw [h3, List.length_append]
  refine ⟨?_, by omega⟩
  rw [show q0.length - q.length = (putLs ls).length by omega]
  conv => rhs; rw [h3]
  simp
/-- What is so when so many lists of a row have been read. -/
structure JL (w0 w wS : World) (gm gR gQ nb : Nat) (gs : List Nat) (q0 : List UInt8) (k : Nat) (W : World) : Prop where
  fill : ∃ t, t.length = k ∧ Fill W gR (some ⟨gR, 0, none⟩) nb t ∧ ∃ q, getLs k q0 = some (Ls.all t, q)
  boxes : Boxes W gQ gR gs
  fns : Own W gQ 56 (some ⟨gQ, 0, none⟩) nb nb (gs.map fnv)
  bS : Below gR wS W
  b0 : Below w0.heap.size w0 W
  bm : Below gm w W
theorem JL.step {A : Option Addr} {w0 w wS W : World} {gm gR gQ nb n c : Nat} {gs : List Nat} {q0 : List UInt8} {k p : Nat} (hJ : JL w0 w wS gm gR gQ nb gs q0 k W) (hk : k < nb) (hgs : gs.length = nb) (hp : posLs q0 k = some p) (hr : Rd w0 A n (cu8 q0)) (hc : n ≤ c) (hcm : c ≤ maxLen) (hmR : gm < gR) (hRQ : gR ≤ gQ) (hg0 : w0.heap.size ≤ gm)
    (Aq : Option Addr) (hAq : (if c = p then A else A.map (fun x => x.add p)) = Aq) :
    Calls Try.prog 31 #[.slice Aq (n - p) (c - p), .pointer (some ⟨gs.getD k 0, 0, none⟩)] W fun e w' =>
      (∃ p', posLs q0 (k + 1) = some p' ∧ e = .returned (.tuple #[.int .i64 (p' - p : Nat), .int .i64 0]) ∧ JL w0 w wS gm gR gQ nb gs q0 (k + 1) w') ∨ (posLs q0 (k + 1) = none ∧ e = .returned (.tuple #[.int .i64 0, .int .i64 5]) ∧ Below gm w w') := by
  obtain ⟨⟨t, rfl, hf, q, hq⟩, hbx, hfn, bS, b0, bm⟩ := hJ
  have hl : q0.length = n := by have h := hr.len; rw [cu8_len] at h; exact h
  obtain ⟨hd, hle⟩ := getLs_drop hq
  have hpp : p = q0.length - q.length := by
    have h := hp
    rw [posLs, hq] at h
    exact (Option.some.inj h).symm
  have hgk : t.length < gs.length := by omega
  have hgd : gs.getD t.length 0 = gs[t.length] := by rw [List.getD_eq_getElem?_getD, List.getElem?_eq_getElem hgk]; rfl
  rw [hgd]
  obtain ⟨hb1, hb2⟩ := hbx t.length gs[t.length] (List.getElem?_eq_getElem hgk)
  have hcut := (hr.below b0).cut (lo := p) (hi := n) (cap := c) (by omega) (Nat.le_refl _) hc
  rw [cu8_drop, cu8_take, List.take_of_length_le (by rw [List.length_drop]; omega)] at hcut
  rw [show q0.drop p = q by rw [hpp]; exact hd.symm] at hcut
  obtain ⟨g', _, hW1, hW2⟩ := hf.own.lt (by omega)
  have hsz : ∀ v, (W.setCell ⟨gR, t.length, none⟩ v).heap.size = W.heap.size := fun v => by simp only [World.setCell, Array.size_modify]
  refine (listp_any Aq (n - p) (c - p) q W (by rw [← hAq]; exact hcut) (by omega) (by unfold maxLen at hcm ⊢; omega) gs[t.length] gR t.length hb2 gR 22 nb nb _ hf.own hk (by omega)).mono ?_
  rintro e w' (⟨h1, rfl, hb⟩ | ⟨l, r, A', m, c', h1, h2, rfl, hnew, hb⟩)
  · refine .inr ⟨by rw [posLs, getLs_end hq h1]; rfl, rfl, ?_⟩
    exact (bm.setCell (p := ⟨gR, t.length, none⟩) (by show gm ≤ gR; omega) _).trans (hb.mono (by omega))
  · have hn := getLs_next hq h1
    have hrl : r.length ≤ q.length := by omega
    refine .inl ⟨q0.length - r.length, by rw [posLs, hn]; rfl, by rw [show n - p - r.length = q0.length - r.length - p by omega], ?_⟩
    have hbW : ∀ g, g ≠ gR → g < W.heap.size → w'.heap[g]? = W.heap[g]? := fun g hg hlt => (hb.block g hlt).trans (setCell_ne' hg)
    have hQne : gQ ≠ gR := by
      rcases hfn.2 with ⟨h6, _⟩ | ⟨g5, cur, hA5, _, hh, _⟩
      · omega
      · cases hA5
        rcases own_apart hf.own hh (by decide) with h7 | h7
        · omega
        · intro he
          subst he
          exact h7 rfl
    have hWR : gQ < W.heap.size := by
      have := lt_of_block hb2
      omega
    refine ⟨⟨t ++ [⟨A', m, c', l⟩], by simp, hf.put2 (u := ⟨A', m, c', l⟩) hk hb hnew, r, by rw [hn, all_snoc]⟩, hbx.keep fun g hg hlt => hbW g (by omega) hlt, ?_, ?_, ?_, ?_⟩
    · exact hfn.keep fun g hA _ hg hlt => hbW g (by cases hA; exact hQne) hlt
    · exact (bS.setCell (p := ⟨gR, t.length, none⟩) (Nat.le_refl _) _).trans (hb.mono (by omega))
    · refine (b0.setCell (p := ⟨gR, t.length, none⟩) ?_ _).trans (hb.mono b0.size)
      show w0.heap.size ≤ gR
      omega
    · exact (bm.setCell (p := ⟨gR, t.length, none⟩) (by show gm ≤ gR; omega) _).trans (hb.mono (by omega))

set_option maxRecDepth 100000 in
set_option maxHeartbeats 2000000 in
theorem listsp_any (A : Option Addr) (n c : Nat) (bs : List UInt8) (w0 w : World) (hr : Rd w0 A n (cu8 bs)) (hc : n ≤ c) (hcm : c ≤ maxLen) (hb0 : Below w0.heap.size w0 w) (gb gm jm : Nat) (hbox : w.heap[gb]? = some (.cells #[.pointer (some ⟨gm, jm, none⟩)] 60 (0, 0)))
    (B0 : Nat) (tm : TypeId) (nm cm : Nat) (xm : List Value) (ho : Own w B0 tm (some ⟨gm, 0, none⟩) nm cm xm) (hj : jm < nm) (hne : gb ≠ gm) (hg0 : w0.heap.size ≤ gm) :
    Calls Try.prog 33 #[.slice A n c, .pointer (some ⟨gb, 0, none⟩)] w fun e w' =>
      (readLs bs = none ∧ e = .returned (.tuple #[.int .i64 0, .int .i64 5]) ∧ Below gm w w') ∨
      (∃ ls r A' m t, readLs bs = some (ls, r) ∧ r.length ≤ n ∧ e = .returned (.tuple #[.int .i64 (n - r.length : Nat), .int .i64 0]) ∧ Outs w' w.heap.size A' m m t ∧ Ls.all t = ls ∧ Below w.heap.size (w.setCell ⟨gm, jm, none⟩ (.slice A' m m)) w') := by
  have hl : bs.length = n := by have h := hr.len; rw [cu8_len] at h; exact h
  have hgb := lt_of_block hbox
  have cB := cell_of_one hbox
  obtain ⟨g', hg', hgB, hgp⟩ := ho.lt (by have := ho.le; omega)
  obtain rfl : gm = g' := by injection hg' with h; injection h
  have hrw := hr.below hb0
  have hcm' := hcm
  unfold maxLen at hcm'
  clear hg'
  by_cases hn1 : n < 1
  · have hro := Lib.hid (show readLs bs = none by rw [readLs, if_pos (by omega)])
    have hgo := get_short A n c 1 w (by omega) (by omega) hn1
    clear hl
    go_enter Try.func33, Try.ntmps33
    go_wp2_with fail
    refine hgo.mono ?_
    rintro e w1 ⟨rfl, rfl⟩
    go_wp2
    go_ret2
    exact .inl ⟨hro.out, rfl, Below.refl _ _⟩
  · obtain ⟨nb, hnb⟩ : ∃ nb, nb = getN (bs.take 1) := ⟨_, rfl⟩
    obtain ⟨q0, hq0⟩ : ∃ q0, q0 = bs.drop 1 := ⟨_, rfl⟩
    have hro : readLs bs = getLs nb q0 := by rw [readLs, if_neg (by omega), ← hnb, ← hq0]
    have hq0l : q0.length = n - 1 := by rw [hq0, List.length_drop, hl]
    have hnb256 : nb < 256 := by rw [hnb]; exact getN_take1 bs
    have hgo := get_ok A n c bs 1 w hrw hc hcm (by omega) (by omega) (by omega)
    rw [← hnb] at hgo
    have hcut := hr.cut (lo := 1) (hi := n) (cap := c) (by omega) (Nat.le_refl _) hc
    rw [cu8_drop, cu8_take, List.take_of_length_le (by rw [List.length_drop]; omega), ← hq0] at hcut
    have hadd : (fun x : Addr => x.add 1) = fun x => (⟨x.block, x.off + 1, none⟩ : Addr) := by funext x; simp [Addr.add]
    rw [hadd] at hcut
    obtain ⟨Ab, hAb⟩ : ∃ Ab, (if c = 1 then A else A.map (fun x => (⟨x.block, x.off + 1, none⟩ : Addr))) = Ab := ⟨_, rfl⟩
    rw [hAb] at hcut
    obtain ⟨i0, hi0, hz0, hz1, hz2⟩ := info_parts infoB_ints
    obtain ⟨i1, hi1, hy0, hy1, hy2⟩ := info_parts infoB_part
    rw [hro]
    have HRO := Lib.hid hro
    have HQ0 := Lib.hid hq0l
    have HAB := Lib.hid hAb
    clear hro hq0l hAb hadd hnb hq0 hl
    go_enter Try.func33, Try.ntmps33
    go_wp2_with fail
    refine hgo.mono ?_
    rintro e w1 ⟨rfl, rfl⟩
    go_wp2_with fail
    refine wp_region_ord (S := fun w' => w'.cell? ⟨gb, 0, none⟩ = some (.pointer (some ⟨gm, jm, none⟩)) ∧ w'.cell? ⟨gb, 0, none⟩ = some (.pointer (some ⟨gm, jm, none⟩))) [(0, true), (1, true), (2, false), (3, true), (4, false)] default (by kernel_rfl) (by kernel_rfl) (by kernel_rfl) ⟨cB, cB⟩ ?_
    simp only [getOrd, nth]
    repeat (first | (refine ordS (by rfl) ?_; simp only [Act.put, List.setIfInBounds_toArray, List.set_cons_zero, List.set_cons_succ]) | (refine ordN (by rfl) ?_; simp only [Act.put, List.setIfInBounds_toArray, List.set_cons_zero, List.set_cons_succ]) | (refine ordQ (v := ?_) (by rfl) (fun _ hSw => ?_) ?_; rotate_left; (focus ((have hS1 := hSw.1); (have hS2 := hSw.2); clear hSw; go_simp; (first | done | with_reducible rfl))); simp only [Act.put, List.setIfInBounds_toArray, List.set_cons_zero, List.set_cons_succ]))
    refine ordD (by rfl) ?_
    intro K hK
    have hdr : Below w.heap.size w w.drew := (Below.refl _ w).drew
    refine wp_mk w.drew _ _ 23 rfl w.heap.size 22 i0 _ Try.underlying23 hi0 hz0 hz1 rfl .u64 .u64 _ _ nb rfl rfl rfl rfl (by rw [hz2]; omega) (by simp only [maxLen]; omega) (Nat.le_refl _) ?_
    intro w2 hown2 hb2
    have hb2 : Below w.heap.size w w2 := hdr.trans hb2
    have hown2 : Own w2 w.heap.size 22 (some ⟨w.heap.size, 0, none⟩) nb nb (List.replicate nb (.slice none 0 0)) := hown2
    have cB2 : w2.cell? ⟨gb, 0, none⟩ = some (.pointer (some ⟨gm, jm, none⟩)) := (hb2.cell (p := ⟨gb, 0, none⟩) hgb).trans cB
    refine hK _ _ ⟨cB2, cB2⟩ ?_
    clear hK K
    try simp only [Act.put, List.setIfInBounds_toArray, List.set_cons_zero, List.set_cons_succ]
    repeat (first | (refine ordS (by rfl) ?_; simp only [Act.put, List.setIfInBounds_toArray, List.set_cons_zero, List.set_cons_succ]) | (refine ordN (by rfl) ?_; simp only [Act.put, List.setIfInBounds_toArray, List.set_cons_zero, List.set_cons_succ]) | (refine ordQ (v := ?_) (by rfl) (fun _ hSw => ?_) ?_; rotate_left; (focus ((have hS1 := hSw.1); (have hS2 := hSw.2); clear hSw; go_simp; (first | done | with_reducible rfl))); simp only [Act.put, List.setIfInBounds_toArray, List.set_cons_zero, List.set_cons_succ]))
    have hoN := ho.below hb2
    have fr := hoN.free (by have := hoN.le; omega) jm
    obtain ⟨vo, hvo⟩ : ∃ v, w2.cell? ⟨gm, jm, none⟩ = some v := by
      have h := hoN.cell hj
      rw [List.getElem?_eq_getElem (by rw [hoN.len]; exact hj)] at h
      exact ⟨_, h⟩
    refine ordD (by rfl) ?_
    intro K hK
    go_simp
    have cB3 : (w2.setCell ⟨gm, jm, none⟩ (.slice (some ⟨w.heap.size, 0, none⟩) nb nb)).cell? ⟨gb, 0, none⟩ = some (.pointer (some ⟨gm, jm, none⟩)) := (World.cell?_of_block (setCell_ne' hne)).trans cB2
    refine hK _ _ ⟨cB3, cB3⟩ ?_
    clear hK K
    try simp only [Act.put, List.setIfInBounds_toArray, List.set_cons_zero, List.set_cons_succ]
    refine ordE ?_
    have hB3 := below_set (j := jm) hb2 hgp (.slice (some ⟨w.heap.size, 0, none⟩) nb nb)
    have hM3 := hoN.set (by have := hoN.le; omega) jm (.slice (some ⟨w.heap.size, 0, none⟩) nb nb)
    have cM3 : (w2.setCell ⟨gm, jm, none⟩ (.slice (some ⟨w.heap.size, 0, none⟩) nb nb)).cell? ⟨gm, jm, none⟩ = some (.slice (some ⟨w.heap.size, 0, none⟩) nb nb) := by
      rw [hM3.cell hj, List.getElem?_set_self (by rw [hoN.len]; exact hj)]
    have hR3 : Own (w2.setCell ⟨gm, jm, none⟩ (.slice (some ⟨w.heap.size, 0, none⟩) nb nb)) w.heap.size 22 (some ⟨w.heap.size, 0, none⟩) nb nb (List.replicate nb (.slice none 0 0)) := hown2.keep fun k hA _ hk _ => setCell_ne' (by omega)
    have hW0 : Below w0.heap.size w0 (w2.setCell ⟨gm, jm, none⟩ (.slice (some ⟨w.heap.size, 0, none⟩) nb nb)) := (hb0.trans (hb2.mono hb0.size)).setCell (p := ⟨gm, jm, none⟩) hg0 _
    have hG3 : Below gm w (w2.setCell ⟨gm, jm, none⟩ (.slice (some ⟨w.heap.size, 0, none⟩) nb nb)) := (show Below gm w w2 from hb2.mono (by omega)).setCell (p := ⟨gm, jm, none⟩) (Nat.le_refl _) _
    have hSz : w.heap.size ≤ (w2.setCell ⟨gm, jm, none⟩ (.slice (some ⟨w.heap.size, 0, none⟩) nb nb)).heap.size := by simp only [World.setCell, Array.size_modify]; exact hb2.size
    have hSm : (w.setCell ⟨gm, jm, none⟩ (.slice (some ⟨w.heap.size, 0, none⟩) nb nb)).heap.size = w.heap.size := by simp only [World.setCell, Array.size_modify]
    generalize hw3 : w2.setCell ⟨gm, jm, none⟩ (.slice (some ⟨w.heap.size, 0, none⟩) nb nb) = w3 at *
    generalize hwS : w.setCell ⟨gm, jm, none⟩ (.slice (some ⟨w.heap.size, 0, none⟩) nb nb) = wS at *
    have HWS := Lib.hid hwS
    generalize hgR : w.heap.size = gR at *
    have HGR := Lib.hid hgR
    clear hw3 hwS hgR fr hvo hoN cB2 hown2 hb2 hM3 hdr
    go_wp2_with (at_make; go_must (refine wpList_mk _ rfl _ _ 63 rfl w3.heap.size 56 i1 _ Try.underlying63 hi1 hy0 hy1 rfl .u64 .u64 _ _ nb rfl rfl rfl rfl ?c2 ?c3 ?c4 ?_))
    case c2 => rw [hy2]; omega
    case c3 => simp only [maxLen]; omega
    case c4 => exact Nat.le_refl _
    intro w4 hQ4 hb4
    have cB4 := (hb4.cell (p := ⟨gb, 0, none⟩) (World.block_lt_of_cell? w3 _ cB3)).trans cB3
    have cM4 := (hb4.cell (p := ⟨gm, jm, none⟩) (World.block_lt_of_cell? w3 _ cM3)).trans cM3
    have hR4 := hR3.below hb4
    have hW4 := hW0.trans (hb4.mono hW0.size)
    have hG4 := hG3.trans (hb4.mono (by omega))
    have hB4 := hB3.trans (hb4.mono hSz)
    have hRQ : 0 < nb → gR < w3.heap.size := fun h0 => by
      obtain ⟨g', hA', h1, h2⟩ := hR3.lt h0
      cases hA'
      exact h2
    generalize hgQ : w3.heap.size = gQ at *
    clear hgQ hR3 hW0 hG3 hB3 cB3 cM3 hb4
    go_wp2_with fail
    go_loopw [24] (fun i wr => ∃ (j : Nat) (gs : List Nat), j ≤ nb ∧ i = .int .i64 j ∧ Hid (gs.length = j) ∧ Own wr gQ 56 (some ⟨gQ, 0, none⟩) nb nb (gs.map fnv ++ List.replicate (nb - j) .nilFunc) ∧ Boxes wr gQ gR gs ∧ Below gQ w4 wr) (fun i _ => nb - (intOf i).toNat)
    case atStart => exact ⟨0, [], Nat.zero_le _, rfl, Lib.hid rfl, by simpa using hQ4, by intro i g hg; simp at hg, Below.refl _ _⟩
    case round =>
      obtain ⟨j, gs, hjn, rfl, hgs, hQ, hbx, hbel⟩ := hrel
      have cB5 : wr.cell? ⟨gb, 0, none⟩ = some (.pointer (some ⟨gm, jm, none⟩)) := (hbel.cell (p := ⟨gb, 0, none⟩) (by show gb < gQ; omega)).trans cB4
      have cM5 : wr.cell? ⟨gm, jm, none⟩ = some (.slice (some ⟨gR, 0, none⟩) nb nb) := (hbel.cell (p := ⟨gm, jm, none⟩) (by show gm < gQ; omega)).trans cM4
      by_cases hlt : j < nb
      · obtain ⟨g', hA', _, hQlt⟩ := hQ.lt (by omega)
        obtain rfl : gQ = g' := by injection hA' with h; injection h
        clear hA'
        have hQ5 := hQ.alloc (.cells #[.pointer (some ⟨gR, j, none⟩)] 58)
        have hbx5 : Boxes (wr.alloc (.cells #[.pointer (some ⟨gR, j, none⟩)] 58)) gQ gR gs := hbx.keep fun g _ hg => Below.heap_alloc wr _ g hg
        have hnew := heap_alloc_new wr (.cells #[.pointer (some ⟨gR, j, none⟩)] 58)
        have hb5 : Below gQ w4 (wr.alloc (.cells #[.pointer (some ⟨gR, j, none⟩)] 58)) := hbel.alloc (by omega) _
        have hfr := hQ5.free (by omega) j
        obtain ⟨vo2, hvo2⟩ : ∃ v, (wr.alloc (.cells #[.pointer (some ⟨gR, j, none⟩)] 58)).cell? ⟨gQ, j, none⟩ = some v := by
          have h := hQ5.cell hlt
          rw [List.getElem?_eq_getElem (by rw [hQ5.len]; exact hlt)] at h
          exact ⟨_, h⟩
        have hQ6 := fn_step (x := wr.heap.size) hQ5 hgs.out hlt
        have hne6 : ∀ g, g ≠ gQ → ((wr.alloc (.cells #[.pointer (some ⟨gR, j, none⟩)] 58)).setCell ⟨gQ, j, none⟩ (fnv wr.heap.size)).heap[g]? = (wr.alloc (.cells #[.pointer (some ⟨gR, j, none⟩)] 58)).heap[g]? := fun g hg => setCell_ne' hg
        have hbx6 : Boxes ((wr.alloc (.cells #[.pointer (some ⟨gR, j, none⟩)] 58)).setCell ⟨gQ, j, none⟩ (fnv wr.heap.size)) gQ gR (gs ++ [wr.heap.size]) := by
          refine (hbx5.keep fun g h1 _ => hne6 g (by omega)).snoc hQlt ?_
          rw [hne6 _ (by omega), hgs.out]
          exact hnew
        have hb6 := hb5.setCell (p := ⟨gQ, j, none⟩) (Nat.le_refl _) (fnv wr.heap.size)
        have hgs6 : Hid ((gs ++ [wr.heap.size]).length = j + 1) := Lib.hid (by rw [List.length_append, hgs.out]; rfl)
        have hla := list_any gR j wr
        clear hQ5 hbx5 hnew hb5 hne6 hbx hbel hQ
        unfold fnv at hQ6 hbx6 hb6
        go_wp2_with fail
        refine hla.mono ?_
        rintro e w6 ⟨rfl, hw6⟩
        rw [hw6] at hfr hvo2 hQ6 hbx6 hb6
        clear hla hw6
        go_wp2
        go_roundw
        case rel => exact ⟨j + 1, _, by omega, by go_num, hgs6, hQ6, hbx6, hb6⟩
        case measure => simp [intOf]; omega
      · obtain rfl : j = nb := by omega
        have hJ0 : JL w0 w wS gm gR gQ j gs q0 0 wr := by
          refine ⟨⟨[], rfl, ?_, q0, rfl⟩, hbx, by simpa using hQ, hB4.trans (hbel.mono (by omega)), hW4.trans (hbel.mono (by omega)), hG4.trans (hbel.mono (by omega))⟩
          refine Fill.start ?_
          rcases Nat.eq_zero_or_pos j with h0 | h0
          · subst h0
            exact Own.none_ _ _ _ _
          · have := hRQ h0
            exact hR4.keep fun k hA _ hk _ => by cases hA; exact hbel.block _ this
        have hgo2 := inturn_any Ab (n - 1) (c - 1) (some ⟨gQ, 0, none⟩) j j (fun _ => 31) (fun i => gs.getD i 0) (posLs q0) (JL w0 w wS gm gR gQ j gs q0) (fun W => Below gm w W) wr (by omega) (by omega) (by omega) (fun _ _ => enters_list)
          (by rw [posLs]; simp [getLs]) (fun k p hp => by
            rw [posLs] at hp
            cases hg : getLs k q0 with
            | none => rw [hg] at hp; cases hp
            | some x =>
              rw [hg] at hp
              have h1 : q0.length - x.2.length = p := Option.some.inj hp
              have h0 := HQ0.out
              omega)
          (fun k p p' hp hp' => by
            rw [posLs] at hp hp'
            cases hg : getLs k q0 with
            | none => rw [hg] at hp; cases hp
            | some x =>
              rw [hg] at hp
              cases hg' : getLs (k + 1) q0 with
              | none => rw [hg'] at hp'; cases hp'
              | some x' =>
                rw [hg'] at hp'
                have h1 : q0.length - x.2.length = p := Option.some.inj hp
                have h2 : q0.length - x'.2.length = p' := Option.some.inj hp'
                rw [getLs_snoc, hg] at hg'
                simp only at hg'
                cases hl : getLp x.2 with
                | none => rw [hl] at hg'; cases hg'
                | some y =>
                  rw [hl] at hg'
                  have h3 := Option.some.inj hg'
                  have h4 := (getLp_of hl).2
                  have h5 : x.2.length = (putL y.1).length + y.2.length := by rw [← List.length_append, ← h4]
                  have h6 : x'.2 = y.2 := by rw [← h3]
                  rw [h6] at h2
                  omega)
          (fun k W hJ i hi => ⟨gQ, 0, rfl, by
            have h1 := hJ.fns.cell hi
            have h2 : i < gs.length := by rw [hgs.out]; exact hi
            rw [Nat.zero_add, h1, List.getElem?_map, List.getElem?_eq_getElem h2, List.getD_eq_getElem?_getD, List.getElem?_eq_getElem h2]
            rfl⟩)
          (fun k hk p hp W hJ Aq hAq => hJ.step hk hgs.out hp hcut (by omega) (by unfold maxLen; omega) hgp hSz hg0 Aq hAq) hJ0
        have hAb := HAB.out
        have hn1' : 1 ≤ c := by omega
        clear hgo hbx hQ hbel hJ0
        go_wp2_with fail
        refine hgo2.mono ?_
        rintro e w7 (⟨p, hp, rfl, hJ⟩ | ⟨k, hk, hp, rfl, hF⟩)
        · obtain ⟨t, htl, hf, q, hq⟩ := hJ.fill
          have ho := hf.outs htl
          obtain ⟨hd, hle⟩ := getLs_drop hq
          have hpp : q0.length - q.length = p := by
            rw [posLs, hq] at hp
            exact Option.some.inj hp
          have hfin : Hid (getLs j q0 = some (Ls.all t, q) ∧ q.length ≤ n ∧ n - q.length = 1 + p) := Lib.hid (by
            have h0 := HQ0.out
            refine ⟨hq, by omega, by omega⟩)
          have hpn : p ≤ 9223372036854775806 := by
            have h0 := HQ0.out
            omega
          have hbS := hJ.bS
          clear hp hq hd hpp hf htl hgo2 hle hAb
          have hs1 : IntKind.i64.wrap (1 + (p : Int)) = 1 + (p : Int) := by rw [IntKind.wrap_i64]; omega
          go_wp2
          go_ret2
          refine .inr ⟨Ls.all t, q, some ⟨gR, 0, none⟩, j, t, hfin.out.1, hfin.out.2.1, ?_, ?_, rfl, ?_⟩
          · rw [hfin.out.2.2]
            simp
          · rw [HGR.out]
            exact ho
          · rw [HGR.out, HWS.out]
            exact hbS
        · have hfin : Hid (getLs j q0 = none) := Lib.hid (by
            rw [posLs, Option.map_eq_none_iff] at hp
            exact getLs_none_le hp (by omega))
          clear hp hgo2 hAb
          go_wp2
          go_ret2
          exact .inl ⟨hfin.out, rfl, hF⟩
end Go.Proofs.Ytfhiedlglmgneaa
