/-
  The first of the best, told by what those behind a place gain of the items of a set.
-/
import Derived.Test.YtecgakfblhiiaaaWeWc
import Derived.Test.YtecgakfblhiiaaaFiO
namespace Go.Proofs.Ytecgakfblhiiaaa
open Go.RowKit
set_option linter.unusedVariables false

theorem xor_bit (s k c : Nat) : (s ^^^ 2 ^ k).testBit c = if c = k then !s.testBit k else s.testBit c := by
  rw [Nat.testBit_xor, Nat.testBit_two_pow]
  by_cases e : c = k
  · subst e; simp
  · have e2 : ¬ k = c := fun h => e h.symm
    rw [if_neg e, decide_eq_false e2, Bool.xor_false]
/-- Of some bidders, and of the items of a set, alone. -/
def restG (G : Nat → Nat → Int) (l : List Nat) (s b c : Nat) : Int := if b ∈ l ∧ s.testBit c = true then G b c else -1
section
variable {G : Nat → Nat → Int} {m n : Nat}
theorem rest_none {w s : Nat} {l : List Nat} (hw : w ∉ l) : noneG (restG G (w :: l) s) w = restG G l s := by
  funext b c
  unfold noneG restG
  by_cases e : b = w
  · rw [if_pos e, if_neg (fun h => hw (e ▸ h.1))]
  · rw [if_neg e]
    by_cases h : b ∈ l ∧ s.testBit c = true
    · rw [if_pos h, if_pos ⟨List.mem_cons_of_mem _ h.1, h.2⟩]
    · rw [if_neg h, if_neg fun h2 => h ⟨(List.mem_cons.1 h2.1).resolve_left e, h2.2⟩]
theorem rest_gone {w s k : Nat} {l : List Nat} (hw : w ∉ l) (hk : s.testBit k = true) : goneG (restG G (w :: l) s) w k = restG G l (s ^^^ 2 ^ k) := by
  rw [goneG, rest_none hw]
  funext b c
  unfold noneC restG
  rw [xor_bit]
  by_cases e : c = k
  · rw [if_pos e, if_pos e, hk, if_neg (fun h => by cases h.2)]
  · rw [if_neg e, if_neg e]
theorem gone_le {w k : Nat} : bestV (goneG G w k) m n ≤ bestV G m n := by
  obtain ⟨A, hA, hwt⟩ := best_ex (G := goneG G w k) (m := m) n topP
  have hwt : wtN (goneG G w k) A n = bestV (goneG G w k) m n := hwt
  obtain ⟨h1, h2, _⟩ := noneC_ok hA
  obtain ⟨h4, h5, _⟩ := noneG_ok h1
  have := bestV_ge h4
  have h6 : wtN (noneG G w) A n = wtN (goneG G w k) A n := h2
  omega
theorem none_le {w : Nat} : bestV (noneG G w) m n ≤ bestV G m n := by
  obtain ⟨A, hA, hwt⟩ := best_ex (G := noneG G w) (m := m) n topP
  have hwt : wtN (noneG G w) A n = bestV (noneG G w) m n := hwt
  obtain ⟨h4, h5, _⟩ := noneG_ok hA
  have := bestV_ge h4
  omega
theorem more_ge0 {F g : Nat → Int} {s : Nat} : ∀ {j}, F s ≤ moreF F g s j
  | 0 => Int.le_refl _
  | j + 1 => by
    have := more_ge0 (F := F) (g := g) (s := s) (j := j)
    rw [moreF]; split <;> omega
theorem more_ge {F g : Nat → Int} {s k : Nat} (hs : s.testBit k = true) : ∀ {j}, k < j → F (s ^^^ 2 ^ k) + g k ≤ moreF F g s j
  | 0, h => absurd h (by omega)
  | j + 1, h => by
    rw [moreF]
    by_cases e : k = j
    · subst e; rw [if_pos hs]; omega
    · have := more_ge (F := F) (g := g) hs (j := j) (by omega)
      split <;> omega
theorem more_le {F g : Nat → Int} {s : Nat} {B : Int} (h0 : F s ≤ B) : ∀ {j}, (∀ k, k < j → s.testBit k = true → F (s ^^^ 2 ^ k) + g k ≤ B) → moreF F g s j ≤ B
  | 0, _ => h0
  | j + 1, h => by
    have h1 := more_le h0 (j := j) fun k hk => h k (by omega)
    rw [moreF]
    by_cases e : s.testBit j = true
    · rw [if_pos e]; have := h j (by omega) e; omega
    · rw [if_neg e]; exact h1

/-- The most that those in a list gain of a set, one by one. -/
def hadO (G : Nat → Nat → Int) (m : Nat) : List Nat → Nat → Int
  | [], _ => 0
  | w :: l, s => moreF (hadO G m l) (G w) s m
theorem hadO_best : ∀ (l : List Nat) (s : Nat), l.Nodup → (∀ b ∈ l, b < n) → hadO G m l s = bestV (restG G l s) m n
  | [], s, _, _ => by
    obtain ⟨A, hA, hwt⟩ := best_ex (G := restG G [] s) (m := m) n topP
    have hwt : wtN (restG G [] s) A n = bestV (restG G [] s) m n := hwt
    have h0 : ∀ b, b < n → A b = none := fun b hb => neg_none (fun b _ c _ => by rw [restG, if_neg (fun h => by cases h.1)]; omega) hA hb
    rw [← hwt, wt_same (A' := fun _ => none) h0, none_wt0]; rfl
  | w :: l, s, hnd, hlt => by
    have hw : w < n := hlt w (by simp)
    obtain ⟨hwl, hnd'⟩ := List.nodup_cons.1 hnd
    have IH := fun s => hadO_best l s hnd' fun b hb => hlt b (by simp [hb])
    have hG : ∀ k, s.testBit k = true → restG G (w :: l) s w k = G w k := fun k hk => by rw [restG, if_pos ⟨by simp, hk⟩]
    rw [hadO]
    refine Int.le_antisymm (more_le ?_ fun k hk hs => ?_) ?_
    · rw [IH, ← rest_none hwl]; exact none_le
    · rw [IH, ← rest_gone hwl hs, ← hG k hs]
      by_cases h0 : 0 ≤ restG G (w :: l) s w k
      · have := gone_best (G := restG G (w :: l) s) hw hk h0
        omega
      · have := gone_le (G := restG G (w :: l) s) (m := m) (n := n) (w := w) (k := k)
        omega
    · obtain ⟨A, hA, hwt⟩ := best_ex (G := restG G (w :: l) s) (m := m) n topP
      have hwt : wtN (restG G (w :: l) s) A n = bestV (restG G (w :: l) s) m n := hwt
      cases e : A w with
      | none =>
        have h1 := bestV_ge (none_ok hA e)
        rw [none_wt e, rest_none hwl, ← IH] at h1
        have := more_ge0 (F := hadO G m l) (g := G w) (s := s) (j := m)
        omega
      | some k =>
        obtain ⟨h1, h2, h3, _⟩ := best_makes hA hwt hw e
        have hs : s.testBit k = true := by
          rcases hb : s.testBit k with _ | _
          · rw [restG, if_neg (fun h => by rw [hb] at h; cases h.2)] at h2; omega
          · rfl
        rw [rest_gone hwl hs, ← IH, hG k hs] at h3
        have := more_ge (F := hadO G m l) (g := G w) hs h1
        omega
/-- The least item of a set with which what is left makes up so much. -/
def leastF (g F : Nat → Int) (a : Int) (s m : Nat) : Option Nat := (List.range m).find? fun k => s.testBit k && decide (g k + F (s ^^^ 2 ^ k) = a)
theorem pick_least {w s : Nat} {l : List Nat} (hnd : (w :: l).Nodup) (hlt : ∀ b ∈ w :: l, b < n) : pickF (restG G (w :: l) s) m n w = leastF (G w) (hadO G m l) (hadO G m (w :: l) s) s m := by
  obtain ⟨hwl, hnd'⟩ := List.nodup_cons.1 hnd
  have IH := fun s => hadO_best (G := G) (m := m) l s hnd' fun b hb => hlt b (by simp [hb])
  have h0 := hadO_best (G := G) (m := m) (w :: l) s hnd hlt
  have hc : ∀ k, (decide (0 ≤ restG G (w :: l) s w k) && decide (restG G (w :: l) s w k + bestV (goneG (restG G (w :: l) s) w k) m n = bestV (restG G (w :: l) s) m n)) = (s.testBit k && decide (G w k + hadO G m l (s ^^^ 2 ^ k) = hadO G m (w :: l) s)) := fun k => by
    rcases hb : s.testBit k with _ | _
    · rw [restG, if_neg (fun h => by rw [hb] at h; cases h.2)]; rfl
    · have hG : restG G (w :: l) s w k = G w k := by rw [restG, if_pos ⟨by simp, hb⟩]
      have hle := gone_le (G := restG G (w :: l) s) (m := m) (n := n) (w := w) (k := k)
      rw [rest_gone hwl hb, ← IH, ← h0] at hle
      rw [rest_gone hwl hb, ← IH, ← h0, hG, Bool.true_and]
      by_cases h1 : 0 ≤ G w k
      · rw [decide_eq_true h1, Bool.true_and]
      · rw [decide_eq_false h1, decide_eq_false (by omega)]; rfl
  unfold pickF leastF
  congr 1
  funext k
  exact hc k
theorem least_some {g F : Nat → Int} {a : Int} {s m k : Nat} (h : leastF g F a s m = some k) : k < m ∧ s.testBit k = true ∧ g k + F (s ^^^ 2 ^ k) = a := by
  obtain ⟨h1, h2, _⟩ := find_range.1 h
  rw [Bool.and_eq_true, decide_eq_true_eq] at h2
  exact ⟨h1, h2.1, h2.2⟩
theorem hadO_bound {g : List (List Int)} {M : Nat} (h : mayW g M = true) {l : List Nat} (hnd : l.Nodup) (hlt : ∀ b ∈ l, b < g.length) (s : Nat) : 0 ≤ hadO (gG g) M l s ∧ hadO (gG g) M l s ≤ 8000000 := by
  rw [hadO_best l s hnd hlt]
  have h1 := bestV_nonneg (restG (gG g) l s) M g.length
  have h2 := bestV_bound (G := restG (gG g) l s) (K := 1000000) (by omega) (fun b c => by
    unfold restG
    split
    · exact (gG_bound h b c).2
    · omega) M g.length
  have h4 := (may_m h).2.2
  omega
end
/-- What stands there when so many have been asked. -/
structure StP (g : List (List Int)) (M : Nat) (o : List Int) (p s : Nat) (H : List Int) (a : Int) : Prop where
  hl : H.length = g.length
  fit : ∀ z ∈ H, -1 ≤ z ∧ z < 8
  a_ : a = hadO (gG g) M ((whoN o).drop p) s
  s_ : s < 2 ^ M
  at_ : ∀ b, b < g.length → optI (firstV g M o b) = if b ∈ (whoN o).take p then H.getD b (-1) else optI (firstF (restG (gG g) ((whoN o).drop p) s) M g.length ((whoN o).drop p) b)
theorem bit_all {M c : Nat} (h : c < M) : (2 ^ M - 1).testBit c = true := by
  rw [Nat.testBit_two_pow_sub_one]; simpa using h
theorem stp_start {g : List (List Int)} {M : Nat} {o : List Int} (h : mayF g M o = true) : StP g M o 0 (2 ^ M - 1) (List.replicate g.length 0) (bestV (gG g) M g.length) := by
  obtain ⟨h1, h2⟩ := mayF_iff.1 h
  have he : ∀ b c, b < g.length → c < M → gG g b c = restG (gG g) (whoN o) (2 ^ M - 1) b c := fun b c hb hc => by rw [restG, if_pos ⟨ord_all h2 hb, bit_all hc⟩]
  refine ⟨by simp, fun z hz => by rw [(List.mem_replicate.1 hz).2]; omega, ?_, Nat.sub_lt (Nat.two_pow_pos _) (by omega), fun b hb => ?_⟩
  · rw [List.drop_zero, hadO_best _ _ (ord_nodup h2) (ord_lt h2)]
    exact best_congr fun b c hb hc _ => he b c hb hc
  · rw [List.take_zero, if_neg (by simp), List.drop_zero, firstV]
    congr 1
    exact (first_congr (fun b c hb hc _ => he b c hb hc) (ord_lt h2) hb).symm
def restS (s : Nat) : Option Nat → Nat
  | some k => s ^^^ 2 ^ k
  | none => s
def restA (a : Int) (g : Nat → Int) : Option Nat → Int
  | some k => a - g k
  | none => a
theorem stp_step {g : List (List Int)} {M : Nat} {o : List Int} {p w s : Nat} {H : List Int} {a : Int} (ho : ordB o g.length = true) (h : StP g M o p s H a) (hM : M ≤ 8) (hw : (whoN o)[p]? = some w) (q : Option Nat)
    (hq : leastF (gG g w) (hadO (gG g) M ((whoN o).drop (p + 1))) a s M = q) :
    StP g M o (p + 1) (restS s q) (H.set w (optI q)) (restA a (gG g w) q) := by
  have hp : p < (whoN o).length := (List.getElem?_eq_some_iff.1 hw).1
  have hd : (whoN o).drop p = w :: (whoN o).drop (p + 1) := by
    rw [List.drop_eq_getElem_cons hp, (List.getElem?_eq_some_iff.1 hw).2]
  have ht : (whoN o).take (p + 1) = (whoN o).take p ++ [w] := by
    rw [List.take_succ_eq_append_getElem hp, (List.getElem?_eq_some_iff.1 hw).2]
  have hnd : (w :: (whoN o).drop (p + 1)).Nodup := by rw [← hd]; exact (ord_nodup ho).sublist (List.drop_sublist _ _)
  have hlt : ∀ b ∈ w :: (whoN o).drop (p + 1), b < g.length := fun b hb => by
    rw [← hd] at hb; exact ord_lt ho b (List.mem_of_mem_drop hb)
  have hwl := (List.nodup_cons.1 hnd).1
  have hwg : w < g.length := hlt w (by simp)
  have hwt : w ∉ (whoN o).take p := fun hm => by
    have h5 : ((whoN o).take p ++ (whoN o).drop p).Nodup := by rw [List.take_append_drop]; exact ord_nodup ho
    rw [hd] at h5
    exact (List.nodup_append.1 h5).2.2 w hm w (by simp) rfl
  have hpk := pick_least (G := gG g) (m := M) (s := s) hnd hlt
  have ha := h.a_
  rw [hd] at ha
  rw [← ha, hq] at hpk
  have hget : ∀ (z : Int) b, (H.set w z).getD b (-1) = if b = w then z else H.getD b (-1) := fun z b => by
    rw [List.getD_eq_getElem?_getD, List.getElem?_set]
    by_cases e : w = b
    · rw [if_pos e, if_pos (by rw [h.hl]; exact hwg), if_pos e.symm]; rfl
    · rw [if_neg e, if_neg (fun h => e h.symm), List.getD_eq_getElem?_getD]
  have hq8 : -1 ≤ optI q ∧ optI q < 8 := by
    cases q with
    | none => simp only [optI]; omega
    | some k => have := (least_some hq).1; simp only [optI]; omega
  refine ⟨by rw [List.length_set]; exact h.hl, fun z hz => ?_, ?_, ?_, fun b hb => ?_⟩
  · rcases List.mem_or_eq_of_mem_set hz with hz | rfl
    · exact h.fit z hz
    · exact hq8
  · cases q with
    | none =>
      have h1 := pick_none_best hpk hwg
      rw [rest_none hwl] at h1
      show a = hadO (gG g) M ((whoN o).drop (p + 1)) s
      rw [hadO_best _ s (List.nodup_cons.1 hnd).2 (fun b hb => hlt b (by simp [hb])), h1, ← hadO_best _ s hnd hlt]; exact ha
    | some k =>
      have := (least_some hq).2.2
      show a - gG g w k = hadO (gG g) M ((whoN o).drop (p + 1)) (s ^^^ 2 ^ k)
      omega
  · cases q with
    | none => exact h.s_
    | some k => exact Nat.xor_lt_two_pow h.s_ (Nat.pow_lt_pow_right (by omega) (least_some hq).1)
  · rw [h.at_ b hb, hd, ht, hget]
    by_cases e : b = w
    · subst e
      rw [if_neg hwt, if_pos (by simp), if_pos rfl]
      cases q with
      | none => rw [first_cons_none hpk, setN_eq]
      | some k => rw [first_cons_some hpk, setN_eq]
    · rw [if_neg e]
      by_cases hm : b ∈ (whoN o).take p
      · rw [if_pos hm, if_pos (by simp [hm])]
      · rw [if_neg hm, if_neg (by simp [hm, e])]
        congr 1
        cases q with
        | none => show _ = firstF (restG (gG g) ((whoN o).drop (p + 1)) s) M g.length _ b; rw [first_cons_none hpk, setN_ne e, rest_none hwl]
        | some k => show _ = firstF (restG (gG g) ((whoN o).drop (p + 1)) (s ^^^ 2 ^ k)) M g.length _ b; rw [first_cons_some hpk, setN_ne e, rest_gone hwl (least_some hq).2.1]
theorem stp_end {g : List (List Int)} {M : Nat} {o : List Int} {s : Nat} {H : List Int} {a : Int} (hf : mayF g M o = true) (h : StP g M o o.length s H a) : H = firstE g M o := by
  obtain ⟨h1, h2⟩ := mayF_iff.1 hf
  rw [(fi_ok hf).2]
  refine List.ext_getElem? fun b => ?_
  by_cases hb : b < g.length
  · rw [List.getElem?_map, List.getElem?_range hb]
    show _ = some (optI (firstV g M o b))
    rw [h.at_ b hb, if_pos (by rw [List.take_of_length_le (by rw [whoN_len]; exact Nat.le_refl _)]; exact ord_all h2 hb), List.getD_eq_getElem?_getD, List.getElem?_eq_getElem (by rw [h.hl]; exact hb)]; rfl
  · rw [List.getElem?_eq_none (by rw [h.hl]; omega), List.getElem?_eq_none (by simp; omega)]

/-! The table in memory. -/
theorem ci64_map_set (N s : Nat) (z : Int) (F : Nat → Int) : (ci64 ((List.range N).map F)).set s (.int .i64 z) = ci64 ((List.range N).map fun t => if t = s then z else F t) := by
  refine List.ext_getElem? fun i => ?_
  rw [List.getElem?_set]
  rw [show ci64 ((List.range N).map F) = ((List.range N).map F).map iV from rfl, show ci64 ((List.range N).map fun t => if t = s then z else F t) = ((List.range N).map fun t => if t = s then z else F t).map iV from rfl, List.getElem?_map, List.getElem?_map, List.length_map, List.length_map, List.length_range, List.getElem?_map, List.getElem?_map]
  by_cases hi : i < N
  · rw [List.getElem?_range hi, Option.map_some, Option.map_some, Option.map_some]
    by_cases e : s = i
    · rw [if_pos e, if_pos (by omega)]
      simp only [if_pos e.symm, Option.map_some]; rfl
    · rw [if_neg e]
      simp only [if_neg (fun h => e (Eq.symm h)), Option.map_some]
  · rw [List.getElem?_eq_none (l := List.range N) (by simp; omega)]
    by_cases e : s = i
    · rw [if_pos e, if_neg (by omega)]; rfl
    · rw [if_neg e]; rfl
def TbAt (w : World) (b : Nat) (F : Nat → Int) : Prop := w.heap[b]? = some (.cells (ci64 ((List.range 2048).map F)).toArray 55 (0, 0))
theorem TbAt.lt {w : World} {b : Nat} {F : Nat → Int} (h : TbAt w b F) : b < w.heap.size := (Array.getElem?_eq_some_iff.1 h).1
theorem TbAt.below {w w' : World} {b : Nat} {F : Nat → Int} (h : TbAt w b F) (hb : Below w.heap.size w w') : TbAt w' b F := (hb.block b h.lt).trans h
theorem TbAt.cell {w : World} {b s : Nat} {F : Nat → Int} (h : TbAt w b F) (hs : s < 2048) : w.cell? ⟨b, s, none⟩ = some (.int .i64 (F s)) := by
  rw [cell_of_row _ _ _ _ _ _ h, List.getElem?_toArray]
  rw [show ci64 ((List.range 2048).map F) = ((List.range 2048).map F).map iV from rfl, List.getElem?_map, List.getElem?_map, List.getElem?_range hs]; rfl
theorem TbAt.free {w : World} {b s : Nat} {F : Nat → Int} (h : TbAt w b F) : w.frozen? ⟨b, s, none⟩ = false := frozen_of_row _ _ _ _ _ h
theorem TbAt.set {w : World} {b s : Nat} {z : Int} {F : Nat → Int} (h : TbAt w b F) : TbAt (w.setCell ⟨b, s, none⟩ (.int .i64 z)) b fun t => if t = s then z else F t := by
  have h1 := heap_setCell_same w b s _ _ (.int .i64 z) h
  unfold TbAt
  rw [h1, List.setIfInBounds_toArray, ci64_map_set]
def tbC : Array Value := (ci64 ((List.range 2048).map fun _ => 0)).toArray
theorem tb_zero : (Try.prog.info? 55).bind (·.zero) = some (.agg tbC) := by kernel_rfl
theorem TbAt.new (w : World) : TbAt (w.alloc (.cells tbC 55)) w.heap.size fun _ => 0 := heap_alloc_new w _
theorem wpList_newTb {w : World} {ops : Array Oper} {rest : List Oper} {o : Oper} {a : Act} {Q : Exit → Act → World → Prop} (hg : o.guard = none) (hop : o.op = Op.alloc 55)
    (h : ∀ w', TbAt w' w.heap.size (fun _ => 0) → Below w.heap.size w w' → wpList Try.prog ops Q rest (a.put o.dst (.pointer (some ⟨w.heap.size, 0, none⟩))) w') : wpList Try.prog ops Q (o :: rest) a w := by
  refine wpList_plain hg fun K hK => ?_
  obtain ⟨i, hq, hz⟩ : ∃ i, Try.prog.info? 55 = some i ∧ i.zero = some (.agg tbC) := by
    have hz := tb_zero
    cases hq : Try.prog.info? 55 with
    | none => rw [hq] at hz; cases hz
    | some i => rw [hq] at hz; exact ⟨i, rfl, hz⟩
  have hr := run_allocAny (P := Try.prog) 55 i _ w hq hz
  have hc : (Value.agg tbC).cells = tbC := rfl
  rw [hc] at hr
  have h2 := hK _ _ (h (w.alloc (.cells tbC 55)) (TbAt.new w) ((Below.refl _ w).alloc (Nat.le_refl _) _))
  unfold Oper.wp execOp
  simp only [hop, Sem.run_bind, Sem.run_pure, Result.andThen_ok, hr]
  exact h2
end Go.Proofs.Ytecgakfblhiiaaa
