/-
  Walks of package weights: tables in memory; what can be had of the items, one by one.
-/
import Derived.Test.YtecgakfblhiiaaaWeWb
import Derived.Laws.Rows
import Derived.Laws.Tables
import Derived.Laws.CopyOwn
namespace Go.Proofs.Ytecgakfblhiiaaa
open Go.RowKit
set_option linter.unusedVariables false

/-- A table by value. -/
def tabC (F : Nat → Int) : Array Value := (ci64 ((List.range 256).map F)).toArray
def tabV (F : Nat → Int) : Value := .agg (tabC F)
theorem tabC_size (F : Nat → Int) : (tabC F).size = 256 := by simp [tabC, ci64]
theorem tabC_one (F : Nat → Int) : (tabC F).all (·.oneCell') = true := by
  rw [Array.all_eq_true_iff_forall_mem]
  intro v hv
  rw [tabC, List.mem_toArray] at hv
  obtain ⟨z, _, rfl⟩ := List.mem_map.1 hv
  rfl
theorem tab_zero : (Try.prog.info? 48).bind (·.zero) = some (tabV fun _ => 0) := by kernel_rfl
theorem tab_size : (Try.prog.info? 48).map (·.size) = some 256 := by kernel_rfl
theorem tab_under : Try.prog.underlying 48 = some (.array 256 3) := by kernel_rfl
theorem TabAt.row {w : World} {b : Nat} {F : Nat → Int} (h : TabAt w b F) : w.heap[b]? = some (.cells (tabC F) 48 (0, 0)) := h
theorem TabAt.keep {w w' : World} {b : Nat} {F : Nat → Int} (h : TabAt w b F) (hk : w'.heap[b]? = w.heap[b]?) : TabAt w' b F := hk.trans h
theorem TabAt.drew {w : World} {b : Nat} {F : Nat → Int} (h : TabAt w b F) : TabAt w.drew b F := h
theorem TabAt.free {w : World} {b s : Nat} {F : Nat → Int} (h : TabAt w b F) : w.frozen? ⟨b, s, none⟩ = false := frozen_of_row _ _ _ _ _ h
theorem TabAt.set {w : World} {b s : Nat} {z : Int} {F F' : Nat → Int} (h : TabAt w b F) (hF : ∀ t, t < 256 → F' t = if t = s then z else F t) : TabAt (w.setCell ⟨b, s, none⟩ (.int .i64 z)) b F' := by
  have h1 := heap_setCell_same w b s _ _ (.int .i64 z) h
  unfold TabAt
  rw [h1]
  congr 2
  rw [List.setIfInBounds_toArray]
  congr 1
  refine List.ext_getElem? fun i => ?_
  rw [List.getElem?_set]
  rw [show ci64 ((List.range 256).map F) = ((List.range 256).map F).map iV from rfl, show ci64 ((List.range 256).map F') = ((List.range 256).map F').map iV from rfl, List.getElem?_map, List.getElem?_map, List.length_map, List.length_map, List.length_range, List.getElem?_map, List.getElem?_map]
  by_cases hi : i < 256
  · rw [List.getElem?_range hi, Option.map_some, Option.map_some, Option.map_some, hF i hi]
    by_cases e : s = i
    · rw [if_pos e, if_pos (by omega), if_pos e.symm]; rfl
    · rw [if_neg e, if_neg (fun h => e h.symm)]; rfl
  · rw [List.getElem?_eq_none (l := List.range 256) (by simp; omega)]
    by_cases e : s = i
    · rw [if_pos e, if_neg (by omega)]; rfl
    · rw [if_neg e]; rfl
theorem TabAt.other {w : World} {b g s : Nat} {v : Value} {F : Nat → Int} (h : TabAt w b F) (hne : b ≠ g) : TabAt (w.setCell ⟨g, s, none⟩ v) b F := h.keep (heap_setCell_other w _ _ _ hne)

theorem run_allocAny {P : Program} (T : TypeId) (i : TypeInfo) (z : Value) (w : World) (hq : P.info? T = some i) (hz : i.zero = some z) : (Instr.alloc T true (.tuple #[])).run P w = .ok (.pointer (some ⟨w.heap.size, 0, none⟩)) (w.alloc (.cells z.cells T)) := by
  simp [Instr.alloc, zeroValue, typeInfo, hq, hz, newVar, newRow]
theorem TabAt.new (w : World) : TabAt (w.alloc (.cells (tabC fun _ => 0) 48)) w.heap.size fun _ => 0 := heap_alloc_new w _
theorem tab_info : ∃ i, Try.prog.info? 48 = some i ∧ i.zero = some (tabV fun _ => 0) ∧ i.size = 256 := by
  have hz := tab_zero
  have hs := tab_size
  cases hq : Try.prog.info? 48 with
  | none => rw [hq] at hz; cases hz
  | some i =>
    rw [hq] at hz hs
    exact ⟨i, rfl, hz, Option.some.inj hs⟩
/-- A new table. -/
theorem wpList_newTab {w : World} {ops : Array Oper} {rest : List Oper} {o : Oper} {a : Act} {Q : Exit → Act → World → Prop} (hg : o.guard = none) (hop : o.op = Op.alloc 48)
    (h : ∀ w', TabAt w' w.heap.size (fun _ => 0) → Below w.heap.size w w' → wpList Try.prog ops Q rest (a.put o.dst (.pointer (some ⟨w.heap.size, 0, none⟩))) w') : wpList Try.prog ops Q (o :: rest) a w := by
  refine wpList_plain hg fun K hK => ?_
  obtain ⟨i, hq, hz, _⟩ := tab_info
  have hr := run_allocAny (P := Try.prog) 48 i _ w hq hz
  have hc : (tabV fun _ => 0).cells = tabC fun _ => 0 := rfl
  rw [hc] at hr
  have h2 := hK _ _ (h (w.alloc (.cells (tabC fun _ => 0) 48)) (TabAt.new w) ((Below.refl _ w).alloc (Nat.le_refl _) _))
  unfold Oper.wp execOp
  simp only [hop, Sem.run_bind, Sem.run_pure, Result.andThen_ok, hr]
  exact h2
/-- A table is loaded whole. -/
theorem wpList_loadTab {w : World} {ops : Array Oper} {rest : List Oper} {o : Oper} {a : Act} {Q : Exit → Act → World → Prop} (hg : o.guard = none) (x : Operand) (hop : o.op = Op.load 48 x)
    (g : Nat) (hx : a.eval x = .pointer (some ⟨g, 0, none⟩)) (F : Nat → Int) (ht : TabAt w g F) (h : wpList Try.prog ops Q rest (a.put o.dst (tabV F)) w) : wpList Try.prog ops Q (o :: rest) a w := by
  obtain ⟨i, hq, _, hs⟩ := tab_info
  exact wpList_load_row hg _ x hop g hx _ (tabC F) _ _ ht tab_under rfl (by rw [hq, tabC_size, ← hs]; rfl) h
/-- A table is stored whole. -/
theorem wpList_storeTab {w : World} {ops : Array Oper} {rest : List Oper} {o : Oper} {a : Act} {Q : Exit → Act → World → Prop} (hg : o.guard = none) (x y : Operand) (hop : o.op = Op.store 48 x y)
    (g : Nat) (hx : a.eval x = .pointer (some ⟨g, 0, none⟩)) (F F' : Nat → Int) (hy : a.eval y = tabV F') (ht : TabAt w g F)
    (h : ∀ w', TabAt w' g F' → (∀ k, k ≠ g → w'.heap[k]? = w.heap[k]?) → w'.heap.size = w.heap.size → (∀ B, B ≤ g → Below B w w') → wpList Try.prog ops Q rest (a.put o.dst undef) w') : wpList Try.prog ops Q (o :: rest) a w := by
  obtain ⟨i, hq, _, hs⟩ := tab_info
  refine wpList_store_row hg _ x y hop g (tabC F') hx hy _ (tabC F) ht (by rw [hq, tabC_size, ← hs]; rfl) (by rw [tabC_size, tabC_size]) (tabC_one F') (h _ (setRow_heap w g _ _ _ _ ht) (fun k hk => setRow_other w g k _ hk) (by simp) fun B hB => below_setRow (Below.refl B w) hB _)

/-! What can be had of the first items. -/
theorem moreF_eq {F F' g g' : Nat → Int} {s : Nat} (h0 : F s = F' s) : ∀ {k}, (∀ i, i < k → s.testBit i = true → F (s ^^^ 2 ^ i) = F' (s ^^^ 2 ^ i) ∧ g i = g' i) → moreF F g s k = moreF F' g' s k
  | 0, _ => h0
  | k + 1, h => by
    rw [moreF, moreF, moreF_eq h0 fun i hi => h i (by omega)]
    by_cases hb : s.testBit k = true
    · rw [if_pos hb, if_pos hb, (h k (by omega) hb).1, (h k (by omega) hb).2]
    · rw [if_neg hb, if_neg hb]
def hadT (G : Nat → Nat → Int) (n c s : Nat) : Int := if s < 2 ^ n then haveN (turnG G) n c s else 0
def mixT (G : Nat → Nat → Int) (n c s t : Nat) : Int := if t < s then hadT G n (c + 1) t else 0
theorem mixT_zero (G : Nat → Nat → Int) (n c : Nat) : mixT G n c 0 = fun _ => 0 := by
  funext t; rw [mixT, if_neg (by omega)]
theorem mixT_all (G : Nat → Nat → Int) (n c : Nat) : mixT G n c (2 ^ n) = hadT G n (c + 1) := by
  funext t
  unfold mixT
  by_cases h : t < 2 ^ n
  · rw [if_pos h]
  · rw [if_neg h, hadT, if_neg h]
theorem mixT_succ (G : Nat → Nat → Int) (n c s t : Nat) : mixT G n c (s + 1) t = if t = s then hadT G n (c + 1) s else mixT G n c s t := by
  unfold mixT
  by_cases h : t = s
  · rw [if_pos h, if_pos (by omega), h]
  · rw [if_neg h]
    by_cases h2 : t < s
    · rw [if_pos h2, if_pos (by omega)]
    · rw [if_neg h2, if_neg (by omega)]
theorem hadT_zero (G : Nat → Nat → Int) (n : Nat) : hadT G n 0 = fun _ => 0 := by
  funext t
  unfold hadT
  split <;> rfl
theorem hadT_step {G : Nat → Nat → Int} {n c s : Nat} (hs : s < 2 ^ n) : moreF (hadT G n c) (fun i => G i c) s n = hadT G n (c + 1) s := by
  rw [hadT, if_pos hs, ← foldK_all, ← moreF_have]
  refine moreF_eq (by rw [hadT, if_pos hs]) fun i hi _ => ⟨?_, rfl⟩
  rw [hadT, if_pos (xor_lt hs hi)]
theorem hadT_bound {g : List (List Int)} {m : Int} (h : mayW g m = true) (n c s : Nat) (hn : n ≤ 8) (hc : c ≤ 8) : 0 ≤ hadT (gG g) n c s ∧ hadT (gG g) n c s ≤ 8000000 := by
  unfold hadT
  split
  · refine ⟨bestN_nonneg, Int.le_trans (bestN_top (G := turnG (gG g)) (m := n) (n := c)) ?_⟩
    have := bestV_bound (G := turnG (gG g)) (K := 1000000) (by omega) (fun b c => (gG_bound h c b).2) n c
    omega
  · omega
theorem hadT_all (G : Nat → Nat → Int) (m n : Nat) : hadT G n m (2 ^ n - 1) = bestV G m n := by
  rw [hadT, if_pos (Nat.sub_lt (Nat.two_pow_pos n) (by omega)), have_all, turn_best]
theorem hadT_more {G : Nat → Nat → Int} {m n k : Nat} (hk : k < m) : moreF (hadT G n m) (fun i => G i k) (2 ^ n - 1) n = bestV G m n + numP G m n k := by
  have h0 : 2 ^ n - 1 < 2 ^ n := Nat.sub_lt (Nat.two_pow_pos n) (by omega)
  have h1 : ∀ s, s < 2 ^ n → hadT G n m s = haveN (turnG (oneG G m k)) n m s := fun s hs => by
    rw [hadT, if_pos hs, haveN, haveN]
    exact bestN_row fun b hb c _ => by
      show G c b = oneG G m k c b
      rw [oneG, if_neg (by omega)]
  have h2 : moreF (hadT G n m) (fun i => G i k) (2 ^ n - 1) n = moreF (haveN (turnG (oneG G m k)) n m) (turnG (oneG G m k) m) (2 ^ n - 1) n := by
    refine moreF_eq (h1 _ h0) fun i hi _ => ⟨h1 _ (xor_lt h0 hi), ?_⟩
    show G i k = oneG G m k i m
    rw [oneG, if_pos rfl]
  rw [h2, moreF_have, foldK_all, have_all, turn_best, numP]
  omega
end Go.Proofs.Ytecgakfblhiiaaa
