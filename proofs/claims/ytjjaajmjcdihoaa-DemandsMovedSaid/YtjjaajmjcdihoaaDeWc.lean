/-
  Walks of package demands: what a bid gains the most by.
-/
import Derived.Test.YtjjaajmjcdihoaaDeWb
namespace Go.Proofs.Ytjjaajmjcdihoaa
open Go.RowKit Go.Shelf
set_option linter.unusedVariables false
attribute [local go_sem] Oper.semAt_some

/-- An element put behind what the call has made, in whatever round. -/
theorem wpListIn_app1 {F : Fence} {m : Nat} {P : Program} {ops : Array Oper} {rest : List Oper} {o : Oper} {a : Act} {Q : Exit → Act → World → Prop} {u : Value} {e1 : TypeId} {w : World} (hgd : o.guard = none) (s x : Operand) (t : TypeId)
    (ho : o.op = .call { callee := .builtin .append, args := #[s, x], argTypes := #[t, t] })
    (e : TypeId) (i : TypeInfo) (z : Value) (bytes : Nat) (ht : P.underlying t = some (.slice e)) (hi : P.info? e = some i) (hz : i.zero = some z)
    (hsize : i.size = 1) (hby : i.bytes = bytes) (hzs : z.cells.size = 1)
    (B : Nat) (A : Option Addr) (n c : Nat) (xs : List Value) (hs : a.eval s = .slice A n c) (hown : Own w B e A n c xs)
    (c' : Nat) (hx : a.eval x = .slice (some ⟨w.heap.size, 0, none⟩) 1 c') (h1 : u.oneCell' = true)
    (h63 : n + 1 ≤ maxLen) (hbytes : (n + 1) * bytes ≤ 140737488355328) (hB : B ≤ w.heap.size)
    (h : ∀ A2 c2 w', Own w' B e A2 (n + 1) c2 (xs ++ [u]) → Below B w w' → (∀ k, k < w.heap.size → ((n = 0 ∧ c = 0) ∨ A ≠ some ⟨k, 0, none⟩) → w'.heap[k]? = w.heap[k]?) →
      w.heap.size ≤ w'.heap.size → wpListIn F m P ops Q rest (a.put o.dst (.slice A2 (n + 1) c2)) w') : wpListIn F m P ops Q (o :: rest) a (w.alloc (.cells #[u] e1)) := by
  refine wpListIn_plain hgd fun K hK' => ?_
  obtain ⟨A2, c2, w', hrun, h2, h3, h4, h5⟩ := run_app (P := P) (w.alloc (.cells #[u] e1)) t o.type e i z bytes ht hi hz hsize hby hzs B A n c xs (hown.alloc _) (some ⟨w.heap.size, 0, none⟩) 1 c' [u]
    ⟨rfl, fun _ => ⟨w.heap.size, 0, rfl, fun j hj => by
      obtain rfl : j = 0 := by omega
      rw [cell_of_row _ _ _ _ _ _ (heap_alloc_new w _)]
      rfl⟩⟩ (by simpa using h1) h63 hbytes (by simp; omega)
  unfold Oper.wpIn
  refine ⟨?_, ?_⟩
  · simp [Oper.about, ho, resolve, Target.leads, Sem.run_pure]
  · rw [Oper.semAt_plain F _ _ (by rw [ho]; intro c hc'; cases hc')]
    simp [execOp, ho, resolve, invoke, builtin, hs, hx, hrun, Result.andThen]
    refine hK' _ _ (h A2 c2 w' h2 (((Below.refl B w).alloc hB _).trans h3) (fun k hk hne => ?_) ?_)
    · rw [h4 k (by simp; omega) hne]
      exact Below.heap_alloc w _ k hk
    · have := h3.size; simp at this; omega

set_option maxRecDepth 100000 in
set_option maxHeartbeats 1000000 in
theorem dmost1_any (m pb B : Nat) (A : Option Addr) (n c : Nat) (zs : List Int) (u : FrameMode) (w : World) (hb : Boxed w pb 22 (.slice A n c)) (own : Own w B 3 A n c (ci64 zs)) :
    CallsDIn Fence.wide m Try.prog 25 #[.pointer (some ⟨pb, 0, none⟩)] u w fun e u' w' => u' = u ∧ (e = .returned (.tuple #[]) ∧ Own w' B 3 A n c (ci64 zs.reverse) ∧ w.heap.size ≤ w'.heap.size ∧
      (∀ k, ((n = 0 ∧ c = 0) ∨ A ≠ some ⟨k, 0, none⟩) → w'.heap[k]? = w.heap[k]?) ∧ Below B w w') := by
  refine callsDIn_of_wp Try.func25 rfl trivial ?_ rfl
  simp only [Try.ntmps25, List.size_toArray, List.length_cons, List.length_nil, Nat.reduceAdd, Nat.reduceSub, Array.replicate_succ, Array.replicate_zero, List.push_toArray, List.append_toArray, List.nil_append, List.cons_append]
  refine wpIn_wide.2 ?_
  have hc := hb.cell
  have hrv := dreverse_any B A n c zs w own
  go_wp2_with fail
  refine hrv.mono ?_
  rintro e w' ⟨rfl, h⟩
  clear hrv
  go_wp2
  go_end0
  exact ⟨rfl, h⟩

theorem infoDe_int : (Try.prog.info? 3).map (fun i => (i.zero, i.size, i.bytes)) = some (some (.int .i64 0), 1, 8) := by kernel_rfl
/-- What is found so far. -/
def stepM (p : List Int) (s : List Int × Int) (x : Nat × Int) : List Int × Int :=
  if s.2 < x.2 - p.getD x.1 0 then ([(x.1 : Int)], x.2 - p.getD x.1 0) else if x.2 - p.getD x.1 0 = s.2 then (s.1 ++ [(x.1 : Int)], s.2) else s
def stM (p : List Int) (l : List (Nat × Int)) : List Int × Int := l.foldl (stepM p) ([], 0)
theorem stM_snoc (p : List Int) (l : List (Nat × Int)) (x : Nat × Int) : stM p (l ++ [x]) = stepM p (stM p l) x := by
  rw [stM, List.foldl_append]; rfl
theorem stepM_len (p : List Int) (s : List Int × Int) (x : Nat × Int) : (stepM p s x).1.length ≤ s.1.length + 1 := by
  rw [stepM]
  split
  · simp
  · split
    · simp
    · simp
theorem stM_len (p : List Int) (l : List (Nat × Int)) : (stM p l).1.length ≤ l.length := by
  have h : ∀ (l : List (Nat × Int)) (s : List Int × Int), (l.foldl (stepM p) s).1.length ≤ s.1.length + l.length := by
    intro l
    induction l with
    | nil => intro s; simp
    | cons x l ih =>
      intro s
      have h1 := ih (stepM p s x)
      have h2 := stepM_len p s x
      rw [List.foldl_cons, List.length_cons]; omega
  have := h l ([], 0)
  rw [stM]; simpa using this
theorem stM_back (b p : List Int) : ∀ m, m ≤ b.length → stM p (backL b m) = (iB b p m, gB b p m)
  | 0, _ => rfl
  | m + 1, hm => by
    rw [backL_succ, stM_snoc, stM_back b p m (by omega), stepM]
    have hg : b.getD (b.length - 1 - m) 0 - p.getD (b.length - 1 - m) 0 = gapB b p m := rfl
    simp only [hg]
    by_cases h1 : gB b p m < gapB b p m
    · rw [if_pos h1, (iB_gt h1).1, (iB_gt h1).2]
    · rw [if_neg h1]
      by_cases h2 : gapB b p m = gB b p m
      · rw [if_pos h2, (iB_eq h2).1, (iB_eq h2).2]
      · rw [if_neg h2, (iB_lt (by omega)).1, (iB_lt (by omega)).2]

theorem itemsD_fit {b p : List Int} (z : Int) (h : z ∈ itemsD b p) : 0 ≤ z ∧ z < b.length := by
  rw [itemsD, List.mem_map] at h
  obtain ⟨k, hk, rfl⟩ := h
  have := (mem_itemsN.1 hk).1
  omega
theorem others_appD {w w' : World} {B n c : Nat} {e : TypeId} {A : Option Addr} {xs : List Value} (h : Own w B e A n c xs) (hs : w.heap.size ≤ w'.heap.size) (hf : ∀ k, k < w.heap.size → ((n = 0 ∧ c = 0) ∨ A ≠ some ⟨k, 0, none⟩) → w'.heap[k]? = w.heap[k]?) : KeepsOthers w w' := by
  refine ⟨hs, fun k o hk ho => ?_⟩
  rw [hf k (Array.getElem?_eq_some_iff.1 hk).1 ?_]
  · exact hk
  · by_cases hc : c = 0
    · exact .inl ⟨by have := h.le; omega, hc⟩
    · right
      obtain ⟨g, cur, hA, hg, hh, r⟩ := h.2.resolve_left (by omega)
      intro he
      rw [hA] at he
      cases he
      rw [hh] at hk; cases hk; simp [Obj.isCells] at ho
theorem own_past {w : World} {B n c k : Nat} {e : TypeId} {A : Option Addr} {xs : List Value} (h : Own w B e A n c xs) (hk : k < B) : (n = 0 ∧ c = 0) ∨ A ≠ some ⟨k, 0, none⟩ := by
  by_cases hc : c = 0
  · exact .inl ⟨by have := h.le; omega, hc⟩
  · right
    obtain ⟨g, hA, hg, _⟩ := h.lt (by omega)
    intro he
    rw [hA] at he
    cases he
    omega
set_option maxRecDepth 100000 in
set_option maxHeartbeats 1000000 in
theorem dmost_any (b y : Ls) (w : World) (hb : b.Ok w) (hy : y.Ok w) (hm : mayD b.zs y.zs = true) :
    Calls Try.prog 17 #[.slice b.A b.n b.c, .slice y.A y.n y.c] w fun e w' => ∃ A n c, e = .returned (.tuple #[.slice A n c, .int .i64 (gainD b.zs y.zs)]) ∧ OwnI w' w.heap.size ⟨A, n, c, itemsD b.zs y.zs⟩ ∧ Below w.heap.size w w' := by
  have hmf : ∀ (fn : Fn) (first cap : Array Value) (w : World), (Instr.makeFunc fn first cap).run Try.prog w = .ok (.func fn first cap) w := fun _ _ _ _ => rfl
  obtain ⟨m1, m2, m3, m4, m5⟩ := mayD_len hm
  rw [hy.len] at m1 m2
  have HBL := Lib.hid hb.len
  have HYL := Lib.hid hy.len
  have hbn : b.n ≤ y.n := by
    rcases m3 with h | h
    · have := hb.len; rw [h] at this; simp at this; omega
    · have := hb.len; have := hy.len; omega
  have HM4 := Lib.hid m4
  have HM5 := Lib.hid m5
  clear m3 m4 m5
  obtain ⟨i0, hi0, hz0, hz1, hz2⟩ := info_parts infoDe_int
  refine (callsIn_wide (n := 3)).1 ?_
  refine callsIn_of_wp_marks Try.func17 rfl trivial ?_ rfl
  simp only [Try.ntmps17, List.size_toArray, List.length_cons, List.length_nil, Nat.reduceAdd, Nat.reduceSub, Array.replicate_succ, Array.replicate_zero, List.push_toArray, List.append_toArray, List.nil_append, List.cons_append]
  refine wpIn_wide.2 ?_
  go_wp2_with fail
  refine (dback_any b _).mono ?_
  rintro e w' ⟨rfl, rfl⟩
  go_wp2
  have hB1 : Below w.heap.size w ((((w.alloc (.cells #[.slice y.A y.n y.c] 22)).alloc (.cells #[.slice none 0 0] 22)).alloc (.cells #[.int .i64 0] 3)).alloc (.cells #[.slice b.A b.n b.c] 22)) := ((((Below.refl _ w).alloc (Nat.le_refl _) _).alloc (by simp) _).alloc (by simp; omega) _).alloc (by simp; omega) _
  have bY := (((Boxed.new w 22 (.slice y.A y.n y.c)).alloc (.cells #[.slice none 0 0] 22)).alloc (.cells #[.int .i64 0] 3)).alloc (.cells #[.slice b.A b.n b.c] 22)
  have bI := ((Boxed.new (w.alloc (.cells #[.slice y.A y.n y.c] 22)) 22 (.slice none 0 0)).alloc (.cells #[.int .i64 0] 3)).alloc (.cells #[.slice b.A b.n b.c] 22)
  have bG := (Boxed.new ((w.alloc (.cells #[.slice y.A y.n y.c] 22)).alloc (.cells #[.slice none 0 0] 22)) 3 (.int .i64 0)).alloc (.cells #[.slice b.A b.n b.c] 22)
  have bB := Boxed.new (((w.alloc (.cells #[.slice y.A y.n y.c] 22)).alloc (.cells #[.slice none 0 0] 22)).alloc (.cells #[.int .i64 0] 3)) 22 (.slice b.A b.n b.c)
  have hs1 : ((((w.alloc (.cells #[.slice y.A y.n y.c] 22)).alloc (.cells #[.slice none 0 0] 22)).alloc (.cells #[.int .i64 0] 3)).alloc (.cells #[.slice b.A b.n b.c] 22)).heap.size = w.heap.size + 4 := by simp
  simp only [World.size_alloc] at bI bG bB
  obtain ⟨yb, hyb⟩ : ∃ yb, yb = w.heap.size := ⟨_, rfl⟩
  obtain ⟨ib, hib⟩ : ∃ ib, ib = w.heap.size + 1 := ⟨_, rfl⟩
  obtain ⟨gb, hgb⟩ : ∃ gb, gb = w.heap.size + 1 + 1 := ⟨_, rfl⟩
  obtain ⟨bb, hbb⟩ : ∃ bb, bb = w.heap.size + 1 + 1 + 1 := ⟨_, rfl⟩
  obtain ⟨B0, hB0⟩ : ∃ B0, B0 = w.heap.size + 4 := ⟨_, rfl⟩
  rw [← hbb, ← hgb, ← hib, ← hyb]
  rw [← hib] at bI
  rw [← hgb] at bG
  rw [← hbb] at bB
  rw [← hyb] at bY
  rw [← hB0] at hs1
  have HN := Lib.hid (And.intro hyb (And.intro hib (And.intro hgb (And.intro hbb hB0))))
  generalize (((w.alloc (.cells #[.slice y.A y.n y.c] 22)).alloc (.cells #[.slice none 0 0] 22)).alloc (.cells #[.int .i64 0] 3)).alloc (.cells #[.slice b.A b.n b.c] 22) = w1 at hB1 bY bI bG bB hs1 ⊢
  clear hyb hib hgb hbb hB0
  refine (wpIn_wide (n := 3)).1 ?_
  refine range_seqE (n := 3) (by omega) (gf := 31) (lb := #[.pointer (some ⟨bb, 0, none⟩)]) rfl (enters_of Try.func31 (by kernel_rfl) rfl)
    (dback1_seq b bb w1) (Below.refl _ _) (fun _ => rfl) (fun _ _ _ _ _ h => h) (fun _ _ hc h => ⟨boxed_cel h.1 hc, h.2.cel hc⟩) ⟨bB, hb.below hB1⟩
    (fun pre W => ∃ A n c, Boxed W ib 22 (.slice A n c) ∧ Own W B0 3 A n c (ci64 (stM y.zs (pre.map (·.1))).1) ∧ Boxed W gb 3 (.int .i64 (stM y.zs (pre.map (·.1))).2) ∧ Boxed W yb 22 (.slice y.A y.n y.c) ∧ Below w.heap.size w W ∧ B0 ≤ W.heap.size)
    (fun s a c hc hbl h => by
      obtain ⟨A, n, k, h1, h2, h3, h4, h5, h6⟩ := h
      exact ⟨A, n, k, boxed_cel h1 hc, h2.cel hc, boxed_cel h3 hc, boxed_cel h4 hc, h5.trans (hbl.mono hB1.size), by have := hc.size; omega⟩)
    ⟨none, 0, 0, bI, Own.none_ _ _ _ _, bG, bY, hB1, by omega⟩
    (fun x a' _ => a' = { tmps := #[.slice b.A b.n b.c, .slice y.A y.n y.c, undef, .pointer (some ⟨yb, 0, none⟩), .pointer (some ⟨ib, 0, none⟩), .pointer (some ⟨gb, 0, none⟩), .int .i64 (x.1.1 : Int), .int .i64 x.1.2, undef, .func (.func 25) #[] #[.pointer (some ⟨ib, 0, none⟩)], .slice b.A b.n b.c, .func (.func 31) #[] #[.pointer (some ⟨bb, 0, none⟩)], .int .i64 (x.1.1 : Int), .int .i64 x.1.2, undef, undef, undef, undef, undef, undef, undef, undef, undef, undef, undef, undef, undef, undef, undef, undef, undef, undef, undef], defers := [] })
    (fun _ _ _ _ _ h => h) ?assign ?body ?done
  case assign =>
    intro l pre x B W K hI hE hV hK
    simp only [encBack, List.zip_toArray, List.zip_cons_cons, List.zip_nil_right, List.foldl_toArray', List.foldl_cons, List.foldl_nil, List.size_toArray, List.setIfInBounds_toArray, List.set_cons_succ, List.set_cons_zero]
    gi_wp2
    exact hK _ _ (Below.refl _ _) rfl
  case body =>
    rintro l pre ⟨⟨k, z⟩, hx1, hx2⟩ a' W0 W ⟨A, n, c, jI, jO, jG, jY, jB, hw0⟩ hlen hcel hbel - rfl ⟨kB, kO⟩
    dsimp only at hx1 hx2 ⊢
    have cI := boxed_cel jI hcel
    have oI := jO.cel hcel
    have cG := boxed_cel jG hcel
    have cY := boxed_cel jY hcel
    have hBW := jB.trans (hbel.mono hB1.size)
    have hyW := hy.below hBW
    have hszW : B0 ≤ W.heap.size := by have := hcel.size; have := hw0; omega
    clear jI jO jG jY jB hcel hbel hw0 W0 bY bI bG bB
    have hky : k < y.n := by rw [HBL.out] at hx1; omega
    have hky1 : (k : Int) < y.n := by omega
    obtain ⟨p, q, hA, hp, u0, hu0, hc0⟩ := hyW.rd.get hky
    have hjl : k < y.zs.length := by rw [HYL.out]; exact hky
    rw [ci64_get _ _ hjl] at hu0
    obtain rfl : iV y.zs[k] = u0 := Option.some.inj hu0
    unfold iV at hc0
    have hgd : y.zs.getD k 0 = y.zs[k] := by rw [List.getD_eq_getElem?_getD, List.getElem?_eq_getElem hjl]; rfl
    rw [← hgd] at hc0
    have hvr : 0 ≤ y.zs.getD k 0 ∧ y.zs.getD k 0 ≤ 2000000 := by rw [hgd]; exact HM5.out _ (List.getElem_mem hjl)
    have hzr : 0 ≤ z ∧ z ≤ 1000000 := by
      rw [List.getD_eq_getElem?_getD, List.getElem?_eq_getElem hx1] at hx2
      have hx2' : b.zs[k] = z := hx2
      rw [← hx2']; exact HM4.out _ (List.getElem_mem hx1)
    have HK : Hid (stM y.zs ((pre ++ [(⟨(k, z), hx1, hx2⟩ : BackOf b.zs)]).map (·.1)) = stepM y.zs (stM y.zs (pre.map (·.1))) (k, z)) := Lib.hid (by
      rw [List.map_append]; exact stM_snoc _ _ _)
    have hl0 := stM_len y.zs (pre.map (·.1))
    rw [List.length_map] at hl0
    unfold stepM at HK
    generalize stM y.zs (pre.map (·.1)) = st at oI cG HK hl0
    obtain ⟨I0, g0⟩ := st
    dsimp only at oI cG HK hl0
    obtain ⟨v, hv⟩ : ∃ v, y.zs.getD k 0 = v := ⟨_, rfl⟩
    rw [hv] at hc0 hvr HK
    have s1 : IntKind.i64.wrap (z - v) = z - v := by rw [IntKind.wrap_i64]; omega
    have cyW := cY.cell
    have cgW := cG.cell
    have ciW := cI.cell
    have fgW := cG.frozen
    have fiW := cI.frozen
    have HA := Lib.hid hA
    rw [hA] at cyW
    have hnl : n ≤ 8 := by have := oI.len; rw [ci64_len] at this; omega
    have hn1 : w.heap.size ≤ ib ∧ w.heap.size ≤ gb ∧ w.heap.size ≤ B0 ∧ ib < B0 ∧ gb < B0 ∧ yb < B0 ∧ bb < B0 := by have := HN.out; omega
    have hn2 : ib ≠ gb ∧ gb ≠ ib ∧ yb ≠ ib ∧ yb ≠ gb ∧ bb ≠ ib ∧ bb ≠ gb := by have := HN.out; omega
    have hne1 : ¬ ib = gb := hn2.1
    have hne2 : ¬ gb = ib := hn2.2.1
    have HN1 := Lib.hid hn1
    have HN2 := Lib.hid hn2
    have hWs : B0 ≤ W.heap.size := by omega
    have hlr : I0.length = n := by have := oI.len; rwa [ci64_len] at this
    have HL0 := Lib.hid hlr
    clear hu0 hgd hjl hA hv hn1 hn2 hlr hvr hzr
    by_cases h1 : g0 < z - v
    · have h2 : (z - v == z - v) = true := by simp
      have HS : Hid (stM y.zs ((pre ++ [(⟨(k, z), hx1, hx2⟩ : BackOf b.zs)]).map (·.1)) = ([(k : Int)], z - v)) := Lib.hid (by rw [HK.out, if_pos h1])
      clear HK
      gi_wp2_with (gi_at_builtin; go_must (refine wpListIn_app1 (w := (W.setCell ⟨ib, 0, none⟩ (.slice none 0 0)).setCell ⟨gb, 0, none⟩ (.int .i64 (z - v))) rfl _ _ 22 rfl 3 i0 _ 8 Try.underlying22 hi0 hz0 hz1 hz2 rfl B0 none 0 0 [] (by rfl) (Own.none_ _ _ _ _) _ (by simp; rfl) rfl (by decide) (by omega) (by simp; exact hWs) ?_))
      intro A2 c2 W3 own3 bel3 fr3 sz3
      have eI := boxed_keep (cI.set (.slice none 0 0)) (heap_setCell_other _ ⟨gb, 0, none⟩ ib (.int .i64 (z - v)) hne1)
      have eG := Boxed.set (.int .i64 (z - v)) (boxed_keep cG (heap_setCell_other W ⟨ib, 0, none⟩ gb (.slice none 0 0) hne2))
      have eY := boxed_keep (boxed_keep cY (heap_setCell_other W ⟨ib, 0, none⟩ yb (.slice none 0 0) HN2.out.2.2.1)) (heap_setCell_other _ ⟨gb, 0, none⟩ yb (.int .i64 (z - v)) HN2.out.2.2.2.1)
      have eB := boxed_keep (boxed_keep kB (heap_setCell_other W ⟨ib, 0, none⟩ bb (.slice none 0 0) HN2.out.2.2.2.2.1)) (heap_setCell_other _ ⟨gb, 0, none⟩ bb (.int .i64 (z - v)) HN2.out.2.2.2.2.2)
      have hB2 := (hBW.setCell (p := ⟨ib, 0, none⟩) HN1.out.1 (.slice none 0 0)).setCell (p := ⟨gb, 0, none⟩) HN1.out.2.1 (.int .i64 (z - v))
      have hk2 : KeepsOthers W ((W.setCell ⟨ib, 0, none⟩ (.slice none 0 0)).setCell ⟨gb, 0, none⟩ (.int .i64 (z - v))) := (KeepsOthers.setCell _ _ _).trans (KeepsOthers.setCell _ _ _)
      have hs2 : ((W.setCell ⟨ib, 0, none⟩ (.slice none 0 0)).setCell ⟨gb, 0, none⟩ (.int .i64 (z - v))).heap.size = W.heap.size := by simp
      generalize (W.setCell ⟨ib, 0, none⟩ (.slice none 0 0)).setCell ⟨gb, 0, none⟩ (.int .i64 (z - v)) = W2 at *
      have fr3 : ∀ k, k < W2.heap.size → W3.heap[k]? = W2.heap[k]? := fun k hk => by
        have := fr3 k (by omega)
        first | exact this | exact this (.inl ⟨rfl, rfl⟩)
      have sz3 : W2.heap.size ≤ W3.heap.size := by omega
      have hw3 : B0 ≤ W3.heap.size := by omega
      clear hs2
      have kI := boxed_keep eI (fr3 ib eI.lt)
      have kG := boxed_keep eG (fr3 gb eG.lt)
      have kY := boxed_keep eY (fr3 yb eY.lt)
      have kBb := boxed_keep eB (fr3 bb eB.lt)
      have hB3 := hB2.trans (bel3.mono HN1.out.2.2.1)
      have hk3 := hk2.trans (others_appD (Own.none_ W2 B0 3 none) sz3 fun k hk _ => fr3 k hk)
      have cI3 := kI.cell
      have fI3 := kI.frozen
      clear fr3 bel3 eI eG eY eB hB2 hk2 cI cG cY kB kO ciW cgW cyW fgW fiW
      gi_wp2
      have hB4 := hB3.setCell (p := ⟨ib, 0, none⟩) HN1.out.1 (.slice A2 (0 + 1) c2)
      refine ⟨hk3.trans (KeepsOthers.setCell _ _ _), ⟨A2, 0 + 1, c2, kI.set _, ?_, ?_, boxed_keep kY (heap_setCell_other _ ⟨ib, 0, none⟩ yb _ HN2.out.2.2.1), hB4, by rw [World.size_setCell]; exact hw3⟩, boxed_keep kBb (heap_setCell_other _ ⟨ib, 0, none⟩ bb _ HN2.out.2.2.2.2.1), hb.below hB4⟩
      · rw [HS.out]
        exact own3.keep fun g _ _ hg _ => heap_setCell_other _ ⟨ib, 0, none⟩ g _ (show g ≠ ib by have := HN1.out; omega)
      · rw [HS.out]
        exact boxed_keep kG (heap_setCell_other _ ⟨ib, 0, none⟩ gb _ hne2)
    · by_cases h2 : z - v = g0
      · have h3 : (z - v == g0) = true := by simp [h2]
        have HS : Hid (stM y.zs ((pre ++ [(⟨(k, z), hx1, hx2⟩ : BackOf b.zs)]).map (·.1)) = (I0 ++ [(k : Int)], g0)) := Lib.hid (by rw [HK.out, if_neg h1, if_pos h2])
        clear HK h2
        gi_wp2_with (gi_at_builtin; go_must (refine wpListIn_app1 (w := W) rfl _ _ 22 rfl 3 i0 _ 8 Try.underlying22 hi0 hz0 hz1 hz2 rfl B0 A n c (ci64 I0) (by rfl) oI _ (by rfl) rfl (by unfold maxLen; omega) (by omega) hWs ?_))
        intro A2 c2 W3 own3 bel3 fr3 sz3
        have kI := boxed_keep cI (fr3 ib cI.lt (own_past oI HN1.out.2.2.2.1))
        have kG := boxed_keep cG (fr3 gb cG.lt (own_past oI HN1.out.2.2.2.2.1))
        have kY := boxed_keep cY (fr3 yb cY.lt (own_past oI HN1.out.2.2.2.2.2.1))
        have kBb := boxed_keep kB (fr3 bb kB.lt (own_past oI HN1.out.2.2.2.2.2.2))
        have hB3 := hBW.trans (bel3.mono HN1.out.2.2.1)
        have hk3 := others_appD oI sz3 fr3
        have hw3 : B0 ≤ W3.heap.size := by omega
        have cI3 := kI.cell
        have fI3 := kI.frozen
        clear fr3 bel3 oI cI cG cY kB kO ciW cgW cyW fgW fiW
        gi_wp2
        have hB4 := hB3.setCell (p := ⟨ib, 0, none⟩) HN1.out.1 (.slice A2 (n + 1) c2)
        refine ⟨hk3.trans (KeepsOthers.setCell _ _ _), ⟨A2, n + 1, c2, kI.set _, ?_, ?_, boxed_keep kY (heap_setCell_other _ ⟨ib, 0, none⟩ yb _ HN2.out.2.2.1), hB4, by rw [World.size_setCell]; exact hw3⟩, boxed_keep kBb (heap_setCell_other _ ⟨ib, 0, none⟩ bb _ HN2.out.2.2.2.2.1), hb.below hB4⟩
        · rw [HS.out, ci64_snoc6]
          exact own3.keep fun g _ _ hg _ => heap_setCell_other _ ⟨ib, 0, none⟩ g _ (show g ≠ ib by have := HN1.out; omega)
        · rw [HS.out]
          exact boxed_keep kG (heap_setCell_other _ ⟨ib, 0, none⟩ gb _ hne2)
      · have h3 : (z - v == g0) = false := by simp [h2]
        have HS : Hid (stM y.zs ((pre ++ [(⟨(k, z), hx1, hx2⟩ : BackOf b.zs)]).map (·.1)) = (I0, g0)) := Lib.hid (by rw [HK.out, if_neg h1, if_neg h2])
        clear HK h2
        gi_wp2
        refine ⟨KeepsOthers.refl _, ⟨A, n, c, cI, ?_, ?_, cY, hBW, hszW⟩, kB, kO⟩
        · rw [HS.out]; exact oI
        · rw [HS.out]; exact cG
  case done =>
    rintro D ys W hD hys ⟨A, n, c, cI, oI, cG, cY, hB, hw0⟩ hK
    have hfin : stM y.zs (ys.map (·.1)) = (iB b.zs y.zs b.zs.length, gB b.zs y.zs b.zs.length) := by
      rw [hys, ← HBL.out, stM_back _ _ _ (Nat.le_refl _)]
    rw [hfin] at oI cG
    dsimp only at oI cG
    rw [gB_all] at cG
    have cgW := cG.cell
    have ciW := cI.cell
    have fgW := cG.frozen
    have fiW := cI.frozen
    have mixed : Try.prog.follows .mixedOrders = true := by kernel_rfl
    have hne : ib ≠ gb ∧ gb ≠ ib ∧ w.heap.size ≤ ib ∧ w.heap.size ≤ gb := by have := HN.out; omega
    have hne1 : ¬ ib = gb := hne.1
    have hne2 : ¬ gb = ib := hne.2.1
    go_wp2_with fail
    go_region_o
    go_wp2
    have hDn : D ≠ ib ∧ D ≠ gb ∧ w.heap.size ≤ D := by have := HN.out; omega
    have d5 : (((W.setCell ⟨ib, 0, none⟩ (.slice A n c)).setCell ⟨gb, 0, none⟩ (.int .i64 (gainD b.zs y.zs))).drew).heap[D]? = some (.deferred (some [])) :=
      (heap_setCell_other _ ⟨gb, 0, none⟩ D _ hDn.2.1).trans ((heap_setCell_other _ ⟨ib, 0, none⟩ D _ hDn.1).trans hK)
    have eI := boxed_keep (cI.set (.slice A n c)) (heap_setCell_other _ ⟨gb, 0, none⟩ ib (.int .i64 (gainD b.zs y.zs)) hne1)
    have eG := Boxed.set (.int .i64 (gainD b.zs y.zs)) (boxed_keep cG (heap_setCell_other W ⟨ib, 0, none⟩ gb (.slice A n c) hne2))
    have eO : Own ((W.setCell ⟨ib, 0, none⟩ (.slice A n c)).setCell ⟨gb, 0, none⟩ (.int .i64 (gainD b.zs y.zs))) B0 3 A n c (ci64 (iB b.zs y.zs b.zs.length)) :=
      (oI.keep fun g _ _ hg _ => heap_setCell_other _ ⟨ib, 0, none⟩ g _ (show g ≠ ib by have := HN.out; omega)).keep fun g _ _ hg _ => heap_setCell_other _ ⟨gb, 0, none⟩ g _ (show g ≠ gb by have := HN.out; omega)
    have hB5 := ((hB.setCell (p := ⟨ib, 0, none⟩) hne.2.2.1 (.slice A n c)).setCell (p := ⟨gb, 0, none⟩) hne.2.2.2 (.int .i64 (gainD b.zs y.zs))).drew
    have eI : Boxed (((W.setCell ⟨ib, 0, none⟩ (.slice A n c)).setCell ⟨gb, 0, none⟩ (.int .i64 (gainD b.zs y.zs))).drew) ib 22 (.slice A n c) := eI
    have eG : Boxed (((W.setCell ⟨ib, 0, none⟩ (.slice A n c)).setCell ⟨gb, 0, none⟩ (.int .i64 (gainD b.zs y.zs))).drew) gb 3 (.int .i64 (gainD b.zs y.zs)) := eG
    have eO := eO.drew
    generalize ((W.setCell ⟨ib, 0, none⟩ (.slice A n c)).setCell ⟨gb, 0, none⟩ (.int .i64 (gainD b.zs y.zs))).drew = W5 at d5 eI eG eO hB5 ⊢
    have hcp := cel_putObj (.deferred none) d5 rfl
    have hB6 := hB5.trans (below_put (o := .deferred none) (o' := .deferred none) (W := W5) hDn.2.2)
    have eI6 := boxed_cel eI hcp
    have eG6 := boxed_cel eG hcp
    have eO6 := eO.cel hcp
    refine ⟨by simp, .inl ⟨D, _, rfl, run_takeDeferred d5, ?_⟩⟩
    generalize W5.putObj D (.deferred none) = W6 at *
    refine ⟨by simp, .inr ⟨fun _ => by decide, _, _, 25, #[.pointer (some ⟨ib, 0, none⟩)], rfl, by simp [go_sem], fun _ _ => trivial, (dmost1_any _ ib B0 A n c _ .returning W6 eI6 eO6).mono ?_⟩⟩
    rintro e u' w7 ⟨rfl, rfl, own7, sz7, fr7, bl7⟩
    have c4 := (boxed_keep eI6 (fr7 ib (own_past eO6 (by have := HN.out; omega)))).cell
    have c5 := (boxed_keep eG6 (fr7 gb (own_past eO6 (by have := HN.out; omega)))).cell
    rw [iB_all] at own7
    have hwb : w.heap.size ≤ B0 := by have := HN.out; omega
    refine ⟨.tuple #[.slice A n c, .int .i64 (gainD b.zs y.zs)], ?_, A, n, c, rfl, ⟨own7.mono hwb, fun z hz => ?_⟩, hB6.trans (bl7.mono hwb)⟩
    · simp [results, Try.results17, go_sem, c4, c5]
    · have h9 := itemsD_fit z hz
      have := hb.len
      omega
end Go.Proofs.Ytjjaajmjcdihoaa
