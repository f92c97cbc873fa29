/-
  Walks of package markets: gainsOf, Gains.
-/
import Derived.Test.YtdckoaljcklmhaaGreatDoorMarkO
import Derived.ChangeKeysEq
import Derived.Laws.StructEq
import Derived.Test.YtdckoaljcklmhaaGreatDoorVecW
namespace Go.Proofs.YtdckoaljcklmhaaGreatDoor
open Go.RowKit
set_option linter.unusedVariables false

section
variable {P : Program} (w : World)
theorem items_ints (d : Nat) {e : TypeId} {k : IntKind} (he : P.underlying e = some (.int k)) (hc : P.cellsOf e = 1) (xs ys : List Int) (is : List Nat) (ha : ∀ i ∈ is, i < xs.length) (hb : ∀ i ∈ is, i < ys.length) :
    (Op.eqItems (d + 1) e (P.cellsOf e) (xs.map (Value.int k)).toArray (ys.map (Value.int k)).toArray is).run P w = .ok (decide (∀ i ∈ is, xs[i]? = ys[i]?)) w := by
  have hpk : P.plainKey e = true := by unfold Program.plainKey; rw [he]
  induction is with
  | nil => simp [Op.eqItems]
  | cons i is ih =>
    have ha' := ha i (by simp)
    have hb' := hb i (by simp)
    have h1 : (xs.map (Value.int k)).toArray[i * P.cellsOf e]? = some (.int k xs[i]) := by simp [hc, ha']
    have h2 : (ys.map (Value.int k)).toArray[i * P.cellsOf e]? = some (.int k ys[i]) := by simp [hc, hb']
    rw [Op.eqItems]
    simp only [Sem.run_bind, run_part_plain w hpk h1, run_part_plain w hpk h2, Result.andThen_ok, run_equalIn_int w d e k k xs[i] ys[i] he]
    have ih' := ih (fun j hj => ha j (by simp [hj])) (fun j hj => hb j (by simp [hj]))
    by_cases hab : xs[i] = ys[i]
    · simp only [hab, beq_self_eq_true, Bool.not_true, Bool.false_eq_true, if_false]
      rw [ih']
      congr 1
      simp [List.getElem?_eq_getElem ha', List.getElem?_eq_getElem hb', hab]
    · have h3 : (xs[i] == ys[i]) = false := by rw [beq_eq_false_iff_ne]; exact hab
      simp only [h3, Bool.not_false, if_true, Sem.run_pure]
      congr 1
      simp [List.getElem?_eq_getElem ha', List.getElem?_eq_getElem hb', hab]
theorem equal_ints {t e : TypeId} {n : Nat} {k : IntKind} {i : TypeInfo} (ht : P.underlying t = some (.array n e)) (he : P.underlying e = some (.int k)) (hi : P.info? e = some i) (hc : P.cellsOf e = 1) (xs ys : List Int) (ha : xs.length = n) (hb : ys.length = n) :
    (Op.equalIn 10000 t (.agg (xs.map (Value.int k)).toArray) (.agg (ys.map (Value.int k)).toArray)).run P w = .ok (decide (xs = ys)) w := by
  rw [show 10000 = 9998 + 1 + 1 from rfl, run_equalIn_array w (9998 + 1) _ _ ht hi]
  rw [items_ints w 9998 he hc xs ys _ (by simp [ha]) (by simp [hb])]
  congr 1
  rw [decide_eq_decide]
  constructor
  · intro h
    apply List.ext_getElem?
    intro j
    by_cases hj : j < n
    · exact h j (by simpa using hj)
    · rw [List.getElem?_eq_none (by omega), List.getElem?_eq_none (by omega)]
  · rintro rfl _ _; rfl
end
/-- How often each of eight stands there. -/
def cnts (o : List Int) : List Int := (List.range 8).map fun i => (times o (i : Nat) : Int)
/-- The first of eight, once. -/
def onesN (n : Nat) : List Int := (List.range 8).map fun i => if i < n then 1 else 0
theorem cnts_len (o : List Int) : (cnts o).length = 8 := by simp [cnts]
theorem onesN_len (n : Nat) : (onesN n).length = 8 := by simp [onesN]
theorem onesN_step (j : Nat) (hj : j < 8) : (onesN j).set j 1 = onesN (j + 1) := by
  apply List.ext_getElem?
  intro i
  simp only [onesN, List.getElem?_set, List.length_map, List.length_range, List.getElem?_map]
  by_cases hi : i < 8
  · rw [List.getElem?_range hi]
    by_cases h : j = i
    · subst h; simp [hj]
    · simp only [if_neg h, Option.map_some, Option.some.injEq]
      by_cases h2 : i < j
      · rw [if_pos h2, if_pos (by omega)]
      · rw [if_neg h2, if_neg (by omega)]
  · have h3 : (List.range 8)[i]? = none := List.getElem?_eq_none (by simpa using hi)
    rw [h3, if_neg (by omega)]
    rfl
theorem cnts_get (o : List Int) (i : Nat) (hi : i < 8) : (cnts o)[i]? = some (times o (i : Nat) : Int) := by
  simp [cnts, List.getElem?_range hi]
theorem times_snoc (o : List Int) (m : Nat) (hm : m < o.length) (i : Int) : times (o.take (m + 1)) i = times (o.take m) i + if o[m] = i then 1 else 0 := by
  unfold times
  rw [List.take_succ_eq_append_getElem hm, List.countP_append, List.countP_cons, List.countP_nil]
  by_cases h : o[m] = i <;> simp [h]
theorem cnts_step (o : List Int) (m : Nat) (hm : m < o.length) (z : Nat) (hz : o[m] = (z : Int)) (h8 : z < 8) : (cnts (o.take m)).set z ((times (o.take m) (z : Nat) : Int) + 1) = cnts (o.take (m + 1)) := by
  apply List.ext_getElem?
  intro i
  rw [List.getElem?_set, cnts_len]
  by_cases hi : i < 8
  · rw [cnts_get _ i hi, cnts_get _ i hi, times_snoc o m hm, hz]
    by_cases h : z = i
    · subst h; simp [h8]
    · have h2 : ¬ (z : Int) = (i : Int) := by omega
      simp [h, h2]
  · rw [List.getElem?_eq_none (l := cnts (o.take m)) (by rw [cnts_len]; omega), List.getElem?_eq_none (l := cnts (o.take (m + 1))) (by rw [cnts_len]; omega), if_neg (by omega)]
theorem times_len (o : List Int) (i : Int) : times o i ≤ o.length := List.countP_le_length
theorem times_zero {o : List Int} {i : Int} (h : i ∉ o) : times o i = 0 := by
  rw [times, List.countP_eq_zero]
  intro z hz
  simp only [decide_eq_true_eq]
  rintro rfl
  exact h hz
/-- Each of so many stands in it once, and nobody else. -/
def eachB (o : List Int) (n : Nat) : Bool := decide ((∀ z ∈ o, 0 ≤ z ∧ z < n) ∧ ∀ i, i < n → times o (i : Nat) = 1)
theorem eachB_cnts {o : List Int} {n : Nat} (hn : n ≤ 8) (h : ∀ z ∈ o, 0 ≤ z ∧ z < n) : decide (cnts o = onesN n) = eachB o n := by
  unfold eachB
  rw [decide_eq_decide]
  constructor
  · intro he
    refine ⟨h, fun i hi => ?_⟩
    have h1 : (cnts o)[i]? = (onesN n)[i]? := by rw [he]
    rw [cnts_get o i (by omega)] at h1
    simp only [onesN, List.getElem?_map, List.getElem?_range (show i < 8 by omega), Option.map_some, if_pos hi, Option.some.injEq] at h1
    omega
  · intro ⟨_, he⟩
    apply List.ext_getElem?
    intro i
    by_cases hi : i < 8
    · rw [cnts_get o i hi]
      simp only [onesN, List.getElem?_map, List.getElem?_range hi, Option.map_some, Option.some.injEq]
      by_cases h2 : i < n
      · rw [he i h2, if_pos h2]; rfl
      · rw [if_neg h2, times_zero (fun hm => by have := h _ hm; omega)]; rfl
    · rw [List.getElem?_eq_none (by rw [cnts_len]; omega), List.getElem?_eq_none (by rw [onesN_len]; omega)]
theorem eachB_out {o : List Int} {n : Nat} {z : Int} (hz : z ∈ o) (h : ¬ (0 ≤ z ∧ z < n)) : eachB o n = false := by
  unfold eachB
  rw [decide_eq_false_iff_not]
  intro h1
  exact h (h1.1 z hz)

/-- A market may be, part by part. -/
theorem mayM_each (r : List Int) (b : List (List Int)) (o : List Int) : mayM r b o = (mayB r r.length && (decide (1 ≤ b.length) && (decide (b.length ≤ 8) && ((b.all fun l => bidB l r.length) && eachB o b.length)))) := by
  rw [Bool.eq_iff_iff, mayM_iff]
  simp only [Bool.and_eq_true, decide_eq_true_eq, List.all_eq_true, eachB]
  constructor
  · rintro ⟨h1, ⟨h2, h3, h4⟩, h5, h6⟩
    exact ⟨h1, h2, h3, h5, order_in h4 h6, h6⟩
  · rintro ⟨h1, h2, h3, h5, h7, h6⟩
    refine ⟨h1, ⟨h2, h3, ?_⟩, h5, h6⟩
    have hs := times_sum o b.length
    rw [sum_ones (by intro x hx; simp only [List.mem_map, List.mem_range] at hx; obtain ⟨i, hi, rfl⟩ := hx; exact h6 i hi), List.length_map, List.length_range, List.countP_eq_length.2 (fun z hz => by simp only [decide_eq_true_eq]; exact h7 z hz)] at hs
    exact hs
theorem setCell_ne' {w : World} {g b j : Nat} {v : Value} (h : g ≠ b) : (w.setCell ⟨b, j, none⟩ v).heap[g]? = w.heap[g]? := Below.heap_setCell _ _ _ _ h
end Go.Proofs.YtdckoaljcklmhaaGreatDoor


namespace Go.Proofs.YtdckoaljcklmhaaGreatDoor
open Go.RowKit
set_option linter.unusedVariables false

/-- The first ones are filled, the others are nil. -/
structure Fill (w : World) (B : Nat) (A : Option Addr) (n : Nat) (t : List Ls) : Prop where
  own : Own w B 22 A n n (t.map Ls.v ++ List.replicate (n - t.length) (.slice none 0 0))
  each : ∀ u ∈ t, OwnI w B u
  apt : AptL t
  le : t.length ≤ n
theorem Fill.below {w w' : World} {B : Nat} {A : Option Addr} {n : Nat} {t : List Ls} (h : Fill w B A n t) (hb : Below w.heap.size w w') : Fill w' B A n t := ⟨h.own.below hb, fun u hu => (h.each u hu).below hb, h.apt, h.le⟩
theorem Fill.mono {w : World} {B B' : Nat} {A : Option Addr} {n : Nat} {t : List Ls} (h : Fill w B A n t) (hB : B' ≤ B) : Fill w B' A n t := ⟨h.own.mono hB, fun u hu => (h.each u hu).mono hB, h.apt, h.le⟩
theorem Fill.keepB {w w' : World} {B : Nat} {A : Option Addr} {n : Nat} {t : List Ls} (h : Fill w B A n t) (hk : ∀ g, B ≤ g → w'.heap[g]? = w.heap[g]?) : Fill w' B A n t :=
  ⟨h.own.keep fun g _ _ hg _ => hk g hg, fun u hu => (h.each u hu).keepB hk, h.apt, h.le⟩
theorem Fill.set {w : World} {B g n : Nat} {t : List Ls} (h : Fill w B (some ⟨g, 0, none⟩) n t) (hn : t.length < n) (u : Ls) :
    Own (w.setCell ⟨g, t.length, none⟩ u.v) B 22 (some ⟨g, 0, none⟩) n n ((t ++ [u]).map Ls.v ++ List.replicate (n - (t ++ [u]).length) (.slice none 0 0)) := by
  have h1 := h.own.set (by omega) t.length u.v
  rw [show n - t.length = (n - (t ++ [u]).length) + 1 by simp; omega, List.replicate_succ] at h1
  rw [List.map_append, List.map_cons, List.map_nil, List.append_assoc, List.singleton_append]
  have e : (t.map Ls.v ++ (Value.slice none 0 0) :: List.replicate (n - (t ++ [u]).length) (Value.slice none 0 0)).set t.length u.v = t.map Ls.v ++ u.v :: List.replicate (n - (t ++ [u]).length) (Value.slice none 0 0) := by
    have hl : t.length = (t.map Ls.v).length := by simp
    conv => lhs; rw [hl]
    simp
  rw [e] at h1
  exact h1
/-- One more is filled. -/
theorem Fill.put {w : World} {B g n s : Nat} {t : List Ls} {u : Ls} (h : Fill w B (some ⟨g, 0, none⟩) n t) (hn : t.length < n) (hu : OwnI w s u) (hs : B ≤ s) (hsep : ∀ x ∈ t, ∀ g, Blk x g → g < s) :
    Fill (w.setCell ⟨g, t.length, none⟩ u.v) B (some ⟨g, 0, none⟩) n (t ++ [u]) := by
  refine ⟨h.set hn u, fun x hx => ?_, aptL_snoc h.apt hsep fun g hg => (hu.blk hg).1, by simp; omega⟩
  rcases List.mem_append.1 hx with hx | hx
  · exact (h.each x hx).setO h.own (by omega) (by decide) _ _
  · rw [List.mem_singleton.1 hx]
    exact (hu.mono hs).setO h.own (by omega) (by decide) _ _
/-- The cell that is filled next. -/
theorem Fill.cell {w : World} {B g n : Nat} {t : List Ls} (h : Fill w B (some ⟨g, 0, none⟩) n t) (hn : t.length < n) : w.cell? ⟨g, t.length, none⟩ = some (.slice none 0 0) ∧ w.frozen? ⟨g, t.length, none⟩ = false := by
  refine ⟨?_, h.own.free (by omega) _⟩
  rw [h.own.cell hn, List.getElem?_append_right (by simp), List.length_map, Nat.sub_self, List.getElem?_replicate, if_pos (by omega)]
end Go.Proofs.YtdckoaljcklmhaaGreatDoor


namespace Go.Proofs.YtdckoaljcklmhaaGreatDoor
open Go.RowKit
set_option linter.unusedVariables false

set_option maxRecDepth 100000 in
set_option maxHeartbeats 1000000 in
theorem bidsmay_any (A : Option Addr) (n c : Nat) (t : List Ls) (items : Int) (w : World) (hl : Lss w A n t) (hc : n ≤ c) (hc2 : c ≤ maxLen) :
    Calls Tryz.prog 62 #[.slice A n c, .int .i64 items] w fun e w' => e = .returned (.bool ((Ls.all t).all fun l => bidB l items)) ∧ Below w.heap.size w w' := by
  obtain ⟨b, hb0⟩ : ∃ b, b = Ls.all t := ⟨_, rfl⟩
  have hbn : b.length = n := by rw [hb0, Ls.all, List.length_map]; exact hl.len
  rw [← hb0]
  have HB0 := Lib.hid hb0
  have HBN := Lib.hid hbn
  have tn := Nat.le_trans hc hc2
  unfold maxLen at tn
  clear hb0 hbn
  go_enter Tryz.func62, Tryz.ntmps62
  go_wp2_with fail
  go_loopw [9] (fun i wr => ∃ j : Nat, j ≤ n ∧ i = .int .i64 j ∧ Hid (∀ l ∈ b.take j, bidB l items = true) ∧ Below w.heap.size w wr) (fun i _ => n - (intOf i).toNat)
  case atStart => exact ⟨0, Nat.zero_le _, rfl, Lib.hid (by simp), Below.refl _ _⟩
  case round =>
    obtain ⟨j, hj, rfl, hok, hB⟩ := hrel
    by_cases hlt : j < n
    · obtain ⟨p, q, u, hA, hu, hp, hcl, hk⟩ := hl.get hlt
      have hcell : wr.cell? ⟨p, q + j, none⟩ = some (.slice u.A u.n u.c) := (hB.cell (p := ⟨p, q + j, none⟩) hp).trans hcl
      have hjl : j < b.length := by rw [HBN.out]; exact hlt
      have hbj : b[j] = u.zs := by
        have h : b[j]? = some u.zs := by rw [HB0.out, Ls.all, List.getElem?_map, hu]; rfl
        rw [List.getElem?_eq_getElem hjl] at h
        exact Option.some.inj h
      have hst : ∀ P : List Int → Prop, (∀ l ∈ b.take j, P l) → P u.zs → ∀ l ∈ b.take (j + 1), P l := by
        intro P h1 h2 l hl'
        rw [List.take_succ_eq_append_getElem hjl] at hl'
        rcases List.mem_append.1 hl' with hl' | hl'
        · exact h1 l hl'
        · rw [List.mem_singleton.1 hl', hbj]; exact h2
      have hmem : u.zs ∈ b := by rw [← hbj]; exact List.getElem_mem hjl
      have hun := hk.len
      have hcap := Nat.le_trans hk.cap hk.top
      unfold maxLen at hcap
      have hrd := hk.rd
      obtain ⟨uA, un, uc, uz⟩ := u
      simp only at hcell hun hcap hrd hst hmem
      have HST := Lib.hid hst
      have HM := Lib.hid hmem
      subst hA
      clear hu hk hcl hbj hst hjl hmem hl
      by_cases hz0 : un = 0
      · subst hz0
        have hnext : Hid (∀ l ∈ b.take (j + 1), bidB l items = true) := Lib.hid (HST.out (fun l => bidB l items = true) hok.out (by rw [List.eq_nil_of_length_eq_zero hun]; rfl))
        clear hun hrd
        go_wp2
        go_roundw
        case rel => exact ⟨j + 1, by omega, by go_num, hnext, hB⟩
        case measure => simp [intOf]; omega
      · have hpos : decide (0 < un) = true := by simp; omega
        have hne : uz ≠ [] := by intro he; rw [he] at hun; exact hz0 hun.symm
        obtain ⟨β, hβ⟩ : ∃ β, mayB uz items = β := ⟨_, rfl⟩
        have hbe : bidB uz items = β := by unfold bidB; rw [decide_eq_false hne, Bool.false_or, hβ]
        have HBE := Lib.hid hbe
        have hck := check_of uA un uc uz items wr (hrd.below hB) β hβ
        clear hbe hne hun hz0 hβ hrd
        go_wp2_with fail
        refine hck.mono ?_
        rintro e w2 ⟨rfl, hb2⟩
        have hB2 := hB.trans (hb2.mono hB.size)
        clear hck hb2 hcell
        cases β
        · have hf : (b.all fun l => bidB l items) = false := by
            rw [List.all_eq_false]
            exact ⟨uz, HM.out, by rw [HBE.out]; simp⟩
          have HF := Lib.hid hf
          clear hf
          go_wp2
          go_ret
          exact ⟨ret_bool HF.out.symm, hB2⟩
        · have hnext : Hid (∀ l ∈ b.take (j + 1), bidB l items = true) := Lib.hid (HST.out (fun l => bidB l items = true) hok.out HBE.out)
          go_wp2
          go_roundw
          case rel => exact ⟨j + 1, by omega, by go_num, hnext, hB2⟩
          case measure => simp [intOf]; omega
    · obtain rfl : j = n := by omega
      have hf : (b.all fun l => bidB l items) = true := by
        rw [List.all_eq_true]
        have h := hok.out
        rw [List.take_of_length_le (by rw [HBN.out]; exact Nat.le_refl _)] at h
        exact h
      have HF := Lib.hid hf
      clear hf
      go_wp2
      go_ret
      exact ⟨ret_bool HF.out.symm, hB⟩

set_option maxRecDepth 100000 in
set_option maxHeartbeats 1000000 in
theorem each_any (A : Option Addr) (n c : Nat) (zs : List Int) (k : Nat) (w : World) (hr : Rd w A n (ci64 zs)) (hc : n ≤ c) (hc2 : c ≤ maxLen) (hk : k ≤ 8) :
    Calls Tryz.prog 63 #[.slice A n c, .int .i64 k] w fun e w' => e = .returned (.bool (eachB zs k)) ∧ Below w.heap.size w w' := by
  have hl : zs.length = n := by have h := hr.len; rw [ci64_len] at h; exact h
  have HL := Lib.hid hl
  have tn := Nat.le_trans hc hc2
  unfold maxLen at tn
  clear hl
  go_enter Tryz.func63, Tryz.ntmps63
  have hz : ∀ (v : World) (o1 : Obj), (v.alloc o1).heap.size = v.heap.size + 1 := fun v o1 => Array.size_push ..
  have hS0 := (Own.lit (B := w.heap.size) w 132 #[.int .i64 0, .int .i64 0, .int .i64 0, .int .i64 0, .int .i64 0, .int .i64 0, .int .i64 0, .int .i64 0] 8 (Nat.le_refl _) rfl (by unfold maxLen; omega)).alloc (.cells #[.int .i64 0, .int .i64 0, .int .i64 0, .int .i64 0, .int .i64 0, .int .i64 0, .int .i64 0, .int .i64 0] 132)
  have hS1 := Own.lit (B := w.heap.size + 1) (w.alloc (.cells #[.int .i64 0, .int .i64 0, .int .i64 0, .int .i64 0, .int .i64 0, .int .i64 0, .int .i64 0, .int .i64 0] 132)) 132 #[.int .i64 0, .int .i64 0, .int .i64 0, .int .i64 0, .int .i64 0, .int .i64 0, .int .i64 0, .int .i64 0] 8 (by rw [hz]; exact Nat.le_refl _) rfl (by unfold maxLen; omega)
  rw [hz] at hS1
  have hB := ((Below.refl w.heap.size w).alloc (Nat.le_refl _) (.cells #[.int .i64 0, .int .i64 0, .int .i64 0, .int .i64 0, .int .i64 0, .int .i64 0, .int .i64 0, .int .i64 0] 132)).alloc (by rw [hz]; omega) (.cells #[.int .i64 0, .int .i64 0, .int .i64 0, .int .i64 0, .int .i64 0, .int .i64 0, .int .i64 0, .int .i64 0] 132)
  clear hz
  go_wp2_with fail
  go_loopw [11] (fun i wr => ∃ j : Nat, j ≤ k ∧ i = .int .i64 j ∧ Own wr w.heap.size 132 (some ⟨w.heap.size, 0, none⟩) 8 8 (ci64 (cnts [])) ∧ Own wr (w.heap.size + 1) 132 (some ⟨w.heap.size + 1, 0, none⟩) 8 8 (ci64 (onesN j)) ∧ Below w.heap.size w wr) (fun i _ => k - (intOf i).toNat)
  case atStart => exact ⟨0, Nat.zero_le _, rfl, hS0, hS1, hB⟩
  case round =>
    obtain ⟨j, hj, rfl, h0, h1, hb⟩ := hrel
    clear hS0 hS1 hB
    by_cases hlt : j < k
    · have hj8 : (j : Int) < 8 := by omega
      have hf := h1.free (by omega) j
      have hcl := h1.cell (j := j) (by omega)
      rw [ci64_get _ _ (by rw [onesN_len]; omega)] at hcl
      unfold iV at hcl
      have hset := h1.set (by omega) j (.int .i64 1)
      have hkeep := h0.keep (w' := wr.setCell ⟨w.heap.size + 1, j, none⟩ (.int .i64 1)) fun g hA _ _ _ => setCell_ne' (by intro he; injection hA with hA; injection hA with hA; omega)
      have hb2 := hb.setCell (p := ⟨w.heap.size + 1, j, none⟩) (Nat.le_succ _) (.int .i64 1)
      have hones := onesN_step j (by omega)
      have hset2 : Own (wr.setCell ⟨w.heap.size + 1, j, none⟩ (.int .i64 1)) (w.heap.size + 1) 132 (some ⟨w.heap.size + 1, 0, none⟩) 8 8 (ci64 (onesN (j + 1))) := by
        rw [← hones]
        have e1 : ci64 ((onesN j).set j 1) = (ci64 (onesN j)).set j (.int .i64 1) := by simp [ci64, iV]
        rw [e1]
        exact hset
      clear hset hones h0 h1 hb
      go_wp2
      go_roundw
      case rel => exact ⟨j + 1, by omega, by go_num, hkeep, hset2, hb2⟩
      case measure => simp [intOf]; omega
    · obtain rfl : j = k := by omega
      clear hlt hj
      obtain ⟨wo, rfl⟩ : ∃ wo, wo = wr := ⟨_, rfl⟩
      go_wp2_with fail
      go_loopw [19] (fun i wr => ∃ m : Nat, m ≤ n ∧ i = .int .i64 m ∧ Own wr w.heap.size 132 (some ⟨w.heap.size, 0, none⟩) 8 8 (ci64 (cnts (zs.take m))) ∧ Own wr (w.heap.size + 1) 132 (some ⟨w.heap.size + 1, 0, none⟩) 8 8 (ci64 (onesN j)) ∧ Below w.heap.size w wr ∧ Hid (∀ z ∈ zs.take m, 0 ≤ z ∧ z < j)) (fun i _ => n - (intOf i).toNat)
      case atStart => exact ⟨0, Nat.zero_le _, rfl, h0, h1, hb, Lib.hid (by simp)⟩
      case round =>
        obtain ⟨m, hm, rfl, g0, g1, gb, gin⟩ := hrel
        clear h0 h1 hb
        by_cases hmn : m < n
        · obtain ⟨p, q, rfl, hp, u0, hu0, hc0⟩ := hr.get hmn
          have hml : m < zs.length := by rw [HL.out]; exact hmn
          rw [ci64_get _ _ hml] at hu0
          obtain rfl : iV zs[m] = u0 := Option.some.inj hu0
          have hcell : wr.cell? ⟨p, q + m, none⟩ = some (.int .i64 zs[m]) := (gb.cell (p := ⟨p, q + m, none⟩) hp).trans hc0
          have hmem : zs[m] ∈ zs := List.getElem_mem hml
          have hlast : ∀ P : Int → Prop, (∀ z ∈ zs.take m, P z) → P zs[m] → ∀ z ∈ zs.take (m + 1), P z := by
            intro P h1 h2 z hz
            rw [List.take_succ_eq_append_getElem hml] at hz
            rcases List.mem_append.1 hz with hz | hz
            · exact h1 z hz
            · rw [List.mem_singleton.1 hz]; exact h2
          have hstep := cnts_step zs m hml
          clear hu0 hc0
          generalize hzm : zs[m] = z at hcell hmem hlast hstep
          have HMEM := Lib.hid hmem
          clear hzm hmem hml
          by_cases hneg : z < 0
          · have HE := Lib.hid (eachB_out (n := j) HMEM.out (by omega))
            clear hstep hlast
            go_wp2
            go_ret
            exact ⟨ret_bool HE.out.symm, gb⟩
          · by_cases hbig : (j : Int) ≤ z
            · have HE := Lib.hid (eachB_out (n := j) HMEM.out (by omega))
              clear hstep hlast
              go_wp2
              go_ret
              exact ⟨ret_bool HE.out.symm, gb⟩
            · obtain ⟨zn, rfl⟩ : ∃ zn : Nat, z = (zn : Int) := ⟨z.toNat, by omega⟩
              have hznj : zn < j := by omega
              have hstep := hstep zn rfl (by omega)
              have hnext := Lib.hid (hlast (fun z => 0 ≤ z ∧ z < (j : Int)) gin.out (by omega))
              have hcnt := cnts_get (zs.take m) zn (by omega)
              have hct : times (zs.take m) (zn : Nat) ≤ m := by
                have h := times_len (zs.take m) (zn : Nat)
                rw [List.length_take] at h
                omega
              have hcl := g0.cell (j := zn) (by omega)
              have hfr := g0.free (by omega) zn
              have hcl2 : wr.cell? ⟨w.heap.size, zn, none⟩ = some (.int .i64 (times (zs.take m) (zn : Nat) : Nat)) := by
                rw [hcl, ci64, List.getElem?_map, hcnt]; rfl
              generalize times (zs.take m) (zn : Nat) = tm at hct hcl2 hstep
              have hz8 : (zn : Int) < 8 := by omega
              have hset := g0.set (by omega) zn (.int .i64 ((tm : Int) + 1))
              have hset2 : Own (wr.setCell ⟨w.heap.size, zn, none⟩ (.int .i64 ((tm : Int) + 1))) w.heap.size 132 (some ⟨w.heap.size, 0, none⟩) 8 8 (ci64 (cnts (zs.take (m + 1)))) := by
                rw [← hstep]
                have e1 : ci64 ((cnts (zs.take m)).set zn ((tm : Int) + 1)) = (ci64 (cnts (zs.take m))).set zn (.int .i64 ((tm : Int) + 1)) := by simp [ci64, iV]
                rw [e1]
                exact hset
              have hkeep := g1.keep (w' := wr.setCell ⟨w.heap.size, zn, none⟩ (.int .i64 ((tm : Int) + 1))) fun g hA _ _ _ => setCell_ne' (by intro he; injection hA with hA; injection hA with hA; omega)
              have hb2 := gb.setCell (p := ⟨w.heap.size, zn, none⟩) (Nat.le_refl _) (.int .i64 ((tm : Int) + 1))
              clear hset hstep hlast hcnt hcl g0 g1 gb
              go_wp2
              go_roundw
              case rel => exact ⟨m + 1, by omega, by go_num, hset2, hkeep, hb2, hnext⟩
              case measure => simp [intOf]; omega
        · obtain rfl : m = n := by omega
          have hall : zs.take m = zs := List.take_of_length_le (by rw [HL.out]; exact Nat.le_refl _)
          rw [hall] at g0 gin
          have hfin := eachB_cnts hk gin.out
          obtain ⟨i0, hi0, _, _, _⟩ := info_parts info_int
          have hEQ := fun wq => equal_ints (P := Tryz.prog) (t := 132) (e := 3) (n := 8) wq Tryz.underlying132 Tryz.underlying3 hi0 (by kernel_rfl) (cnts zs) (onesN j) (cnts_len _) (onesN_len _)
          have hc0 := g0.cell (j := 0) (by omega)
          have hc1 := g0.cell (j := 1) (by omega)
          have hc2 := g0.cell (j := 2) (by omega)
          have hc3 := g0.cell (j := 3) (by omega)
          have hc4 := g0.cell (j := 4) (by omega)
          have hc5 := g0.cell (j := 5) (by omega)
          have hc6 := g0.cell (j := 6) (by omega)
          have hc7 := g0.cell (j := 7) (by omega)
          have hd0 := g1.cell (j := 0) (by omega)
          have hd1 := g1.cell (j := 1) (by omega)
          have hd2 := g1.cell (j := 2) (by omega)
          have hd3 := g1.cell (j := 3) (by omega)
          have hd4 := g1.cell (j := 4) (by omega)
          have hd5 := g1.cell (j := 5) (by omega)
          have hd6 := g1.cell (j := 6) (by omega)
          have hd7 := g1.cell (j := 7) (by omega)
          have hl0 := cnts_len zs
          have hl1 := onesN_len j
          generalize cnts zs = l0 at *
          generalize onesN j = l1 at *
          match l0, hl0, l1, hl1 with
          | [a0, a1, a2, a3, a4, a5, a6, a7], _, [b0, b1, b2, b3, b4, b5, b6, b7], _ =>
            simp only [ci64, List.map_cons, List.map_nil, iV, List.getElem?_cons_zero, List.getElem?_cons_succ] at hc0 hc1 hc2 hc3 hc4 hc5 hc6 hc7 hd0 hd1 hd2 hd3 hd4 hd5 hd6 hd7 hEQ
            have HF := Lib.hid hfin
            clear hfin g0 g1
            go_wp2
            go_ret
            refine ⟨ret_bool ?_, gb⟩
            rw [← HF.out, Bool.eq_iff_iff]
            simp

set_option maxRecDepth 100000 in
set_option maxHeartbeats 1000000 in
theorem mcheckC : CheckC 22 := by
  intro x w h
  have hm : x.may = (mayB x.r.zs x.r.n && (decide (1 ≤ x.n) && (decide (x.n ≤ 8) && (((Ls.all x.b).all fun l => bidB l x.r.n) && eachB x.o.zs x.n)))) := by
    have hbl : (Ls.all x.b).length = x.n := by rw [Ls.all, List.length_map]; exact h.len
    rw [Mk.may, mayM_each, hbl, h.r.len]
  obtain ⟨β, hβ⟩ : ∃ β, mayB x.r.zs x.r.n = β := ⟨_, rfl⟩
  obtain ⟨γ, hγ⟩ : ∃ γ, ((Ls.all x.b).all fun l => bidB l x.r.n) = γ := ⟨_, rfl⟩
  obtain ⟨δ, hδ⟩ : ∃ δ, eachB x.o.zs x.n = δ := ⟨_, rfl⟩
  obtain ⟨M, hM⟩ : ∃ M, x.may = M := ⟨_, rfl⟩
  rw [hβ, hγ, hδ, hM] at hm
  rw [hM]
  have HM := Lib.hid hm
  have HBE := Lib.hid hβ
  have HGA := Lib.hid hγ
  have HDE := Lib.hid hδ
  clear hm hβ hγ hδ hM
  have hr := h.r.rd
  have ho := h.o.rd
  have hoc := h.o.cap
  have hot := h.o.top
  have hc := h.cap
  have ht := h.top
  have tr := Nat.le_trans h.r.cap h.r.top
  have to := Nat.le_trans hoc hot
  have tn := Nat.le_trans hc ht
  unfold maxLen at tr to tn
  have hbox := InBox.new w x
  have hBW : Below w.heap.size w (w.alloc (.cells #[.slice x.r.A x.r.n x.r.c, .slice x.A x.n x.c, .slice x.o.A x.o.n x.o.c] 25)) := (Below.refl _ w).alloc (Nat.le_refl _) _
  unfold Mk.v Ls.v
  go_enter Tryz.func22, Tryz.ntmps22
  go_wp2_with fail
  generalize w.alloc (.cells #[.slice x.r.A x.r.n x.r.c, .slice x.A x.n x.c, .slice x.o.A x.o.n x.o.c] 25) = W at hbox hBW ⊢
  have ⟨c0, c1, c2, clt⟩ := hbox
  refine wp_region_ord (S := fun w' => w'.cell? ⟨w.heap.size, 0, none⟩ = some (.slice x.r.A x.r.n x.r.c) ∧ w'.cell? ⟨w.heap.size, 1, none⟩ = some (.slice x.A x.n x.c)) [(0, true), (1, true), (2, true), (3, true), (4, true), (5, true), (6, true), (7, true)] default (by kernel_rfl) (by kernel_rfl) (by kernel_rfl) ⟨c0, c1⟩ ?_
  simp only [getOrd, nth]
  repeat (first | (refine ordS (by rfl) ?_; simp only [Act.put, List.setIfInBounds_toArray, List.set_cons_zero, List.set_cons_succ]) | (refine ordN (by rfl) ?_; simp only [Act.put, List.setIfInBounds_toArray, List.set_cons_zero, List.set_cons_succ]) | (refine ordQ (v := ?_) (by rfl) (fun _ hSw => ?_) ?_; rotate_left; (focus ((have hS1 := hSw.1); (have hS2 := hSw.2); clear hSw; go_simp; (first | done | with_reducible rfl))); simp only [Act.put, List.setIfInBounds_toArray, List.set_cons_zero, List.set_cons_succ]))
  refine ordE ?_
  have hboxd : InBox W.drew w.heap.size x := ⟨c0, c1, c2, clt⟩
  have hBd : Below w.heap.size w W.drew := hBW.drew
  clear c0 c1 c2 clt hbox hBW
  generalize W.drew = V at hboxd hBd ⊢
  have ⟨c0, c1, c2, clt⟩ := hboxd
  have hck := check_of x.r.A x.r.n x.r.c x.r.zs x.r.n V (hr.below hBd) β HBE.out
  go_wp2_with fail
  refine hck.mono ?_
  rintro e w1 ⟨rfl, hb1⟩
  have hB1 := hBd.trans (hb1.mono hBd.size)
  have hbox1 := hboxd.below hb1
  clear hck hb1 hboxd hBd c0 c1 c2 clt
  have ⟨c0, c1, c2, clt⟩ := hbox1
  cases β
  · go_wp2
    go_ret
    exact ⟨ret_bool (by rw [HM.out]; simp), hB1⟩
  · by_cases q1 : 1 ≤ x.n
    · by_cases q2 : x.n ≤ 8
      · have hbm := bidsmay_any x.A x.n x.c x.b x.r.n w1 (h.below hB1).lss hc ht
        rw [HGA.out] at hbm
        go_wp2_with fail
        refine hbm.mono ?_
        rintro e w2 ⟨rfl, hb2⟩
        have hB2 := hB1.trans (hb2.mono hB1.size)
        have hbox2 := hbox1.below hb2
        clear hbm hb2 hbox1 hB1 c0 c1 c2 clt
        have ⟨c0, c1, c2, clt⟩ := hbox2
        have e1 := Lib.hid (decide_eq_true q1)
        have e2 := Lib.hid (decide_eq_true q2)
        cases γ
        · go_wp2
          go_ret
          exact ⟨ret_bool (by rw [HM.out]; simp), hB2⟩
        · have he := each_any x.o.A x.o.n x.o.c x.o.zs x.n w2 (ho.below hB2) hoc hot q2
          rw [HDE.out] at he
          go_wp2_with fail
          refine he.mono ?_
          rintro e w3 ⟨rfl, hb3⟩
          have hB3 := hB2.trans (hb3.mono hB2.size)
          clear he hb3
          go_wp2
          go_ret
          exact ⟨ret_bool (by rw [HM.out, e1.out, e2.out]; simp), hB3⟩
      · have d2 := Lib.hid (decide_eq_false q2)
        go_wp2
        go_ret
        exact ⟨ret_bool (by rw [HM.out, d2.out]; simp), hB1⟩
    · have d1 := Lib.hid (decide_eq_false q1)
      go_wp2
      go_ret
      exact ⟨ret_bool (by rw [HM.out, d1.out]; simp), hB1⟩
end Go.Proofs.YtdckoaljcklmhaaGreatDoor


namespace Go.Proofs.YtdckoaljcklmhaaGreatDoor
open Go.RowKit
set_option linter.unusedVariables false

/-- The list of bids: where it lies, and each of them. -/
theorem bids_at {w : World} {x : Mk} (h : x.Ok w) (hn : 0 < x.n) : ∃ p q, x.A = some ⟨p, q, none⟩ ∧ p < w.heap.size ∧ ∀ j, j < x.n → ∃ u, x.b[j]? = some u ∧ w.cell? ⟨p, q + j, none⟩ = some (.slice u.A u.n u.c) ∧ u.Ok w := by
  obtain ⟨p, q, u, hA, _, _, hp, _, _⟩ := h.get hn
  refine ⟨p, q, hA, hp, fun j hj => ?_⟩
  obtain ⟨p', q', u', hA', hu', _, _, hc', hk'⟩ := h.get hj
  rw [hA] at hA'
  cases hA'
  exact ⟨u', hu', hc', hk'⟩

end Go.Proofs.YtdckoaljcklmhaaGreatDoor

