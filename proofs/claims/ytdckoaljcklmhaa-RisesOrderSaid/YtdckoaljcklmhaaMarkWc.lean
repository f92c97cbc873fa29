/-
  Walks of package markets: fresh, Without.
-/
import Derived.Test.YtdckoaljcklmhaaMarkO
import Derived.ChangeKeysEq
import Derived.Laws.StructEq
import Derived.Test.YtdckoaljcklmhaaVecW
namespace Go.Proofs.Ytdckoaljcklmhaa
open Go.RowKit
set_option linter.unusedVariables false

section
variable {P : Program} (w : World)
theorem items_ints (d : Nat) {e : TypeId} {k : IntKind} (he : P.underlying e = some (.int k)) (hc : P.cellsOf e = 1) (xs ys : List Int) (is : List Nat) (ha : ∀ i ∈ is, i < xs.length) (hb : ∀ i ∈ is, i < ys.length) :
    (Op.eqItems (d + 1) e (P.cellsOf e) (xs.map (Value.int k)).toArray (ys.map (Value.int k)).toArray is).run P w = .ok (decide (∀ i ∈ is, xs[i]? = ys[i]?)) w := by
  have hpk : P.plainKey e = true := by unfold Program.plainKey; rw [he]
  induction is with
  | nil => simp [Op.eqItems]
  | cons i is ih =>
    have ha' := ha i (by simp)
    have hb' := hb i (by simp)
    have h1 : (xs.map (Value.int k)).toArray[i * P.cellsOf e]? = some (.int k xs[i]) := by simp [hc, ha']
    have h2 : (ys.map (Value.int k)).toArray[i * P.cellsOf e]? = some (.int k ys[i]) := by simp [hc, hb']
    rw [Op.eqItems]
    simp only [Sem.run_bind, run_part_plain w hpk h1, run_part_plain w hpk h2, Result.andThen_ok, run_equalIn_int w d e k k xs[i] ys[i] he]
    have ih' := ih (fun j hj => ha j (by simp [hj])) (fun j hj => hb j (by simp [hj]))
    by_cases hab : xs[i] = ys[i]
    · simp only [hab, beq_self_eq_true, Bool.not_true, Bool.false_eq_true, if_false]
      rw [ih']
      congr 1
      simp [List.getElem?_eq_getElem ha', List.getElem?_eq_getElem hb', hab]
    · have h3 : (xs[i] == ys[i]) = false := by rw [beq_eq_false_iff_ne]; exact hab
      simp only [h3, Bool.not_false, if_true, Sem.run_pure]
      congr 1
      simp [List.getElem?_eq_getElem ha', List.getElem?_eq_getElem hb', hab]
theorem equal_ints {t e : TypeId} {n : Nat} {k : IntKind} {i : TypeInfo} (ht : P.underlying t = some (.array n e)) (he : P.underlying e = some (.int k)) (hi : P.info? e = some i) (hc : P.cellsOf e = 1) (xs ys : List Int) (ha : xs.length = n) (hb : ys.length = n) :
    (Op.equalIn 10000 t (.agg (xs.map (Value.int k)).toArray) (.agg (ys.map (Value.int k)).toArray)).run P w = .ok (decide (xs = ys)) w := by
  rw [show 10000 = 9998 + 1 + 1 from rfl, run_equalIn_array w (9998 + 1) _ _ ht hi]
  rw [items_ints w 9998 he hc xs ys _ (by simp [ha]) (by simp [hb])]
  congr 1
  rw [decide_eq_decide]
  constructor
  · intro h
    apply List.ext_getElem?
    intro j
    by_cases hj : j < n
    · exact h j (by simpa using hj)
    · rw [List.getElem?_eq_none (by omega), List.getElem?_eq_none (by omega)]
  · rintro rfl _ _; rfl
end
/-- How often each of eight stands there. -/
def cnts (o : List Int) : List Int := (List.range 8).map fun i => (times o (i : Nat) : Int)
/-- The first of eight, once. -/
def onesN (n : Nat) : List Int := (List.range 8).map fun i => if i < n then 1 else 0
theorem cnts_len (o : List Int) : (cnts o).length = 8 := by simp [cnts]
theorem onesN_len (n : Nat) : (onesN n).length = 8 := by simp [onesN]
theorem cnts_nil : cnts [] = List.replicate 8 0 := by decide
theorem onesN_zero : onesN 0 = List.replicate 8 0 := by decide
theorem onesN_step (j : Nat) (hj : j < 8) : (onesN j).set j 1 = onesN (j + 1) := by
  apply List.ext_getElem?
  intro i
  simp only [onesN, List.getElem?_set, List.length_map, List.length_range, List.getElem?_map]
  by_cases hi : i < 8
  · rw [List.getElem?_range hi]
    by_cases h : j = i
    · subst h; simp [hj]
    · simp only [if_neg h, Option.map_some, Option.some.injEq]
      by_cases h2 : i < j
      · rw [if_pos h2, if_pos (by omega)]
      · rw [if_neg h2, if_neg (by omega)]
  · have h3 : (List.range 8)[i]? = none := List.getElem?_eq_none (by simpa using hi)
    rw [h3, if_neg (by omega)]
    rfl
theorem cnts_get (o : List Int) (i : Nat) (hi : i < 8) : (cnts o)[i]? = some (times o (i : Nat) : Int) := by
  simp [cnts, List.getElem?_range hi]
theorem times_snoc (o : List Int) (m : Nat) (hm : m < o.length) (i : Int) : times (o.take (m + 1)) i = times (o.take m) i + if o[m] = i then 1 else 0 := by
  unfold times
  rw [List.take_succ_eq_append_getElem hm, List.countP_append, List.countP_cons, List.countP_nil]
  by_cases h : o[m] = i <;> simp [h]
theorem cnts_step (o : List Int) (m : Nat) (hm : m < o.length) (z : Nat) (hz : o[m] = (z : Int)) (h8 : z < 8) : (cnts (o.take m)).set z ((times (o.take m) (z : Nat) : Int) + 1) = cnts (o.take (m + 1)) := by
  apply List.ext_getElem?
  intro i
  rw [List.getElem?_set, cnts_len]
  by_cases hi : i < 8
  · rw [cnts_get _ i hi, cnts_get _ i hi, times_snoc o m hm, hz]
    by_cases h : z = i
    · subst h; simp [h8]
    · have h2 : ¬ (z : Int) = (i : Int) := by omega
      simp [h, h2]
  · rw [List.getElem?_eq_none (l := cnts (o.take m)) (by rw [cnts_len]; omega), List.getElem?_eq_none (l := cnts (o.take (m + 1))) (by rw [cnts_len]; omega), if_neg (by omega)]
theorem times_len (o : List Int) (i : Int) : times o i ≤ o.length := List.countP_le_length
theorem times_zero {o : List Int} {i : Int} (h : i ∉ o) : times o i = 0 := by
  rw [times, List.countP_eq_zero]
  intro z hz
  simp only [decide_eq_true_eq]
  rintro rfl
  exact h hz
/-- Each of so many stands in it once, and nobody else. -/
def eachB (o : List Int) (n : Nat) : Bool := decide ((∀ z ∈ o, 0 ≤ z ∧ z < n) ∧ ∀ i, i < n → times o (i : Nat) = 1)
theorem eachB_cnts {o : List Int} {n : Nat} (hn : n ≤ 8) (h : ∀ z ∈ o, 0 ≤ z ∧ z < n) : decide (cnts o = onesN n) = eachB o n := by
  unfold eachB
  rw [decide_eq_decide]
  constructor
  · intro he
    refine ⟨h, fun i hi => ?_⟩
    have h1 : (cnts o)[i]? = (onesN n)[i]? := by rw [he]
    rw [cnts_get o i (by omega)] at h1
    simp only [onesN, List.getElem?_map, List.getElem?_range (show i < 8 by omega), Option.map_some, if_pos hi, Option.some.injEq] at h1
    omega
  · intro ⟨_, he⟩
    apply List.ext_getElem?
    intro i
    by_cases hi : i < 8
    · rw [cnts_get o i hi]
      simp only [onesN, List.getElem?_map, List.getElem?_range hi, Option.map_some, Option.some.injEq]
      by_cases h2 : i < n
      · rw [he i h2, if_pos h2]; rfl
      · rw [if_neg h2, times_zero (fun hm => by have := h _ hm; omega)]; rfl
    · rw [List.getElem?_eq_none (by rw [cnts_len]; omega), List.getElem?_eq_none (by rw [onesN_len]; omega)]
theorem eachB_out {o : List Int} {n : Nat} {z : Int} (hz : z ∈ o) (h : ¬ (0 ≤ z ∧ z < n)) : eachB o n = false := by
  unfold eachB
  rw [decide_eq_false_iff_not]
  intro h1
  exact h (h1.1 z hz)

/-- A market may be, part by part. -/
theorem mayM_each (r : List Int) (b : List (List Int)) (o : List Int) : mayM r b o = (mayB r r.length && (decide (1 ≤ b.length) && (decide (b.length ≤ 8) && ((b.all fun l => bidB l r.length) && eachB o b.length)))) := by
  rw [Bool.eq_iff_iff, mayM_iff]
  simp only [Bool.and_eq_true, decide_eq_true_eq, List.all_eq_true, eachB]
  constructor
  · rintro ⟨h1, ⟨h2, h3, h4⟩, h5, h6⟩
    exact ⟨h1, h2, h3, h5, order_in h4 h6, h6⟩
  · rintro ⟨h1, h2, h3, h5, h7, h6⟩
    refine ⟨h1, ⟨h2, h3, ?_⟩, h5, h6⟩
    have hs := times_sum o b.length
    rw [sum_ones (by intro x hx; simp only [List.mem_map, List.mem_range] at hx; obtain ⟨i, hi, rfl⟩ := hx; exact h6 i hi), List.length_map, List.length_range, List.countP_eq_length.2 (fun z hz => by simp only [decide_eq_true_eq]; exact h7 z hz)] at hs
    exact hs
theorem setCell_ne' {w : World} {g b j : Nat} {v : Value} (h : g ≠ b) : (w.setCell ⟨b, j, none⟩ v).heap[g]? = w.heap[g]? := Below.heap_setCell _ _ _ _ h
end Go.Proofs.Ytdckoaljcklmhaa

namespace Go.Proofs.Ytdckoaljcklmhaa
open Go.RowKit
set_option linter.unusedVariables false

/-- The first ones are filled, the others are nil. -/
structure Fill (w : World) (B : Nat) (A : Option Addr) (n : Nat) (t : List Ls) : Prop where
  own : Own w B 22 A n n (t.map Ls.v ++ List.replicate (n - t.length) (.slice none 0 0))
  each : ∀ u ∈ t, OwnI w B u
  apt : AptL t
  le : t.length ≤ n
theorem Fill.below {w w' : World} {B : Nat} {A : Option Addr} {n : Nat} {t : List Ls} (h : Fill w B A n t) (hb : Below w.heap.size w w') : Fill w' B A n t := ⟨h.own.below hb, fun u hu => (h.each u hu).below hb, h.apt, h.le⟩
theorem Fill.mono {w : World} {B B' : Nat} {A : Option Addr} {n : Nat} {t : List Ls} (h : Fill w B A n t) (hB : B' ≤ B) : Fill w B' A n t := ⟨h.own.mono hB, fun u hu => (h.each u hu).mono hB, h.apt, h.le⟩
theorem Fill.keepB {w w' : World} {B : Nat} {A : Option Addr} {n : Nat} {t : List Ls} (h : Fill w B A n t) (hk : ∀ g, B ≤ g → w'.heap[g]? = w.heap[g]?) : Fill w' B A n t :=
  ⟨h.own.keep fun g _ _ hg _ => hk g hg, fun u hu => (h.each u hu).keepB hk, h.apt, h.le⟩
theorem Fill.start {w : World} {B : Nat} {A : Option Addr} {n : Nat} (h : Own w B 22 A n n (List.replicate n (.slice none 0 0))) : Fill w B A n [] := ⟨by simpa using h, by simp, List.Pairwise.nil, Nat.zero_le _⟩
theorem Fill.outs {w : World} {B : Nat} {A : Option Addr} {n : Nat} {t : List Ls} (h : Fill w B A n t) (hl : t.length = n) : Outs w B A n n t := by
  have h1 := h.own
  rw [hl, Nat.sub_self, List.replicate_zero, List.append_nil] at h1
  exact ⟨h1, h.each, h.apt⟩
theorem Fill.set {w : World} {B g n : Nat} {t : List Ls} (h : Fill w B (some ⟨g, 0, none⟩) n t) (hn : t.length < n) (u : Ls) :
    Own (w.setCell ⟨g, t.length, none⟩ u.v) B 22 (some ⟨g, 0, none⟩) n n ((t ++ [u]).map Ls.v ++ List.replicate (n - (t ++ [u]).length) (.slice none 0 0)) := by
  have h1 := h.own.set (by omega) t.length u.v
  rw [show n - t.length = (n - (t ++ [u]).length) + 1 by simp; omega, List.replicate_succ] at h1
  rw [List.map_append, List.map_cons, List.map_nil, List.append_assoc, List.singleton_append]
  have e : (t.map Ls.v ++ (Value.slice none 0 0) :: List.replicate (n - (t ++ [u]).length) (Value.slice none 0 0)).set t.length u.v = t.map Ls.v ++ u.v :: List.replicate (n - (t ++ [u]).length) (Value.slice none 0 0) := by
    have hl : t.length = (t.map Ls.v).length := by simp
    conv => lhs; rw [hl]
    simp
  rw [e] at h1
  exact h1
/-- One more is filled. -/
theorem Fill.put {w : World} {B g n s : Nat} {t : List Ls} {u : Ls} (h : Fill w B (some ⟨g, 0, none⟩) n t) (hn : t.length < n) (hu : OwnI w s u) (hs : B ≤ s) (hsep : ∀ x ∈ t, ∀ g, Blk x g → g < s) :
    Fill (w.setCell ⟨g, t.length, none⟩ u.v) B (some ⟨g, 0, none⟩) n (t ++ [u]) := by
  refine ⟨h.set hn u, fun x hx => ?_, aptL_snoc h.apt hsep fun g hg => (hu.blk hg).1, by simp; omega⟩
  rcases List.mem_append.1 hx with hx | hx
  · exact (h.each x hx).setO h.own (by omega) (by decide) _ _
  · rw [List.mem_singleton.1 hx]
    exact (hu.mono hs).setO h.own (by omega) (by decide) _ _
/-- One more stays nil. -/
theorem Fill.skip {w : World} {B n : Nat} {A : Option Addr} {t : List Ls} (h : Fill w B A n t) (hn : t.length < n) : Fill w B A n (t ++ [Ls.nil]) := by
  refine ⟨?_, fun x hx => ?_, ?_, by simp; omega⟩
  · have h1 := h.own
    rw [show n - t.length = (n - (t ++ [Ls.nil]).length) + 1 by simp; omega, List.replicate_succ] at h1
    rw [List.map_append, List.map_cons, List.map_nil, List.append_assoc, List.singleton_append]
    exact h1
  · rcases List.mem_append.1 hx with hx | hx
    · exact h.each x hx
    · rw [List.mem_singleton.1 hx]
      exact OwnI.nil _ _
  · refine List.pairwise_append.2 ⟨h.apt, List.pairwise_singleton _ _, fun a ha b hb g hg hg2 => ?_⟩
    rw [List.mem_singleton.1 hb] at hg2
    exact absurd hg2.1 (by simp [Ls.nil])
/-- The cell that is filled next. -/
theorem Fill.cell {w : World} {B g n : Nat} {t : List Ls} (h : Fill w B (some ⟨g, 0, none⟩) n t) (hn : t.length < n) : w.cell? ⟨g, t.length, none⟩ = some (.slice none 0 0) ∧ w.frozen? ⟨g, t.length, none⟩ = false := by
  refine ⟨?_, h.own.free (by omega) _⟩
  rw [h.own.cell hn, List.getElem?_append_right (by simp), List.length_map, Nat.sub_self, List.getElem?_replicate, if_pos (by omega)]
theorem Fill.sep {w : World} {B n : Nat} {A : Option Addr} {t : List Ls} (h : Fill w B A n t) : ∀ x ∈ t, ∀ g, Blk x g → g < w.heap.size := fun x hx g hg => ((h.each x hx).blk hg).2
theorem all_snoc (t : List Ls) (u : Ls) : Ls.all (t ++ [u]) = Ls.all t ++ [u.zs] := by simp [Ls.all]
theorem lessm_take {b : List (List Int)} {i j : Nat} (hj : j < b.length) : (less b i).take (j + 1) = (less b i).take j ++ [if i = j then [] else b[j]] := by
  unfold less
  have hj2 : j < (b.set i []).length := by rw [List.length_set]; exact hj
  rw [List.take_succ_eq_append_getElem hj2, List.getElem_set]
/-- Lists, and two that were made behind them, one behind the other. -/
theorem aptL_behind {r o : Ls} {t : List Ls} {s s2 : Nat} (h : AptL t) (ht : ∀ x ∈ t, ∀ g, Blk x g → g < s) (hr : ∀ g, Blk r g → s ≤ g ∧ g < s2) (ho : ∀ g, Blk o g → s2 ≤ g) (hs : s ≤ s2) : AptL (r :: (t ++ [o])) := by
  refine List.pairwise_cons.2 ⟨fun a ha g hg hg2 => ?_, List.pairwise_append.2 ⟨h, List.pairwise_singleton _ _, fun a ha b hb g hg hg2 => ?_⟩⟩
  · rcases List.mem_append.1 ha with ha | ha
    · have := ht a ha g hg2
      have := hr g hg
      omega
    · rw [List.mem_singleton.1 ha] at hg2
      have := ho g hg2
      have := hr g hg
      omega
  · rw [List.mem_singleton.1 hb] at hg2
    have := ht a ha g hg
    have := ho g hg2
    omega
end Go.Proofs.Ytdckoaljcklmhaa

namespace Go.Proofs.Ytdckoaljcklmhaa
open Go.RowKit
set_option linter.unusedVariables false

set_option maxRecDepth 100000 in
set_option maxHeartbeats 1000000 in
theorem bidsmay_any (A : Option Addr) (n c : Nat) (t : List Ls) (items : Int) (w : World) (hl : Lss w A n t) (hc : n ≤ c) (hc2 : c ≤ maxLen) :
    Calls Try.prog 25 #[.slice A n c, .int .i64 items] w fun e w' => e = .returned (.bool ((Ls.all t).all fun l => bidB l items)) ∧ Below w.heap.size w w' := by
  obtain ⟨b, hb0⟩ : ∃ b, b = Ls.all t := ⟨_, rfl⟩
  have hbn : b.length = n := by rw [hb0, Ls.all, List.length_map]; exact hl.len
  rw [← hb0]
  have HB0 := Lib.hid hb0
  have HBN := Lib.hid hbn
  have tn := Nat.le_trans hc hc2
  unfold maxLen at tn
  clear hb0 hbn
  go_enter Try.func25, Try.ntmps25
  go_wp2_with fail
  go_loopw [9] (fun i wr => ∃ j : Nat, j ≤ n ∧ i = .int .i64 j ∧ Hid (∀ l ∈ b.take j, bidB l items = true) ∧ Below w.heap.size w wr) (fun i _ => n - (intOf i).toNat)
  case atStart => exact ⟨0, Nat.zero_le _, rfl, Lib.hid (by simp), Below.refl _ _⟩
  case round =>
    obtain ⟨j, hj, rfl, hok, hB⟩ := hrel
    by_cases hlt : j < n
    · obtain ⟨p, q, u, hA, hu, hp, hcl, hk⟩ := hl.get hlt
      have hcell : wr.cell? ⟨p, q + j, none⟩ = some (.slice u.A u.n u.c) := (hB.cell (p := ⟨p, q + j, none⟩) hp).trans hcl
      have hjl : j < b.length := by rw [HBN.out]; exact hlt
      have hbj : b[j] = u.zs := by
        have h : b[j]? = some u.zs := by rw [HB0.out, Ls.all, List.getElem?_map, hu]; rfl
        rw [List.getElem?_eq_getElem hjl] at h
        exact Option.some.inj h
      have hst : ∀ P : List Int → Prop, (∀ l ∈ b.take j, P l) → P u.zs → ∀ l ∈ b.take (j + 1), P l := by
        intro P h1 h2 l hl'
        rw [List.take_succ_eq_append_getElem hjl] at hl'
        rcases List.mem_append.1 hl' with hl' | hl'
        · exact h1 l hl'
        · rw [List.mem_singleton.1 hl', hbj]; exact h2
      have hmem : u.zs ∈ b := by rw [← hbj]; exact List.getElem_mem hjl
      have hun := hk.len
      have hcap := Nat.le_trans hk.cap hk.top
      unfold maxLen at hcap
      have hrd := hk.rd
      obtain ⟨uA, un, uc, uz⟩ := u
      simp only at hcell hun hcap hrd hst hmem
      have HST := Lib.hid hst
      have HM := Lib.hid hmem
      subst hA
      clear hu hk hcl hbj hst hjl hmem hl
      by_cases hz0 : un = 0
      · subst hz0
        have hnext : Hid (∀ l ∈ b.take (j + 1), bidB l items = true) := Lib.hid (HST.out (fun l => bidB l items = true) hok.out (by rw [List.eq_nil_of_length_eq_zero hun]; rfl))
        clear hun hrd
        go_wp2
        go_roundw
        case rel => exact ⟨j + 1, by omega, by go_num, hnext, hB⟩
        case measure => simp [intOf]; omega
      · have hpos : decide (0 < un) = true := by simp; omega
        have hne : uz ≠ [] := by intro he; rw [he] at hun; exact hz0 hun.symm
        obtain ⟨β, hβ⟩ : ∃ β, mayB uz items = β := ⟨_, rfl⟩
        have hbe : bidB uz items = β := by unfold bidB; rw [decide_eq_false hne, Bool.false_or, hβ]
        have HBE := Lib.hid hbe
        have hck := check_of uA un uc uz items wr (hrd.below hB) β hβ
        clear hbe hne hun hz0 hβ hrd
        go_wp2_with fail
        refine hck.mono ?_
        rintro e w2 ⟨rfl, hb2⟩
        have hB2 := hB.trans (hb2.mono hB.size)
        clear hck hb2 hcell
        cases β
        · have hf : (b.all fun l => bidB l items) = false := by
            rw [List.all_eq_false]
            exact ⟨uz, HM.out, by rw [HBE.out]; simp⟩
          have HF := Lib.hid hf
          clear hf
          go_wp2
          go_ret
          exact ⟨ret_bool HF.out.symm, hB2⟩
        · have hnext : Hid (∀ l ∈ b.take (j + 1), bidB l items = true) := Lib.hid (HST.out (fun l => bidB l items = true) hok.out HBE.out)
          go_wp2
          go_roundw
          case rel => exact ⟨j + 1, by omega, by go_num, hnext, hB2⟩
          case measure => simp [intOf]; omega
    · obtain rfl : j = n := by omega
      have hf : (b.all fun l => bidB l items) = true := by
        rw [List.all_eq_true]
        have h := hok.out
        rw [List.take_of_length_le (by rw [HBN.out]; exact Nat.le_refl _)] at h
        exact h
      have HF := Lib.hid hf
      clear hf
      go_wp2
      go_ret
      exact ⟨ret_bool HF.out.symm, hB⟩

set_option maxRecDepth 100000 in
set_option maxHeartbeats 1000000 in
theorem each_any (A : Option Addr) (n c : Nat) (zs : List Int) (k : Nat) (w : World) (hr : Rd w A n (ci64 zs)) (hc : n ≤ c) (hc2 : c ≤ maxLen) (hk : k ≤ 8) :
    Calls Try.prog 26 #[.slice A n c, .int .i64 k] w fun e w' => e = .returned (.bool (eachB zs k)) ∧ Below w.heap.size w w' := by
  have hl : zs.length = n := by have h := hr.len; rw [ci64_len] at h; exact h
  have HL := Lib.hid hl
  have tn := Nat.le_trans hc hc2
  unfold maxLen at tn
  clear hl
  go_enter Try.func26, Try.ntmps26
  have hz : ∀ (v : World) (o1 : Obj), (v.alloc o1).heap.size = v.heap.size + 1 := fun v o1 => Array.size_push ..
  have hS0 := (Own.lit (B := w.heap.size) w 79 #[.int .i64 0, .int .i64 0, .int .i64 0, .int .i64 0, .int .i64 0, .int .i64 0, .int .i64 0, .int .i64 0] 8 (Nat.le_refl _) rfl (by unfold maxLen; omega)).alloc (.cells #[.int .i64 0, .int .i64 0, .int .i64 0, .int .i64 0, .int .i64 0, .int .i64 0, .int .i64 0, .int .i64 0] 79)
  have hS1 := Own.lit (B := w.heap.size + 1) (w.alloc (.cells #[.int .i64 0, .int .i64 0, .int .i64 0, .int .i64 0, .int .i64 0, .int .i64 0, .int .i64 0, .int .i64 0] 79)) 79 #[.int .i64 0, .int .i64 0, .int .i64 0, .int .i64 0, .int .i64 0, .int .i64 0, .int .i64 0, .int .i64 0] 8 (by rw [hz]; exact Nat.le_refl _) rfl (by unfold maxLen; omega)
  rw [hz] at hS1
  have hB := ((Below.refl w.heap.size w).alloc (Nat.le_refl _) (.cells #[.int .i64 0, .int .i64 0, .int .i64 0, .int .i64 0, .int .i64 0, .int .i64 0, .int .i64 0, .int .i64 0] 79)).alloc (by rw [hz]; omega) (.cells #[.int .i64 0, .int .i64 0, .int .i64 0, .int .i64 0, .int .i64 0, .int .i64 0, .int .i64 0, .int .i64 0] 79)
  clear hz
  go_wp2_with fail
  go_loopw [11] (fun i wr => ∃ j : Nat, j ≤ k ∧ i = .int .i64 j ∧ Own wr w.heap.size 79 (some ⟨w.heap.size, 0, none⟩) 8 8 (ci64 (cnts [])) ∧ Own wr (w.heap.size + 1) 79 (some ⟨w.heap.size + 1, 0, none⟩) 8 8 (ci64 (onesN j)) ∧ Below w.heap.size w wr) (fun i _ => k - (intOf i).toNat)
  case atStart => exact ⟨0, Nat.zero_le _, rfl, hS0, hS1, hB⟩
  case round =>
    obtain ⟨j, hj, rfl, h0, h1, hb⟩ := hrel
    clear hS0 hS1 hB
    by_cases hlt : j < k
    · have hj8 : (j : Int) < 8 := by omega
      have hf := h1.free (by omega) j
      have hcl := h1.cell (j := j) (by omega)
      rw [ci64_get _ _ (by rw [onesN_len]; omega)] at hcl
      unfold iV at hcl
      have hset := h1.set (by omega) j (.int .i64 1)
      have hkeep := h0.keep (w' := wr.setCell ⟨w.heap.size + 1, j, none⟩ (.int .i64 1)) fun g hA _ _ _ => setCell_ne' (by intro he; injection hA with hA; injection hA with hA; omega)
      have hb2 := hb.setCell (p := ⟨w.heap.size + 1, j, none⟩) (Nat.le_succ _) (.int .i64 1)
      have hones := onesN_step j (by omega)
      have hset2 : Own (wr.setCell ⟨w.heap.size + 1, j, none⟩ (.int .i64 1)) (w.heap.size + 1) 79 (some ⟨w.heap.size + 1, 0, none⟩) 8 8 (ci64 (onesN (j + 1))) := by
        rw [← hones]
        have e1 : ci64 ((onesN j).set j 1) = (ci64 (onesN j)).set j (.int .i64 1) := by simp [ci64, iV]
        rw [e1]
        exact hset
      clear hset hones h0 h1 hb
      go_wp2
      go_roundw
      case rel => exact ⟨j + 1, by omega, by go_num, hkeep, hset2, hb2⟩
      case measure => simp [intOf]; omega
    · obtain rfl : j = k := by omega
      clear hlt hj
      obtain ⟨wo, rfl⟩ : ∃ wo, wo = wr := ⟨_, rfl⟩
      go_wp2_with fail
      go_loopw [19] (fun i wr => ∃ m : Nat, m ≤ n ∧ i = .int .i64 m ∧ Own wr w.heap.size 79 (some ⟨w.heap.size, 0, none⟩) 8 8 (ci64 (cnts (zs.take m))) ∧ Own wr (w.heap.size + 1) 79 (some ⟨w.heap.size + 1, 0, none⟩) 8 8 (ci64 (onesN j)) ∧ Below w.heap.size w wr ∧ Hid (∀ z ∈ zs.take m, 0 ≤ z ∧ z < j)) (fun i _ => n - (intOf i).toNat)
      case atStart => exact ⟨0, Nat.zero_le _, rfl, h0, h1, hb, Lib.hid (by simp)⟩
      case round =>
        obtain ⟨m, hm, rfl, g0, g1, gb, gin⟩ := hrel
        clear h0 h1 hb
        by_cases hmn : m < n
        · obtain ⟨p, q, rfl, hp, u0, hu0, hc0⟩ := hr.get hmn
          have hml : m < zs.length := by rw [HL.out]; exact hmn
          rw [ci64_get _ _ hml] at hu0
          obtain rfl : iV zs[m] = u0 := Option.some.inj hu0
          have hcell : wr.cell? ⟨p, q + m, none⟩ = some (.int .i64 zs[m]) := (gb.cell (p := ⟨p, q + m, none⟩) hp).trans hc0
          have hmem : zs[m] ∈ zs := List.getElem_mem hml
          have hlast : ∀ P : Int → Prop, (∀ z ∈ zs.take m, P z) → P zs[m] → ∀ z ∈ zs.take (m + 1), P z := by
            intro P h1 h2 z hz
            rw [List.take_succ_eq_append_getElem hml] at hz
            rcases List.mem_append.1 hz with hz | hz
            · exact h1 z hz
            · rw [List.mem_singleton.1 hz]; exact h2
          have hstep := cnts_step zs m hml
          clear hu0 hc0
          generalize hzm : zs[m] = z at hcell hmem hlast hstep
          have HMEM := Lib.hid hmem
          clear hzm hmem hml
          by_cases hneg : z < 0
          · have HE := Lib.hid (eachB_out (n := j) HMEM.out (by omega))
            clear hstep hlast
            go_wp2
            go_ret
            exact ⟨ret_bool HE.out.symm, gb⟩
          · by_cases hbig : (j : Int) ≤ z
            · have HE := Lib.hid (eachB_out (n := j) HMEM.out (by omega))
              clear hstep hlast
              go_wp2
              go_ret
              exact ⟨ret_bool HE.out.symm, gb⟩
            · obtain ⟨zn, rfl⟩ : ∃ zn : Nat, z = (zn : Int) := ⟨z.toNat, by omega⟩
              have hznj : zn < j := by omega
              have hstep := hstep zn rfl (by omega)
              have hnext := Lib.hid (hlast (fun z => 0 ≤ z ∧ z < (j : Int)) gin.out (by omega))
              have hcnt := cnts_get (zs.take m) zn (by omega)
              have hct : times (zs.take m) (zn : Nat) ≤ m := by
                have h := times_len (zs.take m) (zn : Nat)
                rw [List.length_take] at h
                omega
              have hcl := g0.cell (j := zn) (by omega)
              have hfr := g0.free (by omega) zn
              have hcl2 : wr.cell? ⟨w.heap.size, zn, none⟩ = some (.int .i64 (times (zs.take m) (zn : Nat) : Nat)) := by
                rw [hcl, ci64, List.getElem?_map, hcnt]; rfl
              generalize times (zs.take m) (zn : Nat) = tm at hct hcl2 hstep
              have hz8 : (zn : Int) < 8 := by omega
              have hset := g0.set (by omega) zn (.int .i64 ((tm : Int) + 1))
              have hset2 : Own (wr.setCell ⟨w.heap.size, zn, none⟩ (.int .i64 ((tm : Int) + 1))) w.heap.size 79 (some ⟨w.heap.size, 0, none⟩) 8 8 (ci64 (cnts (zs.take (m + 1)))) := by
                rw [← hstep]
                have e1 : ci64 ((cnts (zs.take m)).set zn ((tm : Int) + 1)) = (ci64 (cnts (zs.take m))).set zn (.int .i64 ((tm : Int) + 1)) := by simp [ci64, iV]
                rw [e1]
                exact hset
              have hkeep := g1.keep (w' := wr.setCell ⟨w.heap.size, zn, none⟩ (.int .i64 ((tm : Int) + 1))) fun g hA _ _ _ => setCell_ne' (by intro he; injection hA with hA; injection hA with hA; omega)
              have hb2 := gb.setCell (p := ⟨w.heap.size, zn, none⟩) (Nat.le_refl _) (.int .i64 ((tm : Int) + 1))
              clear hset hstep hlast hcnt hcl g0 g1 gb
              go_wp2
              go_roundw
              case rel => exact ⟨m + 1, by omega, by go_num, hset2, hkeep, hb2, hnext⟩
              case measure => simp [intOf]; omega
        · obtain rfl : m = n := by omega
          have hall : zs.take m = zs := List.take_of_length_le (by rw [HL.out]; exact Nat.le_refl _)
          rw [hall] at g0 gin
          have hfin := eachB_cnts hk gin.out
          obtain ⟨i0, hi0, _, _, _⟩ := info_parts info_int
          have hEQ := fun wq => equal_ints (P := Try.prog) (t := 79) (e := 3) (n := 8) wq Try.underlying79 Try.underlying3 hi0 (by kernel_rfl) (cnts zs) (onesN j) (cnts_len _) (onesN_len _)
          have hc0 := g0.cell (j := 0) (by omega)
          have hc1 := g0.cell (j := 1) (by omega)
          have hc2 := g0.cell (j := 2) (by omega)
          have hc3 := g0.cell (j := 3) (by omega)
          have hc4 := g0.cell (j := 4) (by omega)
          have hc5 := g0.cell (j := 5) (by omega)
          have hc6 := g0.cell (j := 6) (by omega)
          have hc7 := g0.cell (j := 7) (by omega)
          have hd0 := g1.cell (j := 0) (by omega)
          have hd1 := g1.cell (j := 1) (by omega)
          have hd2 := g1.cell (j := 2) (by omega)
          have hd3 := g1.cell (j := 3) (by omega)
          have hd4 := g1.cell (j := 4) (by omega)
          have hd5 := g1.cell (j := 5) (by omega)
          have hd6 := g1.cell (j := 6) (by omega)
          have hd7 := g1.cell (j := 7) (by omega)
          have hl0 := cnts_len zs
          have hl1 := onesN_len j
          generalize cnts zs = l0 at *
          generalize onesN j = l1 at *
          match l0, hl0, l1, hl1 with
          | [a0, a1, a2, a3, a4, a5, a6, a7], _, [b0, b1, b2, b3, b4, b5, b6, b7], _ =>
            simp only [ci64, List.map_cons, List.map_nil, iV, List.getElem?_cons_zero, List.getElem?_cons_succ] at hc0 hc1 hc2 hc3 hc4 hc5 hc6 hc7 hd0 hd1 hd2 hd3 hd4 hd5 hd6 hd7 hEQ
            have HF := Lib.hid hfin
            clear hfin g0 g1
            go_wp2
            go_ret
            refine ⟨ret_bool ?_, gb⟩
            rw [← HF.out, Bool.eq_iff_iff]
            simp

set_option maxRecDepth 100000 in
set_option maxHeartbeats 1000000 in
theorem mcheckC : CheckC 10 := by
  intro x w h
  have hm : x.may = (mayB x.r.zs x.r.n && (decide (1 ≤ x.n) && (decide (x.n ≤ 8) && (((Ls.all x.b).all fun l => bidB l x.r.n) && eachB x.o.zs x.n)))) := by
    have hbl : (Ls.all x.b).length = x.n := by rw [Ls.all, List.length_map]; exact h.len
    rw [Mk.may, mayM_each, hbl, h.r.len]
  obtain ⟨β, hβ⟩ : ∃ β, mayB x.r.zs x.r.n = β := ⟨_, rfl⟩
  obtain ⟨γ, hγ⟩ : ∃ γ, ((Ls.all x.b).all fun l => bidB l x.r.n) = γ := ⟨_, rfl⟩
  obtain ⟨δ, hδ⟩ : ∃ δ, eachB x.o.zs x.n = δ := ⟨_, rfl⟩
  obtain ⟨M, hM⟩ : ∃ M, x.may = M := ⟨_, rfl⟩
  rw [hβ, hγ, hδ, hM] at hm
  rw [hM]
  have HM := Lib.hid hm
  have HBE := Lib.hid hβ
  have HGA := Lib.hid hγ
  have HDE := Lib.hid hδ
  clear hm hβ hγ hδ hM
  have hr := h.r.rd
  have ho := h.o.rd
  have hoc := h.o.cap
  have hot := h.o.top
  have hc := h.cap
  have ht := h.top
  have tr := Nat.le_trans h.r.cap h.r.top
  have to := Nat.le_trans hoc hot
  have tn := Nat.le_trans hc ht
  unfold maxLen at tr to tn
  have hbox := InBox.new w x
  have hBW : Below w.heap.size w (w.alloc (.cells #[.slice x.r.A x.r.n x.r.c, .slice x.A x.n x.c, .slice x.o.A x.o.n x.o.c] 25)) := (Below.refl _ w).alloc (Nat.le_refl _) _
  unfold Mk.v Ls.v
  go_enter Try.func10, Try.ntmps10
  go_wp2_with fail
  generalize w.alloc (.cells #[.slice x.r.A x.r.n x.r.c, .slice x.A x.n x.c, .slice x.o.A x.o.n x.o.c] 25) = W at hbox hBW ⊢
  have ⟨c0, c1, c2, clt⟩ := hbox
  refine wp_region_ord (S := fun w' => w'.cell? ⟨w.heap.size, 0, none⟩ = some (.slice x.r.A x.r.n x.r.c) ∧ w'.cell? ⟨w.heap.size, 1, none⟩ = some (.slice x.A x.n x.c)) [(0, true), (1, true), (2, true), (3, true), (4, true), (5, true), (6, true), (7, true)] default (by kernel_rfl) (by kernel_rfl) (by kernel_rfl) ⟨c0, c1⟩ ?_
  simp only [getOrd, nth]
  repeat (first | (refine ordS (by rfl) ?_; simp only [Act.put, List.setIfInBounds_toArray, List.set_cons_zero, List.set_cons_succ]) | (refine ordN (by rfl) ?_; simp only [Act.put, List.setIfInBounds_toArray, List.set_cons_zero, List.set_cons_succ]) | (refine ordQ (v := ?_) (by rfl) (fun _ hSw => ?_) ?_; rotate_left; (focus ((have hS1 := hSw.1); (have hS2 := hSw.2); clear hSw; go_simp; (first | done | with_reducible rfl))); simp only [Act.put, List.setIfInBounds_toArray, List.set_cons_zero, List.set_cons_succ]))
  refine ordE ?_
  have hboxd : InBox W.drew w.heap.size x := ⟨c0, c1, c2, clt⟩
  have hBd : Below w.heap.size w W.drew := hBW.drew
  clear c0 c1 c2 clt hbox hBW
  generalize W.drew = V at hboxd hBd ⊢
  have ⟨c0, c1, c2, clt⟩ := hboxd
  have hck := check_of x.r.A x.r.n x.r.c x.r.zs x.r.n V (hr.below hBd) β HBE.out
  go_wp2_with fail
  refine hck.mono ?_
  rintro e w1 ⟨rfl, hb1⟩
  have hB1 := hBd.trans (hb1.mono hBd.size)
  have hbox1 := hboxd.below hb1
  clear hck hb1 hboxd hBd c0 c1 c2 clt
  have ⟨c0, c1, c2, clt⟩ := hbox1
  cases β
  · go_wp2
    go_ret
    exact ⟨ret_bool (by rw [HM.out]; simp), hB1⟩
  · by_cases q1 : 1 ≤ x.n
    · by_cases q2 : x.n ≤ 8
      · have hbm := bidsmay_any x.A x.n x.c x.b x.r.n w1 (h.below hB1).lss hc ht
        rw [HGA.out] at hbm
        go_wp2_with fail
        refine hbm.mono ?_
        rintro e w2 ⟨rfl, hb2⟩
        have hB2 := hB1.trans (hb2.mono hB1.size)
        have hbox2 := hbox1.below hb2
        clear hbm hb2 hbox1 hB1 c0 c1 c2 clt
        have ⟨c0, c1, c2, clt⟩ := hbox2
        have e1 := Lib.hid (decide_eq_true q1)
        have e2 := Lib.hid (decide_eq_true q2)
        cases γ
        · go_wp2
          go_ret
          exact ⟨ret_bool (by rw [HM.out]; simp), hB2⟩
        · have he := each_any x.o.A x.o.n x.o.c x.o.zs x.n w2 (ho.below hB2) hoc hot q2
          rw [HDE.out] at he
          go_wp2_with fail
          refine he.mono ?_
          rintro e w3 ⟨rfl, hb3⟩
          have hB3 := hB2.trans (hb3.mono hB2.size)
          clear he hb3
          go_wp2
          go_ret
          exact ⟨ret_bool (by rw [HM.out, e1.out, e2.out]; simp), hB3⟩
      · have d2 := Lib.hid (decide_eq_false q2)
        go_wp2
        go_ret
        exact ⟨ret_bool (by rw [HM.out, d2.out]; simp), hB1⟩
    · have d1 := Lib.hid (decide_eq_false q1)
      go_wp2
      go_ret
      exact ⟨ret_bool (by rw [HM.out, d1.out]; simp), hB1⟩
end Go.Proofs.Ytdckoaljcklmhaa

namespace Go.Proofs.Ytdckoaljcklmhaa
open Go.RowKit
set_option linter.unusedVariables false

theorem gainB_nil (r : List Int) : gain r [] = List.replicate r.length (-1) := by
  unfold gain
  rw [if_pos rfl]
  exact List.map_const' ..
theorem gainB_some {r l : List Int} (h : l ≠ []) : gain r l = List.zipWith (· - ·) l r := by unfold gain; rw [if_neg h]
theorem infoB_ints : (Try.prog.info? 22).map (fun i => (i.zero, i.size, i.bytes)) = some (some (.slice none 0 0), 1, 24) := by kernel_rfl
theorem takeB {α : Type} {g : List α} {k : Nat} {z : α} (h : g[k]? = some z) : g.take (k + 1) = g.take k ++ [z] := by
  obtain ⟨hk, he⟩ := List.getElem?_eq_some_iff.1 h
  rw [List.take_succ_eq_append_getElem hk, he]
/-- A store into a row of ints of which the first ones are done. -/
theorem own_step {w : World} {B g m j : Nat} {gv : List Int} {z : Int} (h : Own w B 3 (some ⟨g, 0, none⟩) m m (ci64 (gv.take j ++ List.replicate (m - j) 0))) (hj : j < m) (hz : gv[j]? = some z) :
    Own (w.setCell ⟨g, j, none⟩ (.int .i64 z)) B 3 (some ⟨g, 0, none⟩) m m (ci64 (gv.take (j + 1) ++ List.replicate (m - (j + 1)) 0)) := by
  have h1 := h.set (by omega) j (.int .i64 z)
  have hlt := (List.getElem?_eq_some_iff.1 hz).1
  rw [show m - j = (m - (j + 1)) + 1 by omega, List.replicate_succ] at h1
  have h2 := ci64_set (gv.take j) (List.replicate (m - (j + 1)) 0) 0 z
  rw [List.length_take, Nat.min_eq_left (by omega)] at h2
  rw [h2] at h1
  rw [takeB hz, List.append_assoc]
  exact h1

set_option maxRecDepth 100000 in
set_option maxHeartbeats 1000000 in
theorem gainsof_any (A : Option Addr) (n c : Nat) (xs : List Int) (A2 : Option Addr) (m c2 : Nat) (ys : List Int) (w : World) (hr : Rd w A n (ci64 xs)) (hr2 : Rd w A2 m (ci64 ys)) (hn : n = 0 ∨ n = m) (hm : m ≤ 100)
    (hx : ∀ z ∈ xs, 0 ≤ z ∧ z ≤ 1000000) (hy : ∀ z ∈ ys, 0 ≤ z ∧ z ≤ 1000000) :
    Calls Try.prog 35 #[.slice A n c, .slice A2 m c2] w fun e w' => ∃ A' c', e = .returned (.slice A' m c') ∧ Own w' w.heap.size 3 A' m c' (ci64 (gain ys xs)) ∧ Below w.heap.size w w' := by
  have hxl : xs.length = n := by have h := hr.len; rw [ci64_len] at h; exact h
  have hyl : ys.length = m := by have h := hr2.len; rw [ci64_len] at h; exact h
  obtain ⟨gv, hgv⟩ : ∃ gv, gv = gain ys xs := ⟨_, rfl⟩
  have hgl : gv.length = m := by
    rw [hgv]
    rcases hn with hn | hn
    · rw [List.eq_nil_of_length_eq_zero (hxl.trans hn), gainB_nil, List.length_replicate, hyl]
    · unfold gain
      split
      · rw [List.length_map, hyl]
      · rw [List.length_zipWith, hxl, hyl, hn, Nat.min_self]
  rw [← hgv]
  obtain ⟨i0, hi0, hz0, hz1, hz2⟩ := info_parts info_int
  have HGV := Lib.hid hgv
  have HGL := Lib.hid hgl
  have HXL := Lib.hid hxl
  have HYL := Lib.hid hyl
  clear hgv hgl hxl hyl
  go_enter Try.func35, Try.ntmps35
  go_wp2_with (at_make; go_must (refine wpList_mk _ rfl _ _ 22 rfl w.heap.size 3 i0 _ Try.underlying22 hi0 hz0 hz1 rfl .i64 .i64 _ _ m rfl rfl rfl rfl ?c2 ?c3 ?c4 ?_))
  case c2 => rw [hz2]; omega
  case c3 => simp only [maxLen]; omega
  case c4 => exact Nat.le_refl _
  intro w1 hown1 hbel1
  go_wp2_with fail
  go_loopw [13] (fun i wr => ∃ j : Nat, j ≤ m ∧ i = .int .i64 j ∧ Own wr w.heap.size 3 (some ⟨w.heap.size, 0, none⟩) m m (ci64 (gv.take j ++ List.replicate (m - j) 0)) ∧ Below w.heap.size w wr) (fun i _ => m - (intOf i).toNat)
  case atStart => exact ⟨0, Nat.zero_le _, rfl, by simpa [ci64, iV] using hown1, hbel1⟩
  case round =>
    obtain ⟨j, hj, rfl, hown, hbel⟩ := hrel
    by_cases hlt : j < m
    · obtain ⟨p, q, rfl, hp, u0, hu0, hc0⟩ := hr2.get hlt
      have hjy : j < ys.length := by rw [HYL.out]; exact hlt
      rw [ci64_get _ _ hjy] at hu0
      obtain rfl : iV ys[j] = u0 := Option.some.inj hu0
      have hcy : wr.cell? ⟨p, q + j, none⟩ = some (.int .i64 ys[j]) := (hbel.cell (p := ⟨p, q + j, none⟩) hp).trans hc0
      have by0 := hy _ (List.getElem_mem hjy)
      have hfr := hown.free (by omega) j
      obtain ⟨vo, hvo⟩ : ∃ v, wr.cell? ⟨w.heap.size, j, none⟩ = some v := by
        have h := hown.cell hlt
        rw [ci64_get _ _ (by rw [List.length_append, List.length_take, List.length_replicate, HGL.out]; omega)] at h
        exact ⟨_, h⟩
      by_cases hz0' : n = 0
      · subst hz0'
        have hg : gv[j]? = some (-1) := by
          rw [HGV.out, List.eq_nil_of_length_eq_zero HXL.out, gainB_nil, List.getElem?_replicate, if_pos (by omega)]
        have hnext := own_step hown hlt hg
        have hb2 := hbel.setCell (p := ⟨w.heap.size, j, none⟩) (Nat.le_refl _) (.int .i64 (-1))
        clear hu0 hc0 hown hbel hg
        go_wp2
        go_roundw
        case rel => exact ⟨j + 1, by omega, by go_num, hnext, hb2⟩
        case measure => simp [intOf]; omega
      · have hnm : j < n := by omega
        obtain ⟨p1, q1, rfl, hp1, u1, hu1, hc1⟩ := hr.get hnm
        have hjx : j < xs.length := by rw [HXL.out]; exact hnm
        rw [ci64_get _ _ hjx] at hu1
        obtain rfl : iV xs[j] = u1 := Option.some.inj hu1
        have hcx : wr.cell? ⟨p1, q1 + j, none⟩ = some (.int .i64 xs[j]) := (hbel.cell (p := ⟨p1, q1 + j, none⟩) hp1).trans hc1
        have bx0 := hx _ (List.getElem_mem hjx)
        have hg : gv[j]? = some (xs[j] - ys[j]) := by
          rw [HGV.out, gainB_some (by intro he; rw [he] at hjx; simp at hjx), List.getElem?_zipWith, List.getElem?_eq_getElem hjx, List.getElem?_eq_getElem hjy]
        have hnext := own_step hown hlt hg
        have hb2 := hbel.setCell (p := ⟨w.heap.size, j, none⟩) (Nat.le_refl _) (.int .i64 (xs[j] - ys[j]))
        generalize xs[j] = z0 at bx0 hcx hnext hb2
        generalize ys[j] = z1 at by0 hcy hnext hb2
        have s1 : IntKind.i64.wrap (z0 - z1) = z0 - z1 := by rw [IntKind.wrap_i64]; omega
        have hpos : decide (0 < n) = true := by simp; omega
        clear hu0 hc0 hown hbel hg hu1 hc1
        go_wp2
        go_roundw
        case rel => exact ⟨j + 1, by omega, by go_num, hnext, hb2⟩
        case measure => simp [intOf]; omega
    · obtain rfl : j = m := by omega
      have hown3 : Own wr w.heap.size 3 (some ⟨w.heap.size, 0, none⟩) j j (ci64 gv) := by
        rw [Nat.sub_self, List.replicate_zero, List.append_nil, List.take_of_length_le (by rw [HGL.out]; exact Nat.le_refl _)] at hown
        exact hown
      clear hown
      go_wp2
      go_ret
      exact ⟨_, _, rfl, hown3, hbel⟩

/-- The list of bids: where it lies, and each of them. -/
theorem bids_at {w : World} {x : Mk} (h : x.Ok w) (hn : 0 < x.n) : ∃ p q, x.A = some ⟨p, q, none⟩ ∧ p < w.heap.size ∧ ∀ j, j < x.n → ∃ u, x.b[j]? = some u ∧ w.cell? ⟨p, q + j, none⟩ = some (.slice u.A u.n u.c) ∧ u.Ok w := by
  obtain ⟨p, q, u, hA, _, _, hp, _, _⟩ := h.get hn
  refine ⟨p, q, hA, hp, fun j hj => ?_⟩
  obtain ⟨p', q', u', hA', hu', _, _, hc', hk'⟩ := h.get hj
  rw [hA] at hA'
  cases hA'
  exact ⟨u', hu', hc', hk'⟩

set_option maxRecDepth 100000 in
set_option maxHeartbeats 1000000 in
theorem mgainsC : GainsC 17 := by
  intro x w h
  obtain ⟨β, hβ⟩ : ∃ β, x.may = β := ⟨_, rfl⟩
  have herr : x.err = if β = true then 0 else 1 := by rw [Mk.err, hβ]
  have hbs : x.gains = if β = true then gains x.r.zs (Ls.all x.b) else [] := by rw [Mk.gains, hβ]
  rw [herr, hbs]
  clear herr hbs
  have hck := mcheckC x
  rw [hβ] at hck
  have hv : x.v = .agg #[.slice x.r.A x.r.n x.r.c, .slice x.A x.n x.c, .slice x.o.A x.o.n x.o.c] := rfl
  rw [hv]
  rw [hv] at hck
  cases β
  · go_enter Try.func17, Try.ntmps17
    go_wp2_with fail
    have hBW : Below w.heap.size w (w.alloc (.cells #[.slice x.r.A x.r.n x.r.c, .slice x.A x.n x.c, .slice x.o.A x.o.n x.o.c] 25)) := (Below.refl _ w).alloc (Nat.le_refl _) _
    refine (hck _ (h.below hBW)).mono ?_
    rintro e w1 ⟨rfl, hb1⟩
    have hB := hBW.trans (hb1.mono hBW.size)
    clear hck
    go_wp2
    go_ret2
    exact ⟨none, 0, 0, rfl, [], Outs.none_ _ _, rfl, hB⟩
  · obtain ⟨i1, hi1, hy0, hy1, hy2⟩ := info_parts infoB_ints
    obtain ⟨l1, l2, l3, l4, l5, l6, l7, l8⟩ := mk_len h hβ
    have hbox := InBox.new w x
    have hlen : x.b.length = x.n := h.len
    have hrd := h.r.rd
    obtain ⟨p, q, hA, hp, hat⟩ := bids_at h (by omega)
    have HL := Lib.hid hlen
    have H6 := Lib.hid l6
    have H7 := Lib.hid l7
    have H8 := Lib.hid l8
    have HA := Lib.hid hA
    clear l5 l6 l7 l8 hlen hA
    go_enter Try.func17, Try.ntmps17
    go_wp2_with fail
    have hBW : Below w.heap.size w (w.alloc (.cells #[.slice x.r.A x.r.n x.r.c, .slice x.A x.n x.c, .slice x.o.A x.o.n x.o.c] 25)) := (Below.refl _ w).alloc (Nat.le_refl _) _
    refine (hck _ (h.below hBW)).mono ?_
    rintro e w1 ⟨rfl, hb1⟩
    have hB := hBW.trans (hb1.mono hBW.size)
    have hbox1 := hbox.below hb1
    clear hbox hb1 hBW hck
    have ⟨c0, c1, c2', clt⟩ := hbox1
    rw [HA.out] at c1
    go_wp2_with (at_make; go_must (refine wpList_mk _ rfl _ _ 23 rfl w1.heap.size 22 i1 _ Try.underlying23 hi1 hy0 hy1 rfl .i64 .i64 _ _ x.n rfl rfl rfl rfl ?c2 ?c3 ?c4 ?_))
    case c2 => rw [hy2]; omega
    case c3 => simp only [maxLen]; omega
    case c4 => exact Nat.le_refl _
    intro w2 hown2 hbel2
    have hf2 := Fill.start hown2
    have hbox2 := hbox1.below hbel2
    have hB2 := hB.trans (hbel2.mono hB.size)
    have hs2 := hbel2.size
    obtain ⟨g, hg⟩ : ∃ g, g = w1.heap.size := ⟨_, rfl⟩
    rw [← hg] at hf2 hbel2 hs2 ⊢
    have hgw : w.heap.size ≤ g := by rw [hg]; exact hB.size
    have hboxg : w.heap.size < g := by rw [hg]; exact clt
    clear hown2 hbox1 hB c0 c1 c2' clt hbel2 hg
    have ⟨c0, c1, c2', clt⟩ := hbox2
    rw [HA.out] at c1
    go_wp2_with fail
    go_loopw [17] (fun i wr => ∃ (j : Nat) (t : List Ls), j ≤ x.n ∧ i = .int .i64 j ∧ t.length = j ∧ Fill wr g (some ⟨g, 0, none⟩) x.n t ∧ Hid (Ls.all t = (gains x.r.zs (Ls.all x.b)).take j) ∧ Below w.heap.size w wr ∧ InBox wr w.heap.size x) (fun i _ => x.n - (intOf i).toNat)
    case atStart => exact ⟨0, [], Nat.zero_le _, rfl, rfl, hf2, Lib.hid rfl, hB2, hbox2⟩
    case round =>
      obtain ⟨j, t, hj, rfl, hjt, hf, hall, hbel, hbx⟩ := hrel
      clear hbox2 hB2 hf2 c0 c1 c2' clt hs2
      have ⟨c0, c1, c2', clt⟩ := hbx
      by_cases hlt : j < x.n
      · obtain ⟨u, hu, hcu, hk⟩ := hat j hlt
        have hcell : wr.cell? ⟨p, q + j, none⟩ = some (.slice u.A u.n u.c) := (hbel.cell (p := ⟨p, q + j, none⟩) hp).trans hcu
        have hget : (gains x.r.zs (Ls.all x.b))[j]? = some (gain x.r.zs u.zs) := by rw [gains, List.getElem?_map, Ls.all, List.getElem?_map, hu]; rfl
        have HT := Lib.hid (takeB hget)
        have hgo := gainsof_any u.A u.n u.c u.zs x.r.A x.r.n x.r.c x.r.zs wr (hk.rd.below hbel) (hrd.below hbel) (H6.out u (List.mem_of_getElem? hu)) (by omega) (H8.out u (List.mem_of_getElem? hu)) H7.out
        have hfit : ∀ z ∈ gain x.r.zs u.zs, -9223372036854775808 ≤ z ∧ z ≤ 9223372036854775807 := by
          intro z hz
          unfold gain at hz
          split at hz
          · simp at hz; omega
          · obtain ⟨i, hi⟩ := List.getElem?_of_mem hz
            rw [List.getElem?_zipWith] at hi
            split at hi
            · rename_i a b ha hb
              cases hi
              have a1 := H8.out u (List.mem_of_getElem? hu) a (List.mem_of_getElem? ha)
              have b1 := H7.out b (List.mem_of_getElem? hb)
              omega
            · cases hi
        have HFIT := Lib.hid hfit
        clear hget hfit hcu
        go_wp2_with fail
        refine hgo.mono ?_
        rintro e w3 ⟨A3, c3, rfl, ho3, hb3⟩
        have hnew : OwnI w3 wr.heap.size ⟨A3, x.r.n, c3, gain x.r.zs u.zs⟩ := ⟨ho3, HFIT.out⟩
        have hf3 := hf.below hb3
        have hsep := hf.sep
        have hbx3 := hbx.below hb3
        have hbel3 := hbel.trans (hb3.mono hbel.size)
        subst hjt
        obtain ⟨hcl, hfr⟩ := hf3.cell hlt
        have hgs : g ≤ wr.heap.size := by
          obtain ⟨g', hA', hg1, hg2⟩ := hf.own.lt (by omega)
          cases hA'
          omega
        have hf4 := hf3.put hlt hnew hgs hsep
        have hbel4 := hbel3.setCell (p := ⟨g, t.length, none⟩) hgw (.slice A3 x.r.n c3)
        have hbx4 : InBox (w3.setCell ⟨g, t.length, none⟩ (.slice A3 x.r.n c3)) w.heap.size x := by
          obtain ⟨d0, d1, d2, d3⟩ := hbx3
          have hne : (w3.setCell ⟨g, t.length, none⟩ (.slice A3 x.r.n c3)).heap[w.heap.size]? = w3.heap[w.heap.size]? := setCell_ne' (by omega)
          exact ⟨(World.cell?_of_block hne).trans d0, (World.cell?_of_block hne).trans d1, (World.cell?_of_block hne).trans d2, by simp only [World.setCell, Array.size_modify]; exact d3⟩
        have hall4 : Hid (Ls.all (t ++ [(⟨A3, x.r.n, c3, gain x.r.zs u.zs⟩ : Ls)]) = (gains x.r.zs (Ls.all x.b)).take (t.length + 1)) := Lib.hid (by rw [all_snoc, hall.out, HT.out])
        clear hgo ho3 hb3 hf hf3 hsep hnew hbx hbx3 hbel hbel3 HT hall
        go_wp2
        go_roundw
        case rel => exact ⟨t.length + 1, _, by omega, by go_num, by simp, hf4, hall4, hbel4, hbx4⟩
        case measure => simp [intOf]; omega
      · obtain rfl : j = x.n := by omega
        have ho := hf.outs hjt
        have hgl : (gains x.r.zs (Ls.all x.b)).length = x.n := by rw [gains, List.length_map, Ls.all, List.length_map, HL.out]
        have hfin : Hid (Ls.all t = gains x.r.zs (Ls.all x.b)) := Lib.hid (by rw [hall.out, List.take_of_length_le (by rw [hgl]; exact Nat.le_refl _)])
        clear hgl hjt
        go_wp2
        go_ret2
        exact ⟨_, _, _, rfl, t, ho.mono hgw, hfin.out, hbel⟩
end Go.Proofs.Ytdckoaljcklmhaa

namespace Go.Proofs.Ytdckoaljcklmhaa
open Go.RowKit
set_option linter.unusedVariables false

set_option maxRecDepth 100000 in
set_option maxHeartbeats 400000 in
theorem mfresh_any (A : Option Addr) (n c : Nat) (zs : List Int) (w : World) (hr : Rd w A n (ci64 zs)) (hn : n ≤ 1000000000) (hf : ∀ z ∈ zs, -9223372036854775808 ≤ z ∧ z ≤ 9223372036854775807) :
    Calls Try.prog 40 #[.slice A n c] w fun e w' => ∃ A' c', e = .returned (.slice A' n c') ∧ OwnI w' w.heap.size ⟨A', n, c', zs⟩ ∧ Below w.heap.size w w' := by
  obtain ⟨i0, hi0, hz0, hz1, hz2⟩ := info_parts info_int
  go_enter Try.func40, Try.ntmps40
  go_wp2_with (at_builtin; go_must (refine wpList_app _ rfl _ _ 22 rfl 3 i0 _ 8 Try.underlying22 hi0 hz0 hz1 hz2 rfl w.heap.size none 0 0 [] rfl (Own.none_ _ _ _ _) A n c _ rfl hr (ci64_one _) ?c3 ?c4 ?c5 ?_))
  case c3 => simp only [maxLen]; omega
  case c4 => omega
  case c5 => exact Nat.le_refl _
  intro A2 c2 w1 hown1 hbel1 hfr1 hat1
  go_wp2
  go_ret
  exact ⟨A2, c2, rfl, ⟨hown1, hf⟩, hbel1⟩

set_option maxRecDepth 100000 in
set_option maxHeartbeats 2000000 in
theorem mwithoutC : WithoutC 20 := by
  intro x i w h hi1 hi2
  obtain ⟨i9, hi9, hy0, hy1, hy2⟩ := info_parts infoB_ints
  obtain ⟨β, hβ⟩ : ∃ β, x.may = β := ⟨_, rfl⟩
  have hck := mcheckC x
  rw [hβ] at hck
  have hlen : x.b.length = x.n := h.len
  have hbox := InBox.new w x
  have tn := Nat.le_trans h.cap h.top
  unfold maxLen at tn
  have hv : x.v = .agg #[.slice x.r.A x.r.n x.r.c, .slice x.A x.n x.c, .slice x.o.A x.o.n x.o.c] := rfl
  rw [hv]
  rw [hv] at hck
  have hW : ∀ W, (w.alloc (.cells #[.slice x.r.A x.r.n x.r.c, .slice x.A x.n x.c, .slice x.o.A x.o.n x.o.c] 25)).alloc (.cells #[.slice none 0 0, .slice none 0 0, .slice none 0 0] 25) = W →
      Own W w.heap.size 25 (some ⟨w.heap.size + 1, 0, none⟩) 3 3 [.slice none 0 0, .slice none 0 0, .slice none 0 0] ∧ InBox W w.heap.size x ∧ Below w.heap.size w W ∧ W.heap.size = w.heap.size + 2 := by
    rintro _ rfl
    have hz : ∀ o1 : Obj, (w.alloc o1).heap.size = w.heap.size + 1 := fun o1 => Array.size_push ..
    have h2 := Own.lit (B := w.heap.size) (w.alloc (.cells #[.slice x.r.A x.r.n x.r.c, .slice x.A x.n x.c, .slice x.o.A x.o.n x.o.c] 25)) 25 #[.slice none 0 0, .slice none 0 0, .slice none 0 0] 3 (by rw [hz]; omega) rfl (by unfold maxLen; omega)
    rw [hz] at h2
    refine ⟨h2, hbox.below ((Below.refl _ _).alloc (Nat.le_refl _) _), ((Below.refl _ w).alloc (Nat.le_refl _) _).alloc (by rw [hz]; omega) _, ?_⟩
    show ((w.heap.push _).push _).size = _
    rw [Array.size_push, Array.size_push]
  clear hbox
  obtain ⟨E, hE⟩ : ∃ E, x.lessErr i = E := ⟨_, rfl⟩
  obtain ⟨PP, hP⟩ : ∃ PP, x.less i = PP := ⟨_, rfl⟩
  rw [hE, hP]
  have HE := Lib.hid hE
  have HP := Lib.hid hP
  clear hE hP
  go_enter Try.func20, Try.ntmps20
  go_wp2_with fail
  generalize hWW : (w.alloc (.cells #[.slice x.r.A x.r.n x.r.c, .slice x.A x.n x.c, .slice x.o.A x.o.n x.o.c] 25)).alloc (.cells #[.slice none 0 0, .slice none 0 0, .slice none 0 0] 25) = W
  obtain ⟨hR, hbox, hBW, hWs⟩ := hW W hWW
  clear hW hWW
  refine (hck _ (h.below hBW)).mono ?_
  rintro e w1 ⟨rfl, hb1⟩
  have hB := hBW.trans (hb1.mono hBW.size)
  have hR1 := hR.below hb1
  have hbox1 := hbox.below hb1
  have hw1s : w.heap.size + 2 ≤ w1.heap.size := by have := hb1.size; omega
  clear hck hb1 hR hbox hBW hWs
  have ⟨c0, c1, c2, clt⟩ := hbox1
  by_cases hhas : x.has i = true
  · obtain ⟨hb1, hb2⟩ : β = true ∧ (0 ≤ i ∧ i < x.n) := by
      unfold Mk.has at hhas
      rw [hβ] at hhas
      simpa using hhas
    have hle : x.lessErr i = 0 := by rw [Mk.lessErr, if_pos hhas]
    have hlp : x.less i = (x.r.zs, Go.Proofs.Ytdckoaljcklmhaa.less (Ls.all x.b) i.toNat, x.o.zs) := by rw [Mk.less, if_pos hhas]
    have HLE := Lib.hid (HE.out.symm.trans hle)
    have HLP := Lib.hid (HP.out.symm.trans hlp)
    subst hb1
    obtain ⟨l1, l2, l3, l4, l5, l6, l7, l8⟩ := mk_len h hβ
    have lo8 : x.o.n ≤ 8 := by omega
    obtain ⟨m, rfl⟩ : ∃ m : Nat, i = m := ⟨i.toNat, by omega⟩
    have hmn : m < x.n := by omega
    have hrd := h.r.rd
    have hod := h.o.rd
    have hf_r := h.r.fit
    have hf_o := h.o.fit
    obtain ⟨p, q, hA, hp, hat⟩ := bids_at h (by omega)
    have HA := Lib.hid hA
    have HL := Lib.hid hlen
    have H6 := Lib.hid l6
    have e1 : decide ((m : Int) < 0) = false := by simp
    have e2 : decide ((x.n : Int) ≤ (m : Int)) = false := by simp; omega
    have e2' : decide (x.n ≤ m) = false := by simp; omega
    clear l5 l6 l7 l8 hlen hhas hle hlp hβ hb2 hA
    rw [HA.out] at c1
    go_wp2_with (at_make; go_must (refine wpList_mk _ rfl _ _ 23 rfl w1.heap.size 22 i9 _ Try.underlying23 hi9 hy0 hy1 rfl .i64 .i64 _ _ x.n rfl rfl rfl rfl ?c2 ?c3 ?c4 ?_))
    case c2 => rw [hy2]; omega
    case c3 => simp only [maxLen]; omega
    case c4 => exact Nat.le_refl _
    intro w2 hown2 hbel2
    have hf2 := Fill.start hown2
    have hbox2 := hbox1.below hbel2
    have hR2 := hR1.below hbel2
    have hB2 := hB.trans (hbel2.mono hB.size)
    have hs2 := hbel2.size
    obtain ⟨g, hg⟩ : ∃ g, g = w1.heap.size := ⟨_, rfl⟩
    rw [← hg] at hf2 hbel2 hs2 hw1s ⊢
    clear hown2 hbox1 hB c0 c1 c2 clt hbel2 hg hR1
    have ⟨c0, c1, c2, clt⟩ := hbox2
    rw [HA.out] at c1
    go_wp2_with fail
    go_loopw [31] (fun i wr => ∃ (j : Nat) (t : List Ls), j ≤ x.n ∧ i = .int .i64 j ∧ t.length = j ∧ Fill wr g (some ⟨g, 0, none⟩) x.n t ∧ Hid (Ls.all t = (less (Ls.all x.b) m).take j) ∧ Below w.heap.size w wr ∧ InBox wr w.heap.size x ∧ Own wr w.heap.size 25 (some ⟨w.heap.size + 1, 0, none⟩) 3 3 [.slice none 0 0, .slice none 0 0, .slice none 0 0]) (fun i _ => x.n - (intOf i).toNat)
    case atStart => exact ⟨0, [], Nat.zero_le _, rfl, rfl, hf2, Lib.hid rfl, hB2, hbox2, hR2⟩
    case round =>
      obtain ⟨j, t, hj, rfl, hjt, hf, hall, hbel, hbx, hRj⟩ := hrel
      clear hbox2 hB2 hf2 c0 c1 c2 clt hs2 hR2
      have ⟨c0, c1, c2, clt⟩ := hbx
      have hgs : g ≤ wr.heap.size := by
        obtain ⟨g', hA', hg1, hg2⟩ := hf.own.lt (by omega)
        cases hA'
        omega
      by_cases hlt : j < x.n
      · obtain ⟨u, hu, hcu, hk⟩ := hat j hlt
        have hcell : wr.cell? ⟨p, q + j, none⟩ = some (.slice u.A u.n u.c) := (hbel.cell (p := ⟨p, q + j, none⟩) hp).trans hcu
        have hjl : j < (Ls.all x.b).length := by rw [Ls.all, List.length_map, HL.out]; exact hlt
        have hst := lessm_take (i := m) hjl
        have hget : (Ls.all x.b)[j] = u.zs := by
          have h : (Ls.all x.b)[j]? = some u.zs := by rw [Ls.all, List.getElem?_map, hu]; rfl
          rw [List.getElem?_eq_getElem hjl] at h
          exact Option.some.inj h
        rw [hget] at hst
        have un8 := H6.out u (List.mem_of_getElem? hu)
        subst hjt
        by_cases hme : t.length = m
        · subst hme
          rw [if_pos rfl] at hst
          have hall2 : Hid (Ls.all (t ++ [Ls.nil]) = (less (Ls.all x.b) t.length).take (t.length + 1)) := Lib.hid (by rw [all_snoc, hst, hall.out]; rfl)
          have hf2 := hf.skip hlt
          clear hst hf hget hcu
          go_wp2
          go_roundw
          case rel => exact ⟨t.length + 1, _, by omega, by go_num, by simp, hf2, hall2, hbel, hbx, hRj⟩
          case measure => simp [intOf]; omega
        · have hne : ((t.length : Int) != (m : Int)) = true := by rw [bne_iff_ne]; omega
          rw [if_neg (fun h => hme h.symm)] at hst
          have HST := Lib.hid hst
          have hgo := mfresh_any u.A u.n u.c u.zs wr (hk.rd.below hbel) (by omega) hk.fit
          clear hst hget hcu hme
          go_wp2_with fail
          refine hgo.mono ?_
          rintro e w3 ⟨A3, c3, rfl, hnew, hb3⟩
          have hf3 := hf.below hb3
          have hsep := hf.sep
          have hbx3 := hbx.below hb3
          have hR3 := hRj.below hb3
          have hbel3 := hbel.trans (hb3.mono hbel.size)
          obtain ⟨hcl, hfr⟩ := hf3.cell hlt
          have hf4 := hf3.put hlt hnew hgs hsep
          have hbel4 := hbel3.setCell (p := ⟨g, t.length, none⟩) (by show w.heap.size ≤ g; omega) (.slice A3 u.n c3)
          have hne4 : ∀ k, k ≠ g → (w3.setCell ⟨g, t.length, none⟩ (.slice A3 u.n c3)).heap[k]? = w3.heap[k]? := fun k hk => setCell_ne' hk
          have hbx4 : InBox (w3.setCell ⟨g, t.length, none⟩ (.slice A3 u.n c3)) w.heap.size x := by
            obtain ⟨d0, d1, d2, d3⟩ := hbx3
            have hne := hne4 w.heap.size (by omega)
            exact ⟨(World.cell?_of_block hne).trans d0, (World.cell?_of_block hne).trans d1, (World.cell?_of_block hne).trans d2, by simp only [World.setCell, Array.size_modify]; exact d3⟩
          have hR4 := hR3.keep (w' := w3.setCell ⟨g, t.length, none⟩ (.slice A3 u.n c3)) fun k hA _ _ _ => hne4 k (by intro he; injection hA with hA; injection hA with hA; omega)
          have hall4 : Hid (Ls.all (t ++ [(⟨A3, u.n, c3, u.zs⟩ : Ls)]) = (less (Ls.all x.b) m).take (t.length + 1)) := Lib.hid (by rw [all_snoc, HST.out, hall.out])
          clear hgo hb3 hf hf3 hsep hnew hbx hbx3 hbel hbel3 HST hall hRj hR3 hne4
          go_wp2
          go_roundw
          case rel => exact ⟨t.length + 1, _, by omega, by go_num, by simp, hf4, hall4, hbel4, hbx4, hR4⟩
          case measure => simp [intOf]; omega
      · obtain rfl : j = x.n := by omega
        have hout := hf.outs hjt
        have hll : (less (Ls.all x.b) m).length = x.n := by rw [less_len, Ls.all, List.length_map, HL.out]
        have hfin : Hid (Ls.all t = less (Ls.all x.b) m) := Lib.hid (by rw [hall.out, List.take_of_length_le (by rw [hll]; exact Nat.le_refl _)])
        have hsep := hf.sep
        have hS : ∀ w', Below wr.heap.size wr w' → w'.cell? ⟨w.heap.size, 0, none⟩ = some (.slice x.r.A x.r.n x.r.c) ∧ w'.cell? ⟨w.heap.size, 2, none⟩ = some (.slice x.o.A x.o.n x.o.c) := fun w' hb => ⟨(hb.cell (p := ⟨w.heap.size, 0, none⟩) clt).trans c0, (hb.cell (p := ⟨w.heap.size, 2, none⟩) clt).trans c2⟩
        clear hll hjt hf hall hlt c1
        go_wp2_with fail
        refine wp_region_ord (S := fun w' => w'.cell? ⟨w.heap.size, 0, none⟩ = some (.slice x.r.A x.r.n x.r.c) ∧ w'.cell? ⟨w.heap.size, 2, none⟩ = some (.slice x.o.A x.o.n x.o.c)) [(0, true), (1, true), (3, true), (4, true), (5, true), (2, false), (6, false), (7, true), (8, false), (9, true)] default (by kernel_rfl) (by kernel_rfl) (by kernel_rfl) (hS _ ((Below.refl _ wr).drew)) ?_
        simp only [getOrd, nth]
        repeat (first | (refine ordS (by rfl) ?_; simp only [Act.put, List.setIfInBounds_toArray, List.set_cons_zero, List.set_cons_succ]) | (refine ordN (by rfl) ?_; simp only [Act.put, List.setIfInBounds_toArray, List.set_cons_zero, List.set_cons_succ]) | (refine ordQ (v := ?_) (by rfl) (fun _ hSw => ?_) ?_; rotate_left; (focus ((have hS1 := hSw.1); (have hS2 := hSw.2); clear hSw; go_simp; (first | done | with_reducible rfl))); simp only [Act.put, List.setIfInBounds_toArray, List.set_cons_zero, List.set_cons_succ]))
        refine ordD (by rfl) ?_
        intro K hK
        go_simp
        have hdr : Below wr.heap.size wr wr.drew := (Below.refl _ wr).drew
        refine (mfresh_any x.r.A x.r.n x.r.c x.r.zs wr.drew ((hrd.below hbel).drew) (by omega) hf_r).mono ?_
        rintro e w4 ⟨A4, c4, rfl, hn4, hb4⟩
        have hb4 : Below wr.heap.size wr w4 := hdr.trans (hb4.mono hdr.size)
        have hn4 : OwnI w4 wr.heap.size ⟨A4, x.r.n, c4, x.r.zs⟩ := hn4
        have hbel4 := hbel.trans (hb4.mono hbel.size)
        go_wp2_with fail
        refine hK _ _ (hS _ hb4) ?_
        clear hK K
        try simp only [Act.put, List.setIfInBounds_toArray, List.set_cons_zero, List.set_cons_succ]
        refine ordD (by rfl) ?_
        intro K hK
        go_simp
        refine (mfresh_any x.o.A x.o.n x.o.c x.o.zs w4 (hod.below hbel4) (by omega) hf_o).mono ?_
        rintro e w5 ⟨A5, c5, rfl, hn5, hb5⟩
        have hb45 := hb4.trans (hb5.mono hb4.size)
        have hbel5 := hbel4.trans (hb5.mono hbel4.size)
        go_wp2_with fail
        refine hK _ _ (hS _ hb45) ?_
        clear hK K
        try simp only [Act.put, List.setIfInBounds_toArray, List.set_cons_zero, List.set_cons_succ]
        repeat (first | (refine ordS (by rfl) ?_; simp only [Act.put, List.setIfInBounds_toArray, List.set_cons_zero, List.set_cons_succ]) | (refine ordN (by rfl) ?_; simp only [Act.put, List.setIfInBounds_toArray, List.set_cons_zero, List.set_cons_succ]) | (refine ordQ (v := ?_) (by rfl) (fun _ hSw => ?_) ?_; rotate_left; (focus ((have hS1 := hSw.1); (have hS2 := hSw.2); clear hSw; go_simp; (first | done | with_reducible rfl))); simp only [Act.put, List.setIfInBounds_toArray, List.set_cons_zero, List.set_cons_succ]))
        have hR5 := hRj.below hb45
        have f0 := hR5.free (by omega) 0
        have f1 := hR5.free (by omega) 1
        have f2 := hR5.free (by omega) 2
        have r0 := hR5.cell (j := 0) (by omega)
        have r1 := hR5.cell (j := 1) (by omega)
        have r2 := hR5.cell (j := 2) (by omega)
        simp only [List.getElem?_cons_zero, List.getElem?_cons_succ] at r0 r1 r2
        refine ordD (by rfl) ?_
        intro K hK
        go_simp
        have hq : ∀ k, k ≠ w.heap.size + 1 → (((w5.setCell ⟨w.heap.size + 1, 0, none⟩ (.slice A4 x.r.n c4)).setCell ⟨w.heap.size + 1, 1, none⟩ (.slice (some ⟨g, 0, none⟩) x.n x.n)).setCell ⟨w.heap.size + 1, 2, none⟩ (.slice A5 x.o.n c5)).heap[k]? = w5.heap[k]? := fun k hk => ((setCell_ne' hk).trans (setCell_ne' hk)).trans (setCell_ne' hk)
        have hR8 := ((hR5.set (by omega) 0 (.slice A4 x.r.n c4)).set (by omega) 1 (.slice (some ⟨g, 0, none⟩) x.n x.n)).set (by omega) 2 (.slice A5 x.o.n c5)
        simp only [List.set_cons_zero, List.set_cons_succ] at hR8
        have hB8 := ((hbel5.setCell (p := ⟨w.heap.size + 1, 0, none⟩) (Nat.le_succ _) (.slice A4 x.r.n c4)).setCell (p := ⟨w.heap.size + 1, 1, none⟩) (Nat.le_succ _) (.slice (some ⟨g, 0, none⟩) x.n x.n)).setCell (p := ⟨w.heap.size + 1, 2, none⟩) (Nat.le_succ _) (.slice A5 x.o.n c5)
        have hS5 := hS _ hb45
        generalize ((w5.setCell ⟨w.heap.size + 1, 0, none⟩ (.slice A4 x.r.n c4)).setCell ⟨w.heap.size + 1, 1, none⟩ (.slice (some ⟨g, 0, none⟩) x.n x.n)).setCell ⟨w.heap.size + 1, 2, none⟩ (.slice A5 x.o.n c5) = wf at hq hR8 hB8 ⊢
        refine hK _ _ ⟨(World.cell?_of_block (hq w.heap.size (by omega))).trans hS5.1, (World.cell?_of_block (hq w.heap.size (by omega))).trans hS5.2⟩ ?_
        clear hK K hS hS5 f0 f1 f2 r0 r1 r2
        try simp only [Act.put, List.setIfInBounds_toArray, List.set_cons_zero, List.set_cons_succ]
        repeat (first | (refine ordS (by rfl) ?_; simp only [Act.put, List.setIfInBounds_toArray, List.set_cons_zero, List.set_cons_succ]) | (refine ordN (by rfl) ?_; simp only [Act.put, List.setIfInBounds_toArray, List.set_cons_zero, List.set_cons_succ]) | (refine ordQ (v := ?_) (by rfl) (fun _ hSw => ?_) ?_; rotate_left; (focus ((have hS1 := hSw.1); (have hS2 := hSw.2); clear hSw; go_simp; (first | done | with_reducible rfl))); simp only [Act.put, List.setIfInBounds_toArray, List.set_cons_zero, List.set_cons_succ]))
        refine ordE ?_
        have r0 := hR8.cell (j := 0) (by omega)
        have r1 := hR8.cell (j := 1) (by omega)
        have r2 := hR8.cell (j := 2) (by omega)
        simp only [List.getElem?_cons_zero, List.getElem?_cons_succ] at r0 r1 r2
        have hn5' : OwnI w5 w4.heap.size ⟨A5, x.o.n, c5, x.o.zs⟩ := hn5
        have hn45 := hn4.below hb5
        have hapt := aptL_behind (s := wr.heap.size) (s2 := w4.heap.size) hout.apt hsep (fun k hk => hn4.blk hk) (fun k hk => (hn5'.blk hk).1) hb4.size
        have hmk : MkOwn wf w.heap.size ⟨⟨A4, x.r.n, c4, x.r.zs⟩, some ⟨g, 0, none⟩, x.n, x.n, t, ⟨A5, x.o.n, c5, x.o.zs⟩⟩ := by
          have ho5 := (hout.below hb45).keepB (w' := wf) fun k hk => hq k (by omega)
          have h4s := hb4.size
          exact ⟨(hn45.keepB fun k hk => hq k (by omega)).mono hbel.size, (hn5'.keepB fun k hk => hq k (by omega)).mono (by omega), ho5.own.mono (by omega), fun u hu => (ho5.each u hu).mono (by omega), hapt⟩
        have HMK := Lib.hid hmk
        clear hmk hapt hn45 hn5' hn5 hn4 hq hR8
        go_wp2
        (try simp only [Exit.inBlock, Exit.then])
        refine bodyPost_ret (v := .tuple #[.agg #[.slice A4 x.r.n c4, .slice (some ⟨g, 0, none⟩) x.n x.n, .slice A5 x.o.n c5], .int .i64 0]) ?rr rfl ?_
        case rr =>
          simp only [results, Try.f20]
          go_simp
        exact ⟨⟨⟨A4, x.r.n, c4, x.r.zs⟩, some ⟨g, 0, none⟩, x.n, x.n, t, ⟨A5, x.o.n, c5, x.o.zs⟩⟩, by rw [HLE.out]; rfl, HMK.out, by rw [HLP.out]; show (_, Ls.all t, _) = _; rw [hfin.out, Int.toNat_natCast], hB8⟩
  · have hle : x.lessErr i = 1 := by rw [Mk.lessErr, if_neg hhas]
    have hlp : x.less i = ([], [], []) := by rw [Mk.less, if_neg hhas]
    have HLE := Lib.hid (HE.out.symm.trans hle)
    have HLP := Lib.hid (HP.out.symm.trans hlp)
    have hR0 := hR1.free (by omega) 0
    have hR4 := hR1.free (by omega) 1
    have hR5 := hR1.free (by omega) 2
    have hR6 := hR1.cell (j := 0) (by omega)
    have hR7 := hR1.cell (j := 1) (by omega)
    have hR8 := hR1.cell (j := 2) (by omega)
    simp only [List.getElem?_cons_zero, List.getElem?_cons_succ] at hR6 hR7 hR8
    have hcase : β = false ∨ (β = true ∧ i < 0) ∨ (β = true ∧ ¬ i < 0 ∧ (x.n : Int) ≤ i) := by
      unfold Mk.has at hhas
      rw [hβ] at hhas
      cases β
      · exact .inl rfl
      · right
        simp only [Bool.true_and, decide_eq_true_eq] at hhas
        by_cases g1 : i < 0
        · exact .inl ⟨rfl, g1⟩
        · exact .inr ⟨rfl, g1, by omega⟩
    clear hhas hle hlp hβ
    rcases hcase with rfl | ⟨rfl, g1⟩ | ⟨rfl, g1, g2⟩
    all_goals
      (try have e1 : decide (i < 0) = true := decide_eq_true g1)
      (try have e1 : decide (i < 0) = false := decide_eq_false g1)
      (try have e2 : decide ((x.n : Int) ≤ i) = true := decide_eq_true g2)
      go_wp2
      (try simp only [Exit.inBlock, Exit.then])
      refine bodyPost_ret (v := .tuple #[.agg #[.slice none 0 0, .slice none 0 0, .slice none 0 0], .int .i64 1]) ?r rfl ?_
      case r =>
        simp only [results, Try.f20]
        go_simp
      refine ⟨Mk.nil, by rw [HLE.out]; rfl, MkOwn.nil _ _, by rw [HLP.out]; rfl, ?_⟩
      exact ((hB.setCell (p := ⟨w.heap.size + 1, 0, none⟩) (Nat.le_succ _) _).setCell (p := ⟨w.heap.size + 1, 1, none⟩) (Nat.le_succ _) _).setCell (p := ⟨w.heap.size + 1, 2, none⟩) (Nat.le_succ _) _

end Go.Proofs.Ytdckoaljcklmhaa
