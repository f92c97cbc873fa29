/-
  What follows of matchings that fit (mathematics for GraphsFits).
-/
import Derived.Test.YtdckoaljcklmhaaGrO
namespace Go.Proofs.Ytdckoaljcklmhaa
set_option linter.unusedVariables false

theorem nearG_nil (g : List (List Int)) (m : Nat) : nearG g m [] = [] := by
  rw [nearG]
  refine List.eq_nil_iff_forall_not_mem.2 fun x hx => ?_
  obtain ⟨i, _, h, _⟩ := mem_upto.1 hx
  simp at h
theorem mem_all {n : Nat} {x : Int} : x ∈ upto n (fun _ => true) ↔ 0 ≤ x ∧ x < n := by
  rw [mem_upto]
  constructor
  · rintro ⟨i, h1, _, rfl⟩; omega
  · rintro ⟨h1, h2⟩; exact ⟨x.toNat, by omega, rfl, by omega⟩
theorem upto_all_len (n : Nat) : (upto n fun _ => true).length = n := by
  rw [upto, List.length_map, List.filter_eq_self.2 (by simp), List.length_range]
theorem nearG_all {g : List (List Int)} {m k : Nat} (hk : k < m) : decide ((k : Int) ∈ nearG g m (upto g.length fun _ => true)) = decide (0 < (rowT g k).length) := by
  rw [decide_eq_decide, mem_nearG, List.length_pos_iff_exists_mem]
  constructor
  · rintro ⟨_, i, hi, h⟩
    obtain ⟨j, hj, _, rfl⟩ := mem_upto.1 hi
    exact ⟨_, mem_rowT.2 ⟨hj, by simpa using h⟩⟩
  · rintro ⟨x, hx⟩
    obtain ⟨i, hi, h, rfl⟩ := mem_upto.1 hx
    exact ⟨hk, i, mem_upto_nat.2 ⟨hi, rfl⟩, by simpa using h⟩
theorem nearG_one {g : List (List Int)} {m i : Nat} (hc : checkG g m = true) (hi : i < g.length) : nearG g m [(i : Int)] = g.getD i [] := by
  have h1 := (checkG_iff.1 hc).2.2.2 _ (getD_mem hi)
  rw [← upto_of_rises h1, nearG]
  refine upto_congr fun k hk => ?_
  simp
theorem rises_one {n i : Nat} (h : i < n) : Rises n [(i : Int)] := ⟨by simp; omega, List.pairwise_singleton _ _⟩
theorem nearOk_of {g : List (List Int)} {m : Nat} {s : List Int} (hc : checkG g m = true) (h : Rises g.length s) : nearOk g m s = true := by
  rw [nearOk, hc, riseB, decide_eq_true h]; rfl
theorem near_err {g : List (List Int)} {m : Int} {s : List Int} (h : nearOk g m s = true) : nearErr g m s = 0 := by rw [nearErr, if_pos h]
theorem near_ans {g : List (List Int)} {m : Nat} {s : List Int} (h : nearOk g m s = true) : nearE g m s = nearG g m s := by rw [nearE, if_pos h, Int.toNat_natCast]
theorem near_err_bad {g : List (List Int)} {m : Int} {s : List Int} (h : nearOk g m s = false) : nearErr g m s = 1 := by rw [nearErr, if_neg (by simp [h])]
theorem near_bad {g : List (List Int)} {m : Int} {s : List Int} (h : nearOk g m s = false) : nearE g m s = [] := by rw [nearE, if_neg (by simp [h])]
theorem turned_err {g : List (List Int)} {m : Int} (h : checkG g m = true) : errG g m = 0 := by rw [errG, if_pos h]
theorem turned_ans {g : List (List Int)} {m : Nat} (h : checkG g m = true) : turnedE g m = turnedG g m := by rw [turnedE, if_pos h, Int.toNat_natCast]
theorem turned_err_bad {g : List (List Int)} {m : Int} (h : checkG g m = false) : errG g m = 1 := by rw [errG, if_neg (by simp [h])]
theorem turned_bad {g : List (List Int)} {m : Int} (h : checkG g m = false) : turnedE g m = [] := by rw [turnedE, if_neg (by simp [h])]
theorem outs_zs {w : World} {B : Nat} {A : Option Addr} {n c : Nat} {t : List Ls} {l : List (List Int)} (h : Outs w B A n c t) (hl : Ls.all t = l) : n = l.length := by
  rw [← h.len, ← hl, Ls.all, List.length_map]
theorem all_get {t : List Ls} {l : List (List Int)} (hl : Ls.all t = l) {k : Nat} {u : Ls} (hu : t[k]? = some u) : l[k]? = some u.zs := by
  rw [← hl, Ls.all, List.getElem?_map, hu]; rfl
end Go.Proofs.Ytdckoaljcklmhaa

namespace Go.Proofs.Ytdckoaljcklmhaa
set_option linter.unusedVariables false

theorem getD_take_mem {l : List Int} {i j : Nat} (h : j < i) (hj : j < l.length) : l.getD j (-1) ∈ l.take i := by
  rw [List.getD_eq_getElem?_getD, List.getElem?_eq_getElem hj]
  exact List.mem_take_iff_getElem.2 ⟨j, by omega, rfl⟩
theorem mem_take_getD {l : List Int} {i : Nat} {z : Int} (h : z ∈ l.take i) : ∃ j, j < i ∧ j < l.length ∧ l.getD j (-1) = z := by
  obtain ⟨j, hj, rfl⟩ := List.mem_take_iff_getElem.1 h
  exact ⟨j, by omega, by omega, by rw [List.getD_eq_getElem?_getD, List.getElem?_eq_getElem (by omega)]; rfl⟩
theorem okAt_iff {g : List (List Int)} {l : List Int} {i : Nat} : okAt g l i = true ↔ l.getD i (-1) = -1 ∨ (l.getD i (-1) ∈ g.getD i [] ∧ ∀ j, j < i → j < l.length → l.getD j (-1) ≠ l.getD i (-1)) := by
  simp only [okAt, Bool.or_eq_true, Bool.and_eq_true, decide_eq_true_eq, Bool.not_eq_true', decide_eq_false_iff_not]
  constructor
  · rintro (h | ⟨h1, h2⟩)
    · exact .inl h
    · exact .inr ⟨h1, fun j hj hjl he => h2 (he ▸ getD_take_mem hj hjl)⟩
  · rintro (h | ⟨h1, h2⟩)
    · exact .inl h
    · refine .inr ⟨h1, fun hm => ?_⟩
      obtain ⟨j, hj, hjl, he⟩ := mem_take_getD hm
      exact h2 j hj hjl he
/-- Fits, in numbers. -/
structure Fit (g : List (List Int)) (M : Nat) (l : List Int) : Prop where
  len : l.length = g.length
  item : ∀ i, i < l.length → l.getD i (-1) ≠ -1 → l.getD i (-1) ∈ g.getD i []
  one : ∀ i j, i < l.length → j < l.length → i ≠ j → l.getD i (-1) ≠ -1 → l.getD i (-1) ≠ l.getD j (-1)
  rng : ∀ i, i < l.length → l.getD i (-1) ≠ -1 → 0 ≤ l.getD i (-1) ∧ l.getD i (-1) < M
theorem fit_of {g : List (List Int)} {M : Nat} {l : List Int} (h : fitsG g M l = true) : Fit g M l := by
  obtain ⟨h1, h2, h3⟩ := fitsG_iff.1 h
  have hit : ∀ i, i < l.length → l.getD i (-1) ≠ -1 → l.getD i (-1) ∈ g.getD i [] := fun i hi hn => ((okAt_iff.1 (h3 i hi)).resolve_left hn).1
  refine ⟨h2, hit, ?_, fun i hi hn => ?_⟩
  · intro i j hi hj hne hn he
    rcases Nat.lt_or_ge i j with hlt | hge
    · exact ((okAt_iff.1 (h3 j hj)).resolve_left (by rw [← he]; exact hn)).2 i hlt hi he
    · exact ((okAt_iff.1 (h3 i hi)).resolve_left hn).2 j (by omega) hj he.symm
  · exact ((checkG_iff.1 h1).2.2.2 _ (getD_mem (by omega))).1 _ (hit i hi hn)
theorem fits_of {g : List (List Int)} {M : Nat} {l : List Int} (hc : checkG g M = true) (hl : l.length = g.length) (h1 : ∀ i, i < l.length → l.getD i (-1) ≠ -1 → l.getD i (-1) ∈ g.getD i [])
    (h2 : ∀ i j, j < i → i < l.length → l.getD i (-1) ≠ -1 → l.getD j (-1) ≠ l.getD i (-1)) : fitsG g M l = true := by
  refine fitsG_iff.2 ⟨hc, hl, fun i hi => okAt_iff.2 ?_⟩
  by_cases hn : l.getD i (-1) = -1
  · exact .inl hn
  · exact .inr ⟨h1 i hi hn, fun j hj hjl => h2 i j hj hi hn⟩

theorem set_getD {l : List Int} {k i : Nat} (hk : k < l.length) : (l.set k (-1)).getD i (-1) = if i = k then -1 else l.getD i (-1) := by
  rw [List.getD_eq_getElem?_getD, List.getElem?_set]
  by_cases h : k = i
  · subst h; simp [hk]
  · rw [if_neg h, if_neg (fun h' => h h'.symm), List.getD_eq_getElem?_getD]
theorem fewer_fits {g : List (List Int)} {M k : Nat} {l : List Int} (hc : checkG g M = true) (h : fitsG g M l = true) (hk : k < l.length) : fitsG g M (l.set k (-1)) = true := by
  have f := fit_of h
  refine fits_of hc (by rw [List.length_set]; exact f.len) (fun i hi hn => ?_) (fun i j hj hi hn => ?_)
  · rw [List.length_set] at hi
    rw [set_getD hk] at hn ⊢
    by_cases he : i = k
    · rw [if_pos he] at hn; exact absurd rfl hn
    · rw [if_neg he] at hn ⊢; exact f.item i hi hn
  · rw [List.length_set] at hi
    rw [set_getD hk] at hn ⊢
    rw [set_getD hk]
    by_cases he : i = k
    · rw [if_pos he] at hn; exact absurd rfl hn
    · rw [if_neg he] at hn ⊢
      by_cases he2 : j = k
      · rw [if_pos he2]; exact fun h => hn h.symm
      · rw [if_neg he2]; exact fun h => f.one i j hi (by omega) (by omega) hn h.symm
theorem many_cons (z : Int) (l : List Int) : manyG (z :: l) = manyG l + (if z ≠ -1 then 1 else 0) := by
  rw [manyG, manyG, List.countP_cons]
  by_cases h : z = -1 <;> simp [h]
theorem many_set (l : List Int) (k : Nat) : manyG l ≤ manyG (l.set k (-1)) + 1 ∧ manyG (l.set k (-1)) ≤ manyG l := by
  induction l generalizing k with
  | nil => simp
  | cons z l ih =>
    cases k with
    | zero =>
      rw [List.set_cons_zero, many_cons, many_cons]
      split <;> simp
    | succ k =>
      rw [List.set_cons_succ, many_cons, many_cons]
      have := ih k
      omega

/-- Which of the first i has k; the last, or none. -/
def lastAt (l : List Int) (k : Int) : Nat → Int
  | 0 => -1
  | i + 1 => if l.getD i (-1) = k then (i : Int) else lastAt l k i
theorem lastAt_is (l : List Int) (k : Int) (i : Nat) : (lastAt l k i = -1 ∧ ∀ j, j < i → l.getD j (-1) ≠ k) ∨ ∃ j : Nat, j < i ∧ lastAt l k i = j ∧ l.getD j (-1) = k := by
  induction i with
  | zero => exact .inl ⟨rfl, fun j hj => absurd hj (by omega)⟩
  | succ i ih =>
    rw [lastAt]
    by_cases h : l.getD i (-1) = k
    · rw [if_pos h]; exact .inr ⟨i, by omega, rfl, h⟩
    · rw [if_neg h]
      rcases ih with ⟨h1, h2⟩ | ⟨j, h1, h2, h3⟩
      · refine .inl ⟨h1, fun j hj => ?_⟩
        by_cases he : j = i
        · rw [he]; exact h
        · exact h2 j (by omega)
      · exact .inr ⟨j, by omega, h2, h3⟩
theorem lastAt_rng (l : List Int) (k : Int) (i : Nat) : -1 ≤ lastAt l k i ∧ lastAt l k i < i := by
  rcases lastAt_is l k i with ⟨h, _⟩ | ⟨j, h1, h2, _⟩ <;> omega
/-- A matching, turned. -/
def turM (l : List Int) (M : Nat) : List Int := (List.range M).map fun (k : Nat) => lastAt l (k : Int) l.length
theorem turM_len (l : List Int) (M : Nat) : (turM l M).length = M := by simp [turM]
theorem turM_getD {l : List Int} {M k : Nat} (hk : k < M) : (turM l M).getD k (-1) = lastAt l (k : Int) l.length := by
  rw [turM, List.getD_eq_getElem?_getD, List.getElem?_map, List.getElem?_range hk]; rfl
theorem turM_succ (l : List Int) (M : Nat) : turM l (M + 1) = turM l M ++ [lastAt l (M : Int) l.length] := by
  rw [turM, turM, List.range_succ, List.map_append]; rfl
theorem turned_fits {g : List (List Int)} {M : Nat} {l : List Int} (h : fitsG g M l = true) : fitsG (turnedG g M) g.length (turM l M) = true := by
  have hc := (fitsG_iff.1 h).1
  have f := fit_of h
  refine fits_of (turnedG_check hc) (by rw [turM_len, turnedG_len]) (fun k hk hn => ?_) (fun k k' hj hk hn => ?_)
  · rw [turM_len] at hk
    rw [turM_getD hk] at hn ⊢
    rcases lastAt_is l k l.length with ⟨h1, _⟩ | ⟨j, h1, h2, h3⟩
    · exact absurd h1 hn
    · rw [h2, turnedG_get hk, mem_rowT]
      refine ⟨by rw [← f.len]; exact h1, ?_⟩
      rw [← h3]
      exact f.item j h1 (by rw [h3]; omega)
  · rw [turM_len] at hk
    rw [turM_getD hk] at hn ⊢
    rw [turM_getD (by omega)]
    intro he
    rcases lastAt_is l k l.length with ⟨h1, _⟩ | ⟨j, h1, h2, h3⟩
    · exact hn h1
    · rcases lastAt_is l k' l.length with ⟨h4, _⟩ | ⟨j', h4, h5, h6⟩
      · rw [h4] at he; exact hn he.symm
      · have : j = j' := by rw [h2, h5] at he; omega
        subst this
        rw [h3] at h6
        omega
theorem count_or {M y : Nat} (hy : y < M) {p : Nat → Bool} (hp : p y = false) : (List.range M).countP (fun k => decide (k = y) || p k) = (List.range M).countP p + 1 := by
  induction M with
  | zero => omega
  | succ M ih =>
    rw [List.range_succ, List.countP_append, List.countP_append]
    by_cases h : y = M
    · subst h
      have h1 : (List.range y).countP (fun k => decide (k = y) || p k) = (List.range y).countP p := by
        refine List.countP_congr fun k hk => ?_
        have := List.mem_range.1 hk
        simp [show k ≠ y by omega]
      rw [h1]
      simp [hp]
    · have := ih (by omega)
      rw [this]
      have h2 : ([M].countP fun k => decide (k = y) || p k) = [M].countP p := by simp [show M ≠ y from fun h' => h h'.symm]
      omega
theorem count_many {M : Nat} {l : List Int} (hr : ∀ z ∈ l, z ≠ -1 → 0 ≤ z ∧ z < M) (hp : l.Pairwise fun a b => b ≠ -1 → a ≠ b) : (List.range M).countP (fun (k : Nat) => decide ((k : Int) ∈ l)) = manyG l := by
  induction l with
  | nil => simp [manyG]
  | cons z l ih =>
    obtain ⟨h1, h2⟩ := List.pairwise_cons.1 hp
    have ih' := ih (fun y hy => hr y (by simp [hy])) h2
    rw [many_cons]
    by_cases hz : z = -1
    · rw [if_neg (by simp [hz]), ← ih']
      refine List.countP_congr fun k hk => ?_
      simp [hz]
    · rw [if_pos hz, ← ih']
      obtain ⟨hz0, hzM⟩ := hr z (by simp) hz
      obtain ⟨y, rfl⟩ : ∃ y : Nat, z = y := ⟨z.toNat, by omega⟩
      rw [← count_or (y := y) (by omega) (p := fun k => decide ((k : Int) ∈ l)) (decide_eq_false fun hm => h1 _ hm (by omega) rfl)]
      refine List.countP_congr fun k hk => ?_
      simp [show ((k : Int) = (y : Int)) ↔ k = y by omega]
theorem turned_many {g : List (List Int)} {M : Nat} {l : List Int} (h : fitsG g M l = true) : manyG (turM l M) = manyG l := by
  have f := fit_of h
  have hg : ∀ i (hi : i < l.length), l.getD i (-1) = l[i] := fun i hi => by rw [List.getD_eq_getElem?_getD, List.getElem?_eq_getElem hi]; rfl
  rw [← count_many (M := M) (l := l), manyG, turM, List.countP_map]
  · refine List.countP_congr fun k hk => ?_
    simp only [Function.comp, decide_eq_true_eq]
    rcases lastAt_is l k l.length with ⟨h1, h2⟩ | ⟨j, h1, h2, h3⟩
    · rw [h1]
      refine ⟨fun h => absurd rfl h, fun hm => ?_⟩
      obtain ⟨j, hj, he⟩ := List.getElem_of_mem hm
      exact absurd (by rw [hg j hj]; exact he) (h2 j hj)
    · rw [h2]
      refine ⟨fun _ => by rw [← h3, hg j h1]; exact List.getElem_mem h1, fun _ => by omega⟩
  · intro z hz hn
    obtain ⟨i, hi, rfl⟩ := List.getElem_of_mem hz
    rw [← hg i hi] at hn ⊢
    exact f.rng i hi hn
  · refine List.pairwise_iff_getElem.2 fun i j hi hj hij hn => ?_
    rw [← hg j hj] at hn
    have := f.one j i hj hi (by omega) hn
    rw [hg j hj, hg i hi] at this
    exact fun h => this h.symm
end Go.Proofs.Ytdckoaljcklmhaa
