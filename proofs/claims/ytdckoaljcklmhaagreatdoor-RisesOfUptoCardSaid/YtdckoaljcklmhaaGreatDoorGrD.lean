/-
  What layer 6 (graphs) says, as plain functions of lists and numbers: who may have what (g), of so many items.
-/
import Derived.Laws.AppendOwn
namespace Go.Proofs.YtdckoaljcklmhaaGreatDoor

/-- An int's cell. -/
def iV (x : Int) : Value := .int .i64 x
/-- Ints as cells. -/
def ci64 (l : List Int) : List Value := l.map iV

/-- A number's lowest bytes, so many, the lowest first. -/
def putB (N k : Nat) : List UInt8 := (List.range k).map fun i => UInt8.ofNat (N / 2 ^ (8 * i))
theorem ci64_len (l : List Int) : (ci64 l).length = l.length := by simp [ci64]
theorem ci64_app (a b : List Int) : ci64 (a ++ b) = ci64 a ++ ci64 b := by simp [ci64]
theorem ci64_take (l : List Int) (k : Nat) : (ci64 l).take k = ci64 (l.take k) := by simp [ci64]
theorem ci64_get (l : List Int) (k : Nat) (h : k < l.length) : (ci64 l)[k]? = some (iV l[k]) := by
  simp [ci64, List.getElem?_eq_getElem h]

/-- An int's lowest 32 bits as four bytes. -/
def intB (z : Int) : List UInt8 := putB (z % 18446744073709551616).toNat 4
/-- Ints as bytes, four each. -/
def listB : List Int → List UInt8
  | [] => []
  | z :: r => intB z ++ listB r
/-- How many there are (255 at most), and each. -/
def putL (zs : List Int) : List UInt8 := putB (min zs.length 255) 1 ++ listB (zs.take 255)
end Go.Proofs.YtdckoaljcklmhaaGreatDoor


namespace Go.Proofs.YtdckoaljcklmhaaGreatDoor
set_option linter.unusedVariables false

/-- A list rises, within 0 to n less one. -/
def Rises (n : Int) (l : List Int) : Prop := (∀ x ∈ l, 0 ≤ x ∧ x < n) ∧ l.Pairwise (· < ·)
instance (n : Int) (l : List Int) : Decidable (Rises n l) := inferInstanceAs (Decidable (_ ∧ _))
def riseB (l : List Int) (n : Int) : Bool := decide (Rises n l)
theorem rises_nil (n : Int) : Rises n [] := ⟨by simp, List.Pairwise.nil⟩
theorem rise_step {n : Int} {l : List Int} {i : Nat} (hi : i < l.length) (h : Rises n (l.take i)) (h0 : 0 ≤ l[i]) (h1 : l[i] < n) (h2 : ∀ h : 0 < i, l[i - 1] < l[i]) : Rises n (l.take (i + 1)) := by
  rw [List.take_succ_eq_append_getElem hi]
  refine ⟨fun x hx => ?_, List.pairwise_append.2 ⟨h.2, List.pairwise_singleton _ _, fun a ha b hb => ?_⟩⟩
  · rcases List.mem_append.1 hx with hx | hx
    · exact h.1 x hx
    · rw [List.mem_singleton.1 hx]; exact ⟨h0, h1⟩
  · rw [List.mem_singleton.1 hb]
    obtain ⟨k, hk, rfl⟩ := List.getElem_of_mem ha
    have hkl : k < i := by rw [List.length_take] at hk; omega
    have h3 := h2 (by omega)
    rw [List.getElem_take]
    by_cases he : k = i - 1
    · subst he; exact h3
    · have h4 := List.pairwise_iff_getElem.1 h.2 k (i - 1) (by rw [List.length_take]; omega) (by rw [List.length_take]; omega) (by omega)
      rw [List.getElem_take, List.getElem_take] at h4
      omega
theorem rise_all {n : Int} {l : List Int} {k : Nat} (hk : l.length ≤ k) (h : Rises n (l.take k)) : riseB l n = true := by
  rw [List.take_of_length_le hk] at h
  exact decide_eq_true h
theorem rise_bad {n : Int} {l : List Int} {i : Nat} (hi : i < l.length) (h : l[i] < 0 ∨ n ≤ l[i] ∨ ∃ h : 0 < i, l[i] ≤ l[i - 1]) : riseB l n = false := by
  refine decide_eq_false fun hr => ?_
  have h1 := hr.1 l[i] (List.getElem_mem hi)
  rcases h with h | h | ⟨h, h2⟩
  · omega
  · omega
  · have h4 := List.pairwise_iff_getElem.1 hr.2 (i - 1) i (by omega) hi (by omega)
    omega
theorem rises_len {m : Nat} {l : List Int} (h : Rises m l) : l.length ≤ m := by
  have h2 : ∀ (l : List Int) (lo : Int), (∀ x ∈ l, lo ≤ x ∧ x < m) → l.Pairwise (· < ·) → (l.length : Int) ≤ max 0 (m - lo) := by
    intro l
    induction l with
    | nil => intro lo _ _; simp; omega
    | cons x l ih =>
      intro lo h1 h2
      obtain ⟨h3, h4⟩ := List.pairwise_cons.1 h2
      have hx := h1 x (by simp)
      have := ih (x + 1) (fun y hy => ⟨by have := h3 y hy; omega, (h1 y (by simp [hy])).2⟩) h4
      simp only [List.length_cons]
      omega
  have := h2 l 0 h.1 h.2
  omega
/-- Two that rise and have the same numbers are the same. -/
theorem rise_ext : ∀ {a b : List Int}, a.Pairwise (· < ·) → b.Pairwise (· < ·) → (∀ x, x ∈ a ↔ x ∈ b) → a = b
  | [], [], _, _, _ => rfl
  | [], y :: b, _, _, h => absurd ((h y).2 (by simp)) (by simp)
  | x :: a, [], _, _, h => absurd ((h x).1 (by simp)) (by simp)
  | x :: a, y :: b, ha, hb, h => by
    obtain ⟨a1, a2⟩ := List.pairwise_cons.1 ha
    obtain ⟨b1, b2⟩ := List.pairwise_cons.1 hb
    have hxy : x = y := by
      have h1 := (h x).1 (by simp)
      have h2 := (h y).2 (by simp)
      rcases List.mem_cons.1 h1 with h1 | h1
      · exact h1
      · rcases List.mem_cons.1 h2 with h2 | h2
        · exact h2.symm
        · have := b1 x h1; have := a1 y h2; omega
    subst hxy
    rw [rise_ext a2 b2 fun z => ?_]
    constructor
    · intro hz
      have h1 := a1 z hz
      rcases List.mem_cons.1 ((h z).1 (by simp [hz])) with h2 | h2
      · omega
      · exact h2
    · intro hz
      have h1 := b1 z hz
      rcases List.mem_cons.1 ((h z).2 (by simp [hz])) with h2 | h2
      · omega
      · exact h2

/-- Numbers up to m for which p is so, rising. -/
def upto (m : Nat) (p : Nat → Bool) : List Int := ((List.range m).filter p).map fun (i : Nat) => (i : Int)
theorem upto_succ (m : Nat) (p : Nat → Bool) : upto (m + 1) p = upto m p ++ (if p m = true then [(m : Int)] else []) := by
  rw [upto, List.range_succ, List.filter_append, List.map_append]
  congr 1
  by_cases h : p m = true
  · simp [h]
  · simp [h]
theorem mem_upto {m : Nat} {p : Nat → Bool} {x : Int} : x ∈ upto m p ↔ ∃ i : Nat, i < m ∧ p i = true ∧ x = i := by
  simp only [upto, List.mem_map, List.mem_filter, List.mem_range]
  constructor
  · rintro ⟨i, ⟨h1, h2⟩, rfl⟩; exact ⟨i, h1, h2, rfl⟩
  · rintro ⟨i, h1, h2, rfl⟩; exact ⟨i, ⟨h1, h2⟩, rfl⟩
theorem mem_upto_nat {m : Nat} {p : Nat → Bool} {i : Nat} : (i : Int) ∈ upto m p ↔ i < m ∧ p i = true := by
  rw [mem_upto]
  constructor
  · rintro ⟨j, h1, h2, h3⟩
    obtain rfl : i = j := by omega
    exact ⟨h1, h2⟩
  · rintro ⟨h1, h2⟩; exact ⟨i, h1, h2, rfl⟩
theorem upto_rises (m : Nat) (p : Nat → Bool) : Rises m (upto m p) := by
  refine ⟨fun x hx => ?_, ?_⟩
  · obtain ⟨i, h1, _, rfl⟩ := mem_upto.1 hx
    omega
  · refine List.pairwise_map.2 ?_
    refine (List.Pairwise.filter p List.pairwise_lt_range).imp ?_
    intro a b h
    omega
theorem upto_of_rises {m : Nat} {l : List Int} (h : Rises m l) : upto m (fun k => decide ((k : Int) ∈ l)) = l := by
  refine rise_ext (upto_rises m _).2 h.2 fun x => ?_
  rw [mem_upto]
  constructor
  · rintro ⟨i, h1, h2, rfl⟩; exact of_decide_eq_true h2
  · intro hx
    have h1 := h.1 x hx
    refine ⟨x.toNat, by omega, decide_eq_true ?_, by omega⟩
    rw [Int.toNat_of_nonneg h1.1]; exact hx
theorem upto_len (m : Nat) (p : Nat → Bool) : (upto m p).length ≤ m := rises_len (upto_rises m p)
theorem upto_congr {m : Nat} {p q : Nat → Bool} (h : ∀ i, i < m → p i = q i) : upto m p = upto m q := by
  refine rise_ext (upto_rises m _).2 (upto_rises m _).2 fun x => ?_
  rw [mem_upto, mem_upto]
  constructor
  · rintro ⟨i, h1, h2, rfl⟩; exact ⟨i, h1, by rw [← h i h1]; exact h2, rfl⟩
  · rintro ⟨i, h1, h2, rfl⟩; exact ⟨i, h1, by rw [h i h1]; exact h2, rfl⟩

/-- May that be who may have which items, of so many? -/
def checkG (g : List (List Int)) (items : Int) : Bool := decide (0 ≤ items) && (decide (items ≤ 8) && (decide (g.length ≤ 8) && g.all fun l => riseB l items))
theorem checkG_iff {g : List (List Int)} {items : Int} : checkG g items = true ↔ 0 ≤ items ∧ items ≤ 8 ∧ g.length ≤ 8 ∧ ∀ l ∈ g, Rises items l := by
  simp [checkG, riseB]
theorem getD_mem {g : List (List Int)} {i : Nat} (hi : i < g.length) : g.getD i [] ∈ g := by
  rw [List.getD_eq_getElem?_getD, List.getElem?_eq_getElem hi]; exact List.getElem_mem hi
/-- What is near to some. -/
def nearG (g : List (List Int)) (m : Nat) (some : List Int) : List Int := upto m fun k => some.any fun i => decide ((k : Int) ∈ g.getD i.toNat [])
/-- May some be some of the bidders? And what may they have? -/
def nearOk (g : List (List Int)) (items : Int) (some : List Int) : Bool := checkG g items && riseB some g.length
theorem mem_nearG {g : List (List Int)} {m k : Nat} {some : List Int} : (k : Int) ∈ nearG g m some ↔ k < m ∧ ∃ i ∈ some, (k : Int) ∈ g.getD i.toNat [] := by
  rw [nearG, mem_upto_nat, List.any_eq_true]; simp
/-- May the i-th have that? -/
def okAt (g : List (List Int)) (has : List Int) (i : Nat) : Bool := decide (has.getD i (-1) = -1) || (decide (has.getD i (-1) ∈ g.getD i []) && !decide (has.getD i (-1) ∈ has.take i))
def fitsG (g : List (List Int)) (items : Int) (has : List Int) : Bool := checkG g items && (decide (has.length = g.length) && (List.range has.length).all (okAt g has))
theorem fitsG_iff {g : List (List Int)} {items : Int} {has : List Int} : fitsG g items has = true ↔ checkG g items = true ∧ has.length = g.length ∧ ∀ i, i < has.length → okAt g has i = true := by
  simp [fitsG]
def manyG (has : List Int) : Nat := has.countP fun x => decide (x ≠ -1)
theorem manyG_take {has : List Int} {i : Nat} (hi : i < has.length) : manyG (has.take (i + 1)) = manyG (has.take i) + (if has[i] ≠ -1 then 1 else 0) := by
  rw [manyG, manyG, List.take_succ_eq_append_getElem hi, List.countP_append]
  by_cases h : has[i] = -1 <;> simp [h]
end Go.Proofs.YtdckoaljcklmhaaGreatDoor

