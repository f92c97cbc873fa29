/-
  Plain mathematics of numbers as bytes: what is put, what is got. No program here.
-/
import Derived.Laws.AppendOwn
namespace Go.Proofs.Ytdckoaljcklmhaa

/-- A byte's cell. -/
def bV (x : UInt8) : Value := .int .u8 x.toNat
/-- Bytes as cells. -/
def cu8 (l : List UInt8) : List Value := l.map bV
/-- An int's cell. -/
def iV (x : Int) : Value := .int .i64 x
/-- Ints as cells. -/
def ci64 (l : List Int) : List Value := l.map iV

/-- A number's lowest bytes, so many, the lowest first. -/
def putB (N k : Nat) : List UInt8 := (List.range k).map fun i => UInt8.ofNat (N / 2 ^ (8 * i))
/-- What bytes tell, the lowest first. -/
def getN : List UInt8 → Nat
  | [] => 0
  | b :: r => b.toNat + 256 * getN r

theorem cu8_len (l : List UInt8) : (cu8 l).length = l.length := by simp [cu8]
theorem ci64_len (l : List Int) : (ci64 l).length = l.length := by simp [ci64]
theorem cu8_app (a b : List UInt8) : cu8 (a ++ b) = cu8 a ++ cu8 b := by simp [cu8]
theorem ci64_app (a b : List Int) : ci64 (a ++ b) = ci64 a ++ ci64 b := by simp [ci64]
theorem cu8_take (l : List UInt8) (k : Nat) : (cu8 l).take k = cu8 (l.take k) := by simp [cu8]
theorem cu8_drop (l : List UInt8) (k : Nat) : (cu8 l).drop k = cu8 (l.drop k) := by simp [cu8]
theorem ci64_take (l : List Int) (k : Nat) : (ci64 l).take k = ci64 (l.take k) := by simp [ci64]
theorem cu8_one (l : List UInt8) : ∀ u ∈ cu8 l, u.oneCell' = true := by
  intro u hu
  simp only [cu8, List.mem_map] at hu
  obtain ⟨x, _, rfl⟩ := hu
  rfl
theorem ci64_one (l : List Int) : ∀ u ∈ ci64 l, u.oneCell' = true := by
  intro u hu
  simp only [ci64, List.mem_map] at hu
  obtain ⟨x, _, rfl⟩ := hu
  rfl
theorem cu8_inj {a b : List UInt8} (h : cu8 a = cu8 b) : a = b := by
  induction a generalizing b with
  | nil => cases b with
    | nil => rfl
    | cons => simp [cu8] at h
  | cons x r ih => cases b with
    | nil => simp [cu8] at h
    | cons y s =>
      simp only [cu8, List.map_cons, List.cons.injEq, bV, Value.int.injEq, true_and] at h
      rw [ih h.2, UInt8.toNat_inj.1 (by omega : x.toNat = y.toNat)]
theorem ci64_set (a r : List Int) (z v : Int) : (ci64 (a ++ z :: r)).set a.length (.int .i64 v) = ci64 (a ++ v :: r) := by
  rw [← ci64_len a]
  simp [ci64, iV]
theorem cu8_get (l : List UInt8) (k : Nat) (h : k < l.length) : (cu8 l)[k]? = some (bV l[k]) := by
  simp [cu8, List.getElem?_eq_getElem h]
theorem ci64_get (l : List Int) (k : Nat) (h : k < l.length) : (ci64 l)[k]? = some (iV l[k]) := by
  simp [ci64, List.getElem?_eq_getElem h]

theorem putB_len (N k : Nat) : (putB N k).length = k := by simp [putB]
theorem putB_zero (N : Nat) : putB N 0 = [] := rfl
theorem putB_succ (N k : Nat) : putB N (k + 1) = putB N k ++ [UInt8.ofNat (N / 2 ^ (8 * k))] := by
  simp [putB, List.range_succ]
theorem putB_cons (N k : Nat) : putB N (k + 1) = UInt8.ofNat N :: putB (N / 256) k := by
  unfold putB
  rw [List.range_succ_eq_map, List.map_cons, List.map_map]
  simp only [Nat.mul_zero, Nat.pow_zero, Nat.div_one, List.cons.injEq, true_and]
  apply List.map_congr_left
  intro i _
  simp only [Function.comp]
  rw [Nat.div_div_eq_div_mul, show 8 * (i + 1) = 8 + 8 * i by omega, Nat.pow_add]
theorem putB_take (N k j : Nat) (h : j ≤ k) : (putB N k).take j = putB N j := by
  unfold putB
  rw [← List.map_take, List.take_range, Nat.min_eq_left h]
/-- The byte that is put in round k, as the program spells it. -/
theorem bV_put (N k : Nat) : bV (UInt8.ofNat (N / 2 ^ (8 * k))) = .int .u8 ((N : Int) / 2 ^ (8 * k) % 256) := by
  simp only [bV, UInt8.toNat_ofNat']
  congr 1
theorem bV_ofNat (N : Nat) : bV (UInt8.ofNat N) = .int .u8 ((N : Int) % 256) := by
  simp only [bV, UInt8.toNat_ofNat']
  congr 1

theorem getN_lt (l : List UInt8) : getN l < 2 ^ (8 * l.length) := by
  induction l with
  | nil => simp [getN]
  | cons b r ih =>
    have hb := b.toNat_lt
    simp only [getN, List.length_cons]
    rw [show 8 * (r.length + 1) = 8 + 8 * r.length by omega, Nat.pow_add]
    omega
theorem getN_le {l : List UInt8} {k : Nat} (h : l.length ≤ k) : getN l < 2 ^ (8 * k) := Nat.lt_of_lt_of_le (getN_lt l) (Nat.pow_le_pow_right (by omega) (by omega))
theorem getN_take (l : List UInt8) (k : Nat) : getN (l.take k) < 2 ^ (8 * k) := getN_le (List.length_take_le _ _)
theorem getN_take1 (l : List UInt8) : getN (l.take 1) < 256 := getN_take l 1
theorem getN_take2 (l : List UInt8) : getN (l.take 2) < 65536 := getN_take l 2
theorem getN_take4 (l : List UInt8) : getN (l.take 4) < 4294967296 := getN_take l 4
theorem getN_take8 (l : List UInt8) {k : Nat} (h : k ≤ 8) : getN (l.take k) < 18446744073709551616 := Nat.lt_of_lt_of_le (getN_take l k) (Nat.le_trans (Nat.pow_le_pow_right (by omega) (by omega : 8 * k ≤ 64)) (by decide))
theorem getN_snoc (l : List UInt8) (b : UInt8) : getN (l ++ [b]) = getN l + b.toNat * 2 ^ (8 * l.length) := by
  induction l with
  | nil => simp [getN]
  | cons x r ih =>
    simp only [List.cons_append, getN, List.length_cons, ih]
    rw [show 8 * (r.length + 1) = 8 + 8 * r.length by omega, Nat.pow_add, Nat.mul_add, Nat.mul_left_comm, Nat.add_assoc]
theorem getN_put (N k : Nat) : getN (putB N k) = N % 2 ^ (8 * k) := by
  induction k generalizing N with
  | zero => simp [putB_zero, getN, Nat.mod_one]
  | succ k ih =>
    rw [putB_cons, getN, ih, UInt8.toNat_ofNat', show 8 * (k + 1) = 8 + 8 * k by omega, Nat.pow_add, Nat.mod_mul]
theorem putB_get (l : List UInt8) : putB (getN l) l.length = l := by
  induction l with
  | nil => rfl
  | cons b r ih =>
    have hb := b.toNat_lt
    rw [List.length_cons, putB_cons, getN]
    congr 1
    · apply UInt8.toNat_inj.1
      rw [UInt8.toNat_ofNat']
      omega
    · rw [show (b.toNat + 256 * getN r) / 256 = getN r by omega, ih]
theorem putB_mod (N k : Nat) : putB (N % 2 ^ (8 * k)) k = putB N k := by
  have h := putB_get (putB N k)
  rw [putB_len, getN_put] at h
  exact h

/-- An int's lowest 32 bits as four bytes. -/
def intB (z : Int) : List UInt8 := putB (z % 18446744073709551616).toNat 4
/-- Ints as bytes, four each. -/
def listB : List Int → List UInt8
  | [] => []
  | z :: r => intB z ++ listB r
/-- How many there are (255 at most), and each. -/
def putL (zs : List Int) : List UInt8 := putB (min zs.length 255) 1 ++ listB (zs.take 255)
/-- How many there are (65535 at most), and these. -/
def putS (l : List UInt8) : List UInt8 := putB (min l.length 65535) 2 ++ l.take 65535
/-- So many numbers, four bytes each. -/
def getL : List UInt8 → Nat → List Int
  | _, 0 => []
  | r, k + 1 => (getN (r.take 4) : Int) :: getL (r.drop 4) k

theorem intB_len (z : Int) : (intB z).length = 4 := putB_len _ _
theorem listB_len (zs : List Int) : (listB zs).length = 4 * zs.length := by
  induction zs with
  | nil => rfl
  | cons z r ih => simp only [listB, List.length_append, intB_len, ih, List.length_cons]; omega
theorem listB_app (a b : List Int) : listB (a ++ b) = listB a ++ listB b := by
  induction a with
  | nil => rfl
  | cons z r ih => simp [listB, ih]
theorem listB_snoc (a : List Int) (z : Int) : listB (a ++ [z]) = listB a ++ intB z := by simp [listB_app, listB]
theorem getL_len (r : List UInt8) (k : Nat) : (getL r k).length = k := by
  induction k generalizing r with
  | zero => rfl
  | succ k ih => simp [getL, ih]
theorem getL_snoc (r : List UInt8) (k : Nat) : getL r (k + 1) = getL r k ++ [(getN ((r.drop (4 * k)).take 4) : Int)] := by
  induction k generalizing r with
  | zero => simp [getL]
  | succ k ih =>
    rw [getL, ih, getL, List.cons_append, List.drop_drop]
    rw [show 4 + 4 * k = 4 * (k + 1) by omega]
theorem putL_len (zs : List Int) : (putL zs).length = 1 + 4 * min zs.length 255 := by
  simp only [putL, List.length_append, putB_len, listB_len, List.length_take]; omega
theorem putS_len (l : List UInt8) : (putS l).length = 2 + min l.length 65535 := by
  simp only [putS, List.length_append, putB_len, List.length_take]; omega

theorem putB_take_get (bs : List UInt8) (k : Nat) (h : k ≤ bs.length) : putB (getN (bs.take k)) k = bs.take k := by
  have h1 := putB_get (bs.take k)
  rw [List.length_take, Nat.min_eq_left h] at h1
  exact h1
theorem listB_getL (r : List UInt8) (k : Nat) (h : 4 * k ≤ r.length) : listB (getL r k) = r.take (4 * k) := by
  induction k generalizing r with
  | zero => simp [getL, listB]
  | succ k ih =>
    have hg := getN_take4 r
    rw [getL, listB, ih (r.drop 4) (by rw [List.length_drop]; omega), intB]
    rw [show ((getN (List.take 4 r) : Int) % 18446744073709551616).toNat = getN (r.take 4) by omega, putB_take_get r 4 (by omega)]
    rw [show 4 * (k + 1) = 4 + 4 * k by omega, List.take_add]
/-- A list that is got, and put again, is what was taken. -/
theorem putL_getL (bs : List UInt8) (k : Nat) (hk : k = getN (bs.take 1)) (h : 1 + 4 * k ≤ bs.length) : putL (getL (bs.drop 1) k) = bs.take (1 + 4 * k) := by
  have h1 := getN_take1 bs
  unfold putL
  rw [getL_len, Nat.min_eq_left (by omega), List.take_of_length_le (by rw [getL_len]; omega), listB_getL _ _ (by rw [List.length_drop]; omega), hk, putB_take_get bs 1 (by omega), List.take_add]
/-- Bytes that are got, and put again, are what was taken. -/
theorem putS_get (bs : List UInt8) (k : Nat) (hk : k = getN (bs.take 2)) (h : 2 + k ≤ bs.length) : putS ((bs.drop 2).take k) = bs.take (2 + k) := by
  have h1 := getN_take2 bs
  unfold putS
  rw [List.length_take, List.length_drop, Nat.min_eq_left (show k ≤ bs.length - 2 by omega), Nat.min_eq_left (by omega), List.take_of_length_le (l := List.take k _) (by rw [List.length_take]; omega), List.take_add]
  congr 1
  rw [hk]
  exact putB_take_get bs 2 (by omega)
/-- A list that is put is got, whatever stands behind it. -/
theorem getL_listB (zs : List Int) (r : List UInt8) : getL (listB zs ++ r) zs.length = zs.map fun z => z % 4294967296 := by
  induction zs with
  | nil => rfl
  | cons z s ih =>
    have hl := intB_len z
    rw [List.length_cons, getL, listB, List.append_assoc, List.take_append_of_le_length (by omega), List.take_of_length_le (by omega), List.drop_append_of_le_length (by omega), List.drop_of_length_le (by omega), List.nil_append, ih, List.map_cons]
    congr 1
    rw [intB, getN_put]
    omega

theorem putS_of (l : List UInt8) (h : l.length ≤ 65535) : putS l = putB l.length 2 ++ l := by
  unfold putS
  rw [Nat.min_eq_left h, List.take_of_length_le h]
/-- Bytes that are put are got, whatever stands behind them. -/
theorem putS_many (l r : List UInt8) (h : l.length ≤ 65535) : getN ((putS l ++ r).take 2) = l.length := by
  have h2 := putB_len l.length 2
  rw [putS_of l h, List.append_assoc, List.take_append_of_le_length (by omega), List.take_of_length_le (by omega), getN_put]
  omega
theorem putS_back (l r : List UInt8) (h : l.length ≤ 65535) : ((putS l ++ r).drop 2).take l.length = l := by
  have h2 := putB_len l.length 2
  rw [putS_of l h, List.append_assoc, List.drop_append_of_le_length (by omega), List.drop_of_length_le (by omega), List.nil_append, List.take_append_of_le_length (by omega), List.take_of_length_le (by omega)]
theorem putS_rest (l r : List UInt8) (h : l.length ≤ 65535) : (putS l ++ r).drop (2 + l.length) = r := by
  have h2 := putS_len l
  rw [List.drop_append_of_le_length (by omega), List.drop_of_length_le (by omega), List.nil_append]
/-- .. and what is cut is too short. -/
theorem putS_cut (l : List UInt8) (h : l.length ≤ 65535) (k : Nat) (hk : k < 2 + l.length) : k < 2 + getN (((putS l).take k).take 2) := by
  by_cases h2 : 2 ≤ k
  · rw [List.take_take, Nat.min_eq_left h2]
    have h3 := putS_many l [] h
    rw [List.append_nil] at h3
    omega
  · omega

end Go.Proofs.Ytdckoaljcklmhaa
