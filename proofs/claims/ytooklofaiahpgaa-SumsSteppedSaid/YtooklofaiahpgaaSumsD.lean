/-
  Plain mathematics of sums of bytes (FNV-1a of 32 bits): steps, how they go back, their lowest bits. No program here.
-/
import Derived.Test.YtooklofaiahpgaaNumsD
namespace Go.Proofs.Ytooklofaiahpgaa

/-- A step of a sum by a byte. -/
def stp (s b : Nat) : Nat := ((s ^^^ b) * 16777619) % 4294967296
/-- The sum that bytes make of a sum. -/
def sumF (s : Nat) (bs : List UInt8) : Nat := bs.foldl (fun n b => stp n b.toNat) s
/-- A step back. -/
def unst (s b : Nat) : Nat := ((s * 899433627) % 4294967296) ^^^ b

theorem stp_lt (s b : Nat) : stp s b < 4294967296 := Nat.mod_lt _ (by omega)
theorem sumF_nil (s : Nat) : sumF s [] = s := rfl
theorem sumF_cons (s : Nat) (b : UInt8) (r : List UInt8) : sumF s (b :: r) = sumF (stp s b.toNat) r := by simp only [sumF, List.foldl_cons]
theorem foldl_snoc_gen {α β : Type} (f : α → β → α) (s : α) (a : List β) (b : β) : (a ++ [b]).foldl f s = f (a.foldl f s) b := by simp
theorem sumF_app (s : Nat) (a r : List UInt8) : sumF s (a ++ r) = sumF (sumF s a) r := List.foldl_append
theorem sumF_snoc (s : Nat) (a : List UInt8) (b : UInt8) : sumF s (a ++ [b]) = stp (sumF s a) b.toNat := foldl_snoc_gen (fun n (b : UInt8) => stp n b.toNat) s a b
theorem sumF_lt (s : Nat) (hs : s < 4294967296) (bs : List UInt8) : sumF s bs < 4294967296 := by
  induction bs generalizing s with
  | nil => exact hs
  | cons b r ih => rw [sumF_cons]; exact ih _ (stp_lt _ _)
theorem sumF_take (s : Nat) (bs : List UInt8) (k : Nat) (h : k < bs.length) : sumF s (bs.take (k + 1)) = stp (sumF s (bs.take k)) bs[k].toNat := by
  rw [List.take_succ_eq_append_getElem h, sumF_snoc]

theorem xor_lt32 {a b : Nat} (ha : a < 4294967296) (hb : b < 4294967296) : a ^^^ b < 4294967296 := Nat.xor_lt_two_pow (n := 32) ha hb
theorem byte_lt32 (b : UInt8) : b.toNat < 4294967296 := Nat.lt_trans b.toNat_lt (by decide)
theorem unst_lt (s b : Nat) (hb : b < 4294967296) : unst s b < 4294967296 := xor_lt32 (Nat.mod_lt _ (by omega)) hb

theorem back_mul (x : Nat) (hx : x < 4294967296) : ((x * 16777619) % 4294967296 * 899433627) % 4294967296 = x := by omega
theorem mul_back (x : Nat) (hx : x < 4294967296) : ((x * 899433627) % 4294967296 * 16777619) % 4294967296 = x := by omega

theorem unst_stp (s b : Nat) (hs : s < 4294967296) (hb : b < 4294967296) : unst (stp s b) b = s := by
  unfold unst stp
  rw [back_mul _ (xor_lt32 hs hb), Nat.xor_assoc, Nat.xor_self, Nat.xor_zero]
theorem stp_unst (s b : Nat) (hs : s < 4294967296) : stp (unst s b) b = s := by
  unfold unst stp
  rw [Nat.xor_assoc, Nat.xor_self, Nat.xor_zero, mul_back _ hs]
theorem stp_inj {s t b : Nat} (hs : s < 4294967296) (ht : t < 4294967296) (hb : b < 4294967296) (h : stp s b = stp t b) : s = t := by
  rw [← unst_stp s b hs hb, h, unst_stp t b ht hb]
theorem sumF_inj {s t : Nat} (hs : s < 4294967296) (ht : t < 4294967296) (bs : List UInt8) (h : sumF s bs = sumF t bs) : s = t := by
  induction bs generalizing s t with
  | nil => exact h
  | cons b r ih => exact stp_inj hs ht (byte_lt32 b) (ih (stp_lt _ _) (stp_lt _ _) h)
theorem stp_byte {s b c : Nat} (hs : s < 4294967296) (hb : b < 4294967296) (hc : c < 4294967296) (h : stp s b = stp s c) : b = c := by
  unfold stp at h
  have h2 : s ^^^ b = s ^^^ c := by
    rw [← back_mul _ (xor_lt32 hs hb), h, back_mul _ (xor_lt32 hs hc)]
  have h3 : s ^^^ (s ^^^ b) = s ^^^ (s ^^^ c) := by rw [h2]
  rw [← Nat.xor_assoc, ← Nat.xor_assoc, Nat.xor_self, Nat.zero_xor, Nat.zero_xor] at h3
  exact h3

/-- One byte another one: another sum. -/
theorem sumF_byte (s : Nat) (hs : s < 4294967296) (bs : List UInt8) (k : Nat) (hk : k < bs.length) (c : UInt8) :
    sumF s ((bs.take k ++ [c]) ++ bs.drop (k + 1)) = sumF s bs ↔ c = bs[k] := by
  have hb : sumF s bs = sumF (stp (sumF s (bs.take k)) bs[k].toNat) (bs.drop (k + 1)) := by
    conv => lhs; rw [← List.take_append_drop (k + 1) bs]
    rw [sumF_app, sumF_take s bs k hk]
  rw [sumF_app, sumF_snoc, hb]
  constructor
  · intro h
    have h2 := sumF_inj (stp_lt _ _) (stp_lt _ _) _ h
    exact UInt8.toNat_inj.1 (stp_byte (sumF_lt s hs _) (byte_lt32 _) (byte_lt32 _) h2)
  · rintro rfl
    rfl

theorem stp_zero : stp 0 0 = 0 := by decide
/-- Noughts. -/
theorem sumF_noughts (s : Nat) (hs : s < 4294967296) (m : Nat) : sumF s (List.replicate m 0) = 0 ↔ s = 0 := by
  induction m generalizing s with
  | zero => rw [List.replicate_zero, sumF_nil]
  | succ m ih =>
    rw [List.replicate_succ, sumF_cons, ih _ (stp_lt _ _)]
    constructor
    · intro h
      exact stp_inj (b := 0) hs (by omega) (by omega) (by rw [stp_zero]; exact h)
    · rintro rfl
      exact stp_zero

/-- The lowest bits of a step. -/
theorem stp_low (s b k : Nat) (hk : k ≤ 32) : stp s b % 2 ^ k = (((s % 2 ^ k ^^^ b % 2 ^ k) * (16777619 % 2 ^ k)) % 4294967296) % 2 ^ k := by
  unfold stp
  have hd : 2 ^ k ∣ 4294967296 := by
    have : (4294967296 : Nat) = 2 ^ 32 := by decide
    rw [this]
    exact Nat.pow_dvd_pow 2 hk
  rw [Nat.mod_mod_of_dvd _ hd, Nat.mod_mod_of_dvd _ hd, ← Nat.xor_mod_two_pow, ← Nat.mul_mod]

/-- A step as the document's words have it. -/
theorem step_ref (s c : Nat) (hc : c < 256) : (s - s % 256) + ((s % 256) ^^^ c) = s ^^^ c := by
  have h1 : (s ^^^ c) % 2 ^ 8 = (s % 2 ^ 8) ^^^ (c % 2 ^ 8) := Nat.xor_mod_two_pow
  have h2 : (s ^^^ c) / 2 ^ 8 = (s / 2 ^ 8) ^^^ (c / 2 ^ 8) := Nat.xor_div_two_pow
  rw [Nat.div_eq_of_lt (show c < 2 ^ 8 from hc), Nat.xor_zero] at h2
  rw [Nat.mod_eq_of_lt (show c < 2 ^ 8 from hc)] at h1
  have h3 := Nat.div_add_mod (s ^^^ c) (2 ^ 8)
  rw [h1, h2] at h3
  have h4 := Nat.div_add_mod s (2 ^ 8)
  rw [show (2 : Nat) ^ 8 = 256 from rfl] at h3 h4
  omega

end Go.Proofs.Ytooklofaiahpgaa
