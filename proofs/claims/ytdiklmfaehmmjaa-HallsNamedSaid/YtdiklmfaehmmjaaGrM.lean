/-
  What follows of who is near to whom (mathematics for the laws of layer 6).
-/
import Derived.Test.YtdiklmfaehmmjaaGrO
namespace Go.Proofs.Ytdiklmfaehmmjaa
set_option linter.unusedVariables false

theorem nearG_nil (g : List (List Int)) (m : Nat) : nearG g m [] = [] := by
  rw [nearG]
  refine List.eq_nil_iff_forall_not_mem.2 fun x hx => ?_
  obtain ⟨i, _, h, _⟩ := mem_upto.1 hx
  simp at h
theorem mem_all {n : Nat} {x : Int} : x ∈ upto n (fun _ => true) ↔ 0 ≤ x ∧ x < n := by
  rw [mem_upto]
  constructor
  · rintro ⟨i, h1, _, rfl⟩; omega
  · rintro ⟨h1, h2⟩; exact ⟨x.toNat, by omega, rfl, by omega⟩
theorem upto_all_len (n : Nat) : (upto n fun _ => true).length = n := by
  rw [upto, List.length_map, List.filter_eq_self.2 (by simp), List.length_range]
theorem nearG_all {g : List (List Int)} {m k : Nat} (hk : k < m) : decide ((k : Int) ∈ nearG g m (upto g.length fun _ => true)) = decide (0 < (rowT g k).length) := by
  rw [decide_eq_decide, mem_nearG, List.length_pos_iff_exists_mem]
  constructor
  · rintro ⟨_, i, hi, h⟩
    obtain ⟨j, hj, _, rfl⟩ := mem_upto.1 hi
    exact ⟨_, mem_rowT.2 ⟨hj, by simpa using h⟩⟩
  · rintro ⟨x, hx⟩
    obtain ⟨i, hi, h, rfl⟩ := mem_upto.1 hx
    exact ⟨hk, i, mem_upto_nat.2 ⟨hi, rfl⟩, by simpa using h⟩
theorem nearG_one {g : List (List Int)} {m i : Nat} (hc : checkG g m = true) (hi : i < g.length) : nearG g m [(i : Int)] = g.getD i [] := by
  have h1 := (checkG_iff.1 hc).2.2.2 _ (getD_mem hi)
  rw [← upto_of_rises h1, nearG]
  refine upto_congr fun k hk => ?_
  simp
theorem rises_one {n i : Nat} (h : i < n) : Rises n [(i : Int)] := ⟨by simp; omega, List.pairwise_singleton _ _⟩
theorem nearOk_of {g : List (List Int)} {m : Nat} {s : List Int} (hc : checkG g m = true) (h : Rises g.length s) : nearOk g m s = true := by
  rw [nearOk, hc, riseB, decide_eq_true h]; rfl
theorem near_err {g : List (List Int)} {m : Int} {s : List Int} (h : nearOk g m s = true) : nearErr g m s = 0 := by rw [nearErr, if_pos h]
theorem near_ans {g : List (List Int)} {m : Nat} {s : List Int} (h : nearOk g m s = true) : nearE g m s = nearG g m s := by rw [nearE, if_pos h, Int.toNat_natCast]
theorem near_err_bad {g : List (List Int)} {m : Int} {s : List Int} (h : nearOk g m s = false) : nearErr g m s = 1 := by rw [nearErr, if_neg (by simp [h])]
theorem near_bad {g : List (List Int)} {m : Int} {s : List Int} (h : nearOk g m s = false) : nearE g m s = [] := by rw [nearE, if_neg (by simp [h])]
theorem turned_err {g : List (List Int)} {m : Int} (h : checkG g m = true) : errG g m = 0 := by rw [errG, if_pos h]
theorem turned_ans {g : List (List Int)} {m : Nat} (h : checkG g m = true) : turnedE g m = turnedG g m := by rw [turnedE, if_pos h, Int.toNat_natCast]
theorem turned_err_bad {g : List (List Int)} {m : Int} (h : checkG g m = false) : errG g m = 1 := by rw [errG, if_neg (by simp [h])]
theorem turned_bad {g : List (List Int)} {m : Int} (h : checkG g m = false) : turnedE g m = [] := by rw [turnedE, if_neg (by simp [h])]
theorem outs_zs {w : World} {B : Nat} {A : Option Addr} {n c : Nat} {t : List Ls} {l : List (List Int)} (h : Outs w B A n c t) (hl : Ls.all t = l) : n = l.length := by
  rw [← h.len, ← hl, Ls.all, List.length_map]
theorem all_get {t : List Ls} {l : List (List Int)} (hl : Ls.all t = l) {k : Nat} {u : Ls} (hu : t[k]? = some u) : l[k]? = some u.zs := by
  rw [← hl, Ls.all, List.getElem?_map, hu]; rfl
end Go.Proofs.Ytdiklmfaehmmjaa
