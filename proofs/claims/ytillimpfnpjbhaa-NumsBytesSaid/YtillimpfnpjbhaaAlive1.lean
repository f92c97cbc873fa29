/-
  string(b), and what the statements of layer 1 ask first: some answers that the document fixes.
-/
import Derived.Test.YtillimpfnpjbhaaNumsW3
import Derived.Test.YtillimpfnpjbhaaLit
import Derived.Lib.SlBytesConst
namespace Go.Proofs.Ytillimpfnpjbhaa
open Go.RowKit
set_option linter.unusedVariables false

theorem fold_push (bs : List UInt8) (s : ByteArray) : (bs.map fun x => (x.toNat : Int)).foldl (fun r n => r.push (UInt8.ofNat n.toNat)) s = ⟨s.data ++ bs.toArray⟩ := by
  induction bs generalizing s with
  | nil => simp
  | cons b r ih =>
    rw [List.map_cons, List.foldl_cons, ih]
    congr 1
    simp [ByteArray.push]

/-- string(b). -/
theorem run_str (w : World) (A : Option Addr) (n c : Nat) (bs : List UInt8) (hr : Rd w A n (cu8 bs)) :
    (convert 22 9 (.slice A n c)).run Try.prog w = .ok (.string ⟨bs.toArray⟩) w := by
  rw [run_convert_bytes_string w 22 9 5 A n c Try.underlying22 Try.underlying5 Try.underlying9]
  have hl : bs.length = n := by have h := hr.len; rw [cu8_len] at h; exact h
  have hf := fold_push bs ByteArray.empty
  have he : (ByteArray.empty.data ++ bs.toArray) = bs.toArray := Array.empty_append
  rw [he] at hf
  have hm : (bs.map fun x => (x.toNat : Int)).map (Value.int .u8) = cu8 bs := by simp [cu8, bV]
  rcases A with _ | a
  · have h0 : n = 0 := by
      rcases Nat.eq_zero_or_pos n with h | h
      · exact h
      · obtain ⟨b, o, hA, _⟩ := hr.2 h
        cases hA
    subst h0
    have : bs = [] := List.eq_nil_of_length_eq_zero hl
    subst this
    rfl
  · rw [← hf]
    refine run_bytesToString w a n c _ ?_
    rw [hm, ← hr.len]
    refine run_loadCells_list w a (cu8 bs) fun j u hu => ?_
    have hj : j < n := by rw [← hr.len]; exact (List.getElem?_eq_some_iff.1 hu).1
    obtain ⟨b, o, hA, hc⟩ := hr.2 (by omega)
    cases hA
    have he : (⟨b, o, none⟩ : Addr).add j = ⟨b, o + j, none⟩ := by
      unfold Addr.add
      split
      · rename_i h0; simp
      · rfl
    rw [he, hc j hj, hu]

theorem put_258 (A : Option Addr) (c : Nat) (w : World) (hr : Rd w A 1 (cu8 [9])) :
    Calls Try.prog 8 #[.slice A 1 c, .int .u64 258, .int .i64 3] w fun e w' =>
      ∃ A' c', e = .returned (.slice A' 4 c') ∧ Own w' w.heap.size 5 A' 4 c' (cu8 [9, 2, 1, 0]) ∧ Below w.heap.size w w' :=
  put_any A 1 c [9] 258 (by omega) 3 (by omega) (by omega) w hr (by omega)

theorem putbytes_ab (A : Option Addr) (c : Nat) (w : World) (hr : Rd w A 2 (cu8 [97, 98])) (h2 : 2 ≤ c) (hc : c ≤ maxLen) :
    Calls Try.prog 13 #[.slice none 0 0, .slice A 2 c] w fun e w' =>
      ∃ A' c', e = .returned (.slice A' 4 c') ∧ Own w' w.heap.size 5 A' 4 c' (cu8 [2, 0, 97, 98]) ∧ Below w.heap.size w w' :=
  putbytes_any none 0 0 [] A 2 c [97, 98] w (Rd.nil _ _) (by omega) hr h2 hc

set_option maxRecDepth 100000 in
set_option maxHeartbeats 1000000 in
theorem alive_any (w : World) : Calls Try.prog 7 #[] w fun e w' => e = .returned (.bool true) ∧ Below w.heap.size w w' := by
  go_enter Try.func7, Try.ntmps7
  go_wp2_with fail
  refine (getlist_ok _ 6 6 [1, 5, 0, 0, 0, 7] _ (rd_lit w _ _ _ 6 _ rfl _ rfl rfl) (by omega) (by decide) (by omega) 1 rfl (by omega)).mono ?_
  rintro e w1 ⟨A1, c1, rfl, hown1, hbel1⟩
  have hB1 : Below w.heap.size w w1 := ((Below.refl _ w).alloc (Nat.le_refl _) _).trans (hbel1.mono (by simp))
  have ho1 : Own w1 w.heap.size 3 A1 1 c1 [.int .i64 5] := hown1.mono (by simp)
  clear hbel1 hown1
  go_wp2_with fail
  refine (getlist_short _ 4 4 [1, 5, 0, 0] _ (rd_lit w1 _ _ _ 4 _ rfl _ rfl rfl) (by omega) (by decide) (by omega) (by decide)).mono ?_
  rintro e w2 ⟨rfl, hw⟩
  have hB2 : Below w1.heap.size w1 w2 := by rw [← hw]; exact (Below.refl _ w1).alloc (Nat.le_refl _) _
  clear hw
  go_wp2_with fail
  refine (get_ok _ 2 2 [1, 1] 2 _ (rd_lit w2 _ _ _ 2 _ rfl _ rfl rfl) (by omega) (by decide) (by omega) (by omega) (by omega)).mono ?_
  rintro e w3 ⟨rfl, hw⟩
  have hB3 : Below w2.heap.size w2 w3 := by rw [← hw]; exact (Below.refl _ w2).alloc (Nat.le_refl _) _
  clear hw
  go_wp2_with fail
  refine (get_short _ 1 1 2 _ (by omega) (by omega) (by omega)).mono ?_
  rintro e w4 ⟨rfl, hw⟩
  have hB4 : Below w3.heap.size w3 w4 := by rw [← hw]; exact (Below.refl _ w3).alloc (Nat.le_refl _) _
  clear hw
  go_wp2_with fail
  refine (get_arg _ 1 1 9 _ (by omega)).mono ?_
  rintro e w5 ⟨rfl, hw⟩
  have hB5 : Below w4.heap.size w4 w5 := by rw [← hw]; exact (Below.refl _ w4).alloc (Nat.le_refl _) _
  clear hw
  go_wp2_with fail
  refine (put_258 _ 1 _ (rd_lit w5 _ _ _ 1 _ rfl _ rfl rfl)).mono ?_
  rintro e w6 ⟨A6, c6, rfl, ho6, hb6⟩
  have ho6' : Own w6 w.heap.size 5 A6 4 c6 (cu8 [9, 2, 1, 0]) := ho6.mono (by have h1 := hB1.size; have h2 := hB2.size; have h3 := hB3.size; have h4 := hB4.size; have h5 := hB5.size; simp; omega)
  have hB6 : Below w.heap.size w w6 :=
    (((((hB1.trans (hB2.mono hB1.size)).trans (hB3.mono (Nat.le_trans hB1.size hB2.size))).trans (hB4.mono (Nat.le_trans (Nat.le_trans hB1.size hB2.size) hB3.size))).trans (hB5.mono (Nat.le_trans (Nat.le_trans (Nat.le_trans hB1.size hB2.size) hB3.size) hB4.size))).alloc (Nat.le_trans (Nat.le_trans (Nat.le_trans (Nat.le_trans hB1.size hB2.size) hB3.size) hB4.size) hB5.size) _).trans
      (hb6.mono (by have h1 := hB1.size; have h2 := hB2.size; have h3 := hB3.size; have h4 := hB4.size; have h5 := hB5.size; simp; omega))
  have ho2 : Own w6 w.heap.size 3 A1 1 c1 [.int .i64 5] :=
    ((((ho1.below hB2).below hB3).below hB4).below hB5).below (((Below.refl _ w5).alloc (Nat.le_refl _) _).trans (hb6.mono (by simp)))
  clear ho6 hb6 ho1 hB1 hB2 hB3 hB4 hB5
  obtain ⟨g, rfl, _, _⟩ := ho2.lt (by have := ho2.le; omega)
  have hcell : w6.cell? ⟨g, 0, none⟩ = some (.int .i64 5) := ho2.cell (by omega)
  have hs6 : (convert 22 9 (.slice A6 4 c6)).run Try.prog w6 = .ok (.string ⟨#[9, 2, 1, 0]⟩) w6 := run_str w6 A6 4 c6 [9, 2, 1, 0] ho6'.rd
  have hg : getN [1, 1] = 257 := rfl
  have kc := fun (w : World) (C : Array Value) (n c : Nat) => Lib.run_convert_bytes_const (P := Try.prog) w 22 5 C n c Try.underlying22 Try.underlying5
  go_wp2_with fail
  refine (putbytes_ab _ 2 _ (rd_lit w6 _ _ _ 2 _ rfl _ rfl rfl) (by omega) (by decide)).mono ?_
  rintro e w7 ⟨A7, c7, rfl, ho7, hb7⟩
  have hs7 : (convert 22 9 (.slice A7 4 c7)).run Try.prog w7 = .ok (.string ⟨#[2, 0, 97, 98]⟩) w7 := run_str w7 A7 4 c7 [2, 0, 97, 98] ho7.rd
  have hB7 : Below w.heap.size w w7 := (hB6.alloc hB6.size _).trans (hb7.mono (by have h1 := hB6.size; simp; omega))
  clear ho7 hb7
  go_wp2
  go_ret
  exact ⟨rfl, hB7⟩
end Go.Proofs.Ytillimpfnpjbhaa
