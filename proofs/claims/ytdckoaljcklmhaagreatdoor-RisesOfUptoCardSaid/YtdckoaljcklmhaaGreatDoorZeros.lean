/-
  append(s, make([]E, m)...) onto what the call has made itself (E of one cell): so many zeros behind it.
-/
import Derived.Test.YtdckoaljcklmhaaGreatDoorKit
import Derived.Lib.AppendZerosOnto
import Derived.Laws.CopyOwn
namespace Go.Proofs.YtdckoaljcklmhaaGreatDoor
open Go.RowKit
set_option linter.unusedVariables false

theorem zeroCells_one (z : Value) (m : Nat) : Builtin.zeroCells #[z] m = (List.replicate m z).toArray := by
  apply Array.ext'
  simp only [Builtin.zeroCells, List.size_toArray, List.length_cons, List.length_nil, Nat.zero_add, Nat.mul_one, Nat.mod_one, Array.toList_map, Array.toList_range]
  rw [show (fun (_ : Nat) => (#[z] : Array Value)[0]!) = Function.const Nat z from rfl, List.map_const, List.length_range]

section
variable {P : Program} (w : World)

theorem run_app0 (t tn ty e : TypeId) (i : TypeInfo) (z : Value) (bytes : Nat) (kq kn : IntKind) (ht : P.underlying t = some (.slice e)) (htn : P.underlying tn = some (.int kn)) (hi : P.info? e = some i) (hz : i.zero = some z)
    (hsize : i.size = 1) (hby : i.bytes = bytes) (hzc : z.cells = #[z]) (h1 : z.oneCell' = true)
    (B : Nat) (A : Option Addr) (n c : Nat) (xs : List Value) (ho : Own w B e A n c xs) (m : Nat)
    (h63 : n + m ≤ maxLen) (hbytes : (n + m) * bytes ≤ 140737488355328) (hB : B ≤ w.heap.size) :
    ∃ A2 c2 w', (Builtin.append_ #[t, tn] ty #[.slice A n c, .int kq m]).run P w = .ok (.slice A2 (n + m) c2) w' ∧ Own w' B e A2 (n + m) c2 (xs ++ List.replicate m z) ∧ Below B w w' := by
  have hlen : (xs ++ List.replicate m z).length = n + m := by rw [List.length_append, ho.1, List.length_replicate]
  have hnc := ho.le
  have hmb : m * bytes ≤ 140737488355328 := Nat.le_trans (Nat.mul_le_mul_right _ (Nat.le_add_left _ _)) hbytes
  have h63' : ((n + m : Nat) : Int) ≤ 9223372036854775807 := by simp only [maxLen] at h63; omega
  have hw : IntKind.i64.wrap (m : Int) = m := by rw [IntKind.wrap_i64]; omega
  have hneg : ¬ ((m : Int) < 0) := by omega
  have h48i : ¬ (281474976710656 < (m : Int) * (i.bytes : Int)) := by
    rw [← Int.natCast_mul, hby]
    omega
  by_cases hm : m = 0
  · subst hm
    have hw0 : IntKind.i64.wrap 0 = 0 := by decide
    refine ⟨A, c, w, ?_, by simpa using ho, Below.refl _ _⟩
    rcases A with _ | a <;>
      simp [Builtin.append_, run_underlying ht, run_underlying htn, sizeOf, typeInfo, hi, asInt, asIntOf, hw0, hnc, storeCells]
  have hns : ¬ (m * i.size = 0) := by rw [hsize]; omega
  by_cases hroom : n + m ≤ c
  · obtain ⟨g, cur, rfl, hBg, hh, _, hcm, hcs, htk⟩ := ho.2.resolve_left (by omega)
    have hst := run_storeCells_at P g (n * i.size) e (List.replicate m z) 0 cur w hh (by rw [List.length_replicate, hsize, hcs]; omega) (fun u hu => by rw [(List.mem_replicate.1 hu).2]; exact h1)
    simp only [Nat.add_zero] at hst
    refine ⟨_, c, w.setRow g (cur.toList.take (n * i.size) ++ List.replicate m z ++ cur.toList.drop (n * i.size + (List.replicate m z).length)).toArray, ?_, ⟨hlen, .inr ⟨g, _, rfl, hBg, setRow_heap w g cur _ e _ hh, hroom, hcm, ?_, ?_⟩⟩, below_setRow (Below.refl _ _) hBg _⟩
    · have hzz := zeroCells_one z m
      simp [Builtin.append_, run_underlying ht, run_underlying htn, sizeOf, typeInfo, zeroValue, hi, hz, hzc, hzz, asInt, asIntOf, hw, hneg, hns, h48i, hroom, Addr.add_lit]
      simp at hst
      rw [hst]
      rfl
    · simp only [List.size_toArray, List.length_append, List.length_take, List.length_drop, Array.length_toList, List.length_replicate, hsize]
      omega
    · rw [hsize, Nat.mul_one, htk, ← hlen]
      exact List.take_left
  · have hold : (Builtin.firstCells i.size n (.slice A n c)).run P w.drew = .ok xs.toArray w.drew := by
      rcases A with _ | a
      · have h0 : xs = [] := by
          rcases Nat.eq_zero_or_pos n with h | h
          · exact List.eq_nil_of_length_eq_zero (by rw [ho.1, h])
          · obtain ⟨b, o, hA, _⟩ := ho.rd.2 h
            cases hA
        subst h0
        exact run_firstCells_none (P := P) w.drew _ _ _ _
      · refine run_firstCells_some (P := P) w.drew i.size n a n c xs (by rw [ho.1, hsize, Nat.mul_one]) fun j u hu => ?_
        have hj : j < n := by rw [← ho.1]; exact (List.getElem?_eq_some_iff.1 hu).1
        obtain ⟨b, o, hA, hc⟩ := ho.rd.2 (by omega)
        cases hA
        have he : (⟨b, o, none⟩ : Addr).add j = ⟨b, o + j, none⟩ := by
          unfold Addr.add
          split
          · rename_i h0; simp
          · rfl
        rw [he, ← hu]
        exact hc j hj
    have hru := Lib.run_append_grow_zeros (P := P) w t tn ty e i z kq kn ht htn hi hz A n c xs hold m (by omega) (by omega) (by omega) h63' (by rw [hby]; omega) (growslice_fits (by omega) (by rw [hby]; exact hbytes))
    have hge := grownCap_ge w (n + m) c e
    have hle := grownCap_le_maxLen w (n + m) c e (by omega)
    refine ⟨_, _, _, hru, ⟨hlen, .inr ⟨w.heap.size, _, rfl, hB, heap_alloc_new w.drew _, by omega, hle, ?_, ?_⟩⟩, ((Below.refl B w).drew).alloc hB _⟩
    · simp only [Array.size_append, List.size_toArray, size_zeroCells, hzc, List.length_cons, List.length_nil, ho.1]
      omega
    · rw [hzc, zeroCells_one, zeroCells_one, Array.toList_append, Array.toList_append, ← hlen]
      exact List.take_left

theorem wpList_app0 {ops : Array Oper} {rest : List Oper} {o : Oper} {a : Act} {Q : Exit → Act → World → Prop} (hgd : o.guard = none) (s x : Operand) (t tn : TypeId)
    (hop : o.op = .call { callee := .builtin .append, args := #[s, x], argTypes := #[t, tn] })
    (e : TypeId) (i : TypeInfo) (z : Value) (bytes : Nat) (kq kn : IntKind) (ht : P.underlying t = some (.slice e)) (htn : P.underlying tn = some (.int kn)) (hi : P.info? e = some i) (hz : i.zero = some z)
    (hsize : i.size = 1) (hby : i.bytes = bytes) (hzc : z.cells = #[z]) (h1 : z.oneCell' = true)
    (B : Nat) (A : Option Addr) (n c : Nat) (xs : List Value) (hs : a.eval s = .slice A n c) (ho : Own w B e A n c xs) (m : Nat) (M : Int) (hx : a.eval x = .int kq M) (hM : M = (m : Int))
    (h63 : n + m ≤ maxLen) (hbytes : (n + m) * bytes ≤ 140737488355328) (hB : B ≤ w.heap.size)
    (h : ∀ A2 c2 w', Own w' B e A2 (n + m) c2 (xs ++ List.replicate m z) → Below B w w' → wpList P ops Q rest (a.put o.dst (.slice A2 (n + m) c2)) w') : wpList P ops Q (o :: rest) a w := by
  subst hM
  obtain ⟨A2, c2, w', hr, ho', hb⟩ := run_app0 (P := P) w t tn o.type e i z bytes kq kn ht htn hi hz hsize hby hzc h1 B A n c xs ho m h63 hbytes hB
  exact Lib.wpList_append_run w hgd s x t tn hop _ _ hs hx _ w' hr (h A2 c2 w' ho' hb)
end
end Go.Proofs.YtdckoaljcklmhaaGreatDoor

