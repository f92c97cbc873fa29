/-
  Walks of package disks: set, Write; told, Read.
-/
import Derived.Test.YthgbenncheoemaaDoorDisksW2
namespace Go.Proofs.YthgbenncheoemaaDoor
open Go.RowKit
set_option linter.unusedVariables false

theorem size_u8 : (Tryd.prog.info? 5).map (·.size) = some 1 := by kernel_rfl
theorem infod_u8 : (Tryd.prog.info? 5).map (fun i => (i.zero, i.size, i.bytes)) = some (some (.int .u8 0), 1, 1) := by kernel_rfl
theorem splice_pad {bs : List UInt8} (h : bs.length ≤ 64) : splice (List.replicate 64 (Value.int .u8 0)) 0 (cu8 bs) = cu8 (pad bs) := by
  have e : (Value.int .u8 0) = bV 0 := rfl
  rw [e, pad, cu8_app]
  simp only [splice, List.take_zero, List.nil_append, Nat.zero_add, List.drop_replicate, cu8_len]
  simp only [cu8, List.map_replicate]
/-- copy of bytes into a block that is known whole. -/
theorem run_copy_rd (w : World) (ty : TypeId) (g o dLen dCap : Nat) (cur : List Value) (t : TypeId) (hg : w.heap[g]? = some (.cells cur.toArray t (0, 0))) (A : Option Addr) (m c : Nat) (xs : List Value) (hr : Rd w A m xs) (hm : m ≤ dLen)
    (hfit : o + m ≤ cur.length) (h1 : ∀ v ∈ xs, v.oneCell' = true) :
    (Builtin.copy_ #[42, 42] ty #[.slice (some ⟨g, o, none⟩) dLen dCap, .slice A m c]).run Tryd.prog w = .ok (goInt m) (w.setRow g (splice cur o xs).toArray) := by
  have hl := hr.len
  by_cases h0 : m = 0
  · subst h0
    obtain rfl := hr.nil_of
    rw [run_copy_none (P := Tryd.prog) w _ _ ty 5 _ _ _ _ _ _ Tryd.underlying42 size_u8 (Nat.zero_min _)]
    have e : splice cur o [] = cur := by simp [splice]
    rw [e, setRow_self w g _ _ _ hg]
    rfl
  · obtain ⟨b, o', rfl, hc⟩ := hr.2 (by omega)
    have hmin : Nat.min m dLen = m := Nat.min_eq_left hm
    rw [run_copy_row Tryd.prog w _ _ ty 5 g o dLen dCap ⟨b, o', none⟩ m c cur.toArray t xs Tryd.underlying42 size_u8 hg (by rw [hl, hmin])
      (fun j v hv => by rw [Addr.add_lit, hc j (by have := (List.getElem?_eq_some_iff.1 hv).1; omega), hv]) (by simpa [hl] using hfit) h1]
    simp [splice, hl]

theorem wpList_load_run {P : Program} {ops : Array Oper} {rest : List Oper} {op : Oper} {a : Act} {w : World} {Q : Exit → Act → World → Prop} (hgd : op.guard = none) (ty : TypeId) (x : Operand) (ho : op.op = .load ty x) (p : Value) (hx : a.eval x = p) (v : Value)
    (hr : (Instr.loadAt ty p).run P w = .ok v w) (h : wpList P ops Q rest (a.put op.dst v) w) : wpList P ops Q (op :: rest) a w :=
  wpList_plain hgd fun K hK => by
    unfold Oper.wp execOp
    simp only [ho, hx, Sem.run_bind, Sem.run_pure, Result.andThen_ok, hr]
    exact hK _ _ h
theorem wpList_store_run {P : Program} {ops : Array Oper} {rest : List Oper} {op : Oper} {a : Act} {w : World} {Q : Exit → Act → World → Prop} (hgd : op.guard = none) (ty : TypeId) (x y : Operand) (ho : op.op = .store ty x y) (p : Value) (hx : a.eval x = p) (v : Value) (hy : a.eval y = v) (w' : World)
    (hr : (Instr.storeAt ty p v).run P w = .ok () w') (h : wpList P ops Q rest (a.put op.dst undef) w') : wpList P ops Q (op :: rest) a w :=
  wpList_plain hgd fun K hK => by
    unfold Oper.wp execOp
    simp only [ho, hx, hy, Sem.run_bind, Sem.run_pure, Result.andThen_ok, hr]
    exact hK _ _ h

set_option maxRecDepth 100000 in
set_option maxHeartbeats 1000000 in
theorem set_no (p g : Nat) (d : Dk) (n : Nat) (b : Value) (w : World) (h : DkAt w p g d) (hl : d.left = 0) :
    Calls Tryd.prog 32 #[.pointer (some ⟨g, n * 64, none⟩), b, .func (.func 31) #[.pointer (some ⟨p, 1, none⟩)] #[]] w fun e w' =>
      e = .returned (.int .i64 8) ∧ DkAt w' p g d.asked ∧ Tch p g w w' := by
  go_enter Tryd.func32, Tryd.ntmps32
  go_wp2_with fail
  refine (lets_any p g d w h).mono ?_
  rintro e w1 ⟨rfl, h1, t1⟩
  have s1 : (!decide (d.left = 0)) = false := by simpa using hl
  rw [s1]
  clear h
  go_wp2
  go_ret
  exact ⟨rfl, h1, t1⟩

set_option maxRecDepth 100000 in
set_option maxHeartbeats 1000000 in
theorem set_ok (p g : Nat) (d : Dk) (n : Nat) (A : Option Addr) (m c : Nat) (bs : List UInt8) (w : World) (h : DkAt w p g d) (hl : d.left ≠ 0) (hn : n < d.ss.length) (hr : Rd w A m (cu8 bs)) (hm : m ≤ 64) (hA : 0 < m → ∀ b o, A = some ⟨b, o, none⟩ → b ≠ p ∧ b ≠ g) :
    Calls Tryd.prog 32 #[.pointer (some ⟨g, n * 64, none⟩), .slice A m c, .func (.func 31) #[.pointer (some ⟨p, 1, none⟩)] #[]] w fun e w' =>
      e = .returned (.int .i64 0) ∧ DkAt w' p g { d.asked with ss := d.ss.set n (pad bs) } ∧ Tch p g w w' := by
  have hbl : bs.length = m := by have h := hr.len; rw [cu8_len] at h; exact h
  go_enter Tryd.func32, Tryd.ntmps32
  go_wp2_with fail
  refine (lets_any p g d w h).mono ?_
  rintro e w1 ⟨rfl, h1, t1⟩
  have s1 : (!decide (d.left = 0)) = true := by simpa using hl
  rw [s1]
  have hr1 := hr.tch t1 hA
  clear h hr hA s1
  go_wp2_with fail
  generalize hW : w1.alloc _ = W
  have hh : W.heap[w1.heap.size]? = some (.cells (List.replicate 64 (Value.int .u8 0)).toArray 62 (0, 0)) := by rw [← hW]; exact heap_alloc_new w1 _
  have hrW : Rd W A m (cu8 bs) := by rw [← hW]; exact hr1.alloc _
  have hbW : Below w1.heap.size w1 W := by rw [← hW]; exact (Below.refl _ w1).alloc (Nat.le_refl _) _
  clear hW
  rw [run_copy_rd W _ w1.heap.size 0 64 64 _ _ hh A m c (cu8 bs) hrW hm (by rw [List.length_replicate]; omega) (cu8_one _), splice_pad (by omega)]
  have hh2 := setRow_heap W w1.heap.size _ (cu8 (pad bs)).toArray _ _ hh
  have hb2 := below_setRow hbW (Nat.le_refl _) (cu8 (pad bs)).toArray
  generalize W.setRow w1.heap.size (cu8 (pad bs)).toArray = w2 at hh2 hb2
  clear hh hrW hbW
  have hpl : (pad bs).length = 64 := pad_len (by omega)
  have h2 := h1.below hb2
  have ld := run_loadAt_mid (P := Tryd.prog) w2 w1.heap.size 0 62 (cu8 (pad bs)) _ (fun j v hv => by rw [cell_of_row _ _ _ _ _ _ hh2, Nat.zero_add]; simpa using hv) Tryd.underlying62 rfl (by rw [cu8_len, hpl]; exact size_sector)
  have hfl := flat_len d.ss (by rw [← asked_ss d]; exact h1.len)
  have st := run_storeAt_row (P := Tryd.prog) w2 g (n * 64) 62 (cu8 (pad bs)) _ _ h2.hg (by rw [cu8_len, cu8_len, hpl, asked_ss, hfl]; omega) (by rw [cu8_len, hpl]; exact size_sector) (cu8_one _)
  have h3 := h2.setg n (by rw [asked_ss]; exact hn) (pad bs) hpl
  have t3 := Tch.setRow p g w2 ((cu8 d.asked.ss.flatten).take (n * 64) ++ cu8 (pad bs) ++ (cu8 d.asked.ss.flatten).drop (n * 64 + (cu8 (pad bs)).length)).toArray
  have T := t1.trans ((Tch.of_below (p := p) (g := g) hb2).trans t3)
  rw [asked_ss] at h3 st t3 T
  generalize w2.setRow g ((cu8 d.ss.flatten).take (n * 64) ++ cu8 (pad bs) ++ (cu8 d.ss.flatten).drop (n * 64 + (cu8 (pad bs)).length)).toArray = w3 at h3 st t3 T
  have H3 := Lib.hid h3
  have TT := Lib.hid T
  have LD := Lib.hid ld
  have ST := Lib.hid st
  clear h1 t1 hr1 hh2 hb2 h2 hfl h3 t3 T hpl ld st
  generalize (cu8 (pad bs)).toArray = X at LD ST
  go_wp2_with (first | refine wpList_load_run rfl _ _ rfl _ rfl _ LD.out ?_ | refine wpList_store_run rfl _ _ _ rfl _ rfl _ rfl _ ST.out ?_)
  go_ret
  exact ⟨rfl, H3.out, TT.out⟩

set_option maxRecDepth 100000 in
set_option maxHeartbeats 1000000 in
theorem write_arg (p g : Nat) (d : Dk) (n : Int) (A : Option Addr) (m c : Nat) (w : World) (h : DkAt w p g d) (hn : n < 0 ∨ (d.ss.length : Int) ≤ n ∨ 64 < m) :
    Calls Tryd.prog 17 #[.pointer (some ⟨p, 0, none⟩), .int .i64 n, .slice A m c] w fun e w' => e = .returned (.int .i64 1) ∧ w = w' := by
  by_cases h1 : n < 0 ∨ (d.ss.length : Int) ≤ n
  · go_enter Tryd.func17, Tryd.ntmps17
    go_wp2_with fail
    refine (refuses_arg p g d n w h h1).mono ?_
    rintro e w1 ⟨rfl, rfl⟩
    clear h
    go_wp2
    go_ret
    exact ⟨rfl, rfl⟩
  · obtain ⟨k, rfl⟩ : ∃ k : Nat, n = k := ⟨n.toNat, by omega⟩
    have s1 : (64 : Int) < m := by omega
    go_enter Tryd.func17, Tryd.ntmps17
    go_wp2_with fail
    refine (refuses_ok p g d k w h (by omega)).mono ?_
    rintro e w1 ⟨rfl, rfl⟩
    clear h h1 hn
    go_wp2
    go_ret
    exact ⟨rfl, rfl⟩

set_option maxRecDepth 100000 in
set_option maxHeartbeats 1000000 in
theorem write_any (p g : Nat) (d : Dk) (n : Nat) (A : Option Addr) (m c : Nat) (bs : List UInt8) (w : World) (h : DkAt w p g d) (hn : n < d.ss.length) (hr : Rd w A m (cu8 bs)) (hm : m ≤ 64) (hA : 0 < m → ∀ b o, A = some ⟨b, o, none⟩ → b ≠ p ∧ b ≠ g) (hw : d.writes < 1000000000) :
    Calls Tryd.prog 17 #[.pointer (some ⟨p, 0, none⟩), .int .i64 n, .slice A m c] w fun e w' => e = .returned (.int .i64 d.says) ∧ DkAt w' p g (d.write n bs) ∧ Tch p g w w' := by
  have c0 := h.c0
  have s1 : decide (64 < m) = false := by simp; omega
  have hmf : ∀ (fn : Fn) (first cap : Array Value) (w : World), (Instr.makeFunc fn first cap).run Tryd.prog w = .ok (.func fn first cap) w := fun _ _ _ _ => rfl
  by_cases hl : d.left = 0
  · have e1 : d.says = 8 := by rw [Dk.says, if_pos hl]
    have e2 : d.write n bs = d.asked := by rw [Dk.write, if_pos hl]
    rw [e1, e2]
    clear e1 e2
    go_enter Tryd.func17, Tryd.ntmps17
    go_wp2_with fail
    refine (refuses_ok p g d n w h hn).mono ?_
    rintro e w1 ⟨rfl, rfl⟩
    have HL := Lib.hid hl
    clear hl hr hA
    go_wp2_with fail
    refine (set_no p g d n _ w h HL.out).mono ?_
    rintro e w1 ⟨rfl, h1, t1⟩
    clear h c0
    go_wp2
    go_ret
    exact ⟨rfl, h1, t1⟩
  · have e1 : d.says = 0 := by rw [Dk.says, if_neg hl]
    have e2 : d.write n bs = { d.asked with ss := d.ss.set n (pad bs), writes := d.writes + 1 } := by rw [Dk.write, if_neg hl]
    rw [e1, e2]
    clear e1 e2
    go_enter Tryd.func17, Tryd.ntmps17
    go_wp2_with fail
    refine (refuses_ok p g d n w h hn).mono ?_
    rintro e w1 ⟨rfl, rfl⟩
    have HA := Lib.hid hA
    clear hA
    go_wp2_with fail
    refine (set_ok p g d n A m c bs w h hl hn hr hm HA.out).mono ?_
    rintro e w1 ⟨rfl, h1, t1⟩
    have c3 := h1.c3
    have f3 := h1.free 3
    have s2 : IntKind.i64.wrap ((d.writes : Int) + 1) = (d.writes : Int) + 1 := by rw [IntKind.wrap_i64]; omega
    have H := Lib.hid h1
    have T := Lib.hid t1
    simp only [asked_writes] at c3
    clear h c0 h1 t1 hl hr
    go_wp2
    go_ret
    refine ⟨rfl, ?_, T.out.trans (Tch.setCell _ _ _ _ _)⟩
    refine H.out.setp 3 _ _ ?_ rfl H.out.lo H.out.hi
    simp [Dk.cells]

set_option maxRecDepth 100000 in
set_option maxHeartbeats 1000000 in
theorem told_any (p g : Nat) (d : Dk) (n : Nat) (w : World) (h : DkAt w p g d) (hn : n < d.ss.length) :
    Calls Tryd.prog 28 #[.pointer (some ⟨g, n * 64, none⟩)] w fun e w' => ∃ A, e = .returned (.slice A 64 64) ∧ Own w' w.heap.size 5 A 64 64 (cu8 d.ss[n]) ∧ Below w.heap.size w w' := by
  obtain ⟨i0, hi0, hz0, hz1, hz2⟩ := info_parts infod_u8
  have hl64 := h.len d.ss[n] (List.getElem_mem hn)
  go_enter Tryd.func28, Tryd.ntmps28
  go_wp2_with (at_make; go_must (refine wpList_mk _ rfl _ _ 42 rfl w.heap.size 5 i0 _ Tryd.underlying42 hi0 hz0 hz1 rfl .i64 .i64 _ _ 64 rfl rfl rfl rfl ?c2 ?c3 ?c4 ?_))
  case c2 => rw [hz2]; omega
  case c3 => simp only [maxLen]; omega
  case c4 => exact Nat.le_refl _
  intro w1 hown hb1
  have h1 := h.below hb1
  have hh : w1.heap[w.heap.size]? = some (.cells (List.replicate 64 (Value.int .u8 0)).toArray 5 (0, 0)) := by
    obtain ⟨g', cur, hA, _, hh, _, _, hs, ht⟩ := hown.2.resolve_left (by omega)
    cases hA
    rw [List.take_of_length_le (by simp [hs])] at ht
    have hcur : cur = (List.replicate 64 (Value.int .u8 0)).toArray := Array.ext' ht
    rw [hh, hcur]
  have hrd : Rd w1 (some ⟨g, n * 64, none⟩) 64 (cu8 d.ss[n]) := by
    refine ⟨by rw [cu8_len, hl64], fun _ => ⟨g, n * 64, rfl, fun j hj => ?_⟩⟩
    rw [List.getElem?_eq_getElem (by rw [cu8_len, hl64]; exact hj)]
    exact h1.range n hn j _ (List.getElem?_eq_getElem _)
  have cp := run_copy_rd w1 3 w.heap.size 0 64 64 _ _ hh _ 64 64 (cu8 d.ss[n]) hrd (Nat.le_refl _) (by rw [List.length_replicate]; omega) (cu8_one _)
  have e1 : splice (List.replicate 64 (Value.int .u8 0)) 0 (cu8 d.ss[n]) = cu8 d.ss[n] := by rw [splice_pad (by omega), pad, hl64]; simp
  rw [e1] at cp
  have hh2 := setRow_heap w1 w.heap.size _ (cu8 d.ss[n]).toArray _ _ hh
  have hb2 := below_setRow hb1 (Nat.le_refl _) (cu8 d.ss[n]).toArray
  generalize w1.setRow w.heap.size (cu8 d.ss[n]).toArray = w2 at hh2 hb2 cp
  have hO : Own w2 w.heap.size 5 (some ⟨w.heap.size, 0, none⟩) 64 64 (cu8 d.ss[n]) :=
    ⟨by rw [cu8_len, hl64], .inr ⟨w.heap.size, _, rfl, Nat.le_refl _, hh2, Nat.le_refl _, by simp only [maxLen]; omega, by simp [cu8_len, hl64], by
      show (cu8 d.ss[n]).take 64 = _
      exact List.take_of_length_le (by rw [cu8_len, hl64]; exact Nat.le_refl _)⟩⟩
  have HO := Lib.hid hO
  have HB := Lib.hid hb2
  clear hown hb1 h h1 hh hrd e1 hh2 hb2 hO hl64
  go_wp2
  go_ret
  exact ⟨_, rfl, HO.out, HB.out⟩

set_option maxRecDepth 100000 in
set_option maxHeartbeats 1000000 in
theorem read_ok (p g : Nat) (d : Dk) (n : Nat) (w : World) (h : DkAt w p g d) (hn : n < d.ss.length) :
    Calls Tryd.prog 8 #[.pointer (some ⟨p, 0, none⟩), .int .i64 n] w fun e w' => ∃ A, e = .returned (.tuple #[.slice A 64 64, .int .i64 0]) ∧ Own w' w.heap.size 5 A 64 64 (cu8 d.ss[n]) ∧ Below w.heap.size w w' := by
  have c0 := h.c0
  go_enter Tryd.func8, Tryd.ntmps8
  go_wp2_with fail
  refine (refuses_ok p g d n w h hn).mono ?_
  rintro e w1 ⟨rfl, rfl⟩
  go_wp2_with fail
  refine (told_any p g d n w h hn).mono ?_
  rintro e w1 ⟨A, rfl, ho, hb⟩
  clear h c0
  go_wp2
  go_ret2
  exact ⟨A, rfl, ho, hb⟩

theorem read_arg (p g : Nat) (d : Dk) (n : Int) (w : World) (h : DkAt w p g d) (hn : n < 0 ∨ (d.ss.length : Int) ≤ n) :
    Calls Tryd.prog 8 #[.pointer (some ⟨p, 0, none⟩), .int .i64 n] w fun e w' => e = .returned (.tuple #[.slice none 0 0, .int .i64 1]) ∧ w = w' := by
  go_enter Tryd.func8, Tryd.ntmps8
  go_wp2_with fail
  refine (refuses_arg p g d n w h hn).mono ?_
  rintro e w1 ⟨rfl, rfl⟩
  clear h
  go_wp2
  go_ret2
  exact ⟨rfl, rfl⟩
end Go.Proofs.YthgbenncheoemaaDoor
