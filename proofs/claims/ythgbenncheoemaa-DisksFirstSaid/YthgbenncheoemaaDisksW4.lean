/-
  Walks of the statements' all and SameByteLists.
-/
import Derived.Test.YthgbenncheoemaaDisksC
import Derived.Test.YthgbenncheoemaaSame
import Derived.Test.YthgbenncheoemaaReg
import Derived.Lib.SlBuf
namespace Go.Proofs.Ythgbenncheoemaa
open Go.RowKit
set_option linter.unusedVariables false

/-- A list of lists of bytes. -/
def RdL (w : World) (A : Option Addr) (ss : List (List UInt8)) : Prop :=
  ∃ vs : List Value, Rd w A ss.length vs ∧ ∀ (j : Nat) (s : List UInt8), ss[j]? = some s → ∃ Aj c, vs[j]? = some (Value.slice Aj s.length c) ∧ Rd w Aj s.length (cu8 s)
theorem RdL.below {w w' : World} {A : Option Addr} {ss : List (List UInt8)} (h : RdL w A ss) (hb : Below w.heap.size w w') : RdL w' A ss := by
  obtain ⟨vs, hr, hs⟩ := h
  exact ⟨vs, hr.below hb, fun j s hj => by obtain ⟨Aj, c, h1, h2⟩ := hs j s hj; exact ⟨Aj, c, h1, h2.below hb⟩⟩
theorem RdL.drewN {w : World} {A : Option Addr} {ss : List (List UInt8)} (h : RdL w A ss) (k : Nat) : RdL (w.drewN k) A ss := h

theorem info_bytes : (Try.prog.info? 22).map (fun i => (i.zero, i.size, i.bytes)) = some (some (.slice none 0 0), 1, 24) := by kernel_rfl

/-- Lists that a call has made: each in memory from B on. -/
def OwnL (w : World) (B : Nat) (ss : List (List UInt8)) (vs : List Value) : Prop :=
  vs.length = ss.length ∧ ∀ (j : Nat) (s : List UInt8), ss[j]? = some s → ∃ Aj, vs[j]? = some (Value.slice Aj s.length s.length) ∧ Own w B 5 Aj s.length s.length (cu8 s)

section
variable {w w' : World} {B : Nat} {e : TypeId} {A : Option Addr} {n c : Nat} {xs : List Value}
theorem Own.keepH (h : Own w B e A n c xs) (hk : ∀ (g : Nat) (cur : Array Value), A = some ⟨g, 0, none⟩ → w.heap[g]? = some (.cells cur e (0, 0)) → w'.heap[g]? = w.heap[g]?) : Own w' B e A n c xs := by
  refine ⟨h.1, ?_⟩
  rcases h.2 with h0 | ⟨g, cur, hA, hg, hh, r⟩
  · exact .inl h0
  · exact .inr ⟨g, cur, hA, hg, by rw [hk g cur hA hh]; exact hh, r⟩
/-- Rows of other elements lie elsewhere. -/
theorem Own.apart (h : Own w B e A n c xs) {g : Nat} {cur : Array Value} {e' : TypeId} (hg : w.heap[g]? = some (.cells cur e' (0, 0))) (hne : e ≠ e') : (n = 0 ∧ c = 0) ∨ A ≠ some ⟨g, 0, none⟩ := by
  rcases h.2 with h0 | ⟨g', cur', hA, _, hh, _⟩
  · exact .inl h0
  · refine .inr fun he => ?_
    rw [hA] at he
    cases he
    rw [hh] at hg
    injection hg with hg
    injection hg with _ h2
    exact hne h2
end
theorem OwnL.keep {w w' : World} {B : Nat} {ss : List (List UInt8)} {vs : List Value} (h : OwnL w B ss vs) (hk : ∀ (g : Nat) (cur : Array Value), w.heap[g]? = some (Obj.cells cur 5 (0, 0)) → w'.heap[g]? = w.heap[g]?) : OwnL w' B ss vs :=
  ⟨h.1, fun j s hj => by obtain ⟨Aj, h1, h2⟩ := h.2 j s hj; exact ⟨Aj, h1, h2.keepH fun g cur _ hh => hk g cur hh⟩⟩
theorem OwnL.snoc {w : World} {B : Nat} {ss : List (List UInt8)} {vs : List Value} (h : OwnL w B ss vs) {s : List UInt8} {Aj : Option Addr} (ho : Own w B 5 Aj s.length s.length (cu8 s)) : OwnL w B (ss ++ [s]) (vs ++ [.slice Aj s.length s.length]) := by
  refine ⟨by simp [h.1], fun j t hj => ?_⟩
  rcases Nat.lt_or_ge j ss.length with hlt | hge
  · rw [List.getElem?_append_left hlt] at hj
    rw [List.getElem?_append_left (by rw [h.1]; exact hlt)]
    exact h.2 j t hj
  · rw [List.getElem?_append_right hge] at hj
    have h0 : j - ss.length = 0 := by have := (List.getElem?_eq_some_iff.1 hj).1; simp at this; omega
    rw [h0] at hj
    obtain rfl : s = t := by simpa using hj
    exact ⟨Aj, by rw [List.getElem?_append_right (by rw [h.1]; exact hge), h.1, h0]; rfl, ho⟩

theorem Own.tch {w w' : World} {B p g : Nat} {e : TypeId} {A : Option Addr} {n c : Nat} {xs : List Value} (h : Own w B e A n c xs) (k : Tch p g w w') (hp : p < B) (hg : g < B) : Own w' B e A n c xs :=
  h.keep fun g' _ _ hB hlt => k.1.2 g' hlt (by rintro (rfl | rfl) <;> omega)
/-- A list of lists of bytes that a call has made, all of it in memory from B on. -/
def OwL (w : World) (B : Nat) (A : Option Addr) (ss : List (List UInt8)) : Prop := ∃ c vs, Own w B 22 A ss.length c vs ∧ OwnL w B ss vs
theorem OwL.rdl {w : World} {B : Nat} {A : Option Addr} {ss : List (List UInt8)} (h : OwL w B A ss) : RdL w A ss := by
  obtain ⟨c, vs, h1, h2⟩ := h
  exact ⟨vs, h1.rd, fun j s hj => by obtain ⟨Aj, a1, a2⟩ := h2.2 j s hj; exact ⟨Aj, _, a1, a2.rd⟩⟩
theorem OwL.below {w w' : World} {B : Nat} {A : Option Addr} {ss : List (List UInt8)} (h : OwL w B A ss) (hb : Below w.heap.size w w') : OwL w' B A ss := by
  obtain ⟨c, vs, h1, h2⟩ := h
  exact ⟨c, vs, h1.below hb, h2.1, fun j s hj => by obtain ⟨Aj, a1, a2⟩ := h2.2 j s hj; exact ⟨Aj, a1, a2.below hb⟩⟩
theorem OwL.tch {w w' : World} {B p g : Nat} {A : Option Addr} {ss : List (List UInt8)} (h : OwL w B A ss) (k : Tch p g w w') (hp : p < B) (hg : g < B) : OwL w' B A ss := by
  obtain ⟨c, vs, h1, h2⟩ := h
  exact ⟨c, vs, h1.tch k hp hg, h2.1, fun j s hj => by obtain ⟨Aj, a1, a2⟩ := h2.2 j s hj; exact ⟨Aj, a1, a2.tch k hp hg⟩⟩

set_option maxRecDepth 100000 in
set_option maxHeartbeats 1000000 in
theorem all_own (p g : Nat) (d : Dk) (w : World) (h : DkAt w p g d) : Calls Try.prog 17 #[.pointer (some ⟨p, 0, none⟩)] w fun e w' =>
    ∃ A' c', e = .returned (.slice A' d.ss.length c') ∧ OwL w' w.heap.size A' d.ss ∧ Below w.heap.size w w' := by
  obtain ⟨i0, hi0, hz0, hz1, hz2⟩ := info_parts info_bytes
  have ktop := h.top
  go_enter Try.func17, Try.ntmps17
  go_wp2_with fail
  go_loopw [3, 4] (fun v i wr => ∃ (j : Nat) (A' : Option Addr) (c' : Nat) (vs : List Value), j ≤ d.ss.length ∧ i = .int .i64 j ∧ v = .slice A' j c' ∧ Own wr w.heap.size 22 A' j c' vs ∧ OwnL wr w.heap.size (d.ss.take j) vs ∧ Below w.heap.size w wr) (fun _ i _ => d.ss.length - (intOf i).toNat)
  case atStart => exact ⟨0, none, 0, [], Nat.zero_le _, rfl, rfl, Own.none_ _ _ _ _, ⟨rfl, fun j s hj => by simp at hj⟩, Below.refl _ _⟩
  case round =>
    obtain ⟨j, A', c', vs, hj, rfl, rfl, hown, hL, hbel⟩ := hrel
    have hd := h.below hbel
    by_cases hlt : j < d.ss.length
    · go_wp2_with fail
      refine (len_ok p g d wr hd).mono ?_
      rintro e w1 ⟨rfl, rfl⟩
      go_wp2_with fail
      refine (read_ok p g d j wr hd hlt).mono ?_
      rintro e w1 ⟨A1, rfl, ho1, hb1⟩
      have hown1 := hown.below hb1
      have hL1 := hL.keep (fun g cur hh => hb1.block g (Array.getElem?_eq_some_iff.1 hh).1)
      have hB1 := hbel.trans (hb1.mono hbel.size)
      have sz := hb1.size
      have sz0 := hbel.size
      have l64 := hd.len d.ss[j] (List.getElem_mem hlt)
      have hT := Lib.hid (List.take_succ_eq_append_getElem hlt)
      clear hown hL hb1 hbel hd
      go_wp2_with (at_builtin; go_must (refine wpList_app1 w1 rfl _ _ 45 rfl 22 i0 _ 24 Try.underlying45 hi0 hz0 hz1 hz2 rfl w.heap.size A' j c' _ rfl hown1 1 rfl rfl ?c3 ?c4 ?c5 ?_))
      case c3 => simp only [maxLen]; omega
      case c4 => omega
      case c5 => omega
      intro A2 c2 w2 hown2 hbel2 hfr2 hat2
      have hO2 : OwnL w2 w.heap.size (d.ss.take (j + 1)) (vs ++ [.slice A1 64 64]) := by
        rw [hT.out]
        have hx := hL1.snoc (s := d.ss[j]) (Aj := A1) (by rw [l64]; exact ho1.mono (by omega))
        rw [l64] at hx
        exact hx.keep fun g cur hh => hfr2 g (Array.getElem?_eq_some_iff.1 hh).1 (hown1.apart hh (by decide))
      have hB2 := hB1.trans hbel2
      clear hfr2 hat2 hL1 hown1 ho1 hbel2 hB1
      go_wp2
      go_roundw
      case rel => exact ⟨j + 1, A2, c2, _, by omega, by go_num, rfl, hown2, hO2, hB2⟩
      case measure => simp [intOf]; omega
    · obtain rfl : j = d.ss.length := by omega
      go_wp2_with fail
      refine (len_ok p g d wr hd).mono ?_
      rintro e w1 ⟨rfl, rfl⟩
      clear hd
      rw [List.take_of_length_le (Nat.le_refl _)] at hL
      have HL := Lib.hid hL
      have HO := Lib.hid hown
      clear hL hown
      go_wp2
      go_ret
      exact ⟨A', c', rfl, ⟨c', vs, HO.out, HL.out⟩, hbel⟩

set_option maxRecDepth 100000 in
set_option maxHeartbeats 1000000 in
theorem samelists_eq (A : Option Addr) (c : Nat) (A2 : Option Addr) (c2 : Nat) (ss : List (List UInt8)) (w : World) (h : RdL w A ss) (h2 : RdL w A2 ss) (hn : ss.length ≤ 100000) (hm : ∀ s ∈ ss, s.length ≤ 1000000) :
    Calls Try.prog 16 #[.slice A ss.length c, .slice A2 ss.length c2] w fun e w' => e = .returned (.bool true) ∧ ∃ q, w' = w.drewN q := by
  obtain ⟨vs, hr, hs⟩ := h
  obtain ⟨vs2, hr2, hs2⟩ := h2
  generalize hN : ss.length = N at hr hr2 hn ⊢
  have HN := Lib.hid hN
  clear hN
  go_enter Try.func16, Try.ntmps16
  go_wp2_with fail
  go_loopw [5] (fun i wr => ∃ j : Nat, j ≤ N ∧ i = .int .i64 j ∧ ∃ q, wr = w.drewN q) (fun i _ => N - (intOf i).toNat)
  case atStart => exact ⟨0, Nat.zero_le _, rfl, 0, rfl⟩
  case round =>
    obtain ⟨j, hj, rfl, q, rfl⟩ := hrel
    by_cases hlt : j < N
    · have hjl : j < ss.length := by rw [HN.out]; exact hlt
      obtain ⟨b0, o0, rfl, hb0, u0, hu0, hcell⟩ := hr.get hlt
      obtain ⟨b1, o1, rfl, hb1, u1, hu1, hcell1⟩ := hr2.get hlt
      obtain ⟨Aj, cj, e1, r1⟩ := hs j ss[j] (List.getElem?_eq_getElem hjl)
      obtain ⟨Aj2, cj2, e2, r2⟩ := hs2 j ss[j] (List.getElem?_eq_getElem hjl)
      rw [e1] at hu0
      rw [e2] at hu1
      obtain rfl : Value.slice Aj ss[j].length cj = u0 := by injection hu0
      obtain rfl : Value.slice Aj2 ss[j].length cj2 = u1 := by injection hu1
      have hml := hm ss[j] (List.getElem_mem hjl)
      generalize hS : ss[j] = s at r1 r2 hml hcell hcell1
      clear hu0 hu1 e1 e2 hS
      go_wp2_with fail
      refine wp_region_ord (S := fun w' => w'.cell? ⟨b0, o0 + j, none⟩ = some (.slice Aj s.length cj) ∧ w'.cell? ⟨b1, o1 + j, none⟩ = some (.slice Aj2 s.length cj2)) [(0, true), (1, true), (2, true), (3, true), (4, true), (5, true), (6, true), (7, true), (8, false), (9, true)] default (by kernel_rfl) (by kernel_rfl) (by kernel_rfl) ⟨hcell, hcell1⟩ ?_
      simp only [getOrd, nth]
      repeat (first | (refine ordS (by rfl) ?_; simp only [Act.put, List.setIfInBounds_toArray, List.set_cons_zero, List.set_cons_succ]) | (refine ordN (by rfl) ?_; simp only [Act.put, List.setIfInBounds_toArray, List.set_cons_zero, List.set_cons_succ]) | (refine ordQ (v := ?_) (by rfl) (fun _ hSw => ?_) ?_; rotate_left; (focus (have hS1 := hSw.1; have hS2 := hSw.2; go_simp; (first | done | with_reducible rfl))); simp only [Act.put, List.setIfInBounds_toArray, List.set_cons_zero, List.set_cons_succ]))
      refine ordD (by rfl) ?_
      intro K hK
      go_simp
      refine (samebytes_eq Aj s.length cj s Aj2 cj2 _ (r1.drewN q).drew (r2.drewN q).drew (by simp only [maxLen]; omega)).mono ?_
      rintro e w4 ⟨rfl, q2, rfl⟩
      go_wp2_with fail
      refine hK _ _ ⟨hcell, hcell1⟩ ?_
      clear hK K
      try simp only [Act.put, List.setIfInBounds_toArray, List.set_cons_zero, List.set_cons_succ]
      repeat (first | (refine ordS (by rfl) ?_; simp only [Act.put, List.setIfInBounds_toArray, List.set_cons_zero, List.set_cons_succ]) | (refine ordN (by rfl) ?_; simp only [Act.put, List.setIfInBounds_toArray, List.set_cons_zero, List.set_cons_succ]) | (refine ordQ (v := ?_) (by rfl) (fun _ hSw => ?_) ?_; rotate_left; (focus (have hS1 := hSw.1; have hS2 := hSw.2; go_simp; (first | done | with_reducible rfl))); simp only [Act.put, List.setIfInBounds_toArray, List.set_cons_zero, List.set_cons_succ]))
      refine ordE ?_
      go_wp2
      go_roundw
      case rel => exact ⟨j + 1, by omega, by go_num, _, rfl⟩
      case measure => simp [intOf]; omega
    · obtain rfl : j = N := by omega
      go_wp2
      go_ret
      exact ⟨rfl, _, rfl⟩
end Go.Proofs.Ythgbenncheoemaa
