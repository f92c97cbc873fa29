/-
  Proved: One bidder more, one item less, and what one loses by.
-/
import Derived.Test.YtiaoplghaigclaaRows
import Derived.Test.YtiaoplghaigclaaLift
import Derived.Test.YtiaoplghaigclaaAlive10
import Derived.Test.YtiaoplghaigclaaZeros
import Derived.Test.YtiaoplghaigclaaReg2
import Derived.Test.YtiaoplghaigclaaReg
namespace Go.Proofs.Ytiaoplghaigclaa.weightsMore
open Go.ChangeShapes Go.WideShapes Go.ChangeAt Go.RowKit
set_option linter.unusedVariables false

theorem info6_int : (Try.prog.info? 3).map (fun i => (i.zero, i.size, i.bytes)) = some (some (.int .i64 0), 1, 8) := by kernel_rfl
theorem infoI_ints : (Try.prog.info? 28).map (fun i => (i.zero, i.size, i.bytes)) = some (some (.slice none 0 0), 1, 24) := by kernel_rfl
theorem ok_tail {w : World} {u : Ls} (h : u.Ok w) {i : Nat} (hi : i ≤ u.n) : Ls.Ok w ⟨if u.c = i then u.A else u.A.map (fun x => x.add i), u.n - i, u.c - i, u.zs.drop i⟩ := by
  have hl := h.rd.len
  rw [ci64_len] at hl
  have hc := h.cap
  have ht := h.top
  refine ⟨?_, ?_, ?_, fun z hz => h.fit z (List.mem_of_mem_drop hz)⟩
  · show Rd w _ _ (ci64 (u.zs.drop i))
    have h2 := h.rd.cut (lo := i) (hi := u.n) (cap := u.c) hi (Nat.le_refl _) hc
    rw [show ((ci64 u.zs).drop i).take (u.n - i) = ci64 (u.zs.drop i) by
      rw [List.take_of_length_le (by rw [List.length_drop, ci64_len]; omega)]; exact (List.map_drop ..).symm] at h2
    exact h2
  · show u.n - i ≤ u.c - i
    omega
  · show u.c - i ≤ maxLen
    omega
/-- A store into a list of the call's own. -/
theorem OwnI.put {w : World} {B g n c k : Nat} {zs : List Int} {z : Int} (h : OwnI w B ⟨some ⟨g, 0, none⟩, n, c, zs⟩) (hc : 0 < c) (hz : -9223372036854775808 ≤ z ∧ z ≤ 9223372036854775807) : OwnI (w.setCell ⟨g, k, none⟩ (.int .i64 z)) B ⟨some ⟨g, 0, none⟩, n, c, zs.set k z⟩ := by
  refine ⟨?_, fun y hy => ?_⟩
  · have h1 := h.own.set hc k (.int .i64 z)
    have h2 : ci64 (zs.set k z) = (ci64 zs).set k (.int .i64 z) := by simp [ci64, iV]
    show Own _ B _ _ n c (ci64 (zs.set k z))
    rw [h2]; exact h1
  · rcases List.mem_or_eq_of_mem_set hy with h1 | h1
    · exact h.fit y h1
    · rw [h1]; exact hz
/-- Two lists lie in two blocks. -/
def Two (A : Option Addr) (c : Nat) (A2 : Option Addr) (c2 : Nat) : Prop := ∀ g, ¬ ((0 < c ∧ A = some ⟨g, 0, none⟩) ∧ 0 < c2 ∧ A2 = some ⟨g, 0, none⟩)
theorem Two.symm {A A2 : Option Addr} {c c2 : Nat} (h : Two A c A2 c2) : Two A2 c2 A c := fun g hg => h g ⟨hg.2, hg.1⟩
theorem Own.beside {w w' : World} {B B' : Nat} {e e' : TypeId} {A A2 : Option Addr} {n c n2 c2 : Nat} {xs ys : List Value} (h : Own w B e A n c xs) (ho : Own w B' e' A2 n2 c2 ys) (hs : Two A c A2 c2) (hf : ∀ k, k < w.heap.size → ((n2 = 0 ∧ c2 = 0) ∨ A2 ≠ some ⟨k, 0, none⟩) → w'.heap[k]? = w.heap[k]?) : Own w' B e A n c xs := by
  by_cases hc : 0 < c
  · obtain ⟨h1, h2⟩ := h
    rcases h2 with h0 | ⟨g, cur, hA, hg, hh, r⟩
    · exact ⟨h1, .inl h0⟩
    · refine ⟨h1, .inr ⟨g, cur, hA, hg, ?_, r⟩⟩
      rw [hf g (Array.getElem?_eq_some_iff.1 hh).1 ?_]
      · exact hh
      · by_cases hc2 : 0 < c2
        · exact .inr fun e => hs g ⟨⟨hc, hA⟩, hc2, e⟩
        · have := ho.le
          exact .inl (by omega)
  · have := h.le
    exact ⟨h.1, .inl (by omega)⟩
theorem Two.grow {w : World} {B S : Nat} {e : TypeId} {A A2 A3 : Option Addr} {n c c2 c3 : Nat} {xs : List Value} (h : Own w B e A n c xs) (hs : Two A c A2 c2) (hat : (A3 = A2 ∧ c3 = c2) ∨ A3 = some ⟨S, 0, none⟩) (hS : w.heap.size ≤ S) : Two A c A3 c3 := fun g hg => by
  obtain ⟨⟨h1, h2⟩, h3, h4⟩ := hg
  rcases hat with ⟨e1, e2⟩ | e1
  · exact hs g ⟨⟨h1, h2⟩, by rw [← e2]; exact h3, by rw [← e1]; exact h4⟩
  · obtain ⟨g', hA, _, hl⟩ := h.lt h1
    rw [h2] at hA
    cases hA
    rw [h4] at e1
    cases e1
    omega
theorem gr_rd {w : World} {x : Gr} (h : x.Ok w) : Rd w x.A x.n (x.t.map Ls.v) := by
  refine ⟨by rw [List.length_map]; exact h.len, fun hn => ?_⟩
  obtain ⟨b, o, hA, hc⟩ := h.lss.at_.2 hn
  refine ⟨b, o, hA, fun j hj => ?_⟩
  have hjl : j < x.t.length := by rw [h.len]; exact hj
  have h2 := hc j [x.t[j].v] (by rw [List.getElem?_map, List.getElem?_eq_getElem hjl]; rfl) 0 (by omega)
  rw [Nat.mul_one, Nat.add_zero] at h2
  rw [h2, List.getElem?_map, List.getElem?_eq_getElem hjl]; rfl
/-- One item less. -/
def lessR (l : List Int) (k : Nat) : List Int := l.take k ++ l.drop (k + 1)
def lessL (g : List (List Int)) (k j : Nat) : List (List Int) := (g.take j).map fun l => lessR l k
theorem lessL_succ {g : List (List Int)} {k j : Nat} {l : List Int} (h : g[j]? = some l) : lessL g k (j + 1) = lessL g k j ++ [lessR l k] := by
  obtain ⟨hj, rfl⟩ := List.getElem?_eq_some_iff.1 h
  rw [lessL, List.take_succ_eq_append_getElem hj, List.map_append]; rfl
def lowZ (z : Int) : Int := if z < 0 then -1000000 else z
def lowTo (l : List Int) (j : Nat) : List Int := (l.take j).map lowZ ++ l.drop j
theorem lowTo_zero (l : List Int) : lowTo l 0 = l := rfl
theorem lowTo_all {l : List Int} {j : Nat} (h : l.length ≤ j) : lowTo l j = l.map lowZ := by rw [lowTo, List.take_of_length_le h, List.drop_eq_nil_of_le h, List.append_nil]
theorem lowTo_get {l : List Int} {k : Nat} (h : k < l.length) : (lowTo l k)[k]? = some l[k] := by
  rw [lowTo, List.getElem?_append_right (by simp; omega)]
  simp [Nat.min_eq_left (Nat.le_of_lt h), List.getElem?_eq_getElem h]
theorem lowTo_set {l : List Int} {k : Nat} (h : k < l.length) : (lowTo l k).set k (lowZ l[k]) = lowTo l (k + 1) := by
  have hl : ((l.take k).map lowZ).length = k := by simp; omega
  rw [lowTo, List.set_append_right _ _ (by omega), hl, Nat.sub_self, List.drop_eq_getElem_cons h, List.set_cons_zero, lowTo, List.take_succ_eq_append_getElem h, List.map_append, List.append_assoc]; rfl
theorem lowTo_keep {l : List Int} {k : Nat} (h : k < l.length) (hz : ¬ l[k] < 0) : lowTo l (k + 1) = lowTo l k := by
  have h2 := lowTo_set h
  rw [show lowZ l[k] = l[k] by rw [lowZ, if_neg hz]] at h2
  rw [← h2]
  refine List.ext_getElem? fun i => ?_
  rw [List.getElem?_set]
  by_cases e : k = i
  · subst e
    have := lowTo_get h
    rw [if_pos rfl]
    have hlt : k < (lowTo l k).length := (List.getElem?_eq_some_iff.1 this).1
    rw [if_pos hlt, this]
  · rw [if_neg e]
theorem lowTo_len (l : List Int) (k : Nat) : (lowTo l k).length = l.length := by simp [lowTo]; omega
def lowL (g : List (List Int)) (j : Nat) : List (List Int) := (g.take j).map fun l => l.map lowZ
theorem lowL_succ {g : List (List Int)} {j : Nat} {l : List Int} (h : g[j]? = some l) : lowL g (j + 1) = lowL g j ++ [l.map lowZ] := by
  obtain ⟨hj, rfl⟩ := List.getElem?_eq_some_iff.1 h
  rw [lowL, List.take_succ_eq_append_getElem hj, List.map_append]; rfl
theorem topZ_bound {zs : List Int} (h : ∀ z ∈ zs, -1000000 ≤ z ∧ z ≤ 1000000) (k : Nat) : topN (fun j => zs.getD j 0) k ≤ 1000000 := top_le (by omega) fun j _ => by
  rw [List.getD_eq_getElem?_getD]
  by_cases hj : j < zs.length
  · rw [List.getElem?_eq_getElem hj]; exact (h _ (List.getElem_mem hj)).2
  · rw [List.getElem?_eq_none (by omega)]; decide
/-- With one bidder more. -/
theorem more_all {g : List (List Int)} {zs : List Int} {m : Nat} (h : mayW g m = true) :
    wErr (g ++ [zs]) m = 1 ∨ (wErr (g ++ [zs]) m = 0 ∧ bestE g m ≤ bestE (g ++ [zs]) m ∧ bestE (g ++ [zs]) m ≤ bestE g m + topN (fun j => zs.getD j 0) zs.length ∧ topN (fun j => zs.getD j 0) zs.length ≤ 1000000) := by
  by_cases h2 : mayW (g ++ [zs]) m = true
  · right
    have h3 := (mayW_iff.1 h2).2.2.2 zs (List.mem_append_right _ (List.mem_singleton.2 rfl))
    have hl : zs.length = m := by omega
    have e0 : bestE g m = bestV (gG (g ++ [zs])) m g.length := bestE_of h fun b c hb _ => by
      rw [gG, gG, List.getD_eq_getElem?_getD (l := g), List.getD_eq_getElem?_getD (l := g ++ [zs]), List.getElem?_append_left hb]
    have e1 : bestE (g ++ [zs]) m = bestV (gG (g ++ [zs])) m (g.length + 1) := by
      rw [bestE_of h2 fun b c _ _ => rfl, List.length_append, List.length_singleton]
    have e2 : topN (gG (g ++ [zs]) g.length) m = topN (fun j => zs.getD j 0) zs.length := by
      rw [hl]
      exact top_congr fun c _ => gG_at (by rw [List.getElem?_append_right (Nat.le_refl _), Nat.sub_self]; rfl)
    have hm := best_more (G := gG (g ++ [zs])) (m := m) (n := g.length)
    rw [e2] at hm
    rw [e0, e1]
    exact ⟨(we_ok h2).2.1, hm.1, hm.2, topZ_bound h3.2 _⟩
  · left
    exact (we_bad (by simpa using h2)).2.1
theorem lessR_len {l : List Int} {k m : Nat} (hl : l.length = m) (hk : k < m) : (lessR l k).length = m - 1 := by
  rw [lessR, List.length_append, List.length_take, List.length_drop]; omega
theorem less_all {g : List (List Int)} {m k : Nat} (h : mayW g m = true) (hk : k < m) (h2 : 2 ≤ m) :
    wErr (lessL g k g.length) ((m : Int) - 1) = 0 ∧ bestE (lessL g k g.length) ((m : Int) - 1) ≤ bestE g m := by
  obtain ⟨q1, q2, q3, q4⟩ := mayW_iff.1 h
  rw [show ((m : Int) - 1) = ((m - 1 : Nat) : Int) by omega]
  have hlen : (lessL g k g.length).length = g.length := by simp [lessL]
  have hm : mayW (lessL g k g.length) ((m - 1 : Nat) : Int) = true := mayW_iff.2 ⟨by omega, by omega, by rw [hlen]; exact q3, fun l hl => by
    rw [lessL, List.take_length] at hl
    obtain ⟨r, hr, rfl⟩ := List.mem_map.1 hl
    obtain ⟨h5, h6⟩ := q4 r hr
    refine ⟨by rw [lessR_len (m := m) (by omega) hk], fun z hz => ?_⟩
    rcases List.mem_append.1 hz with hz | hz
    · exact h6 z (List.mem_of_mem_take hz)
    · exact h6 z (List.mem_of_mem_drop hz)⟩
  refine ⟨(we_ok hm).2.1, ?_⟩
  rw [bestE_of (G := fun b c => gG g b (skipN k c)) hm fun b c hb hc => ?_, hlen, (we_ok h).1]
  · exact best_skip hk
  · rw [hlen] at hb
    rw [gG_at (l := lessR g[b] k) (by rw [lessL, List.take_length, List.getElem?_map, List.getElem?_eq_getElem hb]; rfl), lessR, erase_getD (by have := (may_row h hb).1; omega)]
    exact (gG_at (List.getElem?_eq_getElem hb)).symm
theorem less_one {g : List (List Int)} {k : Nat} : wErr (lessL g k g.length) ((1 : Nat) - 1 : Int) = 1 := by
  refine (we_bad ?_).2.1
  rw [Bool.eq_false_iff]
  intro h
  have := (mayW_iff.1 h).1
  omega
theorem low_all {g : List (List Int)} {m : Nat} (h : mayW g m = true) : wErr (lowL g g.length) m = 0 ∧ bestE (lowL g g.length) m = bestE g m := by
  obtain ⟨q1, q2, q3, q4⟩ := mayW_iff.1 h
  have hlen : (lowL g g.length).length = g.length := by simp [lowL]
  have hm : mayW (lowL g g.length) m = true := mayW_iff.2 ⟨q1, q2, by rw [hlen]; exact q3, fun l hl => by
    rw [lowL, List.take_length] at hl
    obtain ⟨r, hr, rfl⟩ := List.mem_map.1 hl
    obtain ⟨h5, h6⟩ := q4 r hr
    refine ⟨by rw [List.length_map]; exact h5, fun z hz => ?_⟩
    obtain ⟨y, hy, rfl⟩ := List.mem_map.1 hz
    have := h6 y hy
    unfold lowZ
    split <;> omega⟩
  refine ⟨(we_ok hm).2.1, ?_⟩
  rw [(we_ok hm).1, hlen, (we_ok h).1]
  have hG : ∀ b c, b < g.length → c < m → gG (lowL g g.length) b c = lowZ (gG g b c) := fun b c hb hc => by
    have hl := (may_row h hb).1
    rw [gG_at (l := g[b].map lowZ) (by rw [lowL, List.take_length, List.getElem?_map, List.getElem?_eq_getElem hb]; rfl), gG_at (List.getElem?_eq_getElem hb), List.getD_eq_getElem?_getD, List.getD_eq_getElem?_getD, List.getElem?_map, List.getElem?_eq_getElem (by omega)]
    rfl
  refine best_congr fun b c hb hc hs => ?_
  rw [hG b c hb hc] at hs ⊢
  unfold lowZ at hs ⊢
  split
  · rename_i h1
    rw [if_pos h1] at hs
    omega
  · rfl

set_option maxRecDepth 100000 in
set_option maxHeartbeats 4000000 in
theorem walk (x : Gr) (m : Int) (A1 : Option Addr) (n1 c1 : Nat) (zs : List Int) (y : Nat) (w : World) (h : x.Ok w) (hm1 : -9223372036854775808 ≤ m) (hm2 : m ≤ 9223372036854775807) (h1 : Ls.Ok w ⟨A1, n1, c1, zs⟩) (hy : y < 256) :
    Calls Try.prog 5 #[.agg #[x.v, .int .i64 m], .slice A1 n1 c1, .int .u8 y] w fun e w' => e = .returned (.bool true) ∧ Below w.heap.size w w' := by
  have hx := h
  have hB := Below.refl w.heap.size w
  have hxv : x.v = .slice x.A x.n x.c := rfl
  have Vx := Lib.hid hxv
  rw [hxv]
  have hgl := h.glen
  have HGL := Lib.hid hgl
  have htop := Nat.le_trans h.cap h.top
  unfold maxLen at htop
  obtain ⟨B, hB0⟩ : ∃ B, mayW x.g m = B := ⟨_, rfl⟩
  clear hxv hgl h
  go_enter Try.func5, Try.ntmps5
  have bg := WBox.new w x m
  have hbx : Below w.heap.size w (w.alloc (.cells #[.slice x.A x.n x.c, .int .i64 m] 24)) := (Below.refl _ w).alloc (Nat.le_refl _) _
  replace hx := hx.below hbx
  replace h1 := h1.below hbx
  replace hB := hB.trans (hbx.mono hB.size)
  clear hbx
  cases B
  · have E1 := Lib.hid (we_bad hB0)
    clear hB0
    have eg0 := bg.c0
    have eg1 := bg.c1
    have hc := pbestC x m (w.alloc (.cells #[.slice x.A x.n x.c, .int .i64 m] 24)) hx (by omega) (by omega)
    rw [Vx.out, E1.out.1, E1.out.2.1] at hc
    go_wp2_with fail
    clear eg0 eg1
    generalize w.alloc (.cells #[.slice x.A x.n x.c, .int .i64 m] 24) = W1 at *
    refine hc.mono ?_
    rintro e v2 ⟨rfl, hb⟩
    clear hc
    replace hx := hx.below hb
    replace h1 := h1.below hb
    replace bg := bg.below hb
    replace hB := hB.trans (hb.mono hB.size)
    clear hb
    have eg0 := bg.c0
    have eg1 := bg.c1
    have hc := alive10_any v2
    go_wp2_with fail
    clear eg0 eg1
    refine hc.mono ?_
    rintro e v3 ⟨rfl, hb⟩
    clear hc
    replace hx := hx.below hb
    replace h1 := h1.below hb
    replace bg := bg.below hb
    replace hB := hB.trans (hb.mono hB.size)
    clear hb
    have eg0 := bg.c0
    have eg1 := bg.c1
    go_wp2
    go_ret
    exact ⟨rfl, hB⟩
  · obtain ⟨M, rfl⟩ : ∃ M : Nat, m = M := ⟨m.toNat, by have := (mayW_iff.1 hB0).1; omega⟩
    have HB0 := Lib.hid hB0
    obtain ⟨hM1, hM8, hx8⟩ := may_m hB0
    rw [HGL.out] at hx8
    have EE := Lib.hid (we_ok hB0).2.1
    obtain ⟨a0, ha0⟩ : ∃ a, bestE x.g M = a := ⟨_, rfl⟩
    obtain ⟨ul, hul⟩ : ∃ a, bidE x.g M = a := ⟨_, rfl⟩
    obtain ⟨pl, hpl⟩ : ∃ a, ofE x.g M = a := ⟨_, rfl⟩
    have EB := Lib.hid ha0
    have EU := Lib.hid hul
    have EP := Lib.hid hpl
    have ULN : Hid (ul.length = x.n) := Lib.hid (by rw [← hul, bidE_len hB0, HGL.out])
    have PLN : Hid (pl.length = M) := Lib.hid (by rw [← hpl, ofE_len hB0])
    have UGET : Hid (∀ i, i < x.n → ul[i]? = some (bidP (gG x.g) M x.n i)) := Lib.hid (fun i hi => by rw [← hul, bidE_get hB0 (by rw [HGL.out]; exact hi), HGL.out])
    have PGET : Hid (∀ k, k < M → pl[k]? = some (numP (gG x.g) M x.n k)) := Lib.hid (fun k hk => by rw [← hpl, ofE_get hB0 hk, HGL.out])
    have BV : Hid (a0 = bestV (gG x.g) M x.n) := Lib.hid (by rw [← ha0, (we_ok hB0).1, HGL.out])
    have hab : 0 ≤ a0 ∧ a0 ≤ 8000000 := by rw [← ha0, (we_ok hB0).1]; exact best_bound hB0
    have HRW : Hid (∀ u ∈ x.t, u.n = M) := Lib.hid (fun u hu => by
      have h1 := (mayW_iff.1 hB0).2.2.2 u.zs (by rw [Gr.g, Ls.all]; exact List.mem_map_of_mem hu)
      have h2 := (hx.lss.ok u hu).len
      omega)
    clear hB0 ha0 hul hpl hm1 hm2
    have eg0 := bg.c0
    have eg1 := bg.c1
    have hc := pbestC x M (w.alloc (.cells #[.slice x.A x.n x.c, .int .i64 (M : Int)] 24)) hx (by omega) (by omega)
    rw [Vx.out, EB.out, EE.out] at hc
    go_wp2_with fail
    clear eg0 eg1
    generalize w.alloc (.cells #[.slice x.A x.n x.c, .int .i64 (M : Int)] 24) = W1 at *
    refine hc.mono ?_
    rintro e v2 ⟨rfl, hb⟩
    clear hc
    replace hx := hx.below hb
    replace h1 := h1.below hb
    replace bg := bg.below hb
    replace hB := hB.trans (hb.mono hB.size)
    clear hb
    have eg0 := bg.c0
    have eg1 := bg.c1
    have hc := wmay_any x M v2 hx (by omega) (by omega)
    rw [HB0.out] at hc
    go_wp2_with fail
    clear eg0 eg1
    refine hc.mono ?_
    rintro e v3 ⟨rfl, hb⟩
    clear hc
    replace hx := hx.below hb
    replace h1 := h1.below hb
    replace bg := bg.below hb
    replace hB := hB.trans (hb.mono hB.size)
    clear hb
    obtain ⟨k, hk⟩ : ∃ k : Nat, y % M = k := ⟨_, rfl⟩
    have hkM : k < M := by rw [← hk]; exact Nat.mod_lt _ (by omega)
    have gM : ((M : Int) == 0) = false := by rw [beq_eq_false_iff_ne]; omega
    have gM2 : (M == 0) = false := by rw [beq_eq_false_iff_ne]; omega
    have t1 : ((y : Int)).tmod (M : Int) = (k : Int) := by rw [Int.tmod_eq_emod_of_nonneg (by omega), ← hk]; simp
    have s1 : IntKind.i64.wrap (y : Int) = (y : Int) := by rw [IntKind.wrap_i64]; omega
    have s2 : IntKind.i64.wrap (k : Int) = (k : Int) := by rw [IntKind.wrap_i64]; omega
    clear hk
    have hzl : zs.length = n1 := h1.len
    have hn1c : n1 ≤ c1 := h1.cap
    have hc1t : c1 ≤ 9223372036854775807 := h1.top
    obtain ⟨fv, hfv⟩ : ∃ q, wErr (x.g ++ [zs]) M = q := ⟨_, rfl⟩
    obtain ⟨av, hav⟩ : ∃ q, bestE (x.g ++ [zs]) M = q := ⟨_, rfl⟩
    obtain ⟨tv, htv⟩ : ∃ q, topN (fun j => zs.getD j 0) n1 = q := ⟨_, rfl⟩
    have hma := more_all (zs := zs) HB0.out
    rw [hfv, hav, EB.out, hzl, htv] at hma
    obtain ⟨bv, hbv⟩ : ∃ q, bestE (lessL x.g k x.g.length) ((M : Int) - 1) = q := ⟨_, rfl⟩
    obtain ⟨gv, hgv⟩ : ∃ q, wErr (lessL x.g k x.g.length) ((M : Int) - 1) = q := ⟨_, rfl⟩
    have hle : (M = 1 ∧ gv = 1) ∨ (2 ≤ M ∧ gv = 0 ∧ bv ≤ a0) := by
      by_cases h2 : 2 ≤ M
      · have h3 := less_all HB0.out hkM h2
        rw [hgv, hbv, EB.out] at h3
        exact .inr ⟨h2, h3.1, h3.2⟩
      · obtain rfl : M = 1 := by omega
        exact .inl ⟨rfl, by rw [← hgv]; exact less_one⟩
    have hlw := low_all HB0.out
    rw [EB.out] at hlw
    have HF := Lib.hid hfv
    have HA := Lib.hid hav
    have HTV := Lib.hid htv
    have HMA := Lib.hid hma
    have HBV := Lib.hid hbv
    have HGV := Lib.hid hgv
    have HLE := Lib.hid hle
    have HLW := Lib.hid hlw
    have HZL := Lib.hid hzl
    clear hfv hav htv hma hbv hgv hle hlw hzl
    obtain ⟨i0, hi0, hz0, hz1, hz2⟩ := info_parts info6_int
    obtain ⟨i1, hi1', hy0, hy1, hy2⟩ := info_parts infoI_ints
    have eg0 := bg.c0
    have eg1 := bg.c1
    go_wp2_with fail
    clear eg0 eg1
    go_loopw [9, 10] (fun tp v wr => ∃ j : Nat, j ≤ n1 ∧ v = .int .i64 j ∧ tp = .int .i64 (topN (fun j => zs.getD j 0) j) ∧ wr = v3) (fun _ v _ => n1 - (intOf v).toNat)
    case atStart => exact ⟨0, Nat.zero_le _, rfl, rfl, rfl⟩
    case round =>
      obtain ⟨j, hj, rfl, rfl, hwr⟩ := hrel
      have hwr2 := hwr.symm
      subst hwr2
      by_cases hjn : j < n1
      · have hjn' : (j : Int) < n1 := by omega
        have hj0 : (0 : Int) ≤ j := by omega
        obtain ⟨p1, q1, hA1, hp1, y0, hy0', hcy⟩ := h1.rd.get hjn
        simp only at hA1
        have hjl : j < zs.length := by rw [HZL.out]; exact hjn
        rw [ci64_get _ _ hjl] at hy0'
        obtain rfl : iV zs[j] = y0 := Option.some.inj hy0'
        unfold iV at hcy
        have hT : topN (fun j => zs.getD j 0) (j + 1) = max (topN (fun j => zs.getD j 0) j) (zs.getD j 0) := rfl
        rw [show zs.getD j 0 = zs[j] by rw [List.getD_eq_getElem?_getD, List.getElem?_eq_getElem hjl]; rfl] at hT
        obtain ⟨zj, hzj⟩ : ∃ q, zs[j] = q := ⟨_, rfl⟩
        obtain ⟨tj, htj⟩ : ∃ q, topN (fun j => zs.getD j 0) j = q := ⟨_, rfl⟩
        rw [hzj, htj] at hT
        rw [hzj] at hcy
        rw [htj]
        have HT : Hid (max tj zj = topN (fun j => zs.getD j 0) (j + 1)) := Lib.hid hT.symm
        subst hA1
        clear hy0' hjl hT hzj htj
        go_wp2
        go_roundw
        case rel => exact ⟨j + 1, by omega, by go_num, by rw [HT.out], by first | rfl | trivial⟩
        case measure => simp [intOf]; omega
      · obtain rfl : n1 = j := by omega
        rw [HTV.out]
        have eg0 := bg.c0
        have eg1 := bg.c1
        go_wp2_with fail
        clear eg0 eg1
        clear hj hjn
        go_loopw [11, 12, 14] (fun o o2 v wr => ∃ (i c : Nat) (A : Option Addr) (t : List Ls) (c2 : Nat) (A2 : Option Addr) (t2 : List Ls), i ≤ x.n ∧ v = .int .i64 i ∧ o = .slice A i c ∧ o2 = .slice A2 i c2 ∧ Own wr v3.heap.size 28 A i c (t.map Ls.v) ∧ Own wr v3.heap.size 28 A2 i c2 (t2.map Ls.v) ∧ Two A c A2 c2 ∧ Hid (∀ u ∈ t, OwnI wr v3.heap.size u) ∧ Hid (∀ u ∈ t2, OwnI wr v3.heap.size u) ∧ Hid (Ls.all t = lessL x.g k i) ∧ Hid (Ls.all t2 = lowL x.g i) ∧ Below v3.heap.size v3 wr) (fun _ _ v _ => x.n - (intOf v).toNat)
        case atStart => exact ⟨0, 0, none, [], 0, none, [], Nat.zero_le _, rfl, rfl, rfl, Own.none_ _ _ _ _, Own.none_ _ _ _ _, (fun g hg => by simp at hg), Lib.hid (by simp), Lib.hid (by simp), Lib.hid (by simp [lessL, Ls.all]), Lib.hid (by simp [lowL, Ls.all]), Below.refl _ _⟩
        case round =>
          obtain ⟨i, c, A, t, c2, A2, t2, hi, rfl, rfl, rfl, hOt, hOt2, hTwo, hrows, hrows2, hall, hall2, hbel⟩ := hrel
          have e0 := (bg.below hbel).c0
          have e1 := (bg.below hbel).c1
          have hsz := hbel.size
          by_cases hin : i < x.n
          · have hin' : (i : Int) < x.n := by omega
            have hi0' : (0 : Int) ≤ i := by omega
            obtain ⟨p2, q2, u, hAx, hgy, hp2, hcx0, hky0⟩ := gr_get (A := x.A) (n := x.n) (c := x.c) (t := x.t) hx rfl hin
            have hcx := (hbel.cell (p := ⟨p2, q2 + i, none⟩) hp2).trans hcx0
            have hky := hky0.below hbel
            have hgi : x.g[i]? = some u.zs := by
              have h1 : x.g.getD i [] = u.zs := hgy
              rw [← h1, List.getD_eq_getElem?_getD, List.getElem?_eq_getElem (by rw [HGL.out]; exact hin)]; rfl
            have hun : u.n = M := by
              have h1 := hky.len
              obtain ⟨hl, he⟩ := List.getElem?_eq_some_iff.1 hgi
              have h2 := (may_row HB0.out hl).1
              rw [he] at h2
              omega
            have hkn : k ≤ u.n := by omega
            have hkn1 : k + 1 ≤ u.n := by omega
            have hkn' : (k : Int) ≤ (u.n : Int) := by omega
            have hkn1' : (k : Int) + 1 ≤ (u.n : Int) := by omega
            have hk0 : (0 : Int) ≤ k := by omega
            have hk1 : (0 : Int) ≤ (k : Int) + 1 := by omega
            have hcap : (u.n : Int) ≤ (u.c : Int) := by have := hky.cap; omega
            have hkc : (k : Int) ≤ (u.c : Int) := by omega
            have hkc1 : (k : Int) + 1 ≤ (u.c : Int) := by omega
            have hu8 : u.n ≤ 8 := by omega
            have hu1 : 1 ≤ u.n := by omega
            have s3 : IntKind.i64.wrap ((k : Int) + 1) = (k : Int) + 1 := by rw [IntKind.wrap_i64]; omega
            have HN1 := Lib.hid (lessL_succ (k := k) hgi)
            have HN2 := Lib.hid (lowL_succ hgi)
            have hfit := hky.fit
            have HUL := Lib.hid hky.len
            have htl := ok_tail hky hkn1
            have htk := hky.rd.take (hi := k) hkn
            rw [ci64_take] at htk
            rw [hAx] at e0
            have HAx := Lib.hid hAx
            clear hcx0 hgy hgi hAx hun hky
            have hS : ∀ w', Below v3.heap.size v3 w' → w'.cell? ⟨w.heap.size, 0, none⟩ = some (.slice (some ⟨p2, q2, none⟩) x.n x.c) ∧ w'.cell? ⟨p2, q2 + i, none⟩ = some (.slice u.A u.n u.c) := fun w' hb => ⟨by have := (bg.below hb).c0; rw [HAx.out] at this; exact this, by
              have := (hbel.cell (p := ⟨p2, q2 + i, none⟩) hp2); exact (hb.cell (p := ⟨p2, q2 + i, none⟩) hp2).trans (this.symm.trans hcx)⟩
            obtain ⟨TA, hTA⟩ : ∃ TA, (if u.c = k + 1 then u.A else Option.map (fun x : Addr => x.add (k + 1)) u.A) = TA := ⟨_, rfl⟩
            rw [hTA] at htl
            have hutl := htl.rd
            simp only at hutl
            have HTA : Hid ((if u.c = k + 1 then u.A else Option.map (fun x : Addr => (⟨x.block, x.off + (k + 1), none⟩ : Addr)) u.A) = TA) := Lib.hid (by rw [← hTA]; simp [Addr.add])
            clear hTA htl
            go_wp2_with fail
            refine wp_region_ord (S := fun w' => w'.cell? ⟨w.heap.size, 0, none⟩ = some (.slice (some ⟨p2, q2, none⟩) x.n x.c) ∧ w'.cell? ⟨p2, q2 + i, none⟩ = some (.slice u.A u.n u.c)) [(0, true), (1, true), (2, true), (3, true), (4, true), (5, true), (6, true), (7, true), (9, true), (10, true), (11, true), (12, true), (13, true), (14, true), (15, true), (16, true), (8, false), (17, false), (18, false), (19, false), (20, true)] default (by kernel_rfl) (by kernel_rfl) (by kernel_rfl) ⟨e0, hcx⟩ ?_
            simp only [getOrd, nth]
            obtain ⟨wq, hwq⟩ : ∃ q, q = wr.drew := ⟨_, rfl⟩
            have hbq : Below wr.heap.size wr wq := by rw [hwq]; exact (Below.refl _ wr).drew
            rw [← hwq]
            have hut := hutl.below hbq
            have hutk := htk.below hbq
            have hOtq := hOt.below hbq
            have hOtq2 := hOt2.below hbq
            have hrowsq : ∀ v ∈ t, OwnI wq v3.heap.size v := fun v hv => (hrows.out v hv).below hbq
            have hrowsq2 : ∀ v ∈ t2, OwnI wq v3.heap.size v := fun v hv => (hrows2.out v hv).below hbq
            have hszq : v3.heap.size ≤ wq.heap.size := Nat.le_trans hsz hbq.size
            have hbVq := hbel.trans (hbq.mono hsz)
            clear hutl htk hOt hOt2 hrows hrows2 hbq e0 e1 hcx hwq hbel hsz
            repeat (first | (refine ordS (by rfl) ?_; simp only [Act.put, List.setIfInBounds_toArray, List.set_cons_zero, List.set_cons_succ]) | (refine ordN (by rfl) ?_; simp only [Act.put, List.setIfInBounds_toArray, List.set_cons_zero, List.set_cons_succ]) | (refine ordQ (v := ?_) (by rfl) (fun _ hSw => ?_) ?_; rotate_left; (focus ((have hS1 := hSw.1); (have hS2 := hSw.2); clear hSw; go_simp; (first | done | with_reducible rfl))); simp only [Act.put, List.setIfInBounds_toArray, List.set_cons_zero, List.set_cons_succ]))
            rw [HTA.out]
            refine ordD (by rfl) ?_
            intro K hK
            refine wp_app (wq) _ _ 28 rfl 3 i0 _ 8 Try.underlying28 hi0 hz0 hz1 hz2 rfl wq.heap.size none 0 0 [] rfl (Own.none_ _ _ _ _) u.A k u.c (ci64 (u.zs.take k)) rfl hutk ?a1 ?a2 ?a3 ?a4 ?_
            case a1 => intro u hu; first | (obtain ⟨z, _, rfl⟩ := List.mem_map.1 hu; rfl) | (rw [List.mem_singleton.1 hu]; rfl)
            case a2 => simp only [maxLen]; omega
            case a3 => omega
            try case a4 => first | exact Nat.le_refl _ | assumption | omega
            intro A3 c3 w3 hown3 hbel3 hfr3 _
            have bS3 := hbVq.trans (hbel3.mono hszq)
            go_simp
            refine hK _ _ (hS _ bS3) ?_
            clear hK K
            try simp only [Act.put, List.setIfInBounds_toArray, List.set_cons_zero, List.set_cons_succ]
            have hO3 : Own w3 wq.heap.size 3 A3 k c3 (ci64 (u.zs.take k)) := by simpa using hown3
            have hut3 := hut.below hbel3
            have hsz3 := hbel3.size
            have hbn3 : Below wq.heap.size wq w3 := hbel3
            clear hown3 hut hutk hbel3 hfr3 bS3
            repeat (first | (refine ordS (by rfl) ?_; simp only [Act.put, List.setIfInBounds_toArray, List.set_cons_zero, List.set_cons_succ]) | (refine ordN (by rfl) ?_; simp only [Act.put, List.setIfInBounds_toArray, List.set_cons_zero, List.set_cons_succ]) | (refine ordQ (v := ?_) (by rfl) (fun _ hSw => ?_) ?_; rotate_left; (focus ((have hS1 := hSw.1); (have hS2 := hSw.2); clear hSw; go_simp; (first | done | with_reducible rfl))); simp only [Act.put, List.setIfInBounds_toArray, List.set_cons_zero, List.set_cons_succ]))
            refine ordD (by rfl) ?_
            intro K hK
            refine wp_app (w3) _ _ 28 rfl 3 i0 _ 8 Try.underlying28 hi0 hz0 hz1 hz2 rfl wq.heap.size A3 k c3 (ci64 (u.zs.take k)) rfl hO3 TA (u.n - (k + 1)) (u.c - (k + 1)) (ci64 (u.zs.drop (k + 1))) rfl hut3 ?b1 ?b2 ?b3 ?b4 ?_
            case b1 => intro u hu; first | (obtain ⟨z, _, rfl⟩ := List.mem_map.1 hu; rfl) | (rw [List.mem_singleton.1 hu]; rfl)
            case b2 => simp only [maxLen]; omega
            case b3 => omega
            try case b4 => first | exact Nat.le_refl _ | assumption | omega
            intro A4 c4 w4 hown4 hbel4 hfr4 _
            have bS4 := hbVq.trans ((hbn3.trans hbel4).mono hszq)
            go_simp
            refine hK _ _ (hS _ bS4) ?_
            clear hK K
            try simp only [Act.put, List.setIfInBounds_toArray, List.set_cons_zero, List.set_cons_succ]
            have hO4 : OwnI w4 wq.heap.size ⟨A4, k + (u.n - (k + 1)), c4, lessR u.zs k⟩ := by
              refine ⟨?_, fun z hz => ?_⟩
              · show Own w4 wq.heap.size _ A4 (k + (u.n - (k + 1))) c4 (ci64 (u.zs.take k ++ u.zs.drop (k + 1)))
                rw [ci64_app]; exact hown4
              · rcases List.mem_append.1 hz with hz | hz
                · exact hfit z (List.mem_of_mem_take hz)
                · exact hfit z (List.mem_of_mem_drop hz)
            have hbn4 : Below wq.heap.size wq w4 := hbn3.trans hbel4
            have hOt4 := hOtq.below hbn4
            have hOt42 := hOtq2.below hbn4
            have hrows4 : ∀ v ∈ t, OwnI w4 v3.heap.size v := fun v hv => (hrowsq v hv).below hbn4
            have hrows42 : ∀ v ∈ t2, OwnI w4 v3.heap.size v := fun v hv => (hrowsq2 v hv).below hbn4
            have hsz4 : v3.heap.size ≤ w4.heap.size := Nat.le_trans hszq hbn4.size
            have hbV4 := hbVq.trans (hbn4.mono hszq)
            have hO4V : OwnI w4 v3.heap.size ⟨A4, k + (u.n - (k + 1)), c4, lessR u.zs k⟩ := hO4.mono hszq
            clear hown4 hbel4 hfr4 hO3 hut3 hsz3 hbn3 hOtq hOtq2 hrowsq hrowsq2 hszq hbVq hbn4 hO4 bS4
            repeat (first | (refine ordS (by rfl) ?_; simp only [Act.put, List.setIfInBounds_toArray, List.set_cons_zero, List.set_cons_succ]) | (refine ordN (by rfl) ?_; simp only [Act.put, List.setIfInBounds_toArray, List.set_cons_zero, List.set_cons_succ]) | (refine ordQ (v := ?_) (by rfl) (fun _ hSw => ?_) ?_; rotate_left; (focus ((have hS1 := hSw.1); (have hS2 := hSw.2); clear hSw; go_simp; (first | done | with_reducible rfl))); simp only [Act.put, List.setIfInBounds_toArray, List.set_cons_zero, List.set_cons_succ]))
            refine ordD (by rfl) ?_
            intro K hK
            go_simp
            have hbb : Below w4.heap.size w4 (w4.alloc (.cells #[.slice A4 (k + (u.n - (k + 1))) c4] 28)) := (Below.refl _ w4).alloc (Nat.le_refl _) _
            have hbVl := hbV4.trans (hbb.mono hsz4)
            refine hK _ _ (hS _ hbVl) ?_
            clear hK K
            try simp only [Act.put, List.setIfInBounds_toArray, List.set_cons_zero, List.set_cons_succ]
            repeat (first | (refine ordS (by rfl) ?_; simp only [Act.put, List.setIfInBounds_toArray, List.set_cons_zero, List.set_cons_succ]) | (refine ordN (by rfl) ?_; simp only [Act.put, List.setIfInBounds_toArray, List.set_cons_zero, List.set_cons_succ]) | (refine ordQ (v := ?_) (by rfl) (fun _ hSw => ?_) ?_; rotate_left; (focus ((have hS1 := hSw.1); (have hS2 := hSw.2); clear hSw; go_simp; (first | done | with_reducible rfl))); simp only [Act.put, List.setIfInBounds_toArray, List.set_cons_zero, List.set_cons_succ]))
            have hlr : Rd (w4.alloc (.cells #[.slice A4 (k + (u.n - (k + 1))) c4] 28)) (some ⟨w4.heap.size, 0, none⟩) 1 [.slice A4 (k + (u.n - (k + 1))) c4] := (Own.lit (B := 0) w4 28 #[.slice A4 (k + (u.n - (k + 1))) c4] 1 (Nat.zero_le _) rfl (by unfold maxLen; omega)).rd
            have hszl : v3.heap.size ≤ (w4.alloc (.cells #[.slice A4 (k + (u.n - (k + 1))) c4] 28)).heap.size := Nat.le_trans hsz4 hbb.size
            have hOtl := hOt4.below hbb
            have hOtl2 := hOt42.below hbb
            have hrowsl : ∀ v ∈ t, OwnI (w4.alloc (.cells #[.slice A4 (k + (u.n - (k + 1))) c4] 28)) v3.heap.size v := fun v hv => (hrows4 v hv).below hbb
            have hrowsl2 : ∀ v ∈ t2, OwnI (w4.alloc (.cells #[.slice A4 (k + (u.n - (k + 1))) c4] 28)) v3.heap.size v := fun v hv => (hrows42 v hv).below hbb
            have hO4l := hO4V.below hbb
            generalize hwl : w4.alloc (.cells #[.slice A4 (k + (u.n - (k + 1))) c4] 28) = wl at hlr hszl hOtl hOtl2 hrowsl hrowsl2 hO4l hbVl ⊢
            clear hwl hbb hOt4 hOt42 hrows4 hrows42 hO4V hbV4 hsz4
            refine ordD (by rfl) ?_
            intro K hK
            refine wp_app (wl) _ _ 22 rfl 28 i1 _ 24 Try.underlying22 hi1' hy0 hy1 hy2 rfl v3.heap.size A i c _ rfl hOtl _ 1 1 [.slice A4 (k + (u.n - (k + 1))) c4] rfl hlr ?c1 ?c2 ?c3 ?c4 ?_
            case c1 => intro u hu; first | (obtain ⟨z, _, rfl⟩ := List.mem_map.1 hu; rfl) | (rw [List.mem_singleton.1 hu]; rfl)
            case c2 => simp only [maxLen]; omega
            case c3 => omega
            try case c4 => first | exact Nat.le_refl _ | assumption | omega
            intro A5 c5 w5 hown5 hbel5 hfr5 hat5
            have bS5 := hbVl.trans hbel5
            go_simp
            refine hK _ _ (hS _ bS5) ?_
            clear hK K
            try simp only [Act.put, List.setIfInBounds_toArray, List.set_cons_zero, List.set_cons_succ]
            have hT : Own w5 v3.heap.size 28 A5 (i + 1) c5 ((t ++ [(⟨A4, k + (u.n - (k + 1)), c4, lessR u.zs k⟩ : Ls)]).map Ls.v) := by rw [List.map_append]; exact hown5
            have hT2 := Own.beside hOtl2 hOtl (Two.symm hTwo) hfr5
            have hTwo5 := Two.symm (Two.grow hOtl2 (Two.symm hTwo) hat5 (Nat.le_refl _))
            have HR5 : Hid (∀ v ∈ t ++ [⟨A4, k + (u.n - (k + 1)), c4, lessR u.zs k⟩], OwnI w5 v3.heap.size v) := Lib.hid (fun v hv => by
              rcases List.mem_append.1 hv with hv | hv
              · exact (hrowsl v hv).app hOtl hfr5
              · rw [List.mem_singleton.1 hv]
                exact hO4l.app hOtl hfr5)
            have HR52 : Hid (∀ v ∈ t2, OwnI w5 v3.heap.size v) := Lib.hid (fun v hv => (hrowsl2 v hv).app hOtl hfr5)
            have HA5 : Hid (Ls.all (t ++ [⟨A4, k + (u.n - (k + 1)), c4, lessR u.zs k⟩]) = lessL x.g k (i + 1)) := Lib.hid (by
              rw [HN1.out, ← hall.out]; simp [Ls.all])
            have hsz5 := bS5.size
            clear hown5 hbel5 hfr5 hat5 hO4l hOtl hOtl2 hrowsl hrowsl2 hlr hszl hall hTwo HN1
            repeat (first | (refine ordS (by rfl) ?_; simp only [Act.put, List.setIfInBounds_toArray, List.set_cons_zero, List.set_cons_succ]) | (refine ordN (by rfl) ?_; simp only [Act.put, List.setIfInBounds_toArray, List.set_cons_zero, List.set_cons_succ]) | (refine ordQ (v := ?_) (by rfl) (fun _ hSw => ?_) ?_; rotate_left; (focus ((have hS1 := hSw.1); (have hS2 := hSw.2); clear hSw; go_simp; (first | done | with_reducible rfl))); simp only [Act.put, List.setIfInBounds_toArray, List.set_cons_zero, List.set_cons_succ]))
            refine ordE ?_
            have d0 := (hS _ bS5).1
            have d1 := (hS _ bS5).2
            have hky5 := hky0.below bS5
            have hky5r := hky5.rd
            clear hky0 hky5
            go_wp2_with (at_builtin; go_must (refine wpList_app w5 rfl _ _ 28 rfl 3 i0 _ 8 Try.underlying28 hi0 hz0 hz1 hz2 rfl w5.heap.size none 0 0 [] rfl (Own.none_ _ _ _ _) _ u.n u.c (ci64 u.zs) rfl hky5r ?e1 ?e2 ?e3 ?e4 ?_))
            case e1 => intro u hu; obtain ⟨z, _, rfl⟩ := List.mem_map.1 hu; rfl
            case e2 => simp only [maxLen]; omega
            case e3 => omega
            try case e4 => exact Nat.le_refl _
            intro A6 c6 w6 hown6 hbel6 _ _
            have hO6 : OwnI w6 w5.heap.size ⟨A6, u.n, c6, lowTo u.zs 0⟩ := ⟨by rw [lowTo_zero]; simpa using hown6, fun z hz => hfit z hz⟩
            have hle6 := hO6.own.le
            simp only at hle6
            obtain ⟨g6, hA6, hg6, hg6l⟩ := hO6.own.lt (show 0 < c6 by omega)
            simp only at hA6
            subst hA6
            clear hown6 d0 d1 hky5r hg6l
            go_wp2_with fail
            obtain ⟨wo, rfl⟩ : ∃ wo, wo = wr := ⟨_, rfl⟩
            go_loopw [16] (fun v wr => ∃ j : Nat, j ≤ u.n ∧ v = .int .i64 j ∧ OwnI wr w5.heap.size ⟨some ⟨g6, 0, none⟩, u.n, c6, lowTo u.zs j⟩ ∧ Below w5.heap.size w5 wr) (fun v _ => u.n - (intOf v).toNat)
            case atStart => exact ⟨0, Nat.zero_le _, rfl, hO6, hbel6⟩
            case round =>
              clear hO6 hbel6
              obtain ⟨j, hj, rfl, hOj, hbj⟩ := hrel
              have hj0 : (0 : Int) ≤ j := by omega
              by_cases hjn : j < u.n
              · have hjn' : (j : Int) < u.n := by omega
                have hjl : j < u.zs.length := by rw [HUL.out]; exact hjn
                have hcu := hOj.own.cell (j := j) hjn
                rw [show ci64 (lowTo u.zs j) = (lowTo u.zs j).map iV from rfl, List.getElem?_map, lowTo_get hjl] at hcu
                replace hcu : wr.cell? ⟨g6, j, none⟩ = some (.int .i64 u.zs[j]) := hcu
                have hfr := hOj.own.free (show 0 < c6 by omega) j
                have hms := lowTo_set hjl
                have hkp := lowTo_keep hjl
                obtain ⟨z, hz⟩ : ∃ z, u.zs[j] = z := ⟨_, rfl⟩
                rw [hz] at hcu hms hkp
                clear hz hjl
                by_cases hz0 : z < 0
                · have gz : decide (z < 0) = true := decide_eq_true hz0
                  rw [show lowZ z = -1000000 by rw [lowZ, if_pos hz0]] at hms
                  have n2 := OwnI.put hOj (k := j) (z := -1000000) (show 0 < c6 by omega) (by omega)
                  rw [hms] at n2
                  have hB5 := hbj.setCell (p := ⟨g6, j, none⟩) (by show w5.heap.size ≤ g6; omega) (.int .i64 (-1000000))
                  clear hOj hbj hms hkp
                  go_wp2
                  go_roundw
                  case rel => exact ⟨j + 1, by omega, by go_num, n2, hB5⟩
                  case measure => simp [intOf]; omega
                · have gz : decide (z < 0) = false := decide_eq_false hz0
                  have n2 := hOj
                  rw [← hkp hz0] at n2
                  clear hOj hms hkp
                  go_wp2
                  go_roundw
                  case rel => exact ⟨j + 1, by omega, by go_num, n2, hbj⟩
                  case measure => simp [intOf]; omega
              · obtain rfl : j = u.n := by omega
                have hfull : Hid (lowTo u.zs u.n = u.zs.map lowZ) := Lib.hid (lowTo_all (by rw [HUL.out]; exact Nat.le_refl _))
                have hT6 := hT.below hbj
                have hT26 := hT2.below hbj
                have hrows6 : ∀ v ∈ t ++ [⟨A4, k + (u.n - (k + 1)), c4, lessR u.zs k⟩], OwnI wr v3.heap.size v := fun v hv => (HR5.out v hv).below hbj
                have hrows62 : ∀ v ∈ t2, OwnI wr v3.heap.size v := fun v hv => (HR52.out v hv).below hbj
                have hsz6 : v3.heap.size ≤ wr.heap.size := Nat.le_trans hsz5 hbj.size
                have hbV6 := bS5.trans (hbj.mono hsz5)
                clear hT hT2 HR5 HR52 hbj
                go_wp2_with (at_builtin; go_must (refine wpList_app1 wr rfl _ _ 22 rfl 28 i1 _ 24 Try.underlying22 hi1' hy0 hy1 hy2 rfl v3.heap.size A2 i c2 _ rfl hT26 1 rfl rfl ?d1 ?d2 ?d3 ?_))
                case d1 => simp only [maxLen]; omega
                case d2 => omega
                try case d3 => exact hsz6
                intro A7 c7 w7 hown7 hbel7 hfr7 hat7
                have hbV7 := hbV6.trans hbel7
                have hTB : Own w7 v3.heap.size 28 A7 (i + 1) c7 ((t2 ++ [(⟨some ⟨g6, 0, none⟩, u.n, c6, lowTo u.zs u.n⟩ : Ls)]).map Ls.v) := by rw [List.map_append]; exact hown7
                have hTA7 := Own.beside hT6 hT26 hTwo5 hfr7
                have hTwo7 := Two.grow hT6 hTwo5 hat7 (Nat.le_succ _)
                have HR7 : Hid (∀ v ∈ t ++ [⟨A4, k + (u.n - (k + 1)), c4, lessR u.zs k⟩], OwnI w7 v3.heap.size v) := Lib.hid fun v hv => (hrows6 v hv).app hT26 hfr7
                have HR72 : Hid (∀ v ∈ t2 ++ [⟨some ⟨g6, 0, none⟩, u.n, c6, lowTo u.zs u.n⟩], OwnI w7 v3.heap.size v) := Lib.hid (fun v hv => by
                  rcases List.mem_append.1 hv with hv | hv
                  · exact (hrows62 v hv).app hT26 hfr7
                  · rw [List.mem_singleton.1 hv]
                    exact (hOj.app hT26 hfr7).mono hsz5)
                have HA72 : Hid (Ls.all (t2 ++ [(⟨some ⟨g6, 0, none⟩, u.n, c6, lowTo u.zs u.n⟩ : Ls)]) = lowL x.g (i + 1)) := Lib.hid (by
                  rw [HN2.out, ← hall2.out, ← hfull.out]; simp [Ls.all])
                clear hown7 hbel7 hfr7 hat7 hOj hT6 hT26 hrows6 hrows62 hbV6 hall2 hTwo5
                go_wp2
                go_roundw
                case rel => exact ⟨i + 1, c5, A5, _, c7, A7, _, by omega, by go_num, rfl, rfl, hTA7, hTB, hTwo7, HR7, HR72, HA5, HA72, hbV7⟩
                case measure => simp [intOf]; omega

          · obtain rfl : i = x.n := by omega
            have hgo1 : Gr.Ok wr ⟨A, x.n, c, t⟩ := own_lists hOt fun u hu => (hrows.out u hu).ok
            have hgo2 : Gr.Ok wr ⟨A2, x.n, c2, t2⟩ := own_lists hOt2 fun u hu => (hrows2.out u hu).ok
            have HG1 : Hid (Gr.g ⟨A, x.n, c, t⟩ = lessL x.g k x.g.length) := Lib.hid (by rw [HGL.out]; exact hall.out)
            have HG2 : Hid (Gr.g ⟨A2, x.n, c2, t2⟩ = lowL x.g x.g.length) := Lib.hid (by rw [HGL.out]; exact hall2.out)
            clear hOt hOt2 hTwo hrows hrows2 hall hall2 e0 e1 hin
            replace bg := bg.below hbel
            replace hx := hx.below hbel
            replace h1 := h1.below hbel
            replace hB := hB.trans (hbel.mono hB.size)
            clear hbel hsz
            obtain ⟨V9, hV9⟩ : ∃ V9, V9 = wr := ⟨_, rfl⟩
            subst hV9
            have eg0 := bg.c0
            have eg1 := bg.c1
            have hS : ∀ w', Below V9.heap.size V9 w' → w'.cell? ⟨w.heap.size, 0, none⟩ = some (.slice x.A x.n x.c) ∧ w'.cell? ⟨w.heap.size, 1, none⟩ = some (.int .i64 (M : Int)) := fun w' hb => ⟨(bg.below hb).c0, (bg.below hb).c1⟩
            go_wp2_with fail
            clear eg0 eg1
            obtain ⟨r0, hr0⟩ : ∃ r, r = V9.drew := ⟨_, rfl⟩
            have b0 : Below V9.heap.size V9 r0 := by rw [hr0]; exact (Below.refl _ V9).drew
            refine wp_region_tr (S := fun w' => w'.cell? ⟨w.heap.size, 0, none⟩ = some (.slice x.A x.n x.c) ∧ w'.cell? ⟨w.heap.size, 1, none⟩ = some (.int .i64 (M : Int))) (.q 0 (.q 1 (.q 3 (.q 6 (.q 7 (.b 2 4 (.d 4 (.d 5 (.d 8 (.q 9 (.q 10 (.q 11 (.q 12 (.q 13 .nil)))))))) (.d 2 (.d 5 (.d 8 (.q 9 (.q 10 (.q 11 (.q 12 (.q 13 .nil)))))))))))))) default (by kernel_rfl) (by kernel_rfl) (by kernel_rfl) (hS _ (by rw [← hr0]; exact b0)) ?_
            simp only [getTr, nth]
            rw [← hr0]
            have hxrd := gr_rd (hx.below b0)
            have hb0s := b0.size
            clear hr0
            repeat (first | (refine trS (by rfl) ?_; simp only [Act.put, List.setIfInBounds_toArray, List.set_cons_zero, List.set_cons_succ]) | (refine trN (by rfl) ?_; simp only [Act.put, List.setIfInBounds_toArray, List.set_cons_zero, List.set_cons_succ]) | (refine trQ (v := ?_) (by rfl) (fun _ hSw => ?_) ?_; rotate_left; (focus ((have hS1 := hSw.1); (have hS2 := hSw.2); clear hSw; go_simp; (first | done | with_reducible rfl))); simp only [Act.put, List.setIfInBounds_toArray, List.set_cons_zero, List.set_cons_succ]))
            refine trB ?_ ?_
            · refine trD (by rfl) ?_
              intro K hK
              refine wp_app r0 _ _ 22 rfl 28 i1 _ 24 Try.underlying22 hi1' hy0 hy1 hy2 rfl r0.heap.size none 0 0 [] rfl (Own.none_ _ _ _ _) x.A x.n x.c (x.t.map Ls.v) rfl hxrd ?m1 ?m2 ?m3 ?m4 ?_
              case m1 => intro u hu; obtain ⟨z, _, rfl⟩ := List.mem_map.1 hu; rfl
              case m2 => simp only [maxLen]; omega
              case m3 => omega
              try case m4 => exact Nat.le_refl _
              intro A8 c8 r8 hown8 hbel8 _ _
              have hO8 : Own r8 r0.heap.size 28 A8 x.n c8 (x.t.map Ls.v) := by simpa using hown8
              have b8 : Below V9.heap.size V9 r8 := b0.trans (hbel8.mono b0.size)
              go_simp
              refine hK _ _ (hS _ b8) ?_
              clear hK K hown8
              try simp only [Act.put, List.setIfInBounds_toArray, List.set_cons_zero, List.set_cons_succ]
              repeat (first | (refine trS (by rfl) ?_; simp only [Act.put, List.setIfInBounds_toArray, List.set_cons_zero, List.set_cons_succ]) | (refine trN (by rfl) ?_; simp only [Act.put, List.setIfInBounds_toArray, List.set_cons_zero, List.set_cons_succ]) | (refine trQ (v := ?_) (by rfl) (fun _ hSw => ?_) ?_; rotate_left; (focus ((have hS1 := hSw.1); (have hS2 := hSw.2); clear hSw; go_simp; (first | done | with_reducible rfl))); simp only [Act.put, List.setIfInBounds_toArray, List.set_cons_zero, List.set_cons_succ]))
              refine trD (by rfl) ?_
              intro K hK
              go_simp
              obtain ⟨r7, hr7⟩ : ∃ r, r = r8.alloc (.cells #[.slice A1 n1 c1] 28) := ⟨_, rfl⟩
              have bl : Below r8.heap.size r8 r7 := by rw [hr7]; exact (Below.refl _ r8).alloc (Nat.le_refl _) _
              have hlr : Rd r7 (some ⟨r8.heap.size, 0, none⟩) 1 [.slice A1 n1 c1] := by rw [hr7]; exact (Own.lit (B := 0) r8 28 #[.slice A1 n1 c1] 1 (Nat.zero_le _) rfl (by unfold maxLen; omega)).rd
              have br7 : Below V9.heap.size V9 r7 := b8.trans (bl.mono b8.size)
              rw [← hr7]
              refine hK _ _ (hS _ br7) ?_
              clear hK K hr7
              try simp only [Act.put, List.setIfInBounds_toArray, List.set_cons_zero, List.set_cons_succ]
              repeat (first | (refine trS (by rfl) ?_; simp only [Act.put, List.setIfInBounds_toArray, List.set_cons_zero, List.set_cons_succ]) | (refine trN (by rfl) ?_; simp only [Act.put, List.setIfInBounds_toArray, List.set_cons_zero, List.set_cons_succ]) | (refine trQ (v := ?_) (by rfl) (fun _ hSw => ?_) ?_; rotate_left; (focus ((have hS1 := hSw.1); (have hS2 := hSw.2); clear hSw; go_simp; (first | done | with_reducible rfl))); simp only [Act.put, List.setIfInBounds_toArray, List.set_cons_zero, List.set_cons_succ]))
              refine trD (by rfl) ?_
              intro K hK
              have hbs : r0.heap.size ≤ r7.heap.size := by first | exact bl.size | exact Nat.le_trans hbel8.size bl.size | exact hbel8.size
              refine wp_app r7 _ _ 22 rfl 28 i1 _ 24 Try.underlying22 hi1' hy0 hy1 hy2 rfl r0.heap.size A8 x.n c8 _ rfl (hO8.below bl) _ 1 1 [.slice A1 n1 c1] rfl hlr ?n1 ?n2 ?n3 ?n4 ?_
              case n1 => intro u hu; rw [List.mem_singleton.1 hu]; rfl
              case n2 => simp only [maxLen]; omega
              case n3 => omega
              try case n4 => exact hbs
              intro A9 c9 r9 hown9 hbel9 _ _
              have b9 : Below V9.heap.size V9 r9 := br7.trans (hbel9.mono (by have := b0.size; first | omega | exact Nat.le_trans b0.size bl.size))
              have hT9 : Own r9 r0.heap.size 28 A9 (x.n + 1) c9 ((x.t ++ [(⟨A1, n1, c1, zs⟩ : Ls)]).map Ls.v) := by rw [List.map_append]; exact hown9
              have hgo9 : Gr.Ok r9 ⟨A9, x.n + 1, c9, x.t ++ [⟨A1, n1, c1, zs⟩]⟩ := own_lists hT9 fun u hu => by
                rcases List.mem_append.1 hu with hu | hu
                · exact (hx.below b9).lss.ok u hu
                · rw [List.mem_singleton.1 hu]; exact h1.below b9
              have HG9 : Hid (Gr.g ⟨A9, x.n + 1, c9, x.t ++ [⟨A1, n1, c1, zs⟩]⟩ = x.g ++ [zs]) := Lib.hid (by simp [Gr.g, Ls.all])
              go_simp
              refine hK _ _ (hS _ b9) ?_
              clear hK K hown9 hT9 hlr hbs
              try simp only [Act.put, List.setIfInBounds_toArray, List.set_cons_zero, List.set_cons_succ]
              repeat (first | (refine trS (by rfl) ?_; simp only [Act.put, List.setIfInBounds_toArray, List.set_cons_zero, List.set_cons_succ]) | (refine trN (by rfl) ?_; simp only [Act.put, List.setIfInBounds_toArray, List.set_cons_zero, List.set_cons_succ]) | (refine trQ (v := ?_) (by rfl) (fun _ hSw => ?_) ?_; rotate_left; (focus ((have hS1 := hSw.1); (have hS2 := hSw.2); clear hSw; go_simp; (first | done | with_reducible rfl))); simp only [Act.put, List.setIfInBounds_toArray, List.set_cons_zero, List.set_cons_succ]))
              refine trD (by rfl) ?_
              intro K hK
              go_simp
              have hc := pbestC ⟨A9, x.n + 1, c9, x.t ++ [⟨A1, n1, c1, zs⟩]⟩ (M : Int) r9 hgo9 (by omega) (by omega)
              rw [show Gr.v ⟨A9, x.n + 1, c9, x.t ++ [⟨A1, n1, c1, zs⟩]⟩ = .slice A9 (x.n + 1) c9 from rfl, HG9.out, HA.out, HF.out] at hc
              refine hc.mono ?_
              rintro e r10 ⟨rfl, hb⟩
              have b10 : Below V9.heap.size V9 r10 := b9.trans (hb.mono b9.size)
              go_wp2_with fail
              refine hK _ _ (hS _ b10) ?_
              clear hK K hc hb hgo9 HG9
              try simp only [Act.put, List.setIfInBounds_toArray, List.set_cons_zero, List.set_cons_succ]
              repeat (first | (refine trS (by rfl) ?_; simp only [Act.put, List.setIfInBounds_toArray, List.set_cons_zero, List.set_cons_succ]) | (refine trN (by rfl) ?_; simp only [Act.put, List.setIfInBounds_toArray, List.set_cons_zero, List.set_cons_succ]) | (refine trQ (v := ?_) (by rfl) (fun _ hSw => ?_) ?_; rotate_left; (focus ((have hS1 := hSw.1); (have hS2 := hSw.2); clear hSw; go_simp; (first | done | with_reducible rfl))); simp only [Act.put, List.setIfInBounds_toArray, List.set_cons_zero, List.set_cons_succ]))
              refine trE ?_
              replace bg := bg.below b10
              replace hB := hB.trans (b10.mono hB.size)
              replace hgo1 := hgo1.below b10
              replace hgo2 := hgo2.below b10
              clear hx h1 hS b0 b8 b9 bl hxrd b10 hbel8 hbel9 hb0s hO8
              have s5 : IntKind.i64.wrap ((M : Int) - 1) = (M : Int) - 1 := by rw [IntKind.wrap_i64]; omega
              have eg0 := bg.c0
              have eg1 := bg.c1
              have hc := pbestC ⟨A, x.n, c, t⟩ ((M : Int) - 1) r10 hgo1 (by omega) (by omega)
              rw [show Gr.v ⟨A, x.n, c, t⟩ = .slice A x.n c from rfl, HG1.out, HBV.out, HGV.out] at hc
              go_wp2_with fail
              clear eg0 eg1
              refine hc.mono ?_
              rintro e v4 ⟨rfl, hb⟩
              clear hc
              replace hgo1 := hgo1.below hb
              replace hgo2 := hgo2.below hb
              replace bg := bg.below hb
              replace hB := hB.trans (hb.mono hB.size)
              clear hb
              have eg0 := bg.c0
              have eg1 := bg.c1
              have hc := pbestC ⟨A2, x.n, c2, t2⟩ (M : Int) v4 hgo2 (by omega) (by omega)
              rw [show Gr.v ⟨A2, x.n, c2, t2⟩ = .slice A2 x.n c2 from rfl, HG2.out, HLW.out.1, HLW.out.2] at hc
              go_wp2_with fail
              clear eg0 eg1
              refine hc.mono ?_
              rintro e v5 ⟨rfl, hb⟩
              clear hc
              replace hgo1 := hgo1.below hb
              replace hgo2 := hgo2.below hb
              replace bg := bg.below hb
              replace hB := hB.trans (hb.mono hB.size)
              clear hb
              clear hgo1 hgo2
              rcases HMA.out with hf1 | ⟨hf0, hf1, hf2, hf3⟩
              · subst hf1
                rcases HLE.out with ⟨hm1, hg1⟩ | ⟨hm2, hg0, hbv⟩
                · subst hg1
                  subst hm1
                  have g10 : (((1 : Nat) : Int) == 1) = true := by simp
                  have eg0 := bg.c0
                  have eg1 := bg.c1
                  have hc := alive10_any v5
                  go_wp2_with fail
                  clear eg0 eg1
                  refine hc.mono ?_
                  rintro e v6 ⟨rfl, hb⟩
                  clear hc
                  replace bg := bg.below hb
                  replace hB := hB.trans (hb.mono hB.size)
                  clear hb
                  have eg0 := bg.c0
                  have eg1 := bg.c1
                  go_wp2
                  go_ret
                  exact ⟨rfl, hB⟩
                · subst hg0
                  have g10 : ((M : Int) == 1) = false := by rw [beq_eq_false_iff_ne]; omega
                  have g12 : (M == 1) = false := by rw [beq_eq_false_iff_ne]; omega
                  have g11 : decide (bv ≤ a0) = true := decide_eq_true hbv
                  have eg0 := bg.c0
                  have eg1 := bg.c1
                  have hc := alive10_any v5
                  go_wp2_with fail
                  clear eg0 eg1
                  refine hc.mono ?_
                  rintro e v6 ⟨rfl, hb⟩
                  clear hc
                  replace bg := bg.below hb
                  replace hB := hB.trans (hb.mono hB.size)
                  clear hb
                  have eg0 := bg.c0
                  have eg1 := bg.c1
                  go_wp2
                  go_ret
                  exact ⟨rfl, hB⟩
              · subst hf0
                have htn : 0 ≤ tv := by rw [← HTV.out]; exact top_nonneg _ _
                have s8 : IntKind.i64.wrap (a0 + tv) = a0 + tv := by rw [IntKind.wrap_i64]; omega
                have g8 : decide (a0 ≤ av) = true := decide_eq_true hf1
                have g9 : decide (av ≤ a0 + tv) = true := decide_eq_true hf2
                rcases HLE.out with ⟨hm1, hg1⟩ | ⟨hm2, hg0, hbv⟩
                · subst hg1
                  subst hm1
                  have g10 : (((1 : Nat) : Int) == 1) = true := by simp
                  have eg0 := bg.c0
                  have eg1 := bg.c1
                  have hc := alive10_any v5
                  go_wp2_with fail
                  clear eg0 eg1
                  refine hc.mono ?_
                  rintro e v6 ⟨rfl, hb⟩
                  clear hc
                  replace bg := bg.below hb
                  replace hB := hB.trans (hb.mono hB.size)
                  clear hb
                  have eg0 := bg.c0
                  have eg1 := bg.c1
                  go_wp2
                  go_ret
                  exact ⟨rfl, hB⟩
                · subst hg0
                  have g10 : ((M : Int) == 1) = false := by rw [beq_eq_false_iff_ne]; omega
                  have g12 : (M == 1) = false := by rw [beq_eq_false_iff_ne]; omega
                  have g11 : decide (bv ≤ a0) = true := decide_eq_true hbv
                  have eg0 := bg.c0
                  have eg1 := bg.c1
                  have hc := alive10_any v5
                  go_wp2_with fail
                  clear eg0 eg1
                  refine hc.mono ?_
                  rintro e v6 ⟨rfl, hb⟩
                  clear hc
                  replace bg := bg.below hb
                  replace hB := hB.trans (hb.mono hB.size)
                  clear hb
                  have eg0 := bg.c0
                  have eg1 := bg.c1
                  go_wp2
                  go_ret
                  exact ⟨rfl, hB⟩
            · refine trD (by rfl) ?_
              intro K hK
              go_simp
              obtain ⟨r7, hr7⟩ : ∃ r, r = r0.alloc (.cells #[.slice A1 n1 c1] 28) := ⟨_, rfl⟩
              have bl : Below r0.heap.size r0 r7 := by rw [hr7]; exact (Below.refl _ r0).alloc (Nat.le_refl _) _
              have hlr : Rd r7 (some ⟨r0.heap.size, 0, none⟩) 1 [.slice A1 n1 c1] := by rw [hr7]; exact (Own.lit (B := 0) r0 28 #[.slice A1 n1 c1] 1 (Nat.zero_le _) rfl (by unfold maxLen; omega)).rd
              have br7 : Below V9.heap.size V9 r7 := b0.trans (bl.mono b0.size)
              rw [← hr7]
              refine hK _ _ (hS _ br7) ?_
              clear hK K hr7
              try simp only [Act.put, List.setIfInBounds_toArray, List.set_cons_zero, List.set_cons_succ]
              repeat (first | (refine trS (by rfl) ?_; simp only [Act.put, List.setIfInBounds_toArray, List.set_cons_zero, List.set_cons_succ]) | (refine trN (by rfl) ?_; simp only [Act.put, List.setIfInBounds_toArray, List.set_cons_zero, List.set_cons_succ]) | (refine trQ (v := ?_) (by rfl) (fun _ hSw => ?_) ?_; rotate_left; (focus ((have hS1 := hSw.1); (have hS2 := hSw.2); clear hSw; go_simp; (first | done | with_reducible rfl))); simp only [Act.put, List.setIfInBounds_toArray, List.set_cons_zero, List.set_cons_succ]))
              refine trD (by rfl) ?_
              intro K hK
              refine wp_app r7 _ _ 22 rfl 28 i1 _ 24 Try.underlying22 hi1' hy0 hy1 hy2 rfl r7.heap.size none 0 0 [] rfl (Own.none_ _ _ _ _) x.A x.n x.c (x.t.map Ls.v) rfl (hxrd.below bl) ?o1 ?o2 ?o3 ?o4 ?_
              case o1 => intro u hu; obtain ⟨z, _, rfl⟩ := List.mem_map.1 hu; rfl
              case o2 => simp only [maxLen]; omega
              case o3 => omega
              try case o4 => exact Nat.le_refl _
              intro A8 c8 r8 hown8 hbel8 _ _
              have hO8 : Own r8 r7.heap.size 28 A8 x.n c8 (x.t.map Ls.v) := by simpa using hown8
              have b8 : Below V9.heap.size V9 r8 := br7.trans (hbel8.mono br7.size)
              go_simp
              refine hK _ _ (hS _ b8) ?_
              clear hK K hown8
              try simp only [Act.put, List.setIfInBounds_toArray, List.set_cons_zero, List.set_cons_succ]
              repeat (first | (refine trS (by rfl) ?_; simp only [Act.put, List.setIfInBounds_toArray, List.set_cons_zero, List.set_cons_succ]) | (refine trN (by rfl) ?_; simp only [Act.put, List.setIfInBounds_toArray, List.set_cons_zero, List.set_cons_succ]) | (refine trQ (v := ?_) (by rfl) (fun _ hSw => ?_) ?_; rotate_left; (focus ((have hS1 := hSw.1); (have hS2 := hSw.2); clear hSw; go_simp; (first | done | with_reducible rfl))); simp only [Act.put, List.setIfInBounds_toArray, List.set_cons_zero, List.set_cons_succ]))
              refine trD (by rfl) ?_
              intro K hK
              have hbs : r7.heap.size ≤ r8.heap.size := by first | exact bl.size | exact Nat.le_trans hbel8.size bl.size | exact hbel8.size
              refine wp_app r8 _ _ 22 rfl 28 i1 _ 24 Try.underlying22 hi1' hy0 hy1 hy2 rfl r7.heap.size A8 x.n c8 _ rfl hO8 _ 1 1 [.slice A1 n1 c1] rfl (hlr.below hbel8) ?p1 ?p2 ?p3 ?p4 ?_
              case p1 => intro u hu; rw [List.mem_singleton.1 hu]; rfl
              case p2 => simp only [maxLen]; omega
              case p3 => omega
              try case p4 => exact hbs
              intro A9 c9 r9 hown9 hbel9 _ _
              have b9 : Below V9.heap.size V9 r9 := b8.trans (hbel9.mono (by have := b0.size; first | omega | exact Nat.le_trans b0.size bl.size))
              have hT9 : Own r9 r7.heap.size 28 A9 (x.n + 1) c9 ((x.t ++ [(⟨A1, n1, c1, zs⟩ : Ls)]).map Ls.v) := by rw [List.map_append]; exact hown9
              have hgo9 : Gr.Ok r9 ⟨A9, x.n + 1, c9, x.t ++ [⟨A1, n1, c1, zs⟩]⟩ := own_lists hT9 fun u hu => by
                rcases List.mem_append.1 hu with hu | hu
                · exact (hx.below b9).lss.ok u hu
                · rw [List.mem_singleton.1 hu]; exact h1.below b9
              have HG9 : Hid (Gr.g ⟨A9, x.n + 1, c9, x.t ++ [⟨A1, n1, c1, zs⟩]⟩ = x.g ++ [zs]) := Lib.hid (by simp [Gr.g, Ls.all])
              go_simp
              refine hK _ _ (hS _ b9) ?_
              clear hK K hown9 hT9 hlr hbs
              try simp only [Act.put, List.setIfInBounds_toArray, List.set_cons_zero, List.set_cons_succ]
              repeat (first | (refine trS (by rfl) ?_; simp only [Act.put, List.setIfInBounds_toArray, List.set_cons_zero, List.set_cons_succ]) | (refine trN (by rfl) ?_; simp only [Act.put, List.setIfInBounds_toArray, List.set_cons_zero, List.set_cons_succ]) | (refine trQ (v := ?_) (by rfl) (fun _ hSw => ?_) ?_; rotate_left; (focus ((have hS1 := hSw.1); (have hS2 := hSw.2); clear hSw; go_simp; (first | done | with_reducible rfl))); simp only [Act.put, List.setIfInBounds_toArray, List.set_cons_zero, List.set_cons_succ]))
              refine trD (by rfl) ?_
              intro K hK
              go_simp
              have hc := pbestC ⟨A9, x.n + 1, c9, x.t ++ [⟨A1, n1, c1, zs⟩]⟩ (M : Int) r9 hgo9 (by omega) (by omega)
              rw [show Gr.v ⟨A9, x.n + 1, c9, x.t ++ [⟨A1, n1, c1, zs⟩]⟩ = .slice A9 (x.n + 1) c9 from rfl, HG9.out, HA.out, HF.out] at hc
              refine hc.mono ?_
              rintro e r10 ⟨rfl, hb⟩
              have b10 : Below V9.heap.size V9 r10 := b9.trans (hb.mono b9.size)
              go_wp2_with fail
              refine hK _ _ (hS _ b10) ?_
              clear hK K hc hb hgo9 HG9
              try simp only [Act.put, List.setIfInBounds_toArray, List.set_cons_zero, List.set_cons_succ]
              repeat (first | (refine trS (by rfl) ?_; simp only [Act.put, List.setIfInBounds_toArray, List.set_cons_zero, List.set_cons_succ]) | (refine trN (by rfl) ?_; simp only [Act.put, List.setIfInBounds_toArray, List.set_cons_zero, List.set_cons_succ]) | (refine trQ (v := ?_) (by rfl) (fun _ hSw => ?_) ?_; rotate_left; (focus ((have hS1 := hSw.1); (have hS2 := hSw.2); clear hSw; go_simp; (first | done | with_reducible rfl))); simp only [Act.put, List.setIfInBounds_toArray, List.set_cons_zero, List.set_cons_succ]))
              refine trE ?_
              replace bg := bg.below b10
              replace hB := hB.trans (b10.mono hB.size)
              replace hgo1 := hgo1.below b10
              replace hgo2 := hgo2.below b10
              clear hx h1 hS b0 b8 b9 bl hxrd b10 hbel8 hbel9 hb0s hO8
              have s5 : IntKind.i64.wrap ((M : Int) - 1) = (M : Int) - 1 := by rw [IntKind.wrap_i64]; omega
              have eg0 := bg.c0
              have eg1 := bg.c1
              have hc := pbestC ⟨A, x.n, c, t⟩ ((M : Int) - 1) r10 hgo1 (by omega) (by omega)
              rw [show Gr.v ⟨A, x.n, c, t⟩ = .slice A x.n c from rfl, HG1.out, HBV.out, HGV.out] at hc
              go_wp2_with fail
              clear eg0 eg1
              refine hc.mono ?_
              rintro e v4 ⟨rfl, hb⟩
              clear hc
              replace hgo1 := hgo1.below hb
              replace hgo2 := hgo2.below hb
              replace bg := bg.below hb
              replace hB := hB.trans (hb.mono hB.size)
              clear hb
              have eg0 := bg.c0
              have eg1 := bg.c1
              have hc := pbestC ⟨A2, x.n, c2, t2⟩ (M : Int) v4 hgo2 (by omega) (by omega)
              rw [show Gr.v ⟨A2, x.n, c2, t2⟩ = .slice A2 x.n c2 from rfl, HG2.out, HLW.out.1, HLW.out.2] at hc
              go_wp2_with fail
              clear eg0 eg1
              refine hc.mono ?_
              rintro e v5 ⟨rfl, hb⟩
              clear hc
              replace hgo1 := hgo1.below hb
              replace hgo2 := hgo2.below hb
              replace bg := bg.below hb
              replace hB := hB.trans (hb.mono hB.size)
              clear hb
              clear hgo1 hgo2
              rcases HMA.out with hf1 | ⟨hf0, hf1, hf2, hf3⟩
              · subst hf1
                rcases HLE.out with ⟨hm1, hg1⟩ | ⟨hm2, hg0, hbv⟩
                · subst hg1
                  subst hm1
                  have g10 : (((1 : Nat) : Int) == 1) = true := by simp
                  have eg0 := bg.c0
                  have eg1 := bg.c1
                  have hc := alive10_any v5
                  go_wp2_with fail
                  clear eg0 eg1
                  refine hc.mono ?_
                  rintro e v6 ⟨rfl, hb⟩
                  clear hc
                  replace bg := bg.below hb
                  replace hB := hB.trans (hb.mono hB.size)
                  clear hb
                  have eg0 := bg.c0
                  have eg1 := bg.c1
                  go_wp2
                  go_ret
                  exact ⟨rfl, hB⟩
                · subst hg0
                  have g10 : ((M : Int) == 1) = false := by rw [beq_eq_false_iff_ne]; omega
                  have g12 : (M == 1) = false := by rw [beq_eq_false_iff_ne]; omega
                  have g11 : decide (bv ≤ a0) = true := decide_eq_true hbv
                  have eg0 := bg.c0
                  have eg1 := bg.c1
                  have hc := alive10_any v5
                  go_wp2_with fail
                  clear eg0 eg1
                  refine hc.mono ?_
                  rintro e v6 ⟨rfl, hb⟩
                  clear hc
                  replace bg := bg.below hb
                  replace hB := hB.trans (hb.mono hB.size)
                  clear hb
                  have eg0 := bg.c0
                  have eg1 := bg.c1
                  go_wp2
                  go_ret
                  exact ⟨rfl, hB⟩
              · subst hf0
                have htn : 0 ≤ tv := by rw [← HTV.out]; exact top_nonneg _ _
                have s8 : IntKind.i64.wrap (a0 + tv) = a0 + tv := by rw [IntKind.wrap_i64]; omega
                have g8 : decide (a0 ≤ av) = true := decide_eq_true hf1
                have g9 : decide (av ≤ a0 + tv) = true := decide_eq_true hf2
                rcases HLE.out with ⟨hm1, hg1⟩ | ⟨hm2, hg0, hbv⟩
                · subst hg1
                  subst hm1
                  have g10 : (((1 : Nat) : Int) == 1) = true := by simp
                  have eg0 := bg.c0
                  have eg1 := bg.c1
                  have hc := alive10_any v5
                  go_wp2_with fail
                  clear eg0 eg1
                  refine hc.mono ?_
                  rintro e v6 ⟨rfl, hb⟩
                  clear hc
                  replace bg := bg.below hb
                  replace hB := hB.trans (hb.mono hB.size)
                  clear hb
                  have eg0 := bg.c0
                  have eg1 := bg.c1
                  go_wp2
                  go_ret
                  exact ⟨rfl, hB⟩
                · subst hg0
                  have g10 : ((M : Int) == 1) = false := by rw [beq_eq_false_iff_ne]; omega
                  have g12 : (M == 1) = false := by rw [beq_eq_false_iff_ne]; omega
                  have g11 : decide (bv ≤ a0) = true := decide_eq_true hbv
                  have eg0 := bg.c0
                  have eg1 := bg.c1
                  have hc := alive10_any v5
                  go_wp2_with fail
                  clear eg0 eg1
                  refine hc.mono ?_
                  rintro e v6 ⟨rfl, hb⟩
                  clear hc
                  replace bg := bg.below hb
                  replace hB := hB.trans (hb.mono hB.size)
                  clear hb
                  have eg0 := bg.c0
                  have eg1 := bg.c1
                  go_wp2
                  go_ret
                  exact ⟨rfl, hB⟩

theorem own : ownKnob Try.prog.godebug = none := by kernel_rfl
theorem laidOut : laidOutB Try.prog = true := by kernel_rfl

set_option maxRecDepth 100000 in
theorem lifted (os : Os) (started : os.Started) (H : Type) (enc : TypeId × Value → H) :
    ReturnsInHanded {} Try.checked os 5 .any (Rows.weightsMoreSpec.pre6 enc Try.prog Try.f5 Rows.weightsMoreRow.domain false) (Rows.weightsMoreSpec.post enc Try.prog Try.f5 false true false false) := by
  refine returnsInHanded_of_change (C := Try.checked) own started (by kernel_rfl) Try.func5
    (ChangeSpec.witness6 (enc := enc) (C := Try.checked) false ⟨#[], #[.agg #[.slice none 0 0, .int .i64 0], .slice none 0 0, .int .u8 0], []⟩ 8 (by kernel_rfl) (by kernel_rfl) (by kernel_rfl) (by kernel_rfl)) ?_
  intro W base args ds gs before hval0 hW hcnd _
  have hval : ∀ (j : Nat) t v, Try.f5.params[j]? = some t → args[j]? = some v → Value.okWide Try.prog W .any base t v := hval0
  have hW' := hW
  obtain ⟨p, q, hA0, hV, rfl, hfz, hnd⟩ := hW
  have hA : DataW.TrodAll enc Try.prog W 0 (fun _ => true) true Try.f5.params.toList args.toList ds p := hA0
  rw [Try.params5] at hA hval
  obtain ⟨v0, vs0, d0, ds0, p0, q0, hargs, rfl, rfl, h0, r0⟩ := trodAll_cons hA
  obtain ⟨v1, vs1, d1, ds1, p1, q1, rfl, rfl, rfl, h1, r1⟩ := trodAll_cons r0
  obtain ⟨v2, vs2, d2, ds2, p2, q2, rfl, rfl, rfl, h2, r2⟩ := trodAll_cons r1
  obtain ⟨rfl, rfl, rfl⟩ := trodAll_nil r2
  obtain rfl : args = #[v0, v1, v2] := by cases args; simp_all
  obtain ⟨u0, m0, rfl, k0, a0, b0⟩ := arg_gr Try.underlying24 (by kernel_rfl) (by kernel_rfl) Try.underlying22 Try.underlying3 Try.underlying28 (by kernel_rfl) Try.underlying3 (by kernel_rfl) (hval 0 24 v0 rfl rfl) h0
  obtain ⟨A1, n1, c1, l1, rfl, a1, b1, e1, g1⟩ := arg_i64s Try.underlying28 Try.underlying3 (by kernel_rfl) (hval 1 28 v1 rfl rfl) h1
  obtain ⟨x2, rfl, rfl, rfl, w2⟩ := open_int Try.underlying5 (hval 2 5 v2 rfl rfl) h2
  obtain ⟨y2, rfl, z2⟩ := fit_u8 w2
  have hwalk : Calls Try.prog 5 #[.agg #[u0.v, .int .i64 m0], .slice A1 n1 c1, .int .u8 y2] W fun e w' => e = .returned (.bool true) ∧ Below W.heap.size W w' := walk u0 m0 A1 n1 c1 l1 y2 W k0 a0 b0 ⟨a1, b1, e1, g1⟩ z2
  refine hwalk.mono fun e W' ⟨he, hg⟩ => ?_
  subst he
  exact ⟨_, rfl, law_post laidOut (by kernel_rfl) hW' rfl rfl (by kernel_rfl) Try.underlying4 hg⟩

theorem over : Rows.weightsMoreRow.holds Try.pinned (OpenSpec.ofChange Rows.weightsMoreSpec) :=
  OpenClaim.holds_of_wide 5 Try.f5 rfl rfl rfl rfl rfl rfl rfl ⟨rfl, rfl, rfl, rfl, rfl⟩ rfl rfl rfl rfl rfl (by kernel_rfl) Try.func5 (by kernel_rfl)
    (of_decide_eq_true (by kernel_rfl)) (by unfold Func.isWrapper; first | (rw [if_pos (by decide +kernel)]; kernel_rfl) | (rw [if_neg (by decide +kernel)]; exact ⟨rfl, rfl⟩))
    (fun os started H enc _ => lifted os started H enc)

theorem proved : Rows.WeightsMoreSaid :=
  over

end Go.Proofs.Ytiaoplghaigclaa.weightsMore
