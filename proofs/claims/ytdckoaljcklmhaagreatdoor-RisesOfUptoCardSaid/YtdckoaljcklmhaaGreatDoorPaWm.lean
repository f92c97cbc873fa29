/-
  The contract of paths.More, of the landed code.
-/
import Derived.Test.YtdckoaljcklmhaaGreatDoorPaO
import Derived.Test.YtdckoaljcklmhaaGreatDoorReg2
import Derived.Test.YtdckoaljcklmhaaGreatDoorGrWi
import Derived.WalkMore
import Derived.ScopeJumps
import Derived.Deep.LoopGhost
import Derived.Lib.SliceRun
namespace Go.Proofs.YtdckoaljcklmhaaGreatDoor
open Go.RowKit
set_option linter.unusedVariables false

theorem holder_at {zs : List Int} {k : Int} {j : Nat} (hj : j < zs.length) (hno : k ∉ zs.take j) (hz : zs[j] = k) : holder zs k = j := by
  have : zs.findIdx? (fun x => decide (x = k)) = some j := by
    refine List.findIdx?_eq_some_iff_getElem.2 ⟨hj, by simp [hz], fun i hi => ?_⟩
    have hne : zs[i] ≠ k := fun he => hno (by
      rw [← he]
      exact List.mem_take_iff_getElem.2 ⟨i, by omega, rfl⟩)
    simp [hne]
  rw [holder, this]
theorem holder_no {zs : List Int} {k : Int} (h : k ∉ zs) : holder zs k = -1 := by
  have : zs.findIdx? (fun x => decide (x = k)) = none := List.findIdx?_eq_none_iff.2 fun x hx => by
    have hne : x ≠ k := fun he => h (he ▸ hx)
    simp [hne]
  rw [holder, this]
theorem holder_rng (zs : List Int) (k : Int) : -1 ≤ holder zs k ∧ holder zs k < zs.length := by
  by_cases h : holder zs k = -1
  · rw [h]; omega
  · obtain ⟨b, h1, h2, _⟩ := holder_some h
    rw [h1]; omega

/-- A search in memory: eight cells (who came to it) and who waits. -/
def SrAt (w : World) (b : Nat) (t : TypeId) (F : Nat → Int) (A : Option Addr) (n c : Nat) : Prop := ∃ cur : Array Value, w.heap[b]? = some (.cells cur t (0, 0)) ∧ cur.size = 9 ∧ (∀ k, k < 8 → cur[k]? = some (.int .i64 (F k))) ∧ cur[8]? = some (.slice A n c)
theorem SrAt.lt {w : World} {b : Nat} {t : TypeId} {F : Nat → Int} {A : Option Addr} {n c : Nat} (h : SrAt w b t F A n c) : b < w.heap.size := by obtain ⟨_, h1, _⟩ := h; exact (Array.getElem?_eq_some_iff.1 h1).1
theorem SrAt.cell {w : World} {b : Nat} {t : TypeId} {F : Nat → Int} {A : Option Addr} {n c : Nat} (h : SrAt w b t F A n c) {k : Nat} (hk : k < 8) : w.cell? ⟨b, k, none⟩ = some (.int .i64 (F k)) := by
  obtain ⟨cur, h1, h2, h3, _⟩ := h
  simp [World.cell?, h1, h3 k hk]
theorem SrAt.waits {w : World} {b : Nat} {t : TypeId} {F : Nat → Int} {A : Option Addr} {n c : Nat} (h : SrAt w b t F A n c) : w.cell? ⟨b, 8, none⟩ = some (.slice A n c) := by
  obtain ⟨cur, h1, h2, h3, h4⟩ := h
  simp [World.cell?, h1, h4]
theorem SrAt.frozen {w : World} {b : Nat} {t : TypeId} {F : Nat → Int} {A : Option Addr} {n c : Nat} (h : SrAt w b t F A n c) (k : Nat) : w.frozen? ⟨b, k, none⟩ = false := by
  obtain ⟨cur, h1, h2⟩ := h
  simp [World.frozen?, h1]
theorem SrAt.keep {w w' : World} {b : Nat} {t : TypeId} {F : Nat → Int} {A : Option Addr} {n c : Nat} (h : SrAt w b t F A n c) (hk : w'.heap[b]? = w.heap[b]?) : SrAt w' b t F A n c := by
  obtain ⟨cur, h1, h2⟩ := h
  exact ⟨cur, hk.trans h1, h2⟩
theorem SrAt.below {w w' : World} {b : Nat} {t : TypeId} {F : Nat → Int} {A : Option Addr} {n c : Nat} (h : SrAt w b t F A n c) (hb : Below w.heap.size w w') : SrAt w' b t F A n c := h.keep (hb.block b h.lt)
theorem SrAt.set {w : World} {b : Nat} {t : TypeId} {F F' : Nat → Int} {A : Option Addr} {n c : Nat} (h : SrAt w b t F A n c) {k : Nat} {v : Int} (hk : k < 8) (hF : ∀ j, j < 8 → F' j = if j = k then v else F j) : SrAt (w.setCell ⟨b, k, none⟩ (.int .i64 v)) b t F' A n c := by
  obtain ⟨cur, h1, h2, h3, h4⟩ := h
  refine ⟨cur.setIfInBounds k (.int .i64 v), heap_setCell_same w b k cur t _ h1, by rw [Array.size_setIfInBounds]; exact h2, fun j hj => ?_, ?_⟩
  · rw [Array.getElem?_setIfInBounds]
    by_cases he : k = j
    · subst he
      rw [if_pos rfl, if_pos (by omega), hF k hk, if_pos rfl]
    · rw [if_neg he, h3 j hj, hF j hj, if_neg (fun e => he e.symm)]
  · rw [Array.getElem?_setIfInBounds, if_neg (by omega)]; exact h4
theorem SrAt.setW {w : World} {b : Nat} {t : TypeId} {F : Nat → Int} {A : Option Addr} {n c : Nat} (h : SrAt w b t F A n c) (A' : Option Addr) (n' c' : Nat) : SrAt (w.setCell ⟨b, 8, none⟩ (.slice A' n' c')) b t F A' n' c' := by
  obtain ⟨cur, h1, h2, h3, h4⟩ := h
  refine ⟨cur.setIfInBounds 8 (.slice A' n' c'), heap_setCell_same w b 8 cur t _ h1, by rw [Array.size_setIfInBounds]; exact h2, fun j hj => ?_, ?_⟩
  · rw [Array.getElem?_setIfInBounds, if_neg (by omega)]; exact h3 j hj
  · rw [Array.getElem?_setIfInBounds, if_pos rfl, if_pos (by omega)]
/-- A store into a search leaves a list of another type as it was. -/
theorem Own.setS {w : World} {B : Nat} {e t : TypeId} {A : Option Addr} {n c b : Nat} {xs : List Value} {F : Nat → Int} {A2 : Option Addr} {n2 c2 : Nat} (h : Own w B e A n c xs) (hs : SrAt w b t F A2 n2 c2) (hne : t ≠ e) (j : Nat) (v : Value) : Own (w.setCell ⟨b, j, none⟩ v) B e A n c xs := by
  refine ⟨h.1, ?_⟩
  rcases h.2 with h0 | ⟨g, cur, hA, hg, hh, r⟩
  · exact .inl h0
  · refine .inr ⟨g, cur, hA, hg, ?_, r⟩
    rw [heap_setCell_other _ _ _ _ (show g ≠ b by
      rintro rfl
      obtain ⟨cur', h1, _⟩ := hs
      rw [hh] at h1
      exact hne (by cases h1; rfl))]
    exact hh
theorem OwnI.setS {w : World} {B : Nat} {t : TypeId} {b : Nat} {u : Ls} {F : Nat → Int} {A2 : Option Addr} {n2 c2 : Nat} (h : OwnI w B u) (hs : SrAt w b t F A2 n2 c2) (hne : t ≠ 3) (j : Nat) (v : Value) : OwnI (w.setCell ⟨b, j, none⟩ v) B u := ⟨h.own.setS hs hne j v, h.fit⟩

section
variable {g : List (List Int)} {m : Nat} {has : List Int} {from_ i : Int} {on : Bool} {s : St}
/-- An item that was come to already. -/
theorem visit_old {k : Int} (h : s.by_.getD k.toNat (-1) ≠ -1) : visitP has on i s k = s := by
  rw [visitP, if_pos (.inr h)]
theorem visit_held {k : Int} (hf : s.f = -1) (hs : s.by_.getD k.toNat (-1) = -1) (h : 0 ≤ holder has k) : visitP has on i s k = ⟨s.q ++ [holder has k], s.by_.set k.toNat i, -1⟩ := by
  rw [visitP, if_neg (by rintro (h1 | h1) <;> contradiction), if_pos (by omega)]
theorem visit_free {k : Int} (hf : s.f = -1) (hs : s.by_.getD k.toNat (-1) = -1) (h : holder has k = -1) : visitP has true i s k = ⟨s.q, s.by_.set k.toNat i, -1⟩ := by
  rw [visitP, if_neg (by rintro (h1 | h1) <;> contradiction), if_neg (by omega), if_pos rfl]
theorem visit_hit {k : Int} (hf : s.f = -1) (hs : s.by_.getD k.toNat (-1) = -1) (h : holder has k = -1) : visitP has false i s k = ⟨s.q, s.by_.set k.toNat i, k⟩ := by
  rw [visitP, if_neg (by rintro (h1 | h1) <;> contradiction), if_neg (by omega), if_neg (by simp)]
theorem run_stop {fuel n : Nat} (h : s.f ≠ -1) : runP g has on fuel n s = s := by
  cases fuel with
  | zero => rfl
  | succ f => rw [runP, if_neg (fun h' => h h'.1)]
theorem run_over {fuel n : Nat} (h : s.q.length ≤ n) : runP g has on fuel n s = s := by
  cases fuel with
  | zero => rfl
  | succ f => rw [runP, if_neg (fun h' => by omega)]
theorem run_next {fuel n : Nat} {b : Int} (hf : s.f = -1) (hn : s.q[n]? = some b) : runP g has on (fuel + 1) n s = runP g has on fuel (n + 1) (scanP has on b (g.getD b.toNat []) s) := by
  have h1 := (List.getElem?_eq_some_iff.1 hn).1
  rw [runP, if_pos ⟨hf, h1⟩, List.getD_eq_getElem?_getD, hn]
  rfl

/-- On the way: k is under way, and the bidders up to r have what they had. -/
structure Trk (g : List (List Int)) (m : Nat) (has : List Int) (s : St) (out : List Int) (k : Int) (r : Nat) : Prop where
  k0 : 0 ≤ k ∧ k < m
  by_ : s.q[r]? = some (s.by_.getD k.toNat (-1))
  same : ∀ (p : Nat) (b : Int), p ≤ r → s.q[p]? = some b → out.getD b.toNat (-1) = has.getD b.toNat (-1)
  len : out.length = g.length
theorem trk_step (fit : Fit g m has) (hf0 : has.getD from_.toNat (-1) = -1) (hc : Core g m has from_ on s) {out : List Int} {k b : Int} {r : Nat} (w : Trk g m has s out k r) (hb : s.by_.getD k.toNat (-1) = b) :
    (0 ≤ b ∧ b < g.length) ∧ out.getD b.toNat (-1) = has.getD b.toNat (-1) ∧ (has.getD b.toNat (-1) = -1 ∨ ∃ r', r' < r ∧ Trk g m has s (out.set b.toNat k) (has.getD b.toNat (-1)) r') := by
  have hby := w.by_
  rw [hb] at hby
  have hbq := List.mem_of_getElem? hby
  obtain ⟨hb0, hb1⟩ := hc.rng b hbq
  have hbl : b.toNat < out.length := by rw [w.len]; omega
  have hs : ∀ j, (out.set b.toNat k).getD j (-1) = if j = b.toNat then k else out.getD j (-1) := fun j => getD_set hbl
  have hob := w.same r b (Nat.le_refl _) hby
  refine ⟨⟨hb0, hb1⟩, hob, ?_⟩
  by_cases hr0 : r = 0
  · subst hr0
    rw [hc.head] at hby
    cases Option.some.inj hby
    exact .inl hf0
  · obtain ⟨k', hk', hv', hh⟩ := hc.wait r b (by omega) hby
    obtain ⟨r', h1, h2, h3⟩ := hc.come k' hk' hv'
    have hho : holder has (k' : Int) = b.toNat := holder_of fit (by rw [fit.len]; omega) hh (by omega)
    obtain ⟨p, hp1, hp2⟩ := h3 (by rw [hho]; omega)
    rw [hho, Int.toNat_of_nonneg hb0] at hp2
    have hpr : p = r := by
      have hpl := (List.getElem?_eq_some_iff.1 hp2).1
      exact (List.getElem?_inj hpl hc.nodup).1 (hp2.trans hby.symm)
    rw [hh]
    refine .inr ⟨r', by omega, by omega, by rw [Int.toNat_natCast]; exact h1, fun p' b' hp' hb' => ?_, by rw [List.length_set]; exact w.len⟩
    rw [hs]
    have hne : b'.toNat ≠ b.toNat := by
      intro he
      have hb0' := (hc.rng b' (List.mem_of_getElem? hb')).1
      have hbb : b' = b := by rw [← Int.toNat_of_nonneg hb0', he, Int.toNat_of_nonneg hb0]
      rw [hbb] at hb'
      have hpl := (List.getElem?_eq_some_iff.1 hb').1
      have h9 := (List.getElem?_inj hpl hc.nodup).1 (hb'.trans hby.symm)
      rw [hpr] at hp1
      exact absurd h9 (Nat.ne_of_lt (Nat.lt_of_le_of_lt hp' hp1))
    rw [if_neg hne]
    exact w.same p' b' (by omega) hb'
/-- Where the way begins. -/
theorem trk_start (fit : Fit g m has) (hd : Core g m has from_ false s) (hf : s.f ≠ -1) : ∃ r, r ≤ m ∧ Trk g m has s has s.f r := by
  obtain ⟨k, hk, hfk, hv, hh, _⟩ := hd.found.resolve_left hf
  obtain ⟨r, a1, a2, _⟩ := hd.come k hk hv
  have hrl := (List.getElem?_eq_some_iff.1 a1).1
  have hql := q_len hd
  rw [hfk]
  exact ⟨r, by omega, by omega, by rw [Int.toNat_natCast]; exact a1, fun _ _ _ _ => rfl, fit.len⟩
theorem aug_next {by_ : List Int} {fuel : Nat} {k b : Int} {out : List Int} (hk : k ≠ -1) (hb : by_.getD k.toNat (-1) = b) : augP by_ (fuel + 1) k out = augP by_ fuel (out.getD b.toNat (-1)) (out.set b.toNat k) := by
  rw [augP, if_neg hk, hb]
theorem aug_end {by_ : List Int} {fuel : Nat} {out : List Int} : augP by_ fuel (-1) out = out := by
  cases fuel with
  | zero => rfl
  | succ n => rw [augP, if_pos rfl]
end
end Go.Proofs.YtdckoaljcklmhaaGreatDoor


namespace Go.Proofs.YtdckoaljcklmhaaGreatDoor
open Go.RowKit
set_option linter.unusedVariables false

set_option maxRecDepth 100000 in
set_option maxHeartbeats 1000000 in
theorem pindex_any (A : Option Addr) (n c : Nat) (zs : List Int) (k : Int) (w : World) (hr : Rd w A n (ci64 zs)) (hn : n ≤ maxLen) :
    Calls Tryz.prog 123 #[.slice A n c, .int .i64 k] w fun e w' => e = .returned (.int .i64 (holder zs k)) ∧ w' = w := by
  have hl : zs.length = n := by have h := hr.len; rw [ci64_len] at h; exact h
  have HL := Lib.hid hl
  unfold maxLen at hn
  clear hl
  go_enter Tryz.func123, Tryz.ntmps123
  go_wp2_with fail
  go_loopw [8] (fun i wr => ∃ j : Nat, j ≤ n ∧ i = .int .i64 j ∧ Hid (k ∉ zs.take j) ∧ wr = w) (fun i _ => n - (intOf i).toNat)
  case atStart => exact ⟨0, Nat.zero_le _, rfl, Lib.hid (by simp), rfl⟩
  case round =>
    obtain ⟨j, hj, rfl, hno, rfl⟩ := hrel
    by_cases hlt : j < n
    · obtain ⟨p, q, rfl, hp, u0, hu0, hc0⟩ := hr.get hlt
      have hjl : j < zs.length := by rw [HL.out]; exact hlt
      rw [ci64_get _ _ hjl] at hu0
      obtain rfl : iV zs[j] = u0 := Option.some.inj hu0
      unfold iV at hc0
      have hi1 : (j : Int) < n := by omega
      have htk : zs.take (j + 1) = zs.take j ++ [zs[j]] := List.take_succ_eq_append_getElem hjl
      have hat : zs[j] = k → holder zs k = j := holder_at hjl hno.out
      generalize zs[j] = z at hc0 htk hat
      by_cases hz : k = z
      · have hz1 : (k == z) = true := by rw [hz]; simp
        have HM := Lib.hid (hat hz.symm)
        clear hu0 hz htk hat
        go_wp2
        go_ret
        exact ⟨ret_int HM.out.symm, rfl⟩
      · have hz1 : (k == z) = false := by rw [beq_eq_false_iff_ne]; exact hz
        have HN := Lib.hid (show k ∉ zs.take (j + 1) by
          rw [htk]
          intro hm
          rcases List.mem_append.1 hm with hm | hm
          · exact hno.out hm
          · exact hz (List.mem_singleton.1 hm))
        clear hu0 hz htk hat
        go_wp2
        go_roundw
        case rel => exact ⟨j + 1, by omega, by go_num, HN, trivial⟩
        case measure => simp [intOf]; omega
    · obtain rfl : j = n := by omega
      have HM := Lib.hid (holder_no (by
        have h := hno.out
        rwa [List.take_of_length_le (by rw [HL.out]; exact Nat.le_refl _)] at h))
      go_wp2
      go_ret
      exact ⟨ret_int HM.out.symm, rfl⟩

set_option maxRecDepth 100000 in
set_option maxHeartbeats 1000000 in
theorem pmay_any (x : Gr) (m : Int) (u : Ls) (z : Int) (w : World) (hx : x.Ok w) (hu : u.Ok w) (hm1 : -9223372036854775808 ≤ m) (hm2 : m ≤ 9223372036854775807) :
    Calls Tryz.prog 148 #[x.v, .int .i64 m, u.v, .int .i64 z] w fun e w' => e = .returned (.bool (mayP x.g m u.zs z)) ∧ Below w.heap.size w w' := by
  obtain ⟨B, hB⟩ : ∃ B, mayP x.g m u.zs z = B := ⟨_, rfl⟩
  obtain ⟨F, hF⟩ : ∃ F, fitsG x.g m u.zs = F := ⟨_, rfl⟩
  rw [hB]
  have hc := gfitsC x m u w hx hu hm1 hm2
  rw [hF] at hc
  have HB := Lib.hid hB
  have HF := Lib.hid hF
  have HG := Lib.hid hx.glen
  have HU := Lib.hid hu.len
  have hxv : x.v = .slice x.A x.n x.c := rfl
  have hur := hu.rd
  have hut := Nat.le_trans hu.cap hu.top
  have hxt := Nat.le_trans hx.cap hx.top
  unfold maxLen at hut hxt
  rw [hxv] at hc ⊢
  obtain ⟨A, n, c, zs⟩ := u
  simp only at HB HF HU hur hut
  unfold Ls.v at hc ⊢
  simp only at hc ⊢
  clear hB hF hxv
  go_enter Tryz.func148, Tryz.ntmps148
  go_wp2_with fail
  refine hc.mono ?_
  rintro e w1 ⟨rfl, hb⟩
  clear hc
  cases F
  · have HR : Hid (B = false) := Lib.hid (by rw [← HB.out, mayP, HF.out]; rfl)
    go_wp2
    go_ret
    exact ⟨ret_bool HR.out.symm, hb⟩
  have HL := Lib.hid (fitsG_iff.1 HF.out).2.1
  have HNN : Hid (n = x.n) := Lib.hid (by rw [← HU.out, HL.out, HG.out])
  by_cases h0 : 0 ≤ z
  · have g0 : decide (0 ≤ z) = true := decide_eq_true h0
    by_cases h1 : z < n
    · have g1 : decide (z < (n : Int)) = true := decide_eq_true h1
      obtain ⟨i, rfl⟩ : ∃ i : Nat, z = i := ⟨z.toNat, by omega⟩
      have hin : i < n := by omega
      have hin' : (i : Int) < n := by omega
      have hil : i < zs.length := by rw [HU.out]; exact hin
      obtain ⟨p, q, rfl, hp, u0, hu0, hc0⟩ := hur.get hin
      rw [ci64_get _ _ hil] at hu0
      obtain rfl : iV zs[i] = u0 := Option.some.inj hu0
      unfold iV at hc0
      have hgd : zs.getD i (-1) = zs[i] := by rw [List.getD_eq_getElem?_getD, List.getElem?_eq_getElem hil]; rfl
      obtain ⟨a, ha⟩ : ∃ a, zs[i] = a := ⟨_, rfl⟩
      rw [ha] at hc0 hgd
      have hcw : w1.cell? ⟨p, q + i, none⟩ = some (.int .i64 a) := (hb.cell (p := ⟨p, q + i, none⟩) hp).trans hc0
      obtain ⟨β, hβ⟩ : ∃ β, (a == -1) = β := ⟨_, rfl⟩
      have HR : Hid (B = β) := Lib.hid (by
        rw [← HB.out, mayP, HF.out, Int.toNat_natCast, hgd, decide_eq_true (show 0 ≤ (i : Int) ∧ (i : Int) < x.g.length by rw [HG.out, ← HNN.out]; omega), Bool.true_and, Bool.true_and, ← hβ, Bool.eq_iff_iff, decide_eq_true_eq, beq_iff_eq])
      clear hu0 ha hc0 hgd hil
      go_wp2
      go_ret
      exact ⟨ret_bool HR.out.symm, hb⟩
    · have g1 : decide (z < (n : Int)) = false := decide_eq_false h1
      have HR : Hid (B = false) := Lib.hid (by
        rw [← HB.out, mayP, HF.out, decide_eq_false (show ¬ (0 ≤ z ∧ z < x.g.length) by rw [HG.out, ← HNN.out]; omega)]; rfl)
      go_wp2
      go_ret
      exact ⟨ret_bool HR.out.symm, hb⟩
  · have g0 : decide (0 ≤ z) = false := decide_eq_false h0
    have HR : Hid (B = false) := Lib.hid (by
      rw [← HB.out, mayP, HF.out, decide_eq_false (show ¬ (0 ≤ z ∧ z < x.g.length) by omega)]; rfl)
    go_wp2
    go_ret
    exact ⟨ret_bool HR.out.symm, hb⟩
end Go.Proofs.YtdckoaljcklmhaaGreatDoor


namespace Go.Proofs.YtdckoaljcklmhaaGreatDoor
open Go.RowKit
set_option linter.unusedVariables false

theorem SrAt.new (w : World) (t : TypeId) (a : Int) (A : Option Addr) (n c : Nat) : SrAt (w.alloc (.cells #[.int .i64 a, .int .i64 a, .int .i64 a, .int .i64 a, .int .i64 a, .int .i64 a, .int .i64 a, .int .i64 a, .slice A n c] t)) w.heap.size t (fun _ => a) A n c := by
  refine ⟨_, World.alloc_heap_new w _, rfl, fun k hk => ?_, rfl⟩
  match k, hk with
  | 0, _ => rfl
  | 1, _ => rfl
  | 2, _ => rfl
  | 3, _ => rfl
  | 4, _ => rfl
  | 5, _ => rfl
  | 6, _ => rfl
  | 7, _ => rfl
  | k + 8, h => omega
set_option maxRecDepth 100000 in
set_option maxHeartbeats 1000000 in
theorem pbegin_any (z : Int) (w : World) (hz1 : -9223372036854775808 ≤ z) (hz2 : z ≤ 9223372036854775807) :
    Calls Tryz.prog 149 #[.int .i64 z] w fun e w' => ∃ A c, e = .returned (.agg #[.int .i64 (-1), .int .i64 (-1), .int .i64 (-1), .int .i64 (-1), .int .i64 (-1), .int .i64 (-1), .int .i64 (-1), .int .i64 (-1), .slice A 1 c]) ∧ OwnI w' w.heap.size ⟨A, 1, c, [z]⟩ ∧ Below w.heap.size w w' := by
  go_enter Tryz.func149, Tryz.ntmps149
  go_wp2
  have hl := World.alloc_heap_new w (.cells #[.int .i64 0, .int .i64 0, .int .i64 0, .int .i64 0, .int .i64 0, .int .i64 0, .int .i64 0, .int .i64 0, .slice none 0 0] 170)
  have hB := (Below.refl w.heap.size w).alloc (Nat.le_refl _) (.cells #[.int .i64 0, .int .i64 0, .int .i64 0, .int .i64 0, .int .i64 0, .int .i64 0, .int .i64 0, .int .i64 0, .slice none 0 0] 170)
  have hs1 : (w.alloc (.cells #[.int .i64 0, .int .i64 0, .int .i64 0, .int .i64 0, .int .i64 0, .int .i64 0, .int .i64 0, .int .i64 0, .slice none 0 0] 170)).heap.size = w.heap.size + 1 := by simp
  generalize w.alloc (.cells #[.int .i64 0, .int .i64 0, .int .i64 0, .int .i64 0, .int .i64 0, .int .i64 0, .int .i64 0, .int .i64 0, .slice none 0 0] 170) = w1 at *
  have own := Own.lit (B := w.heap.size) w1 3 #[.int .i64 z] 1 (by omega) rfl (by unfold maxLen; omega)
  have hb2 : Below w1.heap.size w1 (w1.alloc (.cells #[.int .i64 z] 3)) := (Below.refl _ w1).alloc (Nat.le_refl _) _
  have hs2 : (w1.alloc (.cells #[.int .i64 z] 3)).heap.size = w.heap.size + 1 + 1 := by simp [hs1]
  rw [hs1] at own
  have hl2 := (hb2.block w.heap.size (by omega)).trans hl
  have hB2 := hB.trans (hb2.mono hB.size)
  generalize w1.alloc (.cells #[.int .i64 z] 3) = w2 at *
  have bS := SrAt.new w2 170 0 (some ⟨w.heap.size + 1, 0, none⟩) 1 1
  have hb3 : Below w2.heap.size w2 (w2.alloc (.cells #[.int .i64 0, .int .i64 0, .int .i64 0, .int .i64 0, .int .i64 0, .int .i64 0, .int .i64 0, .int .i64 0, .slice (some ⟨w.heap.size + 1, 0, none⟩) 1 1] 170)) := (Below.refl _ w2).alloc (Nat.le_refl _) _
  have hl3 := (hb3.block w.heap.size (by omega)).trans hl2
  have hB3 := hB2.trans (hb3.mono hB2.size)
  have own3 := own.below (hb3.mono (Nat.le_refl _))
  rw [hs2] at bS
  clear own hs1 hb2 hl hl2 hB hB2 hb3
  generalize w2.alloc (.cells #[.int .i64 0, .int .i64 0, .int .i64 0, .int .i64 0, .int .i64 0, .int .i64 0, .int .i64 0, .int .i64 0, .slice (some ⟨w.heap.size + 1, 0, none⟩) 1 1] 170) = w3 at *
  clear hs2
  go_loopw [8] (fun i wr => ∃ j : Nat, j ≤ 8 ∧ i = .int .i64 j ∧ SrAt wr (w.heap.size + 1 + 1) 170 (fun k => if k < j then -1 else 0) (some ⟨w.heap.size + 1, 0, none⟩) 1 1 ∧
    wr.heap[w.heap.size]? = some (.cells #[.int .i64 0, .int .i64 0, .int .i64 0, .int .i64 0, .int .i64 0, .int .i64 0, .int .i64 0, .int .i64 0, .slice none 0 0] 170 (0, 0)) ∧ Own wr w.heap.size 3 (some ⟨w.heap.size + 1, 0, none⟩) 1 1 [.int .i64 z] ∧ Below w.heap.size w wr) (fun i _ => 8 - (intOf i).toNat)
  case atStart => exact ⟨0, by omega, rfl, by simpa using bS, hl3, own3, hB3⟩
  case round =>
    obtain ⟨j, hj, rfl, aS, hl, own, hB⟩ := hrel
    clear bS hl3 own3 hB3
    by_cases hlt : j < 8
    · have hlt' : (j : Int) < 8 := by omega
      have c0 := aS.cell hlt
      have f0 := aS.frozen j
      have aS2 := aS.set (v := -1) (F' := fun k => if k < j + 1 then -1 else 0) hlt (fun a ha => by
        by_cases h1 : a = j
        · rw [if_pos h1, if_pos (by omega)]
        · rw [if_neg h1]
          by_cases h2 : a < j
          · rw [if_pos h2, if_pos (by omega)]
          · rw [if_neg h2, if_neg (by omega)])
      have own2 := own.setS aS (by decide) j (.int .i64 (-1))
      have hl2 : (wr.setCell ⟨w.heap.size + 1 + 1, j, none⟩ (.int .i64 (-1))).heap[w.heap.size]? = _ := (heap_setCell_other wr ⟨w.heap.size + 1 + 1, j, none⟩ w.heap.size (.int .i64 (-1)) (by show w.heap.size ≠ w.heap.size + 1 + 1; omega)).trans hl
      have hB2 := hB.setCell (p := ⟨w.heap.size + 1 + 1, j, none⟩) (by show w.heap.size ≤ w.heap.size + 1 + 1; omega) (.int .i64 (-1))
      clear hl own hB
      go_wp2
      go_roundw
      case rel => exact ⟨j + 1, by omega, by go_num, aS2, hl2, own2, hB2⟩
      case measure => simp [intOf]; omega
    · obtain rfl : j = 8 := by omega
      have d0 := aS.cell (k := 0) (by omega)
      have d1 := aS.cell (k := 1) (by omega)
      have d2 := aS.cell (k := 2) (by omega)
      have d3 := aS.cell (k := 3) (by omega)
      have d4 := aS.cell (k := 4) (by omega)
      have d5 := aS.cell (k := 5) (by omega)
      have d6 := aS.cell (k := 6) (by omega)
      have d7 := aS.cell (k := 7) (by omega)
      have d8 := aS.waits
      simp only [Nat.zero_lt_succ, Nat.reduceLT, if_true] at d0 d1 d2 d3 d4 d5 d6 d7
      have r0 : wr.cell? ⟨w.heap.size, 0, none⟩ = some (.int .i64 0) := by simp [World.cell?, hl]
      have r1 : wr.cell? ⟨w.heap.size, 1, none⟩ = some (.int .i64 0) := by simp [World.cell?, hl]
      have r2 : wr.cell? ⟨w.heap.size, 2, none⟩ = some (.int .i64 0) := by simp [World.cell?, hl]
      have r3 : wr.cell? ⟨w.heap.size, 3, none⟩ = some (.int .i64 0) := by simp [World.cell?, hl]
      have r4 : wr.cell? ⟨w.heap.size, 4, none⟩ = some (.int .i64 0) := by simp [World.cell?, hl]
      have r5 : wr.cell? ⟨w.heap.size, 5, none⟩ = some (.int .i64 0) := by simp [World.cell?, hl]
      have r6 : wr.cell? ⟨w.heap.size, 6, none⟩ = some (.int .i64 0) := by simp [World.cell?, hl]
      have r7 : wr.cell? ⟨w.heap.size, 7, none⟩ = some (.int .i64 0) := by simp [World.cell?, hl]
      have r8 : wr.cell? ⟨w.heap.size, 8, none⟩ = some (.slice none 0 0) := by simp [World.cell?, hl]
      have rf : ∀ j, wr.frozen? ⟨w.heap.size, j, none⟩ = false := fun j => by simp [World.frozen?, hl]
      have hh := Lib.hid hl
      clear hl
      have hso : ∀ (v : World) j u, Own v w.heap.size 3 (some ⟨w.heap.size + 1, 0, none⟩) 1 1 [.int .i64 z] → Own (v.setCell ⟨w.heap.size, j, none⟩ u) w.heap.size 3 (some ⟨w.heap.size + 1, 0, none⟩) 1 1 [.int .i64 z] := fun v j u h => h.keep fun g hA _ _ _ => heap_setCell_other _ _ _ _ (by cases hA; show w.heap.size + 1 ≠ w.heap.size; omega)
      have hsb : ∀ (v : World) j u, Below w.heap.size w v → Below w.heap.size w (v.setCell ⟨w.heap.size, j, none⟩ u) := fun v j u h => h.setCell (p := ⟨w.heap.size, j, none⟩) (Nat.le_refl _) u
      have hown := hso _ 8 (.slice (some ⟨w.heap.size + 1, 0, none⟩) 1 1) (hso _ 7 (.int .i64 (-1)) (hso _ 6 (.int .i64 (-1)) (hso _ 5 (.int .i64 (-1)) (hso _ 4 (.int .i64 (-1)) (hso _ 3 (.int .i64 (-1)) (hso _ 2 (.int .i64 (-1)) (hso _ 1 (.int .i64 (-1)) (hso _ 0 (.int .i64 (-1)) own))))))))
      have hbel := hsb _ 8 (.slice (some ⟨w.heap.size + 1, 0, none⟩) 1 1) (hsb _ 7 (.int .i64 (-1)) (hsb _ 6 (.int .i64 (-1)) (hsb _ 5 (.int .i64 (-1)) (hsb _ 4 (.int .i64 (-1)) (hsb _ 3 (.int .i64 (-1)) (hsb _ 2 (.int .i64 (-1)) (hsb _ 1 (.int .i64 (-1)) (hsb _ 0 (.int .i64 (-1)) hB))))))))
      clear hso hsb own hB aS
      go_wp2
      refine bodyPost_ret (v := .agg #[.int .i64 (-1), .int .i64 (-1), .int .i64 (-1), .int .i64 (-1), .int .i64 (-1), .int .i64 (-1), .int .i64 (-1), .int .i64 (-1), .slice (some ⟨w.heap.size + 1, 0, none⟩) 1 1]) ?r rfl ?_
      case r =>
        simp only [results, Tryz.f149]
        go_simp
      exact ⟨_, _, rfl, ⟨hown, by simpa using ⟨hz1, hz2⟩⟩, hbel⟩
end Go.Proofs.YtdckoaljcklmhaaGreatDoor


namespace Go.Proofs.YtdckoaljcklmhaaGreatDoor
open Go.RowKit
set_option linter.unusedVariables false

theorem infoR_int : (Tryz.prog.info? 3).map (fun i => (i.zero, i.size, i.bytes)) = some (some (.int .i64 0), 1, 8) := by kernel_rfl
theorem SrAt.app {w w' : World} {b B : Nat} {t e : TypeId} {F : Nat → Int} {A A2 : Option Addr} {n c n2 c2 : Nat} {xs : List Value} (h : SrAt w b t F A n c) (ho : Own w B e A2 n2 c2 xs) (hne : e ≠ t)
    (hf : ∀ k, k < w.heap.size → ((n2 = 0 ∧ c2 = 0) ∨ A2 ≠ some ⟨k, 0, none⟩) → w'.heap[k]? = w.heap[k]?) : SrAt w' b t F A n c := by
  obtain ⟨cur, h1, h2⟩ := h
  exact ⟨cur, (hf b (Array.getElem?_eq_some_iff.1 h1).1 (own_apart ho h1 hne)).trans h1, h2⟩
theorem jump_ret {l : Nat} {J : Act → World → Prop} {Q : Exit → Act → World → Prop} {a : Act} {w : World} : Exit.jump l J Q .ret a w = Q .ret a w := rfl

set_option maxRecDepth 100000 in
set_option maxHeartbeats 2000000 in
theorem prun_any (x : Gr) (M : Nat) (A : Option Addr) (n c : Nat) (zs : List Int) (i : Nat) (on : Bool) (b : Nat) (AW : Option Addr) (cW : Nat) (w0 w : World) (hx : x.Ok w0) (hu : Ls.Ok w0 ⟨A, n, c, zs⟩) (hmay : mayP x.g M zs i = true)
    (hB : Below w0.heap.size w0 w) (hb : w0.heap.size ≤ b) (bS : SrAt w b 170 (fun _ => -1) AW 1 cW) (own : OwnI w w0.heap.size ⟨AW, 1, cW, [(i : Int)]⟩) :
    Calls Tryz.prog 150 #[.pointer (some ⟨b, 0, none⟩), x.v, .slice A n c, .bool (!on)] w fun e w' => ∃ A1 c1, e = .returned (.int .i64 (searchP x.g M zs i on).f) ∧
      SrAt w' b 170 (fun k => (searchP x.g M zs i on).by_.getD k (-1)) A1 (searchP x.g M zs i on).q.length c1 ∧ Own w' w0.heap.size 3 A1 (searchP x.g M zs i on).q.length c1 (ci64 (searchP x.g M zs i on).q) ∧ Below w0.heap.size w0 w' := by
  obtain ⟨i0, hi0, hz0, hz1, hz2⟩ := info_parts infoR_int
  obtain ⟨m1, hm1, hM8, hg8, hzl, i1, hi1, hif⟩ := may_nat hmay
  obtain rfl : m1 = M := by omega
  obtain rfl : i1 = i := by omega
  have HMY := Lib.hid hmay
  have HG := Lib.hid hx.glen
  have HZ := Lib.hid (show zs.length = n from hu.len)
  rw [hx.glen] at hg8 hif
  have HNB : Hid (zs.length ≤ 8) := Lib.hid (by rw [hzl, HG.out]; exact hg8)
  obtain ⟨S, hS⟩ : ∃ S, searchP x.g m1 zs i1 on = S := ⟨_, rfl⟩
  have HS := Lib.hid hS
  have hut := Nat.le_trans hu.cap hu.top
  have hxv : x.v = .slice x.A x.n x.c := rfl
  rw [hS, hxv]
  have hur := hu.rd
  simp only at hur hut
  have hck := may_check HMY.out
  have hrs : Hid (∀ b : Nat, b < x.n → Rises m1 (x.g.getD b [])) := Lib.hid (fun b hb => (checkG_iff.1 hck).2.2.2 _ (getD_mem (by rw [HG.out]; exact hb)))
  have hfit : Hid (Fit x.g m1 zs) := Lib.hid (may_fits HMY.out)
  have hf0 : Hid (zs.getD i1 (-1) = -1) := Lib.hid (by have := (mayP_iff.1 HMY.out).2.2; rwa [Int.toNat_natCast] at this)
  obtain ⟨g, hg0⟩ : ∃ g, x.g = g := ⟨_, rfl⟩
  rw [hg0] at HG HMY HS hrs hfit
  obtain ⟨A0, n0, c0, t0⟩ := x
  have HG0 := Lib.hid (show Ls.all t0 = g from hg0)
  have hxt := Nat.le_trans hx.cap hx.top
  unfold maxLen at hxt
  simp only at HG hrs hg8 hif hxt ⊢
  have hs0 : Hid (Core g m1 zs i1 on (startP m1 i1) ∧ (startP m1 i1).f = -1 ∧ runP g zs on (m1 + 2 - 0) 0 (startP m1 i1) = S) := Lib.hid ⟨start_core on (by rw [HG.out]; omega), rfl, HS.out⟩
  have bS0 : SrAt w b 170 (fun k => (startP m1 i1).by_.getD k (-1)) AW 1 cW := by
    have : (fun k => (startP m1 i1).by_.getD k (-1)) = fun _ => (-1 : Int) := by funext k; exact getD_repl
    rw [this]; exact bS
  have own0 : Own w w0.heap.size 3 AW 1 cW (ci64 [(i1 : Int)]) := own.own
  obtain ⟨en, hen⟩ : ∃ en, (!on) = en := ⟨_, rfl⟩
  have HEN := Lib.hid hen
  rw [hen]
  clear hmay hm1 hi1 hzl hS hxv hck hg0 bS own hen
  go_enter Tryz.func150, Tryz.ntmps150
  go_wp2_with fail
  refine wp_scope_jumps 0 (fun a wr => ∃ j0 j1 j2 j3 j4 j5 j6 j7 j8 j10 j11 j12 j13 j14 j15 j16 j17 j18 j19 j20 j21 j22 j23 j24 j25 j26 j27 j28 j29 j30 j31 j32 j33 j34 j35 j36 j37 j38 j39 j40 j41 j42 j43 j44 j45 j46 j47 j48 j49 j50 j51 j52 j53 j54 j55 j56 j57 j58 j59 j60 j61 j62 j63 j64 j65 j66 j67 j68 j69 j70 j71 : Value, a = (⟨#[j0, j1, j2, j3, j4, j5, j6, j7, j8, .int .i64 S.f, j10, j11, j12, j13, j14, j15, j16, j17, j18, j19, j20, j21, j22, j23, j24, j25, j26, j27, j28, j29, j30, j31, j32, j33, j34, j35, j36, j37, j38, j39, j40, j41, j42, j43, j44, j45, j46, j47, j48, j49, j50, j51, j52, j53, j54, j55, j56, j57, j58, j59, j60, j61, j62, j63, j64, j65, j66, j67, j68, j69, j70, j71], []⟩ : Act) ∧ ∃ A1 c1, SrAt wr b 170 (fun k => S.by_.getD k (-1)) A1 S.q.length c1 ∧ Own wr w0.heap.size 3 A1 S.q.length c1 (ci64 S.q) ∧ Below w0.heap.size w0 wr) (fun _ _ => 0) (by rfl) ?_ ?_
  rotate_left
  · rintro a wr ⟨j0, j1, j2, j3, j4, j5, j6, j7, j8, j10, j11, j12, j13, j14, j15, j16, j17, j18, j19, j20, j21, j22, j23, j24, j25, j26, j27, j28, j29, j30, j31, j32, j33, j34, j35, j36, j37, j38, j39, j40, j41, j42, j43, j44, j45, j46, j47, j48, j49, j50, j51, j52, j53, j54, j55, j56, j57, j58, j59, j60, j61, j62, j63, j64, j65, j66, j67, j68, j69, j70, j71, rfl, A1, c1, f1, f2, f3⟩
    go_wp2
    rw [jump_ret]
    go_ret
    exact ⟨A1, c1, rfl, f1, f2, f3⟩
  go_wp2_with fail
  go_loopw [9, 10] (fun o v wr => ∃ (k : Nat) (s : St) (A1 : Option Addr) (c1 : Nat), k ≤ s.q.length ∧ s.q.length ≤ m1 + 1 ∧ o = .int .i64 (-1) ∧ v = .int .i64 k ∧ SrAt wr b 170 (fun k => s.by_.getD k (-1)) A1 s.q.length c1 ∧ Own wr w0.heap.size 3 A1 s.q.length c1 (ci64 s.q) ∧ Hid (Core g m1 zs i1 on s ∧ s.f = -1 ∧ runP g zs on (m1 + 2 - k) k s = S) ∧ Below w0.heap.size w0 wr) (fun _ v _ => m1 + 2 - (intOf v).toNat)
  case atStart => exact ⟨0, startP m1 i1, AW, cW, Nat.zero_le _, by simp [startP], rfl, rfl, bS0, own0, hs0, hB⟩
  case round =>
    obtain ⟨k, s, A1, c1, hk, hql, rfl, rfl, aS, hoq, hcore, hbel⟩ := hrel
    clear bS0 own0 hs0 hB
    have aW := aS.waits
    by_cases hkq : k < s.q.length
    · have hkq' : (k : Int) < s.q.length := by omega
      obtain ⟨p1, q1, rfl, hp1, y0, hy0, hcy⟩ := hoq.rd.get hkq
      rw [ci64_get _ _ hkq] at hy0
      obtain rfl : iV s.q[k] = y0 := Option.some.inj hy0
      unfold iV at hcy
      have hbm : s.q[k] ∈ s.q := List.getElem_mem hkq
      have hbr := hcore.out.1.rng _ hbm
      have hget : s.q[k]? = some s.q[k] := List.getElem?_eq_getElem hkq
      rw [HG.out] at hbr
      obtain ⟨a, ha⟩ : ∃ a, s.q[k] = a := ⟨_, rfl⟩
      rw [ha] at hcy hbr hbm hget
      obtain ⟨d, rfl⟩ : ∃ d : Nat, a = d := ⟨a.toNat, by omega⟩
      have hbn : d < n0 := by omega
      have hbn' : (d : Int) < n0 := by omega
      have hb0 : (0 : Int) ≤ d := by omega
      obtain ⟨p, q, u, rfl, hgu, hp, hcu, hku⟩ := gr_get hx HG0.out hbn
      have hrl := hrs.out d hbn
      rw [hgu] at hrl
      have hun := hku.len
      have hutop := Nat.le_trans hku.cap hku.top
      unfold maxLen at hutop
      have hu8 : u.n ≤ m1 := by rw [← hun]; exact rises_len hrl
      have hrdu := hku.rd
      obtain ⟨uA, un, uc, l⟩ := u
      simp only at hcu hun hu8 hrdu hrl hgu hutop
      have HRL := Lib.hid hrl
      have HUN := Lib.hid hun
      have hrun : runP g zs on (m1 + 2 - (k + 1)) (k + 1) (scanP zs on d l s) = S := by
        have h5 := hcore.out.2.2
        rw [show m1 + 2 - k = (m1 + 2 - (k + 1)) + 1 by omega, run_next hcore.out.2.1 hget, Int.toNat_natCast, hgu] at h5
        exact h5
      obtain ⟨S1, hS1⟩ : ∃ S1, scanP zs on d l s = S1 := ⟨_, rfl⟩
      rw [hS1] at hrun
      have HRUN := Lib.hid hrun
      have h30 : Hid (Core g m1 zs i1 on s ∧ s.f = -1 ∧ (d : Int) ∈ s.q ∧ scanP zs on d (l.drop 0) s = S1) := Lib.hid ⟨hcore.out.1, hcore.out.2.1, hbm, by rw [List.drop_zero]; exact hS1⟩
      have HGU := Lib.hid hgu
      obtain ⟨wo, rfl⟩ : ∃ wo, wo = wr := ⟨_, rfl⟩
      have hcu0 : wo.cell? ⟨p, q + d, none⟩ = some (.slice uA un uc) := (hbel.cell (p := ⟨p, q + d, none⟩) hp).trans hcu
      clear hy0 ha hbr hbm hget hrl hun hrun hS1 hku hgu hcore hcu
      go_wp2_with fail
      clear hcy hcu0 aW
      go_loopw [9, 36] (fun o v wr => ∃ (r : Nat) (s2 : St) (A1 : Option Addr) (c1 : Nat), r ≤ un ∧ k < s2.q.length ∧ s2.q.length ≤ m1 + 1 ∧ o = .int .i64 (-1) ∧ v = .int .i64 r ∧ SrAt wr b 170 (fun k => s2.by_.getD k (-1)) A1 s2.q.length c1 ∧ Own wr w0.heap.size 3 A1 s2.q.length c1 (ci64 s2.q) ∧ Hid (Core g m1 zs i1 on s2 ∧ s2.f = -1 ∧ (d : Int) ∈ s2.q ∧ scanP zs on d (l.drop r) s2 = S1) ∧ Below w0.heap.size w0 wr) (fun _ v _ => un - (intOf v).toNat)
      case atStart => exact ⟨0, s, _, c1, Nat.zero_le _, hkq, hql, rfl, rfl, aS, hoq, h30, hbel⟩
      case round =>
        obtain ⟨r, s2, A3, c3, hr, hk2, hq2, rfl, rfl, aS3, ho3, hin, hb3⟩ := hrel
        clear aS hoq h30 hbel
        have aW3 := aS3.waits
        by_cases hru : r < un
        · have hru' : (r : Int) < un := by omega
          obtain ⟨p2, q2, rfl, hp2, y0, hy0, hcl⟩ := hrdu.get hru
          have hrl : r < l.length := by rw [HUN.out]; exact hru
          rw [ci64_get _ _ hrl] at hy0
          obtain rfl : iV l[r] = y0 := Option.some.inj hy0
          unfold iV at hcl
          have hkr := HRL.out.1 _ (List.getElem_mem hrl)
          have hkm : l[r] ∈ g.getD d [] := by rw [HGU.out]; exact List.getElem_mem hrl
          have hdr : l.drop r = l[r] :: l.drop (r + 1) := List.drop_eq_getElem_cons hrl
          obtain ⟨kk, hkk⟩ : ∃ kk, l[r] = kk := ⟨_, rfl⟩
          rw [hkk] at hcl hkr hkm hdr
          obtain ⟨kn, rfl⟩ : ∃ y : Nat, kk = y := ⟨kk.toNat, by omega⟩
          have hclr : wr.cell? ⟨p2, q2 + r, none⟩ = some (.int .i64 (kn : Int)) := (hb3.cell (p := ⟨p2, q2 + r, none⟩) hp2).trans hcl
          have hkn8 : kn < 8 := by omega
          have hkn8' : (kn : Int) < 8 := by omega
          have hkn0 : (0 : Int) ≤ kn := by omega
          have hknj : kn < m1 := by omega
          have hsc : scanP zs on d (l.drop (r + 1)) (visitP zs on d s2 (kn : Int)) = S1 := by
            have h5 := hin.out.2.2.2
            rw [hdr] at h5
            exact h5
          have hcv := visit_core (on := on) hfit.out (from_ := (i1 : Int)) (by rw [Int.toNat_natCast]; exact hf0.out) hin.out.1 hin.out.2.2.1 (k := (kn : Int)) ⟨by omega, by omega⟩ (by rw [Int.toNat_natCast]; exact hkm)
          have hql2 := q_len hcv
          have hbq := mem_of_vis_q zs on (i := (d : Int)) (kn : Int) hin.out.2.2.1
          have hbl : kn < s2.by_.length := by rw [hin.out.1.len]; exact hknj
          have hcb := aS3.cell hkn8
          have hfr := aS3.frozen kn
          obtain ⟨y, hy⟩ : ∃ y, s2.by_.getD kn (-1) = y := ⟨_, rfl⟩
          have hgd := hy
          have hcb2 : wr.cell? ⟨b, kn, none⟩ = some (.int .i64 y) := by rw [hcb, hy]
          have hfn := hin.out.2.1
          clear hy0 hkk hkr hkm hdr hrl hcl hcb hy
          by_cases hy1 : y = -1
          · have k1 : (y != -1) = false := by rw [hy1]; rfl
            have hsn : s2.by_.getD (kn : Int).toNat (-1) = -1 := by rw [Int.toNat_natCast, hgd]; exact hy1
            obtain ⟨h, hh⟩ : ∃ h, holder zs (kn : Int) = h := ⟨_, rfl⟩
            have hhr := holder_rng zs (kn : Int)
            have hvh := visit_held (on := on) (i := (d : Int)) (has := zs) hfn hsn
            have hvf := visit_free (i := (d : Int)) (has := zs) hfn hsn
            have hvt := visit_hit (i := (d : Int)) (has := zs) hfn hsn
            rw [hh] at hhr hvh hvf hvt
            rw [Int.toNat_natCast] at hvh hvf hvt
            have h8 := HNB.out
            have aS4 := aS3.set (v := (d : Int)) (F' := fun j => (s2.by_.set kn (d : Int)).getD j (-1)) hkn8 (fun j _ => getD_set hbl)
            have hq3 := ho3.setS aS3 (by decide) kn (.int .i64 (d : Int))
            have hbs := hb3.setCell (p := ⟨b, kn, none⟩) hb (.int .i64 (d : Int))
            have HSC := Lib.hid hsc
            have HCV := Lib.hid hcv
            have HBQ := Lib.hid hbq
            have HQL := Lib.hid hql2
            have HVH := Lib.hid hvh
            have HVF := Lib.hid hvf
            have HVT := Lib.hid hvt
            have HH := Lib.hid hh
            clear hsc hcv hbq hvh hvf hvt hh hy1 hgd hfn hsn hql2
            go_wp2_with fail
            generalize wr.setCell ⟨b, kn, none⟩ (.int .i64 (d : Int)) = ws at *
            have hrw := pindex_any A n c zs (kn : Int) ws (hur.below hbs) hut
            rw [HH.out] at hrw
            refine hrw.mono ?_
            rintro e w8 ⟨rfl, rfl⟩
            clear hrw aS3 ho3 hfr hcb2 k1 hclr aW3
            have aW4 := aS4.waits
            by_cases hh1 : 0 ≤ h
            · have k2 : decide (0 ≤ h) = true := decide_eq_true hh1
              have hvn := HVH.out hh1
              have hq4 : s2.q.length + 1 ≤ m1 + 1 := by
                have := HQL.out
                rw [hvn] at this
                simpa using this
              have HN : Hid (Core g m1 zs i1 on ⟨s2.q ++ [h], s2.by_.set kn (d : Int), -1⟩ ∧ (St.mk (s2.q ++ [h]) (s2.by_.set kn (d : Int)) (-1)).f = -1 ∧ (d : Int) ∈ (St.mk (s2.q ++ [h]) (s2.by_.set kn (d : Int)) (-1)).q ∧ scanP zs on d (l.drop (r + 1)) ⟨s2.q ++ [h], s2.by_.set kn (d : Int), -1⟩ = S1) := Lib.hid (by
                rw [← hvn]; exact ⟨HCV.out, by rw [hvn], HBQ.out, HSC.out⟩)
              have hbsz := hbs.size
              clear hvn
              go_wp2_with (at_builtin; go_must (refine wpList_app1 w8 rfl _ _ 22 rfl 3 i0 _ 8 Tryz.underlying22 hi0 hz0 hz1 hz2 rfl w0.heap.size A3 s2.q.length c3 _ rfl hq3 1 rfl rfl ?d3 ?d4 ?d5 ?_))
              case d3 => simp only [maxLen]; omega
              case d4 => omega
              try case d5 => exact hbsz
              intro A5 c5 w5 hown5 hbel5 hfr5 hat5
              have aS5 := aS4.app hq3 (by decide) (fun k hk hh => hfr5 k hk (by simpa using hh))
              have aW5 := aS5.waits
              have aF5 := aS5.frozen 8
              have hq5 : Own w5 w0.heap.size 3 A5 (s2.q ++ [h]).length c5 (ci64 (s2.q ++ [h])) := by
                rw [ci64_snoc6, List.length_append, List.length_singleton]
                exact hown5
              have aS6 := aS5.setW A5 (s2.q ++ [h]).length c5
              have hq6 := hq5.setS aS5 (by decide) 8 (.slice A5 (s2.q ++ [h]).length c5)
              have hbs6 := (hbs.trans hbel5).setCell (p := ⟨b, 8, none⟩) hb (.slice A5 (s2.q ++ [h]).length c5)
              rw [List.length_append, List.length_singleton] at aS6 hq6 hbs6
              clear hown5 hbel5 hfr5 hat5 hq3 aS4 aW4 hq5 aS5 hbs
              go_wp2
              go_roundw
              case rel => exact ⟨r + 1, ⟨s2.q ++ [h], s2.by_.set kn (d : Int), -1⟩, A5, c5, by omega, by simp; omega, by simp; omega, rfl, by go_num, by simpa using aS6, by simpa using hq6, Lib.hid ⟨HN.out.1, rfl, HN.out.2.2.1, HN.out.2.2.2⟩, hbs6⟩
              case measure => simp [intOf]; omega
            · obtain rfl : h = -1 := by omega
              have k2 : decide ((0 : Int) ≤ -1) = false := rfl
              cases on
              · have hvn := HVT.out rfl
                have hS1 : S1 = ⟨s2.q, s2.by_.set kn (d : Int), (kn : Int)⟩ := by
                  rw [← HSC.out, hvn, scan_stop]
                  simp only; omega
                have hS2 : S = ⟨s2.q, s2.by_.set kn (d : Int), (kn : Int)⟩ := by
                  rw [← HRUN.out, hS1, run_stop (by simp only; omega)]
                have hfin : Hid (S.f = (kn : Int) ∧ S.q = s2.q ∧ S.by_ = s2.by_.set kn (d : Int)) := Lib.hid (by rw [hS2]; exact ⟨rfl, rfl, rfl⟩)
                obtain rfl : en = true := HEN.out.symm
                clear hvn hS1 hS2
                go_wp2
                go_step3
                refine (?_ : (0 = 0 ∧ (fun a wr => ∃ j0 j1 j2 j3 j4 j5 j6 j7 j8 j10 j11 j12 j13 j14 j15 j16 j17 j18 j19 j20 j21 j22 j23 j24 j25 j26 j27 j28 j29 j30 j31 j32 j33 j34 j35 j36 j37 j38 j39 j40 j41 j42 j43 j44 j45 j46 j47 j48 j49 j50 j51 j52 j53 j54 j55 j56 j57 j58 j59 j60 j61 j62 j63 j64 j65 j66 j67 j68 j69 j70 j71 : Value, a = (⟨#[j0, j1, j2, j3, j4, j5, j6, j7, j8, .int .i64 S.f, j10, j11, j12, j13, j14, j15, j16, j17, j18, j19, j20, j21, j22, j23, j24, j25, j26, j27, j28, j29, j30, j31, j32, j33, j34, j35, j36, j37, j38, j39, j40, j41, j42, j43, j44, j45, j46, j47, j48, j49, j50, j51, j52, j53, j54, j55, j56, j57, j58, j59, j60, j61, j62, j63, j64, j65, j66, j67, j68, j69, j70, j71], []⟩ : Act) ∧ ∃ A1 c1, SrAt wr b 170 (fun k => S.by_.getD k (-1)) A1 S.q.length c1 ∧ Own wr w0.heap.size 3 A1 S.q.length c1 (ci64 S.q) ∧ Below w0.heap.size w0 wr) _ w8))
                refine ⟨rfl, _, _, _, _, _, _, _, _, _, _, _, _, _, _, _, _, _, _, _, _, _, _, _, _, _, _, _, _, _, _, _, _, _, _, _, _, _, _, _, _, _, _, _, _, _, _, _, _, _, _, _, _, _, _, _, _, _, _, _, _, _, _, _, _, _, _, _, _, _, _, _, by rw [hfin.out.1], A3, c3, ?_, ?_, hbs⟩
                · rw [hfin.out.2.1, hfin.out.2.2]; exact aS4
                · rw [hfin.out.2.1]; exact hq3
              · have hvn := HVF.out rfl
                have HN : Hid (Core g m1 zs i1 true ⟨s2.q, s2.by_.set kn (d : Int), -1⟩ ∧ (St.mk s2.q (s2.by_.set kn (d : Int)) (-1)).f = -1 ∧ (d : Int) ∈ (St.mk s2.q (s2.by_.set kn (d : Int)) (-1)).q ∧ scanP zs true d (l.drop (r + 1)) ⟨s2.q, s2.by_.set kn (d : Int), -1⟩ = S1) := Lib.hid (by
                  rw [← hvn]; exact ⟨HCV.out, by rw [hvn], HBQ.out, HSC.out⟩)
                obtain rfl : en = false := HEN.out.symm
                clear hvn
                go_wp2
                go_roundw
                case rel => exact ⟨r + 1, ⟨s2.q, s2.by_.set kn (d : Int), -1⟩, A3, c3, by omega, hk2, hq2, rfl, by go_num, aS4, hq3, Lib.hid ⟨HN.out.1, rfl, HN.out.2.2.1, HN.out.2.2.2⟩, hbs⟩
                case measure => simp [intOf]; omega
          · have k1 : (y != -1) = true := by rw [bne_iff_ne]; exact hy1
            rw [visit_old (by rw [Int.toNat_natCast, hgd]; exact hy1)] at hsc
            have HN : Hid (Core g m1 zs i1 on s2 ∧ s2.f = -1 ∧ (d : Int) ∈ s2.q ∧ scanP zs on d (l.drop (r + 1)) s2 = S1) := Lib.hid ⟨hin.out.1, hin.out.2.1, hin.out.2.2.1, hsc⟩
            clear hsc hcv hbq hgd hfn hy1 hql2
            go_wp2
            go_roundw
            case rel => exact ⟨r + 1, s2, A3, c3, by omega, hk2, hq2, rfl, by go_num, aS3, ho3, HN, hb3⟩
            case measure => simp [intOf]; omega
        · obtain rfl : r = un := by omega
          have HN : Hid (Core g m1 zs i1 on s2 ∧ s2.f = -1 ∧ runP g zs on (m1 + 2 - (k + 1)) (k + 1) s2 = S) := Lib.hid (by
            have h5 := hin.out.2.2.2
            rw [List.drop_of_length_le (by rw [HUN.out]; exact Nat.le_refl _)] at h5
            have h6 : s2 = S1 := h5
            exact ⟨hin.out.1, hin.out.2.1, by rw [h6]; exact HRUN.out⟩)
          clear hin
          go_wp2
          go_roundw
          case rel => exact ⟨k + 1, s2, A3, c3, by omega, hq2, rfl, by go_num, aS3, ho3, HN, hb3⟩
          case measure => simp [intOf]; omega
    · obtain rfl : k = s.q.length := by omega
      have hfin : Hid (S.f = -1 ∧ S.q = s.q ∧ S.by_ = s.by_) := Lib.hid (by
        have h5 := hcore.out.2.2
        rw [run_over (Nat.le_refl _)] at h5
        rw [← h5]; exact ⟨hcore.out.2.1, rfl, rfl⟩)
      clear hcore
      go_wp2
      go_step3
      go_wp2
      rw [jump_ret]
      go_ret
      refine ⟨A1, c1, by rw [hfin.out.1]; rfl, ?_, ?_, hbel⟩
      · rw [hfin.out.2.1, hfin.out.2.2]; exact aS
      · rw [hfin.out.2.1]; exact hoq
end Go.Proofs.YtdckoaljcklmhaaGreatDoor


namespace Go.Proofs.YtdckoaljcklmhaaGreatDoor
open Go.RowKit
set_option linter.unusedVariables false

set_option maxRecDepth 100000 in
set_option maxHeartbeats 1000000 in
theorem pclone_any (A : Option Addr) (n c : Nat) (zs : List Int) (w : World) (hu : Ls.Ok w ⟨A, n, c, zs⟩) (hn : 0 < n) (h8 : n ≤ 8) :
    Calls Tryz.prog 25 #[.slice A n c] w fun e w' => ∃ A' c', e = .returned (.slice A' n c') ∧ OwnI w' w.heap.size ⟨A', n, c', zs⟩ ∧ Below w.heap.size w w' := by
  obtain ⟨i0, hi0, hz0, hz1, hz2⟩ := info_parts infoR_int
  have hrd := hu.rd
  have hfit := Lib.hid hu.fit
  simp only at hrd
  obtain ⟨p, q, rfl, hp, _⟩ := hrd.get hn
  have q25 : ∀ (v : World) (a : Option Addr) (n c n' c' : Nat), (binOp .eql 22 (.slice a n c) (.slice none n' c')).run Tryz.prog v = .ok (.bool a.isNone) v := fun v a n c n' c' => Lib.run_eql_slice_nil v _ _ a n c n' c' Tryz.underlying22
  go_enter Tryz.func25, Tryz.ntmps25
  have hb1 : Below w.heap.size w (w.alloc (.cells #[] 3)) := (Below.refl _ w).alloc (Nat.le_refl _) _
  have hrd1 := hrd.below hb1
  have hsz := hb1.size
  have hown := Own.none_ (w.alloc (.cells #[] 3)) w.heap.size 3 (some ⟨w.heap.size, 0, none⟩)
  go_wp2_with (at_builtin; go_must (refine wpList_app (w.alloc (.cells #[] 3)) rfl _ _ 22 rfl 3 i0 _ 8 Tryz.underlying22 hi0 hz0 hz1 hz2 rfl w.heap.size _ 0 0 [] rfl hown _ n c (ci64 zs) rfl hrd1 ?d1 ?d2 ?d3 ?d4 ?_))
  case d1 => intro u hu; obtain ⟨z, _, rfl⟩ := List.mem_map.1 hu; rfl
  case d2 => simp only [maxLen]; omega
  case d3 => omega
  try case d4 => exact hsz
  intro A2 c2 w2 hown2 hbel2 _ _
  have hb2 := hb1.trans hbel2
  clear hown hrd1 hb1 hbel2 hrd
  generalize w.alloc (.cells #[] 3) = w1 at *
  go_wp2
  go_ret
  exact ⟨A2, c2, rfl, ⟨hown2, hfit.out⟩, hb2⟩

set_option maxRecDepth 100000 in
set_option maxHeartbeats 1000000 in
theorem palong_any {g : List (List Int)} {M : Nat} {i : Int} {S : St} (A : Option Addr) (n c : Nat) (zs : List Int) (b : Nat) (AW : Option Addr) (nW cW : Nat) (w : World) (hu : Ls.Ok w ⟨A, n, c, zs⟩) (hn : 0 < n) (h8 : n ≤ 8) (hM8 : M ≤ 8)
    (hfit : Fit g M zs) (hf0 : zs.getD i.toNat (-1) = -1) (hc : Core g M zs i false S) (hf : S.f ≠ -1) (aS : SrAt w b 170 (fun k => S.by_.getD k (-1)) AW nW cW) :
    Calls Tryz.prog 151 #[.pointer (some ⟨b, 0, none⟩), .slice A n c, .int .i64 S.f] w fun e w' => ∃ A' c', e = .returned (.slice A' n c') ∧ OwnI w' w.heap.size ⟨A', n, c', augP S.by_ (M + 2) S.f zs⟩ ∧ Below w.heap.size w w' := by
  obtain ⟨r0, hr0, htrk⟩ := trk_start hfit hc hf
  have HZ := Lib.hid (show zs.length = n from hu.len)
  have HGL := Lib.hid hfit.len
  have HF := Lib.hid hfit
  have HF0 := Lib.hid hf0
  have HC := Lib.hid hc
  have hrd := hu.rd
  simp only at hrd
  have hzfit := Lib.hid hu.fit
  obtain ⟨R, hR⟩ : ∃ R, augP S.by_ (M + 2) S.f zs = R := ⟨_, rfl⟩
  have HR : Hid (augP S.by_ (M + 2) S.f zs = R) := Lib.hid hR
  rw [hR]
  have hst : Hid ((S.f = -1 ∨ ∃ r, r < M + 2 ∧ Trk g M zs S zs S.f r) ∧ zs.length = n ∧ augP S.by_ (M + 2) S.f zs = R ∧ ∀ z ∈ zs, -9223372036854775808 ≤ z ∧ z ≤ 9223372036854775807) := Lib.hid ⟨.inr ⟨r0, by omega, htrk⟩, HZ.out, hR, hzfit.out⟩
  obtain ⟨k0, hk0⟩ : ∃ k, S.f = k := ⟨_, rfl⟩
  rw [hk0] at hst ⊢
  have hcl := pclone_any A n c zs w hu hn h8
  clear hR hk0 htrk hfit hf0 hc hf
  go_enter Tryz.func151, Tryz.ntmps151
  go_wp2_with fail
  refine hcl.mono ?_
  rintro e w1 ⟨A1, c1, rfl, hO, hB⟩
  clear hcl
  have aS1 := aS.below hB
  have own1 := hO.own
  simp only at own1
  clear hO aS
  have hle := own1.le
  obtain ⟨g1, rfl, hg1w, hg1r⟩ := own1.lt (by omega)
  have hblt := aS1.lt
  go_wp2_with fail
  go_loopg [8] (M + 2) (fun f v wr => ∃ (k : Int) (out : List Int), v = .int .i64 k ∧ Hid ((k = -1 ∨ ∃ r, r < f ∧ Trk g M zs S out k r) ∧ out.length = n ∧ augP S.by_ f k out = R ∧ ∀ z ∈ out, -9223372036854775808 ≤ z ∧ z ≤ 9223372036854775807) ∧ Own wr w.heap.size 3 (some ⟨g1, 0, none⟩) n c1 (ci64 out) ∧ SrAt wr b 170 (fun k => S.by_.getD k (-1)) AW nW cW ∧ Below w.heap.size w wr)
  case atStart => exact ⟨k0, zs, rfl, hst, own1, aS1, hB⟩
  case round =>
    obtain ⟨k, out, rfl, hin, own, aS, hBr⟩ := hrel
    clear hst own1 aS1 hB
    by_cases hk : k = -1
    · have hk1 : (k != -1) = false := by rw [hk]; rfl
      have hfin : Hid (out = R ∧ ∀ z ∈ out, -9223372036854775808 ≤ z ∧ z ≤ 9223372036854775807) := Lib.hid (by
        have h5 := hin.out.2.2.1
        rw [hk, aug_end] at h5
        exact ⟨h5, hin.out.2.2.2⟩)
      clear hk
      go_wp2
      go_ret
      refine ⟨_, _, rfl, ?_, hBr⟩
      rw [← hfin.out.1]
      exact ⟨own, hfin.out.2⟩
    · have hk1 : (k != -1) = true := by rw [bne_iff_ne]; exact hk
      obtain ⟨r, hr, htrk⟩ := hin.out.1.resolve_left hk
      have hk0r := htrk.k0
      obtain ⟨kn, rfl⟩ : ∃ y : Nat, k = y := ⟨k.toNat, by omega⟩
      have hkn8 : kn < 8 := by omega
      have hkn8' : (kn : Int) < 8 := by omega
      have hkn0 : (0 : Int) ≤ kn := by omega
      obtain ⟨y, hy⟩ : ∃ y, S.by_.getD kn (-1) = y := ⟨_, rfl⟩
      obtain ⟨hb1, hob, hnx⟩ := trk_step HF.out HF0.out HC.out (b := y) htrk (by rw [Int.toNat_natCast]; exact hy)
      have hcb : wr.cell? ⟨b, kn, none⟩ = some (.int .i64 y) := by rw [aS.cell hkn8, hy]
      have haug := aug_next (by_ := S.by_) (fuel := gk - 1) (k := (kn : Int)) (b := y) (out := out) hk (by rw [Int.toNat_natCast]; exact hy)
      rw [show gk - 1 + 1 = gk by omega, hin.out.2.2.1] at haug
      obtain ⟨d, rfl⟩ : ∃ d : Nat, y = d := ⟨y.toNat, by omega⟩
      rw [Int.toNat_natCast] at hob hnx haug
      have hdn : d < n := by rw [← HZ.out, HGL.out]; omega
      have hdn' : (d : Int) < n := by omega
      have hd0 : (0 : Int) ≤ d := by omega
      obtain ⟨p, q, rfl, hp, u0, hu0, hc0⟩ := hrd.get hdn
      have hdl : d < zs.length := by rw [HZ.out]; exact hdn
      rw [ci64_get _ _ hdl] at hu0
      obtain rfl : iV zs[d] = u0 := Option.some.inj hu0
      unfold iV at hc0
      have hzd : zs.getD d (-1) = zs[d] := by rw [List.getD_eq_getElem?_getD, List.getElem?_eq_getElem hdl]; rfl
      rw [hzd] at hob hnx
      rw [hob] at haug
      obtain ⟨a, ha⟩ : ∃ a, zs[d] = a := ⟨_, rfl⟩
      rw [ha] at hc0 hnx haug
      have hcr : wr.cell? ⟨p, q + d, none⟩ = some (.int .i64 a) := (hBr.cell (p := ⟨p, q + d, none⟩) hp).trans hc0
      obtain ⟨vo, hvo⟩ : ∃ v, wr.cell? ⟨g1, d, none⟩ = some v := by
        rw [own.cell hdn]
        exact ⟨_, List.getElem?_eq_getElem (by rw [ci64_len, hin.out.2.1]; exact hdn)⟩
      have hfr := own.free (by omega) d
      have own2 := own.set (by omega) d (.int .i64 (kn : Int))
      have e1 : (ci64 out).set d (.int .i64 (kn : Int)) = ci64 (out.set d (kn : Int)) := by simp [ci64, iV]
      rw [e1] at own2
      have hne : b ≠ g1 := by
        intro he
        obtain ⟨cur, h1, _⟩ := aS
        obtain ⟨g', cur', hA, _, hh, _⟩ := own.2.resolve_left (by omega)
        cases hA
        rw [← he, h1] at hh
        exact absurd (Obj.cells.inj (Option.some.inj hh)).2.1 (by decide)
      have aS2 := aS.keep (w' := wr.setCell ⟨g1, d, none⟩ (.int .i64 (kn : Int))) (heap_setCell_other wr ⟨g1, d, none⟩ b (.int .i64 (kn : Int)) hne)
      have hB2 := hBr.setCell (p := ⟨g1, d, none⟩) hg1w (.int .i64 (kn : Int))
      have HN : Hid ((a = -1 ∨ ∃ r, r < gk - 1 ∧ Trk g M zs S (out.set d (kn : Int)) a r) ∧ (out.set d (kn : Int)).length = n ∧ augP S.by_ (gk - 1) a (out.set d (kn : Int)) = R ∧ ∀ z ∈ out.set d (kn : Int), -9223372036854775808 ≤ z ∧ z ≤ 9223372036854775807) := Lib.hid (by
        refine ⟨hnx.imp id ?_, by rw [List.length_set]; exact hin.out.2.1, haug.symm, fun z hz => ?_⟩
        · rintro ⟨r', h1, h2⟩
          exact ⟨r', by omega, h2⟩
        · rcases List.mem_or_eq_of_mem_set hz with h1 | h1
          · exact hin.out.2.2.2 z h1
          · rw [h1]; omega)
      clear hy hob hnx haug hu0 hdl hzd ha hc0 own aS hBr e1 hin htrk hk hb1
      go_wp2
      go_roundg (gk - 1)
      case measure => omega
      case rel => exact ⟨a, out.set d (kn : Int), rfl, HN, own2, aS2, hB2⟩
end Go.Proofs.YtdckoaljcklmhaaGreatDoor


namespace Go.Proofs.YtdckoaljcklmhaaGreatDoor
open Go.RowKit
set_option linter.unusedVariables false

set_option maxRecDepth 100000 in
set_option maxHeartbeats 1000000 in
theorem pmoreC : MoreC 139 := by
  intro x m u z w hx hu hm1 hm2 hz1 hz2
  obtain ⟨A, n, c, zs⟩ := u
  have hmay := pmay_any x m ⟨A, n, c, zs⟩ z w hx hu hm1 hm2
  obtain ⟨β, hβ⟩ : ∃ β, mayP x.g m zs z = β := ⟨_, rfl⟩
  have HM := Lib.hid hβ
  simp only at hmay
  rw [hβ] at hmay
  have hxv : x.v = .slice x.A x.n x.c := rfl
  have HXV := Lib.hid hxv
  rw [hxv] at hmay ⊢
  unfold Ls.v at hmay ⊢
  simp only at hmay ⊢
  clear hβ hxv
  go_enter Tryz.func139, Tryz.ntmps139
  go_wp2_with fail
  refine hmay.mono ?_
  rintro e w1 ⟨rfl, hb1⟩
  clear hmay
  cases β
  · have hbad := Lib.hid (path_bad HM.out)
    go_wp2
    go_ret3
    refine ⟨none, 0, 0, by rw [hbad.out.1, hbad.out.2.1]; rfl, ?_, hb1⟩
    rw [hbad.out.2.2.1]
    exact OwnI.nil _ _
  obtain ⟨M, rfl, hM8, hg8, hzl, i, rfl, hif⟩ := may_nat HM.out
  have HOK := Lib.hid (path_ok HM.out)
  have HG := Lib.hid hx.glen
  have HZ := Lib.hid (show zs.length = n from hu.len)
  rw [hx.glen] at hg8 hif
  have HZL : Hid (n = x.n) := Lib.hid (by rw [← HZ.out, hzl, HG.out])
  clear hzl
  have hbeg := pbegin_any (i : Int) w1 hz1 hz2
  go_wp2_with fail
  refine hbeg.mono ?_
  rintro e w2 ⟨A2, c2, rfl, hO2, hb2⟩
  clear hbeg
  have hB2 := hb1.trans (hb2.mono hb1.size)
  have hO2' := hO2.mono hb1.size
  have bS := SrAt.new w2 170 (-1) A2 1 c2
  have hal : Below w2.heap.size w2 (w2.alloc (.cells #[.int .i64 (-1), .int .i64 (-1), .int .i64 (-1), .int .i64 (-1), .int .i64 (-1), .int .i64 (-1), .int .i64 (-1), .int .i64 (-1), .slice A2 1 c2] 170)) := (Below.refl _ w2).alloc (Nat.le_refl _) _
  have hO3 := hO2'.below hal
  have hB3 := hB2.trans (hal.mono hB2.size)
  have hb := hB2.size
  have hrun := prun_any x M A n c zs i false w2.heap.size A2 c2 w (w2.alloc (.cells #[.int .i64 (-1), .int .i64 (-1), .int .i64 (-1), .int .i64 (-1), .int .i64 (-1), .int .i64 (-1), .int .i64 (-1), .int .i64 (-1), .slice A2 1 c2] 170)) hx hu HM.out hB3 hb bS hO3
  rw [HXV.out, show (!false) = true from rfl] at hrun
  obtain ⟨S, hS⟩ : ∃ S, searchP x.g M zs i false = S := ⟨_, rfl⟩
  have HS := Lib.hid (show moreS x.g M zs i = S from hS)
  rw [hS] at hrun
  clear hO2 hO2' hO3 hal hb1 hb2 hS
  go_wp2_with fail
  obtain ⟨sb, hsb⟩ : ∃ sb, sb = w2.heap.size := ⟨_, rfl⟩
  rw [← hsb] at hrun bS hb ⊢
  generalize w2.alloc (.cells #[.int .i64 (-1), .int .i64 (-1), .int .i64 (-1), .int .i64 (-1), .int .i64 (-1), .int .i64 (-1), .int .i64 (-1), .int .i64 (-1), .slice A2 1 c2] 170) = w3 at *
  clear hsb
  refine hrun.mono ?_
  rintro e w4 ⟨A4, c4, rfl, aS, own, hB4⟩
  clear hrun bS hB3
  by_cases hf : S.f = -1
  · have hk : (S.f == -1) = true := by rw [hf]; rfl
    have hbad : Hid (pathErr x.g M zs i = 0 ∧ moreB x.g M zs i = false ∧ moreL x.g M zs i = []) := Lib.hid (by
      obtain ⟨h1, h2, h3, _⟩ := HOK.out
      refine ⟨h1, h2.trans ?_, h3.trans ?_⟩
      · rw [foundP, HS.out]; exact decide_eq_false (fun h => h hf)
      · rw [moreP, HS.out, if_pos hf])
    clear hf
    go_wp2
    go_ret3
    refine ⟨none, 0, 0, by rw [hbad.out.1, hbad.out.2.1]; rfl, ?_, hB4⟩
    rw [hbad.out.2.2]
    exact OwnI.nil _ _
  · have hk : (S.f == -1) = false := by rw [beq_eq_false_iff_ne]; exact hf
    have hgood : Hid (pathErr x.g M zs i = 0 ∧ moreB x.g M zs i = true ∧ moreL x.g M zs i = augP S.by_ (M + 2) S.f zs) := Lib.hid (by
      obtain ⟨h1, h2, h3, _⟩ := HOK.out
      refine ⟨h1, h2.trans ?_, h3.trans ?_⟩
      · rw [foundP, HS.out]; exact decide_eq_true hf
      · rw [moreP, HS.out, if_neg hf])
    have hn0 : 0 < n := by rw [HZL.out]; omega
    have hn8 : n ≤ 8 := by rw [HZL.out]; exact hg8
    have hcore : Core x.g M zs i false S := by
      have := (done_of (on := false) HM.out).core
      rwa [show searchP x.g M zs i false = S from HS.out] at this
    have hal := palong_any A n c zs sb A4 _ c4 w4 (hu.below hB4) hn0 hn8 hM8 (may_fits HM.out) (mayP_iff.1 HM.out).2.2 hcore hf aS
    obtain ⟨k, hk2⟩ : ∃ k, S.f = k := ⟨_, rfl⟩
    obtain ⟨R, hR⟩ : ∃ R, augP S.by_ (M + 2) S.f zs = R := ⟨_, rfl⟩
    rw [hR] at hal hgood
    rw [hk2] at hal hk ⊢
    clear hf hk2 hR hcore aS
    go_wp2_with fail
    refine hal.mono ?_
    rintro e w5 ⟨A5, c5, rfl, hO5, hb5⟩
    clear hal
    have hO5' := hO5.mono hB4.size
    have hB5 := hB4.trans (hb5.mono hB4.size)
    clear hO5 hb5
    go_wp2
    go_ret3
    refine ⟨A5, n, c5, by rw [hgood.out.1, hgood.out.2.1]; rfl, ?_, hB5⟩
    rw [hgood.out.2.2]
    exact hO5'
end Go.Proofs.YtdckoaljcklmhaaGreatDoor

