/-
  Walks of the document's own disk: a write that may be, a copy.
-/
import Derived.Test.YthgbenncheoemaaDoorRef03
namespace Go.Proofs.YthgbenncheoemaaDoor
open Go.RowKit
set_option linter.unusedVariables false

/-- What is blown has nothing left. -/
def Dk.Sane (d : Dk) : Prop := d.blown = true → d.left = 0
theorem sane_asked {d : Dk} (h : d.Sane) : d.asked.Sane := by
  rcases Int.lt_trichotomy d.left 0 with hl | hl | hl
  · rw [asked_neg hl]; exact h
  · rw [asked_zero hl]; exact fun _ => hl
  · rw [asked_pos hl]
    intro hb
    have := h hb
    omega
theorem sane_write {d : Dk} (h : d.Sane) (n : Nat) (bs : List UInt8) : (d.write n bs).Sane := by
  have ha := sane_asked h
  unfold Dk.write
  split
  · exact ha
  · exact ha
theorem write_of_blown {d : Dk} (h : d.Sane) (hb : d.blown = true) (n : Nat) (bs : List UInt8) : d.write n bs = d := by
  rw [Dk.write, if_pos (h hb), asked_zero (h hb)]
  cases d
  simp_all

section
variable {w : World} {B q : Nat} {d : Dk} {A : Option Addr} {c : Nat} {gs : List Nat}
/-- A sector's bytes are others, in its own block. -/
theorem RfAt.fill (h : RfAt w B q d A c gs) (hnd : gs.Nodup) {n g : Nat} (hn : n < d.ss.length) (hg : gs[n]? = some g) (s : List UInt8) (hs : s.length = 64) :
    RfAt (w.setRow g (cu8 s).toArray) B q { d with ss := d.ss.set n s } A c gs := by
  have hgl := h.gl
  obtain ⟨hBg, hrow⟩ := h.row n g _ hg (List.getElem?_eq_getElem hn)
  have hoth : ∀ (b : Nat) (cs : Array Value) (t : TypeId), t ≠ 5 → w.heap[b]? = some (.cells cs t (0, 0)) → (w.setRow g (cu8 s).toArray).heap[b]? = w.heap[b]? := by
    intro b cs t ht hb
    refine setRow_other _ _ _ _ ?_
    rintro rfl
    rw [hrow] at hb
    cases hb
    exact ht rfl
  refine ⟨?_, h.hB, ?_, fun j g' t hg' ht => ?_, fun t ht => ?_, by simpa using h.top, h.lo, h.hi⟩
  · rw [hoth _ _ _ (by decide) h.hq, h.hq]
    simp [Dk.rcells]
  · show Own _ B 42 A (d.ss.set n s).length c _
    rw [List.length_set]
    refine ⟨h.own.1, ?_⟩
    rcases h.own.2 with h0 | ⟨b, cur, hA, hB, hh, r⟩
    · exact .inl h0
    · exact .inr ⟨b, cur, hA, hB, by rw [hoth _ _ _ (by decide) hh]; exact hh, r⟩
  · have ht' : (d.ss.set n s)[j]? = some t := ht
    by_cases hj : j = n
    · subst hj
      rw [List.getElem?_set_self hn] at ht'
      cases ht'
      obtain rfl : g = g' := by rw [hg] at hg'; exact Option.some.inj hg'
      exact ⟨hBg, setRow_heap w g _ _ _ _ hrow⟩
    · rw [List.getElem?_set_ne (by omega)] at ht'
      obtain ⟨a, b⟩ := h.row j g' t hg' ht'
      refine ⟨a, ?_⟩
      rw [setRow_other _ _ _ _ ?_]
      · exact b
      · rintro rfl
        obtain ⟨k1, e1⟩ := List.getElem?_eq_some_iff.1 hg
        obtain ⟨k2, e2⟩ := List.getElem?_eq_some_iff.1 hg'
        have hp := List.pairwise_iff_getElem.1 hnd
        rcases Nat.lt_or_gt_of_ne hj with hx | hx
        · exact hp j n k2 k1 hx (e2.trans e1.symm)
        · exact hp n j k1 k2 hx (e1.trans e2.symm)
  · have ht' : t ∈ d.ss.set n s := ht
    rcases List.mem_or_eq_of_mem_set ht' with h1 | h1
    · exact h.len t h1
    · rw [h1]; exact hs
end

set_option maxRecDepth 100000 in
set_option maxHeartbeats 1000000 in
theorem refwrite_zero (B q : Nat) (d : Dk) (A : Option Addr) (c : Nat) (gs : List Nat) (n : Nat) (A1 : Option Addr) (m c1 : Nat) (bs : List UInt8) (w : World) (h : RfAt w B q d A c gs) (hsn : d.Sane) (hn : n < d.ss.length) (hm : m ≤ 64) (hl : d.left = 0) :
    Calls Tryd.prog 19 #[.pointer (some ⟨q, 0, none⟩), .int .i64 n, .slice A1 m c1] w fun e w' => e = .returned (.int .i64 8) ∧ RfAt w' B q (d.write n bs) A c gs ∧ FrT [60, 42] w w' ∧ Below B w w' := by
  have k0 := h.c0
  have k1 := h.c1
  have k2 := h.c2
  have f2 := h.free 2
  have kt := h.top
  have s1 : decide ((d.ss.length : Int) ≤ (n : Int)) = false := by simp; omega
  have s2 : decide (d.ss.length ≤ n) = false := by simp; omega
  have s3 : decide (64 < m) = false := by simp; omega
  rw [hl] at k1
  by_cases hb : d.blown = true
  · rw [write_of_blown hsn hb]
    rw [hb] at k2
    have H := Lib.hid h
    clear h hb hsn hl
    go_enter Tryd.func19, Tryd.ntmps19
    go_wp2
    go_ret
    exact ⟨rfl, H.out, FrT.refl _ _, Below.refl _ _⟩
  · have hb' : d.blown = false := by simpa using hb
    have hwr : d.write n bs = { d with blown := true } := by rw [Dk.write, if_pos hl, asked_zero hl]
    rw [hwr]
    rw [hb'] at k2
    have H := Lib.hid h
    clear h hb hb' hsn hl hwr
    go_enter Tryd.func19, Tryd.ntmps19
    go_wp2
    go_ret
    exact ⟨rfl, H.out.setq 2 _ _ rfl rfl H.out.lo H.out.hi⟩

set_option maxRecDepth 100000 in
set_option maxHeartbeats 1000000 in
theorem refwrite_pos (B q : Nat) (d : Dk) (A : Option Addr) (c : Nat) (gs : List Nat) (n : Nat) (A1 : Option Addr) (m c1 : Nat) (bs : List UInt8) (w : World) (h : RfAt w B q d A c gs) (hsn : d.Sane) (hn : n < d.ss.length) (hm : m ≤ 64) (hl : 0 < d.left) (hr : Rd w A1 m (cu8 bs)) (hw : d.writes < 1000000000) (hA1 : 0 < m → ∀ b o, A1 = some ⟨b, o, none⟩ → b < B) (hBw : B ≤ w.heap.size) :
    Calls Tryd.prog 19 #[.pointer (some ⟨q, 0, none⟩), .int .i64 n, .slice A1 m c1] w fun e w' => e = .returned (.int .i64 0) ∧ ∃ gs', RfAt w' B q (d.write n bs) A c gs' ∧ FrT [60, 42] w w' ∧ Below B w w' := by
  obtain ⟨i0, hi0, hz0, hz1, hz2⟩ := info_parts infod_u8
  have hbl : bs.length = m := by have h := hr.len; rw [cu8_len] at h; exact h
  have HBL := Lib.hid hbl
  have k0 := h.c0
  have k1 := h.c1
  have k2 := h.c2
  have f1 := h.free 1
  have kt := h.top
  have khi := h.hi
  have klo := h.lo
  have s1 : decide ((d.ss.length : Int) ≤ (n : Int)) = false := by simp; omega
  have s2 : decide (d.ss.length ≤ n) = false := by simp; omega
  have s3 : decide (64 < m) = false := by simp; omega
  have s4 : (d.left == 0) = false := by rw [beq_eq_false_iff_ne]; omega
  have s5 : decide (0 < d.left) = true := by simp; omega
  have hb' : d.blown = false := by
    cases hb : d.blown with
    | false => rfl
    | true => have := hsn hb; omega
  rw [hb'] at k2
  have hwr : d.write n bs = { d.asked with ss := d.ss.set n (pad bs), writes := d.writes + 1 } := by rw [Dk.write, if_neg (by omega)]
  rw [hwr]
  clear hb' hwr hsn hbl
  go_enter Tryd.func19, Tryd.ntmps19
  have e1 : IntKind.i64.wrap (d.left - 1) = d.left - 1 := by rw [IntKind.wrap_i64]; omega
  obtain ⟨h1, fr1, bl1⟩ := h.setq 1 (.int .i64 (d.left - 1)) { d with left := d.left - 1 } rfl rfl (by show -1 ≤ d.left - 1; omega) (by show d.left - 1 ≤ _; omega)
  have ha : d.asked = { d with left := d.left - 1 } := asked_pos hl
  rw [ha]
  have hr1 : Rd (w.setCell ⟨q, 1, none⟩ (.int .i64 (d.left - 1))) A1 m (cu8 bs) := by
    by_cases h0 : 0 < m
    · exact hr.keep fun b o he hlt => bl1.block b (hA1 h0 b o he)
    · exact ⟨hr.1, fun hx => absurd hx h0⟩
  have sz1 := fr1.1
  clear h hr hA1 ha
  generalize hd1 : ({ d with left := d.left - 1 } : Dk) = d1 at h1
  have e2 : d1.ss = d.ss := by rw [← hd1]
  have e3 : d1.writes = d.writes := by rw [← hd1]
  have HD1 := Lib.hid hd1
  clear hd1
  have H1 := Lib.hid h1
  have E2 := Lib.hid e2
  have E3 := Lib.hid e3
  have FR1 := Lib.hid fr1
  have BL1 := Lib.hid bl1
  have HR1 := Lib.hid hr1
  clear h1 e2 e3 fr1 bl1 hr1
  go_wp2_with (at_make; go_must (refine wpList_mk _ rfl _ _ 42 rfl (w.setCell ⟨q, 1, none⟩ (.int .i64 (d.left - 1))).heap.size 5 i0 _ Tryd.underlying42 hi0 hz0 hz1 rfl .i64 .i64 _ _ 64 rfl rfl rfl rfl ?c2 ?c3 ?c4 ?_))
  case c2 => rw [hz2]; omega
  case c3 => simp only [maxLen]; omega
  case c4 => exact Nat.le_refl _
  intro w2 hown0 hb20
  have hsz : (w.setCell ⟨q, 1, none⟩ (.int .i64 (d.left - 1))).heap.size = w.heap.size := by simp
  have hown : Own w2 w.heap.size 5 (some ⟨w.heap.size, 0, none⟩) 64 64 (List.replicate 64 (Value.int .u8 0)) := hown0
  have hb2 : Below (w.setCell ⟨q, 1, none⟩ (.int .i64 (d.left - 1))).heap.size (w.setCell ⟨q, 1, none⟩ (.int .i64 (d.left - 1))) w2 := by rw [hsz]; exact hb20
  clear hown0 hb20
  have h1 := H1.out
  have hr2 := HR1.out.below hb2
  have h2 := h1.below hb2
  have hh := hown.whole (by omega)
  have hgN : w.heap.size < w2.heap.size := (Array.getElem?_eq_some_iff.1 hh).1
  have FR2 := Lib.hid (FR1.out.trans (FrT.of_below hb2))
  have BL2 := Lib.hid (BL1.out.trans (hb2.mono (by rw [hsz]; exact hBw)))
  clear hown hb2 k0 k1 k2 f1 h1
  go_wp2_with fail
  rw [run_copy_rd w2 _ w.heap.size 0 64 64 _ _ hh A1 m c1 (cu8 bs) hr2 hm (by rw [List.length_replicate]; omega) (cu8_one _), splice_pad (by rw [HBL.out]; exact hm)]
  have hh3 := setRow_heap w2 w.heap.size _ (cu8 (pad bs)).toArray _ _ hh
  have hb3 : Below w.heap.size w2 (w2.setRow w.heap.size (cu8 (pad bs)).toArray) := below_setRow (Below.refl _ w2) (Nat.le_refl _) _
  have hne3 : ∀ b, b ≠ w.heap.size → (w2.setRow w.heap.size (cu8 (pad bs)).toArray).heap[b]? = w2.heap[b]? := fun b hb => setRow_other _ _ _ _ hb
  have sz3 : (w2.setRow w.heap.size (cu8 (pad bs)).toArray).heap.size = w2.heap.size := by simp [World.setRow]
  generalize w2.setRow w.heap.size (cu8 (pad bs)).toArray = w3 at hh3 hb3 hne3 sz3 ⊢
  have hq3 : q ≠ w.heap.size := by have := H1.out.ltq; have := hsz; omega
  have ft3 : FrT [60, 42] w w3 := by
    refine ⟨by have := FR2.out.1; omega, fun b cs t fr hb ht => ?_⟩
    rw [hne3 b (by have := (Array.getElem?_eq_some_iff.1 hb).1; omega)]
    exact FR2.out.2 b cs t fr hb ht
  have bl3 : Below B w w3 := BL2.out.trans (hb3.mono hBw)
  have h3 : RfAt w3 B q d1 A c gs := by
    have hx := H1.out
    refine ⟨?_, hx.hB, ?_, fun j g' t hg' ht => ?_, hx.len, hx.top, hx.lo, hx.hi⟩
    · rw [hne3 q hq3]; exact h2.hq
    · refine ⟨h2.own.1, ?_⟩
      rcases h2.own.2 with h0 | ⟨b, cur, hA, hB', hh', r⟩
      · exact .inl h0
      · refine .inr ⟨b, cur, hA, hB', ?_, r⟩
        rw [hne3 b ?_]
        · exact hh'
        · rintro rfl
          rw [hh] at hh'
          cases hh'
    · obtain ⟨a, b⟩ := h2.row j g' t hg' ht
      obtain ⟨_, b1⟩ := hx.row j g' t hg' ht
      refine ⟨a, ?_⟩
      rw [hne3 g' (by have := (Array.getElem?_eq_some_iff.1 b1).1; omega)]
      exact b
  have hn1 : n < d1.ss.length := by rw [E2.out]; exact hn
  obtain ⟨b, g1, hA, hg1, hc1, _⟩ := h3.sec hn1
  obtain ⟨h4, fr4, bl4⟩ := h3.place hA n hn1 (pad bs) (pad_len (by rw [HBL.out]; exact hm)) w.heap.size hBw hh3
  have hq0 := h3.c0
  have f4 : w3.frozen? ⟨b, n, none⟩ = false := by
    have := h3.own
    rw [hA] at this
    exact this.free (by have := this.le; omega) n
  have q3 := h4.c3
  have f5 := h4.free 3
  have hq4 := h4.c0
  obtain ⟨h5, fr5, bl5⟩ := h4.setq 3 (.int .i64 (d1.writes + 1 : Nat)) { d1 with ss := d1.ss.set n (pad bs), writes := d1.writes + 1 } (by simp [Dk.rcells]) rfl h4.lo h4.hi
  have e5 : IntKind.i64.wrap ((d1.writes : Int) + 1) = (d1.writes : Int) + 1 := by have := E3.out; rw [IntKind.wrap_i64]; omega
  have hwb : d1.writes < 1000000000 := by rw [E3.out]; exact hw
  rw [hA, E2.out] at hq0
  have HFIN := Lib.hid h5
  have HFR := Lib.hid (ft3.trans (fr4.trans fr5))
  have HBL5 := Lib.hid (bl3.trans (bl4.trans bl5))
  subst hA
  unfold sl64 at hc1
  have q3' : (w3.setCell ⟨b, n, none⟩ (.slice (some ⟨w.heap.size, 0, none⟩) 64 64)).cell? ⟨q, 3, none⟩ = some (.int .i64 d1.writes) := q3
  have f5' : (w3.setCell ⟨b, n, none⟩ (.slice (some ⟨w.heap.size, 0, none⟩) 64 64)).frozen? ⟨q, 3, none⟩ = false := f5
  clear h2 h3 h4 h5 fr4 fr5 bl3 bl4 bl5 ft3 hh hh3 hb3 hne3 hr2 hq4 q3 f5 hg1 hq3
  go_wp2
  go_ret
  refine ⟨rfl, gs.set n w.heap.size, ?_, HFR.out, HBL5.out⟩
  have hd := HD1.out
  subst hd
  exact HFIN.out

set_option maxRecDepth 100000 in
set_option maxHeartbeats 1000000 in
theorem refwrite_neg (B q : Nat) (d : Dk) (A : Option Addr) (c : Nat) (gs : List Nat) (n : Nat) (A1 : Option Addr) (m c1 : Nat) (bs : List UInt8) (w : World) (h : RfAt w B q d A c gs) (hsn : d.Sane) (hn : n < d.ss.length) (hm : m ≤ 64) (hl : d.left < 0) (hr : Rd w A1 m (cu8 bs)) (hw : d.writes < 1000000000) (hA1 : 0 < m → ∀ b o, A1 = some ⟨b, o, none⟩ → b < B) (hBw : B ≤ w.heap.size) :
    Calls Tryd.prog 19 #[.pointer (some ⟨q, 0, none⟩), .int .i64 n, .slice A1 m c1] w fun e w' => e = .returned (.int .i64 0) ∧ ∃ gs', RfAt w' B q (d.write n bs) A c gs' ∧ FrT [60, 42] w w' ∧ Below B w w' := by
  obtain ⟨i0, hi0, hz0, hz1, hz2⟩ := info_parts infod_u8
  have hbl : bs.length = m := by have h := hr.len; rw [cu8_len] at h; exact h
  have HBL := Lib.hid hbl
  have k0 := h.c0
  have k1 := h.c1
  have k2 := h.c2
  have f1 := h.free 1
  have kt := h.top
  have khi := h.hi
  have klo := h.lo
  have s1 : decide ((d.ss.length : Int) ≤ (n : Int)) = false := by simp; omega
  have s2 : decide (d.ss.length ≤ n) = false := by simp; omega
  have s3 : decide (64 < m) = false := by simp; omega
  have s4 : (d.left == 0) = false := by rw [beq_eq_false_iff_ne]; omega
  have s5 : decide (0 < d.left) = false := by simp; omega
  have hb' : d.blown = false := by
    cases hb : d.blown with
    | false => rfl
    | true => have := hsn hb; omega
  rw [hb'] at k2
  have hwr : d.write n bs = { d.asked with ss := d.ss.set n (pad bs), writes := d.writes + 1 } := by rw [Dk.write, if_neg (by omega)]
  rw [hwr]
  clear hb' hwr hsn hbl
  go_enter Tryd.func19, Tryd.ntmps19
  have ha : d.asked = d := asked_neg hl
  rw [ha]
  obtain ⟨h1, fr1, bl1⟩ : RfAt w B q d A c gs ∧ FrT [60, 42] w w ∧ Below B w w := ⟨h, FrT.refl _ _, Below.refl _ _⟩
  have hr1 := hr
  have sz1 := fr1.1
  clear h hr hA1 ha
  generalize hd1 : d = d1 at h1
  have e2 : d1.ss = d.ss := by rw [← hd1]
  have e3 : d1.writes = d.writes := by rw [← hd1]
  have HD1 := Lib.hid hd1
  clear hd1
  have H1 := Lib.hid h1
  have E2 := Lib.hid e2
  have E3 := Lib.hid e3
  have FR1 := Lib.hid fr1
  have BL1 := Lib.hid bl1
  have HR1 := Lib.hid hr1
  clear h1 e2 e3 fr1 bl1 hr1
  go_wp2_with (at_make; go_must (refine wpList_mk _ rfl _ _ 42 rfl (w).heap.size 5 i0 _ Tryd.underlying42 hi0 hz0 hz1 rfl .i64 .i64 _ _ 64 rfl rfl rfl rfl ?c2 ?c3 ?c4 ?_))
  case c2 => rw [hz2]; omega
  case c3 => simp only [maxLen]; omega
  case c4 => exact Nat.le_refl _
  intro w2 hown0 hb20
  have hsz : (w).heap.size = w.heap.size := by simp
  have hown : Own w2 w.heap.size 5 (some ⟨w.heap.size, 0, none⟩) 64 64 (List.replicate 64 (Value.int .u8 0)) := hown0
  have hb2 : Below (w).heap.size (w) w2 := by rw [hsz]; exact hb20
  clear hown0 hb20
  have h1 := H1.out
  have hr2 := HR1.out.below hb2
  have h2 := h1.below hb2
  have hh := hown.whole (by omega)
  have hgN : w.heap.size < w2.heap.size := (Array.getElem?_eq_some_iff.1 hh).1
  have FR2 := Lib.hid (FR1.out.trans (FrT.of_below hb2))
  have BL2 := Lib.hid (BL1.out.trans (hb2.mono (by rw [hsz]; exact hBw)))
  clear hown hb2 k0 k1 k2 f1 h1
  go_wp2_with fail
  rw [run_copy_rd w2 _ w.heap.size 0 64 64 _ _ hh A1 m c1 (cu8 bs) hr2 hm (by rw [List.length_replicate]; omega) (cu8_one _), splice_pad (by rw [HBL.out]; exact hm)]
  have hh3 := setRow_heap w2 w.heap.size _ (cu8 (pad bs)).toArray _ _ hh
  have hb3 : Below w.heap.size w2 (w2.setRow w.heap.size (cu8 (pad bs)).toArray) := below_setRow (Below.refl _ w2) (Nat.le_refl _) _
  have hne3 : ∀ b, b ≠ w.heap.size → (w2.setRow w.heap.size (cu8 (pad bs)).toArray).heap[b]? = w2.heap[b]? := fun b hb => setRow_other _ _ _ _ hb
  have sz3 : (w2.setRow w.heap.size (cu8 (pad bs)).toArray).heap.size = w2.heap.size := by simp [World.setRow]
  generalize w2.setRow w.heap.size (cu8 (pad bs)).toArray = w3 at hh3 hb3 hne3 sz3 ⊢
  have hq3 : q ≠ w.heap.size := by have := H1.out.ltq; have := hsz; omega
  have ft3 : FrT [60, 42] w w3 := by
    refine ⟨by have := FR2.out.1; omega, fun b cs t fr hb ht => ?_⟩
    rw [hne3 b (by have := (Array.getElem?_eq_some_iff.1 hb).1; omega)]
    exact FR2.out.2 b cs t fr hb ht
  have bl3 : Below B w w3 := BL2.out.trans (hb3.mono hBw)
  have h3 : RfAt w3 B q d1 A c gs := by
    have hx := H1.out
    refine ⟨?_, hx.hB, ?_, fun j g' t hg' ht => ?_, hx.len, hx.top, hx.lo, hx.hi⟩
    · rw [hne3 q hq3]; exact h2.hq
    · refine ⟨h2.own.1, ?_⟩
      rcases h2.own.2 with h0 | ⟨b, cur, hA, hB', hh', r⟩
      · exact .inl h0
      · refine .inr ⟨b, cur, hA, hB', ?_, r⟩
        rw [hne3 b ?_]
        · exact hh'
        · rintro rfl
          rw [hh] at hh'
          cases hh'
    · obtain ⟨a, b⟩ := h2.row j g' t hg' ht
      obtain ⟨_, b1⟩ := hx.row j g' t hg' ht
      refine ⟨a, ?_⟩
      rw [hne3 g' (by have := (Array.getElem?_eq_some_iff.1 b1).1; omega)]
      exact b
  have hn1 : n < d1.ss.length := by rw [E2.out]; exact hn
  obtain ⟨b, g1, hA, hg1, hc1, _⟩ := h3.sec hn1
  obtain ⟨h4, fr4, bl4⟩ := h3.place hA n hn1 (pad bs) (pad_len (by rw [HBL.out]; exact hm)) w.heap.size hBw hh3
  have hq0 := h3.c0
  have f4 : w3.frozen? ⟨b, n, none⟩ = false := by
    have := h3.own
    rw [hA] at this
    exact this.free (by have := this.le; omega) n
  have q3 := h4.c3
  have f5 := h4.free 3
  have hq4 := h4.c0
  obtain ⟨h5, fr5, bl5⟩ := h4.setq 3 (.int .i64 (d1.writes + 1 : Nat)) { d1 with ss := d1.ss.set n (pad bs), writes := d1.writes + 1 } (by simp [Dk.rcells]) rfl h4.lo h4.hi
  have e5 : IntKind.i64.wrap ((d1.writes : Int) + 1) = (d1.writes : Int) + 1 := by have := E3.out; rw [IntKind.wrap_i64]; omega
  have hwb : d1.writes < 1000000000 := by rw [E3.out]; exact hw
  rw [hA, E2.out] at hq0
  have HFIN := Lib.hid h5
  have HFR := Lib.hid (ft3.trans (fr4.trans fr5))
  have HBL5 := Lib.hid (bl3.trans (bl4.trans bl5))
  subst hA
  unfold sl64 at hc1
  have q3' : (w3.setCell ⟨b, n, none⟩ (.slice (some ⟨w.heap.size, 0, none⟩) 64 64)).cell? ⟨q, 3, none⟩ = some (.int .i64 d1.writes) := q3
  have f5' : (w3.setCell ⟨b, n, none⟩ (.slice (some ⟨w.heap.size, 0, none⟩) 64 64)).frozen? ⟨q, 3, none⟩ = false := f5
  clear h2 h3 h4 h5 fr4 fr5 bl3 bl4 bl5 ft3 hh hh3 hb3 hne3 hr2 hq4 q3 f5 hg1 hq3
  go_wp2
  go_ret
  refine ⟨rfl, gs.set n w.heap.size, ?_, HFR.out, HBL5.out⟩
  have hd := HD1.out
  subst hd
  exact HFIN.out
end Go.Proofs.YthgbenncheoemaaDoor
