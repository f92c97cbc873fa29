/-
  Walk of package markets: Get.
-/
import Derived.Test.YtfhiedlglmgneaaMarkWe
namespace Go.Proofs.Ytfhiedlglmgneaa
open Go.RowKit
set_option linter.unusedVariables false

/-- How many bytes so many parts of a market take. -/
def posM (bs : List UInt8) : Nat → Option Nat
  | 0 => some 0
  | 1 => match getLp bs with | none => none | some (_, q) => some (bs.length - q.length)
  | 2 => match getLp bs with | none => none | some (_, q) => match readLs q with | none => none | some (_, q2) => some (bs.length - q2.length)
  | 3 => match getLp bs with | none => none | some (_, q) => match readLs q with | none => none | some (_, q2) => match getLp q2 with | none => none | some (_, q3) => some (bs.length - q3.length)
  | _ => none
theorem getLp_drop {bs q : List UInt8} {l : List Int} (h : getLp bs = some (l, q)) : q = bs.drop (bs.length - q.length) ∧ q.length ≤ bs.length := by
  have h1 := (getLp_of h).2
  have hl : bs.length = (putL l).length + q.length := by rw [h1, List.length_append]
  refine ⟨?_, by omega⟩
  rw [show bs.length - q.length = (putL l).length by omega]
  conv => rhs; rw [h1]
  simp
theorem readLs_drop {bs q : List UInt8} {ls : List (List Int)} (h : readLs bs = some (ls, q)) : q = bs.drop (bs.length - q.length) ∧ q.length ≤ bs.length := by
  unfold readLs at h
  split at h
  · cases h
  · obtain ⟨h1, h2⟩ := getLs_drop h
    rw [List.length_drop] at h1 h2
    refine ⟨?_, by omega⟩
    rw [h1, List.drop_drop, List.length_drop]
    congr 1
    omega
theorem readM_parts {bs q q2 q3 : List UInt8} {r o : List Int} {b : List (List Int)} (h1 : getLp bs = some (r, q)) (h2 : readLs q = some (b, q2)) (h3 : getLp q2 = some (o, q3)) : readM bs = some ((r, b, o), q3) := by
  unfold readLs at h2
  split at h2
  · cases h2
  · rename_i hq
    exact readM_s h1 hq h2 h3
theorem posM_none {bs : List UInt8} {k : Nat} (hk : k < 3) (h : posM bs (k + 1) = none) : readM bs = none := by
  unfold readM
  cases h1 : getLp bs with
  | none => rfl
  | some x =>
    obtain ⟨r, q⟩ := x
    simp only
    by_cases hq : q.length < 1
    · rw [if_pos hq]
    · rw [if_neg hq]
      have hr : readLs q = getLs (getN (q.take 1)) (q.drop 1) := by rw [readLs, if_neg hq]
      cases h2 : getLs (getN (q.take 1)) (q.drop 1) with
      | none => rfl
      | some y =>
        obtain ⟨b, q2⟩ := y
        rw [h2] at hr
        simp only
        cases h3 : getLp q2 with
        | none => rfl
        | some z =>
          exfalso
          match k, hk with
          | 0, _ => simp [posM, h1] at h
          | 1, _ => simp [posM, h1, hr] at h
          | 2, _ => simp [posM, h1, hr, h3] at h
/-- What is so when so many parts of a market have been read. -/
structure JB (w W0 : World) (k s : Nat) (c0 c1 c2 : Value) (W : World) : Prop where
  fr : ∀ g, g < s → g ≠ k + 1 → W.heap[g]? = W0.heap[g]?
  sz : s ≤ W.heap.size
  b0 : Below w.heap.size w W
  m : Own W (k + 1) 25 (some ⟨k + 1, 0, none⟩) 3 3 [c0, c1, c2]
theorem JB.next {w W0 W w' : World} {k s jp : Nat} {c0 c1 c2 v : Value} (h : JB w W0 k s c0 c1 c2 W) (hk : w.heap.size ≤ k) (hb : Below W.heap.size (W.setCell ⟨k + 1, jp, none⟩ v) w') {d0 d1 d2 : Value} (hd : [c0, c1, c2].set jp v = [d0, d1, d2]) : JB w W0 k s d0 d1 d2 w' := by
  have hsz : (W.setCell ⟨k + 1, jp, none⟩ v).heap.size = W.heap.size := by simp only [World.setCell, Array.size_modify]
  have hb' : Below (W.setCell ⟨k + 1, jp, none⟩ v).heap.size (W.setCell ⟨k + 1, jp, none⟩ v) w' := by rw [hsz]; exact hb
  have hs := hb.size
  rw [hsz] at hs
  have hsW := h.sz
  refine ⟨fun g hg hne => ?_, by omega, (h.b0.setCell (p := ⟨k + 1, jp, none⟩) (by show w.heap.size ≤ k + 1; omega) v).trans (hb.mono h.b0.size), ?_⟩
  · rw [hb.block g (by omega), setCell_ne' hne]
    exact h.fr g hg hne
  · rw [← hd]
    exact (h.m.set (by omega) jp v).below hb'
def JM (w W0 : World) (bs : List UInt8) (k s : Nat) : Nat → World → Prop
  | 0, W => JB w W0 k s (.slice none 0 0) (.slice none 0 0) (.slice none 0 0) W
  | 1, W => ∃ u q, getLp bs = some (Ls.zs u, q) ∧ OwnI W s u ∧ JB w W0 k s u.v (.slice none 0 0) (.slice none 0 0) W
  | 2, W => ∃ u q A' m t q2, getLp bs = some (Ls.zs u, q) ∧ readLs q = some (Ls.all t, q2) ∧ OwnI W s u ∧ Outs W s A' m m t ∧ AptL (u :: t) ∧ JB w W0 k s u.v (.slice A' m m) (.slice none 0 0) W
  | 3, W => ∃ u q A' m t q2 o q3, getLp bs = some (Ls.zs u, q) ∧ readLs q = some (Ls.all t, q2) ∧ getLp q2 = some (Ls.zs o, q3) ∧ OwnI W s u ∧ Outs W s A' m m t ∧ OwnI W s o ∧ AptL (u :: (t ++ [o])) ∧ JB w W0 k s u.v (.slice A' m m) o.v W
  | _, _ => False
theorem JM.base {w W0 W : World} {bs : List UInt8} {k s i : Nat} (h : JM w W0 bs k s i W) : ∃ c0 c1 c2, JB w W0 k s c0 c1 c2 W := by
  match i, h with
  | 0, h => exact ⟨_, _, _, h⟩
  | 1, ⟨u, q, _, _, h⟩ => exact ⟨_, _, _, h⟩
  | 2, ⟨u, q, A', m, t, q2, _, _, _, _, _, h⟩ => exact ⟨_, _, _, h⟩
  | 3, ⟨u, q, A', m, t, q2, o, q3, _, _, _, _, _, _, _, h⟩ => exact ⟨_, _, _, h⟩
theorem aptL_cons {u : Ls} {t : List Ls} {s : Nat} (hu : ∀ g, Blk u g → g < s) (ht : ∀ x ∈ t, ∀ g, Blk x g → s ≤ g) (h : AptL t) : AptL (u :: t) := by
  refine List.pairwise_cons.2 ⟨fun a ha g hg hg2 => ?_, h⟩
  have := hu g hg
  have := ht a ha g hg2
  omega
/-- The boxes, and the list of parts, that Get makes. -/
def gfM (i : Nat) : Nat := if i = 1 then 33 else 31
structure Made (W0 : World) (k : Nat) : Prop where
  b0 : W0.heap[k + 2]? = some (.cells #[.pointer (some ⟨k + 1, 0, none⟩)] 58 (0, 0))
  b1 : W0.heap[k + 3]? = some (.cells #[.pointer (some ⟨k + 1, 1, none⟩)] 60 (0, 0))
  b2 : W0.heap[k + 4]? = some (.cells #[.pointer (some ⟨k + 1, 2, none⟩)] 58 (0, 0))
  ps : ∀ i, i < 3 → W0.cell? ⟨k + 5, i, none⟩ = some (.func (.func (gfM i)) #[] #[.pointer (some ⟨k + 2 + i, 0, none⟩)])

theorem JM.step {A : Option Addr} {w W0 W : World} {bs : List UInt8} {k s i p n c : Nat} (hJ : JM w W0 bs k s i W) (hM : Made W0 k) (hs : k + 6 ≤ s) (hwk : w.heap.size = k) (hi : i < 3) (hp : posM bs i = some p) (hr : Rd w A n (cu8 bs)) (hc : n ≤ c) (hcm : c ≤ maxLen)
    (Aq : Option Addr) (hAq : (if c = p then A else A.map (fun x => x.add p)) = Aq) :
    Calls Try.prog (gfM i) #[.slice Aq (n - p) (c - p), .pointer (some ⟨k + 2 + i, 0, none⟩)] W fun e w' =>
      (∃ p', posM bs (i + 1) = some p' ∧ e = .returned (.tuple #[.int .i64 (p' - p : Nat), .int .i64 0]) ∧ JM w W0 bs k s (i + 1) w') ∨ (posM bs (i + 1) = none ∧ e = .returned (.tuple #[.int .i64 0, .int .i64 5]) ∧ Below w.heap.size w w' ∧ w'.heap[k]? = W0.heap[k]?) := by
  have hl : bs.length = n := by have h := hr.len; rw [cu8_len] at h; exact h
  have hcut : ∀ q, q = bs.drop p → p ≤ n → Rd w Aq (n - p) (cu8 q) := by
    rintro q rfl hpn
    have h := hr.cut (lo := p) (hi := n) (cap := c) hpn (Nat.le_refl _) hc
    rw [cu8_drop, cu8_take, List.take_of_length_le (by rw [List.length_drop]; omega)] at h
    rw [← hAq]
    exact h
  have hcm2 : c - p ≤ maxLen := by omega
  match i, hi, hJ, hp with
  | 0, _, hJ, hp =>
    obtain rfl : 0 = p := Option.some.inj hp
    have hbx : W.heap[k + 2]? = some (.cells #[.pointer (some ⟨k + 1, 0, none⟩)] 58 (0, 0)) := (hJ.fr (k + 2) (by omega) (by omega)).trans hM.b0
    refine (listp_any Aq (n - 0) (c - 0) bs W ((hcut bs rfl (Nat.zero_le _)).below hJ.b0) (by omega) hcm2 (k + 2) (k + 1) 0 hbx (k + 1) 25 3 3 _ hJ.m (by omega) (by omega)).mono ?_
    rintro e w' (⟨h1, rfl, hb⟩ | ⟨l, r, A', m, c', h1, h2, rfl, hnew, hb⟩)
    · exact .inr ⟨by simp [posM, h1], rfl, (JB.next hJ (by omega) hb rfl).b0, (JB.next hJ (by omega) hb rfl).fr k (by omega) (by omega)⟩
    · refine .inl ⟨bs.length - r.length, by simp [posM, h1], by rw [hl]; rfl, ⟨A', m, c', l⟩, r, h1, hnew.mono hJ.sz, JB.next hJ (by omega) hb rfl⟩
  | 1, _, ⟨u, q, g1, hu, hJ⟩, hp =>
    have hpp : bs.length - q.length = p := by simpa [posM, g1] using hp
    obtain ⟨hd, hle⟩ := getLp_drop g1
    have hbx : W.heap[k + 3]? = some (.cells #[.pointer (some ⟨k + 1, 1, none⟩)] 60 (0, 0)) := (hJ.fr (k + 3) (by omega) (by omega)).trans hM.b1
    have hsW := hJ.sz
    refine (listsp_any Aq (n - p) (c - p) q w W (hcut q (by rw [← hpp]; exact hd) (by omega)) (by omega) hcm2 hJ.b0 (k + 3) (k + 1) 1 hbx (k + 1) 25 3 3 _ hJ.m (by omega) (by omega) (by omega)).mono ?_
    rintro e w' (⟨h1, rfl, hb⟩ | ⟨ls, r, A', m, t, h1, h2, rfl, hout, hall, hb⟩)
    · exact .inr ⟨by simp [posM, g1, h1], rfl, hJ.b0.trans (hb.mono (by omega)), (hb.block k (by omega)).trans (hJ.fr k (by omega) (by omega))⟩
    · have hsz : (W.setCell ⟨k + 1, 1, none⟩ (.slice A' m m)).heap.size = W.heap.size := by simp only [World.setCell, Array.size_modify]
      have hb' : Below (W.setCell ⟨k + 1, 1, none⟩ (.slice A' m m)).heap.size (W.setCell ⟨k + 1, 1, none⟩ (.slice A' m m)) w' := by rw [hsz]; exact hb
      refine .inl ⟨bs.length - r.length, by simp [posM, g1, h1], by rw [show n - p - r.length = bs.length - r.length - p by omega], u, q, A', m, t, r, g1, by rw [hall]; exact h1, (hu.setO hJ.m (by omega) (by decide) 1 _).below hb', hout.mono hsW, ?_, JB.next hJ (by omega) hb rfl⟩
      exact aptL_cons (s := W.heap.size) (fun g hg => (hu.blk hg).2) (fun x hx g hg => ((hout.each x hx).blk hg).1) hout.apt
  | 2, _, ⟨u, q, A1, m1, t, q2, g1, g2, hu, hout, hapt, hJ⟩, hp =>
    have hpp : bs.length - q2.length = p := by simpa [posM, g1, g2] using hp
    obtain ⟨hd, hle⟩ := getLp_drop g1
    obtain ⟨hd2, hle2⟩ := readLs_drop g2
    have hbx : W.heap[k + 4]? = some (.cells #[.pointer (some ⟨k + 1, 2, none⟩)] 58 (0, 0)) := (hJ.fr (k + 4) (by omega) (by omega)).trans hM.b2
    have hsW := hJ.sz
    have hq2 : q2 = bs.drop p := by
      rw [hd2, hd, List.drop_drop]
      congr 1
      rw [List.length_drop]
      omega
    refine (listp_any Aq (n - p) (c - p) q2 W ((hcut q2 hq2 (by omega)).below hJ.b0) (by omega) hcm2 (k + 4) (k + 1) 2 hbx (k + 1) 25 3 3 _ hJ.m (by omega) (by omega)).mono ?_
    rintro e w' (⟨h1, rfl, hb⟩ | ⟨l, r, A', m, c', h1, h2, rfl, hnew, hb⟩)
    · exact .inr ⟨by simp [posM, g1, g2, h1], rfl, (JB.next hJ (by omega) hb rfl).b0, (JB.next hJ (by omega) hb rfl).fr k (by omega) (by omega)⟩
    · have hsz : (W.setCell ⟨k + 1, 2, none⟩ (.slice A' m c')).heap.size = W.heap.size := by simp only [World.setCell, Array.size_modify]
      have hb' : Below (W.setCell ⟨k + 1, 2, none⟩ (.slice A' m c')).heap.size (W.setCell ⟨k + 1, 2, none⟩ (.slice A' m c')) w' := by rw [hsz]; exact hb
      refine .inl ⟨bs.length - r.length, by simp [posM, g1, g2, h1], by rw [show n - p - r.length = bs.length - r.length - p by omega], u, q, A1, m1, t, q2, ⟨A', m, c', l⟩, r, g1, g2, h1, (hu.setO hJ.m (by omega) (by decide) 2 _).below hb', (hout.setO hJ.m (by omega) (by decide) (by decide) 2 _).below hb', hnew.mono hsW, ?_, JB.next hJ (by omega) hb rfl⟩
      have h3 := aptL_snoc (l := u :: t) (u := ⟨A', m, c', l⟩) (s := W.heap.size) hapt (fun x hx g hg => by
        rcases List.mem_cons.1 hx with rfl | hx
        · exact (hu.blk hg).2
        · exact ((hout.each x hx).blk hg).2) (fun g hg => (hnew.blk hg).1)
      exact h3

theorem posM_le {bs : List UInt8} {k p : Nat} (h : posM bs k = some p) : p ≤ bs.length := by
  match k, h with
  | 0, h => obtain rfl : 0 = p := Option.some.inj h; exact Nat.zero_le _
  | 1, h =>
    simp only [posM] at h
    split at h
    · cases h
    · have := Option.some.inj h; omega
  | 2, h =>
    simp only [posM] at h
    split at h
    · cases h
    · split at h
      · cases h
      · have := Option.some.inj h; omega
  | 3, h =>
    simp only [posM] at h
    split at h
    · cases h
    · split at h
      · cases h
      · split at h
        · cases h
        · have := Option.some.inj h; omega
theorem posM_mono {bs : List UInt8} {k p p' : Nat} (h : posM bs k = some p) (h' : posM bs (k + 1) = some p') : p ≤ p' := by
  match k, h, h' with
  | 0, h, _ => obtain rfl : 0 = p := Option.some.inj h; exact Nat.zero_le _
  | 1, h, h' =>
    simp only [posM] at h h'
    cases h1 : getLp bs with
    | none => simp [h1] at h
    | some x =>
      obtain ⟨r, q⟩ := x
      simp only [h1, Option.some.injEq] at h h'
      cases h2 : readLs q with
      | none => simp [h2] at h'
      | some y =>
        obtain ⟨b, q2⟩ := y
        simp only [h2, Option.some.injEq] at h'
        have := (readLs_drop h2).2
        omega
  | 2, h, h' =>
    simp only [posM] at h h'
    cases h1 : getLp bs with
    | none => simp [h1] at h
    | some x =>
      obtain ⟨r, q⟩ := x
      simp only [h1] at h h'
      cases h2 : readLs q with
      | none => simp [h2] at h
      | some y =>
        obtain ⟨b, q2⟩ := y
        simp only [h2, Option.some.injEq] at h h'
        cases h3 : getLp q2 with
        | none => simp [h3] at h'
        | some z =>
          obtain ⟨o, q3⟩ := z
          simp only [h3, Option.some.injEq] at h'
          have := (getLp_drop h3).2
          omega
theorem gfM_enters (i : Nat) : Enters Try.prog (gfM i) := by
  unfold gfM
  split
  · exact enters_lists
  · exact enters_list

theorem size_alloc1 (v : World) (o1 : Obj) : (v.alloc o1).heap.size = v.heap.size + 1 := Array.size_push ..
/-- What Get lays before it reads: the result's place, the market's, three boxes, the list of parts. -/
theorem made_any (w : World) (k : Nat) (hk : w.heap.size = k) (v0 v1 v2 v3 W0 : World) (h0 : (w.alloc (.cells #[.slice none 0 0, .slice none 0 0, .slice none 0 0] 25)).alloc (.cells #[.slice none 0 0, .slice none 0 0, .slice none 0 0] 25) = v0)
    (h1 : v0.alloc (.cells #[.pointer (some ⟨k + 1, 0, none⟩)] 58) = v1) (h2 : v1.alloc (.cells #[.pointer (some ⟨k + 1, 1, none⟩)] 60) = v2) (h3 : v2.alloc (.cells #[.pointer (some ⟨k + 1, 2, none⟩)] 58) = v3)
    (h4 : v3.alloc (.cells #[.func (.func 31) #[] #[.pointer (some ⟨k + 2, 0, none⟩)], .func (.func 33) #[] #[.pointer (some ⟨k + 3, 0, none⟩)], .func (.func 31) #[] #[.pointer (some ⟨k + 4, 0, none⟩)]] 56) = W0) :
    Made W0 k ∧ Own W0 k 25 (some ⟨k, 0, none⟩) 3 3 [.slice none 0 0, .slice none 0 0, .slice none 0 0] ∧ JB w W0 k (k + 6) (.slice none 0 0) (.slice none 0 0) (.slice none 0 0) W0 ∧ W0.heap.size = k + 6 := by
  have s0 : v0.heap.size = k + 2 := by rw [← h0, size_alloc1, size_alloc1, hk]
  have s1 : v1.heap.size = k + 3 := by rw [← h1, size_alloc1, s0]
  have s2 : v2.heap.size = k + 4 := by rw [← h2, size_alloc1, s1]
  have s3 : v3.heap.size = k + 5 := by rw [← h3, size_alloc1, s2]
  have s4 : W0.heap.size = k + 6 := by rw [← h4, size_alloc1, s3]
  have f4 : ∀ g, g < k + 5 → W0.heap[g]? = v3.heap[g]? := fun g hg => by rw [← h4]; exact Below.heap_alloc v3 _ g (by omega)
  have f3 : ∀ g, g < k + 4 → v3.heap[g]? = v2.heap[g]? := fun g hg => by rw [← h3]; exact Below.heap_alloc v2 _ g (by omega)
  have f2 : ∀ g, g < k + 3 → v2.heap[g]? = v1.heap[g]? := fun g hg => by rw [← h2]; exact Below.heap_alloc v1 _ g (by omega)
  have f1 : ∀ g, g < k + 2 → v1.heap[g]? = v0.heap[g]? := fun g hg => by rw [← h1]; exact Below.heap_alloc v0 _ g (by omega)
  have n4 := heap_alloc_new v3 (.cells #[.func (.func 31) #[] #[.pointer (some ⟨k + 2, 0, none⟩)], .func (.func 33) #[] #[.pointer (some ⟨k + 3, 0, none⟩)], .func (.func 31) #[] #[.pointer (some ⟨k + 4, 0, none⟩)]] 56)
  have n3 := heap_alloc_new v2 (.cells #[.pointer (some ⟨k + 1, 2, none⟩)] 58)
  have n2 := heap_alloc_new v1 (.cells #[.pointer (some ⟨k + 1, 1, none⟩)] 60)
  have n1 := heap_alloc_new v0 (.cells #[.pointer (some ⟨k + 1, 0, none⟩)] 58)
  rw [h4, s3] at n4
  rw [h3, s2] at n3
  rw [h2, s1] at n2
  rw [h1, s0] at n1
  have o0 := (Own.lit (B := k) w 25 #[.slice none 0 0, .slice none 0 0, .slice none 0 0] 3 (by omega) rfl (by unfold maxLen; omega)).alloc (.cells #[.slice none 0 0, .slice none 0 0, .slice none 0 0] 25)
  have o1 := Own.lit (B := k + 1) (w.alloc (.cells #[.slice none 0 0, .slice none 0 0, .slice none 0 0] 25)) 25 #[.slice none 0 0, .slice none 0 0, .slice none 0 0] 3 (by rw [size_alloc1]; omega) rfl (by unfold maxLen; omega)
  rw [h0, hk] at o0
  rw [h0, size_alloc1, hk] at o1
  have b0 : Below w.heap.size w v0 := by
    rw [← h0]
    exact ((Below.refl _ w).alloc (Nat.le_refl _) _).alloc (by rw [size_alloc1]; omega) _
  have b1 : Below v0.heap.size v0 v1 := by rw [← h1]; exact (Below.refl _ v0).alloc (Nat.le_refl _) _
  have b2 : Below v1.heap.size v1 v2 := by rw [← h2]; exact (Below.refl _ v1).alloc (Nat.le_refl _) _
  have b3 : Below v2.heap.size v2 v3 := by rw [← h3]; exact (Below.refl _ v2).alloc (Nat.le_refl _) _
  have b4 : Below v3.heap.size v3 W0 := by rw [← h4]; exact (Below.refl _ v3).alloc (Nat.le_refl _) _
  refine ⟨⟨?_, ?_, ?_, ?_⟩, (((o0.below b1).below b2).below b3).below b4, ⟨fun _ _ _ => rfl, by omega, ?_, (((o1.below b1).below b2).below b3).below b4⟩, s4⟩
  · rw [f4 _ (by omega), f3 _ (by omega), f2 _ (by omega)]; exact n1
  · rw [f4 _ (by omega), f3 _ (by omega)]; exact n2
  · rw [f4 _ (by omega)]; exact n3
  · intro i hi
    rw [cell_of_row _ _ _ _ _ _ n4]
    match i, hi with
    | 0, _ => rfl
    | 1, _ => rfl
    | 2, _ => rfl
  · exact (((b0.trans (b1.mono (by omega))).trans (b2.mono (by omega))).trans (b3.mono (by omega))).trans (b4.mono (by omega))

set_option maxRecDepth 100000 in
set_option maxHeartbeats 2000000 in
theorem mgetC : GetC 14 := by
  intro A n c bs w hr hc hcm hn
  have hl : bs.length = n := by have h := hr.len; rw [cu8_len] at h; exact h
  have hcm' := hcm
  unfold maxLen at hcm'
  obtain ⟨E, hE⟩ : ∃ E, getME bs = E := ⟨_, rfl⟩
  obtain ⟨PP, hP⟩ : ∃ PP, getM bs = PP := ⟨_, rfl⟩
  rw [hE, hP]
  have HE := Lib.hid hE
  have HP := Lib.hid hP
  have HL := Lib.hid hl
  clear hE hP hl
  obtain ⟨k, hk⟩ : ∃ k, w.heap.size = k := ⟨_, rfl⟩
  go_enter Try.func14, Try.ntmps14
  go_wp2_with fail
  generalize hv0 : (w.alloc (.cells #[.slice none 0 0, .slice none 0 0, .slice none 0 0] 25)).alloc (.cells #[.slice none 0 0, .slice none 0 0, .slice none 0 0] 25) = v0
  have s0 : v0.heap.size = k + 2 := by rw [← hv0, size_alloc1, size_alloc1, hk]
  have HK := Lib.hid hk

  have HS0 := Lib.hid s0
  have HV0 := Lib.hid hv0
  clear hv0 hk s0
  refine (list_any (k + 1) 0 v0).mono ?_
  rintro e v1 ⟨rfl, hv1⟩
  have s1 : v1.heap.size = k + 3 := by rw [← hv1, size_alloc1, HS0.out]
  rw [HS0.out]
  have HV1 := Lib.hid hv1
  have HS1 := Lib.hid s1
  clear hv1 s1
  go_wp2_with fail
  refine (lists_any (k + 1) 1 v1).mono ?_
  rintro e v2 ⟨rfl, hv2⟩
  have s2 : v2.heap.size = k + 4 := by rw [← hv2, size_alloc1, HS1.out]
  rw [HS1.out]
  have HV2 := Lib.hid hv2
  have HS2 := Lib.hid s2
  clear hv2 s2
  go_wp2_with fail
  refine (list_any (k + 1) 2 v2).mono ?_
  rintro e v3 ⟨rfl, hv3⟩
  have s3 : v3.heap.size = k + 5 := by rw [← hv3, size_alloc1, HS2.out]
  rw [HS2.out]
  have HV3 := Lib.hid hv3
  have HS3 := Lib.hid s3
  clear hv3 s3
  go_wp2_with fail
  rw [HS3.out]
  generalize hW0 : v3.alloc (.cells #[.func (.func 31) #[] #[.pointer (some ⟨k + 2, 0, none⟩)], .func (.func 33) #[] #[.pointer (some ⟨k + 3, 0, none⟩)], .func (.func 31) #[] #[.pointer (some ⟨k + 4, 0, none⟩)]] 56) = W0
  obtain ⟨hM, hR, hJ0, hs0⟩ := made_any w k HK.out v0 v1 v2 v3 W0 HV0.out HV1.out HV2.out HV3.out hW0
  have hin := inturn_any A n c (some ⟨k + 5, 0, none⟩) 3 3 gfM (fun i => k + 2 + i) (posM bs) (JM w W0 bs k (k + 6)) (fun W => Below w.heap.size w W ∧ W.heap[k]? = W0.heap[k]?) W0 hc hcm' (by omega) (fun i _ => gfM_enters i) rfl
    (fun i p hp => by rw [← HL.out]; exact posM_le hp) (fun i p p' => posM_mono)
    (fun i W hJ j hj => ⟨k + 5, 0, rfl, by
      obtain ⟨c0, c1, c2, hb⟩ := hJ.base
      rw [Nat.zero_add]
      exact (World.cell?_of_block (hb.fr (k + 5) (by omega) (by omega))).trans (hM.ps j hj)⟩)
    (fun i hi p hp W hJ Aq hAq => hJ.step hM (by omega) HK.out hi hp hr hc hcm Aq hAq) hJ0
  clear hW0 HV0 HV1 HV2 HV3 HS0 HS1 HS2 HS3 hJ0
  refine hin.mono ?_
  clear hin
  rintro e w1 (⟨p, hp, rfl, hJ⟩ | ⟨i, hi, hp, rfl, hF⟩)
  · obtain ⟨u, q, A', m, t, q2, o, q3, g1, g2, g3, hu, hout, ho, hapt, hJB⟩ := hJ
    have hrs := readM_parts g1 g2 g3
    have hpp : bs.length - q3.length = p := by simpa [posM, g1, g2, g3] using hp
    have hq3 : q3.length ≤ bs.length := by
      have h1 := (getLp_drop g1).2
      have h2 := (readLs_drop g2).2
      have h3 := (getLp_drop g3).2
      omega
    have hlen := HL.out
    have hwk : w.heap.size ≤ k := Nat.le_of_eq HK.out
    have hR1 := hR.keep (w' := w1) fun g hA _ _ _ => by
      cases hA
      exact hJB.fr k (by omega) (by omega)
    have hb1 := hJB.b0
    have HRS := Lib.hid hrs
    by_cases hpn : p < n
    · have hbad : Hid (getME bs = 4) := Lib.hid (getME_bad HRS.out (by
        rintro ⟨hq, _⟩
        rw [hq] at hpp
        simp at hpp
        omega))
      clear hp hpp hq3 hlen hrs g1 g2 g3 hout ho hu hapt hJB hM hR hs0
      have hR0 := hR1.free (by omega) 0
      have hR4 := hR1.free (by omega) 1
      have hR5 := hR1.free (by omega) 2
      have hR6 := hR1.cell (j := 0) (by omega)
      have hR7 := hR1.cell (j := 1) (by omega)
      have hR8 := hR1.cell (j := 2) (by omega)
      simp only [List.getElem?_cons_zero, List.getElem?_cons_succ] at hR6 hR7 hR8
      clear hR1
      go_wp2
      (try simp only [Exit.inBlock, Exit.then])
      refine bodyPost_ret (v := .tuple #[.agg #[.slice none 0 0, .slice none 0 0, .slice none 0 0], .int .i64 4]) ?r rfl ?_
      case r =>
        simp only [results, Try.f14]
        go_simp
      have hE := hbad.out
      refine ⟨Mk.nil, by rw [← HE.out, hE]; rfl, MkOwn.nil _ _, by rw [← HP.out, getM_bad (by rw [hE]; omega)]; rfl, ?_⟩
      exact ((hb1.setCell (p := ⟨k, 0, none⟩) (by show w.heap.size ≤ k; omega) _).setCell (p := ⟨k, 1, none⟩) (by show w.heap.size ≤ k; omega) _).setCell (p := ⟨k, 2, none⟩) (by show w.heap.size ≤ k; omega) _
    · have hpe : p = n := by omega
      have hqe : q3 = [] := List.eq_nil_of_length_eq_zero (by omega)
      have HQE := Lib.hid hqe
      subst hpe
      have hmk : MkOwn w1 (k + 2) ⟨u, A', m, m, t, o⟩ := ⟨hu.mono (by omega), ho.mono (by omega), hout.own.mono (by omega), fun x hx => (hout.each x hx).mono (by omega), hapt⟩
      have hck := mcheckC ⟨u, A', m, m, t, o⟩ w1 hmk.ok
      obtain ⟨β, hβ⟩ : ∃ β, (Mk.mk u A' m m t o).may = β := ⟨_, rfl⟩
      rw [hβ] at hck
      have HB := Lib.hid hβ
      have m0 := hJB.m.cell (j := 0) (by omega)
      have m1 := hJB.m.cell (j := 1) (by omega)
      have m2 := hJB.m.cell (j := 2) (by omega)
      simp only [List.getElem?_cons_zero, List.getElem?_cons_succ, Ls.v] at m0 m1 m2
      unfold Mk.v Ls.v at hck
      have hsz := hJB.sz
      clear hp hpp hq3 hlen hrs g1 g2 g3 hout ho hu hapt hM hR hs0 hqe hβ hpn hJB
      go_wp2_with fail
      refine hck.mono ?_
      rintro e w2 ⟨rfl, hb2⟩
      have hR2 := hR1.below hb2
      have hmk2 := hmk.below hb2
      have hB2 := hb1.trans (hb2.mono hb1.size)
      have e0 := (hb2.cell (p := ⟨k + 1, 0, none⟩) (by show k + 1 < _; omega)).trans m0
      have e1 := (hb2.cell (p := ⟨k + 1, 1, none⟩) (by show k + 1 < _; omega)).trans m1
      have e2 := (hb2.cell (p := ⟨k + 1, 2, none⟩) (by show k + 1 < _; omega)).trans m2
      clear hck hb2 hR1 m0 m1 m2 hmk hsz hb1
      cases β
      · have hbad : Hid (getME bs = 4) := Lib.hid (getME_bad HRS.out (by
          rintro ⟨_, hm⟩
          have h1 : (Mk.mk u A' m m t o).may = true := hm
          rw [HB.out] at h1
          cases h1))
        have hR1 := hR2
        clear hmk2 hR2
        have hR0 := hR1.free (by omega) 0
        have hR4 := hR1.free (by omega) 1
        have hR5 := hR1.free (by omega) 2
        have hR6 := hR1.cell (j := 0) (by omega)
        have hR7 := hR1.cell (j := 1) (by omega)
        have hR8 := hR1.cell (j := 2) (by omega)
        simp only [List.getElem?_cons_zero, List.getElem?_cons_succ] at hR6 hR7 hR8
        clear hR1
        go_wp2
        (try simp only [Exit.inBlock, Exit.then])
        refine bodyPost_ret (v := .tuple #[.agg #[.slice none 0 0, .slice none 0 0, .slice none 0 0], .int .i64 4]) ?r rfl ?_
        case r =>
          simp only [results, Try.f14]
          go_simp
        have hE := hbad.out
        refine ⟨Mk.nil, by rw [← HE.out, hE]; rfl, MkOwn.nil _ _, by rw [← HP.out, getM_bad (by rw [hE]; omega)]; rfl, ?_⟩
        exact ((hB2.setCell (p := ⟨k, 0, none⟩) (by show w.heap.size ≤ k; omega) _).setCell (p := ⟨k, 1, none⟩) (by show w.heap.size ≤ k; omega) _).setCell (p := ⟨k, 2, none⟩) (by show w.heap.size ≤ k; omega) _
      · have hgood : Hid (getME bs = 0) := Lib.hid (getME_good HRS.out ⟨HQE.out, HB.out⟩)
        have hR1 := hR2
        have hR0 := hR1.free (by omega) 0
        have hR4 := hR1.free (by omega) 1
        have hR5 := hR1.free (by omega) 2
        have hR6 := hR1.cell (j := 0) (by omega)
        have hR7 := hR1.cell (j := 1) (by omega)
        have hR8 := hR1.cell (j := 2) (by omega)
        simp only [List.getElem?_cons_zero, List.getElem?_cons_succ] at hR6 hR7 hR8
        clear hR1
        go_wp2
        (try simp only [Exit.inBlock, Exit.then])
        refine bodyPost_ret (v := .tuple #[.agg #[.slice u.A u.n u.c, .slice A' m m, .slice o.A o.n o.c], .int .i64 0]) ?r rfl ?_
        case r =>
          simp only [results, Try.f14]
          go_simp
        have hE := hgood.out
        have hq : ∀ g, k + 2 ≤ g → (((w2.setCell ⟨k, 0, none⟩ (.slice u.A u.n u.c)).setCell ⟨k, 1, none⟩ (.slice A' m m)).setCell ⟨k, 2, none⟩ (.slice o.A o.n o.c)).heap[g]? = w2.heap[g]? := fun g hg => ((setCell_ne' (by omega)).trans (setCell_ne' (by omega))).trans (setCell_ne' (by omega))
        refine ⟨⟨u, A', m, m, t, o⟩, by rw [← HE.out, hE]; rfl, ?_, ?_, ?_⟩
        · exact (⟨hmk2.r.keepB hq, hmk2.o.keepB hq, hmk2.b.keep (fun g _ _ hg _ => hq g hg), fun x hx => (hmk2.bs x hx).keepB hq, hmk2.apt⟩ : MkOwn _ (k + 2) _).mono (by omega)
        · rw [← HP.out, getM_good hE HRS.out]
          rfl
        · exact ((hB2.setCell (p := ⟨k, 0, none⟩) (by show w.heap.size ≤ k; omega) _).setCell (p := ⟨k, 1, none⟩) (by show w.heap.size ≤ k; omega) _).setCell (p := ⟨k, 2, none⟩) (by show w.heap.size ≤ k; omega) _
  · have hE5 := Lib.hid (getME_none (posM_none hi hp))
    have hwk : w.heap.size ≤ k := Nat.le_of_eq HK.out
    have hR1 := hR.keep (w' := w1) fun g hA _ _ _ => by
      cases hA
      exact hF.2
    have hb1 := hF.1
    clear hp hF hM hR hs0
    have hR0 := hR1.free (by omega) 0
    have hR4 := hR1.free (by omega) 1
    have hR5 := hR1.free (by omega) 2
    have hR6 := hR1.cell (j := 0) (by omega)
    have hR7 := hR1.cell (j := 1) (by omega)
    have hR8 := hR1.cell (j := 2) (by omega)
    simp only [List.getElem?_cons_zero, List.getElem?_cons_succ] at hR6 hR7 hR8
    clear hR1
    go_wp2
    (try simp only [Exit.inBlock, Exit.then])
    refine bodyPost_ret (v := .tuple #[.agg #[.slice none 0 0, .slice none 0 0, .slice none 0 0], .int .i64 5]) ?r rfl ?_
    case r =>
      simp only [results, Try.f14]
      go_simp
    have hE := hE5.out
    refine ⟨Mk.nil, by rw [← HE.out, hE]; rfl, MkOwn.nil _ _, by rw [← HP.out, getM_bad (by rw [hE]; omega)]; rfl, ?_⟩
    exact ((hb1.setCell (p := ⟨k, 0, none⟩) (by show w.heap.size ≤ k; omega) _).setCell (p := ⟨k, 1, none⟩) (by show w.heap.size ≤ k; omega) _).setCell (p := ⟨k, 2, none⟩) (by show w.heap.size ≤ k; omega) _
end Go.Proofs.Ytfhiedlglmgneaa
