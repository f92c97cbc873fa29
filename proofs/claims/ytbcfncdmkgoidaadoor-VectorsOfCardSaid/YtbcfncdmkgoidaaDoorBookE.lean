/-
  Walks of the Book: what is empty; Apart: no two lists share memory, so it answers true.
-/
import Derived.Test.YtbcfncdmkgoidaaDoorProg
import Derived.Test.YtbcfncdmkgoidaaDoorBookL
import Derived.BigQuiet
import Derived.Deep.QuietTactic
import Derived.Deep.DeepMust
namespace Go.Proofs.YtbcfncdmkgoidaaDoor
open Go.RowKit
set_option linter.unusedVariables false

set_option maxRecDepth 100000 in
theorem fillText_none (kb : Nat) (w : World) (hc : w.cell? ⟨kb, 3, none⟩ = some (.slice none 0 0)) : Calls Tryd.prog 29 #[.pointer (some ⟨kb, 0, none⟩)] w fun e w' => e = .returned (.tuple #[]) ∧ w = w' := by
  go_enter Tryd.func29, Tryd.ntmps29
  go_wp2_with fail
  go_loop [2] (fun i => i = .int .i64 0) (fun _ => 0)
  case atStart => rfl
  case round =>
    subst hrel
    go_wp2
    go_end0
    exact ⟨rfl, rfl⟩
set_option maxRecDepth 100000 in
theorem growText_none (kb : Nat) (w : World) (hc : w.cell? ⟨kb, 3, none⟩ = some (.slice none 0 0)) : Calls Tryd.prog 38 #[.pointer (some ⟨kb, 0, none⟩)] w fun e w' => e = .returned (.tuple #[]) ∧ w = w' := by
  go_enter Tryd.func38, Tryd.ntmps38
  go_wp2_with fail
  go_loop [2] (fun i => i = .int .i64 0) (fun _ => 0)
  case atStart => rfl
  case round =>
    subst hrel
    go_wp2
    go_end0
    exact ⟨rfl, rfl⟩
set_option maxRecDepth 100000 in
theorem lookText_none (kb : Nat) (w : World) (hc : w.cell? ⟨kb, 3, none⟩ = some (.slice none 0 0)) : Calls Tryd.prog 47 #[.pointer (some ⟨kb, 0, none⟩)] w fun e w' => e = .returned (.bool true) ∧ w = w' := by
  go_enter Tryd.func47, Tryd.ntmps47
  go_wp2_with fail
  go_loop [3] (fun i => i = .int .i64 0) (fun _ => 0)
  case atStart => rfl
  case round =>
    subst hrel
    go_wp2
    go_ret
    exact ⟨rfl, rfl⟩
set_option maxRecDepth 100000 in
theorem fillIntList_none (kb : Nat) (w : World) (hc : w.cell? ⟨kb, 4, none⟩ = some (.slice none 0 0)) : Calls Tryd.prog 30 #[.pointer (some ⟨kb, 0, none⟩)] w fun e w' => e = .returned (.tuple #[]) ∧ w = w' := by
  go_enter Tryd.func30, Tryd.ntmps30
  go_wp2_with fail
  go_loop [2] (fun i => i = .int .i64 0) (fun _ => 0)
  case atStart => rfl
  case round =>
    subst hrel
    go_wp2
    go_end0
    exact ⟨rfl, rfl⟩
set_option maxRecDepth 100000 in
theorem growIntList_none (kb : Nat) (w : World) (hc : w.cell? ⟨kb, 4, none⟩ = some (.slice none 0 0)) : Calls Tryd.prog 39 #[.pointer (some ⟨kb, 0, none⟩)] w fun e w' => e = .returned (.tuple #[]) ∧ w = w' := by
  go_enter Tryd.func39, Tryd.ntmps39
  go_wp2_with fail
  go_loop [2] (fun i => i = .int .i64 0) (fun _ => 0)
  case atStart => rfl
  case round =>
    subst hrel
    go_wp2
    go_end0
    exact ⟨rfl, rfl⟩
set_option maxRecDepth 100000 in
theorem lookIntList_none (kb : Nat) (w : World) (hc : w.cell? ⟨kb, 4, none⟩ = some (.slice none 0 0)) : Calls Tryd.prog 48 #[.pointer (some ⟨kb, 0, none⟩)] w fun e w' => e = .returned (.bool true) ∧ w = w' := by
  go_enter Tryd.func48, Tryd.ntmps48
  go_wp2_with fail
  go_loop [3] (fun i => i = .int .i64 0) (fun _ => 0)
  case atStart => rfl
  case round =>
    subst hrel
    go_wp2
    go_ret
    exact ⟨rfl, rfl⟩
set_option maxRecDepth 100000 in
theorem fillByteList_none (kb : Nat) (w : World) (hc : w.cell? ⟨kb, 5, none⟩ = some (.slice none 0 0)) : Calls Tryd.prog 31 #[.pointer (some ⟨kb, 0, none⟩)] w fun e w' => e = .returned (.tuple #[]) ∧ w = w' := by
  go_enter Tryd.func31, Tryd.ntmps31
  go_wp2_with fail
  go_loop [2] (fun i => i = .int .i64 0) (fun _ => 0)
  case atStart => rfl
  case round =>
    subst hrel
    go_wp2
    go_end0
    exact ⟨rfl, rfl⟩
set_option maxRecDepth 100000 in
theorem growByteList_none (kb : Nat) (w : World) (hc : w.cell? ⟨kb, 5, none⟩ = some (.slice none 0 0)) : Calls Tryd.prog 40 #[.pointer (some ⟨kb, 0, none⟩)] w fun e w' => e = .returned (.tuple #[]) ∧ w = w' := by
  go_enter Tryd.func40, Tryd.ntmps40
  go_wp2_with fail
  go_loop [2] (fun i => i = .int .i64 0) (fun _ => 0)
  case atStart => rfl
  case round =>
    subst hrel
    go_wp2
    go_end0
    exact ⟨rfl, rfl⟩
set_option maxRecDepth 100000 in
theorem lookByteList_none (kb : Nat) (w : World) (hc : w.cell? ⟨kb, 5, none⟩ = some (.slice none 0 0)) : Calls Tryd.prog 49 #[.pointer (some ⟨kb, 0, none⟩)] w fun e w' => e = .returned (.bool true) ∧ w = w' := by
  go_enter Tryd.func49, Tryd.ntmps49
  go_wp2_with fail
  go_loop [3] (fun i => i = .int .i64 0) (fun _ => 0)
  case atStart => rfl
  case round =>
    subst hrel
    go_wp2
    go_ret
    exact ⟨rfl, rfl⟩
set_option maxRecDepth 100000 in
theorem fillWhy_none (kb : Nat) (w : World) (hc : w.cell? ⟨kb, 6, none⟩ = some (.slice none 0 0)) : Calls Tryd.prog 32 #[.pointer (some ⟨kb, 0, none⟩)] w fun e w' => e = .returned (.tuple #[]) ∧ w = w' := by
  go_enter Tryd.func32, Tryd.ntmps32
  go_wp2_with fail
  go_loop [2] (fun i => i = .int .i64 0) (fun _ => 0)
  case atStart => rfl
  case round =>
    subst hrel
    go_wp2
    go_end0
    exact ⟨rfl, rfl⟩
set_option maxRecDepth 100000 in
theorem growWhy_none (kb : Nat) (w : World) (hc : w.cell? ⟨kb, 6, none⟩ = some (.slice none 0 0)) : Calls Tryd.prog 41 #[.pointer (some ⟨kb, 0, none⟩)] w fun e w' => e = .returned (.tuple #[]) ∧ w = w' := by
  go_enter Tryd.func41, Tryd.ntmps41
  go_wp2_with fail
  go_loop [2] (fun i => i = .int .i64 0) (fun _ => 0)
  case atStart => rfl
  case round =>
    subst hrel
    go_wp2
    go_end0
    exact ⟨rfl, rfl⟩
set_option maxRecDepth 100000 in
theorem lookWhy_none (kb : Nat) (w : World) (hc : w.cell? ⟨kb, 6, none⟩ = some (.slice none 0 0)) : Calls Tryd.prog 50 #[.pointer (some ⟨kb, 0, none⟩)] w fun e w' => e = .returned (.bool true) ∧ w = w' := by
  go_enter Tryd.func50, Tryd.ntmps50
  go_wp2_with fail
  go_loop [3] (fun i => i = .int .i64 0) (fun _ => 0)
  case atStart => rfl
  case round =>
    subst hrel
    go_wp2
    go_ret
    exact ⟨rfl, rfl⟩
set_option maxRecDepth 100000 in
theorem fillFrame_none (kb : Nat) (w : World) (hc : w.cell? ⟨kb, 7, none⟩ = some (.slice none 0 0)) : Calls Tryd.prog 33 #[.pointer (some ⟨kb, 0, none⟩)] w fun e w' => e = .returned (.tuple #[]) ∧ w = w' := by
  go_enter Tryd.func33, Tryd.ntmps33
  go_wp2_with fail
  go_loop [2] (fun i => i = .int .i64 0) (fun _ => 0)
  case atStart => rfl
  case round =>
    subst hrel
    go_wp2
    go_end0
    exact ⟨rfl, rfl⟩
set_option maxRecDepth 100000 in
theorem growFrame_none (kb : Nat) (w : World) (hc : w.cell? ⟨kb, 7, none⟩ = some (.slice none 0 0)) : Calls Tryd.prog 42 #[.pointer (some ⟨kb, 0, none⟩)] w fun e w' => e = .returned (.tuple #[]) ∧ w = w' := by
  go_enter Tryd.func42, Tryd.ntmps42
  go_wp2_with fail
  go_loop [2] (fun i => i = .int .i64 0) (fun _ => 0)
  case atStart => rfl
  case round =>
    subst hrel
    go_wp2
    go_end0
    exact ⟨rfl, rfl⟩
set_option maxRecDepth 100000 in
theorem lookFrame_none (kb : Nat) (w : World) (hc : w.cell? ⟨kb, 7, none⟩ = some (.slice none 0 0)) : Calls Tryd.prog 51 #[.pointer (some ⟨kb, 0, none⟩)] w fun e w' => e = .returned (.bool true) ∧ w = w' := by
  go_enter Tryd.func51, Tryd.ntmps51
  go_wp2_with fail
  go_loop [3] (fun i => i = .int .i64 0) (fun _ => 0)
  case atStart => rfl
  case round =>
    subst hrel
    go_wp2
    go_ret
    exact ⟨rfl, rfl⟩
set_option maxRecDepth 100000 in
theorem fillReply_none (kb : Nat) (w : World) (hc : w.cell? ⟨kb, 8, none⟩ = some (.slice none 0 0)) : Calls Tryd.prog 34 #[.pointer (some ⟨kb, 0, none⟩)] w fun e w' => e = .returned (.tuple #[]) ∧ w = w' := by
  go_enter Tryd.func34, Tryd.ntmps34
  go_wp2_with fail
  go_loop [2] (fun i => i = .int .i64 0) (fun _ => 0)
  case atStart => rfl
  case round =>
    subst hrel
    go_wp2
    go_end0
    exact ⟨rfl, rfl⟩
set_option maxRecDepth 100000 in
theorem growReply_none (kb : Nat) (w : World) (hc : w.cell? ⟨kb, 8, none⟩ = some (.slice none 0 0)) : Calls Tryd.prog 43 #[.pointer (some ⟨kb, 0, none⟩)] w fun e w' => e = .returned (.tuple #[]) ∧ w = w' := by
  go_enter Tryd.func43, Tryd.ntmps43
  go_wp2_with fail
  go_loop [2] (fun i => i = .int .i64 0) (fun _ => 0)
  case atStart => rfl
  case round =>
    subst hrel
    go_wp2
    go_end0
    exact ⟨rfl, rfl⟩
set_option maxRecDepth 100000 in
theorem lookReply_none (kb : Nat) (w : World) (hc : w.cell? ⟨kb, 8, none⟩ = some (.slice none 0 0)) : Calls Tryd.prog 52 #[.pointer (some ⟨kb, 0, none⟩)] w fun e w' => e = .returned (.bool true) ∧ w = w' := by
  go_enter Tryd.func52, Tryd.ntmps52
  go_wp2_with fail
  go_loop [3] (fun i => i = .int .i64 0) (fun _ => 0)
  case atStart => rfl
  case round =>
    subst hrel
    go_wp2
    go_ret
    exact ⟨rfl, rfl⟩
set_option maxRecDepth 100000 in
theorem fillRecord_none (kb : Nat) (w : World) (hc : w.cell? ⟨kb, 9, none⟩ = some (.slice none 0 0)) : Calls Tryd.prog 35 #[.pointer (some ⟨kb, 0, none⟩)] w fun e w' => e = .returned (.tuple #[]) ∧ w = w' := by
  go_enter Tryd.func35, Tryd.ntmps35
  go_wp2_with fail
  go_loop [2] (fun i => i = .int .i64 0) (fun _ => 0)
  case atStart => rfl
  case round =>
    subst hrel
    go_wp2
    go_end0
    exact ⟨rfl, rfl⟩
set_option maxRecDepth 100000 in
theorem growRecord_none (kb : Nat) (w : World) (hc : w.cell? ⟨kb, 9, none⟩ = some (.slice none 0 0)) : Calls Tryd.prog 44 #[.pointer (some ⟨kb, 0, none⟩)] w fun e w' => e = .returned (.tuple #[]) ∧ w = w' := by
  go_enter Tryd.func44, Tryd.ntmps44
  go_wp2_with fail
  go_loop [2] (fun i => i = .int .i64 0) (fun _ => 0)
  case atStart => rfl
  case round =>
    subst hrel
    go_wp2
    go_end0
    exact ⟨rfl, rfl⟩
set_option maxRecDepth 100000 in
theorem lookRecord_none (kb : Nat) (w : World) (hc : w.cell? ⟨kb, 9, none⟩ = some (.slice none 0 0)) : Calls Tryd.prog 53 #[.pointer (some ⟨kb, 0, none⟩)] w fun e w' => e = .returned (.bool true) ∧ w = w' := by
  go_enter Tryd.func53, Tryd.ntmps53
  go_wp2_with fail
  go_loop [3] (fun i => i = .int .i64 0) (fun _ => 0)
  case atStart => rfl
  case round =>
    subst hrel
    go_wp2
    go_ret
    exact ⟨rfl, rfl⟩

/-- What AllGrown says of each list behind. -/
theorem grown_look {e : TypeId} {mk : Nat → Value} {w : World} {B s : Nat} {hs hs' : List Hl} (H : AllGrown e mk w B s hs hs') (hks : ∀ h ∈ hs, h.k < 1000) (hns : ∀ h ∈ hs, h.n ≤ 1000000000) :
    ∀ h ∈ hs', h.ln = h.n + 40 ∧ h.k < 1000 ∧ h.n ≤ 1000000000 ∧ Rd w h.A h.n (List.replicate h.n (mk h.k)) ∧ Rd w h.L (h.n + 40) (List.replicate (h.n + 40) (mk h.k)) := by
  intro h' hm
  obtain ⟨j, hj'⟩ := List.getElem?_of_mem hm
  have hlt : j < hs.length := by rw [← H.1]; exact (List.getElem?_eq_some_iff.1 hj').1
  have hj : hs[j]? = some hs[j] := List.getElem?_eq_getElem hlt
  obtain ⟨a1, a2, a3, a4, a5, a6, a7, _⟩ := H.2 j _ h' hj hj'
  have hmem := List.getElem_mem hlt
  rw [a1, a2, a4]
  rw [a5] at a7
  exact ⟨a5, hks _ hmem, hns _ hmem, a6.rd, a7.rd⟩

set_option maxRecDepth 100000 in
set_option maxHeartbeats 2000000 in
theorem apart_off (kb N B : Nat) (vb vi : Value) (hb hi : List Hl) (w : World) (hk : Bk 43 62 60 w kb N vb vi hb hi)
    (hownB : ∀ h ∈ hb, ∃ xs, Own w B 5 h.A h.n h.c xs) (hownI : ∀ h ∈ hi, ∃ xs, Own w B 3 h.A h.n h.c xs)
    (hlt : ∀ h ∈ hb ++ hi, ∀ g, Hit h g → OffL kb vb vi w.heap.size g) (hsep : Sep (hb ++ hi)) (hks : ∀ h ∈ hb ++ hi, h.k < 1000) (hns : ∀ h ∈ hb ++ hi, h.n ≤ 1000000000) (hlb : hb.length ≤ 900) (hli : hi.length ≤ 900) (hBk : B ≤ kb) :
    Calls Tryd.prog 18 #[.pointer (some ⟨kb, 0, none⟩)] w fun e w' => e = .returned (.bool true) ∧ Below B w w' := by
  obtain ⟨sb, si, sx⟩ := List.pairwise_append.1 hsep
  have sepB : Sep hb := sb
  have sepI : Sep hi := si
  have ltB : ∀ h ∈ hb, ∀ g, Hit h g → OffL kb vb vi w.heap.size g := fun h hm => hlt h (List.mem_append_left _ hm)
  have ltI : ∀ h ∈ hi, ∀ g, Hit h g → OffL kb vb vi w.heap.size g := fun h hm => hlt h (List.mem_append_right _ hm)
  have ksB : ∀ h ∈ hb, h.k < 1000 := fun h hm => hks h (List.mem_append_left _ hm)
  have ksI : ∀ h ∈ hi, h.k < 1000 := fun h hm => hks h (List.mem_append_right _ hm)
  have nsB : ∀ h ∈ hb, h.n ≤ 1000000000 := fun h hm => hns h (List.mem_append_left _ hm)
  have nsI : ∀ h ∈ hi, h.n ≤ 1000000000 := fun h hm => hns h (List.mem_append_right _ hm)
  have crB : ∀ h ∈ hb, ∀ g, Hit h g → ¬ Hits hi g := fun h hm g hg ⟨h2, hm2, hg2⟩ => sx h hm h2 hm2 g hg hg2
  have crI : ∀ h ∈ hi, ∀ g, Hit h g → ¬ Hits hb g := fun h hm g hg ⟨h2, hm2, hg2⟩ => sx h2 hm2 h hm g hg2 hg
  have hpB : ∀ b, Hits hb b → Off kb vb vi b := fun b ⟨h, hm, hg⟩ => (ltB h hm b hg).2
  have hpI : ∀ b, Hits hi b → Off kb vb vi b := fun b ⟨h, hm, hg⟩ => (ltI h hm b hg).2
  clear hlt hks hns hsep sb si sx
  go_enter Tryd.func18, Tryd.ntmps18
  go_wp2_with fail
  refine (fillByte_any kb N B vb vi hb hi w hk hownB ltB sepB ksB nsB hlb hBk).mono ?_
  rintro e w1 ⟨rfl, hf1, hb1, ho1⟩
  have hk1 := hk.fr hf1 hpB
  have z1 := hf1.1
  have ltI1 : ∀ h ∈ hi, ∀ g, Hit h g → OffL kb vb vi w1.heap.size g := fun h hm g hg => (ltI h hm g hg).mono z1
  have hoI1 : ∀ h ∈ hi, ∃ xs, Own w1 B 3 h.A h.n h.c xs := fun h hm => by
    obtain ⟨xs, hx⟩ := hownI h hm
    exact ⟨xs, hx.fr hf1 fun g hc hA => crI h hm g ⟨hc, hA⟩⟩
  have HO1 := Lib.hid ho1
  clear ho1 hownI hownB hf1
  go_wp2_with fail
  refine (fillInt_any kb N B vb vi hb hi w1 hk1 hoI1 ltI1 sepI ksI nsI hli hBk).mono ?_
  rintro e w2 ⟨rfl, hf2, hb2, ho2⟩
  have hk2 := hk1.fr hf2 hpI
  have z2 := hf2.1
  have ltB2 : ∀ h ∈ hb, ∀ g, Hit h g → OffL kb vb vi w2.heap.size g := fun h hm g hg => (ltB h hm g hg).mono (Nat.le_trans z1 z2)
  have ltI2 : ∀ h ∈ hi, ∀ g, Hit h g → OffL kb vb vi w2.heap.size g := fun h hm g hg => (ltI1 h hm g hg).mono z2
  have hoB2 : ∀ h ∈ hb, Own w2 B 5 h.A h.n h.c (List.replicate h.n (mkB h.k)) := fun h hm => (HO1.out h hm).fr hf2 fun g hc hA => crB h hm g ⟨hc, hA⟩
  have hB2 := hb1.trans hb2
  clear HO1 hoI1 hf2 hb1 hb2 hk hk1
  go_wp2_with fail
  refine (fillText_none kb w2 (hk2.cell 3)).mono ?_
  rintro e wm ⟨rfl, rfl⟩
  go_wp2_with fail
  refine (fillIntList_none kb w2 (hk2.cell 4)).mono ?_
  rintro e wm ⟨rfl, rfl⟩
  go_wp2_with fail
  refine (fillByteList_none kb w2 (hk2.cell 5)).mono ?_
  rintro e wm ⟨rfl, rfl⟩
  go_wp2_with fail
  refine (fillWhy_none kb w2 (hk2.cell 6)).mono ?_
  rintro e wm ⟨rfl, rfl⟩
  go_wp2_with fail
  refine (fillFrame_none kb w2 (hk2.cell 7)).mono ?_
  rintro e wm ⟨rfl, rfl⟩
  go_wp2_with fail
  refine (fillReply_none kb w2 (hk2.cell 8)).mono ?_
  rintro e wm ⟨rfl, rfl⟩
  go_wp2_with fail
  refine (fillRecord_none kb w2 (hk2.cell 9)).mono ?_
  rintro e wm ⟨rfl, rfl⟩
  go_wp2_with fail
  refine (growByte_any kb N B vb vi hb hi w2 hk2 hoB2 ltB2 sepB ksB nsB hlb hBk).mono ?_
  rintro e w3 ⟨rfl, hb', hk3, hf3, hb3, hg3⟩
  have hvb : ∀ g, vb.ownBlock = some g → kb < g ∧ g < w2.heap.size := fun g hg => by have h := hk2.tb.lt g hg; omega
  have hvi : ∀ g, vi.ownBlock = some g → kb < g ∧ g < w2.heap.size := fun g hg => by have h := hk2.ti.lt g hg; omega
  have hkl2 := hk2.lt
  have hoI3 : ∀ h ∈ hi, Own w3 B 3 h.A h.n h.c (List.replicate h.n (mkI h.k)) := fun h hm => (ho2 h hm).fr hf3 fun g hc hA hx => by
    rcases hx with hx | hx
    · exact crI h hm g ⟨hc, hA⟩ hx
    · exact (ltI h hm g ⟨hc, hA⟩).2.2.1 hx
  have hB3 := hB2.trans hb3
  have z3 := hf3.1
  have ltI3 : ∀ h ∈ hi, ∀ g, Hit h g → OffL kb vb vi w3.heap.size g := fun h hm g hg => (ltI2 h hm g hg).mono z3
  clear ho2 hoB2 hf3 hb3 hk2 hB2
  go_wp2_with fail
  refine (growInt_any kb N B vb vi hb' hi w3 hk3 hoI3 ltI3 sepI ksI nsI hli hBk).mono ?_
  rintro e w4 ⟨rfl, hi', hk4, hf4, hb4, hg4⟩
  have hgB := hg3.fr hf4 (fun h hm g hg hx => by
    rcases hx with hx | hx
    · exact crB h hm g hg hx
    · exact (ltB h hm g hg).2.2.2 hx) (fun g hs hx => by
    rcases hx with hx | hx
    · obtain ⟨h, hm, hh⟩ := hx
      have := (ltI2 h hm g hh).1
      omega
    · have := hvi g hx
      omega)
  have hB4 := hB3.trans hb4
  have hlb' : hb'.length ≤ 900 := by rw [hgB.1]; exact hlb
  have hli' : hi'.length ≤ 900 := by rw [hg4.1]; exact hli
  have lookB := Lib.hid (grown_look hgB ksB nsB)
  have lookI := Lib.hid (grown_look hg4 ksI nsI)
  clear hgB hg4 hg3 hf4 hb4 hB3 hk3 hoI3 crB crI ltB ltI ltI1 ltB2 ltI2 ltI3 ksB ksI nsB nsI hvb hvi hpB hpI sepB sepI
  go_wp2_with fail
  refine (growText_none kb w4 (hk4.cell 3)).mono ?_
  rintro e wm ⟨rfl, rfl⟩
  go_wp2_with fail
  refine (growIntList_none kb w4 (hk4.cell 4)).mono ?_
  rintro e wm ⟨rfl, rfl⟩
  go_wp2_with fail
  refine (growByteList_none kb w4 (hk4.cell 5)).mono ?_
  rintro e wm ⟨rfl, rfl⟩
  go_wp2_with fail
  refine (growWhy_none kb w4 (hk4.cell 6)).mono ?_
  rintro e wm ⟨rfl, rfl⟩
  go_wp2_with fail
  refine (growFrame_none kb w4 (hk4.cell 7)).mono ?_
  rintro e wm ⟨rfl, rfl⟩
  go_wp2_with fail
  refine (growReply_none kb w4 (hk4.cell 8)).mono ?_
  rintro e wm ⟨rfl, rfl⟩
  go_wp2_with fail
  refine (growRecord_none kb w4 (hk4.cell 9)).mono ?_
  rintro e wm ⟨rfl, rfl⟩
  go_wp2_with fail
  refine (lookByte_any kb N vb vi hb' hi' w4 hk4 lookB.out hlb').mono ?_
  rintro e w5 ⟨rfl, hb5⟩
  have hk5 := hk4.below hb5
  have lookI5 : ∀ h ∈ hi', h.ln = h.n + 40 ∧ h.k < 1000 ∧ h.n ≤ 1000000000 ∧ Rd w5 h.A h.n (List.replicate h.n (mkI h.k)) ∧ Rd w5 h.L (h.n + 40) (List.replicate (h.n + 40) (mkI h.k)) := fun h hm => by
    obtain ⟨a1, a2, a3, a4, a5⟩ := lookI.out h hm
    exact ⟨a1, a2, a3, a4.below hb5, a5.below hb5⟩
  have hB5 := hB4.trans (hb5.mono (Nat.le_trans (by have := hk4.lt; omega) (Nat.le_refl _)))
  have LI := Lib.hid lookI5
  clear lookI5 lookB lookI
  go_wp2_with fail
  refine (lookInt_any kb N vb vi hb' hi' w5 hk5 LI.out hli').mono ?_
  rintro e w6 ⟨rfl, hb6⟩
  have hk6 := hk5.below hb6
  have hB6 := hB5.trans (hb6.mono (Nat.le_trans (by have := hk5.lt; omega) (Nat.le_refl _)))
  go_wp2_with fail
  refine (lookText_none kb w6 (hk6.cell 3)).mono ?_
  rintro e wm ⟨rfl, rfl⟩
  go_wp2_with fail
  refine (lookIntList_none kb w6 (hk6.cell 4)).mono ?_
  rintro e wm ⟨rfl, rfl⟩
  go_wp2_with fail
  refine (lookByteList_none kb w6 (hk6.cell 5)).mono ?_
  rintro e wm ⟨rfl, rfl⟩
  go_wp2_with fail
  refine (lookWhy_none kb w6 (hk6.cell 6)).mono ?_
  rintro e wm ⟨rfl, rfl⟩
  go_wp2_with fail
  refine (lookFrame_none kb w6 (hk6.cell 7)).mono ?_
  rintro e wm ⟨rfl, rfl⟩
  go_wp2_with fail
  refine (lookReply_none kb w6 (hk6.cell 8)).mono ?_
  rintro e wm ⟨rfl, rfl⟩
  go_wp2_with fail
  refine (lookRecord_none kb w6 (hk6.cell 9)).mono ?_
  rintro e wm ⟨rfl, rfl⟩
  go_wp2
  go_ret
  exact ⟨rfl, hB6⟩

/-- Of lists that were there ahead of the book. -/
theorem apart_any (kb N B : Nat) (vb vi : Value) (hb hi : List Hl) (w : World) (hk : Bk 43 62 60 w kb N vb vi hb hi)
    (hownB : ∀ h ∈ hb, ∃ xs, Own w B 5 h.A h.n h.c xs) (hownI : ∀ h ∈ hi, ∃ xs, Own w B 3 h.A h.n h.c xs)
    (hlt : ∀ h ∈ hb ++ hi, ∀ g, Hit h g → g < kb) (hsep : Sep (hb ++ hi)) (hks : ∀ h ∈ hb ++ hi, h.k < 1000) (hns : ∀ h ∈ hb ++ hi, h.n ≤ 1000000000) (hlb : hb.length ≤ 900) (hli : hi.length ≤ 900) (hBk : B ≤ kb) :
    Calls Tryd.prog 18 #[.pointer (some ⟨kb, 0, none⟩)] w fun e w' => e = .returned (.bool true) ∧ Below B w w' :=
  apart_off kb N B vb vi hb hi w hk hownB hownI (fun h hm g hg => by
    have h1 := hlt h hm g hg
    refine ⟨Nat.lt_trans h1 hk.lt, by omega, fun hv => ?_, fun hv => ?_⟩
    · have := (hk.tb.lt g hv).1; omega
    · have := (hk.ti.lt g hv).1; omega) hsep hks hns hlb hli hBk
end Go.Proofs.YtbcfncdmkgoidaaDoor
