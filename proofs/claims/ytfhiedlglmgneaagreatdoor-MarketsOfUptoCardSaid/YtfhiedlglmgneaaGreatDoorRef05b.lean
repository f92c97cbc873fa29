/-
  Walks of the document's Put and Gains of a market.
-/
import Derived.Test.YtfhiedlglmgneaaGreatDoorRef05a
import Derived.Test.YtfhiedlglmgneaaGreatDoorMarkO
namespace Go.Proofs.YtfhiedlglmgneaaGreatDoor
open Go.RowKit
set_option linter.unusedVariables false

theorem rcheckC : CheckC 13 := fun x w h => rcheckm x w h
theorem InBox.whole {w : World} {g : Nat} {x : Mk} (h : InBox w g x) : InBox w g x := h
set_option maxRecDepth 100000 in
set_option maxHeartbeats 1000000 in
theorem rputC : PutC 11 := by
  intro x w h
  obtain ⟨β, hβ⟩ : ∃ β, x.may = β := ⟨_, rfl⟩
  have herr : x.err = if β = true then 0 else 1 := by rw [Mk.err, hβ]
  have hbs : x.bytes = if β = true then putM x.r.zs (Ls.all x.b) x.o.zs else [] := by rw [Mk.bytes, hβ]
  rw [herr, hbs]
  clear herr hbs
  have hck := rcheckC x
  rw [hβ] at hck
  have hv : x.v = .agg #[.slice x.r.A x.r.n x.r.c, .slice x.A x.n x.c, .slice x.o.A x.o.n x.o.c] := rfl
  rw [hv]
  rw [hv] at hck
  cases β
  · go_enter Tryz.func11, Tryz.ntmps11
    go_wp2_with fail
    have hBW : Below w.heap.size w (w.alloc (.cells #[.slice x.r.A x.r.n x.r.c, .slice x.A x.n x.c, .slice x.o.A x.o.n x.o.c] 25)) := (Below.refl _ w).alloc (Nat.le_refl _) _
    refine (hck _ (h.below hBW)).mono ?_
    rintro e w1 ⟨rfl, hb1⟩
    have hB := hBW.trans (hb1.mono hBW.size)
    clear hck
    go_wp2
    go_ret2
    exact ⟨none, 0, 0, rfl, Own.none_ _ _ _ _, hB⟩
  · obtain ⟨l1, l2, l3, l4, l5, l6, l7, l8⟩ := mk_len h hβ
    have hbox := InBox.new w x
    have hlen : x.b.length = x.n := h.len
    have hrd := h.r.rd
    have hod := h.o.rd
    have hls := h.lss
    have rc := h.r.cap
    have rt := h.r.top
    have oc := h.o.cap
    have ot := h.o.top
    have HL := Lib.hid hlen
    have H6 := Lib.hid l6
    have H5 := Lib.hid l5
    clear l5 l6 l7 l8 hlen
    go_enter Tryz.func11, Tryz.ntmps11
    go_wp2_with fail
    have hBW : Below w.heap.size w (w.alloc (.cells #[.slice x.r.A x.r.n x.r.c, .slice x.A x.n x.c, .slice x.o.A x.o.n x.o.c] 25)) := (Below.refl _ w).alloc (Nat.le_refl _) _
    refine (hck _ (h.below hBW)).mono ?_
    rintro e w1 ⟨rfl, hb1⟩
    have hB := hBW.trans (hb1.mono hBW.size)
    have hbox1 := hbox.below hb1
    clear hbox hb1 hBW hck
    have ⟨c0, c1, c2, clt⟩ := hbox1
    go_wp2_with fail
    refine (refputlist_any none 0 0 [] x.r.A x.r.n x.r.c x.r.zs w1 (Rd.nil _ _) (by omega) (hrd.below hB) rc rt).mono ?_
    rintro e w2 ⟨A2, k2, rfl, ho2, hb2⟩
    have hbox2 := hbox1.below hb2
    have hB2 := hB.trans (hb2.mono hB.size)
    obtain ⟨L2, hL2⟩ : ∃ L, 0 + 1 + 4 * min x.r.n 255 = L := ⟨_, rfl⟩
    rw [hL2] at ho2 ⊢
    have hs2 : L2 ≤ 2000 := by omega
    have ho2 : Own w2 w.heap.size 5 A2 L2 k2 (cu8 (putL x.r.zs)) := by simpa using ho2.mono hB.size
    clear hbox1 c0 c1 c2 clt hL2 hb2
    have ⟨c0, c1, c2, clt⟩ := hbox2
    go_wp2_with fail
    refine (refput_at A2 L2 k2 _ x.n (by omega) 1 (by omega) (by omega) w2 ho2.rd (by omega) 1 rfl).mono ?_
    rintro e w3 ⟨A3, k3, rfl, ho3, hb3⟩
    have hbox3 := hbox2.below hb3
    have hB3 := hB2.trans (hb3.mono hB2.size)
    have ho3 : Own w3 w.heap.size 5 A3 (L2 + 1) k3 (cu8 (putL x.r.zs ++ putB x.n 1)) := ho3.mono hB2.size
    clear hbox2 c0 c1 c2 clt hb3 ho2
    go_wp2_with fail
    go_loopw [4, 5] (fun v i wr => ∃ (j : Nat) (A' : Option Addr) (L c' : Nat), j ≤ x.n ∧ i = .int .i64 j ∧ v = .slice A' L c' ∧ L ≤ 4000 + 2000 * j ∧ Own wr w.heap.size 5 A' L c' (cu8 (putL x.r.zs ++ putB x.n 1 ++ putLs ((Ls.all x.b).take j))) ∧ Below w3.heap.size w3 wr) (fun _ i _ => x.n - (intOf i).toNat)
    case atStart => exact ⟨0, A3, L2 + 1, k3, Nat.zero_le _, rfl, rfl, by omega, by simpa [putLs] using ho3, Below.refl _ _⟩
    case round =>
      obtain ⟨j, A', L, c', hj, rfl, rfl, hLj, hown, hbel⟩ := hrel
      have hBr := hB3.trans (hbel.mono hB3.size)
      have ⟨c0, c1, c2, clt⟩ := hbox3.below hbel
      by_cases hlt : j < x.n
      · obtain ⟨p, q, u, hA, hu, hp, hc, hk⟩ := hls.get hlt
        have hcell : wr.cell? ⟨p, q + j, none⟩ = some (.slice u.A u.n u.c) := (hBr.cell (p := ⟨p, q + j, none⟩) hp).trans hc
        have hun := H6.out u (List.mem_of_getElem? hu)
        rw [hA] at c1
        have hjl : j < (Ls.all x.b).length := by rw [Ls.all, List.length_map, HL.out]; exact hlt
        have hget : (Ls.all x.b)[j] = u.zs := by
          have h : (Ls.all x.b)[j]? = some u.zs := by rw [Ls.all, List.getElem?_map, hu]; rfl
          rw [List.getElem?_eq_getElem hjl] at h
          exact Option.some.inj h
        have hstep : putLs ((Ls.all x.b).take (j + 1)) = putLs ((Ls.all x.b).take j) ++ putL u.zs := by
          rw [List.take_succ_eq_append_getElem hjl, putLs_snoc, hget]
        have HS := Lib.hid hstep
        have hur := hk.rd
        have huc := hk.cap
        have hut := hk.top
        clear hstep hget hjl hc hk hu hA
        go_wp2_with fail
        refine (refputlist_any A' L c' _ u.A u.n u.c u.zs wr hown.rd (by omega) (hur.below hBr) huc hut).mono ?_
        rintro e w4 ⟨A4, k4, rfl, ho4, hb4⟩
        obtain ⟨L4, hL4⟩ : ∃ L', L + 1 + 4 * min u.n 255 = L' := ⟨_, rfl⟩
        rw [hL4] at ho4 ⊢
        have hs4 : L4 ≤ 4000 + 2000 * (j + 1) := by omega
        have ho4 : Own w4 w.heap.size 5 A4 L4 k4 (cu8 (putL x.r.zs ++ putB x.n 1 ++ putLs ((Ls.all x.b).take (j + 1)))) := by
          rw [HS.out, ← List.append_assoc]
          exact ho4.mono hBr.size
        have hbel4 := hbel.trans (hb4.mono hbel.size)
        clear hL4 hb4 hown hbel hBr c0 c1 c2 hcell hur HS
        go_wp2
        go_roundw
        case rel => exact ⟨j + 1, A4, L4, k4, by omega, by go_num, rfl, hs4, ho4, hbel4⟩
        case measure => simp [intOf]; omega
      · obtain rfl : j = x.n := by omega
        have hall : (Ls.all x.b).take x.n = Ls.all x.b := List.take_of_length_le (by rw [Ls.all, List.length_map, HL.out]; exact Nat.le_refl _)
        rw [hall] at hown
        have hfin : putL x.r.zs ++ putB x.n 1 ++ putLs (Ls.all x.b) ++ putL x.o.zs = putM x.r.zs (Ls.all x.b) x.o.zs := by
          rw [putM, Ls.all, List.length_map, HL.out, List.append_assoc, List.append_assoc]
        have HF := Lib.hid hfin
        clear hfin hall
        go_wp2_with fail
        refine (refputlist_any A' L c' _ x.o.A x.o.n x.o.c x.o.zs wr hown.rd (by omega) (hod.below hBr) oc ot).mono ?_
        rintro e w4 ⟨A4, k4, rfl, ho4, hb4⟩
        rw [HF.out] at ho4
        have hB4 := hBr.trans (hb4.mono hBr.size)
        have hfinal := ho4.mono hBr.size
        clear ho4 hb4 c0 c1 c2
        go_wp2
        go_ret2
        exact ⟨A4, _, k4, rfl, hfinal, hB4⟩
end Go.Proofs.YtfhiedlglmgneaaGreatDoor
