/-
  Proved: salesroomlaw04.VectorsMoved answers true, for any bid and reserves of 16 bits, by however much they are moved, in whatever memory. No conditions.
-/
import Derived.Test.YtbcfncdmkgoidaaRows
import Derived.Test.YtbcfncdmkgoidaaAlive4
import Derived.Test.YtbcfncdmkgoidaaVecArgs
import Derived.Test.YtbcfncdmkgoidaaLists
import Derived.Test.YtbcfncdmkgoidaaLift
namespace Go.Proofs.Ytbcfncdmkgoidaa.vectorsMoved
open Go.ChangeShapes Go.WideShapes Go.ChangeAt Go.RowKit
set_option linter.unusedVariables false

theorem infow_int : (Try.prog.info? 3).map (fun i => (i.zero, i.size, i.bytes)) = some (some (.int .i64 0), 1, 8) := by kernel_rfl

theorem worth_map (l : List (Int × Int)) (f g : Int × Int → Int) (i : Nat) (hi : i < l.length) : worth (l.map f) (l.map g) i = max (-1) (f l[i] - g l[i]) := by
  rw [worth_in i (by simpa using hi) (by simpa using hi)]
  simp

set_option maxRecDepth 100000 in
set_option maxHeartbeats 1000000 in
theorem walk_out (A : Option Addr) (n c : Nat) (y : Int) (at_ : Nat) (w : World) (hc2 : c ≤ maxLen) (hc : n ≤ c) (hn : n = 0 ∨ 300 < n) :
    Calls Try.prog 7 #[.slice A n c, .int .i16 y, .int .u8 at_] w fun e w' => e = .returned (.bool true) ∧ Below w.heap.size w w' := by
  unfold maxLen at hc2
  by_cases h0 : n = 0
  · subst h0
    go_enter Try.func7, Try.ntmps7
    go_wp2_with fail
    refine (alive4_any w).mono ?_
    rintro e w2 ⟨rfl, b2⟩
    go_wp2_with fail
    refine (alive4_any w2).mono ?_
    rintro e w3 ⟨rfl, b3⟩
    go_wp2
    go_ret
    exact ⟨rfl, b2.trans (b3.mono b2.size)⟩
  · have h1 : decide (300 < n) = true := by simp; omega
    have h2 : ((n : Int) == 0) = false := by rw [beq_eq_false_iff_ne]; omega
    go_enter Try.func7, Try.ntmps7
    go_wp2_with fail
    refine (alive4_any w).mono ?_
    rintro e w2 ⟨rfl, b2⟩
    go_wp2_with fail
    refine (alive4_any w2).mono ?_
    rintro e w3 ⟨rfl, b3⟩
    go_wp2
    go_ret
    exact ⟨rfl, b2.trans (b3.mono b2.size)⟩

set_option maxRecDepth 100000 in
set_option maxHeartbeats 1000000 in
theorem walk_in (A : Option Addr) (n c : Nat) (l : List (Int × Int)) (y : Int) (hy1 : -32768 ≤ y) (hy2 : y ≤ 32767) (at_ : Nat) (hat : at_ < 256) (w : World) (hr : RdR w 2 A n (l.map (pairCells .i16))) (hbd : ∀ u ∈ l, (-32768 ≤ u.1 ∧ u.1 ≤ 32767) ∧ (-32768 ≤ u.2 ∧ u.2 ≤ 32767))
    (hc2 : c ≤ maxLen) (hc : n ≤ c) (hn0 : 0 < n) (hn : n ≤ 300) :
    Calls Try.prog 7 #[.slice A n c, .int .i16 y, .int .u8 at_] w fun e w' => e = .returned (.bool true) ∧ Below w.heap.size w w' := by
  obtain ⟨i0, hi0, hz0, hz1, hz2⟩ := info_parts infow_int
  have hl : l.length = n := by have h := hr.1; simpa using h
  unfold maxLen at hc2
  have h1 : decide (300 < n) = false := by simp; omega
  have h2 : ((n : Int) == 0) = false := by rw [beq_eq_false_iff_ne]; omega
  have HL := Lib.hid hl
  clear hl
  go_enter Try.func7, Try.ntmps7
  go_wp2_with fail
  refine (alive4_any w).mono ?_
  rintro e w1 ⟨rfl, b1⟩
  have s1 := b1.size
  have HB1 := Lib.hid b1
  clear b1
  go_wp2_with fail
  go_loopw [7, 8, 9, 10, 11, 12] (fun va vb vc vd vf i wr => ∃ (j : Nat) (Aa Ab Ac Ad Af : Option Addr) (ca cb cc cd cf : Nat), j ≤ n ∧ i = .int .i64 j ∧ va = .slice Aa j ca ∧ vb = .slice Ab j cb ∧ vc = .slice Ac j cc ∧ vd = .slice Ad j cd ∧ vf = .slice Af j cf ∧
    Lists wr w1.heap.size 3 [⟨Aa, j, ca, (l.take j).map (fun u => u.1)⟩, ⟨Ab, j, cb, (l.take j).map (fun u => u.2)⟩, ⟨Ac, j, cc, (l.take j).map (fun u => u.1 + y)⟩, ⟨Ad, j, cd, (l.take j).map (fun u => u.2 + y)⟩, ⟨Af, j, cf, (l.take j).map (fun u => u.2 + 1)⟩] ∧ Below w1.heap.size w1 wr) (fun _ _ _ _ _ i _ => n - (intOf i).toNat)
  case atStart => exact ⟨0, none, none, none, none, none, 0, 0, 0, 0, 0, Nat.zero_le _, rfl, rfl, rfl, rfl, rfl, rfl, Lists.none_ _ _ _ 5, Below.refl _ _⟩
  case round =>
    obtain ⟨j, Aa, Ab, Ac, Ad, Af, ca, cb, cc, cd, cf, hj, rfl, rfl, rfl, rfl, rfl, rfl, hLs, hB⟩ := hrel
    by_cases hlt : j < n
    · obtain ⟨b, o, u, rfl, hu, hbw, e0, e1⟩ := pairs_get hr hlt
      have hjl : j < l.length := by rw [HL.out]; exact hlt
      have hul : l[j] = u := by rw [List.getElem?_eq_getElem hjl] at hu; exact Option.some.inj hu
      have hT := List.take_succ_eq_append_getElem hjl
      rw [hul] at hT
      obtain ⟨⟨x11, x12⟩, ⟨x21, x22⟩⟩ := hbd u (List.mem_of_getElem? hu)
      have hbw1 : b < w1.heap.size := by omega
      have q0 : w1.cell? ⟨b, o + j * 2, none⟩ = some (.int .i16 u.1) := by rw [HB1.out.cell (p := ⟨b, o + j * 2, none⟩) hbw]; exact e0
      have q1 : w1.cell? ⟨b, o + j * 2 + 1, none⟩ = some (.int .i16 u.2) := by rw [HB1.out.cell (p := ⟨b, o + j * 2 + 1, none⟩) hbw]; exact e1
      obtain ⟨x1, x2⟩ := u
      simp only at x11 x12 x21 x22 q0 q1
      have HT := Lib.hid hT
      have Q0 := Lib.hid q0
      have Q1 := Lib.hid q1
      clear hT hu hul e0 e1 q0 q1
      have f0 : wr.cell? ⟨b, o + j * 2, none⟩ = some (.int .i16 x1) := by rw [hB.cell (p := ⟨b, o + j * 2, none⟩) hbw1]; exact Q0.out
      have f1 : wr.cell? ⟨b, o + j * 2 + 1, none⟩ = some (.int .i16 x2) := by rw [hB.cell (p := ⟨b, o + j * 2 + 1, none⟩) hbw1]; exact Q1.out
      have ow := hLs.own _ (List.mem_of_getElem? (i := 0) rfl)
      go_wp2_with (at_builtin; go_must (refine wpList_app1 _ rfl _ _ 23 rfl 3 i0 _ 8 Try.underlying23 hi0 hz0 hz1 hz2 rfl w1.heap.size Aa j ca _ rfl ow 1 rfl rfl ?c30 ?c40 ?c50 ?_))
      case c30 => simp only [maxLen]; omega
      case c40 => omega
      case c50 => exact hB.size
      intro Ba ka va on0 bn0 fn0 an0
      have ls0 := hLs.grow (i := 0) rfl (x1) Ba ka _ (by rw [ci64_app, List.map_take]; exact on0) fn0 an0 (by omega)
      have hB0 := hB.trans bn0
      clear f0 f1 ow on0 bn0 fn0 an0 hLs hB
      have f0 : va.cell? ⟨b, o + j * 2, none⟩ = some (.int .i16 x1) := by rw [hB0.cell (p := ⟨b, o + j * 2, none⟩) hbw1]; exact Q0.out
      have f1 : va.cell? ⟨b, o + j * 2 + 1, none⟩ = some (.int .i16 x2) := by rw [hB0.cell (p := ⟨b, o + j * 2 + 1, none⟩) hbw1]; exact Q1.out
      have ow := ls0.own _ (List.mem_of_getElem? (i := 1) rfl)
      go_wp2_with (at_builtin; go_must (refine wpList_app1 _ rfl _ _ 23 rfl 3 i0 _ 8 Try.underlying23 hi0 hz0 hz1 hz2 rfl w1.heap.size Ab j cb _ rfl ow 1 rfl rfl ?c31 ?c41 ?c51 ?_))
      case c31 => simp only [maxLen]; omega
      case c41 => omega
      case c51 => exact hB0.size
      intro Bb kb vb on1 bn1 fn1 an1
      have ls1 := ls0.grow (i := 1) rfl (x2) Bb kb _ (by rw [ci64_app, List.map_take]; exact on1) fn1 an1 (by omega)
      have hB1 := hB0.trans bn1
      clear f0 f1 ow on1 bn1 fn1 an1 ls0 hB0
      have f0 : vb.cell? ⟨b, o + j * 2, none⟩ = some (.int .i16 x1) := by rw [hB1.cell (p := ⟨b, o + j * 2, none⟩) hbw1]; exact Q0.out
      have f1 : vb.cell? ⟨b, o + j * 2 + 1, none⟩ = some (.int .i16 x2) := by rw [hB1.cell (p := ⟨b, o + j * 2 + 1, none⟩) hbw1]; exact Q1.out
      have ow := ls1.own _ (List.mem_of_getElem? (i := 2) rfl)
      go_wp2_with (at_builtin; go_must (refine wpList_app1 _ rfl _ _ 23 rfl 3 i0 _ 8 Try.underlying23 hi0 hz0 hz1 hz2 rfl w1.heap.size Ac j cc _ rfl ow 1 rfl rfl ?c32 ?c42 ?c52 ?_))
      case c32 => simp only [maxLen]; omega
      case c42 => omega
      case c52 => exact hB1.size
      intro Bc kc vc on2 bn2 fn2 an2
      have ls2 := ls1.grow (i := 2) rfl (x1 + y) Bc kc _ (by rw [ci64_app, List.map_take]; exact on2) fn2 an2 (by omega)
      have hB2 := hB1.trans bn2
      clear f0 f1 ow on2 bn2 fn2 an2 ls1 hB1
      have f0 : vc.cell? ⟨b, o + j * 2, none⟩ = some (.int .i16 x1) := by rw [hB2.cell (p := ⟨b, o + j * 2, none⟩) hbw1]; exact Q0.out
      have f1 : vc.cell? ⟨b, o + j * 2 + 1, none⟩ = some (.int .i16 x2) := by rw [hB2.cell (p := ⟨b, o + j * 2 + 1, none⟩) hbw1]; exact Q1.out
      have ow := ls2.own _ (List.mem_of_getElem? (i := 3) rfl)
      go_wp2_with (at_builtin; go_must (refine wpList_app1 _ rfl _ _ 23 rfl 3 i0 _ 8 Try.underlying23 hi0 hz0 hz1 hz2 rfl w1.heap.size Ad j cd _ rfl ow 1 rfl rfl ?c33 ?c43 ?c53 ?_))
      case c33 => simp only [maxLen]; omega
      case c43 => omega
      case c53 => exact hB2.size
      intro Bd kd vd on3 bn3 fn3 an3
      have ls3 := ls2.grow (i := 3) rfl (x2 + y) Bd kd _ (by rw [ci64_app, List.map_take]; exact on3) fn3 an3 (by omega)
      have hB3 := hB2.trans bn3
      clear f0 f1 ow on3 bn3 fn3 an3 ls2 hB2
      have f0 : vd.cell? ⟨b, o + j * 2, none⟩ = some (.int .i16 x1) := by rw [hB3.cell (p := ⟨b, o + j * 2, none⟩) hbw1]; exact Q0.out
      have f1 : vd.cell? ⟨b, o + j * 2 + 1, none⟩ = some (.int .i16 x2) := by rw [hB3.cell (p := ⟨b, o + j * 2 + 1, none⟩) hbw1]; exact Q1.out
      have ow := ls3.own _ (List.mem_of_getElem? (i := 4) rfl)
      go_wp2_with (at_builtin; go_must (refine wpList_app1 _ rfl _ _ 23 rfl 3 i0 _ 8 Try.underlying23 hi0 hz0 hz1 hz2 rfl w1.heap.size Af j cf _ rfl ow 1 rfl rfl ?c34 ?c44 ?c54 ?_))
      case c34 => simp only [maxLen]; omega
      case c44 => omega
      case c54 => exact hB3.size
      intro Bf kf vf on4 bn4 fn4 an4
      have ls4 := ls3.grow (i := 4) rfl (x2 + 1) Bf kf _ (by rw [ci64_app, List.map_take]; exact on4) fn4 an4 (by omega)
      have hB4 := hB3.trans bn4
      clear f0 f1 ow on4 bn4 fn4 an4 ls3 hB3
      have hfin : Lists vf w1.heap.size 3 [⟨Ba, j + 1, ka, (l.take (j + 1)).map (fun u => u.1)⟩, ⟨Bb, j + 1, kb, (l.take (j + 1)).map (fun u => u.2)⟩, ⟨Bc, j + 1, kc, (l.take (j + 1)).map (fun u => u.1 + y)⟩, ⟨Bd, j + 1, kd, (l.take (j + 1)).map (fun u => u.2 + y)⟩, ⟨Bf, j + 1, kf, (l.take (j + 1)).map (fun u => u.2 + 1)⟩] := by
        rw [HT.out]
        simp only [List.map_append, List.map_cons, List.map_nil]
        exact ls4
      have HF := Lib.hid hfin
      clear hfin ls4
      go_wp2
      go_roundw
      case rel => exact ⟨j + 1, Ba, Bb, Bc, Bd, Bf, ka, kb, kc, kd, kf, by omega, by go_num, rfl, rfl, rfl, rfl, rfl, HF.out, hB4⟩
      case measure => simp [intOf]; omega
    · obtain rfl : n = j := by omega
      rw [List.take_of_length_le (by rw [HL.out]; exact Nat.le_refl _)] at hLs
      have oa := hLs.own _ (List.mem_of_getElem? (i := 0) rfl)
      have ob := hLs.own _ (List.mem_of_getElem? (i := 1) rfl)
      have oc := hLs.own _ (List.mem_of_getElem? (i := 2) rfl)
      have od := hLs.own _ (List.mem_of_getElem? (i := 3) rfl)
      have of := hLs.own _ (List.mem_of_getElem? (i := 4) rfl)
      have ra := Lib.hid (show Rd wr Aa n (ci64 (l.map fun u => u.1)) from oa.rd)
      have rb := Lib.hid (show Rd wr Ab n (ci64 (l.map fun u => u.2)) from ob.rd)
      have rc := Lib.hid (show Rd wr Ac n (ci64 (l.map fun u => u.1 + y)) from oc.rd)
      have rd := Lib.hid (show Rd wr Ad n (ci64 (l.map fun u => u.2 + y)) from od.rd)
      have rf := Lib.hid (show Rd wr Af n (ci64 (l.map fun u => u.2 + 1)) from of.rd)
      have bnd : ∀ f : Int × Int → Int, (∀ u ∈ l, -1000000000000 ≤ f u ∧ f u ≤ 1000000000000) → ∀ z ∈ l.map f, -1000000000000 ≤ z ∧ z ≤ 1000000000000 := by
        intro f hf z hz
        obtain ⟨u, hu, rfl⟩ := List.mem_map.1 hz
        exact hf u hu
      have ba := Lib.hid (bnd (fun u => u.1) fun u hu => by have := hbd u hu; omega)
      have bb := Lib.hid (bnd (fun u => u.2) fun u hu => by have := hbd u hu; omega)
      have bc := Lib.hid (bnd (fun u => u.1 + y) fun u hu => by have := hbd u hu; show _ ≤ u.1 + y ∧ u.1 + y ≤ _; omega)
      have bd := Lib.hid (bnd (fun u => u.2 + y) fun u hu => by have := hbd u hu; show _ ≤ u.2 + y ∧ u.2 + y ≤ _; omega)
      have bf := Lib.hid (bnd (fun u => u.2 + 1) fun u hu => by have := hbd u hu; show _ ≤ u.2 + 1 ∧ u.2 + 1 ≤ _; omega)
      have hk : at_ % n < l.length := by rw [HL.out]; exact Nat.mod_lt _ hn0
      have w1' := worth_map l (fun u => u.1) (fun u => u.2) (at_ % n) hk
      have w2' := worth_map l (fun u => u.1 + y) (fun u => u.2 + y) (at_ % n) hk
      have w3' := worth_map l (fun u => u.1) (fun u => u.2 + 1) (at_ % n) hk
      have w4' := worth_map l (fun u => u.1) (fun u => u.1) (at_ % n) hk
      have hbu := hbd l[at_ % n] (List.getElem_mem hk)
      generalize l[at_ % n] = uu at w1' w2' w3' w4' hbu
      obtain ⟨V, hV, hVge, hVle, hV3⟩ : ∃ V : Int, max (-1) (uu.1 - uu.2) = V ∧ -1 ≤ V ∧ V ≤ 1000000 ∧ max (-1) (V - 1) = max (-1) (uu.1 - (uu.2 + 1)) := ⟨_, rfl, by omega, by omega, by omega⟩
      have e1 : worth (l.map fun u => u.1) (l.map fun u => u.2) ((at_ % n : Nat) : Int) = V := by rw [w1', hV]
      have e2 : worth (l.map fun u => u.1 + y) (l.map fun u => u.2 + y) ((at_ % n : Nat) : Int) = V := by rw [w2', ← hV]; show max (-1) (uu.1 + y - (uu.2 + y)) = _; omega
      have e3 : worth (l.map fun u => u.1) (l.map fun u => u.2 + 1) ((at_ % n : Nat) : Int) = max (-1) (V - 1) := by rw [w3', hV3]
      have e4 : worth (l.map fun u => u.1) (l.map fun u => u.1) ((at_ % n : Nat) : Int) = 0 := by rw [w4']; show max (-1) (uu.1 - uu.1) = 0; omega
      have E1 := Lib.hid e1
      have E2 := Lib.hid e2
      have E3 := Lib.hid e3
      have E4 := Lib.hid e4
      have hmod : (at_ : Int) % (n : Int) = ((at_ % n : Nat) : Int) := by omega
      have HBr := Lib.hid hB
      have szr := hB.size
      clear oa ob oc od of bnd w1' w2' w3' w4' hbu hV hV3 e1 e2 e3 e4 hLs hB hk
      generalize hkk : at_ % n = kk at hmod E1 E2 E3 E4
      have HM := Lib.hid hmod
      clear hkk
      have hn1 : ((n : Int) == 0) = false := h2
      go_wp2_with fail
      clear hmod
      rw [HM.out]
      refine (vworth_any _ _ _ (l.map fun u => u.1) _ _ _ (l.map fun u => u.2) (kk : Int) wr ra.out rb.out ba.out bb.out (by omega) (by omega)).mono ?_
      rw [E1.out]
      rintro e w5 ⟨rfl, b5⟩
      have B5 := HBr.out.trans (b5.mono szr)
      have s5 := b5.size
      have rc5 := rc.out.below b5
      have rd5 := rd.out.below b5
      have ra5 := ra.out.below b5
      have rf5 := rf.out.below b5
      clear b5
      have p1 : decide (-1 ≤ V) = true := by simpa using hVge
      have v1 : IntKind.i64.wrap (V - 1) = V - 1 := by rw [IntKind.wrap_i64]; omega
      by_cases hV0 : V ≤ 0
      · have hmx : max (-1) (V - 1) = -1 := by omega
        have E3' := Lib.hid (E3.out.trans hmx)
        go_wp2_with fail
        refine (vworth_any _ _ _ (l.map fun u => u.1 + y) _ _ _ (l.map fun u => u.2 + y) (kk : Int) w5 rc5 rd5 bc.out bd.out (by omega) (by omega)).mono ?_
        rw [E2.out]
        rintro e w6 ⟨rfl, b6⟩
        have B6 := B5.trans (b6.mono B5.size)
        have ra6 := ra5.below b6
        have rf6 := rf5.below b6
        clear b6 B5 rc5 rd5 ra5 rf5
        go_wp2_with fail
        refine (vworth_any _ _ _ (l.map fun u => u.1) _ _ _ (l.map fun u => u.2 + 1) (kk : Int) w6 ra6 rf6 ba.out bf.out (by omega) (by omega)).mono ?_
        rw [E3'.out]
        rintro e w7 ⟨rfl, b7⟩
        have B7 := B6.trans (b7.mono B6.size)
        have ra7 := ra6.below b7
        clear b7 B6 ra6 rf6
        go_wp2_with fail
        refine (vworth_any _ _ _ (l.map fun u => u.1) _ _ _ (l.map fun u => u.1) (kk : Int) w7 ra7 ra7 ba.out ba.out (by omega) (by omega)).mono ?_
        rw [E4.out]
        rintro e w8 ⟨rfl, b8⟩
        have B8 := Lib.hid (HB1.out.trans ((B7.trans (b8.mono B7.size)).mono s1))
        clear b8 B7 ra7
        go_wp2
        go_ret
        exact ⟨rfl, B8.out⟩
      · have hmx : max (-1) (V - 1) = V - 1 := by omega
        have E3' := Lib.hid (E3.out.trans hmx)
        go_wp2_with fail
        refine (vworth_any _ _ _ (l.map fun u => u.1 + y) _ _ _ (l.map fun u => u.2 + y) (kk : Int) w5 rc5 rd5 bc.out bd.out (by omega) (by omega)).mono ?_
        rw [E2.out]
        rintro e w6 ⟨rfl, b6⟩
        have B6 := B5.trans (b6.mono B5.size)
        have ra6 := ra5.below b6
        have rf6 := rf5.below b6
        clear b6 B5 rc5 rd5 ra5 rf5
        go_wp2_with fail
        refine (vworth_any _ _ _ (l.map fun u => u.1) _ _ _ (l.map fun u => u.2 + 1) (kk : Int) w6 ra6 rf6 ba.out bf.out (by omega) (by omega)).mono ?_
        rw [E3'.out]
        rintro e w7 ⟨rfl, b7⟩
        have B7 := B6.trans (b7.mono B6.size)
        have ra7 := ra6.below b7
        clear b7 B6 ra6 rf6
        go_wp2_with fail
        refine (vworth_any _ _ _ (l.map fun u => u.1) _ _ _ (l.map fun u => u.1) (kk : Int) w7 ra7 ra7 ba.out ba.out (by omega) (by omega)).mono ?_
        rw [E4.out]
        rintro e w8 ⟨rfl, b8⟩
        have B8 := Lib.hid (HB1.out.trans ((B7.trans (b8.mono B7.size)).mono s1))
        clear b8 B7 ra7
        go_wp2
        go_ret
        exact ⟨rfl, B8.out⟩

theorem walk (A : Option Addr) (n c : Nat) (l : List (Int × Int)) (y : Int) (hy1 : -32768 ≤ y) (hy2 : y ≤ 32767) (at_ : Nat) (hat : at_ < 256) (w : World) (hr : RdR w 2 A n (l.map (pairCells .i16))) (hbd : ∀ u ∈ l, (-32768 ≤ u.1 ∧ u.1 ≤ 32767) ∧ (-32768 ≤ u.2 ∧ u.2 ≤ 32767)) (hc2 : c ≤ maxLen) (hc : n ≤ c) :
    Calls Try.prog 7 #[.slice A n c, .int .i16 y, .int .u8 at_] w fun e w' => e = .returned (.bool true) ∧ Below w.heap.size w w' := by
  by_cases h : 0 < n ∧ n ≤ 300
  · exact walk_in A n c l y hy1 hy2 at_ hat w hr hbd hc2 hc h.1 h.2
  · exact walk_out A n c y at_ w hc2 hc (by omega)

theorem own : ownKnob Try.prog.godebug = none := by kernel_rfl
theorem laidOut : laidOutB Try.prog = true := by kernel_rfl

set_option maxRecDepth 100000 in
theorem lifted (os : Os) (started : os.Started) (H : Type) (enc : TypeId × Value → H) :
    ReturnsInHanded {} Try.checked os 7 .any (Rows.vectorsMovedSpec.pre6 enc Try.prog Try.f7 Rows.vectorsMovedRow.domain false) (Rows.vectorsMovedSpec.post enc Try.prog Try.f7 false true false false) := by
  refine returnsInHanded_of_change (C := Try.checked) own started (by kernel_rfl) Try.func7
    (ChangeSpec.witness6 (enc := enc) (C := Try.checked) false ⟨#[], #[.slice none 0 0, .int .i16 0, .int .u8 0], []⟩ 8 (by kernel_rfl) (by kernel_rfl) (by kernel_rfl) (by kernel_rfl)) ?_
  intro W base args ds gs before hval0 hW hcnd _
  have hval : ∀ (j : Nat) t v, Try.f7.params[j]? = some t → args[j]? = some v → Value.okWide Try.prog W .any base t v := hval0
  have hW' := hW
  obtain ⟨p, q, hA0, hV, rfl, hfz, hnd⟩ := hW
  have hA : DataW.TrodAll enc Try.prog W 0 (fun _ => true) true Try.f7.params.toList args.toList ds p := hA0
  rw [Try.params7] at hA hval
  obtain ⟨v0, vs0, d0, ds0, p0, q0, hargs, rfl, rfl, h0, r0⟩ := trodAll_cons hA
  obtain ⟨v1, vs1, d1, ds1, p1, q1, rfl, rfl, rfl, h1, r1⟩ := trodAll_cons r0
  obtain ⟨v2, vs2, d2, ds2, p2, q2, rfl, rfl, rfl, h2, r2⟩ := trodAll_cons r1
  obtain ⟨rfl, rfl, rfl⟩ := trodAll_nil r2
  obtain rfl : args = #[v0, v1, v2] := by cases args; simp_all
  obtain ⟨A0, n0, c0, l0, rfl, a0, f0, b0, e0, _⟩ := arg_pairs Try.underlying38 Try.underlying40 Try.underlying39 (by kernel_rfl) (by kernel_rfl) (hval 0 38 v0 rfl rfl) h0
  have g0 : ∀ u ∈ l0, (-32768 ≤ u.1 ∧ u.1 ≤ 32767) ∧ (-32768 ≤ u.2 ∧ u.2 ≤ 32767) := fun u hu => ⟨bounds_i16 (f0 u hu).1, bounds_i16 (f0 u hu).2⟩
  obtain ⟨x1, rfl, rfl, rfl, w1⟩ := open_int Try.underlying39 (hval 1 39 v1 rfl rfl) h1
  have y1 := bounds_i16 w1
  obtain ⟨x2, rfl, rfl, rfl, w2⟩ := open_int Try.underlying5 (hval 2 5 v2 rfl rfl) h2
  obtain ⟨y2, rfl, z2⟩ := fit_u8 w2
  have hwalk : Calls Try.prog 7 #[.slice A0 n0 c0, .int .i16 x1, .int .u8 y2] W fun e w' => e = .returned (.bool true) ∧ Below W.heap.size W w' := walk A0 n0 c0 l0 x1 y1.1 y1.2 y2 z2 W a0 g0 e0 b0
  refine hwalk.mono fun e W' ⟨he, hg⟩ => ?_
  subst he
  exact ⟨_, rfl, law_post laidOut (by kernel_rfl) hW' rfl rfl (by kernel_rfl) Try.underlying4 hg⟩

theorem over : Rows.vectorsMovedRow.holds Try.pinned (OpenSpec.ofChange Rows.vectorsMovedSpec) :=
  OpenClaim.holds_of_wide 7 Try.f7 rfl rfl rfl rfl rfl rfl rfl ⟨rfl, rfl, rfl, rfl, rfl⟩ rfl rfl rfl rfl rfl (by kernel_rfl) Try.func7 (by kernel_rfl)
    (of_decide_eq_true (by kernel_rfl)) (by unfold Func.isWrapper; first | (rw [if_pos (by decide +kernel)]; kernel_rfl) | (rw [if_neg (by decide +kernel)]; exact ⟨rfl, rfl⟩))
    (fun os started H enc _ => lifted os started H enc)

theorem proved : Rows.VectorsMovedSaid :=
  over

end Go.Proofs.Ytbcfncdmkgoidaa.vectorsMoved
