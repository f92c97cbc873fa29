/-
  Walks of package paths: the search itself.
-/
import Derived.Test.YtojpdmhccodckaaPaWc
import Derived.WalkMore
import Derived.ScopeJumps
namespace Go.Proofs.Ytojpdmhccodckaa
open Go.RowKit
set_option linter.unusedVariables false

theorem infoR_int : (Try.prog.info? 3).map (fun i => (i.zero, i.size, i.bytes)) = some (some (.int .i64 0), 1, 8) := by kernel_rfl
theorem SrAt.app {w w' : World} {b B : Nat} {t e : TypeId} {F : Nat → Int} {A A2 : Option Addr} {n c n2 c2 : Nat} {xs : List Value} (h : SrAt w b t F A n c) (ho : Own w B e A2 n2 c2 xs) (hne : e ≠ t)
    (hf : ∀ k, k < w.heap.size → ((n2 = 0 ∧ c2 = 0) ∨ A2 ≠ some ⟨k, 0, none⟩) → w'.heap[k]? = w.heap[k]?) : SrAt w' b t F A n c := by
  obtain ⟨cur, h1, h2⟩ := h
  exact ⟨cur, (hf b (Array.getElem?_eq_some_iff.1 h1).1 (own_apart ho h1 hne)).trans h1, h2⟩
theorem ci64_app1 (l : List Int) (z : Int) : ci64 (l ++ [z]) = ci64 l ++ [.int .i64 z] := ci64_snoc6 l z

theorem jump_ret {l : Nat} {J : Act → World → Prop} {Q : Exit → Act → World → Prop} {a : Act} {w : World} : Exit.jump l J Q .ret a w = Q .ret a w := rfl

set_option maxRecDepth 100000 in
set_option maxHeartbeats 2000000 in
theorem prun_any (x : Gr) (M : Nat) (A : Option Addr) (n c : Nat) (zs : List Int) (i : Nat) (on : Bool) (b : Nat) (AW : Option Addr) (cW : Nat) (w0 w : World) (hx : x.Ok w0) (hu : Ls.Ok w0 ⟨A, n, c, zs⟩) (hmay : mayP x.g M zs i = true)
    (hB : Below w0.heap.size w0 w) (hb : w0.heap.size ≤ b) (bS : SrAt w b 43 (fun _ => -1) AW 1 cW) (own : OwnI w w0.heap.size ⟨AW, 1, cW, [(i : Int)]⟩) :
    Calls Try.prog 20 #[.pointer (some ⟨b, 0, none⟩), x.v, .slice A n c, .bool (!on)] w fun e w' => ∃ A1 c1, e = .returned (.int .i64 (searchP x.g M zs i on).f) ∧
      SrAt w' b 43 (fun k => (searchP x.g M zs i on).by_.getD k (-1)) A1 (searchP x.g M zs i on).q.length c1 ∧ Own w' w0.heap.size 3 A1 (searchP x.g M zs i on).q.length c1 (ci64 (searchP x.g M zs i on).q) ∧ Below w0.heap.size w0 w' := by
  obtain ⟨i0, hi0, hz0, hz1, hz2⟩ := info_parts infoR_int
  obtain ⟨m1, hm1, hM8, hg8, hzl, i1, hi1, hif⟩ := may_nat hmay
  obtain rfl : m1 = M := by omega
  obtain rfl : i1 = i := by omega
  have HMY := Lib.hid hmay
  have HG := Lib.hid hx.glen
  have HZ := Lib.hid (show zs.length = n from hu.len)
  rw [hx.glen] at hg8 hif
  have HNB : Hid (zs.length ≤ 8) := Lib.hid (by rw [hzl, HG.out]; exact hg8)
  obtain ⟨S, hS⟩ : ∃ S, searchP x.g m1 zs i1 on = S := ⟨_, rfl⟩
  have HS := Lib.hid hS
  have hut := Nat.le_trans hu.cap hu.top
  have hxv : x.v = .slice x.A x.n x.c := rfl
  rw [hS, hxv]
  have hur := hu.rd
  simp only at hur hut
  have hck := may_check HMY.out
  have hrs : Hid (∀ b : Nat, b < x.n → Rises m1 (x.g.getD b [])) := Lib.hid (fun b hb => (checkG_iff.1 hck).2.2.2 _ (getD_mem (by rw [HG.out]; exact hb)))
  have hfit : Hid (Fit x.g m1 zs) := Lib.hid (may_fits HMY.out)
  have hf0 : Hid (zs.getD i1 (-1) = -1) := Lib.hid (by have := (mayP_iff.1 HMY.out).2.2; rwa [Int.toNat_natCast] at this)
  obtain ⟨g, hg0⟩ : ∃ g, x.g = g := ⟨_, rfl⟩
  rw [hg0] at HG HMY HS hrs hfit
  obtain ⟨A0, n0, c0, t0⟩ := x
  have HG0 := Lib.hid (show Ls.all t0 = g from hg0)
  have hxt := Nat.le_trans hx.cap hx.top
  unfold maxLen at hxt
  simp only at HG hrs hg8 hif hxt ⊢
  have hs0 : Hid (Core g m1 zs i1 on (startP m1 i1) ∧ (startP m1 i1).f = -1 ∧ runP g zs on (m1 + 2 - 0) 0 (startP m1 i1) = S) := Lib.hid ⟨start_core on (by rw [HG.out]; omega), rfl, HS.out⟩
  have bS0 : SrAt w b 43 (fun k => (startP m1 i1).by_.getD k (-1)) AW 1 cW := by
    have : (fun k => (startP m1 i1).by_.getD k (-1)) = fun _ => (-1 : Int) := by funext k; exact getD_repl
    rw [this]; exact bS
  have own0 : Own w w0.heap.size 3 AW 1 cW (ci64 [(i1 : Int)]) := own.own
  obtain ⟨en, hen⟩ : ∃ en, (!on) = en := ⟨_, rfl⟩
  have HEN := Lib.hid hen
  rw [hen]
  clear hmay hm1 hi1 hzl hS hxv hck hg0 bS own hen
  go_enter Try.func20, Try.ntmps20
  go_wp2_with fail
  refine wp_scope_jumps 0 (fun a wr => ∃ j0 j1 j2 j3 j4 j5 j6 j7 j8 j10 j11 j12 j13 j14 j15 j16 j17 j18 j19 j20 j21 j22 j23 j24 j25 j26 j27 j28 j29 j30 j31 j32 j33 j34 j35 j36 j37 j38 j39 j40 j41 j42 j43 j44 j45 j46 j47 j48 j49 j50 j51 j52 j53 j54 j55 j56 j57 j58 j59 j60 j61 j62 j63 j64 j65 j66 j67 j68 j69 j70 j71 : Value, a = (⟨#[j0, j1, j2, j3, j4, j5, j6, j7, j8, .int .i64 S.f, j10, j11, j12, j13, j14, j15, j16, j17, j18, j19, j20, j21, j22, j23, j24, j25, j26, j27, j28, j29, j30, j31, j32, j33, j34, j35, j36, j37, j38, j39, j40, j41, j42, j43, j44, j45, j46, j47, j48, j49, j50, j51, j52, j53, j54, j55, j56, j57, j58, j59, j60, j61, j62, j63, j64, j65, j66, j67, j68, j69, j70, j71], []⟩ : Act) ∧ ∃ A1 c1, SrAt wr b 43 (fun k => S.by_.getD k (-1)) A1 S.q.length c1 ∧ Own wr w0.heap.size 3 A1 S.q.length c1 (ci64 S.q) ∧ Below w0.heap.size w0 wr) (fun _ _ => 0) (by rfl) ?_ ?_
  rotate_left
  · rintro a wr ⟨j0, j1, j2, j3, j4, j5, j6, j7, j8, j10, j11, j12, j13, j14, j15, j16, j17, j18, j19, j20, j21, j22, j23, j24, j25, j26, j27, j28, j29, j30, j31, j32, j33, j34, j35, j36, j37, j38, j39, j40, j41, j42, j43, j44, j45, j46, j47, j48, j49, j50, j51, j52, j53, j54, j55, j56, j57, j58, j59, j60, j61, j62, j63, j64, j65, j66, j67, j68, j69, j70, j71, rfl, A1, c1, f1, f2, f3⟩
    go_wp2
    rw [jump_ret]
    go_ret
    exact ⟨A1, c1, rfl, f1, f2, f3⟩
  go_wp2_with fail
  go_loopw [9, 10] (fun o v wr => ∃ (k : Nat) (s : St) (A1 : Option Addr) (c1 : Nat), k ≤ s.q.length ∧ s.q.length ≤ m1 + 1 ∧ o = .int .i64 (-1) ∧ v = .int .i64 k ∧ SrAt wr b 43 (fun k => s.by_.getD k (-1)) A1 s.q.length c1 ∧ Own wr w0.heap.size 3 A1 s.q.length c1 (ci64 s.q) ∧ Hid (Core g m1 zs i1 on s ∧ s.f = -1 ∧ runP g zs on (m1 + 2 - k) k s = S) ∧ Below w0.heap.size w0 wr) (fun _ v _ => m1 + 2 - (intOf v).toNat)
  case atStart => exact ⟨0, startP m1 i1, AW, cW, Nat.zero_le _, by simp [startP], rfl, rfl, bS0, own0, hs0, hB⟩
  case round =>
    obtain ⟨k, s, A1, c1, hk, hql, rfl, rfl, aS, hoq, hcore, hbel⟩ := hrel
    clear bS0 own0 hs0 hB
    have aW := aS.waits
    by_cases hkq : k < s.q.length
    · have hkq' : (k : Int) < s.q.length := by omega
      obtain ⟨p1, q1, rfl, hp1, y0, hy0, hcy⟩ := hoq.rd.get hkq
      rw [ci64_get _ _ hkq] at hy0
      obtain rfl : iV s.q[k] = y0 := Option.some.inj hy0
      unfold iV at hcy
      have hbm : s.q[k] ∈ s.q := List.getElem_mem hkq
      have hbr := hcore.out.1.rng _ hbm
      have hget : s.q[k]? = some s.q[k] := List.getElem?_eq_getElem hkq
      rw [HG.out] at hbr
      obtain ⟨a, ha⟩ : ∃ a, s.q[k] = a := ⟨_, rfl⟩
      rw [ha] at hcy hbr hbm hget
      obtain ⟨d, rfl⟩ : ∃ d : Nat, a = d := ⟨a.toNat, by omega⟩
      have hbn : d < n0 := by omega
      have hbn' : (d : Int) < n0 := by omega
      have hb0 : (0 : Int) ≤ d := by omega
      obtain ⟨p, q, u, rfl, hgu, hp, hcu, hku⟩ := gr_get hx HG0.out hbn
      have hrl := hrs.out d hbn
      rw [hgu] at hrl
      have hun := hku.len
      have hutop := Nat.le_trans hku.cap hku.top
      unfold maxLen at hutop
      have hu8 : u.n ≤ m1 := by rw [← hun]; exact rises_len hrl
      have hrdu := hku.rd
      obtain ⟨uA, un, uc, l⟩ := u
      simp only at hcu hun hu8 hrdu hrl hgu hutop
      have HRL := Lib.hid hrl
      have HUN := Lib.hid hun
      have hrun : runP g zs on (m1 + 2 - (k + 1)) (k + 1) (scanP zs on d l s) = S := by
        have h5 := hcore.out.2.2
        rw [show m1 + 2 - k = (m1 + 2 - (k + 1)) + 1 by omega, run_next hcore.out.2.1 hget, Int.toNat_natCast, hgu] at h5
        exact h5
      obtain ⟨S1, hS1⟩ : ∃ S1, scanP zs on d l s = S1 := ⟨_, rfl⟩
      rw [hS1] at hrun
      have HRUN := Lib.hid hrun
      have h30 : Hid (Core g m1 zs i1 on s ∧ s.f = -1 ∧ (d : Int) ∈ s.q ∧ scanP zs on d (l.drop 0) s = S1) := Lib.hid ⟨hcore.out.1, hcore.out.2.1, hbm, by rw [List.drop_zero]; exact hS1⟩
      have HGU := Lib.hid hgu
      obtain ⟨wo, rfl⟩ : ∃ wo, wo = wr := ⟨_, rfl⟩
      have hcu0 : wo.cell? ⟨p, q + d, none⟩ = some (.slice uA un uc) := (hbel.cell (p := ⟨p, q + d, none⟩) hp).trans hcu
      clear hy0 ha hbr hbm hget hrl hun hrun hS1 hku hgu hcore hcu
      go_wp2_with fail
      clear hcy hcu0 aW
      go_loopw [9, 36] (fun o v wr => ∃ (r : Nat) (s2 : St) (A1 : Option Addr) (c1 : Nat), r ≤ un ∧ k < s2.q.length ∧ s2.q.length ≤ m1 + 1 ∧ o = .int .i64 (-1) ∧ v = .int .i64 r ∧ SrAt wr b 43 (fun k => s2.by_.getD k (-1)) A1 s2.q.length c1 ∧ Own wr w0.heap.size 3 A1 s2.q.length c1 (ci64 s2.q) ∧ Hid (Core g m1 zs i1 on s2 ∧ s2.f = -1 ∧ (d : Int) ∈ s2.q ∧ scanP zs on d (l.drop r) s2 = S1) ∧ Below w0.heap.size w0 wr) (fun _ v _ => un - (intOf v).toNat)
      case atStart => exact ⟨0, s, _, c1, Nat.zero_le _, hkq, hql, rfl, rfl, aS, hoq, h30, hbel⟩
      case round =>
        obtain ⟨r, s2, A3, c3, hr, hk2, hq2, rfl, rfl, aS3, ho3, hin, hb3⟩ := hrel
        clear aS hoq h30 hbel
        have aW3 := aS3.waits
        by_cases hru : r < un
        · have hru' : (r : Int) < un := by omega
          obtain ⟨p2, q2, rfl, hp2, y0, hy0, hcl⟩ := hrdu.get hru
          have hrl : r < l.length := by rw [HUN.out]; exact hru
          rw [ci64_get _ _ hrl] at hy0
          obtain rfl : iV l[r] = y0 := Option.some.inj hy0
          unfold iV at hcl
          have hkr := HRL.out.1 _ (List.getElem_mem hrl)
          have hkm : l[r] ∈ g.getD d [] := by rw [HGU.out]; exact List.getElem_mem hrl
          have hdr : l.drop r = l[r] :: l.drop (r + 1) := List.drop_eq_getElem_cons hrl
          obtain ⟨kk, hkk⟩ : ∃ kk, l[r] = kk := ⟨_, rfl⟩
          rw [hkk] at hcl hkr hkm hdr
          obtain ⟨kn, rfl⟩ : ∃ y : Nat, kk = y := ⟨kk.toNat, by omega⟩
          have hclr : wr.cell? ⟨p2, q2 + r, none⟩ = some (.int .i64 (kn : Int)) := (hb3.cell (p := ⟨p2, q2 + r, none⟩) hp2).trans hcl
          have hkn8 : kn < 8 := by omega
          have hkn8' : (kn : Int) < 8 := by omega
          have hkn0 : (0 : Int) ≤ kn := by omega
          have hknj : kn < m1 := by omega
          have hsc : scanP zs on d (l.drop (r + 1)) (visitP zs on d s2 (kn : Int)) = S1 := by
            have h5 := hin.out.2.2.2
            rw [hdr] at h5
            exact h5
          have hcv := visit_core (on := on) hfit.out (from_ := (i1 : Int)) (by rw [Int.toNat_natCast]; exact hf0.out) hin.out.1 hin.out.2.2.1 (k := (kn : Int)) ⟨by omega, by omega⟩ (by rw [Int.toNat_natCast]; exact hkm)
          have hql2 := q_len hcv
          have hbq := mem_of_vis_q zs on (i := (d : Int)) (kn : Int) hin.out.2.2.1
          have hbl : kn < s2.by_.length := by rw [hin.out.1.len]; exact hknj
          have hcb := aS3.cell hkn8
          have hfr := aS3.frozen kn
          obtain ⟨y, hy⟩ : ∃ y, s2.by_.getD kn (-1) = y := ⟨_, rfl⟩
          have hgd := hy
          have hcb2 : wr.cell? ⟨b, kn, none⟩ = some (.int .i64 y) := by rw [hcb, hy]
          have hfn := hin.out.2.1
          clear hy0 hkk hkr hkm hdr hrl hcl hcb hy
          by_cases hy1 : y = -1
          · have k1 : (y != -1) = false := by rw [hy1]; rfl
            have hsn : s2.by_.getD (kn : Int).toNat (-1) = -1 := by rw [Int.toNat_natCast, hgd]; exact hy1
            obtain ⟨h, hh⟩ : ∃ h, holder zs (kn : Int) = h := ⟨_, rfl⟩
            have hhr := holder_rng zs (kn : Int)
            have hvh := visit_held (on := on) (i := (d : Int)) (has := zs) hfn hsn
            have hvf := visit_free (i := (d : Int)) (has := zs) hfn hsn
            have hvt := visit_hit (i := (d : Int)) (has := zs) hfn hsn
            rw [hh] at hhr hvh hvf hvt
            rw [Int.toNat_natCast] at hvh hvf hvt
            have h8 := HNB.out
            have aS4 := aS3.set (v := (d : Int)) (F' := fun j => (s2.by_.set kn (d : Int)).getD j (-1)) hkn8 (fun j _ => getD_set hbl)
            have hq3 := ho3.setS aS3 (by decide) kn (.int .i64 (d : Int))
            have hbs := hb3.setCell (p := ⟨b, kn, none⟩) hb (.int .i64 (d : Int))
            have HSC := Lib.hid hsc
            have HCV := Lib.hid hcv
            have HBQ := Lib.hid hbq
            have HQL := Lib.hid hql2
            have HVH := Lib.hid hvh
            have HVF := Lib.hid hvf
            have HVT := Lib.hid hvt
            have HH := Lib.hid hh
            clear hsc hcv hbq hvh hvf hvt hh hy1 hgd hfn hsn hql2
            go_wp2_with fail
            generalize wr.setCell ⟨b, kn, none⟩ (.int .i64 (d : Int)) = ws at *
            have hrw := pindex_any A n c zs (kn : Int) ws (hur.below hbs) hut
            rw [HH.out] at hrw
            refine hrw.mono ?_
            rintro e w8 ⟨rfl, rfl⟩
            clear hrw aS3 ho3 hfr hcb2 k1 hclr aW3
            have aW4 := aS4.waits
            by_cases hh1 : 0 ≤ h
            · have k2 : decide (0 ≤ h) = true := decide_eq_true hh1
              have hvn := HVH.out hh1
              have hq4 : s2.q.length + 1 ≤ m1 + 1 := by
                have := HQL.out
                rw [hvn] at this
                simpa using this
              have HN : Hid (Core g m1 zs i1 on ⟨s2.q ++ [h], s2.by_.set kn (d : Int), -1⟩ ∧ (St.mk (s2.q ++ [h]) (s2.by_.set kn (d : Int)) (-1)).f = -1 ∧ (d : Int) ∈ (St.mk (s2.q ++ [h]) (s2.by_.set kn (d : Int)) (-1)).q ∧ scanP zs on d (l.drop (r + 1)) ⟨s2.q ++ [h], s2.by_.set kn (d : Int), -1⟩ = S1) := Lib.hid (by
                rw [← hvn]; exact ⟨HCV.out, by rw [hvn], HBQ.out, HSC.out⟩)
              have hbsz := hbs.size
              clear hvn
              go_wp2_with (at_builtin; go_must (refine wpList_app1 w8 rfl _ _ 25 rfl 3 i0 _ 8 Try.underlying25 hi0 hz0 hz1 hz2 rfl w0.heap.size A3 s2.q.length c3 _ rfl hq3 1 rfl rfl ?d3 ?d4 ?d5 ?_))
              case d3 => simp only [maxLen]; omega
              case d4 => omega
              try case d5 => exact hbsz
              intro A5 c5 w5 hown5 hbel5 hfr5 hat5
              have aS5 := aS4.app hq3 (by decide) (fun k hk hh => hfr5 k hk (by simpa using hh))
              have aW5 := aS5.waits
              have aF5 := aS5.frozen 8
              have hq5 : Own w5 w0.heap.size 3 A5 (s2.q ++ [h]).length c5 (ci64 (s2.q ++ [h])) := by
                rw [ci64_snoc6, List.length_append, List.length_singleton]
                exact hown5
              have aS6 := aS5.setW A5 (s2.q ++ [h]).length c5
              have hq6 := hq5.setS aS5 (by decide) 8 (.slice A5 (s2.q ++ [h]).length c5)
              have hbs6 := (hbs.trans hbel5).setCell (p := ⟨b, 8, none⟩) hb (.slice A5 (s2.q ++ [h]).length c5)
              rw [List.length_append, List.length_singleton] at aS6 hq6 hbs6
              clear hown5 hbel5 hfr5 hat5 hq3 aS4 aW4 hq5 aS5 hbs
              go_wp2
              go_roundw
              case rel => exact ⟨r + 1, ⟨s2.q ++ [h], s2.by_.set kn (d : Int), -1⟩, A5, c5, by omega, by simp; omega, by simp; omega, rfl, by go_num, by simpa using aS6, by simpa using hq6, Lib.hid ⟨HN.out.1, rfl, HN.out.2.2.1, HN.out.2.2.2⟩, hbs6⟩
              case measure => simp [intOf]; omega
            · obtain rfl : h = -1 := by omega
              have k2 : decide ((0 : Int) ≤ -1) = false := rfl
              cases on
              · have hvn := HVT.out rfl
                have hS1 : S1 = ⟨s2.q, s2.by_.set kn (d : Int), (kn : Int)⟩ := by
                  rw [← HSC.out, hvn, scan_stop]
                  simp only; omega
                have hS2 : S = ⟨s2.q, s2.by_.set kn (d : Int), (kn : Int)⟩ := by
                  rw [← HRUN.out, hS1, run_stop (by simp only; omega)]
                have hfin : Hid (S.f = (kn : Int) ∧ S.q = s2.q ∧ S.by_ = s2.by_.set kn (d : Int)) := Lib.hid (by rw [hS2]; exact ⟨rfl, rfl, rfl⟩)
                obtain rfl : en = true := HEN.out.symm
                clear hvn hS1 hS2
                go_wp2
                go_step3
                refine (?_ : (0 = 0 ∧ (fun a wr => ∃ j0 j1 j2 j3 j4 j5 j6 j7 j8 j10 j11 j12 j13 j14 j15 j16 j17 j18 j19 j20 j21 j22 j23 j24 j25 j26 j27 j28 j29 j30 j31 j32 j33 j34 j35 j36 j37 j38 j39 j40 j41 j42 j43 j44 j45 j46 j47 j48 j49 j50 j51 j52 j53 j54 j55 j56 j57 j58 j59 j60 j61 j62 j63 j64 j65 j66 j67 j68 j69 j70 j71 : Value, a = (⟨#[j0, j1, j2, j3, j4, j5, j6, j7, j8, .int .i64 S.f, j10, j11, j12, j13, j14, j15, j16, j17, j18, j19, j20, j21, j22, j23, j24, j25, j26, j27, j28, j29, j30, j31, j32, j33, j34, j35, j36, j37, j38, j39, j40, j41, j42, j43, j44, j45, j46, j47, j48, j49, j50, j51, j52, j53, j54, j55, j56, j57, j58, j59, j60, j61, j62, j63, j64, j65, j66, j67, j68, j69, j70, j71], []⟩ : Act) ∧ ∃ A1 c1, SrAt wr b 43 (fun k => S.by_.getD k (-1)) A1 S.q.length c1 ∧ Own wr w0.heap.size 3 A1 S.q.length c1 (ci64 S.q) ∧ Below w0.heap.size w0 wr) _ w8))
                refine ⟨rfl, _, _, _, _, _, _, _, _, _, _, _, _, _, _, _, _, _, _, _, _, _, _, _, _, _, _, _, _, _, _, _, _, _, _, _, _, _, _, _, _, _, _, _, _, _, _, _, _, _, _, _, _, _, _, _, _, _, _, _, _, _, _, _, _, _, _, _, _, _, _, _, by rw [hfin.out.1], A3, c3, ?_, ?_, hbs⟩
                · rw [hfin.out.2.1, hfin.out.2.2]; exact aS4
                · rw [hfin.out.2.1]; exact hq3
              · have hvn := HVF.out rfl
                have HN : Hid (Core g m1 zs i1 true ⟨s2.q, s2.by_.set kn (d : Int), -1⟩ ∧ (St.mk s2.q (s2.by_.set kn (d : Int)) (-1)).f = -1 ∧ (d : Int) ∈ (St.mk s2.q (s2.by_.set kn (d : Int)) (-1)).q ∧ scanP zs true d (l.drop (r + 1)) ⟨s2.q, s2.by_.set kn (d : Int), -1⟩ = S1) := Lib.hid (by
                  rw [← hvn]; exact ⟨HCV.out, by rw [hvn], HBQ.out, HSC.out⟩)
                obtain rfl : en = false := HEN.out.symm
                clear hvn
                go_wp2
                go_roundw
                case rel => exact ⟨r + 1, ⟨s2.q, s2.by_.set kn (d : Int), -1⟩, A3, c3, by omega, hk2, hq2, rfl, by go_num, aS4, hq3, Lib.hid ⟨HN.out.1, rfl, HN.out.2.2.1, HN.out.2.2.2⟩, hbs⟩
                case measure => simp [intOf]; omega
          · have k1 : (y != -1) = true := by rw [bne_iff_ne]; exact hy1
            rw [visit_old (by rw [Int.toNat_natCast, hgd]; exact hy1)] at hsc
            have HN : Hid (Core g m1 zs i1 on s2 ∧ s2.f = -1 ∧ (d : Int) ∈ s2.q ∧ scanP zs on d (l.drop (r + 1)) s2 = S1) := Lib.hid ⟨hin.out.1, hin.out.2.1, hin.out.2.2.1, hsc⟩
            clear hsc hcv hbq hgd hfn hy1 hql2
            go_wp2
            go_roundw
            case rel => exact ⟨r + 1, s2, A3, c3, by omega, hk2, hq2, rfl, by go_num, aS3, ho3, HN, hb3⟩
            case measure => simp [intOf]; omega
        · obtain rfl : r = un := by omega
          have HN : Hid (Core g m1 zs i1 on s2 ∧ s2.f = -1 ∧ runP g zs on (m1 + 2 - (k + 1)) (k + 1) s2 = S) := Lib.hid (by
            have h5 := hin.out.2.2.2
            rw [List.drop_of_length_le (by rw [HUN.out]; exact Nat.le_refl _)] at h5
            have h6 : s2 = S1 := h5
            exact ⟨hin.out.1, hin.out.2.1, by rw [h6]; exact HRUN.out⟩)
          clear hin
          go_wp2
          go_roundw
          case rel => exact ⟨k + 1, s2, A3, c3, by omega, hq2, rfl, by go_num, aS3, ho3, HN, hb3⟩
          case measure => simp [intOf]; omega
    · obtain rfl : k = s.q.length := by omega
      have hfin : Hid (S.f = -1 ∧ S.q = s.q ∧ S.by_ = s.by_) := Lib.hid (by
        have h5 := hcore.out.2.2
        rw [run_over (Nat.le_refl _)] at h5
        rw [← h5]; exact ⟨hcore.out.2.1, rfl, rfl⟩)
      clear hcore
      go_wp2
      go_step3
      go_wp2
      rw [jump_ret]
      go_ret
      refine ⟨A1, c1, by rw [hfin.out.1]; rfl, ?_, ?_, hbel⟩
      · rw [hfin.out.2.1, hfin.out.2.2]; exact aS
      · rw [hfin.out.2.1]; exact hoq
end Go.Proofs.Ytojpdmhccodckaa
