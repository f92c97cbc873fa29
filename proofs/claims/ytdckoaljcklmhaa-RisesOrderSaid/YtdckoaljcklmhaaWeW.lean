/-
  Walks of package weights: Best, Proved.
-/
import Derived.Test.YtdckoaljcklmhaaBest10
import Derived.Test.YtdckoaljcklmhaaWeI
import Derived.Test.YtdckoaljcklmhaaTwinI
import Derived.Test.YtdckoaljcklmhaaReg2
import Derived.Lib.MinMax
import Derived.OwnWalk
import Derived.Laws.Rows
import Derived.Laws.Tables
import Derived.Laws.CopyOwn
namespace Go.Proofs.Ytdckoaljcklmhaa
set_option linter.unusedVariables false

/-- Who has an item. -/
def invN (A : Nat → Option Nat) : Nat → Nat → Option Nat
  | 0, _ => none
  | n + 1, c => if A n = some c then some n else invN A n c
def turnG (G : Nat → Nat → Int) (c b : Nat) : Int := G b c
theorem inv_some {A : Nat → Option Nat} {c b : Nat} : ∀ {n}, invN A n c = some b → b < n ∧ A b = some c
  | 0, h => by cases h
  | n + 1, h => by
    rw [invN] at h
    by_cases e : A n = some c
    · rw [if_pos e] at h
      cases h
      exact ⟨by omega, e⟩
    · rw [if_neg e] at h
      have := inv_some h
      exact ⟨by omega, this.2⟩
theorem inv_wt {G : Nat → Nat → Int} {m : Nat} {A : Nat → Option Nat} : ∀ {n}, InjN n A → (∀ b, b < n → ∀ c, A b = some c → c < m) → wtN (turnG G) (invN A n) m = wtN G A n
  | 0, _, _ => by
    rw [wtN]
    have h : ∀ j, wtN (turnG G) (invN A 0) j = 0 := fun j => by
      induction j with
      | zero => rfl
      | succ j ih => rw [wtN, ih]; rfl
    exact h m
  | n + 1, hi, hm => by
    have ih := inv_wt (G := G) (m := m) (A := A) (n := n) (fun b b' c hb hb' => hi b b' c (by omega) (by omega)) fun b hb => hm b (by omega)
    rw [wtN, ← ih]
    cases e : A n with
    | none =>
      have h : invN A (n + 1) = invN A n := by
        funext c
        rw [invN, e, if_neg (fun h => by cases h)]
      rw [h, gainO, Int.add_zero]
    | some d =>
      have h0 : invN A n d = none := by
        cases e2 : invN A n d with
        | none => rfl
        | some b =>
          obtain ⟨hb, hAb⟩ := inv_some e2
          have := hi b n d (by omega) (by omega) hAb e
          omega
      have h : invN A (n + 1) = giveN (invN A n) d n := by
        funext c
        rw [invN, e, giveN]
        by_cases hc : c = d
        · rw [if_pos hc, hc, if_pos rfl]
        · rw [if_neg hc, if_neg (fun h => hc (Option.some.inj h).symm)]
      rw [h, give_wt h0, if_pos (hm n (by omega) d e)]; rfl
theorem inv_ok {G : Nat → Nat → Int} {m n : Nat} {A : Nat → Option Nat} (h : Mt G m n topP A) : Mt (turnG G) n m topP (invN A n) ∧ wtN (turnG G) (invN A n) m = wtN G A n := by
  refine ⟨⟨fun c c' b _ _ e1 e2 => ?_, fun c _ b e => ?_⟩, inv_wt h.inj fun b hb c e => (h.ok b hb c e).1⟩
  · have h1 := (inv_some e1).2
    rw [(inv_some e2).2] at h1
    exact (Option.some.inj h1).symm
  · obtain ⟨hb, hA⟩ := inv_some e
    exact ⟨hb, rfl, (h.ok b hb c hA).2.2⟩
theorem turn_best (G : Nat → Nat → Int) (m n : Nat) : bestV (turnG G) n m = bestV G m n := by
  refine Int.le_antisymm (best_mono fun A hA => ?_) (best_mono fun A hA => ?_)
  · obtain ⟨h1, h2⟩ := inv_ok hA
    exact ⟨_, h1, Int.le_of_eq h2.symm⟩
  · obtain ⟨h1, h2⟩ := inv_ok hA
    exact ⟨_, h1, Int.le_of_eq h2.symm⟩
/-- Of bidders and items of which there are so many alone. -/
theorem bestN_row {G G' : Nat → Nat → Int} {m : Nat} : ∀ {n : Nat} {P : Nat → Bool}, (∀ b, b < n → ∀ c, c < m → G b c = G' b c) → bestN G m n P = bestN G' m n P
  | 0, _, _ => rfl
  | n + 1, P, h => by
    have hf : ∀ (l : List Nat) (a : Int), (∀ k ∈ l, k < m) → l.foldl (bestStep (G n) (fun k => bestN G m n (lessP P k)) P) a = l.foldl (bestStep (G' n) (fun k => bestN G' m n (lessP P k)) P) a := fun l => by
      induction l with
      | nil => exact fun _ _ => rfl
      | cons k l ih =>
        intro a hl
        rw [List.foldl_cons, List.foldl_cons, ih _ fun j hj => hl j (by simp [hj])]
        congr 1
        simp only [bestStep]
        rw [h n (by omega) k (hl k (by simp)), bestN_row (P := lessP P k) fun b hb => h b (by omega)]
    rw [bestN, bestN, hf _ _ fun k hk => List.mem_range.1 hk, bestN_row fun b hb => h b (by omega)]
/-- One bidder more is asked: what a set can have then. -/
theorem foldK_in {G : Nat → Nat → Int} {m n s k : Nat} (hb : s.testBit k = true) (hp : haveN G m n (s ^^^ 2 ^ k) ≤ haveN G m n s) : foldK G m n s (k + 1) = max (foldK G m n s k) (haveN G m n (s ^^^ 2 ^ k) + G n k) := by
  by_cases hg : 0 ≤ G n k
  · exact foldK_yes hb hg
  · rw [foldK_no fun h => hg h.2]
    have h1 : haveN G m n s ≤ foldK G m n s k := fold_ge _ _ _ _
    omega
theorem have_less {G : Nat → Nat → Int} {m n s k : Nat} (hb : s.testBit k = true) : haveN G m n (s ^^^ 2 ^ k) ≤ haveN G m n s := bestN_sub fun c _ h => by
  rw [congrFun (less_bit hb) c, lessP, Bool.and_eq_true] at h
  exact h.1
/-- One more of item k, as many as m: by the items. -/
theorem one_more {G : Nat → Nat → Int} {m n k : Nat} (hk : k < m) : bestV (oneG G m k) (m + 1) n = (List.range n).foldl (bestStep (turnG G k) (fun b => bestN (turnG G) n m (lessP topP b)) topP) (bestV G m n) := by
  rw [← turn_best, bestV, bestN]
  have h1 : turnG (oneG G m k) m = turnG G k := by funext b; rw [turnG, oneG, if_pos rfl]; rfl
  have h2 : ∀ P, bestN (turnG (oneG G m k)) n m P = bestN (turnG G) n m P := fun P => bestN_row fun b hb c _ => by
    rw [turnG, oneG, if_neg (by omega)]; rfl
  rw [h1, h2, ← turn_best G m n]
  simp only [h2]
  rfl
end Go.Proofs.Ytdckoaljcklmhaa

namespace Go.Proofs.Ytdckoaljcklmhaa
open Go.RowKit
set_option linter.unusedVariables false

theorem infoWe_int : (Try.prog.info? 3).map (fun i => (i.zero, i.size, i.bytes)) = some (some (.int .i64 0), 1, 8) := by kernel_rfl
theorem maxto_snoc {l : List Int} {a : Int} {j : Nat} (h : j < l.length) : (l.take (j + 1)).foldl max a = max ((l.take j).foldl max a) l[j] := by
  rw [List.take_succ_eq_append_getElem h, List.foldl_append]; rfl
set_option maxRecDepth 100000 in
set_option maxHeartbeats 1000000 in
/-- The greatest of one or more. -/
theorem wgreatest_any (a : Int) (l : Ls) (w : World) (hl : l.Ok w) :
    Calls Try.prog 75 #[.int .i64 a, .slice l.A l.n l.c] w fun e w' => e = .returned (.int .i64 (l.zs.foldl max a)) ∧ w' = w := by
  have tl := Nat.le_trans hl.cap hl.top
  have HL := Lib.hid hl.len
  have lrd := hl.rd
  obtain ⟨lA, ln, lc, lz⟩ := l
  simp only at lrd tl HL ⊢
  unfold maxLen at tl
  go_enter Try.func75, Try.ntmps75
  go_wp2_with fail
  go_loopw [0, 9] (fun m i wr => ∃ (j : Nat) (b : Int), j ≤ ln ∧ i = .int .i64 j ∧ m = .int .i64 b ∧ Hid (b = (lz.take j).foldl max a) ∧ wr = w) (fun _ i _ => ln - (intOf i).toNat)
  case atStart => exact ⟨0, a, Nat.zero_le _, rfl, rfl, Lib.hid rfl, rfl⟩
  case round =>
    obtain ⟨j, b, hj, rfl, rfl, hb, rfl⟩ := hrel
    by_cases hlt : j < ln
    · obtain ⟨p, q, rfl, hp, u0, hu0, hc0⟩ := lrd.get hlt
      have hjl : j < lz.length := by rw [HL.out]; exact hlt
      rw [ci64_get _ _ hjl] at hu0
      obtain rfl : iV lz[j] = u0 := Option.some.inj hu0
      unfold iV at hc0
      have HN : Hid (max b lz[j] = (lz.take (j + 1)).foldl max a) := Lib.hid (by rw [maxto_snoc hjl, hb.out])
      have hi1 : (j : Int) < ln := by omega
      generalize lz[j] = z at *
      clear hu0 hjl hb
      go_wp2
      go_roundw
      case rel => exact ⟨j + 1, _, by omega, by go_num, rfl, HN, trivial⟩
      case measure => simp [intOf]; omega
    · obtain rfl : j = ln := by omega
      have HN : Hid (b = lz.foldl max a) := Lib.hid (by
        have h := hb.out
        rwa [List.take_of_length_le (by rw [HL.out]; exact Nat.le_refl _)] at h)
      clear hb
      go_wp2
      go_ret
      exact ⟨by rw [HN.out]; rfl, rfl⟩

def fitA (l : List Int) : Bool := l.all fun z => decide (-1000000 ≤ z) && decide (z ≤ 1000000)
set_option maxRecDepth 100000 in
set_option maxHeartbeats 1000000 in
theorem wallmay_any (l : Ls) (w : World) (hl : l.Ok w) :
    Calls Try.prog 61 #[.slice l.A l.n l.c] w fun e w' => e = .returned (.bool (fitA l.zs)) ∧ w' = w := by
  have tl := Nat.le_trans hl.cap hl.top
  have HL := Lib.hid hl.len
  have lrd := hl.rd
  obtain ⟨lA, ln, lc, lz⟩ := l
  simp only at lrd tl HL ⊢
  unfold maxLen at tl
  go_enter Try.func61, Try.ntmps61
  go_wp2_with fail
  go_loopw [7] (fun i wr => ∃ (j : Nat), j ≤ ln ∧ i = .int .i64 j ∧ Hid (fitA (lz.take j) = true) ∧ wr = w) (fun i _ => ln - (intOf i).toNat)
  case atStart => exact ⟨0, Nat.zero_le _, rfl, Lib.hid rfl, rfl⟩
  case round =>
    obtain ⟨j, hj, rfl, hb, rfl⟩ := hrel
    by_cases hlt : j < ln
    · obtain ⟨p, q, rfl, hp, u0, hu0, hc0⟩ := lrd.get hlt
      have hjl : j < lz.length := by rw [HL.out]; exact hlt
      rw [ci64_get _ _ hjl] at hu0
      obtain rfl : iV lz[j] = u0 := Option.some.inj hu0
      unfold iV at hc0
      have hmem : lz[j] ∈ lz := List.getElem_mem hjl
      have htk := List.take_succ_eq_append_getElem hjl
      have hi1 : (j : Int) < ln := by omega
      obtain ⟨z, hz⟩ : ∃ z, lz[j] = z := ⟨_, rfl⟩
      rw [hz] at hc0 hmem htk
      by_cases c1 : z < -1000000
      · have k1 : decide (z < -1000000) = true := decide_eq_true c1
        have HF : Hid (fitA lz = false) := Lib.hid (by
          rw [Bool.eq_false_iff]
          intro h2
          have := List.all_eq_true.1 h2 z hmem
          simp at this
          omega)
        clear hu0 hz htk hmem c1 hb
        go_wp2
        go_ret
        exact ⟨ret_bool HF.out.symm, rfl⟩
      have k1 : decide (z < -1000000) = false := decide_eq_false c1
      by_cases c2 : 1000000 < z
      · have k2 : decide (1000000 < z) = true := decide_eq_true c2
        have HF : Hid (fitA lz = false) := Lib.hid (by
          rw [Bool.eq_false_iff]
          intro h2
          have := List.all_eq_true.1 h2 z hmem
          simp at this
          omega)
        clear hu0 hz htk hmem c1 c2 hb
        go_wp2
        go_ret
        exact ⟨ret_bool HF.out.symm, rfl⟩
      have k2 : decide (1000000 < z) = false := decide_eq_false c2
      have HN : Hid (fitA (lz.take (j + 1)) = true) := Lib.hid (by
        have h5 := hb.out
        unfold fitA at h5 ⊢
        rw [htk, List.all_append, h5, List.all_cons, decide_eq_true (show -1000000 ≤ z by omega), decide_eq_true (show z ≤ 1000000 by omega)]; rfl)
      clear hu0 hz htk hmem c1 c2 hb
      go_wp2
      go_roundw
      case rel => exact ⟨j + 1, by omega, by go_num, HN, trivial⟩
      case measure => simp [intOf]; omega
    · obtain rfl : j = ln := by omega
      have HN : Hid (fitA lz = true) := Lib.hid (by
        have h := hb.out
        rwa [List.take_of_length_le (by rw [HL.out]; exact Nat.le_refl _)] at h)
      clear hb
      go_wp2
      go_ret
      exact ⟨ret_bool HN.out.symm, rfl⟩

def fitW (l : List Int) (m : Int) : Bool := decide ((l.length : Int) = m) && fitA l
theorem mayW_eq {g : List (List Int)} {m : Int} (h1 : 1 ≤ m) (h2 : m ≤ 8) (h3 : g.length ≤ 8) : mayW g m = g.all fun l => fitW l m := by
  rw [mayW, decide_eq_true h1, decide_eq_true h2, decide_eq_true h3]; rfl
set_option maxRecDepth 100000 in
set_option maxHeartbeats 1000000 in
theorem wmaybe_any (x : Gr) (m : Int) (w : World) (h : x.Ok w) (hm1 : -9223372036854775808 ≤ m) (hm2 : m ≤ 9223372036854775807) :
    Calls Try.prog 36 #[x.v, .int .i64 m] w fun e w' => e = .returned (.bool (mayW x.g m)) ∧ w' = w := by
  have hgl := h.glen
  have hlen := h.len
  have tn := Nat.le_trans h.cap h.top
  unfold maxLen at tn
  obtain ⟨B, hB⟩ : ∃ B, mayW x.g m = B := ⟨_, rfl⟩
  have HB := Lib.hid hB
  have HG := Lib.hid hgl
  rw [hB]
  clear hB hgl
  unfold Gr.v
  go_enter Try.func36, Try.ntmps36
  by_cases q1 : m < 1
  · have g1 : decide (m < 1) = true := decide_eq_true q1
    have HF : Hid (B = false) := Lib.hid (by
      rw [← HB.out, mayW, decide_eq_false (by omega)]; rfl)
    clear q1
    go_wp2
    go_ret
    exact ⟨ret_bool HF.out.symm, rfl⟩
  have g1 : decide (m < 1) = false := decide_eq_false q1
  by_cases q2 : 8 < m
  · have g2 : decide (8 < m) = true := decide_eq_true q2
    have HF : Hid (B = false) := Lib.hid (by
      rw [← HB.out, mayW, decide_eq_false (show ¬ m ≤ 8 by omega)]; simp)
    clear q1 q2
    go_wp2
    go_ret
    exact ⟨ret_bool HF.out.symm, rfl⟩
  have g2 : decide (8 < m) = false := decide_eq_false q2
  by_cases q3 : 8 < x.n
  · have g3 : decide (8 < (x.n : Int)) = true := decide_eq_true (by omega)
    have g3' : decide (8 < x.n) = true := decide_eq_true q3
    have HF : Hid (B = false) := Lib.hid (by
      rw [← HB.out, mayW, decide_eq_false (show ¬ x.g.length ≤ 8 by rw [HG.out]; omega)]; simp)
    clear q1 q2 q3
    go_wp2
    go_ret
    exact ⟨ret_bool HF.out.symm, rfl⟩
  have g3 : decide (8 < (x.n : Int)) = false := decide_eq_false (by omega)
  have g3' : decide (8 < x.n) = false := decide_eq_false q3
  obtain ⟨M, rfl⟩ : ∃ M : Nat, m = M := ⟨m.toNat, by omega⟩
  have HM : Hid (B = x.g.all fun l => fitW l M) := Lib.hid (by
    rw [← HB.out, mayW_eq (by omega) (by omega) (by rw [HG.out]; omega)])
  clear q1 q2 q3 HB
  go_wp2_with fail
  go_loopw [20] (fun i wr => ∃ j : Nat, j ≤ x.n ∧ i = .int .i64 j ∧ Hid ((x.g.take j).all (fun l => fitW l M) = true) ∧ wr = w) (fun i _ => x.n - (intOf i).toNat)
  case atStart => exact ⟨0, Nat.zero_le _, rfl, Lib.hid (by simp), rfl⟩
  case round =>
    obtain ⟨j, hj, rfl, hok, rfl⟩ := hrel
    by_cases hlt : j < x.n
    · obtain ⟨p, q, u, hA, hu, hg, hp, hcell, hk⟩ := h.get hlt
      have hjl : j < x.g.length := by rw [HG.out]; exact hlt
      have hmem : u.zs ∈ x.g := by rw [← hg]; exact getD_mem hjl
      have htk : x.g.take (j + 1) = x.g.take j ++ [u.zs] := by
        rw [List.take_succ_eq_append_getElem hjl, ← hg, List.getD_eq_getElem?_getD, List.getElem?_eq_getElem hjl]; rfl
      have HNO : Hid (fitW u.zs M = false → B = false) := Lib.hid fun hf => by
        rw [HM.out, Bool.eq_false_iff]
        intro h2
        rw [List.all_eq_true.1 h2 _ hmem] at hf
        cases hf
      have HYES : Hid (fitW u.zs M = true → (x.g.take (j + 1)).all (fun l => fitW l M) = true) := Lib.hid fun hf => by
        rw [htk, List.all_append, hok.out]; simp [hf]
      have HUL := Lib.hid hk.len
      have hlt' : (j : Int) < x.n := by omega
      have hj0 : (0 : Int) ≤ j := by omega
      have hct := wallmay_any u wr hk
      clear htk hmem hg hu hok hk
      obtain ⟨uA, un, uc, ul⟩ := u
      simp only at hct HUL HNO HYES
      replace hcell : wr.cell? ⟨p, q + j, none⟩ = some (.slice uA un uc) := hcell
      rw [hA]
      by_cases hun : un = M
      · subst hun
        have gn : (((un : Int)) != (un : Int)) = false := by simp
        have gn2 : (un != un) = false := by simp
        obtain ⟨β, hβ⟩ : ∃ β, fitA ul = β := ⟨_, rfl⟩
        rw [hβ] at hct
        have HE : Hid (fitW ul un = β) := Lib.hid (by rw [fitW, HUL.out, hβ]; simp)
        clear hβ
        go_wp2_with fail
        refine hct.mono ?_
        rintro e w2 ⟨rfl, rfl⟩
        clear hct
        cases β
        · have HF : Hid (B = false) := Lib.hid (HNO.out HE.out)
          go_wp2
          go_ret
          exact ⟨ret_bool HF.out.symm, rfl⟩
        · have HN : Hid ((x.g.take (j + 1)).all (fun l => fitW l un) = true) := Lib.hid (HYES.out HE.out)
          go_wp2
          go_roundw
          case rel => exact ⟨j + 1, by omega, by go_num, HN, trivial⟩
          case measure => simp [intOf]; omega
      · have gn : (((un : Int)) != (M : Int)) = true := by rw [bne_iff_ne]; omega
        have gn2 : (un != M) = true := by rw [bne_iff_ne]; exact hun
        have HF : Hid (B = false) := Lib.hid (HNO.out (by
          rw [fitW, HUL.out, decide_eq_false (by omega)]; rfl))
        clear hun hct
        go_wp2
        go_ret
        exact ⟨ret_bool HF.out.symm, rfl⟩
    · obtain rfl : j = x.n := by omega
      have HT : Hid (B = true) := Lib.hid (by
        have h5 := hok.out
        rw [List.take_of_length_le (by rw [HG.out]; exact Nat.le_refl _)] at h5
        rw [HM.out]; exact h5)
      clear hok
      go_wp2
      go_ret
      exact ⟨ret_bool HT.out.symm, rfl⟩

set_option maxRecDepth 100000 in
set_option maxHeartbeats 1000000 in
theorem wevery_any (A : Option Addr) (n c : Nat) (w : World) (hn : n ≤ 8) :
    Calls Try.prog 38 #[.slice A n c] w fun e w' => e = .returned (.int .i64 ((2 ^ n - 1 : Nat) : Int)) ∧ w' = w := by
  have h9 : n = 0 ∨ n = 1 ∨ n = 2 ∨ n = 3 ∨ n = 4 ∨ n = 5 ∨ n = 6 ∨ n = 7 ∨ n = 8 := by omega
  go_enter Try.func38, Try.ntmps38
  rcases h9 with rfl | rfl | rfl | rfl | rfl | rfl | rfl | rfl | rfl
  all_goals
    clear hn
    go_wp2
    go_ret
    exact ⟨rfl, rfl⟩
end Go.Proofs.Ytdckoaljcklmhaa

namespace Go.Proofs.Ytdckoaljcklmhaa
open Go.RowKit
set_option linter.unusedVariables false

theorem top_fold (f : Nat → Int) : ∀ m, ((List.range m).map f).foldl max 0 = topN f m
  | 0 => rfl
  | m + 1 => by rw [List.range_succ, List.map_append, List.foldl_append, top_fold f m]; rfl
theorem OwnI.snocW {w : World} {B n c : Nat} {A : Option Addr} {zs : List Int} {z : Int} (h : Own w B 3 A n c (ci64 zs ++ [.int .i64 z])) (hf : ∀ y ∈ zs, -9223372036854775808 ≤ y ∧ y ≤ 9223372036854775807) (hz : -9223372036854775808 ≤ z ∧ z ≤ 9223372036854775807) : OwnI w B ⟨A, n, c, zs ++ [z]⟩ := by
  refine ⟨?_, fun y hy => ?_⟩
  · show Own w B _ A n c (ci64 (zs ++ [z]))
    rw [ci64_app]; exact h
  · rcases List.mem_append.1 hy with hy | hy
    · exact hf y hy
    · rw [List.mem_singleton.1 hy]; exact hz
theorem map_range_getW {f : Nat → Int} {N s : Nat} (hs : s < N) : ((List.range N).map f)[s]? = some (f s) := by
  rw [List.getElem?_map, List.getElem?_range hs]; rfl
/-- What can be had if there is one more of an item: asked one by one. -/
def moreF (F g : Nat → Int) (s : Nat) : Nat → Int
  | 0 => F s
  | k + 1 => if s.testBit k = true then max (moreF F g s k) (F (s ^^^ 2 ^ k) + g k) else moreF F g s k
theorem moreF_have {G : Nat → Nat → Int} {m c s : Nat} : ∀ k, moreF (haveN G m c) (G c) s k = foldK G m c s k
  | 0 => rfl
  | k + 1 => by
    rw [moreF, moreF_have k]
    by_cases h : s.testBit k = true
    · rw [if_pos h, foldK_in h (have_less h)]
    · rw [if_neg h, foldK_no fun hc => h hc.1]
theorem moreF_congr {F F' g g' : Nat → Int} {s : Nat} (hF : ∀ s, F s = F' s) : ∀ {k}, (∀ i, i < k → g i = g' i) → moreF F g s k = moreF F' g' s k
  | 0, _ => hF s
  | k + 1, h => by rw [moreF, moreF, moreF_congr hF fun i hi => h i (by omega), h k (by omega), hF]
theorem wrap_pow (k : Nat) (hk : k < 8) : wrap64 (2 ^ k) = ((2 ^ k : Nat) : Int) := by
  have h1 : (2 : Int) ^ k = ((2 ^ k : Nat) : Int) := by simp
  have h2 : 2 ^ k < 2 ^ 8 := Nat.pow_lt_pow_right (by omega) hk
  rw [h1]
  generalize 2 ^ k = P at *
  unfold wrap64
  omega
theorem and_not (s k : Nat) (hs : s < 256) (hk : k < 8) : bits .andNot .i64 (s : Int) ((2 ^ k : Nat) : Int) = ((if s.testBit k = true then s ^^^ 2 ^ k else s : Nat) : Int) := by
  have hp : 2 ^ k < 2 ^ 8 := Nat.pow_lt_pow_right (by omega) hk
  have h1 : (BitVec.ofInt 64 (s : Int)).toNat = s := by
    rw [BitVec.ofInt_natCast, BitVec.toNat_ofNat]; exact Nat.mod_eq_of_lt (by omega)
  have h2 : (BitVec.ofInt 64 ((2 ^ k : Nat) : Int)).toNat = 2 ^ k := by
    rw [BitVec.ofInt_natCast, BitVec.toNat_ofNat]; exact Nat.mod_eq_of_lt (by omega)
  have h3 : (BitVec.ofInt 64 (s : Int) &&& ~~~ BitVec.ofInt 64 ((2 ^ k : Nat) : Int)).toNat = if s.testBit k = true then s ^^^ 2 ^ k else s := by
    apply Nat.eq_of_testBit_eq
    intro i
    rw [BitVec.toNat_and, BitVec.toNat_not, h1, h2, Nat.testBit_and, Nat.sub_sub, Nat.add_comm 1, Nat.testBit_two_pow_sub_succ (Nat.lt_of_lt_of_le hp (by decide)), Nat.testBit_two_pow]
    have hsi : ∀ i, 64 ≤ i → s.testBit i = false := fun i hi => Nat.testBit_lt_two_pow (Nat.lt_of_lt_of_le (show s < 2 ^ 8 by omega) (Nat.pow_le_pow_right (by omega) (by omega)))
    by_cases hb : s.testBit k = true
    · rw [if_pos hb, Nat.testBit_xor, Nat.testBit_two_pow]
      by_cases hki : k = i
      · subst hki; simp [hb]
      · by_cases h64 : i < 64
        · simp [hki, h64]
        · simp [hki, hsi i (by omega)]
    · rw [if_neg hb]
      by_cases hki : k = i
      · subst hki; simp [hb]
      · by_cases h64 : i < 64
        · simp [hki, h64]
        · simp [hki, hsi i (by omega)]
  have h4 : (if s.testBit k = true then s ^^^ 2 ^ k else s) < 256 := by
    split
    · exact Nat.xor_lt_two_pow (n := 8) hs hp
    · exact hs
  show IntKind.i64.wrap ((BitVec.ofInt 64 (s : Int) &&& ~~~ BitVec.ofInt 64 ((2 ^ k : Nat) : Int)).toNat : Int) = _
  rw [h3, IntKind.wrap_i64]
  omega
def TabAt (w : World) (b : Nat) (F : Nat → Int) : Prop := w.heap[b]? = some (.cells (ci64 ((List.range 256).map F)).toArray 70 (0, 0))
theorem TabAt.lt {w : World} {b : Nat} {F : Nat → Int} (h : TabAt w b F) : b < w.heap.size := (Array.getElem?_eq_some_iff.1 h).1
theorem TabAt.below {w w' : World} {b : Nat} {F : Nat → Int} (h : TabAt w b F) (hb : Below w.heap.size w w') : TabAt w' b F := (hb.block b h.lt).trans h
theorem TabAt.cell {w : World} {b s : Nat} {F : Nat → Int} (h : TabAt w b F) (hs : s < 256) : w.cell? ⟨b, s, none⟩ = some (.int .i64 (F s)) := by
  rw [cell_of_row _ _ _ _ _ _ h, List.getElem?_toArray]
  rw [show ci64 ((List.range 256).map F) = ((List.range 256).map F).map iV from rfl, List.getElem?_map, map_range_getW hs]; rfl
set_option maxRecDepth 100000 in
set_option maxHeartbeats 1000000 in
theorem wone_any (x : Gr) (b : Nat) (F : Nat → Int) (k s M : Nat) (w : World) (ht : TabAt w b F) (hx : x.Ok w) (hn8 : x.n ≤ 8) (hs : s < 256) (hk : k < M) (hrow : ∀ l ∈ x.g, l.length = M ∧ ∀ z ∈ l, -1000000 ≤ z ∧ z ≤ 1000000) (hF : ∀ s, 0 ≤ F s ∧ F s ≤ 10000000) :
    Calls Try.prog 62 #[.pointer (some ⟨b, 0, none⟩), x.v, .int .i64 k, .int .i64 s] w fun e w' => e = .returned (.int .i64 (moreF F (fun i => gG x.g i k) s x.n)) ∧ Below w.heap.size w w' := by
  obtain ⟨i0, hi0, hz0, hz1, hz2⟩ := info_parts infoWe_int
  have HGL := Lib.hid hx.glen
  have HROW := Lib.hid hrow
  have HF := Lib.hid hF
  clear hrow hF
  rw [show x.v = .slice x.A x.n x.c from rfl]
  go_enter Try.func62, Try.ntmps62
  go_wp2_with (at_make; go_must (refine wpList_mk0 _ rfl _ _ 22 rfl w.heap.size 3 i0 _ Try.underlying22 hi0 hz0 hz1 .i64 .i64 _ 8 rfl rfl rfl ?c2 ?c3 ?c4 ?_))
  case c2 => rw [hz2]; omega
  case c3 => simp only [maxLen]; omega
  case c4 => exact Nat.le_refl _
  intro w1 ho1 hb1
  have hO1 : OwnI w1 w.heap.size ⟨some ⟨w.heap.size, 0, none⟩, 0, 8, []⟩ := ⟨ho1, fun z hz => by simp at hz⟩
  clear ho1
  go_wp2_with fail
  go_loopw [9, 16] (fun o v wr => ∃ (i n c : Nat) (A : Option Addr) (zs : List Int), i ≤ x.n ∧ n ≤ i ∧ v = .int .i64 i ∧ o = .slice A n c ∧ OwnI wr w.heap.size ⟨A, n, c, zs⟩ ∧ Hid (zs.foldl max (F s) = moreF F (fun i => gG x.g i k) s i) ∧ Below w.heap.size w wr) (fun _ v _ => x.n - (intOf v).toNat)
  case atStart => exact ⟨0, 0, 8, some ⟨w.heap.size, 0, none⟩, [], Nat.zero_le _, Nat.zero_le _, rfl, rfl, hO1, Lib.hid rfl, hb1⟩
  case round =>
    clear hO1 hb1
    obtain ⟨i, n, c, A, zs, hi, hni, rfl, rfl, hO, hzs, hB⟩ := hrel
    by_cases hlt : i < x.n
    · have hlt' : (i : Int) < x.n := by omega
      have hi0' : (0 : Int) ≤ i := by omega
      obtain ⟨p2, q2, u, hAx, _, hgy, hp2, hcx0, hku⟩ := hx.get hlt
      have hcx := (hB.cell (p := ⟨p2, q2 + i, none⟩) hp2).trans hcx0
      have hku2 := hku.below hB
      have hiN : i < 8 := by omega
      have hlh := wrap_pow i hiN
      have hband := and_not s i hs hiN
      rw [← hlh] at hband
      have hmo : moreF F (fun i => gG x.g i k) s (i + 1) = if s.testBit i = true then max (moreF F (fun i => gG x.g i k) s i) (F (s ^^^ 2 ^ i) + gG x.g i k) else moreF F (fun i => gG x.g i k) s i := rfl
      have hxo : s ^^^ 2 ^ i < 256 := Nat.xor_lt_two_pow (n := 8) hs (Nat.pow_lt_pow_right (by omega) hiN)
      have hxn : s.testBit i = true → s ^^^ 2 ^ i ≠ s := fun h e => by
        have h1 := congrArg (fun q => Nat.testBit q i) e
        simp only [Nat.testBit_xor, Nat.testBit_two_pow, h] at h1
        simp at h1
      have hgi : x.g[i]? = some u.zs := by
        rw [← hgy, List.getD_eq_getElem?_getD, List.getElem?_eq_getElem (by rw [HGL.out]; exact hlt)]; rfl
      have hrw := HROW.out u.zs (List.mem_of_getElem? hgi)
      have hun : u.n = M := by have := hku.len; rw [← this]; exact hrw.1
      have hkl : k < u.zs.length := by rw [hrw.1]; exact hk
      have hGz : gG x.g i k = u.zs[k] := by rw [gG, hgy, List.getD_eq_getElem?_getD, List.getElem?_eq_getElem hkl]; rfl
      have hzb := hrw.2 _ (List.getElem_mem hkl)
      obtain ⟨uA, un, uc, ul⟩ := u
      simp only at hun hGz hzb hkl
      subst hun
      have hurd := hku.rd
      simp only at hurd
      obtain ⟨p4, q4, hA4, hp4, t0, ht0, hct0⟩ := hurd.get hk
      rw [ci64_get _ _ hkl] at ht0
      obtain rfl : iV ul[k] = t0 := Option.some.inj ht0
      unfold iV at hct0
      obtain ⟨z, hz⟩ : ∃ z, ul[k] = z := ⟨_, rfl⟩
      rw [hz] at hGz hzb hct0
      rw [hGz] at hmo
      subst hA4
      replace hcx0 : w.cell? ⟨p2, q2 + i, none⟩ = some (.slice (some ⟨p4, q4, none⟩) un uc) := hcx0
      replace hcx : wr.cell? ⟨p2, q2 + i, none⟩ = some (.slice (some ⟨p4, q4, none⟩) un uc) := hcx
      have hkn' : (k : Int) < un := by omega
      have hk0 : (0 : Int) ≤ k := by omega
      have hFo := HF.out (s ^^^ 2 ^ i)
      have hFs := HF.out s
      obtain ⟨δ, hδ⟩ : ∃ δ, s.testBit i = δ := ⟨_, rfl⟩
      rw [hδ] at hband hmo hxn
      clear hlh hgi hrw hGz hz hkl hgy ht0 hδ hku hku2
      rw [hAx]
      cases δ
      · simp only [Bool.false_eq_true, if_false] at hband hmo
        have HN : Hid (zs.foldl max (F s) = moreF F (fun i => gG x.g i k) s (i + 1)) := Lib.hid (by rw [hmo, hzs.out])
        have gne : ((s : Int) != (s : Int)) = false := by simp
        clear hmo hzs hxn hFo hxo
        go_wp2
        go_roundw
        case rel => exact ⟨i + 1, n, c, A, zs, by omega, by omega, by go_num, rfl, hO, HN, hB⟩
        case measure => simp [intOf]; omega
      · simp only [if_true] at hband hmo
        have hne := hxn rfl
        obtain ⟨o, ho⟩ : ∃ o, s ^^^ 2 ^ i = o := ⟨_, rfl⟩
        rw [ho] at hband hmo hxo hne hFo
        have gne : ((o : Int) != (s : Int)) = true := by rw [bne_iff_ne]; omega
        obtain ⟨f, hf⟩ : ∃ f, F o = f := ⟨_, rfl⟩
        have hco := ht.cell hxo
        rw [hf] at hFo hmo hco
        have s1 : IntKind.i64.wrap (f + z) = f + z := by rw [IntKind.wrap_i64]; omega
        have hbl := ht.lt
        have hS : ∀ w', Below w.heap.size w w' → w'.cell? ⟨b, o, none⟩ = some (.int .i64 f) ∧ w'.cell? ⟨p4, q4 + k, none⟩ = some (.int .i64 z) := fun w' hb => ⟨(hb.cell (p := ⟨b, o, none⟩) hbl).trans hco, (hb.cell (p := ⟨p4, q4 + k, none⟩) hp4).trans hct0⟩
        have HN : Hid ((zs ++ [f + z]).foldl max (F s) = moreF F (fun i => gG x.g i k) s (i + 1)) := Lib.hid (by rw [hmo, List.foldl_append, hzs.out]; rfl)
        have ho0 : (0 : Int) ≤ o := by omega
        have ho256 : (o : Int) < 256 := by omega
        have gnil : Try.prog.cellsOf 3 = 1 := by kernel_rfl
        clear hmo hzs hxn hne ho hf hco hct0
        go_wp2_with fail
        refine wp_region_ord (S := fun w' => w'.cell? ⟨b, o, none⟩ = some (.int .i64 f) ∧ w'.cell? ⟨p4, q4 + k, none⟩ = some (.int .i64 z)) [(0, true), (1, true), (2, true), (3, true), (4, true), (5, true), (6, true), (7, true), (8, true), (9, true), (10, true), (11, false), (12, false), (13, true)] default (by kernel_rfl) (by kernel_rfl) (by kernel_rfl) (hS _ hB.drew) ?_
        simp only [getOrd, nth]
        obtain ⟨wd, hwd⟩ : ∃ wd, wd = wr.drew := ⟨_, rfl⟩
        have b0 : Below w.heap.size w wd := by rw [hwd]; exact hB.drew
        replace hO : OwnI wd w.heap.size ⟨A, n, c, zs⟩ := by rw [hwd]; exact ⟨hO.own.drew, hO.fit⟩
        rw [← hwd]
        clear hwd
        repeat (first | (refine ordS (by rfl) ?_; simp only [Act.put, List.setIfInBounds_toArray, List.set_cons_zero, List.set_cons_succ]) | (refine ordN (by rfl) ?_; simp only [Act.put, List.setIfInBounds_toArray, List.set_cons_zero, List.set_cons_succ]) | (refine ordQ (v := ?_) (by rfl) (fun _ hSw => ?_) ?_; rotate_left; (focus ((have hS1 := hSw.1); (have hS2 := hSw.2); clear hSw; go_simp; (first | done | with_reducible rfl))); simp only [Act.put, List.setIfInBounds_toArray, List.set_cons_zero, List.set_cons_succ]))
        refine ordD (by rfl) ?_
        intro K hK
        go_simp
        have hbb : Below wd.heap.size wd (wd.alloc (.cells #[.int .i64 (f + z)] 3)) := (Below.refl _ wd).alloc (Nat.le_refl _) _
        have b1 : Below w.heap.size w (wd.alloc (.cells #[.int .i64 (f + z)] 3)) := b0.trans (hbb.mono b0.size)
        refine hK _ _ (hS _ b1) ?_
        clear hK K
        try simp only [Act.put, List.setIfInBounds_toArray, List.set_cons_zero, List.set_cons_succ]
        refine ordD (by rfl) ?_
        intro K hK
        have hlr : Rd (wd.alloc (.cells #[.int .i64 (f + z)] 3)) (some ⟨wd.heap.size, 0, none⟩) 1 [.int .i64 (f + z)] := (Own.lit (B := 0) wd 3 #[.int .i64 (f + z)] 1 (Nat.zero_le _) rfl (by unfold maxLen; omega)).rd
        have hsz1 := b1.size
        refine wp_app (wd.alloc (.cells #[.int .i64 (f + z)] 3)) _ _ 22 rfl 3 i0 _ 8 Try.underlying22 hi0 hz0 hz1 hz2 rfl w.heap.size A n c (ci64 zs) rfl (hO.own.below hbb) _ 1 1 [.int .i64 (f + z)] rfl hlr ?a11 ?a12 ?a13 ?a14 ?_
        case a11 => intro u hu; rw [List.mem_singleton.1 hu]; rfl
        case a12 => simp only [maxLen]; omega
        case a13 => omega
        try case a14 => omega
        intro A9 c9 w9 hown9 hbel9 _ _
        have hO9 : OwnI w9 w.heap.size ⟨A9, n + 1, c9, zs ++ [f + z]⟩ := OwnI.snocW hown9 hO.fit (by omega)
        have b2 : Below w.heap.size w w9 := b1.trans hbel9
        go_simp
        refine hK _ _ (hS _ b2) ?_
        clear hK K hbb hlr hown9 hbel9 b1 hsz1
        try simp only [Act.put, List.setIfInBounds_toArray, List.set_cons_zero, List.set_cons_succ]
        repeat (first | (refine ordS (by rfl) ?_; simp only [Act.put, List.setIfInBounds_toArray, List.set_cons_zero, List.set_cons_succ]) | (refine ordN (by rfl) ?_; simp only [Act.put, List.setIfInBounds_toArray, List.set_cons_zero, List.set_cons_succ]) | (refine ordQ (v := ?_) (by rfl) (fun _ hSw => ?_) ?_; rotate_left; (focus ((have hS1 := hSw.1); (have hS2 := hSw.2); clear hSw; go_simp; (first | done | with_reducible rfl))); simp only [Act.put, List.setIfInBounds_toArray, List.set_cons_zero, List.set_cons_succ]))
        refine ordE ?_
        clear hS hO b0
        go_wp2
        go_roundw
        case rel => exact ⟨i + 1, n + 1, c9, A9, zs ++ [f + z], by omega, by omega, by go_num, rfl, hO9, HN, b2⟩
        case measure => simp [intOf]; omega
    · obtain rfl : i = x.n := by omega
      have hct := wgreatest_any (F s) _ wr hO.ok
      simp only at hct
      rw [hzs.out] at hct
      have hcs := (ht.below hB).cell hs
      obtain ⟨f, hf⟩ : ∃ f, F s = f := ⟨_, rfl⟩
      rw [hf] at hcs hct
      have hs0 : (0 : Int) ≤ s := by omega
      have hs256 : (s : Int) < 256 := by omega
      clear hO hzs hf
      go_wp2_with fail
      refine hct.mono ?_
      rintro e w2 ⟨rfl, rfl⟩
      clear hct
      go_wp2
      go_ret
      exact ⟨rfl, hB⟩
end Go.Proofs.Ytdckoaljcklmhaa

namespace Go.Proofs.Ytdckoaljcklmhaa
open Go.RowKit
set_option linter.unusedVariables false

/-- A table by value. -/
def tabC (F : Nat → Int) : Array Value := (ci64 ((List.range 256).map F)).toArray
def tabV (F : Nat → Int) : Value := .agg (tabC F)
theorem tabC_size (F : Nat → Int) : (tabC F).size = 256 := by simp [tabC, ci64]
theorem tabC_one (F : Nat → Int) : (tabC F).all (·.oneCell') = true := by
  rw [Array.all_eq_true_iff_forall_mem]
  intro v hv
  rw [tabC, List.mem_toArray] at hv
  obtain ⟨z, _, rfl⟩ := List.mem_map.1 hv
  rfl
theorem tab_zero : (Try.prog.info? 70).bind (·.zero) = some (tabV fun _ => 0) := by kernel_rfl
theorem tab_size : (Try.prog.info? 70).map (·.size) = some 256 := by kernel_rfl
theorem tab_under : Try.prog.underlying 70 = some (.array 256 3) := by kernel_rfl
theorem TabAt.row {w : World} {b : Nat} {F : Nat → Int} (h : TabAt w b F) : w.heap[b]? = some (.cells (tabC F) 70 (0, 0)) := h
theorem TabAt.keep {w w' : World} {b : Nat} {F : Nat → Int} (h : TabAt w b F) (hk : w'.heap[b]? = w.heap[b]?) : TabAt w' b F := hk.trans h
theorem TabAt.drew {w : World} {b : Nat} {F : Nat → Int} (h : TabAt w b F) : TabAt w.drew b F := h
theorem TabAt.free {w : World} {b s : Nat} {F : Nat → Int} (h : TabAt w b F) : w.frozen? ⟨b, s, none⟩ = false := frozen_of_row _ _ _ _ _ h
theorem TabAt.set {w : World} {b s : Nat} {z : Int} {F F' : Nat → Int} (h : TabAt w b F) (hF : ∀ t, t < 256 → F' t = if t = s then z else F t) : TabAt (w.setCell ⟨b, s, none⟩ (.int .i64 z)) b F' := by
  have h1 := heap_setCell_same w b s _ _ (.int .i64 z) h
  unfold TabAt
  rw [h1]
  congr 2
  rw [List.setIfInBounds_toArray]
  congr 1
  refine List.ext_getElem? fun i => ?_
  rw [List.getElem?_set]
  rw [show ci64 ((List.range 256).map F) = ((List.range 256).map F).map iV from rfl, show ci64 ((List.range 256).map F') = ((List.range 256).map F').map iV from rfl, List.getElem?_map, List.getElem?_map, List.length_map, List.length_map, List.length_range, List.getElem?_map, List.getElem?_map]
  by_cases hi : i < 256
  · rw [List.getElem?_range hi, Option.map_some, Option.map_some, Option.map_some, hF i hi]
    by_cases e : s = i
    · rw [if_pos e, if_pos (by omega), if_pos e.symm]; rfl
    · rw [if_neg e, if_neg (fun h => e h.symm)]; rfl
  · rw [List.getElem?_eq_none (l := List.range 256) (by simp; omega)]
    by_cases e : s = i
    · rw [if_pos e, if_neg (by omega)]; rfl
    · rw [if_neg e]; rfl
theorem TabAt.other {w : World} {b g s : Nat} {v : Value} {F : Nat → Int} (h : TabAt w b F) (hne : b ≠ g) : TabAt (w.setCell ⟨g, s, none⟩ v) b F := h.keep (heap_setCell_other w _ _ _ hne)

theorem run_allocAny {P : Program} (T : TypeId) (i : TypeInfo) (z : Value) (w : World) (hq : P.info? T = some i) (hz : i.zero = some z) : (Instr.alloc T true (.tuple #[])).run P w = .ok (.pointer (some ⟨w.heap.size, 0, none⟩)) (w.alloc (.cells z.cells T)) := by
  simp [Instr.alloc, zeroValue, typeInfo, hq, hz, newVar, newRow]
theorem TabAt.new (w : World) : TabAt (w.alloc (.cells (tabC fun _ => 0) 70)) w.heap.size fun _ => 0 := heap_alloc_new w _
theorem tab_info : ∃ i, Try.prog.info? 70 = some i ∧ i.zero = some (tabV fun _ => 0) ∧ i.size = 256 := by
  have hz := tab_zero
  have hs := tab_size
  cases hq : Try.prog.info? 70 with
  | none => rw [hq] at hz; cases hz
  | some i =>
    rw [hq] at hz hs
    exact ⟨i, rfl, hz, Option.some.inj hs⟩
/-- A new table. -/
theorem wpList_newTab {w : World} {ops : Array Oper} {rest : List Oper} {o : Oper} {a : Act} {Q : Exit → Act → World → Prop} (hg : o.guard = none) (hop : o.op = Op.alloc 70)
    (h : ∀ w', TabAt w' w.heap.size (fun _ => 0) → Below w.heap.size w w' → wpList Try.prog ops Q rest (a.put o.dst (.pointer (some ⟨w.heap.size, 0, none⟩))) w') : wpList Try.prog ops Q (o :: rest) a w := by
  refine wpList_plain hg fun K hK => ?_
  obtain ⟨i, hq, hz, _⟩ := tab_info
  have hr := run_allocAny (P := Try.prog) 70 i _ w hq hz
  have hc : (tabV fun _ => 0).cells = tabC fun _ => 0 := rfl
  rw [hc] at hr
  have h2 := hK _ _ (h (w.alloc (.cells (tabC fun _ => 0) 70)) (TabAt.new w) ((Below.refl _ w).alloc (Nat.le_refl _) _))
  unfold Oper.wp execOp
  simp only [hop, Sem.run_bind, Sem.run_pure, Result.andThen_ok, hr]
  exact h2
/-- A table is loaded whole. -/
theorem wpList_loadTab {w : World} {ops : Array Oper} {rest : List Oper} {o : Oper} {a : Act} {Q : Exit → Act → World → Prop} (hg : o.guard = none) (x : Operand) (hop : o.op = Op.load 70 x)
    (g : Nat) (hx : a.eval x = .pointer (some ⟨g, 0, none⟩)) (F : Nat → Int) (ht : TabAt w g F) (h : wpList Try.prog ops Q rest (a.put o.dst (tabV F)) w) : wpList Try.prog ops Q (o :: rest) a w := by
  obtain ⟨i, hq, _, hs⟩ := tab_info
  exact wpList_load_row hg _ x hop g hx _ (tabC F) _ _ ht tab_under rfl (by rw [hq, tabC_size, ← hs]; rfl) h
/-- A table is stored whole. -/
theorem wpList_storeTab {w : World} {ops : Array Oper} {rest : List Oper} {o : Oper} {a : Act} {Q : Exit → Act → World → Prop} (hg : o.guard = none) (x y : Operand) (hop : o.op = Op.store 70 x y)
    (g : Nat) (hx : a.eval x = .pointer (some ⟨g, 0, none⟩)) (F F' : Nat → Int) (hy : a.eval y = tabV F') (ht : TabAt w g F)
    (h : ∀ w', TabAt w' g F' → (∀ k, k ≠ g → w'.heap[k]? = w.heap[k]?) → w'.heap.size = w.heap.size → (∀ B, B ≤ g → Below B w w') → wpList Try.prog ops Q rest (a.put o.dst undef) w') : wpList Try.prog ops Q (o :: rest) a w := by
  obtain ⟨i, hq, _, hs⟩ := tab_info
  refine wpList_store_row hg _ x y hop g (tabC F') hx hy _ (tabC F) ht (by rw [hq, tabC_size, ← hs]; rfl) (by rw [tabC_size, tabC_size]) (tabC_one F') (h _ (setRow_heap w g _ _ _ _ ht) (fun k hk => setRow_other w g k _ hk) (by simp) fun B hB => below_setRow (Below.refl B w) hB _)

/-! What can be had of the first items. -/
theorem moreF_eq {F F' g g' : Nat → Int} {s : Nat} (h0 : F s = F' s) : ∀ {k}, (∀ i, i < k → s.testBit i = true → F (s ^^^ 2 ^ i) = F' (s ^^^ 2 ^ i) ∧ g i = g' i) → moreF F g s k = moreF F' g' s k
  | 0, _ => h0
  | k + 1, h => by
    rw [moreF, moreF, moreF_eq h0 fun i hi => h i (by omega)]
    by_cases hb : s.testBit k = true
    · rw [if_pos hb, if_pos hb, (h k (by omega) hb).1, (h k (by omega) hb).2]
    · rw [if_neg hb, if_neg hb]
def hadT (G : Nat → Nat → Int) (n c s : Nat) : Int := if s < 2 ^ n then haveN (turnG G) n c s else 0
def mixT (G : Nat → Nat → Int) (n c s t : Nat) : Int := if t < s then hadT G n (c + 1) t else 0
theorem mixT_zero (G : Nat → Nat → Int) (n c : Nat) : mixT G n c 0 = fun _ => 0 := by
  funext t; rw [mixT, if_neg (by omega)]
theorem mixT_all (G : Nat → Nat → Int) (n c : Nat) : mixT G n c (2 ^ n) = hadT G n (c + 1) := by
  funext t
  unfold mixT
  by_cases h : t < 2 ^ n
  · rw [if_pos h]
  · rw [if_neg h, hadT, if_neg h]
theorem mixT_succ (G : Nat → Nat → Int) (n c s t : Nat) : mixT G n c (s + 1) t = if t = s then hadT G n (c + 1) s else mixT G n c s t := by
  unfold mixT
  by_cases h : t = s
  · rw [if_pos h, if_pos (by omega), h]
  · rw [if_neg h]
    by_cases h2 : t < s
    · rw [if_pos h2, if_pos (by omega)]
    · rw [if_neg h2, if_neg (by omega)]
theorem hadT_zero (G : Nat → Nat → Int) (n : Nat) : hadT G n 0 = fun _ => 0 := by
  funext t
  unfold hadT
  split <;> rfl
theorem hadT_step {G : Nat → Nat → Int} {n c s : Nat} (hs : s < 2 ^ n) : moreF (hadT G n c) (fun i => G i c) s n = hadT G n (c + 1) s := by
  rw [hadT, if_pos hs, ← foldK_all, ← moreF_have]
  refine moreF_eq (by rw [hadT, if_pos hs]) fun i hi _ => ⟨?_, rfl⟩
  rw [hadT, if_pos (xor_lt hs hi)]
theorem hadT_bound {g : List (List Int)} {m : Int} (h : mayW g m = true) (n c s : Nat) (hn : n ≤ 8) (hc : c ≤ 8) : 0 ≤ hadT (gG g) n c s ∧ hadT (gG g) n c s ≤ 8000000 := by
  unfold hadT
  split
  · refine ⟨bestN_nonneg, Int.le_trans (bestN_top (G := turnG (gG g)) (m := n) (n := c)) ?_⟩
    have := bestV_bound (G := turnG (gG g)) (K := 1000000) (by omega) (fun b c => (gG_bound h c b).2) n c
    omega
  · omega
theorem hadT_all (G : Nat → Nat → Int) (m n : Nat) : hadT G n m (2 ^ n - 1) = bestV G m n := by
  rw [hadT, if_pos (Nat.sub_lt (Nat.two_pow_pos n) (by omega)), have_all, turn_best]
theorem hadT_more {G : Nat → Nat → Int} {m n k : Nat} (hk : k < m) : moreF (hadT G n m) (fun i => G i k) (2 ^ n - 1) n = bestV G m n + numP G m n k := by
  have h0 : 2 ^ n - 1 < 2 ^ n := Nat.sub_lt (Nat.two_pow_pos n) (by omega)
  have h1 : ∀ s, s < 2 ^ n → hadT G n m s = haveN (turnG (oneG G m k)) n m s := fun s hs => by
    rw [hadT, if_pos hs, haveN, haveN]
    exact bestN_row fun b hb c _ => by
      show G c b = oneG G m k c b
      rw [oneG, if_neg (by omega)]
  have h2 : moreF (hadT G n m) (fun i => G i k) (2 ^ n - 1) n = moreF (haveN (turnG (oneG G m k)) n m) (turnG (oneG G m k) m) (2 ^ n - 1) n := by
    refine moreF_eq (h1 _ h0) fun i hi _ => ⟨h1 _ (xor_lt h0 hi), ?_⟩
    show G i k = oneG G m k i m
    rw [oneG, if_pos rfl]
  rw [h2, moreF_have, foldK_all, have_all, turn_best, numP]
  omega
end Go.Proofs.Ytdckoaljcklmhaa

namespace Go.Proofs.Ytdckoaljcklmhaa
open Go.RowKit
set_option linter.unusedVariables false

set_option maxRecDepth 100000 in
set_option maxHeartbeats 1000000 in
theorem wtable_any (x : Gr) (M : Nat) (w : World) (hx : x.Ok w) (hmay : mayW x.g M = true) :
    Calls Try.prog 37 #[x.v, .int .i64 M] w fun e w' => e = .returned (tabV (hadT (gG x.g) x.n M)) ∧ Below w.heap.size w w' := by
  obtain ⟨r1, r2, r3, r4⟩ := mayW_iff.1 hmay
  have hgl := hx.glen
  rw [hgl] at r3
  have hn8 : x.n ≤ 8 := r3
  have hM8 : M ≤ 8 := by omega
  have HROW := Lib.hid (show ∀ l ∈ x.g, l.length = M ∧ ∀ z ∈ l, -1000000 ≤ z ∧ z ≤ 1000000 from fun l hl => ⟨by have := (r4 l hl).1; omega, (r4 l hl).2⟩)
  have HB : Hid (∀ c s, c ≤ 8 → 0 ≤ hadT (gG x.g) x.n c s ∧ hadT (gG x.g) x.n c s ≤ 8000000) := Lib.hid fun c s hc => hadT_bound hmay x.n c s hn8 hc
  have HST : Hid (∀ c s, s < 2 ^ x.n → moreF (hadT (gG x.g) x.n c) (fun i => gG x.g i c) s x.n = hadT (gG x.g) x.n (c + 1) s) := Lib.hid fun c s hs => hadT_step hs
  obtain ⟨N, hN⟩ : ∃ N, 2 ^ x.n = N := ⟨_, rfl⟩
  have hN256 : N ≤ 256 := by rw [← hN]; exact Nat.pow_le_pow_right (n := 2) (by omega) hn8
  have hN1 : 1 ≤ N := by rw [← hN]; exact Nat.one_le_two_pow
  have hwN : IntKind.i64.wrap (((N - 1 : Nat) : Int) + 1) = N := by rw [IntKind.wrap_i64]; omega
  have HALL : Hid (∀ c, mixT (gG x.g) x.n c N = hadT (gG x.g) x.n (c + 1)) := Lib.hid fun c => by rw [← hN]; exact mixT_all _ _ c
  have hev := fun w1 => wevery_any x.A x.n x.c w1 hn8
  rw [hN] at HST hev
  clear r1 r2 r3 r4 hgl hmay hN
  rw [show x.v = .slice x.A x.n x.c from rfl]
  go_enter Try.func37, Try.ntmps37
  go_wp2_with (refine wpList_newTab rfl rfl ?_)
  intro w1 t41 hb1
  have t41l := t41.lt
  obtain ⟨b4, hb4⟩ : ∃ b4, b4 = w.heap.size := ⟨_, rfl⟩
  rw [← hb4] at t41 t41l ⊢
  have hwb4 : w.heap.size ≤ b4 := Nat.le_of_eq hb4.symm
  clear hb4
  go_wp2_with (refine wpList_newTab rfl rfl ?_)
  intro w2 t52 hb2
  have t52l := t52.lt
  have t42 := t41.below hb2
  have hbw2 := hb1.trans (hb2.mono hb1.size)
  obtain ⟨b5, hb5⟩ : ∃ b5, b5 = w1.heap.size := ⟨_, rfl⟩
  rw [← hb5] at t52 t52l hb2 t41l ⊢
  rw [← hadT_zero (gG x.g) x.n] at t52
  clear hb5 hb1 t41 hb2
  go_wp2_with fail
  go_loopw [10] (fun v wr => ∃ c : Nat, c ≤ M ∧ v = .int .i64 c ∧ TabAt wr b4 (fun _ => 0) ∧ TabAt wr b5 (hadT (gG x.g) x.n c) ∧ Below w.heap.size w wr) (fun v _ => M - (intOf v).toNat)
  case atStart => exact ⟨0, Nat.zero_le _, rfl, t42, t52, hbw2⟩
  case round =>
    clear t42 t52 hbw2
    obtain ⟨c, hc, rfl, t4, t5, hB⟩ := hrel
    by_cases hlt : c < M
    · have hlt' : (c : Int) < M := by omega
      obtain ⟨wo, rfl⟩ : ∃ wo, wo = wr := ⟨_, rfl⟩
      go_wp2_with (refine wpList_newTab rfl rfl ?_)
      intro w3 t7 hb3
      have t4' := t4.below hb3
      have t5' := t5.below hb3
      have hB3 := hB.trans (hb3.mono hB.size)
      have h57 : b5 < wo.heap.size := t5.lt
      obtain ⟨b7, hb7⟩ : ∃ b7, b7 = wo.heap.size := ⟨_, rfl⟩
      have hw7 : w.heap.size ≤ b7 := by rw [hb7]; exact hB.size
      rw [← hb7] at t7 h57 ⊢
      rw [← mixT_zero (gG x.g) x.n c] at t7
      have hct := hev w3
      clear hb7 hb3 t4 t5 hB
      go_wp2_with fail
      refine hct.mono ?_
      rintro e w4 ⟨rfl, rfl⟩
      clear hct
      go_wp2_with fail
      go_loopw [16] (fun v wr => ∃ s : Nat, s ≤ N ∧ v = .int .i64 s ∧ TabAt wr b4 (fun _ => 0) ∧ TabAt wr b5 (hadT (gG x.g) x.n c) ∧ TabAt wr b7 (mixT (gG x.g) x.n c s) ∧ Below w.heap.size w wr) (fun v _ => N - (intOf v).toNat)
      case atStart => exact ⟨0, Nat.zero_le _, rfl, t4', t5', t7, hB3⟩
      case round =>
        clear t4' t5' t7 hB3
        obtain ⟨s, hs, rfl, t4, t5, t7, hB⟩ := hrel
        by_cases hsN : s < N
        · have hsN' : (s : Int) < N := by omega
          have hs0 : (0 : Int) ≤ s := by omega
          have hs256 : (s : Int) < 256 := by omega
          have hs2 : s < 256 := by omega
          have hone := wone_any x b5 (hadT (gG x.g) x.n c) c s M wr t5 (hx.below hB) hn8 hs2 hlt HROW.out fun s => by
            have := HB.out c s (by omega); omega
          rw [HST.out c s hsN, show x.v = .slice x.A x.n x.c from rfl] at hone
          have hzb := HB.out (c + 1) s (by omega)
          have hmx : ∀ t, t < 256 → mixT (gG x.g) x.n c (s + 1) t = if t = s then hadT (gG x.g) x.n (c + 1) s else mixT (gG x.g) x.n c s t := fun t _ => mixT_succ _ _ _ _ _
          obtain ⟨z, hz⟩ : ∃ z, hadT (gG x.g) x.n (c + 1) s = z := ⟨_, rfl⟩
          rw [hz] at hone hmx
          have HMX := Lib.hid hmx
          clear hz hmx
          go_wp2_with fail
          refine hone.mono ?_
          rintro e w5 ⟨rfl, hb5⟩
          clear hone
          have t4' := t4.below hb5
          have t5' := t5.below hb5
          have t7' := t7.below hb5
          have hB5 := hB.trans (hb5.mono hB.size)
          have hcell := t7'.cell hs2
          have hfree := t7'.free (s := s)
          have u4 := t4'.other (g := b7) (s := s) (v := .int .i64 z) (by omega)
          have u5 := t5'.other (g := b7) (s := s) (v := .int .i64 z) (by omega)
          have u7 := t7'.set (z := z) HMX.out
          have hB6 := hB5.setCell (p := ⟨b7, s, none⟩) hw7 (.int .i64 z)
          clear t4 t5 t7 t4' t5' t7' hB hB5 hb5
          go_wp2
          go_roundw
          case rel => exact ⟨s + 1, by omega, by go_num, u4, u5, u7, hB6⟩
          case measure => simp [intOf]; omega
        · obtain rfl : s = N := by omega
          rw [HALL.out] at t7
          go_wp2_with (first | (refine wpList_loadTab rfl _ rfl b7 rfl _ t7 ?_) | (refine wpList_storeTab rfl _ _ rfl b5 rfl _ _ rfl t5 ?_))
          intro w6 u5 hk6 hs6 hb6
          have u4 := t4.keep (hk6 b4 (by omega))
          have hB6 := hB.trans (hb6 _ (Nat.le_trans hwb4 (by omega)))
          clear t4 t5 t7 hB hk6 hs6 hb6
          go_wp2
          go_roundw
          case rel => exact ⟨c + 1, by omega, by go_num, u4, u5, hB6⟩
          case measure => simp [intOf]; omega
    · obtain rfl : c = M := by omega
      go_wp2_with (first | (refine wpList_loadTab rfl _ rfl b5 rfl _ t5 ?_) | (refine wpList_storeTab rfl _ _ rfl b4 rfl _ _ rfl t4 ?_))
      intro w6 u4 hk6 hs6 hb6
      have hB6 := hB.trans (hb6 _ hwb4)
      clear t4 t5 hB hk6 hs6 hb6
      obtain ⟨i, hq, _, hsz⟩ := tab_info
      go_wp2
      refine bodyPost_ret (v := tabV (hadT (gG x.g) x.n c)) (results_cell_row rfl _ _ b4 _ (tabC (hadT (gG x.g) x.n c)) _ _ rfl u4 tab_under rfl (by rw [hq, tabC_size, ← hsz]; rfl)) rfl ⟨rfl, hB6⟩
end Go.Proofs.Ytdckoaljcklmhaa

namespace Go.Proofs.Ytdckoaljcklmhaa
open Go.RowKit
set_option linter.unusedVariables false

theorem OwnI.putW {w : World} {B g n c k : Nat} {zs : List Int} {z : Int} (h : OwnI w B ⟨some ⟨g, 0, none⟩, n, c, zs⟩) (hc : 0 < c) (hz : -9223372036854775808 ≤ z ∧ z ≤ 9223372036854775807) : OwnI (w.setCell ⟨g, k, none⟩ (.int .i64 z)) B ⟨some ⟨g, 0, none⟩, n, c, zs.set k z⟩ := by
  refine ⟨?_, fun y hy => ?_⟩
  · have h1 := h.own.set hc k (.int .i64 z)
    have h2 : ci64 (zs.set k z) = (ci64 zs).set k (.int .i64 z) := by simp [ci64, iV]
    show Own _ B _ _ n c (ci64 (zs.set k z))
    rw [h2]; exact h1
  · rcases List.mem_or_eq_of_mem_set hy with h1 | h1
    · exact h.fit y h1
    · rw [h1]; exact hz
set_option maxRecDepth 100000 in
set_option maxHeartbeats 1000000 in
theorem pbestC : BestC 18 := by
  intro x m w hx hm1 hm2
  have hc := wmaybe_any x m w hx hm1 hm2
  obtain ⟨B, hB0⟩ : ∃ B, mayW x.g m = B := ⟨_, rfl⟩
  rw [hB0] at hc
  have hgl := hx.glen
  have hv : x.v = .slice x.A x.n x.c := rfl
  rw [hv] at hc ⊢
  cases B
  · obtain ⟨e1, e2, _⟩ := we_bad hB0
    rw [e1, e2]
    clear hB0 e1 e2 hv hgl
    go_enter Try.func18, Try.ntmps18
    go_wp2_with fail
    refine hc.mono ?_
    rintro e w1 ⟨rfl, rfl⟩
    clear hc
    go_wp2
    go_ret2
    exact ⟨rfl, Below.refl _ _⟩
  · obtain ⟨M, rfl⟩ : ∃ M : Nat, m = M := ⟨m.toNat, by have := (mayW_iff.1 hB0).1; omega⟩
    obtain ⟨e1, e2, _⟩ := we_ok hB0
    rw [e1, e2, hgl]
    have r3 := (mayW_iff.1 hB0).2.2.1
    rw [hgl] at r3
    have hn8 : x.n ≤ 8 := r3
    have htb := wtable_any x M w hx hB0
    rw [hv] at htb
    have hev := fun w1 => wevery_any x.A x.n x.c w1 hn8
    have hall := hadT_all (gG x.g) M x.n
    have hp : 2 ^ x.n ≤ 2 ^ 8 := Nat.pow_le_pow_right (by omega) hn8
    obtain ⟨N, hN⟩ : ∃ N, 2 ^ x.n - 1 = N := ⟨_, rfl⟩
    have hN2 : N < 256 := by rw [← hN]; exact Nat.lt_of_lt_of_le (Nat.sub_lt (Nat.two_pow_pos _) (by omega)) hp
    rw [hN] at hev hall
    have hN0 : (0 : Int) ≤ N := by omega
    have hN256 : (N : Int) < 256 := by omega
    clear hB0 e1 e2 hgl r3 hp hN hv
    go_enter Try.func18, Try.ntmps18
    go_wp2_with fail
    refine hc.mono ?_
    rintro e w1 ⟨rfl, rfl⟩
    clear hc
    go_wp2_with fail
    refine htb.mono ?_
    rintro e w2 ⟨rfl, hb2⟩
    clear htb
    go_wp2_with (refine wpList_newTab rfl rfl ?_)
    intro w3 t6 hb3
    have hB3 := hb2.trans (hb3.mono hb2.size)
    have h26 := hb2.size
    obtain ⟨b6, hb6⟩ : ∃ b6, b6 = w2.heap.size := ⟨_, rfl⟩
    rw [← hb6] at t6 h26 ⊢
    clear hb6 hb2 hb3
    go_wp2_with (refine wpList_storeTab rfl _ _ rfl b6 rfl _ _ rfl t6 ?_)
    intro w4 t64 hq1 hq2 hb4
    clear hq1 hq2
    have hB4 := hB3.trans (hb4 _ h26)
    have hcell := t64.cell hN2
    rw [hall] at hcell
    have hct := hev w4
    clear hev t6 hB3 hb4 hall
    go_wp2_with fail
    refine hct.mono ?_
    rintro e w5 ⟨rfl, rfl⟩
    clear hct
    go_wp2
    go_ret2
    exact ⟨rfl, hB4⟩

end Go.Proofs.Ytdckoaljcklmhaa
