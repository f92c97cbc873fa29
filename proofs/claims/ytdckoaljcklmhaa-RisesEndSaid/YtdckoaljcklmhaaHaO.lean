/-
  What the function of a halls package answers (a contract).
-/
import Derived.Test.YtdckoaljcklmhaaGrO
import Derived.Test.YtdckoaljcklmhaaHaD
namespace Go.Proofs.Ytdckoaljcklmhaa
open Go.RowKit
set_option linter.unusedVariables false

def FewC (f : Nat) : Prop := ∀ (x : Gr) (m : Int) (u : Ls) (w : World), x.Ok w → u.Ok w → -9223372036854775808 ≤ m → m ≤ 9223372036854775807 →
  Calls Try.prog f #[x.v, .int .i64 m, u.v] w fun e w' => ∃ A' n' c', e = .returned (.tuple #[.slice A' n' c', .bool (fewF x.g m u.zs), .int .i64 (nearErr x.g m u.zs)]) ∧ OwnI w' w.heap.size ⟨A', n', c', fewE x.g m u.zs⟩ ∧ Below w.heap.size w w'
theorem fewE_len {g : List (List Int)} {m : Int} {s : List Int} : (fewE g m s).length ≤ 8 := by
  unfold fewE
  split
  · rename_i h
    cases h2 : fewP g m.toNat s with
    | none => simp
    | some l =>
      rw [nearOk, Bool.and_eq_true] at h
      obtain ⟨h3, h4, _⟩ := checkG_iff.1 h.1
      have := rises_len (few_some h2).is.rises
      simp only [Option.getD_some]
      omega
  · simp
end Go.Proofs.Ytdckoaljcklmhaa
