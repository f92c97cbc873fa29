/-
  What the functions of a market's package answer: all walks.
-/
import Derived.Test.YtoogldllcgbmdaaMarkWf
namespace Go.Proofs.Ytoogldllcgbmdaa
end Go.Proofs.Ytoogldllcgbmdaa
