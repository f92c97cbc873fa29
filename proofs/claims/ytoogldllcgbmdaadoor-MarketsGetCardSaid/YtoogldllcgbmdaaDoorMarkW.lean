/-
  What the functions of a market's package answer: all walks.
-/
import Derived.Test.YtoogldllcgbmdaaDoorMarkWf
namespace Go.Proofs.YtoogldllcgbmdaaDoor
end Go.Proofs.YtoogldllcgbmdaaDoor
