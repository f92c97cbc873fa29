/-
  What the functions of a market's package answer: all walks.
-/
import Derived.Test.YtfhiedlglmgneaaMarkWf
namespace Go.Proofs.Ytfhiedlglmgneaa
end Go.Proofs.Ytfhiedlglmgneaa
