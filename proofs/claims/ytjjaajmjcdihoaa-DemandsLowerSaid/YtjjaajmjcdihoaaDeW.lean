/-
  Package demands: its walks, Of (pofC) and All (pallDC).
-/
import Derived.Test.YtjjaajmjcdihoaaDeWd
import Derived.Test.YtjjaajmjcdihoaaDeWe
