/-
  Package graphs: all its contracts (gcheckC, gturnedC, gfitsC, gmanyC, gnearC).
-/
import Derived.Test.YtcjfgkihmhdhlaaGrWa
import Derived.Test.YtcjfgkihmhdhlaaGrWd
import Derived.Test.YtcjfgkihmhdhlaaGrWe
import Derived.Test.YtcjfgkihmhdhlaaGrWg
import Derived.Test.YtcjfgkihmhdhlaaGrWi
