/-
  Package graphs: all its contracts (gcheckC, gturnedC, gfitsC, gmanyC, gnearC).
-/
import Derived.Test.YtllnpghpbhikmaaGrWa
import Derived.Test.YtllnpghpbhikmaaGrWd
import Derived.Test.YtllnpghpbhikmaaGrWe
import Derived.Test.YtllnpghpbhikmaaGrWg
import Derived.Test.YtllnpghpbhikmaaGrWi
