/-
  Package graphs: all its contracts (gcheckC, gturnedC, gfitsC, gmanyC, gnearC).
-/
import Derived.Test.YtllnpghpbhikmaaDoorGrWa
import Derived.Test.YtllnpghpbhikmaaDoorGrWd
import Derived.Test.YtllnpghpbhikmaaDoorGrWe
import Derived.Test.YtllnpghpbhikmaaDoorGrWg
import Derived.Test.YtllnpghpbhikmaaDoorGrWi
