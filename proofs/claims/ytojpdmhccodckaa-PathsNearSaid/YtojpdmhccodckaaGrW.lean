/-
  Package graphs: all its contracts (gcheckC, gturnedC, gfitsC, gmanyC, gnearC).
-/
import Derived.Test.YtojpdmhccodckaaGrWa
import Derived.Test.YtojpdmhccodckaaGrWd
import Derived.Test.YtojpdmhccodckaaGrWe
import Derived.Test.YtojpdmhccodckaaGrWg
import Derived.Test.YtojpdmhccodckaaGrWi
