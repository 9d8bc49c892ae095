/-
  The program's five contracts at hand.
-/
import Derived.Test.YtjpkeadnccodjaaVsame
import Derived.Test.YtjpkeadnccodjaaVlawp
import Derived.Test.YtjpkeadnccodjaaVpset
import Derived.Test.YtjpkeadnccodjaaVpchg
import Derived.Test.YtjpkeadnccodjaaVpord
import Derived.Test.YtjpkeadnccodjaaVpat
