/- All that layer 4 stands on, together. -/
import Derived.Test.YtldjobaafambbaaRefb
import Derived.Test.YtldjobaafambbaaPlay0
import Derived.Test.YtldjobaafambbaaConv
import Derived.Test.YtldjobaafambbaaSli
import Derived.Test.YtldjobaafambbaaFit
import Derived.Test.YtldjobaafambbaaRow2
import Derived.Test.YtldjobaafambbaaOw
import Derived.Test.YtldjobaafambbaaQc
import Derived.Test.YtldjobaafambbaaTd
import Derived.Test.YtldjobaafambbaaPost
import Derived.Test.YtldjobaafambbaaIn
