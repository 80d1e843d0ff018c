/- All that layer 4 stands on, together. -/
import Derived.Test.YtdlkjfnifjlbhaaDoorRefb
import Derived.Test.YtdlkjfnifjlbhaaDoorPlay0
import Derived.Test.YtdlkjfnifjlbhaaDoorConv
import Derived.Test.YtdlkjfnifjlbhaaDoorSli
import Derived.Test.YtdlkjfnifjlbhaaDoorFit
import Derived.Test.YtdlkjfnifjlbhaaDoorRow2
import Derived.Test.YtdlkjfnifjlbhaaDoorOw
import Derived.Test.YtdlkjfnifjlbhaaDoorQc
import Derived.Test.YtdlkjfnifjlbhaaDoorTd
import Derived.Test.YtdlkjfnifjlbhaaDoorPost
import Derived.Test.YtdlkjfnifjlbhaaDoorIn
