/- All that layer 4 stands on, together. -/
import Derived.Test.YtjphlbnbgpjfmaaDoorRefb
import Derived.Test.YtjphlbnbgpjfmaaDoorPlay0
import Derived.Test.YtjphlbnbgpjfmaaDoorConv
import Derived.Test.YtjphlbnbgpjfmaaDoorSli
import Derived.Test.YtjphlbnbgpjfmaaDoorFit
import Derived.Test.YtjphlbnbgpjfmaaDoorRow2
import Derived.Test.YtjphlbnbgpjfmaaDoorOw
import Derived.Test.YtjphlbnbgpjfmaaDoorQc
import Derived.Test.YtjphlbnbgpjfmaaDoorTd
import Derived.Test.YtjphlbnbgpjfmaaDoorPost
import Derived.Test.YtjphlbnbgpjfmaaDoorIn
