/- All that layer 4 stands on, together. -/
import Derived.Test.YtliaehfknppnaaaRefb
import Derived.Test.YtliaehfknppnaaaPlay0
import Derived.Test.YtliaehfknppnaaaConv
import Derived.Test.YtliaehfknppnaaaSli
import Derived.Test.YtliaehfknppnaaaFit
import Derived.Test.YtliaehfknppnaaaRow2
import Derived.Test.YtliaehfknppnaaaOw
import Derived.Test.YtliaehfknppnaaaQc
import Derived.Test.YtliaehfknppnaaaTd
import Derived.Test.YtliaehfknppnaaaPost
import Derived.Test.YtliaehfknppnaaaIn
