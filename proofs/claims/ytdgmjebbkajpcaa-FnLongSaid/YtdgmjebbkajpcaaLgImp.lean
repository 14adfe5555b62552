/- Long numbers: the program's eight functions. -/
import Derived.Test.YtdgmjebbkajpcaaLgImpA
import Derived.Test.YtdgmjebbkajpcaaLgImpV
import Derived.Test.YtdgmjebbkajpcaaLgImpI
import Derived.Test.YtdgmjebbkajpcaaLgImpQ
