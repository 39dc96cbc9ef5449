/- All the base. -/
import Derived.Test.YtboongdoggggoaaBinMath
import Derived.Test.YtboongdoggggoaaBinLen
import Derived.Test.YtboongdoggggoaaFrame
import Derived.Test.YtboongdoggggoaaBys
import Derived.Test.YtboongdoggggoaaBinNum
import Derived.Test.YtboongdoggggoaaBinRef
import Derived.Test.YtboongdoggggoaaBinRaw
import Derived.Test.YtboongdoggggoaaOnly
import Derived.Test.YtboongdoggggoaaReadMath
import Derived.Test.YtboongdoggggoaaBinRead
import Derived.Test.YtboongdoggggoaaBinAttempt
import Derived.Test.YtboongdoggggoaaBinMethods
import Derived.Test.YtboongdoggggoaaBinMethods2
import Derived.Test.YtboongdoggggoaaBinNew
import Derived.Test.YtboongdoggggoaaBinNil
import Derived.Test.YtboongdoggggoaaRefRead
import Derived.Test.YtboongdoggggoaaRefNum
import Derived.Test.YtboongdoggggoaaRegion
import Derived.Test.YtboongdoggggoaaFacts
import Derived.Test.YtboongdoggggoaaRefRaw
import Derived.Test.YtboongdoggggoaaBinOwn
import Derived.Test.YtboongdoggggoaaTexts
import Derived.Test.YtboongdoggggoaaTail
import Derived.Test.YtboongdoggggoaaTails
import Derived.Test.YtboongdoggggoaaBlk
import Derived.Test.YtboongdoggggoaaArms
import Derived.Test.YtboongdoggggoaaLast
import Derived.Test.YtboongdoggggoaaLate
import Derived.Test.YtboongdoggggoaaSkip
namespace Go.Proofs.Ytboongdoggggoaa.BaseLast
set_option maxRecDepth 20000
theorem base_last : True := trivial
end Go.Proofs.Ytboongdoggggoaa.BaseLast
