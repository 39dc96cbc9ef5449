/- The reference's Add. -/
import Derived.Test.YtboongdoggggoaaGaugeAdd
namespace Go.Proofs.Ytboongdoggggoaa
set_option maxRecDepth 20000
open Go.RowKit EdgeMath

end Go.Proofs.Ytboongdoggggoaa
