/- The reference's Members. -/
import Derived.Test.YtboongdoggggoaaCmdSame
namespace Go.Proofs.Ytboongdoggggoaa
set_option maxRecDepth 20000
open Go.RowKit BinMath CmdMath

end Go.Proofs.Ytboongdoggggoaa
