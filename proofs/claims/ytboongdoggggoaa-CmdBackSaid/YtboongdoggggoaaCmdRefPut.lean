/- The bytes of an entry: the reference's. -/
import Derived.Test.YtboongdoggggoaaCmdPut
namespace Go.Proofs.Ytboongdoggggoaa
set_option maxRecDepth 20000
open Go.RowKit BinMath CmdMath Reg

end Go.Proofs.Ytboongdoggggoaa
