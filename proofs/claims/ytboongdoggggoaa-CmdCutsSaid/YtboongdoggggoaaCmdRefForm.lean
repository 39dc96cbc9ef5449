/- Which entries are formed: the reference. -/
import Derived.Test.YtboongdoggggoaaCmdForm
namespace Go.Proofs.Ytboongdoggggoaa
set_option maxRecDepth 20000
open Go.RowKit BinMath CmdMath

end Go.Proofs.Ytboongdoggggoaa
