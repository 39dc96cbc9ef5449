/- LeafRoots: the walk. -/
import Derived.Test.YtdhfabjkpffhnaaDoorLeafSpecC
namespace Go.Proofs.YtdhfabjkpffhnaaDoor
set_option maxRecDepth 20000
open Go.RowKit ShaMath LeafMath Reg

end Go.Proofs.YtdhfabjkpffhnaaDoor

