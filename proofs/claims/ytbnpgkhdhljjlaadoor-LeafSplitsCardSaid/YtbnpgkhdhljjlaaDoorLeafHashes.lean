/- LeafHashes: the walk. -/
import Derived.Test.YtbnpgkhdhljjlaaDoorLeafSpec
namespace Go.Proofs.YtbnpgkhdhljjlaaDoor
set_option maxRecDepth 20000
open Go.RowKit ShaMath LeafMath Reg

end Go.Proofs.YtbnpgkhdhljjlaaDoor
