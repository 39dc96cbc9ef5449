/- Layer 14's laws as the cards call them. -/
import Derived.Test.YtdhfabjkpffhnaaDoorLeafInC
import Derived.Test.YtdhfabjkpffhnaaDoorLeafSpecC
namespace Go.Proofs.YtdhfabjkpffhnaaDoor
set_option maxRecDepth 20000
open Go.ChangeShapes Go.WideShapes Go.ChangeAt Go.RowKit ShaMath LeafMath

theorem int_i64 {n : Int} (h : (Lit.int .i64 n).wf = true) : I64 n := by
  have := bounds_i64 h
  exact ⟨this.1, this.2⟩
end Go.Proofs.YtdhfabjkpffhnaaDoor

