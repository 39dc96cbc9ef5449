/- CellNil, as its frame wants it. -/
import Derived.Test.YtboongdoggggoaaCellNil
import Derived.Test.YtboongdoggggoaaCellIn
namespace Go.Proofs.Ytboongdoggggoaa
set_option maxRecDepth 20000
open Go.RowKit DiskMath CellMath

theorem cellNil_all (W : World) (S : ByteArray) (hS : S.size ≤ maxLen) (g : Hd) (_hg : okH g) :
    Calls Try.prog 8 #[.string S, .agg (hc g)] W fun e W' => e = .returned (.bool true) ∧ Below W.heap.size W W' :=
  cellNil_any S hS g
end Go.Proofs.Ytboongdoggggoaa
