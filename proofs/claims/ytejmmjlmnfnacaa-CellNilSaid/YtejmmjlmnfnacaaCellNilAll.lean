/- CellNil, as its frame wants it. -/
import Derived.Test.YtejmmjlmnfnacaaCellNil
import Derived.Test.YtejmmjlmnfnacaaCellIn
namespace Go.Proofs.Ytejmmjlmnfnacaa
open Go.RowKit DiskMath CellMath

theorem cellNil_all (W : World) (S : ByteArray) (hS : S.size ≤ maxLen) (g : Hd) (_hg : okH g) :
    Calls Try.prog 4 #[.string S, .agg (hc g)] W fun e W' => e = .returned (.bool true) ∧ Below W.heap.size W W' :=
  cellNil_any S hS g
end Go.Proofs.Ytejmmjlmnfnacaa
