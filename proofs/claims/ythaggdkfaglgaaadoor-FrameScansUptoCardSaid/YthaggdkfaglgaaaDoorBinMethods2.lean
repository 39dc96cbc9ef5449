/- The reader's calls: a text, the end, a new reader. -/
import Derived.Test.YthaggdkfaglgaaaDoorBinMethods
namespace Go.Proofs.YthaggdkfaglgaaaDoor
set_option maxRecDepth 20000
open Go.RowKit BinMath
variable {G : Nat}

/-- How a reading of a text ends: t the text, c the error, k' the place behind. -/
def TextAnswers (G R : Nat) (l : List UInt8) (w : World) (t : List UInt8) (c k' : Nat) (e : Ending) (w' : World) : Prop :=
  Only R w w' ∧ ∃ v, e = .returned (.tuple #[v, .int .i64 (c : Int)]) ∧ Row w' w.heap.size v t ∧ IsRd w' R G l k' c

end Go.Proofs.YthaggdkfaglgaaaDoor
