/- bin.Raw and the reference's: the bytes of a text, in new memory. -/
import Derived.Test.YthlnhphmbjkjkaaBinNum
import Derived.Test.YthlnhphmbjkjkaaFrame
import Derived.Lib.BufferRead
namespace Go.Proofs.Ythlnhphmbjkjkaa
open Go.RowKit BinMath

def rawL (l : List UInt8) : List UInt8 := numL l.length ++ l

end Go.Proofs.Ythlnhphmbjkjkaa
