/- bin.Raw and the reference's: the bytes of a text, in new memory. -/
import Derived.Test.YtejmmjlmnfnacaaBinNum
import Derived.Test.YtejmmjlmnfnacaaFrame
import Derived.Lib.BufferRead
namespace Go.Proofs.Ytejmmjlmnfnacaa
open Go.RowKit BinMath

def rawL (l : List UInt8) : List UInt8 := numL l.length ++ l

end Go.Proofs.Ytejmmjlmnfnacaa
