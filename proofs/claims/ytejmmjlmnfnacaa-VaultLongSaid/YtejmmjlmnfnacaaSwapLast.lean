/- All that layers 10 and 11 stand on, but for layer 1. -/
import Derived.Test.YtejmmjlmnfnacaaDiskLone
import Derived.Test.YtejmmjlmnfnacaaTails
namespace Go.Proofs.Ytejmmjlmnfnacaa
end Go.Proofs.Ytejmmjlmnfnacaa
