/- All that layer 10 stands on. -/
import Derived.Test.YtejmmjlmnfnacaaDiskLone
import Derived.Test.YtejmmjlmnfnacaaBinNew
import Derived.Test.YtejmmjlmnfnacaaTails
import Derived.Test.YtejmmjlmnfnacaaTexts
namespace Go.Proofs.Ytejmmjlmnfnacaa
end Go.Proofs.Ytejmmjlmnfnacaa
