/- All that layer 10 stands on. -/
import Derived.Test.YthlnhphmbjkjkaaDiskLone
import Derived.Test.YthlnhphmbjkjkaaBinNew
import Derived.Test.YthlnhphmbjkjkaaTails
import Derived.Test.YthlnhphmbjkjkaaTexts
namespace Go.Proofs.Ythlnhphmbjkjkaa
end Go.Proofs.Ythlnhphmbjkjkaa
