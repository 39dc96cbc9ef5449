/- Layer 19's last law, walked, over what net's functions are shown to answer. -/
import Derived.Test.YtgbhfolbkgibfaaLBA
import Derived.Test.YtgbhfolbkgibfaaNetPlaysL
import Derived.Test.YtgbhfolbkgibfaaLAB
namespace Go.Proofs.Ytgbhfolbkgibfaa
open Go.RowKit BinMath NetMath
open MsgMath (Mg)

theorem netPlays_all (hp : NetProg) (w : World) (v : Value) (L : List NOp) (hv : InRow 17 NOp.cells w v L) (ho : ∀ o ∈ L, o.Ok) (hm : ∀ o ∈ L, o.x.Has w ∧ o.x.Fits) :
    Calls Try.prog 3 #[v] w fun e w' => e = .returned (.bool true) ∧ Below w.heap.size w w' := netPlays_walk hp v L w hv ho hm
end Go.Proofs.Ytgbhfolbkgibfaa

