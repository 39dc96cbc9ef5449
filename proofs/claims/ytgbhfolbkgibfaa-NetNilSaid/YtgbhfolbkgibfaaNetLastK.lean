/- Layer 19's laws, walked, over what net's functions are shown to answer. -/
import Derived.Test.YtgbhfolbkgibfaaKBB
import Derived.Test.YtgbhfolbkgibfaaNetWaysK
import Derived.Test.YtgbhfolbkgibfaaNetKeepsK
import Derived.Test.YtgbhfolbkgibfaaKAB
namespace Go.Proofs.Ytgbhfolbkgibfaa
open Go.RowKit BinMath NetMath
open MsgMath (Mg)

theorem netNil_all (hp : NetProg) (w : World) (m : Mg) (ve vm vg : Value) (us : List EE) (hm : MHas w m ve vm vg us) (i : Int) (_ : (Lit.int .i64 i).wf = true) (x : Int) (wx : (Lit.int .u64 x).wf = true) (y : Int) (wy : (Lit.int .u64 y).wf = true) :
    Calls Try.prog 6 #[.agg (mgC m ve vm vg), .int .i64 i, .int .u64 x, .int .u64 y] w fun e w' => e = .returned (.bool true) ∧ Below w.heap.size w w' := by
  obtain ⟨x', rfl, -⟩ := u64_nat x wx
  obtain ⟨y', rfl, -⟩ := u64_nat y wy
  exact netNil_walk hp m ve vm vg us i x' y' w hm

theorem netWays_all (hp : NetProg) (w : World) (v : Value) (L : List NOp) (hv : InRow 17 NOp.cells w v L) (ho : ∀ o ∈ L, o.Ok) (_ : ∀ o ∈ L, o.x.Has w ∧ o.x.Fits) :
    Calls Try.prog 5 #[v] w fun e w' => e = .returned (.bool true) ∧ Below w.heap.size w w' := netWays_walk hp v L w hv ho

theorem netKeeps_all (hp : NetProg) (w : World) (v : Value) (L : List MM) (hv : InRow 12 MM.cells w v L) (hm : ∀ o ∈ L, o.Has w ∧ o.Fits) (pa : Option Addr) (pl pc : Nat) (zs : List Int) (hz : IsRow .i64 w pa pl pc zs) (_ : pc * 8 ≤ 140737488351232) :
    Calls Try.prog 4 #[v, .slice pa pl pc] w fun e w' => e = .returned (.bool true) ∧ Below w.heap.size w w' := netKeeps_walk hp v L w hv (fun o ho => (hm o ho).1) pa pl pc zs hz
end Go.Proofs.Ytgbhfolbkgibfaa

