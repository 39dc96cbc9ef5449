/- PathProves: the walk. -/
import Derived.Test.YtnglgeaoakimpaaDoorPathSpecJ
import Derived.Test.YtnglgeaoakimpaaDoorLeafRootsJ
namespace Go.Proofs.YtnglgeaoakimpaaDoor
set_option maxRecDepth 20000
open Go.RowKit ShaMath LeafMath PathMath Reg

theorem proveR_64 (n : Int) (hs : List Hs) (i N : Int) (hl : hs.length ≤ 1000000) : (proveR n hs i N).1.length ≤ 64 := by
  unfold proveR
  split
  · simp
  · next h =>
    show (proveP n (hs.take N.toNat) i.toNat).length ≤ 64
    have ht : (hs.take N.toNat).length = N.toNat := by rw [List.length_take]; omega
    rw [proveP_length n N.toNat _ _ ht (by omega)]
    exact sizeP_64 _ _ (by omega)

end Go.Proofs.YtnglgeaoakimpaaDoor

