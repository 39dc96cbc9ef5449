/- LeafRoots: the walk. -/
import Derived.Test.YtdhfabjkpffhnabDoorLeafSpecJ
namespace Go.Proofs.YtdhfabjkpffhnabDoor
set_option maxRecDepth 20000
open Go.RowKit ShaMath LeafMath Reg

/-- append onto a literal that was just made. -/
theorem lit_below {w W1 W2 : World} {o : Obj} (hb : Below w.heap.size w W1) (hg : (W1.alloc o).grownBy W2 (Value.slice (some ⟨W1.heap.size, 0, none⟩) 0 0).ownBlock) : Below w.heap.size w W2 := by
  have hs := hb.size
  have h1 : Below w.heap.size w (W1.alloc o) := hb.alloc hs _
  refine h1.trans (((Below.refl w.heap.size _).grown hg (by simp; omega) fun k hk => ?_).mono (Nat.le_refl _))
  have e : W1.heap.size = k := by simpa [Value.ownBlock] using hk
  omega

end Go.Proofs.YtdhfabjkpffhnabDoor

