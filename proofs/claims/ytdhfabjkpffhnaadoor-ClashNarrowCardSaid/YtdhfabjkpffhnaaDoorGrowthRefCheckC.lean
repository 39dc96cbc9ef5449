/- Layer 16's reference: Check. -/
import Derived.Test.YtdhfabjkpffhnaaDoorGCI
import Derived.Test.YtdhfabjkpffhnaaDoorSkipC
namespace Go.Proofs.YtdhfabjkpffhnaaDoor
set_option maxRecDepth 20000
open Go.RowKit ShaMath LeafMath PathMath GrowthMath Reg

/-- Two hashes in blocks of the call's own. -/
def ChW (w : World) (h r : Hs) (W : World) : Prop := Blk W w.heap.size 24 (bs h) ∧ Blk W (w.heap.size + 1) 24 (bs r) ∧ Below w.heap.size w W
theorem ChW.new (w : World) (h r : Hs) : ChW w h r ((w.alloc (.cells (bs h) 24)).alloc (.cells (bs r) 24)) :=
  ⟨(Blk.new w _ _).alloc _, Blk.newAt _ _ _ _ _ (by simp) rfl, ((Below.refl _ _).alloc (Nat.le_refl _) _).alloc (by simp) _⟩
theorem ChW.keep {w W W' : World} {h r : Hs} (X : ChW w h r W) (hb : Below W.heap.size W W') : ChW w h r W' := ⟨X.1.keep hb, X.2.1.keep hb, X.2.2.trans (hb.mono X.2.2.size)⟩

end Go.Proofs.YtdhfabjkpffhnaaDoor

