/- The program's tables, as a walk holds them. -/
import Derived.Test.YtdhfabjkpffhnabDoorShaSum
namespace Go.Proofs.YtdhfabjkpffhnabDoor
set_option maxRecDepth 20000
open Go.RowKit ShaMath

/-- The program's tables. -/
def Tabs (w : World) : Prop := Roots w ∧ Starts w
theorem Tabs.below {w w' : World} {B : Nat} (h : Tabs w) (hB : w.heap.size ≤ B) (hb : Below B w w') : Tabs w' := ⟨h.1.below hB hb, h.2.below hB hb⟩
end Go.Proofs.YtdhfabjkpffhnabDoor
