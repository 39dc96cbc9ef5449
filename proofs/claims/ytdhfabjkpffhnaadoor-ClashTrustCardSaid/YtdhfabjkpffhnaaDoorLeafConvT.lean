/- Conversions in drawn regions; a hash stored in a row. -/
import Derived.Test.YtdhfabjkpffhnaaDoorLeafAskT
namespace Go.Proofs.YtdhfabjkpffhnaaDoor
set_option maxRecDepth 20000
open Go.RowKit ShaMath LeafMath Reg

theorem factsOf_ne {j : Tmp} {fj : Fact} {l : List (Tmp × Fact)} {a : Act} {k : Tmp} (h : k ≠ j) : factsOf ((j, fj) :: l) a k = factsOf l a k := by
  unfold factsOf
  rw [List.lookup_cons, show (k == j) = false by simpa using h]

section
variable {ops : Array Oper} {tab : List (List Nat)} {fin : List Tmp} {G : World → Prop} {f : Tmp → Fact} {i : Nat} {o : Oper}
end
end Go.Proofs.YtdhfabjkpffhnaaDoor

