/- Parts of lists, ranges and variables in drawn regions. -/
import Derived.Test.YtdhfabjkpffhnaaDoorLeafRootsC
namespace Go.Proofs.YtdhfabjkpffhnaaDoor
set_option maxRecDepth 20000
open Go.RowKit ShaMath LeafMath Reg

theorem below_new (W : World) (zs cs : Array Value) (t : TypeId) : Below W.heap.size W ((W.alloc (.cells zs t)).setRow W.heap.size cs) := below_setRow ((Below.refl _ _).alloc (Nat.le_refl _) _) _ _ (Nat.le_refl _)

/-- A new variable. -/
def varF (B : Nat) (t : TypeId) (zs : Array Value) : Fact := .sat (fun v W => ∃ g, v = .pointer (some ⟨g, 0, none⟩) ∧ B ≤ g ∧ Blk W g t zs) fun _ _ _ ⟨g, h1, h2, h3⟩ hb => ⟨g, h1, h2, h3.keep hb⟩

section
variable {ops : Array Oper} {tab : List (List Nat)} {fin : List Tmp} {G : World → Prop} {f : Tmp → Fact} {i : Nat} {o : Oper}

end
section
variable {ops : Array Oper} {tab : List (List Nat)} {fin : List Tmp} {G : World → Prop} {f : Tmp → Fact} {i : Nat} {o : Oper}

end
end Go.Proofs.YtdhfabjkpffhnaaDoor

