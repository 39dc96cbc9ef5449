/- Conversions in drawn regions; a hash stored in a row. -/
import Derived.Test.YtdhfabjkpffhnaaDoorLeafAskC
namespace Go.Proofs.YtdhfabjkpffhnaaDoor
set_option maxRecDepth 20000
open Go.RowKit ShaMath LeafMath Reg

theorem factsOf_ne {j : Tmp} {fj : Fact} {l : List (Tmp × Fact)} {a : Act} {k : Tmp} (h : k ≠ j) : factsOf ((j, fj) :: l) a k = factsOf l a k := by
  unfold factsOf
  rw [List.lookup_cons, show (k == j) = false by simpa using h]

section
variable {ops : Array Oper} {tab : List (List Nat)} {fin : List Tmp} {G : World → Prop} {f : Tmp → Fact} {i : Nat} {o : Oper}
theorem ask_conv_iu (hg : guardOk ops f o) (s : Operand) (z : Nat) (hz : z < 18446744073709551616) (ho : o.op = .convert 3 34 s) (hs : opFact f s = .is (.int .i64 (z : Int))) (hd : ∀ k, o.dst = some k → f k = .is (.int .u64 (z : Int))) : Asked Tryd.prog ops tab fin G f i o := by
  refine ask_val hg _ hd fun x W hW hk => ?_
  have e1 := evalBy_opVal hk s (by rw [ho]; simp [Op.operands]) hs
  have h64 : IntKind.u64.wrap (z : Int) = (z : Int) := by rw [IntKind.wrap_u64]; omega
  simp [execOp, ho, e1, go_sem, h64, Result.andThen]
end
end Go.Proofs.YtdhfabjkpffhnaaDoor

