/- What the program's functions of layer 14 are to answer; the fixed answers that its laws begin with. -/
import Derived.Test.YtdhfabjkpffhnabDoorLeafPushKitJ
import Derived.Test.YtdhfabjkpffhnabDoorShaTabs
namespace Go.Proofs.YtdhfabjkpffhnabDoor
set_option maxRecDepth 20000
open Go.RowKit ShaMath LeafMath Reg

structure LeafProg : Prop where
  empty : ∀ (n : Int) (w : World), I64 n → Tabs w → Calls Tryd.prog 41 #[.int .i64 n] w fun e w' => e = .returned (.agg (bs (emptyH n))) ∧ Below w.heap.size w w'
  node : ∀ (n : Int) (l r : List UInt8) (w : World), I64 n → l.length = 32 → r.length = 32 → Tabs w →
    Calls Tryd.prog 23 #[.int .i64 n, .agg (bs l), .agg (bs r)] w fun e w' => e = .returned (.agg (bs (nodeH n l r))) ∧ Below w.heap.size w w'
  root : ∀ (n : Int) (hs : List Hs) (v : Value) (w : World), I64 n → Hss w v hs → hs.length ≤ 1000000 → Tabs w →
    Calls Tryd.prog 22 #[.int .i64 n, v] w fun e w' => e = .returned (.agg (bs (rootH n hs))) ∧ Below w.heap.size w w'

/-! ### The fixed answers -/

theorem index_hash (cs : Array Value) (i : Nat) (hi : i < 32) (v : Value) (h : cs[i]? = some v) (W : World) : (Instr.index 30 (.agg cs) (.int .i64 (i : Int))).run Tryd.prog W = .ok v W := by
  have hagg : (isAgg 5).run Tryd.prog W = .ok false W := by kernel_rfl
  simp [Instr.index, run_underlying Tryd.underlying30, asIntOf, Result.andThen, part, hagg, h]
  omega

theorem wpList_index_guarded {P : Program} {w : World} {ops : Array Oper} {rest : List Oper} {o : Oper} {a : Act} {Q : Exit → Act → World → Prop} (hgd : Region.wanted o (yielded ops a.tmps) = true) (ty : TypeId) (x y : Operand) (ho : o.op = .index ty x y)
    (p q v : Value) (hx : a.eval x = p) (hy : a.eval y = q) (hr : (Instr.index ty p q).run P w = .ok v w) (h : wpList P ops Q rest (a.put o.dst v) w) : wpList P ops Q (o :: rest) a w := by
  refine wpList_step fun K hK => ?_
  rw [if_pos hgd]
  unfold Oper.wp
  simp only [execOp, ho, hx, hy, Sem.run_bind, hr, Result.andThen_ok]
  exact hK _ _ h

theorem wake0 : (leafH 256 []).getD 0 0 = 110 ∧ (leafH 256 []).getD 1 0 = 52 := by decide +kernel
theorem wake1 : (emptyH 256).getD 0 0 = 227 := by decide +kernel
theorem wake2 (l r : Hs) : (nodeH 8 l r).getD 1 0 = 0 := by
  unfold nodeH hashW
  rw [narrowL_getD _ _ _ (by decide), show ShaMath.part 8 1 = 0 by decide +kernel, and_none]

theorem i256 : I64 256 := by unfold I64; omega
theorem i8 : I64 8 := by unfold I64; omega

end Go.Proofs.YtdhfabjkpffhnabDoor

