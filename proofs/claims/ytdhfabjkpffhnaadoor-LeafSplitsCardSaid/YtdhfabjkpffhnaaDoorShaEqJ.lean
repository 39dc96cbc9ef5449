/- Hashes held against each other. -/
import Derived.Test.YtdhfabjkpffhnaaDoorKS
import Derived.Test.YtdhfabjkpffhnaaDoorShaRefSumJ
import Derived.Stop.BytesEq
namespace Go.Proofs.YtdhfabjkpffhnaaDoor
set_option maxRecDepth 20000
open Go.RowKit ShaMath

theorem bs_cell (l : List UInt8) : bs l = (l.map Extern.Stop.cell).toArray := rfl
theorem size_u8 (w : World) : (Go.sizeOf 5).run Tryd.prog w = .ok 1 w := size_byte w

theorem eq_hash (W : World) (xs ys : List UInt8) (hx : xs.length = 32) (hy : ys.length = 32) : (Op.equalIn 10000 24 (.agg (bs xs)) (.agg (bs ys))).run Tryd.prog W = .ok (xs == ys) W :=
  run_equalIn_bytes W 9998 24 5 32 Tryd.underlying24 Tryd.underlying5 (fun w => size_byte w) xs ys hx hy
theorem eq_same (W : World) (xs : List UInt8) (hx : xs.length = 32) : (Op.equalIn 10000 24 (.agg (bs xs)) (.agg (bs xs))).run Tryd.prog W = .ok true W := by
  rw [eq_hash W xs xs hx hx]
  simp
theorem neq_hash (s t : Operand) (X : List UInt8) (hX : X.length = 32) (W : World) : (do eqGuard .neq 24 s t (.agg (bs X)) (.agg (bs X)); binOp .neq 24 (.agg (bs X)) (.agg (bs X)) : Sem Value).run Tryd.prog W = .ok (.bool false) W := by
  rw [Sem.run_bind, run_eqGuard_agg W .neq 24 s t _ _ (by kernel_rfl), Result.andThen_ok, run_neq_struct, eq_same W X hX]
  rfl
theorem eql_hash (s t : Operand) (X : List UInt8) (hX : X.length = 32) (W : World) : (do eqGuard .eql 24 s t (.agg (bs X)) (.agg (bs X)); binOp .eql 24 (.agg (bs X)) (.agg (bs X)) : Sem Value).run Tryd.prog W = .ok (.bool true) W := by
  rw [Sem.run_bind, run_eqGuard_agg W .eql 24 s t _ _ (by kernel_rfl), Result.andThen_ok, run_eql_struct, eq_same W X hX]
  rfl
end Go.Proofs.YtdhfabjkpffhnaaDoor

