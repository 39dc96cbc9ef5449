/- Hashes held against each other. -/
import Derived.Test.YtbnnjnieemjdhaaDoorShaAwake
import Derived.Test.YtbnnjnieemjdhaaDoorShaRefSum
import Derived.Stop.BytesEq
namespace Go.Proofs.YtbnnjnieemjdhaaDoor
open Go.RowKit ShaMath

theorem bs_cell (l : List UInt8) : bs l = (l.map Extern.Stop.cell).toArray := rfl
theorem size_u8 (w : World) : (Go.sizeOf 5).run Tryd.prog w = .ok 1 w := size_byte w

theorem eq_hash (W : World) (xs ys : List UInt8) (hx : xs.length = 32) (hy : ys.length = 32) : (Op.equalIn 10000 25 (.agg (bs xs)) (.agg (bs ys))).run Tryd.prog W = .ok (xs == ys) W :=
  run_equalIn_bytes W 9998 25 5 32 Tryd.underlying25 Tryd.underlying5 (fun w => size_byte w) xs ys hx hy
theorem eq_same (W : World) (xs : List UInt8) (hx : xs.length = 32) : (Op.equalIn 10000 25 (.agg (bs xs)) (.agg (bs xs))).run Tryd.prog W = .ok true W := by
  rw [eq_hash W xs xs hx hx]
  simp
end Go.Proofs.YtbnnjnieemjdhaaDoor
