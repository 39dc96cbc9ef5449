/- What the program's functions of layer 14 are to answer; the fixed answers that its laws begin with. -/
import Derived.Test.YtdhfabjkpffhnaaDoorGCN
import Derived.Test.YtdhfabjkpffhnaaDoorGCS
namespace Go.Proofs.YtdhfabjkpffhnaaDoor
set_option maxRecDepth 20000
open Go.RowKit ShaMath LeafMath Reg

structure LeafProg : Prop where
  empty : ∀ (n : Int) (w : World), I64 n → Tabs w → Calls Tryd.prog 15 #[.int .i64 n] w fun e w' => e = .returned (.agg (bs (emptyH n))) ∧ Below w.heap.size w w'
  node : ∀ (n : Int) (l r : List UInt8) (w : World), I64 n → l.length = 32 → r.length = 32 → Tabs w →
    Calls Tryd.prog 19 #[.int .i64 n, .agg (bs l), .agg (bs r)] w fun e w' => e = .returned (.agg (bs (nodeH n l r))) ∧ Below w.heap.size w w'
  root : ∀ (n : Int) (hs : List Hs) (v : Value) (w : World), I64 n → Hss w v hs → hs.length ≤ 1000000 → Tabs w →
    Calls Tryd.prog 21 #[.int .i64 n, v] w fun e w' => e = .returned (.agg (bs (rootH n hs))) ∧ Below w.heap.size w w'

/-- Leaves. -/
structure DataProg : Prop where
  leaf : ∀ (n : Int) (l : List UInt8) (v : Value) (w : World), I64 n → Bys w v l → (∃ a len cap, v = .slice a len cap ∧ len ≤ cap) → l.length ≤ 140737488352000 → Tabs w →
    Calls Tryd.prog 17 #[.int .i64 n, v] w fun e w' => e = .returned (.agg (bs (leafH n l))) ∧ Below w.heap.size w w'

/-! ### The fixed answers -/

theorem i8 : I64 8 := by unfold I64; omega

end Go.Proofs.YtdhfabjkpffhnaaDoor

