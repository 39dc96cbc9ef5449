/- The program's functions of layer 14 answer what they are to answer. -/
import Derived.Test.YtbabpbdenebagaaDoorLeafSpec
import Derived.Test.YtbabpbdenebagaaDoorLeafRoot
namespace Go.Proofs.YtbabpbdenebagaaDoor
set_option maxRecDepth 20000
open Go.RowKit ShaMath LeafMath Reg

theorem leafProg : LeafProg where
  empty n w hn ht := empty_any n w hn ht
  leaf n l v w hn hv hs hl ht := by
    obtain ⟨a, len, cap, rfl, hc⟩ := hs
    exact leaf_any n l a len cap w hn hv hc hl ht
  node n l r w hn hl hr ht := node_any n l r w hn hl hr ht
  root n hs v w hn hv hl ht := root_any n hn hs.length hs v w rfl hv (by omega) ht
end Go.Proofs.YtbabpbdenebagaaDoor
