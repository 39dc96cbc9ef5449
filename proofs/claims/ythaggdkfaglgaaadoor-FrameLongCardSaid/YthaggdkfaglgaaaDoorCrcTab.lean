/- The table that the rows list: what it gives a walk, and a world that holds it. -/
import Derived.Test.YthaggdkfaglgaaaDoorCards
import Derived.Test.YthaggdkfaglgaaaDoorTie
import Derived.Test.YthaggdkfaglgaaaDoorCrcMore
import Derived.WalkKit
import Derived.ProofKit
import Derived.OpenShut
import Derived.Deep.DeepHandedRow
import Derived.Lib.LaidTab
namespace Go.Proofs.YthaggdkfaglgaaaDoor
set_option maxRecDepth 20000
open Go.ChangeShapes Go.WideShapes Go.ChangeAt Go.RowKit CrcMath

theorem gTab : Tryd.prog.globalNamed "tabellion/crc.halves" = some 0 := by kernel_rfl
theorem gTabType : (Tryd.prog.globals[0]?).map (·.type) = some 70 := by kernel_rfl
theorem cellsTab : Tryd.prog.cellsOf 70 = 16 := by kernel_rfl
theorem cellsU32 : Tryd.prog.cellsOf 50 = 1 := by kernel_rfl

def halves : List Int := [0, 274646895, 549293790, 820201905, 1098587580, 1361435347, 1640403810, 1905808397, 2197175160, 2460548119, 2722870694, 2987750089, 3280807620, 3553878443, 3811616794, 4084100981]

theorem halves_T (j : Nat) (h : j < 16) : halves.getD j 0 = rv (T j) := by
  have : ∀ j : Fin 16, halves.getD j.val 0 = rv (T j.val) := by decide +kernel
  exact this ⟨j, h⟩

/-- What the rows' list gives. -/
theorem tab_of {W : World} (h : laidMetH Tryd.prog [("tabellion/crc.halves", Rows.laid_tabellion_crc_halves)] W) : Tab W := by
  have ht : Lib.TabIs Tryd.prog W "tabellion/crc.halves" .u32 halves := Lib.tabIs_of_head (rest := []) gTab gTabType Tryd.underlying70 Tryd.underlying50 cellsU32 cellsTab h
  intro j hj
  rw [← halves_T j hj]
  exact ht.cell gTab j hj

/-- A world that holds the table. -/
noncomputable def laidWorld (os : Os) : World :=
  { World.holding Tryd.prog os ⟨#[], #[], []⟩ with heap := (World.holding Tryd.prog os ⟨#[], #[], []⟩).heap.modify 0 fun
      | .cells _ t frozen => .cells (halves.map fun z => Value.int .u32 z).toArray t frozen
      | o => o }

end Go.Proofs.YthaggdkfaglgaaaDoor
