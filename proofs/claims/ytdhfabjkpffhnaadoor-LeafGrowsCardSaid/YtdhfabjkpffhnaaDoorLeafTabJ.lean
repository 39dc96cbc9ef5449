/- The tables that layer 14's rows list: what they give a walk, and a world that holds them. -/
import Derived.Test.YtdhfabjkpffhnaaDoorShaTabJ
import Derived.Test.YtdhfabjkpffhnaaDoorJP
namespace Go.Proofs.YtdhfabjkpffhnaaDoor
set_option maxRecDepth 20000
open Go.ChangeShapes Go.WideShapes Go.ChangeAt Go.RowKit ShaMath

def bruZ : List Int := [0, 1, 56, 2, 57, 49, 28, 3, 61, 58, 42, 50, 38, 29, 17, 4, 62, 47, 59, 36, 45, 43, 51, 22, 53, 39, 33, 30, 24, 18, 12, 5, 63, 55, 48, 27, 60, 41, 37, 16, 46, 35, 44, 21, 52, 32, 23, 11, 54, 26, 40, 15, 34, 20, 31, 10, 25, 14, 19, 9, 13, 8, 7, 6]
theorem bruZ_at (j : Nat) (h : j < 64) : bruZ.getD j 0 = (Lib.deBruijn64tab.getD j 0 : Nat) := by
  have : ∀ j : Fin 64, bruZ.getD j.val 0 = (Lib.deBruijn64tab.getD j.val 0 : Nat) := by decide +kernel
  exact this ⟨j, h⟩
theorem gBru : Tryd.prog.globalNamed "math/bits.deBruijn64tab" = some 0 := by kernel_rfl
theorem tBru : (Tryd.prog.globals[0]?).map (·.type) = some 94 := by kernel_rfl
theorem cellsB64 : Tryd.prog.cellsOf 94 = 64 := by kernel_rfl
theorem cellsU8 : Tryd.prog.cellsOf 5 = 1 := by kernel_rfl
theorem bru_of {W : World} (h : Lib.TabIs Tryd.prog W "math/bits.deBruijn64tab" .u8 bruZ) : Bru W := fun j hj => by
  rw [← bruZ_at j hj]
  exact h.cell gBru j hj

theorem tabsB_of {W : World} (h : laidMetH Tryd.prog [("math/bits.deBruijn64tab", Rows.laid_math_bits_deBruijn64tab), ("tabellion/sha.start", Rows.laid_tabellion_sha_start), ("tabellion/sha.roots", Rows.laid_tabellion_sha_roots)] W) : Tabs W ∧ Bru W := by
  have h' : laidMet Tryd.prog [("math/bits.deBruijn64tab", Lib.tabData .u8 bruZ), ("tabellion/sha.start", Lib.tabData .u32 startZ), ("tabellion/sha.roots", Lib.tabData .u32 rootsZ)] W := h
  obtain ⟨ps, h0, _⟩ := h'
  obtain ⟨h5, q1, h6⟩ := laid_both gBru tBru Tryd.underlying94 Tryd.underlying5 cellsU8 cellsB64 h0
  obtain ⟨h1, q, h2⟩ := laid_both gStart tStart Tryd.underlying93 Tryd.underlying92 cellsU32 cells8 h6
  obtain ⟨h3, _⟩ := laid_both gRoots tRoots Tryd.underlying124 Tryd.underlying92 cellsU32 cells64 h2
  exact ⟨⟨roots_of h3, starts_of h1⟩, bru_of h5⟩

theorem tabsB3_of {W : World} (h : laidMetH Tryd.prog [("math/bits.deBruijn64tab", Rows.laid_math_bits_deBruijn64tab), ("tabellion/sha.start", Rows.laid_tabellion_sha_start), ("tabellion/sha.roots", Rows.laid_tabellion_sha_roots), ("tabellion/tabellionref03.constants", Rows.laid_tabellion_tabellionref03_constants)] W) : Tabs W ∧ Bru W ∧ Consts W := by
  have h' : laidMet Tryd.prog [("math/bits.deBruijn64tab", Lib.tabData .u8 bruZ), ("tabellion/sha.start", Lib.tabData .u32 startZ), ("tabellion/sha.roots", Lib.tabData .u32 rootsZ), ("tabellion/tabellionref03.constants", Lib.tabData .u32 rootsZ)] W := h
  obtain ⟨ps, h0, _⟩ := h'
  obtain ⟨h5, q1, h6⟩ := laid_both gBru tBru Tryd.underlying94 Tryd.underlying5 cellsU8 cellsB64 h0
  obtain ⟨h1, q, h2⟩ := laid_both gStart tStart Tryd.underlying93 Tryd.underlying92 cellsU32 cells8 h6
  obtain ⟨h3, q2, h4⟩ := laid_both gRoots tRoots Tryd.underlying124 Tryd.underlying92 cellsU32 cells64 h2
  obtain ⟨h7, _⟩ := laid_both gConsts tConsts Tryd.underlying124 Tryd.underlying92 cellsU32 cells64 h4
  exact ⟨⟨roots_of h3, starts_of h1⟩, bru_of h5, consts_of h7⟩

/-- A world that holds all four. -/
noncomputable def laidWorldB (os : Os) : World := { laidWorld os with heap := (laidWorld os).heap.modify 0 fun
      | .cells _ t frozen => .cells (bruZ.map fun z => Value.int .u8 z).toArray t frozen
      | o => o }
end Go.Proofs.YtdhfabjkpffhnaaDoor

