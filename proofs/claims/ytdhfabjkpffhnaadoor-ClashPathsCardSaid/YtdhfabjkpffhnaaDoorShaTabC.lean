/- The tables that the rows list: what they give a walk, and a world that holds them. -/
import Derived.Test.YtdhfabjkpffhnaaDoorCards
import Derived.Test.YtdhfabjkpffhnaaDoorTie
import Derived.Test.YtdhfabjkpffhnaaDoorGCS
import Derived.Test.YtdhfabjkpffhnaaDoorGCQ
import Derived.WalkKit
import Derived.ProofKit
import Derived.OpenShut
import Derived.Deep.DeepHandedRow
import Derived.Lib.LaidTab
namespace Go.Proofs.YtdhfabjkpffhnaaDoor
set_option maxRecDepth 20000
open Go.ChangeShapes Go.WideShapes Go.ChangeAt Go.RowKit ShaMath

theorem laid_both {P : Program} {W : World} {name : String} {k : IntKind} {zs : List Int} {rest : List (String × DataW Unit)} {ps : List MemPlace} {g : Nat} {t e : TypeId} {n : Nat}
    (hg : P.globalNamed name = some g) (hty : (P.globals[g]?).map (·.type) = some t) (ht : P.underlying t = some (.array n e)) (he : P.underlying e = some (.int k)) (hce : P.cellsOf e = 1) (hct : P.cellsOf t = n)
    (h : DataW.LaidVars P W ((name, Lib.tabData k zs) :: rest) ps) : Lib.TabIs P W name k zs ∧ ∃ q, DataW.LaidVars P W rest q := by
  obtain ⟨g', t', cs, fuel, p, q, hg', ht', hvar, hd, hr, _⟩ := h
  obtain rfl := Option.some.inj (hg.symm.trans hg')
  obtain rfl := Option.some.inj (hty.symm.trans ht')
  refine ⟨?_, q, hr⟩
  unfold Lib.TabIs
  rw [hvar, ← Lib.cells_of_tab ht he hce hct hd]

def startZ : List Int := [1779033703, 3144134277, 1013904242, 2773480762, 1359893119, 2600822924, 528734635, 1541459225]
def rootsZ : List Int := [1116352408, 1899447441, 3049323471, 3921009573, 961987163, 1508970993, 2453635748, 2870763221, 3624381080, 310598401, 607225278, 1426881987, 1925078388, 2162078206, 2614888103, 3248222580, 3835390401, 4022224774, 264347078, 604807628, 770255983, 1249150122, 1555081692, 1996064986, 2554220882, 2821834349, 2952996808, 3210313671, 3336571891, 3584528711, 113926993, 338241895, 666307205, 773529912, 1294757372, 1396182291, 1695183700, 1986661051, 2177026350, 2456956037, 2730485921, 2820302411, 3259730800, 3345764771, 3516065817, 3600352804, 4094571909, 275423344, 430227734, 506948616, 659060556, 883997877, 958139571, 1322822218, 1537002063, 1747873779, 1955562222, 2024104815, 2227730452, 2361852424, 2428436474, 2756734187, 3204031479, 3329325298]
theorem startZ_at (j : Nat) (h : j < 8) : startZ.getD j 0 = rv (at0 ShaMath.start.list j) := by
  have : ∀ j : Fin 8, startZ.getD j.val 0 = rv (at0 ShaMath.start.list j.val) := by decide +kernel
  exact this ⟨j, h⟩
theorem rootsZ_at (j : Nat) (h : j < 64) : rootsZ.getD j 0 = rv (at0 K j) := by
  have : ∀ j : Fin 64, rootsZ.getD j.val 0 = rv (at0 K j.val) := by decide +kernel
  exact this ⟨j, h⟩

theorem gStart : Tryd.prog.globalNamed "tabellion/sha.start" = some 3 := by kernel_rfl
theorem gRoots : Tryd.prog.globalNamed "tabellion/sha.roots" = some 2 := by kernel_rfl
theorem gConsts : Tryd.prog.globalNamed "tabellion/tabellionref03.constants" = some 1 := by kernel_rfl
theorem tStart : (Tryd.prog.globals[3]?).map (·.type) = some 93 := by kernel_rfl
theorem tRoots : (Tryd.prog.globals[2]?).map (·.type) = some 124 := by kernel_rfl
theorem tConsts : (Tryd.prog.globals[1]?).map (·.type) = some 124 := by kernel_rfl
theorem cells8 : Tryd.prog.cellsOf 93 = 8 := by kernel_rfl
theorem cells64 : Tryd.prog.cellsOf 124 = 64 := by kernel_rfl
theorem cellsU32 : Tryd.prog.cellsOf 92 = 1 := by kernel_rfl

theorem starts_of {W : World} (h : Lib.TabIs Tryd.prog W "tabellion/sha.start" .u32 startZ) : Starts W := fun j hj => by
  rw [ru, ← startZ_at j hj]
  exact h.cell gStart j hj
theorem roots_of {W : World} (h : Lib.TabIs Tryd.prog W "tabellion/sha.roots" .u32 rootsZ) : Roots W := fun j hj => by
  rw [ru, ← rootsZ_at j hj]
  exact h.cell gRoots j hj
theorem consts_of {W : World} (h : Lib.TabIs Tryd.prog W "tabellion/tabellionref03.constants" .u32 rootsZ) : Consts W := fun j hj => by
  rw [ru, ← rootsZ_at j hj]
  exact h.cell gConsts j hj

theorem tabs3_of {W : World} (h : laidMetH Tryd.prog [("tabellion/sha.start", Rows.laid_tabellion_sha_start), ("tabellion/sha.roots", Rows.laid_tabellion_sha_roots), ("tabellion/tabellionref03.constants", Rows.laid_tabellion_tabellionref03_constants)] W) : Tabs W ∧ Consts W := by
  have h' : laidMet Tryd.prog [("tabellion/sha.start", Lib.tabData .u32 startZ), ("tabellion/sha.roots", Lib.tabData .u32 rootsZ), ("tabellion/tabellionref03.constants", Lib.tabData .u32 rootsZ)] W := h
  obtain ⟨ps, h0, _⟩ := h'
  obtain ⟨h1, q, h2⟩ := laid_both gStart tStart Tryd.underlying93 Tryd.underlying92 cellsU32 cells8 h0
  obtain ⟨h3, q2, h4⟩ := laid_both gRoots tRoots Tryd.underlying124 Tryd.underlying92 cellsU32 cells64 h2
  obtain ⟨h5, _⟩ := laid_both gConsts tConsts Tryd.underlying124 Tryd.underlying92 cellsU32 cells64 h4
  exact ⟨⟨roots_of h3, starts_of h1⟩, consts_of h5⟩

def layAt (g : Nat) (zs : List Int) (w : World) : World := { w with heap := w.heap.modify g fun
      | .cells _ t frozen => .cells (zs.map fun z => Value.int .u32 z).toArray t frozen
      | o => o }

/-- A world that holds the tables. -/
noncomputable def laidWorld (os : Os) : World :=
  layAt 1 rootsZ (layAt 2 rootsZ (layAt 3 startZ (World.holding Tryd.prog os ⟨#[], #[], []⟩)))
end Go.Proofs.YtdhfabjkpffhnaaDoor

