/- Ranges: the reference's Same and Peak. -/
import Derived.Test.YtdhfabjkpffhnabDoorLeafRefRangeJ
namespace Go.Proofs.YtdhfabjkpffhnabDoor
set_option maxRecDepth 20000
open Go.RowKit ShaMath LeafMath Reg

/-- What Peak answers. -/
def peakR (n : Int) (s : Nat) (ps : List Hs) : Hs × Nat := if ps.length = ones s then (peakF n ps, 0) else (List.replicate 32 0, 1)

theorem load_hl (W : World) (p : Addr) (v : Value) (h : W.cell? p = some v) : (Instr.loadAt 22 (.pointer (some p))).run Tryd.prog W = .ok v W := by
  have hagg : (isAgg 22).run Tryd.prog W = .ok false W := by kernel_rfl
  simp [Instr.loadAt, Instr.sureAddr, loadVar, Sem.run_bind, hagg, h]

theorem fold_32 (n : Int) (ps : List Hs) (x : Hs) (hx : x.length = 32) : (ps.foldr (nodeH n) x).length = 32 := by
  cases ps with
  | nil => exact hx
  | cons p ps => exact nodeH_length _ _ _

/-- The fold, from the right. -/
theorem fold_step (n : Int) (ps : List Hs) (x p : Hs) (i : Nat) (h : ps[i]? = some p) : (ps.drop i).foldr (nodeH n) x = nodeH n p ((ps.drop (i + 1)).foldr (nodeH n) x) := by
  obtain ⟨h1, rfl⟩ := List.getElem?_eq_some_iff.1 h
  rw [List.drop_eq_getElem_cons h1]
  rfl

end Go.Proofs.YtdhfabjkpffhnabDoor

