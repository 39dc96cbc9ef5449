/- Ranges: the reference's Same and Peak. -/
import Derived.Test.YtbnpgkhdhljjlaaDoorLeafRefRange
namespace Go.Proofs.YtbnpgkhdhljjlaaDoor
set_option maxRecDepth 20000
open Go.RowKit ShaMath LeafMath Reg

theorem size_rng (s : Nat) (v : Value) : (Tryd.prog.info? 31).map (·.size) = some (rngC s v).size := by kernel_rfl

/-- In the midst of Peak. -/
def PkW (w : World) (s : Nat) (v : Value) (W : World) : Prop := Blk W w.heap.size 31 (rngC s v) ∧ (∃ zs, Blk W (w.heap.size + 1) 25 zs ∧ zs.size = 32) ∧ Below w.heap.size w W
theorem PkW.keep {w W W' : World} {s : Nat} {v : Value} (h : PkW w s v W) (hb : Below W.heap.size W W') : PkW w s v W' := by
  obtain ⟨h1, ⟨zs, h2, h3⟩, h4⟩ := h
  exact ⟨h1.keep hb, ⟨zs, h2.keep hb, h3⟩, h4.trans (hb.mono h4.size)⟩
theorem PkW.new (w : World) (s : Nat) (v : Value) : PkW w s v ((w.alloc (.cells (rngC s v) 31)).alloc (.cells (bs (List.replicate 32 0)) 25)) :=
  ⟨(Blk.new w _ _).alloc _, ⟨_, Blk.newAt _ _ _ _ _ (by simp) rfl, rfl⟩, ((Below.refl _ _).alloc (Nat.le_refl _) _).alloc (by simp) _⟩
theorem PkW.lt {w W : World} {s : Nat} {v : Value} (h : PkW w s v W) : w.heap.size + 2 ≤ W.heap.size := by
  obtain ⟨h1, ⟨zs, h2, h3⟩, h4⟩ := h
  exact h2.lt
/-- A block behind them is written. -/
theorem PkW.row {w W : World} {s : Nat} {v : Value} (h : PkW w s v W) (g : Nat) (cs : Array Value) (hg : w.heap.size + 2 ≤ g) : PkW w s v (W.setRow g cs) := by
  obtain ⟨h1, ⟨zs, h2, h3⟩, h4⟩ := h
  exact ⟨h1.rowOther _ (by omega), ⟨zs, h2.rowOther _ (by omega), h3⟩, below_setRow h4 _ _ (by omega)⟩

/-- What Peak answers. -/
def peakR (n : Int) (s : Nat) (ps : List Hs) : Hs × Nat := if ps.length = ones s then (peakF n ps, 0) else (List.replicate 32 0, 1)

theorem load_hl (W : World) (p : Addr) (v : Value) (h : W.cell? p = some v) : (Instr.loadAt 22 (.pointer (some p))).run Tryd.prog W = .ok v W := by
  have hagg : (isAgg 22).run Tryd.prog W = .ok false W := by kernel_rfl
  simp [Instr.loadAt, Instr.sureAddr, loadVar, Sem.run_bind, hagg, h]

theorem fold_32 (n : Int) (ps : List Hs) (x : Hs) (hx : x.length = 32) : (ps.foldr (nodeH n) x).length = 32 := by
  cases ps with
  | nil => exact hx
  | cons p ps => exact nodeH_length _ _ _

/-- The fold, from the right. -/
theorem fold_step (n : Int) (ps : List Hs) (x p : Hs) (i : Nat) (h : ps[i]? = some p) : (ps.drop i).foldr (nodeH n) x = nodeH n p ((ps.drop (i + 1)).foldr (nodeH n) x) := by
  obtain ⟨h1, rfl⟩ := List.getElem?_eq_some_iff.1 h
  rw [List.drop_eq_getElem_cons h1]
  rfl

def PeakAt (n : Int) (w : World) (s : Nat) (v : Value) (qs : List Hs) (x : Hs) (g : Nat) (s8 : Value) (wr : World) : Prop :=
  ∃ (i : Nat) (z : Int) (cs : Array Value), i ≤ qs.length ∧ z = (i : Int) - 1 ∧ s8 = .int .i64 z ∧ cs = bs ((qs.drop i).foldr (nodeH n) x) ∧ Blk wr g 25 cs ∧ PkW w s v wr

end Go.Proofs.YtbnpgkhdhljjlaaDoor
