/- Layer 16's reference: Check. -/
import Derived.Test.YtdhfabjkpffhnaaDoorGTI
import Derived.Test.YtdhfabjkpffhnaaDoorSkipT
namespace Go.Proofs.YtdhfabjkpffhnaaDoor
set_option maxRecDepth 20000
open Go.RowKit ShaMath LeafMath PathMath GrowthMath Reg

/-- What Check answers. -/
def checkGR (n : Int) (h : Hs) (m N : Nat) (r : Hs) (ps : List Hs) : Bool :=
  if N < m then false else if m = 0 then decide (ps.length = 0) && (h == emptyH n) && (decide (0 < N) || (r == h))
  else decide ((climbGR n h m N ps).2 = 0) && ((climbGR n h m N ps).1.1 == h) && ((climbGR n h m N ps).1.2 == r)

/-- Two hashes in blocks of the call's own. -/
def ChW (w : World) (h r : Hs) (W : World) : Prop := Blk W w.heap.size 24 (bs h) ∧ Blk W (w.heap.size + 1) 24 (bs r) ∧ Below w.heap.size w W
theorem ChW.new (w : World) (h r : Hs) : ChW w h r ((w.alloc (.cells (bs h) 24)).alloc (.cells (bs r) 24)) :=
  ⟨(Blk.new w _ _).alloc _, Blk.newAt _ _ _ _ _ (by simp) rfl, ((Below.refl _ _).alloc (Nat.le_refl _) _).alloc (by simp) _⟩
theorem ChW.keep {w W W' : World} {h r : Hs} (X : ChW w h r W) (hb : Below W.heap.size W W') : ChW w h r W' := ⟨X.1.keep hb, X.2.1.keep hb, X.2.2.trans (hb.mono X.2.2.size)⟩

end Go.Proofs.YtdhfabjkpffhnaaDoor

