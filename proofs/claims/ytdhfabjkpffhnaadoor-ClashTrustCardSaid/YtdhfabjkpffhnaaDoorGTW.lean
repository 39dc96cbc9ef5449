/- Joined: ClashRefPath, ClashRefGrow. -/
import Derived.Test.YtdhfabjkpffhnaaDoorGTZ
import Derived.Test.YtdhfabjkpffhnaaDoorGTA
import Derived.Test.YtdhfabjkpffhnaaDoorGTI
import Derived.Test.YtdhfabjkpffhnaaDoorSkipT
/- Layer 17's reference: Path. -/
namespace Go.Proofs.YtdhfabjkpffhnaaDoor
set_option maxRecDepth 20000
open Go.RowKit ShaMath LeafMath PathMath ClashMath Reg

/-- A result's block, and a hash in a block of the call's own. -/
def PaW (w : World) (g : Nat) (h : Hs) (W : World) : Prop := Blk W w.heap.size 51 (prC none 0 0 none 0 0) ∧ Blk W g 24 (bs h) ∧ w.heap.size + 1 ≤ g ∧ Below w.heap.size w W
theorem PaW.keep {w W W' : World} {g : Nat} {h : Hs} (H : PaW w g h W) (hb : Below W.heap.size W W') : PaW w g h W' := ⟨H.1.keep hb, H.2.1.keep hb, H.2.2.1, H.2.2.2.trans (hb.mono H.2.2.2.size)⟩

theorem txs_indexU (W : World) (ad : Addr) (n c i : Nat) (hi : i < n) : (Instr.indexAt 48 (.slice (some ad) n c) (.int .u64 (i : Int))).run Tryd.prog W = .ok (.pointer (some (ad.add i))) W := by
  have ht : Tryd.prog.underlying 48 = some (.slice (Tryd.prog.elem 48)) := by rw [elem_txs]; exact Tryd.underlying48
  rw [run_indexAt_slice (h := ht), if_pos (by omega), elem_txs, size_txt]
  simp [Result.andThen]
theorem neq_hash_ne (s t : Operand) (X Y : List UInt8) (hX : X.length = 32) (hY : Y.length = 32) (h : X ≠ Y) (W : World) : (do eqGuard .neq 24 s t (.agg (bs X)) (.agg (bs Y)); binOp .neq 24 (.agg (bs X)) (.agg (bs Y)) : Sem Value).run Tryd.prog W = .ok (.bool true) W := by
  rw [neq_hash2 s t X Y hX hY W, show (X == Y) = false from beq_false_of_ne h]
  rfl

end Go.Proofs.YtdhfabjkpffhnaaDoor

/- Layer 17's reference: Growth. -/
namespace Go.Proofs.YtdhfabjkpffhnaaDoor
set_option maxRecDepth 20000
open Go.RowKit ShaMath LeafMath PathMath GrowthMath ClashMath Reg

/-- A hash in a block of the call's own, and a result's block. -/
def PgW (w : World) (h : Hs) (W : World) : Prop := Blk W w.heap.size 24 (bs h) ∧ Blk W (w.heap.size + 1) 51 (prC none 0 0 none 0 0) ∧ Below w.heap.size w W
theorem PgW.new (w : World) (h : Hs) : PgW w h ((w.alloc (.cells (bs h) 24)).alloc (.cells (prC none 0 0 none 0 0) 51)) :=
  ⟨(Blk.new w _ _).alloc _, Blk.newAt _ _ _ _ _ (by simp) rfl, ((Below.refl _ _).alloc (Nat.le_refl _) _).alloc (by simp) _⟩
theorem PgW.keep {w W W' : World} {h : Hs} (H : PgW w h W) (hb : Below W.heap.size W W') : PgW w h W' := ⟨H.1.keep hb, H.2.1.keep hb, H.2.2.trans (hb.mono H.2.2.size)⟩

/-- Tell the world by facts, in the midst of a region. -/
theorem world_cutL {P : Program} {ops : Array Oper} {rest : List Oper} {Q : Exit → Act → World → Prop} {a : Act} {W : World} (φ : World → Prop) (h : φ W) (k : ∀ W', φ W' → wpList P ops Q rest a W') : wpList P ops Q rest a W := k W h

theorem PgW.lt {w W : World} {h : Hs} (H : PgW w h W) : w.heap.size + 2 ≤ W.heap.size := by
  have := H.2.1.lt
  omega
theorem PgW.row {w W : World} {h : Hs} (H : PgW w h W) (g : Nat) (cs : Array Value) (hg : w.heap.size + 2 ≤ g) : PgW w h (W.setRow g cs) := ⟨H.1.rowOther _ (by omega), H.2.1.rowOther _ (by omega), below_setRow H.2.2 _ _ (by omega)⟩
theorem PgW.two {w W : World} {h : Hs} (H : PgW w h W) (z1 z2 : Array Value) (C : Hs) (hz : z2.size = 32) :
    PgW w h (((W.alloc (.cells z1 24)).alloc (.cells z2 24)).setRow W.heap.size (bs C)) ∧ Blk (((W.alloc (.cells z1 24)).alloc (.cells z2 24)).setRow W.heap.size (bs C)) W.heap.size 24 (bs C) ∧ ∃ zs, Blk (((W.alloc (.cells z1 24)).alloc (.cells z2 24)).setRow W.heap.size (bs C)) (W.heap.size + 1) 24 zs ∧ zs.size = 32 :=
  ⟨H.keep (below_setRow (((Below.refl _ _).alloc (Nat.le_refl _) _).alloc (by simp) _) _ _ (Nat.le_refl _)), Blk.row ((Blk.new W _ _).alloc _) _, z2, Blk.rowOther (Blk.newAt _ _ _ _ _ (by simp) rfl) _ (by omega), hz⟩

end Go.Proofs.YtdhfabjkpffhnaaDoor

