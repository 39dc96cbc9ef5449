/- Joined: PathRefSize, PathRefUp, PathRefClimb, PathRefProve. -/
import Derived.Test.YtdhfabjkpffhnaaDoorPathMath
import Derived.Test.YtdhfabjkpffhnaaDoorGTM
/- Layer 15's reference: Split, Size. -/
namespace Go.Proofs.YtdhfabjkpffhnaaDoor
set_option maxRecDepth 20000
open Go.RowKit ShaMath LeafMath PathMath Reg

def natOf (v : Value) : Nat := match v with | .int _ z => z.toNat | _ => 0

theorem sizeP_64 (i n : Nat) (hn : n < 18446744073709551616) : sizeP i n ≤ 64 := sizeP_le 64 n i (by omega)

end Go.Proofs.YtdhfabjkpffhnaaDoor

/- Layer 15's reference: up, the climb by a proof of the right length. -/
namespace Go.Proofs.YtdhfabjkpffhnaaDoor
set_option maxRecDepth 20000
open Go.RowKit ShaMath LeafMath PathMath Reg

theorem sub_u64 (x y z : Int) (t : TypeId) (a b : Operand) (hz : x - y = z) (hb : 0 ≤ z ∧ z < 18446744073709551616) (W : World) : (do eqGuard .sub t a b (.int .u64 x) (.int .u64 y); binOp .sub t (.int .u64 x) (.int .u64 y) : Sem Value).run Tryd.prog W = .ok (.int .u64 z) W := by
  have h : IntKind.u64.wrap (x - y) = z := by
    rw [IntKind.wrap_u64]
    omega
  simp [eqGuard, binOp, go_sem, h]

theorem sliced_zero2 (a : Option Addr) (k c : Nat) : sliced a 0 k c 32 = .slice a k c := by
  unfold sliced
  have : a.map (fun x : Addr => x.add (0 * 32)) = a := by cases a <;> simp [Addr.add]
  rw [this]
  simp

/-- A hash in a block of the call's own, and a result's block. -/
def UpW (w : World) (h : Hs) (W : World) : Prop := Blk W w.heap.size 24 (bs h) ∧ (∃ zs, Blk W (w.heap.size + 1) 24 zs ∧ zs.size = 32) ∧ Below w.heap.size w W
theorem UpW.new (w : World) (h : Hs) : UpW w h ((w.alloc (.cells (bs h) 24)).alloc (.cells (bs (List.replicate 32 0)) 24)) :=
  ⟨(Blk.new w _ _).alloc _, ⟨_, Blk.newAt _ _ _ _ _ (by simp) rfl, rfl⟩, ((Below.refl _ _).alloc (Nat.le_refl _) _).alloc (by simp) _⟩
theorem UpW.keep {w W W' : World} {h : Hs} (H : UpW w h W) (hb : Below W.heap.size W W') : UpW w h W' := by
  obtain ⟨h1, ⟨zs, h2, h3⟩, h4⟩ := H
  exact ⟨h1.keep hb, ⟨zs, h2.keep hb, h3⟩, h4.trans (hb.mono h4.size)⟩

end Go.Proofs.YtdhfabjkpffhnaaDoor

/- Layer 15's reference: Climb. -/
namespace Go.Proofs.YtdhfabjkpffhnaaDoor
set_option maxRecDepth 20000
open Go.RowKit ShaMath LeafMath PathMath Reg

/-- What Climb answers. -/
def climbR (n : Int) (h : Hs) (i m : Nat) (ps : List Hs) : Hs × Nat :=
  if m ≤ i then (z32, 9) else if ps.length < sizeP i m then (z32, 2) else if sizeP i m < ps.length then (z32, 4) else (climbP n i m ps h, 0)

theorem climbR_32 (n : Int) (h : Hs) (i m : Nat) (ps : List Hs) (hh : h.length = 32) : (climbR n h i m ps).1.length = 32 := by
  unfold climbR
  split
  · rfl
  · split
    · rfl
    · split
      · rfl
      · exact climbP_length n i m ps h hh

end Go.Proofs.YtdhfabjkpffhnaaDoor

/- Layer 15's reference: Prove. -/
namespace Go.Proofs.YtdhfabjkpffhnaaDoor
set_option maxRecDepth 20000
open Go.RowKit ShaMath LeafMath PathMath Reg

theorem wpList_build_hash1 {w : World} {ops : Array Oper} {rest : List Oper} {o : Oper} {a : Act} {Q : Exit → Act → World → Prop} (hgd : o.guard = none) (s : Operand) (ho : o.op = .buildSlice 30 1 #[(0, s)])
    (cs : Array Value) (hx : a.eval s = .agg cs) (hc : cs.size = 32)
    (h : wpList Tryd.prog ops Q rest (a.put o.dst (.slice (some ⟨w.heap.size, 0, none⟩) 1 1)) (w.alloc (.cells cs 24))) : wpList Tryd.prog ops Q (o :: rest) a w := by
  refine wpList_plain hgd fun K hK => ?_
  unfold Oper.wp execOp
  simp only [ho, Sem.run_bind, List.map_toArray, List.map_cons, List.map_nil, hx, build_hash w cs hc, Result.andThen_ok]
  exact hK _ _ h

end Go.Proofs.YtdhfabjkpffhnaaDoor

