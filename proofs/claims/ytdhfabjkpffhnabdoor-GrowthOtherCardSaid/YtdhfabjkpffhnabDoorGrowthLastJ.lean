/- Layer 16's laws, whatever they are given. -/
import Derived.Test.YtdhfabjkpffhnabDoorLeafAllJ
import Derived.Test.YtdhfabjkpffhnabDoorKC
import Derived.Test.YtdhfabjkpffhnabDoorKP
import Derived.Test.YtdhfabjkpffhnabDoorGrowthClimbsJ
import Derived.Test.YtdhfabjkpffhnabDoorKQ
namespace Go.Proofs.YtdhfabjkpffhnabDoor
set_option maxRecDepth 20000
open Go.ChangeShapes Go.WideShapes Go.ChangeAt Go.RowKit ShaMath LeafMath PathMath GrowthMath

theorem int_u64n16 {n : Int} (h : (Lit.int .u64 n).wf = true) : ∃ k : Nat, n = k ∧ k < 18446744073709551616 := by
  have := bounds_u64 h
  exact ⟨n.toNat, by omega, by omega⟩

theorem growthProves_all (W : World) (t : Tabs W ∧ Consts W) (n : Int) (wn : (Lit.int .i64 n).wf = true) (hs : List Hs) (v : Value) (hv : Hss W v hs) (_ : hs.length ≤ 4398046510976) (i : Int) (wi : (Lit.int .i64 i).wf = true) (m : Int) (wm : (Lit.int .i64 m).wf = true) :
    Calls Tryd.prog 8 #[.int .i64 n, v, .int .i64 i, .int .i64 m] W fun e w' => e = .returned (.bool true) ∧ Below W.heap.size W w' :=
  growthProves_walk growthProg leafProg n (int_i64 wn) hs v i m (int_i64 wi) (int_i64 wm) W hv t.1 t.2

theorem growthClimbs_all (W : World) (t : Tabs W ∧ Consts W) (n : Int) (wn : (Lit.int .i64 n).wf = true) (i : Int) (wi : (Lit.int .u64 i).wf = true) (m : Int) (wm : (Lit.int .u64 m).wf = true) (h : Hs) (hh : h.length = 32) (r : Hs) (hr : r.length = 32) (ps : List Hs) (v : Value) (hv : Hss W v ps) (_ : ps.length ≤ 4398046510976) :
    Calls Tryd.prog 9 #[.int .i64 n, .int .u64 i, .int .u64 m, .agg (bs h), .agg (bs r), v] W fun e w' => e = .returned (.bool true) ∧ Below W.heap.size W w' := by
  obtain ⟨i, rfl, hi⟩ := int_u64n16 wi
  obtain ⟨m, rfl, hm⟩ := int_u64n16 wm
  exact growthClimbs_walk growthProg leafProg n (int_i64 wn) i m h r ps v W hi hm hh hr hv t.1 t.2

theorem growthPasses_all (W : World) (t : Tabs W) (n : Int) (wn : (Lit.int .i64 n).wf = true) (hs : List Hs) (v : Value) (hv : Hss W v hs) (_ : hs.length ≤ 4398046510976) :
    Calls Tryd.prog 10 #[.int .i64 n, v] W fun e w' => e = .returned (.bool true) ∧ Below W.heap.size W w' :=
  growthPasses_walk growthProg leafProg n (int_i64 wn) hs v W hv t

theorem growthOther_all (W : World) (t : Tabs W) (n : Int) (wn : (Lit.int .i64 n).wf = true) (hs : List Hs) (v : Value) (hv : Hss W v hs) (_ : hs.length ≤ 4398046510976) (i : Int) (_ : (Lit.int .i64 i).wf = true) (x : Hs) (hx : x.length = 32) :
    Calls Tryd.prog 11 #[.int .i64 n, v, .int .i64 i, .agg (bs x)] W fun e w' => e = .returned (.bool true) ∧ Below W.heap.size W w' :=
  growthOther_walk growthProg leafProg n (int_i64 wn) hs v i x hx W hv t

theorem growthLengths_all (W : World) (t : Tabs W) (n : Int) (wn : (Lit.int .i64 n).wf = true) (hs : List Hs) (v : Value) (hv : Hss W v hs) (_ : hs.length ≤ 4398046510976) (i : Int) (_ : (Lit.int .i64 i).wf = true) (x : Hs) (hx : x.length = 32) :
    Calls Tryd.prog 12 #[.int .i64 n, v, .int .i64 i, .agg (bs x)] W fun e w' => e = .returned (.bool true) ∧ Below W.heap.size W w' :=
  growthLengths_walk growthProg leafProg n (int_i64 wn) hs v i x hx W hv t
end Go.Proofs.YtdhfabjkpffhnabDoor

