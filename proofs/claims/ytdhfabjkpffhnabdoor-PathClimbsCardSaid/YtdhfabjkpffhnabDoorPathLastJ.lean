/- Layer 15's laws, whatever they are given. -/
import Derived.Test.YtdhfabjkpffhnabDoorLeafAllJ
import Derived.Test.YtdhfabjkpffhnabDoorKC
import Derived.Test.YtdhfabjkpffhnabDoorKD
import Derived.Test.YtdhfabjkpffhnabDoorPathProvesJ
import Derived.Test.YtdhfabjkpffhnabDoorPathClimbsJ
import Derived.Test.YtdhfabjkpffhnabDoorKE
namespace Go.Proofs.YtdhfabjkpffhnabDoor
set_option maxRecDepth 20000
open Go.ChangeShapes Go.WideShapes Go.ChangeAt Go.RowKit ShaMath LeafMath PathMath

theorem int_u64n {n : Int} (h : (Lit.int .u64 n).wf = true) : ∃ k : Nat, n = k ∧ k < 18446744073709551616 := by
  have := bounds_u64 h
  exact ⟨n.toNat, by omega, by omega⟩

theorem pathProves_all (W : World) (t : Tabs W ∧ Consts W) (n : Int) (wn : (Lit.int .i64 n).wf = true) (hs : List Hs) (v : Value) (hv : Hss W v hs) (_ : hs.length ≤ 4398046510976) (i : Int) (wi : (Lit.int .i64 i).wf = true) (m : Int) (wm : (Lit.int .i64 m).wf = true) :
    Calls Tryd.prog 3 #[.int .i64 n, v, .int .i64 i, .int .i64 m] W fun e w' => e = .returned (.bool true) ∧ Below W.heap.size W w' :=
  pathProves_walk pathProg leafProg n (int_i64 wn) hs v i m (int_i64 wi) (int_i64 wm) W hv t.1 t.2

theorem pathClimbs_all (W : World) (t : Tabs W ∧ Consts W) (n : Int) (wn : (Lit.int .i64 n).wf = true) (h : Hs) (hh : h.length = 32) (i : Int) (wi : (Lit.int .u64 i).wf = true) (m : Int) (wm : (Lit.int .u64 m).wf = true) (ps : List Hs) (v : Value) (hv : Hss W v ps) (_ : ps.length ≤ 4398046510976) :
    Calls Tryd.prog 4 #[.int .i64 n, .agg (bs h), .int .u64 i, .int .u64 m, v] W fun e w' => e = .returned (.bool true) ∧ Below W.heap.size W w' := by
  obtain ⟨i, rfl, hi⟩ := int_u64n wi
  obtain ⟨m, rfl, hm⟩ := int_u64n wm
  exact pathClimbs_walk pathProg leafProg n (int_i64 wn) h hh i m hi hm ps v W hv t.1 t.2

theorem pathPasses_all (W : World) (t : Tabs W) (n : Int) (wn : (Lit.int .i64 n).wf = true) (hs : List Hs) (v : Value) (hv : Hss W v hs) (_ : hs.length ≤ 4398046510976) :
    Calls Tryd.prog 5 #[.int .i64 n, v] W fun e w' => e = .returned (.bool true) ∧ Below W.heap.size W w' :=
  pathPasses_walk pathProg leafProg n (int_i64 wn) hs v W hv t

theorem pathLengths_all (W : World) (t : Tabs W) (n : Int) (wn : (Lit.int .i64 n).wf = true) (hs : List Hs) (v : Value) (hv : Hss W v hs) (_ : hs.length ≤ 4398046510976) (i : Int) (_ : (Lit.int .i64 i).wf = true) (mo : Hs) (hmo : mo.length = 32) (k : Int) (wk : (Lit.int .u8 k).wf = true) :
    Calls Tryd.prog 6 #[.int .i64 n, v, .int .i64 i, .agg (bs mo), .int .u8 k] W fun e w' => e = .returned (.bool true) ∧ Below W.heap.size W w' := by
  obtain ⟨k, rfl, hk⟩ := int_u8 wk
  exact pathLengths_walk pathProg leafProg n (int_i64 wn) hs v i mo hmo k hk W hv t

theorem pathSteps_all (W : World) (t : Tabs W) (n : Int) (wn : (Lit.int .i64 n).wf = true) (h : Hs) (hh : h.length = 32) (i : Int) (wi : (Lit.int .u64 i).wf = true) (m : Int) (wm : (Lit.int .u64 m).wf = true) (ps : List Hs) (v : Value) (hv : Hss W v ps) (hl : ps.length ≤ 4398046510976) :
    Calls Tryd.prog 7 #[.int .i64 n, .agg (bs h), .int .u64 i, .int .u64 m, v] W fun e w' => e = .returned (.bool true) ∧ Below W.heap.size W w' := by
  obtain ⟨i, rfl, hi⟩ := int_u64n wi
  obtain ⟨m, rfl, hm⟩ := int_u64n wm
  exact pathSteps_walk pathProg leafProg n (int_i64 wn) h hh i m hi hm ps v W hv (by omega) t
end Go.Proofs.YtdhfabjkpffhnabDoor

