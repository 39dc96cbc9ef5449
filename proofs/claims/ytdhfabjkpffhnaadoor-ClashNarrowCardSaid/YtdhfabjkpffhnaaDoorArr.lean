/- Arrays in memory of a call's own: words and bytes; how a walk reads, writes and loads them whole; a walk's world told by what holds of it. -/
import Derived.Test.YtdhfabjkpffhnaaDoorShaNum
import Derived.Test.YtdhfabjkpffhnaaDoorBlk
namespace Go.Proofs.YtdhfabjkpffhnaaDoor
set_option maxRecDepth 20000
open Go.RowKit ShaMath

/-- Words, bytes as cells. -/
def us (L : List (BitVec 32)) : Array Value := (L.map ru).toArray
def bs (l : List UInt8) : Array Value := (l.map bv).toArray
theorem us_size (L : List (BitVec 32)) : (us L).size = L.length := by simp [us]
theorem bs_size (l : List UInt8) : (bs l).size = l.length := by simp [bs]
theorem us_at (L : List (BitVec 32)) (i : Nat) (h : i < L.length) : (us L)[i]? = some (ru (at0 L i)) := by simp [us, at0, h, List.getD]
theorem bs_at (l : List UInt8) (i : Nat) (h : i < l.length) : (bs l)[i]? = some (bv (l.getD i 0)) := by simp [bs, h, List.getD]
theorem us_set (L : List (BitVec 32)) (i : Nat) (v : BitVec 32) : (us L).setIfInBounds i (ru v) = us (L.set i v) := by
  apply Array.toList_inj.1
  simp [us, List.map_set]
theorem bs_set (l : List UInt8) (i : Nat) (v : UInt8) : (bs l).setIfInBounds i (bv v) = bs (l.set i v) := by
  apply Array.toList_inj.1
  simp [bs, List.map_set]
theorem us_one (L : List (BitVec 32)) : (us L).all (·.oneCell') = true := by
  rw [Array.all_eq_true_iff_forall_mem]
  intro u hu
  simp only [us, List.mem_toArray, List.mem_map] at hu
  obtain ⟨c, _, rfl⟩ := hu
  simp [ru, Value.oneCell']
theorem bs_one (l : List UInt8) : (bs l).all (·.oneCell') = true := by
  rw [Array.all_eq_true_iff_forall_mem]
  intro u hu
  simp only [bs, List.mem_toArray, List.mem_map] at hu
  obtain ⟨c, _, rfl⟩ := hu
  simp [bv, Value.oneCell']

/-- 'x[i]' of an array that is a value. -/
theorem index_bytes {P : Program} (W : World) (t e : TypeId) (n : Nat) (l : List UInt8) (i : Nat) (ht : P.underlying t = some (.array n e)) (he : P.underlying e = some (.int .u8)) (hs : (P.info? e).map (·.size) = some 1) (hi : i < l.length) (hn : i < n) :
    (Instr.index t (.agg (bs l)) (.int .i64 (i : Int))).run P W = .ok (bv (l.getD i 0)) W := by
  have h1 : (Go.sizeOf e).run P W = .ok 1 W := by
    cases hq : P.info? e with
    | none => simp [hq] at hs
    | some d => simp [hq] at hs; simp [Go.sizeOf, typeInfo, hq, hs]
  have h2 : (isAgg e).run P W = .ok false W := by
    unfold isAgg
    rw [Sem.run_bind, run_underlying he W]
    rfl
  have h3 : (0 : Int) ≤ (i : Int) ∧ (i : Int) < (n : Int) := by omega
  simp only [Instr.index, asIntOf, Sem.run_bind, Sem.run_pure, Result.andThen_ok, run_underlying ht W, h3, and_self, if_true, h1]
  unfold part
  rw [Sem.run_bind, h2]
  simp [Result.andThen, bs_at l i hi]

theorem us_mem_one {L : List (BitVec 32)} : ∀ v ∈ L.map ru, v.oneCell' = true := by
  intro v hv
  obtain ⟨c, _, rfl⟩ := List.mem_map.1 hv
  simp [ru, Value.oneCell']

end Go.Proofs.YtdhfabjkpffhnaaDoor
