/- Layer 17's laws, whatever they are given. -/
import Derived.Test.YtdhfabjkpffhnaaDoorLeafAllC
import Derived.Test.YtdhfabjkpffhnaaDoorTxsInC
import Derived.Test.YtdhfabjkpffhnaaDoorGCY
import Derived.Test.YtdhfabjkpffhnaaDoorGCU
namespace Go.Proofs.YtdhfabjkpffhnaaDoor
set_option maxRecDepth 20000
open Go.ChangeShapes Go.WideShapes Go.ChangeAt Go.RowKit ShaMath LeafMath PathMath GrowthMath ClashMath

theorem int_u64c {n : Int} (h : (Lit.int .u64 n).wf = true) : ∃ k : Nat, n = k ∧ k < 18446744073709551616 := by
  have := bounds_u64 h
  exact ⟨n.toNat, by omega, by omega⟩

theorem clashLists_all (W : World) (t : Tabs W ∧ Consts W) (n : Int) (wn : (Lit.int .i64 n).wf = true) (a : List Bs) (va : Value) (hva : Txs W va a) (hla : a.length ≤ 5864062014976) (b : List Bs) (vb : Value) (hvb : Txs W vb b) (hlb : b.length ≤ 5864062014976) :
    Calls Tryd.prog 9 #[.int .i64 n, va, vb] W fun e w' => e = .returned (.bool true) ∧ Below W.heap.size W w' :=
  clashLists_walk clashProg n (int_i64 wn) a b va vb W hva hla hvb hlb t.1 t.2

theorem clashPaths_all (W : World) (t : Tabs W ∧ Consts W) (n : Int) (wn : (Lit.int .i64 n).wf = true) (T : List Bs) (v : Value) (hv : Txs W v T) (hl : T.length ≤ 5864062014976) (i : Int) (wi : (Lit.int .u64 i).wf = true) (a : Option Addr) (len cap : Nat) (z : List Int) (hz : IsRow .u8 W a len cap z) (sz : cap * 1 ≤ 140737488351232) (ps : List Hs) (vp : Value) (hp : Hss W vp ps) (hlp : ps.length ≤ 4398046510976) :
    Calls Tryd.prog 10 #[.int .i64 n, v, .int .u64 i, .slice a len cap, vp] W fun e w' => e = .returned (.bool true) ∧ Below W.heap.size W w' := by
  obtain ⟨i, rfl, hi⟩ := int_u64c wi
  obtain ⟨x, hx, hb⟩ := hz.bys
  have := hz.le
  subst hx
  exact clashPaths_walk clashProg n (int_i64 wn) T v i hi x _ ps vp W hv hl hb (by omega) hp (by omega) t.1 t.2

theorem clashGrows_all (W : World) (t : Tabs W ∧ Consts W) (n : Int) (wn : (Lit.int .i64 n).wf = true) (T : List Bs) (v : Value) (hv : Txs W v T) (hl : T.length ≤ 5864062014976) (m : Int) (wm : (Lit.int .u64 m).wf = true) (h : Hs) (hh : h.length = 32) (ps : List Hs) (vp : Value) (hp : Hss W vp ps) (hlp : ps.length ≤ 4398046510976) :
    Calls Tryd.prog 11 #[.int .i64 n, v, .int .u64 m, .agg (bs h), vp] W fun e w' => e = .returned (.bool true) ∧ Below W.heap.size W w' := by
  obtain ⟨m, rfl, hm⟩ := int_u64c wm
  exact clashGrows_walk clashProg n (int_i64 wn) T v m hm h hh ps vp W hv hl hp (by omega) t.1 t.2

theorem clashNarrow_all (W : World) (t : Tabs W ∧ Consts W) (T : List Bs) (v : Value) (hv : Txs W v T) (hl : T.length ≤ 5864062014976) (i : Int) (wi : (Lit.int .u64 i).wf = true) (a : Option Addr) (len cap : Nat) (z : List Int) (hz : IsRow .u8 W a len cap z) (sz : cap * 1 ≤ 140737488351232) (h : Hs) (hh : h.length = 32) :
    Calls Tryd.prog 13 #[v, .int .u64 i, .slice a len cap, .agg (bs h)] W fun e w' => e = .returned (.bool true) ∧ Below W.heap.size W w' := by
  obtain ⟨i, rfl, hi⟩ := int_u64c wi
  obtain ⟨x, hx, hb⟩ := hz.bys
  have := hz.le
  subst hx
  exact clashNarrow_walk clashProg sizeProg T v i hi x _ h hh W hv hl hb (by omega) t.1 t.2
end Go.Proofs.YtdhfabjkpffhnaaDoor

