/- Layer 17's laws, whatever they are given. -/
import Derived.Test.YtdhfabjkpffhnaaDoorLeafAllT
import Derived.Test.YtdhfabjkpffhnaaDoorTxsInT
import Derived.Test.YtdhfabjkpffhnaaDoorGTY
import Derived.Test.YtdhfabjkpffhnaaDoorGTU
namespace Go.Proofs.YtdhfabjkpffhnaaDoor
set_option maxRecDepth 20000
open Go.ChangeShapes Go.WideShapes Go.ChangeAt Go.RowKit ShaMath LeafMath PathMath GrowthMath ClashMath

theorem int_u64c {n : Int} (h : (Lit.int .u64 n).wf = true) : ∃ k : Nat, n = k ∧ k < 18446744073709551616 := by
  have := bounds_u64 h
  exact ⟨n.toNat, by omega, by omega⟩

theorem clashTrust_all (W : World) (t : Tabs W ∧ Consts W) (n : Int) (wn : (Lit.int .i64 n).wf = true) (T : List Bs) (v : Value) (hv : Txs W v T) (hl : T.length ≤ 5864062014976) (i : Int) (wi : (Lit.int .u64 i).wf = true) (a : Option Addr) (len cap : Nat) (z : List Int) (hz : IsRow .u8 W a len cap z) (sz : cap * 1 ≤ 140737488351232) (h : Hs) (hh : h.length = 32) (ps : List Hs) (vp : Value) (hp : Hss W vp ps) (hlp : ps.length ≤ 4398046510976) :
    Calls Tryd.prog 12 #[.int .i64 n, v, .int .u64 i, .slice a len cap, .agg (bs h), vp] W fun e w' => e = .returned (.bool true) ∧ Below W.heap.size W w' := by
  obtain ⟨i, rfl, _⟩ := int_u64c wi
  obtain ⟨x, hx, hb⟩ := hz.bys
  have hle := hz.le
  subst hx
  exact clashTrust_walk clashProg leafProg dataProg checkProg check16Prog n (int_i64 wn) T v i x a cap hle (by omega) h hh ps vp (by omega) W hv hl hb hp t.1 t.2

end Go.Proofs.YtdhfabjkpffhnaaDoor

