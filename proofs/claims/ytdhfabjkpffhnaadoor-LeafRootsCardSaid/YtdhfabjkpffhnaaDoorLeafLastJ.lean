/- Layer 14's laws, whatever they are given. -/
import Derived.Test.YtdhfabjkpffhnaaDoorLeafAllJ
import Derived.Test.YtdhfabjkpffhnaaDoorKC
import Derived.Test.YtdhfabjkpffhnaaDoorLeafHashesJ
import Derived.Test.YtdhfabjkpffhnaaDoorLeafNarrowJ
import Derived.Test.YtdhfabjkpffhnaaDoorLeafSplitsJ
namespace Go.Proofs.YtdhfabjkpffhnaaDoor
set_option maxRecDepth 20000
open Go.ChangeShapes Go.WideShapes Go.ChangeAt Go.RowKit ShaMath LeafMath

theorem leafHashes_all (W : World) (t : Tabs W ∧ Consts W) (n : Int) (wn : (Lit.int .i64 n).wf = true) (a : Option Addr) (len cap : Nat) (z : List Int) (hz : IsRow .u8 W a len cap z) (sz : cap * 1 ≤ 140737488351232) (x : Hs) (hx : x.length = 32) (y : Hs) (hy : y.length = 32) :
    Calls Tryd.prog 3 #[.int .i64 n, .slice a len cap, .agg (bs x), .agg (bs y)] W fun e w' => e = .returned (.bool true) ∧ Below W.heap.size W w' := by
  obtain ⟨l, hl, hb⟩ := hz.bys
  have := hz.le
  exact leafHashes_walk leafProg dataProg n (int_i64 wn) l a len cap x y W hb hl this (by omega) hx hy t.1 t.2

theorem leafRoots_all (W : World) (t : Tabs W ∧ Consts W) (n : Int) (wn : (Lit.int .i64 n).wf = true) (hs : List Hs) (v : Value) (hv : Hss W v hs) (_ : hs.length ≤ 4398046510976) :
    Calls Tryd.prog 4 #[.int .i64 n, v] W fun e w' => e = .returned (.bool true) ∧ Below W.heap.size W w' :=
  leafRoots_walk leafProg dataProg n (int_i64 wn) hs v W hv t.1 t.2

theorem leafSplits_all (W : World) (t : Tabs W) (n : Int) (wn : (Lit.int .i64 n).wf = true) (k : Int) (wk : (Lit.int .u8 k).wf = true) (hs : List Hs) (v : Value) (hv : Hss W v hs) (_ : hs.length ≤ 4398046510976) :
    Calls Tryd.prog 7 #[.int .i64 n, .int .u8 k, v] W fun e w' => e = .returned (.bool true) ∧ Below W.heap.size W w' := by
  obtain ⟨k, rfl, hk⟩ := int_u8 wk
  exact leafSplits_walk leafProg dataProg n (int_i64 wn) k hk hs v W hv t

theorem leafNarrow_all (W : World) (t : Tabs W) (n : Int) (wn : (Lit.int .i64 n).wf = true) (a : Option Addr) (la ca : Nat) (za : List Int) (ha : IsRow .u8 W a la ca za) (sa : ca * 1 ≤ 140737488351232) (b : Option Addr) (lb cb : Nat) (zb : List Int) (hb : IsRow .u8 W b lb cb zb) (sb : cb * 1 ≤ 140737488351232) :
    Calls Tryd.prog 8 #[.int .i64 n, .slice a la ca, .slice b lb cb] W fun e w' => e = .returned (.bool true) ∧ Below W.heap.size W w' := by
  obtain ⟨d, hd, hd2⟩ := ha.bys
  obtain ⟨e, he, he2⟩ := hb.bys
  have h1 := ha.le
  have h2 := hb.le
  exact leafNarrow_walk leafProg dataProg n (int_i64 wn) d e a b la ca lb cb W hd2 hd h1 (by omega) he2 he h2 (by omega) t
end Go.Proofs.YtdhfabjkpffhnaaDoor

