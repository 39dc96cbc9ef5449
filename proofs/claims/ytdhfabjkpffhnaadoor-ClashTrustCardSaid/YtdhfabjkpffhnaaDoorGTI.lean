/- Joined: GrowthRefShow, GrowthRefClimb. -/
import Derived.Test.YtdhfabjkpffhnaaDoorGTG
import Derived.Test.YtdhfabjkpffhnaaDoorGTA
import Derived.Test.YtdhfabjkpffhnaaDoorGTF
import Derived.Test.YtdhfabjkpffhnaaDoorLeafAskT
import Derived.Test.YtdhfabjkpffhnaaDoorLeafConvT
/- Layer 16's reference: show, what a part of the right length shows. -/
namespace Go.Proofs.YtdhfabjkpffhnaaDoor
set_option maxRecDepth 20000
open Go.RowKit ShaMath LeafMath PathMath GrowthMath Reg

/-- Two hashes that lie in cells, as results. -/
theorem ret_two {fn : Func} {p u : Tmp} (h : fn.results = #[.cell p 24, .cell u 24]) (tmps : Array Value) (W : World) (g g' : Nat) (cs cs' : Array Value) (hs : cs.size = 32) (hs' : cs'.size = 32)
    (hp : tmps.getD p undef = .pointer (some ⟨g, 0, none⟩)) (hc : tmps.getD u undef = .pointer (some ⟨g', 0, none⟩)) (hb : Blk W g 24 cs) (hb' : Blk W g' 24 cs') :
    (results fn tmps).run Tryd.prog W = .ok (.tuple #[.agg cs, .agg cs']) W := by
  have hl := run_loadVar_row (P := Tryd.prog) W g 24 24 cs (0, 0) _ hb Tryd.underlying24 rfl (size_hash hs)
  have hl' := run_loadVar_row (P := Tryd.prog) W g' 24 24 cs' (0, 0) _ hb' Tryd.underlying24 rfl (size_hash hs')
  rw [Array.getD_eq_getD_getElem?] at hp hc
  simp only [results, h]
  simp [Sem.run_bind, Result.andThen, hp, hc, asAddr, hl, hl']

/-- A hash in a block of the call's own, and two results' blocks. -/
def ShW (w : World) (h : Hs) (W : World) : Prop := Blk W w.heap.size 24 (bs h) ∧ (∃ zs, Blk W (w.heap.size + 1) 24 zs ∧ zs.size = 32) ∧ (∃ zs, Blk W (w.heap.size + 2) 24 zs ∧ zs.size = 32) ∧ Below w.heap.size w W
theorem ShW.new (w : World) (h : Hs) : ShW w h (((w.alloc (.cells (bs h) 24)).alloc (.cells (bs (List.replicate 32 0)) 24)).alloc (.cells (bs (List.replicate 32 0)) 24)) :=
  ⟨((Blk.new w _ _).alloc _).alloc _, ⟨_, (Blk.newAt _ _ _ _ _ (by simp) rfl).alloc _, rfl⟩, ⟨_, Blk.newAt _ _ _ _ _ (by simp) rfl, rfl⟩, (((Below.refl _ _).alloc (Nat.le_refl _) _).alloc (by simp) _).alloc (by simp; omega) _⟩
theorem ShW.keep {w W W' : World} {h : Hs} (X : ShW w h W) (hb : Below W.heap.size W W') : ShW w h W' := by
  obtain ⟨h1, ⟨zs, h2, h3⟩, ⟨zt, h4, h5⟩, h6⟩ := X
  exact ⟨h1.keep hb, ⟨zs, h2.keep hb, h3⟩, ⟨zt, h4.keep hb, h5⟩, h6.trans (hb.mono h6.size)⟩
theorem ShW.lt {w W : World} {h : Hs} (X : ShW w h W) : w.heap.size + 2 < W.heap.size := by
  obtain ⟨-, -, ⟨zt, h4, -⟩, -⟩ := X
  exact h4.lt
theorem ShW.row1 {w W : World} {h : Hs} (X : ShW w h W) (cs : Array Value) (hc : cs.size = 32) : ShW w h (W.setRow (w.heap.size + 1) cs) := by
  obtain ⟨h1, ⟨zs, h2, h3⟩, ⟨zt, h4, h5⟩, h6⟩ := X
  exact ⟨h1.rowOther _ (by omega), ⟨_, h2.row cs, hc⟩, ⟨zt, h4.rowOther _ (by omega), h5⟩, below_setRow h6 _ _ (by omega)⟩
theorem ShW.row2 {w W : World} {h : Hs} (X : ShW w h W) (cs : Array Value) (hc : cs.size = 32) : ShW w h (W.setRow (w.heap.size + 2) cs) := by
  obtain ⟨h1, ⟨zs, h2, h3⟩, ⟨zt, h4, h5⟩, h6⟩ := X
  exact ⟨h1.rowOther _ (by omega), ⟨zs, h2.rowOther _ (by omega), h3⟩, ⟨_, h4.row cs, hc⟩, below_setRow h6 _ _ (by omega)⟩
theorem ShW.cur1 {w W : World} {h : Hs} (X : ShW w h W) {cs : Array Value} (hc : cs.size = 32) : ∃ cur, Blk W (w.heap.size + 1) 24 cur ∧ cur.size = cs.size := by
  obtain ⟨-, ⟨zs, h2, h3⟩, -, -⟩ := X
  exact ⟨zs, h2, by omega⟩
theorem ShW.cur2 {w W : World} {h : Hs} (X : ShW w h W) {cs : Array Value} (hc : cs.size = 32) : ∃ cur, Blk W (w.heap.size + 2) 24 cur ∧ cur.size = cs.size := by
  obtain ⟨-, -, ⟨zs, h2, h3⟩, -⟩ := X
  exact ⟨zs, h2, by omega⟩
/-- .. and the two that a part has shown. -/
def ShZ (w : World) (h y : Hs) (g : Nat) (o r : Hs) (gx gy : Nat) (W : World) : Prop := ShW w h W ∧ Blk W g 24 (bs y) ∧ Blk W gx 24 (bs o) ∧ Blk W gy 24 (bs r)
theorem ShZ.keep {w W W' : World} {h y o r : Hs} {g gx gy : Nat} (X : ShZ w h y g o r gx gy W) (hb : Below W.heap.size W W') : ShZ w h y g o r gx gy W' := ⟨X.1.keep hb, X.2.1.keep hb, X.2.2.1.keep hb, X.2.2.2.keep hb⟩
theorem ShZ.row1 {w W : World} {h y o r : Hs} {g gx gy : Nat} (X : ShZ w h y g o r gx gy W) (cs : Array Value) (hc : cs.size = 32) (h1 : w.heap.size + 2 < g) (h2 : w.heap.size + 2 < gx) (h3 : w.heap.size + 2 < gy) : ShZ w h y g o r gx gy (W.setRow (w.heap.size + 1) cs) :=
  ⟨X.1.row1 cs hc, X.2.1.rowOther _ (by omega), X.2.2.1.rowOther _ (by omega), X.2.2.2.rowOther _ (by omega)⟩
theorem ShZ.row2 {w W : World} {h y o r : Hs} {g gx gy : Nat} (X : ShZ w h y g o r gx gy W) (cs : Array Value) (hc : cs.size = 32) (h1 : w.heap.size + 2 < g) (h2 : w.heap.size + 2 < gx) (h3 : w.heap.size + 2 < gy) : ShZ w h y g o r gx gy (W.setRow (w.heap.size + 2) cs) :=
  ⟨X.1.row2 cs hc, X.2.1.rowOther _ (by omega), X.2.2.1.rowOther _ (by omega), X.2.2.2.rowOther _ (by omega)⟩

end Go.Proofs.YtdhfabjkpffhnaaDoor

/- Layer 16's reference: Climb. -/
namespace Go.Proofs.YtdhfabjkpffhnaaDoor
set_option maxRecDepth 20000
open Go.RowKit ShaMath LeafMath PathMath GrowthMath Reg

/-- What Climb answers. -/
def climbGR (n : Int) (h : Hs) (m N : Nat) (ps : List Hs) : (Hs × Hs) × Nat :=
  if m = 0 ∨ N < m then ((z32, z32), 9) else if ps.length < growS m N then ((z32, z32), 2) else if growS m N < ps.length then ((z32, z32), 4) else (showG n m N h ps true, 0)

theorem climbGR_32 (n : Int) (h : Hs) (m N : Nat) (ps : List Hs) (hh : h.length = 32) (hp : ∀ x ∈ ps, x.length = 32) : (climbGR n h m N ps).1.1.length = 32 ∧ (climbGR n h m N ps).1.2.length = 32 := by
  unfold climbGR
  split
  · exact ⟨rfl, rfl⟩
  · split
    · exact ⟨rfl, rfl⟩
    · split
      · exact ⟨rfl, rfl⟩
      · rename_i h1 h2 h3
        have e : growS m N = sizeG m N true := by unfold growS; rw [if_neg h1]
        exact showG_length n N m h ps true hh hp (by omega) (by omega)

theorem growS_65 (m N : Nat) (hN : N < 18446744073709551616) : growS m N ≤ 65 := by
  unfold growS
  split
  · omega
  · exact sizeG_65 m N true (by omega) hN

/-- Two hashes that lie in cells and a number, as results. -/
theorem ret_two_tmp {fn : Func} {p u t : Tmp} (h : fn.results = #[.cell p 24, .cell u 24, .tmp t]) (tmps : Array Value) (W : World) (g g' : Nat) (cs cs' : Array Value) (c : Value) (hs : cs.size = 32) (hs' : cs'.size = 32)
    (hp : tmps.getD p undef = .pointer (some ⟨g, 0, none⟩)) (hc : tmps.getD u undef = .pointer (some ⟨g', 0, none⟩)) (ht : tmps.getD t undef = c) (hb : Blk W g 24 cs) (hb' : Blk W g' 24 cs') :
    (results fn tmps).run Tryd.prog W = .ok (.tuple #[.agg cs, .agg cs', c]) W := by
  have hl := run_loadVar_row (P := Tryd.prog) W g 24 24 cs (0, 0) _ hb Tryd.underlying24 rfl (size_hash hs)
  have hl' := run_loadVar_row (P := Tryd.prog) W g' 24 24 cs' (0, 0) _ hb' Tryd.underlying24 rfl (size_hash hs')
  rw [Array.getD_eq_getD_getElem?] at hp hc ht
  simp only [results, h]
  simp [Sem.run_bind, Result.andThen, hp, hc, ht, asAddr, hl, hl']

end Go.Proofs.YtdhfabjkpffhnaaDoor

