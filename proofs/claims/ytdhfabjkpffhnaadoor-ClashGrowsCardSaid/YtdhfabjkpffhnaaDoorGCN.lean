/- Joined: LeafRefRange, LeafRefPeak, LeafPushKit. -/
import Derived.Test.YtdhfabjkpffhnaaDoorGCM
/- Ranges: the reference's ones, Right, Hashes, Same, Peak. -/
namespace Go.Proofs.YtdhfabjkpffhnaaDoor
set_option maxRecDepth 20000
open Go.RowKit ShaMath LeafMath Reg

end Go.Proofs.YtdhfabjkpffhnaaDoor

/- Ranges: the reference's Same and Peak. -/
namespace Go.Proofs.YtdhfabjkpffhnaaDoor
set_option maxRecDepth 20000
open Go.RowKit ShaMath LeafMath Reg

/-- In the midst of Peak. -/
def PkW (w : World) (s : Nat) (v : Value) (W : World) : Prop := Blk W w.heap.size 36 (rngC s v) ∧ (∃ zs, Blk W (w.heap.size + 1) 24 zs ∧ zs.size = 32) ∧ Below w.heap.size w W
theorem PkW.keep {w W W' : World} {s : Nat} {v : Value} (h : PkW w s v W) (hb : Below W.heap.size W W') : PkW w s v W' := by
  obtain ⟨h1, ⟨zs, h2, h3⟩, h4⟩ := h
  exact ⟨h1.keep hb, ⟨zs, h2.keep hb, h3⟩, h4.trans (hb.mono h4.size)⟩
theorem PkW.new (w : World) (s : Nat) (v : Value) : PkW w s v ((w.alloc (.cells (rngC s v) 36)).alloc (.cells (bs (List.replicate 32 0)) 24)) :=
  ⟨(Blk.new w _ _).alloc _, ⟨_, Blk.newAt _ _ _ _ _ (by simp) rfl, rfl⟩, ((Below.refl _ _).alloc (Nat.le_refl _) _).alloc (by simp) _⟩
theorem PkW.lt {w W : World} {s : Nat} {v : Value} (h : PkW w s v W) : w.heap.size + 2 ≤ W.heap.size := by
  obtain ⟨h1, ⟨zs, h2, h3⟩, h4⟩ := h
  exact h2.lt
/-- A block behind them is written. -/
theorem PkW.row {w W : World} {s : Nat} {v : Value} (h : PkW w s v W) (g : Nat) (cs : Array Value) (hg : w.heap.size + 2 ≤ g) : PkW w s v (W.setRow g cs) := by
  obtain ⟨h1, ⟨zs, h2, h3⟩, h4⟩ := h
  exact ⟨h1.rowOther _ (by omega), ⟨zs, h2.rowOther _ (by omega), h3⟩, below_setRow h4 _ _ (by omega)⟩

end Go.Proofs.YtdhfabjkpffhnaaDoor

/- Push: what it answers; its memory. -/
namespace Go.Proofs.YtdhfabjkpffhnaaDoor
set_option maxRecDepth 20000
open Go.RowKit ShaMath LeafMath Reg

/-- In the midst of Push. -/
def PuW (w : World) (s : Nat) (v : Value) (h : Hs) (W : World) : Prop := Blk W w.heap.size 36 (rngC s v) ∧ Blk W (w.heap.size + 1) 24 (bs h) ∧ (∃ zs, Blk W (w.heap.size + 2) 36 zs ∧ zs.size = 2) ∧ Below w.heap.size w W
theorem PuW.new (w : World) (s : Nat) (v : Value) (h : Hs) : PuW w s v h (((w.alloc (.cells (rngC s v) 36)).alloc (.cells (bs h) 24)).alloc (.cells (rngC 0 (.slice none 0 0)) 36)) :=
  ⟨((Blk.new w _ _).alloc _).alloc _, (Blk.newAt _ _ _ _ _ (by simp) rfl).alloc _, ⟨_, Blk.newAt _ _ _ _ _ (by simp) rfl, rfl⟩, (((Below.refl _ _).alloc (Nat.le_refl _) _).alloc (by simp) _).alloc (by simp; omega) _⟩
theorem PuW.lt {w W : World} {s : Nat} {v : Value} {h : Hs} (H : PuW w s v h W) : w.heap.size + 3 ≤ W.heap.size := by
  obtain ⟨h1, h0, ⟨zs, h2, h3⟩, h4⟩ := H
  exact h2.lt
theorem PuW.far {w W W' : World} {s : Nat} {v : Value} {h : Hs} (H : PuW w s v h W) (hb : Below (w.heap.size + 3) W W') : PuW w s v h W' := by
  obtain ⟨h1, h0, ⟨zs, h2, h3⟩, h4⟩ := H
  exact ⟨h1.below (by omega) hb, h0.below (by omega) hb, ⟨zs, h2.below (by omega) hb, h3⟩, h4.trans (hb.mono (by omega))⟩
theorem PuW.keep {w W W' : World} {s : Nat} {v : Value} {h : Hs} (H : PuW w s v h W) (hb : Below W.heap.size W W') : PuW w s v h W' := H.far (hb.mono H.lt)
theorem PuW.grown {w W W' : World} {s : Nat} {v : Value} {h : Hs} (H : PuW w s v h W) {row : Option Nat} (hg : W.grownBy W' row) (hrow : ∀ k, row = some k → w.heap.size + 3 ≤ k) : PuW w s v h W' :=
  H.far ((Below.refl _ _).grown hg H.lt hrow)

theorem OHs.take {w : World} {B n c i : Nat} {a : Option Addr} {hs : List Hs} (h : OHs w B (.slice a n c) hs) (hi : i ≤ hs.length) : OHs w B (.slice a i c) (hs.take i) := by
  obtain ⟨h0, h1, h2⟩ := h
  refine ⟨h0.take i, by rw [hcells_len (h0.take i)], ?_⟩
  have hl : (hs.take i).length = i := by rw [List.length_take]; omega
  rw [hl]
  rcases h2 with ⟨h3, h4⟩ | ⟨g, cap, cur, h3, h4, h5, h6, h7, h8, h9⟩
  · cases h3
    obtain rfl : i = 0 := by omega
    exact .inl ⟨rfl, rfl⟩
  · cases h3
    refine .inr ⟨g, c, cur, rfl, h4, h5, by omega, h7, h8, ?_⟩
    rw [← hcells_take h0, ← h9, List.take_take, Nat.min_eq_left (Nat.mul_le_mul_right _ hi)]
theorem OHs.form {w : World} {B : Nat} {v : Value} {hs : List Hs} (h : OHs w B v hs) (hn : 0 < hs.length) : ∃ g c, v = .slice (some ⟨g, 0, Option.none⟩) hs.length c ∧ hs.length ≤ c ∧ B ≤ g := by
  rcases h.2.2 with ⟨rfl, h0⟩ | ⟨g, cap, cur, rfl, hB, _, hc, _⟩
  · omega
  · exact ⟨g, cap, rfl, hc, hB⟩

end Go.Proofs.YtdhfabjkpffhnaaDoor

