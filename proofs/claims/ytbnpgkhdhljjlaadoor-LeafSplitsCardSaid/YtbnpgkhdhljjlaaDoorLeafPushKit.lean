/- Push: what it answers; its memory. -/
import Derived.Test.YtbnpgkhdhljjlaaDoorLeafRefPeak
namespace Go.Proofs.YtbnpgkhdhljjlaaDoor
set_option maxRecDepth 20000
open Go.RowKit ShaMath LeafMath Reg

/-- In the midst of Push. -/
def PuW (w : World) (s : Nat) (v : Value) (h : Hs) (W : World) : Prop := Blk W w.heap.size 31 (rngC s v) ∧ Blk W (w.heap.size + 1) 25 (bs h) ∧ (∃ zs, Blk W (w.heap.size + 2) 31 zs ∧ zs.size = 2) ∧ Below w.heap.size w W
theorem PuW.new (w : World) (s : Nat) (v : Value) (h : Hs) : PuW w s v h (((w.alloc (.cells (rngC s v) 31)).alloc (.cells (bs h) 25)).alloc (.cells (rngC 0 (.slice none 0 0)) 31)) :=
  ⟨((Blk.new w _ _).alloc _).alloc _, (Blk.newAt _ _ _ _ _ (by simp) rfl).alloc _, ⟨_, Blk.newAt _ _ _ _ _ (by simp) rfl, rfl⟩, (((Below.refl _ _).alloc (Nat.le_refl _) _).alloc (by simp) _).alloc (by simp; omega) _⟩
theorem PuW.lt {w W : World} {s : Nat} {v : Value} {h : Hs} (H : PuW w s v h W) : w.heap.size + 3 ≤ W.heap.size := by
  obtain ⟨h1, h0, ⟨zs, h2, h3⟩, h4⟩ := H
  exact h2.lt
theorem PuW.far {w W W' : World} {s : Nat} {v : Value} {h : Hs} (H : PuW w s v h W) (hb : Below (w.heap.size + 3) W W') : PuW w s v h W' := by
  obtain ⟨h1, h0, ⟨zs, h2, h3⟩, h4⟩ := H
  exact ⟨h1.below (by omega) hb, h0.below (by omega) hb, ⟨zs, h2.below (by omega) hb, h3⟩, h4.trans (hb.mono (by omega))⟩
theorem PuW.keep {w W W' : World} {s : Nat} {v : Value} {h : Hs} (H : PuW w s v h W) (hb : Below W.heap.size W W') : PuW w s v h W' := H.far (hb.mono H.lt)
theorem PuW.grown {w W W' : World} {s : Nat} {v : Value} {h : Hs} (H : PuW w s v h W) {row : Option Nat} (hg : W.grownBy W' row) (hrow : ∀ k, row = some k → w.heap.size + 3 ≤ k) : PuW w s v h W' :=
  H.far ((Below.refl _ _).grown hg H.lt hrow)

theorem rng_one (s : Nat) (a : Option Addr) (n c : Nat) : (rngC s (.slice a n c)).all (·.oneCell') = true := by simp [Value.oneCell']

/-- What Push answers. -/
def pushR (n : Int) (s : Nat) (ps : List Hs) (h : Hs) : (Nat × List Hs) × Nat := if ps.length = ones s ∧ s < 9223372036854775808 then ((s + 1, merge n s ps h), 0) else ((0, []), 1)

theorem sliced_zero (a : Option Addr) (k c : Nat) : sliced a 0 k c 32 = .slice a k c := by
  unfold sliced
  have : a.map (fun x : Addr => x.add (0 * 32)) = a := by cases a <;> simp [Addr.add]
  rw [this]
  simp
theorem OHs.take {w : World} {B n c i : Nat} {a : Option Addr} {hs : List Hs} (h : OHs w B (.slice a n c) hs) (hi : i ≤ hs.length) : OHs w B (.slice a i c) (hs.take i) := by
  obtain ⟨h0, h1, h2⟩ := h
  refine ⟨h0.take i, by rw [hcells_len (h0.take i)], ?_⟩
  have hl : (hs.take i).length = i := by rw [List.length_take]; omega
  rw [hl]
  rcases h2 with ⟨h3, h4⟩ | ⟨g, cap, cur, h3, h4, h5, h6, h7, h8, h9⟩
  · cases h3
    obtain rfl : i = 0 := by omega
    exact .inl ⟨rfl, rfl⟩
  · cases h3
    refine .inr ⟨g, c, cur, rfl, h4, h5, by omega, h7, h8, ?_⟩
    rw [← hcells_take h0, ← h9, List.take_take, Nat.min_eq_left (Nat.mul_le_mul_right _ hi)]
theorem OHs.form {w : World} {B : Nat} {v : Value} {hs : List Hs} (h : OHs w B v hs) (hn : 0 < hs.length) : ∃ g c, v = .slice (some ⟨g, 0, Option.none⟩) hs.length c ∧ hs.length ≤ c ∧ B ≤ g := by
  rcases h.2.2 with ⟨rfl, h0⟩ | ⟨g, cap, cur, rfl, hB, _, hc, _⟩
  · omega
  · exact ⟨g, cap, rfl, hc, hB⟩

theorem merge_32 (n : Int) : ∀ (m : Nat) (ps : List Hs) (h : Hs), All32 ps → h.length = 32 → All32 (merge n m ps h) := by
  intro m
  induction m using Nat.strongRecOn with
  | ind m ih =>
    intro ps h hp hh
    by_cases ho : m % 2 = 1
    · rw [merge_odd n m ps h ho]
      exact ih (m / 2) (by omega) _ _ (fun x hx => hp x (List.dropLast_subset _ hx)) (nodeH_length _ _ _)
    · rw [merge_even n m ps h (by omega)]
      exact hp.append (All32.one hh)

end Go.Proofs.YtbnpgkhdhljjlaaDoor
