/- Push: what it answers; its memory. -/
import Derived.Test.YtdhfabjkpffhnabDoorLeafRefPeakJ
namespace Go.Proofs.YtdhfabjkpffhnabDoor
set_option maxRecDepth 20000
open Go.RowKit ShaMath LeafMath Reg

theorem rng_one (s : Nat) (a : Option Addr) (n c : Nat) : (rngC s (.slice a n c)).all (·.oneCell') = true := by simp [Value.oneCell']

/-- What Push answers. -/
def pushR (n : Int) (s : Nat) (ps : List Hs) (h : Hs) : (Nat × List Hs) × Nat := if ps.length = ones s ∧ s < 9223372036854775808 then ((s + 1, merge n s ps h), 0) else ((0, []), 1)

theorem sliced_zero (a : Option Addr) (k c : Nat) : sliced a 0 k c 32 = .slice a k c := by
  unfold sliced
  have : a.map (fun x : Addr => x.add (0 * 32)) = a := by cases a <;> simp [Addr.add]
  rw [this]
  simp
theorem OHs.take {w : World} {B n c i : Nat} {a : Option Addr} {hs : List Hs} (h : OHs w B (.slice a n c) hs) (hi : i ≤ hs.length) : OHs w B (.slice a i c) (hs.take i) := by
  obtain ⟨h0, h1, h2⟩ := h
  refine ⟨h0.take i, by rw [hcells_len (h0.take i)], ?_⟩
  have hl : (hs.take i).length = i := by rw [List.length_take]; omega
  rw [hl]
  rcases h2 with ⟨h3, h4⟩ | ⟨g, cap, cur, h3, h4, h5, h6, h7, h8, h9⟩
  · cases h3
    obtain rfl : i = 0 := by omega
    exact .inl ⟨rfl, rfl⟩
  · cases h3
    refine .inr ⟨g, c, cur, rfl, h4, h5, by omega, h7, h8, ?_⟩
    rw [← hcells_take h0, ← h9, List.take_take, Nat.min_eq_left (Nat.mul_le_mul_right _ hi)]
theorem OHs.form {w : World} {B : Nat} {v : Value} {hs : List Hs} (h : OHs w B v hs) (hn : 0 < hs.length) : ∃ g c, v = .slice (some ⟨g, 0, Option.none⟩) hs.length c ∧ hs.length ≤ c ∧ B ≤ g := by
  rcases h.2.2 with ⟨rfl, h0⟩ | ⟨g, cap, cur, rfl, hB, _, hc, _⟩
  · omega
  · exact ⟨g, cap, rfl, hc, hB⟩

theorem merge_32 (n : Int) : ∀ (m : Nat) (ps : List Hs) (h : Hs), All32 ps → h.length = 32 → All32 (merge n m ps h) := by
  intro m
  induction m using Nat.strongRecOn with
  | ind m ih =>
    intro ps h hp hh
    by_cases ho : m % 2 = 1
    · rw [merge_odd n m ps h ho]
      exact ih (m / 2) (by omega) _ _ (fun x hx => hp x (List.dropLast_subset _ hx)) (nodeH_length _ _ _)
    · rw [merge_even n m ps h (by omega)]
      exact hp.append (All32.one hh)

end Go.Proofs.YtdhfabjkpffhnabDoor

