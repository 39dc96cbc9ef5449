/- What a state holds of a text; how a piece of at most what is left of a block goes in. No program is named here. -/
import Derived.Test.YtdhfabjkpffhnaaDoorShaMath
namespace Go.Proofs.YtdhfabjkpffhnaaDoor.ShaMath
set_option maxRecDepth 20000

/-- The words h and the rest r are those of text t. -/
def GoodS (h : List (BitVec 32)) (r t : List UInt8) : Prop :=
  h.length = 8 ∧ r.length = 64 ∧ (64 ≤ t.length → h = (chain t (t.length / 64)).list) ∧ r.take (t.length % 64) = t.drop (64 * (t.length / 64))

theorem good_nil (h : List (BitVec 32)) (r : List UInt8) (eh : h.length = 8) (er : r.length = 64) : GoodS h r [] := ⟨eh, er, fun h => by simp at h, by simp⟩

theorem good_chain {h : List (BitVec 32)} {r t : List UInt8} (hg : GoodS h r t) : (if t.length < 64 then start.list else h) = (chain t (t.length / 64)).list := by
  by_cases hlt : t.length < 64
  · rw [if_pos hlt, show t.length / 64 = 0 by omega]
    rfl
  · rw [if_neg hlt]
    exact hg.2.2.1 (by omega)

/-- The rest with a piece laid at its place. -/
def put (r : List UInt8) (q : Nat) (p : List UInt8) : List UInt8 := r.take q ++ p ++ r.drop (q + p.length)
theorem put_length (r : List UInt8) (q : Nat) (p : List UInt8) (er : r.length = 64) (hq : q + p.length ≤ 64) : (put r q p).length = 64 := by
  unfold put
  simp [er]
  omega

theorem good_part {h : List (BitVec 32)} {r t : List UInt8} (hg : GoodS h r t) (p : List UInt8) (hp : t.length % 64 + p.length < 64) : GoodS h (put r (t.length % 64) p) (t ++ p) := by
  obtain ⟨eh, er, hh, hr⟩ := hg
  have e1 : (t ++ p).length / 64 = t.length / 64 := by rw [List.length_append]; omega
  have e2 : (t ++ p).length % 64 = t.length % 64 + p.length := by rw [List.length_append]; omega
  refine ⟨eh, put_length _ _ _ er (by omega), fun h64 => ?_, ?_⟩
  · rw [List.length_append] at h64
    rw [e1, chain_append t p _ (by omega)]
    exact hh (by omega)
  · rw [e1, e2]
    unfold put
    rw [List.take_append_of_le_length (by simp [er]; omega), List.take_of_length_le (by simp [er]; omega), hr, List.drop_append_of_le_length (by omega)]

theorem good_whole {h : List (BitVec 32)} {r t : List UInt8} (hg : GoodS h r t) (p : List UInt8) (hp : t.length % 64 + p.length = 64) :
    GoodS (comp (chain t (t.length / 64)) (put r (t.length % 64) p)).list (put r (t.length % 64) p) (t ++ p) := by
  obtain ⟨eh, er, hh, hr⟩ := hg
  have e1 : (t ++ p).length / 64 = t.length / 64 + 1 := by rw [List.length_append]; omega
  have e2 : (t ++ p).length % 64 = 0 := by rw [List.length_append]; omega
  have e3 : put r (t.length % 64) p = ((t ++ p).drop (64 * (t.length / 64))).take 64 := by
    unfold put
    rw [List.drop_append_of_le_length (by omega), ← hr, List.drop_of_length_le (by omega), List.append_nil]
    exact (List.take_of_length_le (by rw [List.length_append, List.length_take, er]; omega)).symm
  refine ⟨rfl, put_length _ _ _ er (by omega), fun _ => ?_, ?_⟩
  · rw [e1, chain, chain_append t p _ (by omega), ← e3]
  · rw [e1, e2, List.drop_of_length_le (by rw [List.length_append]; omega)]
    rfl

/-- The hash out of the words behind the whole padded text. -/
theorem hash_of (l : List UInt8) {h : List (BitVec 32)} {r : List UInt8} (hg : GoodS h r (l ++ tail l.length)) : (if (l ++ tail l.length).length < 64 then start.list else h) = (chain (pad l) ((pad l).length / 64)).list := good_chain hg
end Go.Proofs.YtdhfabjkpffhnaaDoor.ShaMath
