/- Hashes that are narrowed, byte by byte and bit by bit. No program is named here. -/
import Derived.Test.YtdhfabjkpffhnaaDoorShaMath
namespace Go.Proofs.YtdhfabjkpffhnaaDoor.ShaMath
set_option maxRecDepth 20000

/-- The first m bits of a byte. -/
def msk (m : Nat) : UInt8 := UInt8.ofNat (256 - 2 ^ (8 - m))
/-- How many of byte i's bits are kept, where b are kept in all. -/
def part (b : Int) (i : Nat) : Nat := (min 8 (max 0 (b - 8 * (i : Int)))).toNat
def narrowL (h : List UInt8) (b : Int) : List UInt8 := (List.range 32).map fun i => h.getD i 0 &&& msk (part b i)

theorem narrowL_length (h : List UInt8) (b : Int) : (narrowL h b).length = 32 := by simp [narrowL]
theorem narrowL_at (h : List UInt8) (b : Int) (i : Nat) (hi : i < 32) : (narrowL h b)[i]? = some (h.getD i 0 &&& msk (part b i)) := by simp [narrowL, hi]
theorem narrowL_getD (h : List UInt8) (b : Int) (i : Nat) (hi : i < 32) : (narrowL h b).getD i 0 = h.getD i 0 &&& msk (part b i) := by simp [List.getD, narrowL_at h b i hi]

theorem part_le (b : Int) (i : Nat) : part b i ≤ 8 := by unfold part; omega
theorem and_full (x : UInt8) : x &&& msk 8 = x := by
  have : ∀ n : Fin 256, UInt8.ofNat n.val &&& msk 8 = UInt8.ofNat n.val := by decide +kernel
  have h := this ⟨x.toNat, x.toNat_lt⟩
  simpa using h
theorem and_none (x : UInt8) : x &&& msk 0 = 0 := by
  have : ∀ n : Fin 256, UInt8.ofNat n.val &&& msk 0 = 0 := by decide +kernel
  have h := this ⟨x.toNat, x.toNat_lt⟩
  simpa using h
theorem msk_and (m n : Nat) (hm : m ≤ 8) (hn : n ≤ 8) : msk m &&& msk n = msk (min m n) := by
  have : ∀ m n : Fin 9, msk m.val &&& msk n.val = msk (min m.val n.val) := by decide +kernel
  exact this ⟨m, by omega⟩ ⟨n, by omega⟩
theorem msk_or (m : Nat) (hm : m < 8) : msk m ||| UInt8.ofNat (128 / 2 ^ m) = msk (m + 1) := by
  have : ∀ m : Fin 8, msk m.val ||| UInt8.ofNat (128 / 2 ^ m.val) = msk (m.val + 1) := by decide +kernel
  exact this ⟨m, hm⟩
theorem msk_not (m : Nat) (hm : m < 8) : msk m = UInt8.ofNat (255 - 255 / 2 ^ m) := by
  have : ∀ m : Fin 8, msk m.val = UInt8.ofNat (255 - 255 / 2 ^ m.val) := by decide +kernel
  exact this ⟨m, hm⟩

theorem and_or8 (x y z : UInt8) : x &&& y ||| x &&& z = x &&& (y ||| z) := by
  apply UInt8.eq_of_toBitVec_eq
  apply BitVec.eq_of_getLsbD_eq
  intro i hi
  simp only [UInt8.toBitVec_or, UInt8.toBitVec_and, BitVec.getLsbD_or, BitVec.getLsbD_and]
  cases x.toBitVec.getLsbD i <;> simp

theorem ext32 {l m : List UInt8} (hl : l.length = 32) (hm : m.length = 32) (h : ∀ i, i < 32 → l[i]? = m[i]?) : l = m := by
  apply List.ext_getElem?
  intro i
  by_cases hi : i < 32
  · exact h i hi
  · rw [List.getElem?_eq_none (by omega), List.getElem?_eq_none (by omega)]

theorem getD_some {l : List UInt8} {i : Nat} (h : i < l.length) : l[i]? = some (l.getD i 0) := by simp [List.getD, h]

theorem narrow_full (h : List UInt8) (b : Int) (hl : h.length = 32) (hb : 256 ≤ b) : narrowL h b = h := by
  refine ext32 (narrowL_length _ _) hl fun i hi => ?_
  rw [narrowL_at h b i hi, show part b i = 8 by unfold part; omega, and_full, getD_some (by omega)]
theorem narrow_none (h : List UInt8) (b : Int) (hb : b ≤ 0) : narrowL h b = List.replicate 32 0 := by
  refine ext32 (narrowL_length _ _) (by simp) fun i hi => ?_
  rw [narrowL_at h b i hi, show part b i = 0 by unfold part; omega, and_none, List.getElem?_replicate, if_pos hi]
theorem narrow_twice (h : List UInt8) (a b : Int) : narrowL (narrowL h a) b = narrowL h (min a b) := by
  refine ext32 (narrowL_length _ _) (narrowL_length _ _) fun i hi => ?_
  rw [narrowL_at _ b i hi, narrowL_at _ (min a b) i hi, narrowL_getD h a i hi, UInt8.and_assoc, msk_and _ _ (part_le a i) (part_le b i)]
  congr 3
  unfold part
  omega

/-- The program's way: whole bytes, and one byte in part. -/
theorem narrow_whole (h : List UInt8) (n p : Nat) (hl : h.length = 32) (hn : n < 32) (hp : p < 8) : (h.take n ++ List.replicate (32 - n) 0).set n (h.getD n 0 &&& UInt8.ofNat (255 - 255 / 2 ^ p)) = narrowL h ((8 * n + p : Nat) : Int) := by
  refine ext32 (by simp [hl]; omega) (narrowL_length _ _) fun i hi => ?_
  rw [narrowL_at _ _ i hi, ← msk_not p hp]
  by_cases hin : i = n
  · subst hin
    rw [List.getElem?_set_self (by simp [hl]; omega)]
    congr 3
    unfold part
    omega
  · rw [List.getElem?_set_ne (Ne.symm hin)]
    by_cases hlt : i < n
    · rw [List.getElem?_append_left (by simp [hl]; omega), show part ((8 * n + p : Nat) : Int) i = 8 by unfold part; omega, and_full, List.getElem?_take, if_pos hlt, getD_some (by omega)]
    · rw [List.getElem?_append_right (by simp [hl]; omega), show part ((8 * n + p : Nat) : Int) i = 0 by unfold part; omega, and_none, List.getElem?_replicate, if_pos (by rw [List.length_take]; omega)]

/-- The reference's: one bit more. -/
theorem narrow_bit (h : List UInt8) (k : Nat) : (narrowL h k).set (k / 8) ((narrowL h k).getD (k / 8) 0 ||| (h.getD (k / 8) 0 &&& UInt8.ofNat (128 / 2 ^ (k % 8)))) = narrowL h ((k + 1 : Nat) : Int) := by
  refine ext32 (by rw [List.length_set, narrowL_length]) (narrowL_length _ _) fun i hi => ?_
  rw [narrowL_at _ _ i hi]
  by_cases hik : i = k / 8
  · subst hik
    rw [List.getElem?_set_self (by rw [narrowL_length]; omega), narrowL_getD h k _ hi]
    rw [show part (k : Int) (k / 8) = k % 8 by unfold part; omega, show part ((k + 1 : Nat) : Int) (k / 8) = k % 8 + 1 by unfold part; omega, ← msk_or _ (by omega)]
    congr 1
    exact and_or8 _ _ _
  · rw [List.getElem?_set_ne (Ne.symm hik), narrowL_at _ _ i hi]
    congr 3
    unfold part
    omega
end Go.Proofs.YtdhfabjkpffhnaaDoor.ShaMath
