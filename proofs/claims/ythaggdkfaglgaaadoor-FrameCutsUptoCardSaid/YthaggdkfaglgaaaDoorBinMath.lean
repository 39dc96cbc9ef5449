/- Plain facts on the bytes of a number: what layer 1 lays, as lists. No program is named here. -/
import Derived.Lib.BitFns
import Derived.Laws.Strings
namespace Go.Proofs.YthaggdkfaglgaaaDoor.BinMath
set_option maxRecDepth 20000

/-- How many bytes a number takes. -/
def nb (n : Nat) : Nat := (Lib.bitLen n + 7) / 8

/-- The lowest k bytes of a number, the highest first. -/
def be : Nat → Nat → List UInt8
  | 0, _ => []
  | k + 1, n => UInt8.ofNat (n / 256 ^ k % 256) :: be k n

/-- The bytes of a number. -/
def numL (n : Nat) : List UInt8 := UInt8.ofNat (nb n) :: be (nb n) n

theorem be_length (k n : Nat) : (be k n).length = k := by
  induction k with
  | zero => rfl
  | succ k ih => simp [be, ih]

theorem numL_length (n : Nat) : (numL n).length = nb n + 1 := by simp [numL, be_length]

theorem nb_zero : nb 0 = 0 := by decide

theorem two_pow_eight (k : Nat) : 2 ^ (8 * k) = 256 ^ k := by
  rw [Nat.pow_mul]

theorem bl_spec (m : Nat) : ∀ n, n ≤ m → n < 18446744073709551616 → n < 2 ^ Lib.bitLen n ∧ (n ≠ 0 → 2 ^ (Lib.bitLen n - 1) ≤ n) := by
  induction m with
  | zero => intro n h _; obtain rfl : n = 0 := by omega
            decide
  | succ m ih =>
    intro n h hn
    by_cases h0 : n = 0
    · subst h0; decide
    · have e := Lib.bitLen_half n h0 hn
      obtain ⟨a, b⟩ := ih (n / 2) (by omega) (by omega)
      rw [e, Nat.add_sub_cancel_left, Nat.pow_add, Nat.pow_one]
      refine ⟨by omega, fun _ => ?_⟩
      by_cases h2 : n / 2 = 0
      · have e0 : Lib.bitLen 0 = 0 := by decide
        rw [h2, e0, Nat.pow_zero]; omega
      · have b2 := b h2
        have hp : 1 ≤ Lib.bitLen (n / 2) := by
          rcases Nat.eq_zero_or_pos (Lib.bitLen (n / 2)) with q | q
          · rw [q] at a; omega
          · exact q
        have e2 : 2 ^ Lib.bitLen (n / 2) = 2 * 2 ^ (Lib.bitLen (n / 2) - 1) := by
          rw [← Nat.pow_succ']; congr 1; omega
        omega

theorem nb_spec (n : Nat) (hlt : n < 18446744073709551616) : n < 256 ^ nb n ∧ (n ≠ 0 → 1 ≤ nb n ∧ 256 ^ (nb n - 1) ≤ n) := by
  have h := bl_spec n n (Nat.le_refl _) hlt
  unfold nb
  constructor
  · refine Nat.lt_of_lt_of_le h.1 ?_
    rw [← two_pow_eight]
    exact Nat.pow_le_pow_right (by decide) (by omega)
  · intro hn
    have h2 := h.2 hn
    have hb : 1 ≤ Lib.bitLen n := by
      rcases Nat.eq_zero_or_pos (Lib.bitLen n) with h0 | h0
      · rw [h0] at h; simp at h; omega
      · exact h0
    refine ⟨by omega, Nat.le_trans ?_ h2⟩
    rw [← two_pow_eight]
    exact Nat.pow_le_pow_right (by decide) (by omega)

theorem nb_unique (n k : Nat) (hlt : n < 18446744073709551616) (h1 : n < 256 ^ k) (h2 : k ≠ 0 → 256 ^ (k - 1) ≤ n) : nb n = k := by
  obtain ⟨a, b⟩ := nb_spec n hlt
  rcases Nat.lt_trichotomy (nb n) k with h | h | h
  · have := h2 (by omega)
    have h3 : 256 ^ nb n ≤ 256 ^ (k - 1) := Nat.pow_le_pow_right (by decide) (by omega)
    omega
  · exact h
  · have hn : n ≠ 0 := by rintro rfl; rw [nb_zero] at h; omega
    have := (b hn).2
    have h3 : 256 ^ k ≤ 256 ^ (nb n - 1) := Nat.pow_le_pow_right (by decide) (by omega)
    omega

theorem nb_le (n : Nat) (h : n < 18446744073709551616) : nb n ≤ 8 := by
  rcases Nat.lt_or_ge 8 (nb n) with h8 | h8
  · have hn : n ≠ 0 := by rintro rfl; rw [nb_zero] at h8; omega
    have := ((nb_spec n h).2 hn).2
    have h3 : 256 ^ 8 ≤ 256 ^ (nb n - 1) := Nat.pow_le_pow_right (by decide) (by omega)
    have h4 : (256 : Nat) ^ 8 = 18446744073709551616 := by decide
    omega
  · exact h8

theorem nb_mono {a b : Nat} (ha' : a < 18446744073709551616) (hb' : b < 18446744073709551616) (h : nb a < nb b) : a < b := by
  have ha := (nb_spec a ha').1
  have hb0 : b ≠ 0 := by rintro rfl; rw [nb_zero] at h; omega
  have hb := ((nb_spec b hb').2 hb0).2
  have h3 : 256 ^ nb a ≤ 256 ^ (nb b - 1) := Nat.pow_le_pow_right (by decide) (by omega)
  omega

/-- One store of the loop: place i of a row whose first i places behind the head are still 0. -/
theorem set_rep {α : Type} (x z b : α) (L : List α) (i : Nat) :
    (x :: (List.replicate (i + 1) z ++ L)).set (i + 1) b = x :: (List.replicate i z ++ b :: L) := by
  simp only [List.set_cons_succ, List.cons.injEq, true_and]
  rw [List.replicate_succ', List.append_assoc]
  rw [List.set_append_right _ _ (by simp)]
  simp

/-! ### Order -/
open Op (bytesLess)

theorem u8_lt (a b : Nat) (ha : a < 256) (hb : b < 256) : UInt8.ofNat a < UInt8.ofNat b ↔ a < b := by
  rw [UInt8.lt_iff_toNat_lt]; simp [Nat.mod_eq_of_lt ha, Nat.mod_eq_of_lt hb]

theorem u8_eq (a b : Nat) (ha : a < 256) (hb : b < 256) : UInt8.ofNat a = UInt8.ofNat b ↔ a = b := by
  constructor
  · intro h
    have := congrArg UInt8.toNat h
    simpa [Nat.mod_eq_of_lt ha, Nat.mod_eq_of_lt hb] using this
  · rintro rfl; rfl

theorem be_mod (k n : Nat) (m : Nat) (h : k ≤ m) : be k (n % 256 ^ m) = be k n := by
  induction k with
  | zero => rfl
  | succ k ih =>
    simp only [be]
    rw [ih (by omega)]
    congr 2
    have e : 256 ^ m = 256 ^ k * 256 ^ (m - k) := by rw [← Nat.pow_add]; congr 1; omega
    rw [e, Nat.mod_mul_right_div_self]
    have e2 : 256 ^ (m - k) = 256 * 256 ^ (m - k - 1) := by
      rw [show m - k = (m - k - 1) + 1 by omega, Nat.pow_succ, Nat.mul_comm]; rfl
    rw [e2, Nat.mod_mul_right_mod]

theorem top_lt (k n : Nat) (h : n < 256 ^ (k + 1)) : n / 256 ^ k < 256 := by
  rw [Nat.div_lt_iff_lt_mul (Nat.pow_pos (by decide))]
  rwa [Nat.pow_succ, Nat.mul_comm] at h

theorem less_be (k : Nat) : ∀ a b : Nat, a < 256 ^ k → b < 256 ^ k → bytesLess (be k a) (be k b) = decide (a < b) := by
  induction k with
  | zero => intro a b ha hb; simp at ha hb; subst ha hb; rfl
  | succ k ih =>
    intro a b ha hb
    have ta := top_lt k a ha
    have tb := top_lt k b hb
    have hp : 0 < 256 ^ k := Nat.pow_pos (by decide)
    have ea := Nat.div_add_mod a (256 ^ k)
    have eb := Nat.div_add_mod b (256 ^ k)
    have la := Nat.mod_lt a hp
    have lb := Nat.mod_lt b hp
    simp only [be, bytesLess]
    rw [Nat.mod_eq_of_lt ta, Nat.mod_eq_of_lt tb]
    rcases Nat.lt_trichotomy (a / 256 ^ k) (b / 256 ^ k) with h | h | h
    · rw [decide_eq_true ((u8_lt _ _ ta tb).2 h), Bool.true_or]
      have h1 : (a / 256 ^ k + 1) * 256 ^ k ≤ b / 256 ^ k * 256 ^ k := Nat.mul_le_mul_right _ h
      have : a < b := by rw [Nat.add_mul] at h1; rw [Nat.mul_comm (256 ^ k)] at ea eb; omega
      simp [this]
    · rw [h, decide_eq_false (by rw [u8_lt _ _ tb tb]; omega), beq_self_eq_true, Bool.true_and, Bool.false_or]
      rw [← be_mod k a k (Nat.le_refl _), ← be_mod k b k (Nat.le_refl _), ih _ _ la lb]
      have : a % 256 ^ k < b % 256 ^ k ↔ a < b := by rw [h] at ea; omega
      simp [this]
    · rw [decide_eq_false (by rw [u8_lt _ _ ta tb]; omega), beq_eq_false_iff_ne.2 (by rw [Ne, u8_eq _ _ ta tb]; omega), Bool.false_and, Bool.false_or]
      have h1 : (b / 256 ^ k + 1) * 256 ^ k ≤ a / 256 ^ k * 256 ^ k := Nat.mul_le_mul_right _ h
      have : ¬ a < b := by rw [Nat.add_mul] at h1; rw [Nat.mul_comm (256 ^ k)] at ea eb; omega
      simp [this]

/-- The bytes of the lesser number are the lesser. -/
theorem less_numL (a b : Nat) (ha : a < 18446744073709551616) (hb : b < 18446744073709551616) : bytesLess (numL a) (numL b) = decide (a < b) := by
  have na := nb_le a ha
  have nb' := nb_le b hb
  simp only [numL, bytesLess]
  rcases Nat.lt_trichotomy (nb a) (nb b) with h | h | h
  · rw [decide_eq_true ((u8_lt _ _ (by omega) (by omega)).2 h), Bool.true_or]
    simp [nb_mono ha hb h]
  · rw [h, decide_eq_false (by rw [u8_lt _ _ (by omega) (by omega)]; omega), beq_self_eq_true, Bool.true_and, Bool.false_or]
    exact less_be _ a b (by rw [← h]; exact (nb_spec a ha).1) (nb_spec b hb).1
  · rw [decide_eq_false (by rw [u8_lt _ _ (by omega) (by omega)]; omega), beq_eq_false_iff_ne.2 (by rw [Ne, u8_eq _ _ (by omega) (by omega)]; omega), Bool.false_and, Bool.false_or]
    have := nb_mono hb ha h
    simp; omega

theorem less_irrefl (l : List UInt8) : bytesLess l l = false := by
  induction l with
  | nil => rfl
  | cons x xs ih => simp [bytesLess, ih]

/-- Two numbers of the same bytes are one. -/
theorem numL_inj (a b : Nat) (ha : a < 18446744073709551616) (hb : b < 18446744073709551616) (h : numL a = numL b) : a = b := by
  have h1 := less_numL a b ha hb
  have h2 := less_numL b a hb ha
  rw [h, less_irrefl] at h1
  rw [h, less_irrefl] at h2
  simp at h1 h2
  omega

/-- No number's bytes begin with another one's. -/
theorem numL_prefix (a b : Nat) (ha : a < 18446744073709551616) (hb : b < 18446744073709551616) (h : (numL b).take (numL a).length = numL a) : a = b := by
  have na := nb_le a ha
  have nb' := nb_le b hb
  have h0 : UInt8.ofNat (nb b) = UInt8.ofNat (nb a) := by
    have := congrArg List.head? h
    simpa [numL] using this
  have h1 : nb b = nb a := (u8_eq _ _ (by omega) (by omega)).1 h0
  have h2 : (numL b).length = (numL a).length := by rw [numL_length, numL_length, h1]
  rw [← h2, List.take_length] at h
  exact numL_inj a b ha hb h.symm

end Go.Proofs.YthaggdkfaglgaaaDoor.BinMath
