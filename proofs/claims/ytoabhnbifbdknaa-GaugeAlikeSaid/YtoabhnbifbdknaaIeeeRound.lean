/- What rounding to the nearest keeps: order, signs, and what is a float already. -/
import Derived.Test.YtoabhnbifbdknaaGaugeMath
namespace Go.Proofs.Ytoabhnbifbdknaa.EdgeMath
open Ieee

/-- The whole number nearest to a / b; between two the even one. -/
def rne (a b : Nat) : Nat := a / b + (if b < 2 * (a % b) ∨ b = 2 * (a % b) ∧ a / b % 2 = 1 then 1 else 0)

theorem rne_scale (a b c : Nat) (hc : 0 < c) : rne (a * c) (b * c) = rne a b := by
  unfold rne
  rw [Nat.mul_div_mul_right a b hc, Nat.mul_mod_mul_right c a b]
  have e1 : b * c < 2 * (a % b * c) ↔ b < 2 * (a % b) := by
    rw [← Nat.mul_assoc]
    exact Nat.mul_lt_mul_right hc
  have e2 : b * c = 2 * (a % b * c) ↔ b = 2 * (a % b) := by
    rw [← Nat.mul_assoc]
    exact Nat.mul_left_inj (by omega)
  simp only [e1, e2]

theorem rne_le (a b : Nat) : a / b ≤ rne a b ∧ rne a b ≤ a / b + 1 := by
  unfold rne
  split <;> omega

theorem rne_mono {a a' b : Nat} (h : a ≤ a') : rne a b ≤ rne a' b := by
  have h1 := rne_le a b
  have h2 := rne_le a' b
  have h3 : a / b ≤ a' / b := Nat.div_le_div_right h
  rcases Nat.lt_or_ge (a / b) (a' / b) with h4 | h4
  · omega
  · have h5 : a / b = a' / b := by omega
    have h6 := Nat.div_add_mod a b
    have h7 := Nat.div_add_mod a' b
    unfold rne
    rw [← h5] at h7 ⊢
    have h8 : a % b ≤ a' % b := by omega
    obtain ⟨q, hq⟩ : ∃ q, q = a / b := ⟨_, rfl⟩
    obtain ⟨r, hr⟩ : ∃ q, q = a % b := ⟨_, rfl⟩
    obtain ⟨r', hr'⟩ : ∃ q, q = a' % b := ⟨_, rfl⟩
    rw [← hq, ← hr, ← hr']
    rw [← hr, ← hr'] at h8
    clear h1 h2 h3 h4 h5 h6 h7 hq hr hr'
    split
    · rw [if_pos (by omega)]
      omega
    · split <;> omega

theorem rne_whole (n b : Nat) (hb : 0 < b) : rne (n * b) b = n := by
  unfold rne
  rw [Nat.mul_div_cancel n hb, Nat.mul_mod_left, if_neg (by omega)]
  omega

theorem rne_small (n b : Nat) (h : 2 * n < b) : rne n b = 0 := by
  unfold rne
  rw [Nat.div_eq_of_lt (by omega), Nat.mod_eq_of_lt (by omega), if_neg (by omega)]

theorem cut_eq (neg : Bool) (n drop : Nat) : Toward.even.cut neg n drop = rne n (2 ^ drop) := by
  have e : ∀ g, (n / g + (decide (g < 2 * (n % g)) || (g == 2 * (n % g) && n / g % 2 == 1)).toNat) = rne n g := fun g => by
    unfold rne
    congr 1
    by_cases h1 : g < 2 * (n % g)
    · simp [h1]
    · by_cases h2 : g = 2 * (n % g) ∧ n / g % 2 = 1
      · obtain ⟨h2, h3⟩ := h2
        rw [if_pos (.inr ⟨h2, h3⟩)]
        have h4 : (g == 2 * (n % g)) = true := by simpa using h2
        have h5 : (n / g % 2 == 1) = true := by simpa using h3
        rw [h4, h5]
        simp
      · rw [if_neg (by omega)]
        have h4 : (g == 2 * (n % g) && n / g % 2 == 1) = false := by
          rw [Bool.eq_false_iff]
          intro h
          rw [Bool.and_eq_true] at h
          exact h2 ⟨by simpa using h.1, by simpa using h.2⟩
        rw [h4]
        simp [h1]
  have e0 : Toward.even.cut neg n drop = n / (1 <<< min drop (n.log2 + 2)) + (decide (1 <<< min drop (n.log2 + 2) < 2 * (n % (1 <<< min drop (n.log2 + 2)))) || (1 <<< min drop (n.log2 + 2) == 2 * (n % (1 <<< min drop (n.log2 + 2))) && n / (1 <<< min drop (n.log2 + 2)) % 2 == 1)).toNat := rfl
  rw [e0, e, Nat.shiftLeft_eq, Nat.one_mul]
  rcases Nat.le_total drop (n.log2 + 2) with h | h
  · rw [Nat.min_eq_left h]
  · rw [Nat.min_eq_right h]
    have h1 : n < 2 ^ (n.log2 + 1) := Nat.lt_log2_self
    have h2 : 2 ^ (n.log2 + 2) = 2 * 2 ^ (n.log2 + 1) := by rw [Nat.pow_succ]; omega
    have h3 : 2 ^ (n.log2 + 2) ≤ 2 ^ drop := Nat.pow_le_pow_right (by decide) h
    rw [rne_small _ _ (by omega), rne_small _ _ (by omega)]

theorem log2_shift (m k : Nat) (hm : m ≠ 0) : (m * 2 ^ k).log2 = m.log2 + k := by
  have hne : m * 2 ^ k ≠ 0 := Nat.mul_ne_zero hm (by have := Nat.pow_pos (n := k) (show 0 < 2 by decide); omega)
  have h1 : m.log2 + k ≤ (m * 2 ^ k).log2 := by
    rw [Nat.le_log2 hne, Nat.pow_add]
    exact Nat.mul_le_mul_right _ (Nat.log2_self_le hm)
  have h2 : (m * 2 ^ k).log2 < m.log2 + 1 + k := by
    rw [Nat.log2_lt hne, Nat.pow_add]
    exact Nat.mul_lt_mul_of_pos_right Nat.lt_log2_self (Nat.pow_pos (by decide))
  omega

/-- The rung nearest to A, in units of 2 ^ -K. -/
def R (K A : Nat) : Nat := if A = 0 then 0 else (max (A.log2 - 52) (K - 1074) - (K - 1074)) * 4503599627370496 + rne A (2 ^ max (A.log2 - 52) (K - 1074))

theorem nearest_eq (neg : Bool) (m : Nat) (p : Int) (K k : Nat) (hK : 1074 ≤ K) (hk : p + K = k) : double.nearest neg m p = double.word neg (min (R K (m * 2 ^ k)) 9218868437227405312) := by
  unfold Format.nearest R
  by_cases hm : m = 0
  · subst hm
    simp
  · have hne : m * 2 ^ k ≠ 0 := Nat.mul_ne_zero hm (by have := Nat.pow_pos (n := k) (show 0 < 2 by decide); omega)
    rw [if_neg hm, if_neg hne, log2_shift m k hm]
    have hL : double.leastPlace = -1074 := rfl
    have hB : double.binade = 4503599627370496 := rfl
    have hI : double.infRung = 9218868437227405312 := rfl
    have hF : (double.fractionBits : Int) = 52 := rfl
    obtain ⟨e, he⟩ : ∃ e, e = max (m.log2 + k - 52) (K - 1074) := ⟨_, rfl⟩
    have hlast : max (p + m.log2 - double.fractionBits) double.leastPlace = (e : Int) - K := by
      rw [hL, hF, he]
      omega
    dsimp only
    rw [hlast, hL, hB, hI, ← he, show ((e : Int) - K - -1074).toNat = e - (K - 1074) by omega, cut_eq, Nat.shiftLeft_eq]
    congr 3
    rcases Nat.le_total e k with h | h
    · rw [show (p - ((e : Int) - K)).toNat = k - e by omega, show ((e : Int) - K - p).toNat = 0 by omega]
      have e1 : m * 2 ^ k = m * 2 ^ (k - e) * 2 ^ e := by rw [Nat.mul_assoc, ← Nat.pow_add, show k - e + e = k by omega]
      rw [e1]
      have := rne_scale (m * 2 ^ (k - e)) 1 (2 ^ e) (Nat.pow_pos (by decide))
      rw [Nat.one_mul] at this
      rw [this, Nat.pow_zero]
    · rw [show (p - ((e : Int) - K)).toNat = 0 by omega, show ((e : Int) - K - p).toNat = e - k by omega, Nat.pow_zero, Nat.mul_one]
      have e1 : 2 ^ e = 2 ^ (e - k) * 2 ^ k := by rw [← Nat.pow_add, show e - k + k = e by omega]
      rw [e1, rne_scale _ _ _ (Nat.pow_pos (by decide))]

theorem R_zero (K : Nat) : R K 0 = 0 := by simp [R]

theorem R_mono {K A A' : Nat} (h : A ≤ A') : R K A ≤ R K A' := by
  by_cases h0 : A = 0
  · rw [h0, R_zero]; omega
  · have h0' : A' ≠ 0 := by omega
    unfold R
    rw [if_neg h0, if_neg h0']
    have hl : A.log2 ≤ A'.log2 := by
      rw [Nat.le_log2 h0']
      exact Nat.le_trans (Nat.log2_self_le h0) h
    obtain ⟨b, hb⟩ : ∃ b, b = K - 1074 := ⟨_, rfl⟩
    rw [← hb]
    obtain ⟨e, he⟩ : ∃ e, e = max (A.log2 - 52) b := ⟨_, rfl⟩
    obtain ⟨e', he'⟩ : ∃ e, e = max (A'.log2 - 52) b := ⟨_, rfl⟩
    rw [← he, ← he']
    rcases Nat.lt_or_ge e e' with hlt | hge
    · -- another binade
      have h1 : A < 2 ^ (e + 53) := Nat.lt_of_lt_of_le Nat.lt_log2_self (Nat.pow_le_pow_right (by decide) (by omega))
      have h2 : A / 2 ^ e < 9007199254740992 := by
        rw [Nat.div_lt_iff_lt_mul (Nat.pow_pos (by decide))]
        rw [show (9007199254740992 : Nat) = 2 ^ 53 by decide, ← Nat.pow_add, Nat.add_comm]
        exact h1
      have h3 := (rne_le A (2 ^ e)).2
      have h4 : 2 ^ (e' + 52) ≤ A' := Nat.le_trans (Nat.pow_le_pow_right (by decide) (by omega)) (Nat.log2_self_le h0')
      have h5 : 4503599627370496 ≤ A' / 2 ^ e' := by
        rw [Nat.le_div_iff_mul_le (Nat.pow_pos (by decide))]
        rw [show (4503599627370496 : Nat) = 2 ^ 52 by decide, ← Nat.pow_add, Nat.add_comm]
        exact h4
      have h6 := (rne_le A' (2 ^ e')).1
      have h7 : (e - b) * 4503599627370496 + 4503599627370496 ≤ (e' - b) * 4503599627370496 := by
        have : e - b + 1 ≤ e' - b := by omega
        have := Nat.mul_le_mul_right 4503599627370496 this
        omega
      omega
    · have heq : e' = e := by omega
      rw [heq]
      have := rne_mono (b := 2 ^ e) h
      omega

/-- A float already. -/
theorem R_val (K r : Nat) : R K (val r * 2 ^ (K - 1074)) = r := by
  obtain ⟨b, hb⟩ : ∃ b, b = K - 1074 := ⟨_, rfl⟩
  by_cases h0 : r = 0
  · subst h0
    rw [val_zero, Nat.zero_mul, R_zero]
  · have hv : val r ≠ 0 := by
      have := val_mono (show 0 < r by omega)
      omega
    have hne : val r * 2 ^ b ≠ 0 := Nat.mul_ne_zero hv (by have := Nat.pow_pos (n := b) (show 0 < 2 by decide); omega)
    unfold R
    rw [← hb, if_neg hne, log2_shift _ _ hv]
    by_cases h1 : r < 4503599627370496
    · have e1 : val r = r := by unfold val; rw [if_pos h1]
      have h2 : r.log2 < 52 := by rw [Nat.log2_lt h0]; exact h1
      rw [e1, show max (r.log2 + b - 52) b = b by omega, rne_whole _ _ (Nat.pow_pos (by decide)), Nat.sub_self]
      omega
    · obtain ⟨f, hf⟩ : ∃ f, f = r % 4503599627370496 := ⟨_, rfl⟩
      obtain ⟨d, hd⟩ : ∃ d, r / 4503599627370496 = d + 1 := ⟨r / 4503599627370496 - 1, by omega⟩
      have e1 : val r = (4503599627370496 + f) * 2 ^ d := by unfold val; rw [if_neg h1, hd, hf]; rfl
      have h2 : (4503599627370496 + f).log2 = 52 := by
        have a1 : 52 ≤ (4503599627370496 + f).log2 := by rw [Nat.le_log2 (by omega)]; omega
        have a2 : (4503599627370496 + f).log2 < 53 := by rw [Nat.log2_lt (by omega)]; omega
        omega
      rw [e1, log2_shift _ _ (by omega), h2, show max (52 + d + b - 52) b = d + b by omega, Nat.mul_assoc, ← Nat.pow_add, rne_whole _ _ (Nat.pow_pos (by decide)), show d + b - b = d by omega]
      omega

theorem val_double (r : Nat) (h : 1 ≤ r) : val (r + 1) ≤ 2 * val r := by
  by_cases h1 : r + 1 < 4503599627370496
  · unfold val
    rw [if_pos h1, if_pos (by omega)]
    omega
  · by_cases h2 : r + 1 = 4503599627370496
    · have e : r = 4503599627370495 := by omega
      subst e
      decide
    · obtain ⟨f, hf⟩ : ∃ f, f = r % 4503599627370496 := ⟨_, rfl⟩
      obtain ⟨d, hd⟩ : ∃ d, r / 4503599627370496 = d + 1 := ⟨r / 4503599627370496 - 1, by omega⟩
      have e1 : val r = (4503599627370496 + f) * 2 ^ d := by unfold val; rw [if_neg (by omega), hd, hf]; rfl
      have e2 : val (r + 1) ≤ 9007199254740992 * 2 ^ d := by
        by_cases hq : f + 1 < 4503599627370496
        · have e3 : val (r + 1) = (4503599627370496 + (f + 1)) * 2 ^ d := by
            unfold val
            rw [if_neg h1, show (r + 1) % 4503599627370496 = f + 1 by omega, show (r + 1) / 4503599627370496 = d + 1 by omega]
            rfl
          rw [e3]
          exact Nat.mul_le_mul_right _ (by omega)
        · have e3 : val (r + 1) = 4503599627370496 * 2 ^ (d + 1) := by
            unfold val
            rw [if_neg h1, show (r + 1) % 4503599627370496 = 0 by omega, show (r + 1) / 4503599627370496 = d + 2 by omega]
            rfl
          rw [e3, Nat.pow_succ]
          omega
      rw [e1]
      have : 2 * ((4503599627370496 + f) * 2 ^ d) = (9007199254740992 + 2 * f) * 2 ^ d := by rw [← Nat.mul_assoc]; congr 1; omega
      rw [this]
      exact Nat.le_trans e2 (Nat.mul_le_mul_right _ (by omega))

end Go.Proofs.Ytoabhnbifbdknaa.EdgeMath
