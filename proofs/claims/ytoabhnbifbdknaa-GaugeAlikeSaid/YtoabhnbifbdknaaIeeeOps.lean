/- Where the four operations lead in the order of floats. -/
import Derived.Test.YtoabhnbifbdknaaIeeeRound
namespace Go.Proofs.Ytoabhnbifbdknaa.EdgeMath
open Ieee

/-- A float's place, -0 and 0 being one. -/
def ky (x : Nat) : Int := key (rk x)

/-- It is a number. -/
def Fn (x : Nat) : Prop := rk x ≠ 9218868437227405313 ∧ -9218868437227405312 < ky x ∧ ky x < 9218868437227405312

/-- The number at a place, in units of the least one. -/
def VK (k : Int) : Int := if k < 0 then -(val k.natAbs : Int) else (val k.natAbs : Int)

theorem VK_mono {a b : Int} (h : a ≤ b) : VK a ≤ VK b := by
  unfold VK
  split
  · split
    · have : val b.natAbs ≤ val a.natAbs := val_le.2 (by omega)
      omega
    · omega
  · rw [if_neg (by omega)]
    have : val a.natAbs ≤ val b.natAbs := val_le.2 (by omega)
    omega

theorem VK_zero : VK 0 = 0 := rfl

theorem sg_VK (s : Bool) (r : Nat) : sg s (val r) = VK (sg s r) := by
  unfold VK sg
  cases s
  · simp only [Bool.false_eq_true, if_false]
    rw [if_neg (by omega), Int.natAbs_natCast]
  · by_cases h : r = 0
    · subst h; rfl
    · simp only [if_true]
      rw [if_pos (by omega), show (-(r : Int)).natAbs = r by omega]

theorem fn_read {x : Nat} (h : Fn x) : ∃ s m u, double.read x = .number s m (-1074 + ((u : Nat) : Int)) ∧ sg s (m * 2 ^ u) = VK (ky x) ∧ m < 9007199254740992 ∧ (ky x < 0 → s = true) ∧ (0 < ky x → s = false) := by
  obtain ⟨h1, h2, h3⟩ := h
  have h4 : ¬ 9218868437227405312 < x % 9223372036854775808 := fun h => h1 (rk_nan h)
  have h5 := (rk_num h4).2
  have h6 : x % 9223372036854775808 < 9218868437227405312 := by
    unfold ky at h2 h3
    rw [h5] at h2 h3
    unfold sg at h2 h3
    split at h2
    · omega
    · rename_i hs
      rw [if_neg hs] at h3
      omega
  have e : double.read x = (if x % 9223372036854775808 < 4503599627370496 then .number (x / 9223372036854775808 % 2 == 1) (x % 9223372036854775808) (-1074)
      else if x % 9223372036854775808 < 9218868437227405312 then .number (x / 9223372036854775808 % 2 == 1) (4503599627370496 + x % 9223372036854775808 % 4503599627370496) (-1074 + (x % 9223372036854775808 / 4503599627370496 - 1 : Nat))
      else if x % 9223372036854775808 = 9218868437227405312 then .infinity (x / 9223372036854775808 % 2 == 1) else .nan (x / 9223372036854775808 % 2 == 1) (x % 9223372036854775808 - 9218868437227405312)) := rfl
  obtain ⟨m, u, hr, hm⟩ := read_number x h6
  refine ⟨_, m, u, hr, ?_, ?_, fun h => ?_, fun h => ?_⟩
  · unfold ky
    rw [hm, h5]
    exact sg_VK _ _
  · rw [e] at hr
    split at hr
    · injection hr with _ hr _; omega
    · injection hr with _ hr _; omega
  · unfold ky at h
    rw [h5] at h
    unfold sg at h
    split at h
    · assumption
    · omega
  · unfold ky at h
    rw [h5] at h
    unfold sg at h
    split at h
    · omega
    · rename_i hs; simpa using hs

theorem word_key (s : Bool) (r : Nat) (h : r ≤ 9218868437227405312) : ky (double.word s r) = sg s r ∧ rk (double.word s r) ≠ 9218868437227405313 := by
  have e : double.word s r = if s then 9223372036854775808 + r else r := rfl
  have hlt : ¬ 9218868437227405312 < double.word s r % 9223372036854775808 := by
    rw [e]
    split <;> omega
  obtain ⟨h1, h2⟩ := rk_num hlt
  refine ⟨?_, h1⟩
  unfold ky
  rw [h2, e]
  cases s
  · simp only [Bool.false_eq_true, if_false]
    rw [show (r / 9223372036854775808 % 2 == 1) = false by rw [show r / 9223372036854775808 = 0 by omega]; rfl, show r % 9223372036854775808 = r by omega]
  · simp only [if_true]
    rw [show ((9223372036854775808 + r) / 9223372036854775808 % 2 == 1) = true by rw [show (9223372036854775808 + r) / 9223372036854775808 = 1 by omega]; rfl, show (9223372036854775808 + r) % 9223372036854775808 = r by omega]

/-- Rounded, as a place. -/
def sf (z : Int) : Int := sg (decide (z < 0)) (min (R 1074 z.natAbs) 9218868437227405312)

theorem sf_mono {a b : Int} (h : a ≤ b) : sf a ≤ sf b := by
  unfold sf sg
  by_cases ha : a < 0
  · by_cases hb : b < 0
    · have := R_mono (K := 1074) (show b.natAbs ≤ a.natAbs by omega)
      simp only [ha, hb, decide_true, if_true]
      omega
    · simp only [ha, hb, decide_true, decide_false, if_true, Bool.false_eq_true, if_false]
      omega
  · have hb : ¬ b < 0 := by omega
    have := R_mono (K := 1074) (show a.natAbs ≤ b.natAbs by omega)
    simp only [ha, hb, decide_false, Bool.false_eq_true, if_false]
    omega

theorem VK_abs (k : Int) : (VK k).natAbs = val k.natAbs ∧ (VK k < 0 ↔ k < 0) := by
  unfold VK
  split
  · rename_i h
    have : 0 < val k.natAbs := by
      have := val_mono (show 0 < k.natAbs by omega)
      rw [val_zero] at this
      exact this
    exact ⟨by omega, by omega⟩
  · exact ⟨by omega, by omega⟩

theorem sf_VK (k : Int) (h1 : -9218868437227405312 ≤ k) (h2 : k ≤ 9218868437227405312) : sf (VK k) = k := by
  obtain ⟨a1, a2⟩ := VK_abs k
  have a3 : R 1074 (val k.natAbs) = k.natAbs := by
    have := R_val 1074 k.natAbs
    simpa using this
  unfold sf
  rw [a1, a3, show decide (VK k < 0) = decide (k < 0) by rw [decide_eq_decide]; exact a2]
  unfold sg
  by_cases h : k < 0
  · simp only [h, decide_true, if_true]; omega
  · simp only [h, decide_false, Bool.false_eq_true, if_false]; omega

theorem sum_key (s t : Bool) (m n u v : Nat) : ∃ b, ((Datum.number s m (-1074 + (u : Int))).sum (.number t n (-1074 + (v : Int)))).map double.write = some b ∧ ky b = sf (sg s (m * 2 ^ u) + sg t (n * 2 ^ v)) ∧ rk b ≠ 9218868437227405313 := by
  obtain ⟨b, hb⟩ : ∃ b : Nat, b = min u v := ⟨_, rfl⟩
  have e : ∀ (s : Bool) (m u : Nat), signed s m u = sg s (m * 2 ^ u) := fun s m u => by simp [signed, sg, Nat.shiftLeft_eq]
  obtain ⟨T, hT⟩ : ∃ T : Int, T = sg s (m * 2 ^ (u - b)) + sg t (n * 2 ^ (v - b)) := ⟨_, rfl⟩
  have hTb : T * ((2 ^ b : Nat) : Int) = sg s (m * 2 ^ u) + sg t (n * 2 ^ v) := by
    rw [hT, Int.add_mul, sg_mul, sg_mul, Nat.mul_assoc, Nat.mul_assoc, ← Nat.pow_add, ← Nat.pow_add, show u - b + b = u by omega, show v - b + b = v by omega]
  have hs : (Datum.number s m (-1074 + (u : Int))).sum (.number t n (-1074 + (v : Int))) = some (.number (if T = 0 then s && t else decide (T < 0)) T.natAbs (-1074 + (b : Int))) := by
    unfold Datum.sum
    have hmin : min (-1074 + (u : Int)) (-1074 + (v : Int)) = -1074 + (b : Int) := by omega
    simp only [hmin]
    rw [show (-1074 + (u : Int) - (-1074 + (b : Int))).toNat = u - b by omega, show (-1074 + (v : Int) - (-1074 + (b : Int))).toNat = v - b by omega, e, e, ← hT]
  have hw : double.write (.number (if T = 0 then s && t else decide (T < 0)) T.natAbs (-1074 + (b : Int))) = double.word (if T = 0 then s && t else decide (T < 0)) (min (R 1074 (T.natAbs * 2 ^ b)) 9218868437227405312) := nearest_eq _ _ _ 1074 b (by omega) (by omega)
  refine ⟨_, by rw [hs]; rfl, ?_⟩
  rw [hw]
  obtain ⟨h1, h2⟩ := word_key (if T = 0 then s && t else decide (T < 0)) (min (R 1074 (T.natAbs * 2 ^ b)) 9218868437227405312) (by omega)
  refine ⟨?_, h2⟩
  rw [h1, ← hTb]
  have hp : 0 < 2 ^ b := Nat.pow_pos (by decide)
  by_cases h0 : T = 0
  · subst h0
    simp [sf, R_zero, sg]
  · rw [if_neg h0]
    unfold sf
    have a1 : (T * ((2 ^ b : Nat) : Int)).natAbs = T.natAbs * 2 ^ b := by rw [Int.natAbs_mul, Int.natAbs_natCast]
    have a2 : decide (T * ((2 ^ b : Nat) : Int) < 0) = decide (T < 0) := by
      rw [decide_eq_decide]
      constructor
      · intro h
        rcases Int.lt_or_le T 0 with h3 | h3
        · exact h3
        · have := Int.mul_nonneg h3 (show (0 : Int) ≤ ((2 ^ b : Nat) : Int) by omega)
          omega
      · intro h
        exact Int.mul_neg_of_neg_of_pos h (by omega)
    rw [a1, a2]

theorem sg_not (s : Bool) (n : Nat) : sg (!s) n = -sg s n := by
  cases s <;> simp [sg]

theorem add_key {x y : Nat} (hx : Fn x) (hy : Fn y) : ky (fop .add x y) = sf (VK (ky x) + VK (ky y)) ∧ rk (fop .add x y) ≠ 9218868437227405313 := by
  obtain ⟨s, m, u, hrx, hvx, -⟩ := fn_read hx
  obtain ⟨t, n, v, hry, hvy, -⟩ := fn_read hy
  obtain ⟨b, h1, h2, h3⟩ := sum_key s t m n u v
  have e : floatBits .add .f64 x y = some b := by
    show ((double.read x).sum (double.read y)).map double.write = some b
    rw [hrx, hry]
    exact h1
  unfold fop
  rw [e, ← hvx, ← hvy]
  exact ⟨h2, h3⟩

theorem sub_key {x y : Nat} (hx : Fn x) (hy : Fn y) : ky (fop .sub x y) = sf (VK (ky x) - VK (ky y)) ∧ rk (fop .sub x y) ≠ 9218868437227405313 := by
  obtain ⟨s, m, u, hrx, hvx, -⟩ := fn_read hx
  obtain ⟨t, n, v, hry, hvy, -⟩ := fn_read hy
  obtain ⟨b, h1, h2, h3⟩ := sum_key s (!t) m n u v
  have e : floatBits .sub .f64 x y = some b := by
    show ((double.read x).sum (double.read y).opposite).map double.write = some b
    rw [hrx, hry]
    exact h1
  unfold fop
  rw [e, ← hvx, ← hvy, Int.sub_eq_add_neg, ← sg_not]
  exact ⟨h2, h3⟩

/-- A product of numbers of one sign is not below 0. -/
theorem mul_key {x y : Nat} (hx : Fn x) (hy : Fn y) (h : 0 ≤ ky x ∧ 0 ≤ ky y ∨ ky x ≤ 0 ∧ ky y ≤ 0) : 0 ≤ ky (fop .mul x y) ∧ rk (fop .mul x y) ≠ 9218868437227405313 ∧ (ky x = 0 → ky (fop .mul x y) = 0) := by
  obtain ⟨s, m, u, hrx, hvx, -, hx1, hx2⟩ := fn_read hx
  obtain ⟨t, n, v, hry, hvy, -, hy1, hy2⟩ := fn_read hy
  have e : floatBits .mul .f64 x y = some (double.nearest (s ^^ t) (m * n) (-1074 + (u : Int) + (-1074 + (v : Int)))) := by
    show ((double.read x).product (double.read y)).map double.write = _
    rw [hrx, hry]
    rfl
  have hn := nearest_eq (s ^^ t) (m * n) (-1074 + (u : Int) + (-1074 + (v : Int))) 2148 (u + v) (by omega) (by omega)
  obtain ⟨h1, h2⟩ := word_key (s ^^ t) (min (R 2148 (m * n * 2 ^ (u + v))) 9218868437227405312) (by omega)
  unfold fop
  rw [e, hn]
  show 0 ≤ ky (double.word _ _) ∧ _ ∧ _
  have hzm : ky x = 0 → m = 0 := fun hk => by
    rw [hk, VK_zero] at hvx
    have : m * 2 ^ u = 0 := by unfold sg at hvx; split at hvx <;> omega
    rcases Nat.mul_eq_zero.1 this with h | h
    · exact h
    · have := Nat.pow_pos (n := u) (show 0 < 2 by decide); omega
  have hzn : ky y = 0 → n = 0 := fun hk => by
    rw [hk, VK_zero] at hvy
    have : n * 2 ^ v = 0 := by unfold sg at hvy; split at hvy <;> omega
    rcases Nat.mul_eq_zero.1 this with h | h
    · exact h
    · have := Nat.pow_pos (n := v) (show 0 < 2 by decide); omega
  refine ⟨?_, h2, fun hk => ?_⟩
  · rw [h1]
    by_cases hkx : ky x = 0
    · rw [hzm hkx, Nat.zero_mul, Nat.zero_mul, R_zero]
      unfold sg
      split <;> omega
    · by_cases hky : ky y = 0
      · rw [hzn hky, Nat.mul_zero, Nat.zero_mul, R_zero]
        unfold sg
        split <;> omega
      · have hst : (s ^^ t) = false := by
          rcases h with ⟨a, b⟩ | ⟨a, b⟩
          · rw [hx2 (by omega), hy2 (by omega)]; rfl
          · rw [hx1 (by omega), hy1 (by omega)]; rfl
        rw [hst]
        unfold sg
        simp only [Bool.false_eq_true, if_false]
        omega
  · show ky (double.word _ _) = 0
    rw [h1, hzm hk, Nat.zero_mul, Nat.zero_mul, R_zero]
    unfold sg
    split <;> omega

/-- A whole number from 2 on, as a float is read. -/
def Whole (y : Nat) : Prop := ∃ n j : Nat, double.read y = .number false n (-(j : Int)) ∧ j ≤ 53 ∧ 2 ^ (j + 1) ≤ n

theorem quo_key {x y : Nat} (hx : Fn x) (hy : Whole y) : rk (fop .quo x y) ≠ 9218868437227405313 ∧ (0 ≤ ky x → 0 ≤ ky (fop .quo x y)) ∧ (ky x ≤ 0 → ky (fop .quo x y) ≤ 0) ∧ ∀ r : Nat, val (ky x).natAbs ≤ 2 * val r → (ky (fop .quo x y)).natAbs ≤ r := by
  obtain ⟨s, m, u, hrx, hvx, hm, hx1, hx2⟩ := fn_read hx
  obtain ⟨n, j, hry, hj, hn⟩ := hy
  have hn0 : n ≠ 0 := by
    have := Nat.pow_pos (n := j + 1) (show 0 < 2 by decide)
    omega
  obtain ⟨more, hmore⟩ : ∃ k, k = 54 + n.log2 - m.log2 := ⟨_, rfl⟩
  have hml : m.log2 ≤ 52 := by
    by_cases h0 : m = 0
    · subst h0; decide
    · have : m.log2 < 53 := by rw [Nat.log2_lt h0]; exact hm
      omega
  have hnl : j + 1 ≤ n.log2 := by rw [Nat.le_log2 hn0]; exact hn
  have hmj : j ≤ more := by omega
  obtain ⟨Q, hQ⟩ : ∃ Q, Q = 2 * (m * 2 ^ more / n) + (m * 2 ^ more % n != 0).toNat := ⟨_, rfl⟩
  have e : floatBits .quo .f64 x y = some (double.nearest (s ^^ false) Q (-1074 + (u : Int) - -(j : Int) - more - 1)) := by
    show ((double.read x).quotient 54 (double.read y)).map double.write = _
    rw [hrx, hry]
    show (Option.map double.write (if n = 0 then (if m = 0 then none else some (Datum.infinity (s ^^ false))) else some (Datum.number (s ^^ false) (2 * ((m <<< (54 + n.log2 - m.log2)) / n) + ((m <<< (54 + n.log2 - m.log2)) % n != 0).toNat) (-1074 + (u : Int) - -(j : Int) - ((54 + n.log2 - m.log2 : Nat) : Int) - 1)))) = _
    rw [if_neg hn0, ← hmore, Nat.shiftLeft_eq, ← hQ]
    rfl
  have hQle : Q ≤ m * 2 ^ (more - j) := by
    have e1 : m * 2 ^ more = m * 2 ^ (more - j) * 2 ^ j := by rw [Nat.mul_assoc, ← Nat.pow_add, show more - j + j = more by omega]
    obtain ⟨T, hT⟩ : ∃ T, T = m * 2 ^ (more - j) := ⟨_, rfl⟩
    obtain ⟨D, hD⟩ : ∃ D, D = m * 2 ^ more := ⟨_, rfl⟩
    obtain ⟨p, hp⟩ : ∃ p, p = 2 ^ j := ⟨_, rfl⟩
    have hn2 : 2 * p ≤ n := by rw [hp, Nat.mul_comm, ← Nat.pow_succ]; exact hn
    rw [← hT] at e1 ⊢
    rw [← hD, ← hp] at e1
    rw [← hD] at hQ
    have h1 := Nat.div_add_mod D n
    obtain ⟨f, hf⟩ : ∃ f, f = D / n := ⟨_, rfl⟩
    obtain ⟨ρ, hρ⟩ : ∃ f, f = D % n := ⟨_, rfl⟩
    rw [← hf, ← hρ] at h1 hQ
    have h2 : 2 * (T * p) ≤ T * n := by
      have := Nat.mul_le_mul_left T hn2
      rw [← Nat.mul_assoc, Nat.mul_comm T 2, Nat.mul_assoc] at this
      exact this
    have h3 : n * (2 * f) = 2 * (n * f) := by rw [← Nat.mul_assoc, Nat.mul_comm n 2, Nat.mul_assoc]
    by_cases hr0 : ρ = 0
    · have h4 : Q = 2 * f := by rw [hQ, hr0]; rfl
      rw [h4]
      have h5 : n * (2 * f) ≤ n * T := by rw [h3, Nat.mul_comm n T]; omega
      exact Nat.le_of_mul_le_mul_left h5 (by omega)
    · have h4 : Q = 2 * f + 1 := by
        rw [hQ, show (ρ != 0) = true by simpa using hr0]
        rfl
      rw [h4]
      have h5 : n * (2 * f) < n * T := by rw [h3, Nat.mul_comm n T]; omega
      exact Nat.lt_of_mul_lt_mul_left h5
  have hq := nearest_eq (s ^^ false) Q (-1074 + (u : Int) - -(j : Int) - more - 1) (1074 + more + 1) (u + j) (by omega) (by omega)
  obtain ⟨h1, h2⟩ := word_key (s ^^ false) (min (R (1074 + more + 1) (Q * 2 ^ (u + j))) 9218868437227405312) (by omega)
  have hk : ky (fop .quo x y) = sg (s ^^ false) (min (R (1074 + more + 1) (Q * 2 ^ (u + j))) 9218868437227405312) := by
    unfold fop
    rw [e, hq]
    exact h1
  have habs : val (ky x).natAbs = m * 2 ^ u := by
    have := (VK_abs (ky x)).1
    rw [← hvx] at this
    rw [← this]
    unfold sg
    split <;> omega
  have hbound : ∀ r : Nat, val (ky x).natAbs ≤ 2 * val r → R (1074 + more + 1) (Q * 2 ^ (u + j)) ≤ r := fun r hr => by
    have h3 : Q * 2 ^ (u + j) ≤ val r * 2 ^ (more + 1) := by
      have a1 : Q * 2 ^ (u + j) ≤ m * 2 ^ (more - j) * 2 ^ (u + j) := Nat.mul_le_mul_right _ hQle
      have a2 : m * 2 ^ (more - j) * 2 ^ (u + j) = m * 2 ^ u * 2 ^ more := by
        rw [Nat.mul_assoc, Nat.mul_assoc, ← Nat.pow_add, ← Nat.pow_add]
        congr 2
        omega
      have a3 : m * 2 ^ u * 2 ^ more ≤ 2 * val r * 2 ^ more := Nat.mul_le_mul_right _ (by rw [← habs]; exact hr)
      have a4 : 2 * val r * 2 ^ more = val r * 2 ^ (more + 1) := by rw [Nat.pow_succ, Nat.mul_comm 2 (val r), Nat.mul_assoc, Nat.mul_comm 2]
      omega
    have h4 := R_mono (K := 1074 + more + 1) h3
    have h5 := R_val (1074 + more + 1) r
    rw [show 1074 + more + 1 - 1074 = more + 1 by omega] at h5
    omega
  refine ⟨?_, fun hk0 => ?_, fun hk0 => ?_, fun r hr => ?_⟩
  · unfold fop
    rw [e, hq]
    exact h2
  · rw [hk]
    by_cases hz : ky x = 0
    · have := hbound 0 (by rw [hz]; exact Nat.zero_le _)
      unfold sg
      split <;> omega
    · rw [hx2 (by omega)]
      unfold sg
      simp only [Bool.xor_false, Bool.false_eq_true, if_false]
      omega
  · rw [hk]
    by_cases hz : ky x = 0
    · have := hbound 0 (by rw [hz]; exact Nat.zero_le _)
      unfold sg
      split <;> omega
    · rw [hx1 (by omega)]
      unfold sg
      simp only [Bool.xor_false, if_true]
      omega
  · have := hbound r hr
    rw [hk]
    unfold sg
    split <;> omega

/-- The root of nothing. -/
theorem sqrt_key {x : Nat} (hx : Fn x) (h : ky x = 0) : ky (fsqrt x) = 0 ∧ rk (fsqrt x) ≠ 9218868437227405313 := by
  obtain ⟨s, m, u, hrx, hvx, -⟩ := fn_read hx
  have hm : m = 0 := by
    rw [h, VK_zero] at hvx
    have : m * 2 ^ u = 0 := by unfold sg at hvx; split at hvx <;> omega
    rcases Nat.mul_eq_zero.1 this with h | h
    · exact h
    · have := Nat.pow_pos (n := u) (show 0 < 2 by decide); omega
  subst hm
  have e : FloatKind.f64.format.sqrt x = some (double.word s 0) := by
    show ((double.read x).root 54).map double.write = _
    rw [hrx]
    rfl
  obtain ⟨h1, h2⟩ := word_key s 0 (by omega)
  unfold fsqrt
  rw [e]
  refine ⟨?_, h2⟩
  show ky (double.word s 0) = 0
  rw [h1]
  unfold sg
  split <;> omega

end Go.Proofs.Ytoabhnbifbdknaa.EdgeMath
