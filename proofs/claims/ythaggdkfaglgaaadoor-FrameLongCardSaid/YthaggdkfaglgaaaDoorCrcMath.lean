/- Plain facts on registers of 32 bits and on the sums that layer 2 makes of texts. No program is named here. -/
import Derived.Laws.BitsAllLaws
namespace Go.Proofs.YthaggdkfaglgaaaDoor.CrcMath
set_option maxRecDepth 20000

/-- The sum's polynomial, without its greatest power; the polynomial 1. -/
def D : BitVec 32 := 2197175160#32
def one : BitVec 32 := 2147483648#32

/-- One bit 0 worked through a register. -/
def S (c : BitVec 32) : BitVec 32 := (c >>> 1) ^^^ (if c.getLsbD 0 then D else 0#32)

theorem xor4 (a b c d : BitVec 32) : (a ^^^ b) ^^^ (c ^^^ d) = (a ^^^ c) ^^^ (b ^^^ d) := by ac_rfl

theorem S_xor (a b : BitVec 32) : S (a ^^^ b) = S a ^^^ S b := by
  unfold S
  rw [BitVec.ushiftRight_xor_distrib, BitVec.getLsbD_xor, xor4]
  congr 1
  cases a.getLsbD 0 <;> cases b.getLsbD 0 <;> simp

theorem S_zero : S 0#32 = 0#32 := by decide

/-- n bits 0 worked through a register. -/
def P : Nat → BitVec 32 → BitVec 32
  | 0, c => c
  | n + 1, c => S (P n c)

theorem P_xor (n : Nat) (a b : BitVec 32) : P n (a ^^^ b) = P n a ^^^ P n b := by
  induction n with
  | zero => rfl
  | succ n ih => rw [P, ih, S_xor]; rfl

theorem P_zero (n : Nat) : P n 0#32 = 0#32 := by
  induction n with
  | zero => rfl
  | succ n ih => rw [P, ih, S_zero]

theorem P_add (m n : Nat) (c : BitVec 32) : P (m + n) c = P m (P n c) := by
  induction m with
  | zero => simp [P]
  | succ m ih => rw [show m + 1 + n = (m + n) + 1 by omega, P, ih]; rfl

theorem P_S (n : Nat) (c : BitVec 32) : P n (S c) = S (P n c) := by
  have := P_add n 1 c
  simpa [P] using this.symm

/-- The product's loop: k bits of a are left. -/
def mul : Nat → BitVec 32 → BitVec 32 → BitVec 32
  | 0, _, _ => 0#32
  | k + 1, a, b => (if a.getLsbD 31 then b else 0#32) ^^^ mul k (a <<< 1) (S b)

theorem mul_zero (k : Nat) (b : BitVec 32) : mul k 0#32 b = 0#32 := by
  induction k generalizing b with
  | zero => rfl
  | succ k ih => rw [mul, show (0#32 <<< 1) = 0#32 by decide, ih]; simp

theorem mul_S (k : Nat) (a b : BitVec 32) : mul k a (S b) = S (mul k a b) := by
  induction k generalizing a b with
  | zero => exact S_zero.symm
  | succ k ih =>
    rw [mul, ih, mul, S_xor]
    cases a.getLsbD 31 <;> simp [S_zero]

theorem mul_P (k n : Nat) (a b : BitVec 32) : mul k a (P n b) = P n (mul k a b) := by
  induction n with
  | zero => rfl
  | succ n ih => rw [P, mul_S, ih]; rfl

theorem S_one (m : Nat) (h : m < 31) : S (one >>> m) = one >>> (m + 1) := by
  have : ∀ m : Fin 31, S (one >>> m.val) = one >>> (m.val + 1) := by decide +kernel
  exact this ⟨m, h⟩

theorem mul_one_at (k : Nat) (hk : k ≤ 32) (a : BitVec 32) : mul k a (one >>> (32 - k)) = a >>> (32 - k) := by
  induction k generalizing a with
  | zero =>
    rw [mul]
    apply BitVec.eq_of_getLsbD_eq
    intro i hi
    simp
  | succ k ih =>
    obtain ⟨m, hm⟩ : ∃ m, m = 32 - (k + 1) := ⟨_, rfl⟩
    rw [← hm, mul]
    have h1 : mul k (a <<< 1) (S (one >>> m)) = (a <<< 1) >>> (m + 1) := by
      rcases Nat.eq_zero_or_pos k with h0 | h0
      · subst h0
        have : m + 1 = 32 := by omega
        rw [mul, this]
        apply BitVec.eq_of_getLsbD_eq
        intro i hi
        simp
      · rw [S_one m (by omega), show m + 1 = 32 - k by omega]
        exact ih (by omega) _
    rw [h1]
    apply BitVec.eq_of_getLsbD_eq
    intro i hi
    have ho : (one >>> m).getLsbD i = decide (m + i = 31) := by
      rw [BitVec.getLsbD_ushiftRight]
      have : ∀ j : Fin 64, one.getLsbD j.val = decide (j.val = 31) := by decide +kernel
      exact this ⟨m + i, by omega⟩
    by_cases he : m + i = 31
    · have h4 : ((a <<< 1) >>> (m + 1)).getLsbD i = false := by
        rw [BitVec.getLsbD_ushiftRight, BitVec.getLsbD_of_ge _ _ (by omega)]
      rw [BitVec.getLsbD_ushiftRight, he, BitVec.getLsbD_xor, h4]
      cases ha : a.getLsbD 31
      · simp
      · simp only [if_true, ho]
        simp [he]
    · have h3 : a.getLsbD (m + i) = ((a <<< 1) >>> (m + 1)).getLsbD i := by
        simp only [BitVec.getLsbD_ushiftRight, BitVec.getLsbD_shiftLeft]
        by_cases hl : m + i < 31
        · have e1 : m + 1 + i - 1 = m + i := by omega
          simp [e1, show m + 1 + i < 32 by omega]
        · rw [BitVec.getLsbD_of_ge _ _ (by omega)]
          simp
          omega
      rw [BitVec.getLsbD_ushiftRight, h3, BitVec.getLsbD_xor]
      cases ha : a.getLsbD 31 <;> simp [ho, he]

/-- The product of two registers. -/
def times (a b : BitVec 32) : BitVec 32 := mul 32 a b

theorem times_one (a : BitVec 32) : times a one = a := by
  have := mul_one_at 32 (by omega) a
  simpa [times] using this

theorem times_P (n : Nat) (a : BitVec 32) : times a (P n one) = P n a := by
  unfold times
  rw [mul_P]
  exact congrArg (P n) (times_one a)

theorem times_PP (m n : Nat) : times (P m one) (P n one) = P (n + m) one := by rw [times_P, P_add]

/-- A byte in the lowest bits of a register. -/
def zx (x : UInt8) : BitVec 32 := BitVec.ofNat 32 x.toNat

theorem zx_xor (a b : UInt8) : zx (a ^^^ b) = zx a ^^^ zx b := by
  apply BitVec.eq_of_toNat_eq
  have ha := a.toNat_lt
  have hb := b.toNat_lt
  have hx : a.toNat ^^^ b.toNat < 2 ^ 8 := Nat.xor_lt_two_pow ha hb
  simp [zx, BitVec.toNat_xor, BitVec.toNat_ofNat]

/-- A text worked through a register. -/
def R : List UInt8 → BitVec 32 → BitVec 32
  | [], c => c
  | x :: l, c => R l (P 8 (c ^^^ zx x))

theorem R_append (l m : List UInt8) (c : BitVec 32) : R (l ++ m) c = R m (R l c) := by
  induction l generalizing c with
  | nil => rfl
  | cons x l ih => exact ih _

theorem R_xor (l : List UInt8) (c d : BitVec 32) : R l (c ^^^ d) = R l c ^^^ P (8 * l.length) d := by
  induction l generalizing c d with
  | nil => rfl
  | cons x l ih =>
    rw [R, show c ^^^ d ^^^ zx x = (c ^^^ zx x) ^^^ d by ac_rfl, P_xor, ih, ← P_add]
    rw [R, List.length_cons, show 8 * l.length + 8 = 8 * (l.length + 1) by omega]

/-- The sum of a text, and of a text behind another sum. -/
def more (s : BitVec 32) (l : List UInt8) : BitVec 32 := ~~~ (R l (~~~ s))
def sum (l : List UInt8) : BitVec 32 := more 0#32 l
def join (a b : BitVec 32) (n : Nat) : BitVec 32 := P (8 * n) a ^^^ b

theorem not_xor (a b : BitVec 32) : ~~~ (a ^^^ b) = b ^^^ ~~~ a := by
  apply BitVec.eq_of_getLsbD_eq
  intro i hi
  simp [hi]
  cases a[i] <;> cases b[i] <;> rfl

theorem more_sum (x y : List UInt8) : more (sum x) y = sum (x ++ y) := by
  unfold sum
  unfold more
  rw [BitVec.not_not, R_append]

theorem not_not_xor (a : BitVec 32) : (~~~ 0#32) ^^^ ~~~ a = a := by
  apply BitVec.eq_of_getLsbD_eq
  intro i hi
  rw [BitVec.getLsbD_xor, BitVec.getLsbD_not, BitVec.getLsbD_not]
  cases a.getLsbD i <;> simp [hi]

theorem join_sum (x y : List UInt8) : join (sum x) (sum y) y.length = sum (x ++ y) := by
  have e : R x (~~~ 0#32) = (~~~ 0#32) ^^^ sum x := by
    unfold sum
    unfold more
    exact (not_not_xor _).symm
  rw [join]
  show _ = ~~~ (R (x ++ y) (~~~ 0#32))
  rw [R_append, e, R_xor, not_xor]
  rfl

theorem join_join (a b c : BitVec 32) (n m : Nat) : join (join a b n) c m = join a (join b c m) (n + m) := by
  unfold join
  rw [P_xor, ← P_add, show 8 * m + 8 * n = 8 * (n + m) by omega]
  ac_rfl

theorem join_nil (s : BitVec 32) : join s 0#32 0 = s := by simp [join, P]

theorem sum_nil : sum [] = 0#32 := by decide
theorem more_nil (s : BitVec 32) : more s [] = s := by simp [more, R]

/-- Half a byte, by the table. -/
def T (k : Nat) : BitVec 32 := P 4 (BitVec.ofNat 32 k)

theorem S_up (x : BitVec 32) (k : Nat) (h : x.toNat < 2 ^ 28) (hk : k < 4) : S (x <<< (k + 1)) = x <<< k := by
  have h0 : (x <<< (k + 1)).getLsbD 0 = false := by simp
  unfold S
  rw [h0]
  apply BitVec.eq_of_getLsbD_eq
  intro i hi
  simp only [Bool.false_eq_true, if_false, BitVec.xor_zero, BitVec.getLsbD_ushiftRight, BitVec.getLsbD_shiftLeft]
  by_cases h1 : i < 31
  · have e : 1 + i - (k + 1) = i - k := by omega
    rw [e]
    simp only [show 1 + i < 32 by omega, hi, decide_true, Bool.true_and]
    by_cases h2 : i < k
    · simp [h2, show 1 + i < k + 1 by omega]
    · simp [h2, show ¬ 1 + i < k + 1 by omega]
  · have hi31 : i = 31 := by omega
    subst hi31
    have : x.getLsbD (31 - k) = false := by
      rw [← BitVec.testBit_toNat]
      exact Nat.testBit_lt_two_pow (Nat.lt_of_lt_of_le h (Nat.pow_le_pow_right (by decide) (by omega)))
    simp [this]

theorem half_eq (c : BitVec 32) : (c >>> 4) ^^^ T (c.toNat % 16) = P 4 c := by
  have hx : (c >>> 4).toNat < 2 ^ 28 := by
    rw [BitVec.toNat_ushiftRight, Nat.shiftRight_eq_div_pow]
    have := c.isLt
    omega
  have e : c = ((c >>> 4) <<< 4) ^^^ BitVec.ofNat 32 (c.toNat % 16) := by
    apply BitVec.eq_of_getLsbD_eq
    intro i hi
    have ht : (c.toNat % 16).testBit i = (decide (i < 4) && c.getLsbD i) := by
      rw [show (16 : Nat) = 2 ^ 4 by decide, Nat.testBit_mod_two_pow, BitVec.testBit_toNat]
    rw [BitVec.getLsbD_xor, BitVec.getLsbD_ofNat, ht, BitVec.getLsbD_shiftLeft, BitVec.getLsbD_ushiftRight]
    by_cases h : i < 4
    · simp [h, hi]
    · have e4 : 4 + (i - 4) = i := by omega
      simp [h, hi, e4]
  have h4 : P 4 ((c >>> 4) <<< 4) = c >>> 4 := by
    show S (S (S (S ((c >>> 4) <<< (3 + 1))))) = _
    rw [S_up _ 3 hx (by omega), S_up _ 2 hx (by omega), S_up _ 1 hx (by omega), S_up _ 0 hx (by omega)]
    simp
  conv => rhs; rw [e, P_xor, h4]
  rfl

/-- A whole byte, by the table. -/
def half (c : BitVec 32) : BitVec 32 := (c >>> 4) ^^^ T (c.toNat % 16)
theorem half_half (c : BitVec 32) : half (half c) = P 8 c := by
  unfold half
  rw [half_eq, half_eq, ← P_add]

/- Of three texts. -/
def x3 : List UInt8 → List UInt8 → List UInt8 → List UInt8
  | a :: l, b :: m, c :: n => (a ^^^ b ^^^ c) :: x3 l m n
  | _, _, _ => []

theorem R_x3 (l m n : List UInt8) (a b c : BitVec 32) (h1 : m.length = l.length) (h2 : n.length = l.length) : R (x3 l m n) (a ^^^ b ^^^ c) = R l a ^^^ R m b ^^^ R n c := by
  induction l generalizing m n a b c with
  | nil =>
    obtain rfl := List.eq_nil_of_length_eq_zero h1
    obtain rfl := List.eq_nil_of_length_eq_zero h2
    rfl
  | cons x l ih =>
    cases m with
    | nil => simp at h1
    | cons y m =>
      cases n with
      | nil => simp at h2
      | cons z n =>
        rw [x3, R, zx_xor, zx_xor, R, R, R]
        rw [show (a ^^^ b ^^^ c) ^^^ (zx x ^^^ zx y ^^^ zx z) = (a ^^^ zx x) ^^^ (b ^^^ zx y) ^^^ (c ^^^ zx z) by ac_rfl, P_xor, P_xor]
        exact ih m n _ _ _ (by simpa using h1) (by simpa using h2)

theorem sum_x3 (l m n : List UInt8) (h1 : m.length = l.length) (h2 : n.length = l.length) : sum (x3 l m n) = sum l ^^^ sum m ^^^ sum n := by
  have h := R_x3 l m n (~~~ 0#32) (~~~ 0#32) (~~~ 0#32) h1 h2
  have e : (~~~ 0#32) ^^^ (~~~ 0#32) ^^^ (~~~ 0#32) = ~~~ 0#32 := by decide
  rw [e] at h
  unfold sum
  unfold more
  rw [h]
  apply BitVec.eq_of_getLsbD_eq
  intro i hi
  simp only [BitVec.getLsbD_xor, BitVec.getLsbD_not, hi, decide_true, Bool.true_and]
  cases (R l (~~~ 0#32)).getLsbD i <;> cases (R m (~~~ 0#32)).getLsbD i <;> cases (R n (~~~ 0#32)).getLsbD i <;> rfl

/- Of a run of turned bits. -/
theorem S_inj (a : BitVec 32) (h : S a = 0#32) : a = 0#32 := by
  have h31 : (S a).getLsbD 31 = a.getLsbD 0 := by
    unfold S
    rw [BitVec.getLsbD_xor, BitVec.getLsbD_ushiftRight, BitVec.getLsbD_of_ge _ (1 + 31) (by omega)]
    cases a.getLsbD 0
    · simp
    · decide
  rw [h] at h31
  have h0 : a.getLsbD 0 = false := by simpa using h31.symm
  unfold S at h
  rw [h0] at h
  apply BitVec.eq_of_getLsbD_eq
  intro i hi
  cases i with
  | zero => rw [h0]; simp
  | succ i =>
    have := congrArg (fun v : BitVec 32 => v.getLsbD i) h
    simp [BitVec.getLsbD_ushiftRight] at this
    rw [show i + 1 = 1 + i by omega, this]
    simp

theorem P_inj (n : Nat) (a : BitVec 32) (h : P n a = 0#32) : a = 0#32 := by
  induction n with
  | zero => exact h
  | succ n ih => exact ih (S_inj _ h)

theorem P_bit (k : Nat) (hk : k < 32) : P k (1#32 <<< k) = 1#32 := by
  have : ∀ k : Fin 32, P k.val (1#32 <<< k.val) = 1#32 := by decide +kernel
  exact this ⟨k, hk⟩

theorem P_bit_at (n k : Nat) (hk : k < 32) (hn : k ≤ n) : P n (1#32 <<< k) = P (n - k) 1#32 := by
  rw [show n = (n - k) + k by omega, P_add, P_bit k hk]
  simp

/-- The bit k of byte q turned. -/
theorem R_turn (l : List UInt8) (q k : Nat) (y : UInt8) (hq : l[q]? = some y) (hk : k < 8) (z : UInt8) (hz : zx z = zx y ^^^ (1#32 <<< k)) (c : BitVec 32) : R (l.set q z) c = R l c ^^^ P (8 * l.length - (8 * q + k)) 1#32 := by
  induction l generalizing q c with
  | nil => simp at hq
  | cons x l ih =>
    cases q with
    | zero =>
      simp at hq
      subst hq
      rw [List.set_cons_zero, R, hz, ← BitVec.xor_assoc, P_xor, R_xor, ← P_add, P_bit_at _ k (by omega) (by omega), R, List.length_cons]
      congr 2
      omega
    | succ q =>
      rw [List.set_cons_succ, R, R, ih q (by simpa using hq), List.length_cons]
      congr 2
      omega

/-- The lowest i bits of t. -/
def low (t : BitVec 32) : Nat → BitVec 32
  | 0 => 0#32
  | i + 1 => low t i ^^^ (if t.getLsbD i then 1#32 <<< i else 0#32)

theorem low_bit (t : BitVec 32) (i j : Nat) (hi : i ≤ 32) : (low t i).getLsbD j = (decide (j < i) && t.getLsbD j) := by
  induction i with
  | zero => simp [low]
  | succ i ih =>
    rw [low, BitVec.getLsbD_xor, ih (by omega)]
    by_cases hj : j = i
    · subst hj
      cases h : t.getLsbD j <;> simp
      omega
    · have e : decide (j < i + 1) = decide (j < i) := by rw [decide_eq_decide]; omega
      rw [e]
      cases h : t.getLsbD i
      · simp
      · have h2 : (1#32 <<< i).getLsbD j = false := by
          simp
          omega
        rw [if_pos rfl, h2]
        simp

theorem low_ne (t : BitVec 32) (i : Nat) (hi : i < 32) (h : t.getLsbD i = true) : low t (i + 1) ≠ 0#32 := by
  intro h0
  have := low_bit t (i + 1) i (by omega)
  rw [h0, h] at this
  simp at this

end Go.Proofs.YthaggdkfaglgaaaDoor.CrcMath
