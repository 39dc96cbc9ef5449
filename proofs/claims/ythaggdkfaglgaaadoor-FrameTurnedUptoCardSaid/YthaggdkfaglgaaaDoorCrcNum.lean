/- Proved here: what the operations on registers give; the reference's steps; the program's product of two registers and of zeros; the sums of both. -/
import Derived.Test.YthaggdkfaglgaaaDoorRows
import Derived.Test.YthaggdkfaglgaaaDoorCrcMath
import Derived.WalkKit
import Derived.WalkSpells
import Derived.WalkLawsBesides
import Derived.Lib.Hide
import Derived.OpenShut
namespace Go.Proofs.YthaggdkfaglgaaaDoor
set_option maxRecDepth 20000
open Go.RowKit CrcMath

/-- A register as a number. -/
def rv (x : BitVec 32) : Int := (x.toNat : Int)

theorem rv_bd (x : BitVec 32) : 0 ≤ rv x ∧ rv x ≤ 4294967295 := by
  have := x.isLt
  unfold rv
  omega

theorem rv_inj {x y : BitVec 32} (h : rv x = rv y) : x = y := by
  apply BitVec.eq_of_toNat_eq
  unfold rv at h
  omega

theorem rv_eq (x y : BitVec 32) : (rv x == rv y) = decide (x = y) := by
  rw [Bool.eq_iff_iff]
  simp only [beq_iff_eq, decide_eq_true_eq]
  exact ⟨rv_inj, fun h => by rw [h]⟩

/-- A number that came in is a register. -/
theorem of_u32 (n : Int) (h : (Lit.int .u32 n).wf = true) : ∃ x, n = rv x := by
  have hb : 0 ≤ n ∧ n < 4294967296 := by
    have := bounds_u32 h
    omega
  refine ⟨BitVec.ofNat 32 n.toNat, ?_⟩
  unfold rv
  rw [BitVec.toNat_ofNat]
  omega

theorem rv_xor (x y : BitVec 32) : bits .xor .u32 (rv x) (rv y) = rv (x ^^^ y) := by
  unfold rv
  rw [u32_xor_nat _ _ x.isLt y.isLt, BitVec.toNat_xor]

theorem rv_xor' {a b : Int} {x y : BitVec 32} (ha : a = rv x) (hb : b = rv y) : bits .xor .u32 a b = rv (x ^^^ y) := by
  rw [ha, hb, rv_xor]

theorem rv_shr1 (x : BitVec 32) : rv x / (2 : Int) = rv (x >>> 1) := by
  unfold rv
  rw [BitVec.toNat_ushiftRight, Nat.shiftRight_eq_div_pow]
  omega

theorem rv_shr4 (x : BitVec 32) : rv x / (16 : Int) = rv (x >>> 4) := by
  unfold rv
  rw [BitVec.toNat_ushiftRight, Nat.shiftRight_eq_div_pow]
  omega

theorem rv_D : 2197175160 = rv D := by decide +kernel

theorem rv_and (x : BitVec 32) (n : Nat) (h : n < 4294967296) : bits .and .u32 (rv x) (n : Int) = ((x.toNat &&& n : Nat) : Int) := by
  unfold rv
  rw [u32_and_nat _ _ x.isLt h]

theorem rv_odd (x : BitVec 32) : (bits .and .u32 (rv x) 1 == 1) = x.getLsbD 0 := by
  have h := rv_and x 1 (by decide)
  rw [nat_mask1] at h
  have e : bits .and .u32 (rv x) 1 = ((x.toNat % 2 : Nat) : Int) := h
  rw [e, ← BitVec.testBit_toNat, Nat.testBit_zero, Bool.eq_iff_iff]
  simp
  omega

theorem rv_S_odd (x : BitVec 32) (h : x.getLsbD 0 = true) : bits .xor .u32 (rv x / 2) 2197175160 = rv (S x) := by
  rw [rv_xor' (rv_shr1 x) rv_D]
  unfold S
  rw [h]
  rfl

theorem rv_S_even (x : BitVec 32) (h : x.getLsbD 0 = false) : rv x / 2 = rv (S x) := by
  rw [rv_shr1]
  unfold S
  rw [h]
  simp

theorem rv_ne (x : BitVec 32) : (rv x != 0) = !decide (x = 0#32) := by
  have h := rv_eq x 0#32
  have e : rv 0#32 = 0 := by decide
  rw [e] at h
  rw [← h]
  rfl

theorem rv_top (x : BitVec 32) : (bits .and .u32 (rv x) 2147483648 != 0) = x.getLsbD 31 := by
  have h := rv_and x 2147483648 (by decide)
  have e : bits .and .u32 (rv x) 2147483648 = ((x.toNat / 2147483648 % 2 * 2147483648 : Nat) : Int) := by
    have := nat_bit 31 x.toNat
    rw [show (2 : Nat) ^ 31 = 2147483648 by decide] at this
    rw [← this]
    exact h
  rw [e, ← BitVec.testBit_toNat, Nat.testBit_eq_decide_div_mod_eq, show (2 : Nat) ^ 31 = 2147483648 by decide, Bool.eq_iff_iff]
  simp
  omega

/-- How many rounds a factor brings. -/
def left : Nat → BitVec 32 → Nat
  | 0, _ => 0
  | k + 1, v => if v = 0#32 then 0 else 1 + left k (v <<< 1)

theorem left_stays (k : Nat) (v : BitVec 32) (h : v <<< k = 0#32) : left (k + 1) v = left k v := by
  induction k generalizing v with
  | zero =>
    simp at h
    subst h
    simp [left]
  | succ k ih =>
    have : (v <<< 1) <<< k = 0#32 := by rw [← BitVec.shiftLeft_add, Nat.add_comm]; exact h
    have e := ih _ this
    rw [left, e, left]

theorem left_step (v : BitVec 32) (h : v ≠ 0#32) : left 32 (v <<< 1) < left 32 v := by
  have h2 : left 32 (v <<< 1) = left 31 (v <<< 1) := by
    apply left_stays
    rw [← BitVec.shiftLeft_add]
    apply BitVec.eq_of_getLsbD_eq
    intro i hi
    simp
  rw [h2]
  conv => rhs; rw [left, if_neg h]
  omega

theorem rv_shl1 (x : BitVec 32) : rv x * (2 : Int) % (4294967296 : Int) = rv (x <<< 1) := by
  unfold rv
  rw [BitVec.toNat_shiftLeft, Nat.shiftLeft_eq]
  omega

theorem ofInt_rv (x : BitVec 32) : BitVec.ofInt 32 (rv x) = x := by
  unfold rv
  simp

theorem ret_u32 {a b : Int} (h : a = b) : Ending.returned (.int .u32 a) = .returned (.int .u32 b) := by rw [h]

theorem steps_any (x : BitVec 32) (w : World) :
    Calls Tryd.prog 42 #[.int .u32 (rv x)] w fun e w' => e = .returned (.int .u32 (rv (P 8 x))) ∧ w = w' := by
  go_enter Tryd.func42, Tryd.ntmps42
  go_wp2
  go_loop [0, 3] (fun s0 s3 => ∃ i : Nat, i ≤ 8 ∧ s3 = .int .i64 i ∧ s0 = .int .u32 (rv (P i x))) (fun _ s3 => 8 - (intOf s3).toNat)
  case atStart => exact ⟨0, by omega, rfl, rfl⟩
  case round =>
    obtain ⟨i, hi, rfl, rfl⟩ := hrel
    obtain ⟨y, hy⟩ : ∃ y, y = P i x := ⟨_, rfl⟩
    have HY := Lib.hid hy
    rw [← hy]
    have h0 := (rv_bd y).1
    have h1 := (rv_bd y).2
    clear hy
    by_cases hl : i < 8
    · cases ho : y.getLsbD 0
      · have hb := rv_odd y
        rw [ho] at hb
        have HS := Lib.hid (rv_S_even y ho)
        clear ho
        go_wp2
        go_round
        case rel => exact ⟨i + 1, by omega, by go_num, by rw [HS.out, HY.out]; rfl⟩
        case measure => simp [intOf]; omega
      · have hb := rv_odd y
        rw [ho] at hb
        have HS := Lib.hid (rv_S_odd y ho)
        clear ho
        go_wp2
        go_round
        case rel => exact ⟨i + 1, by omega, by go_num, by rw [HS.out, HY.out]; rfl⟩
        case measure => simp [intOf]; omega
    · go_wp2
      go_ret
      exact ⟨ret_u32 (by rw [HY.out, show i = 8 by omega]), rfl⟩

def TimesAt (x y : BitVec 32) (s0 s1 s5 : Value) : Prop := ∃ i : Nat, i ≤ 32 ∧ s0 = .int .u32 (rv (x <<< i)) ∧ s1 = .int .u32 (rv (P i y)) ∧ ∃ z, s5 = .int .u32 (rv z) ∧ z ^^^ mul (32 - i) (x <<< i) (P i y) = times x y

theorem step_odd (e f m : Nat) (h : m % 2 = 1) : f + e + (e + e) * (m / 2) = f + e * m := by
  obtain ⟨k, rfl⟩ : ∃ k, m = k + k + 1 := ⟨m / 2, by omega⟩
  rw [show (k + k + 1) / 2 = k by omega, Nat.mul_add, Nat.mul_add, Nat.add_mul, Nat.mul_one]
  omega
theorem step_even (e f m : Nat) (h : m % 2 = 0) : f + (e + e) * (m / 2) = f + e * m := by
  obtain ⟨k, rfl⟩ : ∃ k, m = k + k := ⟨m / 2, by omega⟩
  rw [show (k + k) / 2 = k by omega, Nat.mul_add, Nat.add_mul]

theorem u64_odd (m : Nat) (hm : m < 18446744073709551616) : (bits .and .u64 (m : Int) 1 == 1) = decide (m % 2 = 1) := by
  have h := u64_and_nat m 1 hm (by decide)
  rw [nat_mask1] at h
  have e : bits .and .u64 (m : Int) 1 = ((m % 2 : Nat) : Int) := h
  rw [e, Bool.eq_iff_iff]
  simp
  omega

/-- The program's register of n bytes 0. -/
def ZerosAt (n : Nat) (s0 s3 s4 : Value) : Prop := ∃ m f e : Nat, m < 18446744073709551616 ∧ f + e * m = 8 * n ∧ s0 = .int .u64 m ∧ s3 = .int .u32 (rv (P f one)) ∧ s4 = .int .u32 (rv (P e one))

/-- The reference's. -/
def JoinAt (x : BitVec 32) (n : Nat) (s0 s2 : Value) : Prop := ∃ i : Nat, i ≤ n ∧ s0 = .int .u32 (rv (P (8 * i) x)) ∧ s2 = .int .u64 ((n - i : Nat) : Int)

end Go.Proofs.YthaggdkfaglgaaaDoor
