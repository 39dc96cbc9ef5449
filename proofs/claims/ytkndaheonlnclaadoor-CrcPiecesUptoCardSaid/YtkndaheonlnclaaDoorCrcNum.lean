/- Proved here: what the operations on registers give; the reference's steps; the program's product of two registers and of zeros; the sums of both. -/
import Derived.Test.YtkndaheonlnclaaDoorRows
import Derived.Test.YtkndaheonlnclaaDoorCrcMath
import Derived.WalkKit
import Derived.WalkSpells
import Derived.WalkLawsBesides
import Derived.Lib.Hide
import Derived.OpenShut
namespace Go.Proofs.YtkndaheonlnclaaDoor
open Go.RowKit CrcMath

/-- A register as a number. -/
def rv (x : BitVec 32) : Int := (x.toNat : Int)

theorem rv_bd (x : BitVec 32) : 0 ≤ rv x ∧ rv x ≤ 4294967295 := by
  have := x.isLt
  unfold rv
  omega

theorem rv_inj {x y : BitVec 32} (h : rv x = rv y) : x = y := by
  apply BitVec.eq_of_toNat_eq
  unfold rv at h
  omega

theorem rv_eq (x y : BitVec 32) : (rv x == rv y) = decide (x = y) := by
  rw [Bool.eq_iff_iff]
  simp only [beq_iff_eq, decide_eq_true_eq]
  exact ⟨rv_inj, fun h => by rw [h]⟩

/-- A number that came in is a register. -/
theorem of_u32 (n : Int) (h : (Lit.int .u32 n).wf = true) : ∃ x, n = rv x := by
  have hb : 0 ≤ n ∧ n < 4294967296 := by
    have := bounds_u32 h
    omega
  refine ⟨BitVec.ofNat 32 n.toNat, ?_⟩
  unfold rv
  rw [BitVec.toNat_ofNat]
  omega

theorem rv_xor (x y : BitVec 32) : bits .xor .u32 (rv x) (rv y) = rv (x ^^^ y) := by
  unfold rv
  rw [u32_xor_nat _ _ x.isLt y.isLt, BitVec.toNat_xor]

theorem rv_xor' {a b : Int} {x y : BitVec 32} (ha : a = rv x) (hb : b = rv y) : bits .xor .u32 a b = rv (x ^^^ y) := by
  rw [ha, hb, rv_xor]

theorem rv_shr1 (x : BitVec 32) : rv x / (2 : Int) = rv (x >>> 1) := by
  unfold rv
  rw [BitVec.toNat_ushiftRight, Nat.shiftRight_eq_div_pow]
  omega

theorem rv_shr4 (x : BitVec 32) : rv x / (16 : Int) = rv (x >>> 4) := by
  unfold rv
  rw [BitVec.toNat_ushiftRight, Nat.shiftRight_eq_div_pow]
  omega

theorem rv_D : 2197175160 = rv D := by decide +kernel

theorem rv_and (x : BitVec 32) (n : Nat) (h : n < 4294967296) : bits .and .u32 (rv x) (n : Int) = ((x.toNat &&& n : Nat) : Int) := by
  unfold rv
  rw [u32_and_nat _ _ x.isLt h]

theorem rv_odd (x : BitVec 32) : (bits .and .u32 (rv x) 1 == 1) = x.getLsbD 0 := by
  have h := rv_and x 1 (by decide)
  rw [nat_mask1] at h
  have e : bits .and .u32 (rv x) 1 = ((x.toNat % 2 : Nat) : Int) := h
  rw [e, ← BitVec.testBit_toNat, Nat.testBit_zero, Bool.eq_iff_iff]
  simp
  omega

theorem rv_S_odd (x : BitVec 32) (h : x.getLsbD 0 = true) : bits .xor .u32 (rv x / 2) 2197175160 = rv (S x) := by
  rw [rv_xor' (rv_shr1 x) rv_D]
  unfold S
  rw [h]
  rfl

theorem rv_S_even (x : BitVec 32) (h : x.getLsbD 0 = false) : rv x / 2 = rv (S x) := by
  rw [rv_shr1]
  unfold S
  rw [h]
  simp

theorem rv_ne (x : BitVec 32) : (rv x != 0) = !decide (x = 0#32) := by
  have h := rv_eq x 0#32
  have e : rv 0#32 = 0 := by decide
  rw [e] at h
  rw [← h]
  rfl

theorem rv_top (x : BitVec 32) : (bits .and .u32 (rv x) 2147483648 != 0) = x.getLsbD 31 := by
  have h := rv_and x 2147483648 (by decide)
  have e : bits .and .u32 (rv x) 2147483648 = ((x.toNat / 2147483648 % 2 * 2147483648 : Nat) : Int) := by
    have := nat_bit 31 x.toNat
    rw [show (2 : Nat) ^ 31 = 2147483648 by decide] at this
    rw [← this]
    exact h
  rw [e, ← BitVec.testBit_toNat, Nat.testBit_eq_decide_div_mod_eq, show (2 : Nat) ^ 31 = 2147483648 by decide, Bool.eq_iff_iff]
  simp
  omega

/-- How many rounds a factor brings. -/
def left : Nat → BitVec 32 → Nat
  | 0, _ => 0
  | k + 1, v => if v = 0#32 then 0 else 1 + left k (v <<< 1)

theorem left_stays (k : Nat) (v : BitVec 32) (h : v <<< k = 0#32) : left (k + 1) v = left k v := by
  induction k generalizing v with
  | zero =>
    simp at h
    subst h
    simp [left]
  | succ k ih =>
    have : (v <<< 1) <<< k = 0#32 := by rw [← BitVec.shiftLeft_add, Nat.add_comm]; exact h
    have e := ih _ this
    rw [left, e, left]

theorem left_step (v : BitVec 32) (h : v ≠ 0#32) : left 32 (v <<< 1) < left 32 v := by
  have h2 : left 32 (v <<< 1) = left 31 (v <<< 1) := by
    apply left_stays
    rw [← BitVec.shiftLeft_add]
    apply BitVec.eq_of_getLsbD_eq
    intro i hi
    simp
  rw [h2]
  conv => rhs; rw [left, if_neg h]
  omega

theorem rv_shl1 (x : BitVec 32) : rv x * (2 : Int) % (4294967296 : Int) = rv (x <<< 1) := by
  unfold rv
  rw [BitVec.toNat_shiftLeft, Nat.shiftLeft_eq]
  omega

theorem ofInt_rv (x : BitVec 32) : BitVec.ofInt 32 (rv x) = x := by
  unfold rv
  simp

theorem ret_u32 {a b : Int} (h : a = b) : Ending.returned (.int .u32 a) = .returned (.int .u32 b) := by rw [h]

theorem onward_any (x : BitVec 32) (w : World) :
    Calls Tryd.prog 19 #[.int .u32 (rv x)] w fun e w' => e = .returned (.int .u32 (rv (S x))) ∧ w = w' := by
  have h0 := (rv_bd x).1
  have h1 := (rv_bd x).2
  cases ho : x.getLsbD 0
  · have hb := rv_odd x
    rw [ho] at hb
    have HS := Lib.hid (rv_S_even x ho)
    clear ho
    go_enter Tryd.func19, Tryd.ntmps19
    go_wp2
    go_ret
    exact ⟨ret_u32 HS.out, rfl⟩
  · have hb := rv_odd x
    rw [ho] at hb
    have HS := Lib.hid (rv_S_odd x ho)
    clear ho
    go_enter Tryd.func19, Tryd.ntmps19
    go_wp2
    go_ret
    exact ⟨ret_u32 HS.out, rfl⟩

theorem steps_any (x : BitVec 32) (w : World) :
    Calls Tryd.prog 16 #[.int .u32 (rv x)] w fun e w' => e = .returned (.int .u32 (rv (P 8 x))) ∧ w = w' := by
  go_enter Tryd.func16, Tryd.ntmps16
  go_wp2
  go_loop [0, 3] (fun s0 s3 => ∃ i : Nat, i ≤ 8 ∧ s3 = .int .i64 i ∧ s0 = .int .u32 (rv (P i x))) (fun _ s3 => 8 - (intOf s3).toNat)
  case atStart => exact ⟨0, by omega, rfl, rfl⟩
  case round =>
    obtain ⟨i, hi, rfl, rfl⟩ := hrel
    obtain ⟨y, hy⟩ : ∃ y, y = P i x := ⟨_, rfl⟩
    have HY := Lib.hid hy
    rw [← hy]
    have h0 := (rv_bd y).1
    have h1 := (rv_bd y).2
    clear hy
    by_cases hl : i < 8
    · cases ho : y.getLsbD 0
      · have hb := rv_odd y
        rw [ho] at hb
        have HS := Lib.hid (rv_S_even y ho)
        clear ho
        go_wp2
        go_round
        case rel => exact ⟨i + 1, by omega, by go_num, by rw [HS.out, HY.out]; rfl⟩
        case measure => simp [intOf]; omega
      · have hb := rv_odd y
        rw [ho] at hb
        have HS := Lib.hid (rv_S_odd y ho)
        clear ho
        go_wp2
        go_round
        case rel => exact ⟨i + 1, by omega, by go_num, by rw [HS.out, HY.out]; rfl⟩
        case measure => simp [intOf]; omega
    · go_wp2
      go_ret
      exact ⟨ret_u32 (by rw [HY.out, show i = 8 by omega]), rfl⟩

def TimesAt (x y : BitVec 32) (s0 s1 s5 : Value) : Prop := ∃ i : Nat, i ≤ 32 ∧ s0 = .int .u32 (rv (x <<< i)) ∧ s1 = .int .u32 (rv (P i y)) ∧ ∃ z, s5 = .int .u32 (rv z) ∧ z ^^^ mul (32 - i) (x <<< i) (P i y) = times x y

theorem times_any (x y : BitVec 32) (w : World) :
    Calls Tryd.prog 17 #[.int .u32 (rv x), .int .u32 (rv y)] w fun e w' => e = .returned (.int .u32 (rv (times x y))) ∧ w = w' := by
  have h0 := (rv_bd x).1
  have h1 := (rv_bd x).2
  have h2 := (rv_bd y).1
  have h3 := (rv_bd y).2
  go_enter Tryd.func17, Tryd.ntmps17
  go_wp2
  go_loop [0, 1, 5] (fun s0 s1 s5 => TimesAt x y s0 s1 s5) (fun s0 _ _ => left 32 (BitVec.ofInt 32 (intOf s0)))
  case atStart => exact ⟨0, by omega, by simp, rfl, 0#32, rfl, by simp [times, P]⟩
  case round =>
    obtain ⟨i, hi, rfl, rfl, z, rfl, hz⟩ := hrel
    have HZ := Lib.hid hz
    clear hz
    obtain ⟨v, hv⟩ : ∃ v, v = x <<< i := ⟨_, rfl⟩
    obtain ⟨u, hu⟩ : ∃ u, u = P i y := ⟨_, rfl⟩
    have HV := Lib.hid hv
    have HU := Lib.hid hu
    rw [← hv, ← hu]
    rw [← hv, ← hu] at HZ
    clear hv hu
    have b0 := (rv_bd v).1
    have b1 := (rv_bd v).2
    have b2 := (rv_bd u).1
    have b3 := (rv_bd u).2
    by_cases hn : v = 0#32
    · have hc : (rv v != 0) = false := by rw [rv_ne]; simp [hn]
      have HN := Lib.hid hn
      clear hn
      go_wp2
      go_ret
      refine ⟨ret_u32 ?_, rfl⟩
      have := HZ.out
      rw [HN.out, mul_zero] at this
      rw [← this]
      simp
    · have hc : (rv v != 0) = true := by rw [rv_ne]; simp [hn]
      have HN := Lib.hid hn
      clear hn
      have hl : i < 32 := by
        rcases Nat.lt_or_ge i 32 with h | h
        · exact h
        · exfalso
          apply HN.out
          rw [HV.out]
          apply BitVec.eq_of_getLsbD_eq
          intro j hj
          simp
          omega
      have hm : mul (32 - i) v u = (if v.getLsbD 31 then u else 0#32) ^^^ mul (32 - (i + 1)) (v <<< 1) (S u) := by
        rw [show 32 - i = (32 - (i + 1)) + 1 by omega]; rfl
      have HM := Lib.hid hm
      clear hm
      have hsh : x <<< (i + 1) = v <<< 1 := by rw [HV.out, BitVec.shiftLeft_add]
      have HSH := Lib.hid hsh
      clear hsh
      cases ht : v.getLsbD 31
      · have hb := rv_top v
        rw [ht] at hb HM
        clear ht
        go_wp2_with (go_at_call 19; refine (onward_any u _).mono ?_; rintro e w' ⟨rfl, rfl⟩)
        go_round
        case rel => exact ⟨i + 1, by omega, by rw [HSH.out, rv_shl1], by rw [HU.out]; rfl, z, rfl, by rw [← HZ.out, HSH.out, HM.out]; simp [P, HU.out]⟩
        case measure => rw [rv_shl1]; simp only [intOf, ofInt_rv]; exact left_step v HN.out
      · have hb := rv_top v
        rw [ht] at hb HM
        clear ht
        go_wp2_with (go_at_call 19; refine (onward_any u _).mono ?_; rintro e w' ⟨rfl, rfl⟩)
        go_round
        case rel => exact ⟨i + 1, by omega, by rw [HSH.out, rv_shl1], by rw [HU.out]; rfl, z ^^^ u, by rw [rv_xor], by rw [← HZ.out, HSH.out, HM.out]; simp [P, HU.out, BitVec.xor_assoc]⟩
        case measure => rw [rv_shl1]; simp only [intOf, ofInt_rv]; exact left_step v HN.out

theorem step_odd (e f m : Nat) (h : m % 2 = 1) : f + e + (e + e) * (m / 2) = f + e * m := by
  obtain ⟨k, rfl⟩ : ∃ k, m = k + k + 1 := ⟨m / 2, by omega⟩
  rw [show (k + k + 1) / 2 = k by omega, Nat.mul_add, Nat.mul_add, Nat.add_mul, Nat.mul_one]
  omega
theorem step_even (e f m : Nat) (h : m % 2 = 0) : f + (e + e) * (m / 2) = f + e * m := by
  obtain ⟨k, rfl⟩ : ∃ k, m = k + k := ⟨m / 2, by omega⟩
  rw [show (k + k) / 2 = k by omega, Nat.mul_add, Nat.add_mul]

theorem u64_odd (m : Nat) (hm : m < 18446744073709551616) : (bits .and .u64 (m : Int) 1 == 1) = decide (m % 2 = 1) := by
  have h := u64_and_nat m 1 hm (by decide)
  rw [nat_mask1] at h
  have e : bits .and .u64 (m : Int) 1 = ((m % 2 : Nat) : Int) := h
  rw [e, Bool.eq_iff_iff]
  simp
  omega

/-- The program's register of n bytes 0. -/
def ZerosAt (n : Nat) (s0 s3 s4 : Value) : Prop := ∃ m f e : Nat, m < 18446744073709551616 ∧ f + e * m = 8 * n ∧ s0 = .int .u64 m ∧ s3 = .int .u32 (rv (P f one)) ∧ s4 = .int .u32 (rv (P e one))

theorem zeros_any (n : Nat) (w : World) (hn : n < 18446744073709551616) :
    Calls Tryd.prog 18 #[.int .u64 (n : Int)] w fun e w' => e = .returned (.int .u32 (rv (P (8 * n) one))) ∧ w = w' := by
  have HN := Lib.hid hn
  go_enter Tryd.func18, Tryd.ntmps18
  go_wp2
  go_loop [0, 3, 4] (fun s0 s3 s4 => ZerosAt n s0 s3 s4) (fun s0 _ _ => (intOf s0).toNat)
  case atStart => exact ⟨n, 0, 8, HN.out, by omega, rfl, congrArg (Value.int .u32) (by decide +kernel), congrArg (Value.int .u32) (by decide +kernel)⟩
  case round =>
    obtain ⟨m, f, e, hm, he, rfl, rfl, rfl⟩ := hrel
    have HE := Lib.hid he
    clear he hn
    obtain ⟨p, hp⟩ : ∃ p, p = P f one := ⟨_, rfl⟩
    obtain ⟨q, hq⟩ : ∃ q, q = P e one := ⟨_, rfl⟩
    have HP := Lib.hid hp
    have HQ := Lib.hid hq
    rw [← hp, ← hq]
    clear hp hq
    by_cases h0 : m = 0
    · subst h0
      go_wp2
      go_ret
      exact ⟨ret_u32 (by rw [HP.out, show f = 8 * n by have := HE.out; omega]), rfl⟩
    · have hpos : 0 < m := by omega
      clear h0
      by_cases ho : m % 2 = 1
      · have hb : (bits .and .u64 (m : Int) 1 == 1) = true := by rw [u64_odd m hm]; simp [ho]
        have HO := Lib.hid ho
        clear ho
        go_wp2_with (go_at_call 17; refine (times_any _ _ _).mono ?_; rintro e w' ⟨rfl, rfl⟩)
        go_round
        case rel =>
          refine ⟨m / 2, f + e, e + e, by omega, ?_, ?_, ?_, ?_⟩
          · rw [← HE.out, step_odd e f m HO.out]
          · go_num
          · rw [HP.out, HQ.out, times_PP, Nat.add_comm]
          · rw [HQ.out, times_PP]
        case measure => simp [intOf]; omega
      · have hb : (bits .and .u64 (m : Int) 1 == 1) = false := by rw [u64_odd m hm]; simp [ho]
        have HO := Lib.hid ho
        clear ho
        go_wp2_with (go_at_call 17; refine (times_any _ _ _).mono ?_; rintro e w' ⟨rfl, rfl⟩)
        go_round
        case rel =>
          refine ⟨m / 2, f, e + e, by omega, ?_, ?_, ?_, ?_⟩
          · rw [← HE.out, step_even e f m (by have := HO.out; omega)]
          · go_num
          · rw [HP.out]
          · rw [HQ.out, times_PP]
        case measure => simp [intOf]; omega

theorem join_any (x y : BitVec 32) (n : Nat) (w : World) (hn : n < 18446744073709551616) :
    Calls Tryd.prog 14 #[.int .u32 (rv x), .int .u32 (rv y), .int .u64 (n : Int)] w fun e w' => e = .returned (.int .u32 (rv (join x y n))) ∧ w = w' := by
  go_enter Tryd.func14, Tryd.ntmps14
  go_wp2_with (first | (go_at_call 18; refine (zeros_any n _ hn).mono ?_; rintro e w' ⟨rfl, rfl⟩) | (go_at_call 17; refine (times_any _ _ _).mono ?_; rintro e w' ⟨rfl, rfl⟩))
  go_ret
  exact ⟨ret_u32 (by rw [times_P, rv_xor]; rfl), rfl⟩

/-- The reference's. -/
def JoinAt (x : BitVec 32) (n : Nat) (s0 s2 : Value) : Prop := ∃ i : Nat, i ≤ n ∧ s0 = .int .u32 (rv (P (8 * i) x)) ∧ s2 = .int .u64 ((n - i : Nat) : Int)

theorem refjoin_any (x y : BitVec 32) (n : Nat) (w : World) (hn : n < 18446744073709551616) :
    Calls Tryd.prog 15 #[.int .u32 (rv x), .int .u32 (rv y), .int .u64 (n : Int)] w fun e w' => e = .returned (.int .u32 (rv (join x y n))) ∧ w = w' := by
  have HN := Lib.hid hn
  go_enter Tryd.func15, Tryd.ntmps15
  go_wp2
  go_loop [0, 2] (fun s0 s2 => JoinAt x n s0 s2) (fun _ s2 => (intOf s2).toNat)
  case atStart => exact ⟨0, by omega, rfl, rfl⟩
  case round =>
    obtain ⟨i, hi, rfl, rfl⟩ := hrel
    obtain ⟨m, hm⟩ : ∃ m, m = n - i := ⟨_, rfl⟩
    obtain ⟨z, hz⟩ : ∃ z, z = P (8 * i) x := ⟨_, rfl⟩
    rw [← hm, ← hz]
    have HM := Lib.hid hm
    have HZ := Lib.hid hz
    have hm1 : m ≤ 18446744073709551615 := by omega
    clear hm hz hn
    by_cases h0 : m = 0
    · subst h0
      go_wp2
      go_ret
      exact ⟨ret_u32 (by rw [rv_xor, HZ.out, show i = n by have := HM.out; omega]; rfl), rfl⟩
    · have hpos : 0 < m := by omega
      clear h0
      go_wp2_with (go_at_call 16; refine (steps_any _ _).mono ?_; rintro e w' ⟨rfl, rfl⟩)
      go_round
      case rel => exact ⟨i + 1, by have := HM.out; omega, by rw [HZ.out, ← P_add, show 8 + 8 * i = 8 * (i + 1) by omega], by rw [show n - (i + 1) = m - 1 by have := HM.out; omega]; go_num⟩
      case measure => simp [intOf]; omega
end Go.Proofs.YtkndaheonlnclaaDoor
