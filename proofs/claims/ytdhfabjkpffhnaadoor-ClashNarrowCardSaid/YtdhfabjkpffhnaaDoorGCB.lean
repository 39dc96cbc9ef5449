/- Joined: LeafBitMath, SplitAt, SplitLength. -/
import Derived.Test.YtdhfabjkpffhnaaDoorLeafMath
import Derived.Laws.Bits64b
import Derived.Laws.Bits128
import Derived.Lib.BitFns
import Derived.Test.YtdhfabjkpffhnaaDoorGCM
import Derived.Test.YtdhfabjkpffhnaaDoorBinLen
/- How many bits of a number are 1, as math/bits reckons it; the greatest power of 2 below a number; ones and zeros at the lower end. -/
namespace Go.Proofs.YtdhfabjkpffhnaaDoor
open LeafMath

/-- A mask of n bytes that are alike. -/
def rep (m : Nat) : Nat → Nat
  | 0 => 0
  | n + 1 => m + 256 * rep m n

theorem and_split (b m x M : Nat) (hb : b < 256) (hm : m < 256) : (b + 256 * x) &&& (m + 256 * M) = (b &&& m) + 256 * (x &&& M) := by
  apply Nat.eq_of_testBit_eq
  intro j
  have e1 := Nat.testBit_two_pow_mul_add x (i := 8) (b := b) (by omega) j
  have e2 := Nat.testBit_two_pow_mul_add M (i := 8) (b := m) (by omega) j
  have h3 : b &&& m < 2 ^ 8 := Nat.lt_of_le_of_lt Nat.and_le_left (by omega)
  have e3 := Nat.testBit_two_pow_mul_add (x &&& M) (i := 8) (b := b &&& m) h3 j
  rw [show b + 256 * x = 2 ^ 8 * x + b by omega, show m + 256 * M = 2 ^ 8 * M + m by omega, show (b &&& m) + 256 * (x &&& M) = 2 ^ 8 * (x &&& M) + (b &&& m) by omega, Nat.testBit_and, e1, e2, e3]
  by_cases h : j < 8
  · rw [if_pos h, if_pos h, if_pos h, Nat.testBit_and]
  · rw [if_neg h, if_neg h, if_neg h, Nat.testBit_and]

def s1 (n x : Nat) : Nat := (x / 2 &&& rep 85 n) + (x &&& rep 85 n)
def s2 (n x : Nat) : Nat := (x / 4 &&& rep 51 n) + (x &&& rep 51 n)
def s3 (n x : Nat) : Nat := (x / 16 + x) &&& rep 15 n
def g1 (b : Nat) : Nat := (b / 2 &&& 85) + (b &&& 85)
def g2 (b : Nat) : Nat := (b / 4 &&& 51) + (b &&& 51)
def g3 (b : Nat) : Nat := (b / 16 + b) &&& 15

theorem low1 : ∀ b : Fin 256, ∀ c : Fin 2, ((b.val / 2 + 128 * c.val) &&& 85) = (b.val / 2 &&& 85) ∧ b.val / 2 + 128 * c.val < 256 ∧ g1 b.val < 256 := by decide +kernel
theorem low2 : ∀ b : Fin 256, ∀ c : Fin 4, ((b.val / 4 + 64 * c.val) &&& 51) = (b.val / 4 &&& 51) ∧ b.val / 4 + 64 * c.val < 256 ∧ g2 b.val < 256 ∧ g2 b.val % 16 ≤ 6 ∧ g2 b.val / 16 + g2 b.val ≤ 108 := by decide +kernel
theorem low3 : ∀ b : Fin 256, ∀ c : Fin 7, b.val / 16 + b.val ≤ 108 → ((b.val / 16 + b.val + 16 * c.val) &&& 15) = g3 b.val := by decide +kernel
theorem pop3 : ∀ b : Fin 256, g3 (g2 (g1 b.val)) = b.val % 2 + (b.val / 2 % 2 + (b.val / 4 % 2 + (b.val / 8 % 2 + (b.val / 16 % 2 + (b.val / 32 % 2 + (b.val / 64 % 2 + b.val / 128 % 2)))))) := by decide +kernel

theorem s1_step (n b x : Nat) (hb : b < 256) : s1 (n + 1) (b + 256 * x) = g1 b + 256 * s1 n x := by
  have h := low1 ⟨b, hb⟩ ⟨x % 2, Nat.mod_lt _ (by decide)⟩
  simp only at h
  unfold s1
  rw [show rep 85 (n + 1) = 85 + 256 * rep 85 n from rfl, show (b + 256 * x) / 2 = (b / 2 + 128 * (x % 2)) + 256 * (x / 2) by omega, and_split _ _ _ _ h.2.1 (by decide), and_split _ _ _ _ hb (by decide), h.1]
  unfold g1
  omega
theorem s2_step (n b x : Nat) (hb : b < 256) : s2 (n + 1) (b + 256 * x) = g2 b + 256 * s2 n x := by
  have h := low2 ⟨b, hb⟩ ⟨x % 4, Nat.mod_lt _ (by decide)⟩
  simp only at h
  unfold s2
  rw [show rep 51 (n + 1) = 51 + 256 * rep 51 n from rfl, show (b + 256 * x) / 4 = (b / 4 + 64 * (x % 4)) + 256 * (x / 4) by omega, and_split _ _ _ _ h.2.1 (by decide), and_split _ _ _ _ hb (by decide), h.1]
  unfold g2
  omega
theorem rep51 : ∀ n, rep 51 n % 16 ≤ 3
  | 0 => by decide
  | n + 1 => by
    rw [show rep 51 (n + 1) = 51 + 256 * rep 51 n from rfl]
    omega
theorem s2_low (n y : Nat) : s2 n y % 16 ≤ 6 := by
  have h := rep51 n
  have h1 : (y / 4 &&& rep 51 n) % 16 ≤ 3 := by
    rw [show 16 = 2 ^ 4 from rfl, Nat.and_mod_two_pow]
    exact Nat.le_trans Nat.and_le_right h
  have h2 : (y &&& rep 51 n) % 16 ≤ 3 := by
    rw [show 16 = 2 ^ 4 from rfl, Nat.and_mod_two_pow]
    exact Nat.le_trans Nat.and_le_right h
  unfold s2
  omega
theorem s3_step (n b x : Nat) (hb : b < 256) (hb2 : b / 16 + b ≤ 108) (hx : x % 16 ≤ 6) : s3 (n + 1) (b + 256 * x) = g3 b + 256 * s3 n x := by
  have h := low3 ⟨b, hb⟩ ⟨x % 16, by omega⟩ hb2
  simp only at h
  unfold s3
  rw [show rep 15 (n + 1) = 15 + 256 * rep 15 n from rfl, show (b + 256 * x) / 16 + (b + 256 * x) = (b / 16 + b + 16 * (x % 16)) + 256 * (x / 16 + x) by omega, and_split _ _ _ _ (by omega) (by decide), h]

def pop (b : Nat) : Nat := g3 (g2 (g1 b))
theorem all3_step (n b x : Nat) (hb : b < 256) : s3 (n + 1) (s2 (n + 1) (s1 (n + 1) (b + 256 * x))) = pop b + 256 * s3 n (s2 n (s1 n x)) := by
  have h1 := (low1 ⟨b, hb⟩ ⟨0, by decide⟩).2.2
  have h2 := (low2 ⟨g1 b, h1⟩ ⟨0, by decide⟩).2.2
  simp only at h1 h2
  rw [s1_step _ _ _ hb, s2_step _ _ _ h1, s3_step _ _ _ h2.1 h2.2.2 (s2_low _ _)]
  rfl

theorem ones_two (c y z : Nat) (h : z = 2 * y) : ones (c + z) = c % 2 + ones (c / 2 + y) := by
  rw [ones_more, show (c + z) % 2 = c % 2 by omega, show (c + z) / 2 = c / 2 + y by omega]

theorem ones_byte (b x : Nat) (hb : b < 256) : ones (b + 256 * x) = pop b + ones x := by
  have e0 := ones_two b (128 * x) (256 * x) (by omega)
  have e1 := ones_two (b / 2) (64 * x) (128 * x) (by omega)
  have e2 := ones_two (b / 2 / 2) (32 * x) (64 * x) (by omega)
  have e3 := ones_two (b / 2 / 2 / 2) (16 * x) (32 * x) (by omega)
  have e4 := ones_two (b / 2 / 2 / 2 / 2) (8 * x) (16 * x) (by omega)
  have e5 := ones_two (b / 2 / 2 / 2 / 2 / 2) (4 * x) (8 * x) (by omega)
  have e6 := ones_two (b / 2 / 2 / 2 / 2 / 2 / 2) (2 * x) (4 * x) (by omega)
  have e7 := ones_two (b / 2 / 2 / 2 / 2 / 2 / 2 / 2) x (2 * x) rfl
  have e8 : b / 2 / 2 / 2 / 2 / 2 / 2 / 2 / 2 + x = x := by omega
  rw [e8] at e7
  simp only [Nat.div_div_eq_div_mul, Nat.reduceMul] at e0 e1 e2 e3 e4 e5 e6 e7
  have h := pop3 ⟨b, hb⟩
  simp only at h
  rw [e0, e1, e2, e3, e4, e5, e6, e7, show pop b = g3 (g2 (g1 b)) from rfl, h]
  simp only [Nat.add_assoc]

theorem pop_le : ∀ b : Fin 256, pop b.val ≤ 8 := by decide +kernel

/-- What the first three steps leave: eight bytes, each the number of bits of one of the number's own that are 1. -/
theorem three_steps (x : Nat) (hx : x < 18446744073709551616) : ∃ p0 p1 p2 p3 p4 p5 p6 p7 : Nat, p0 ≤ 8 ∧ p1 ≤ 8 ∧ p2 ≤ 8 ∧ p3 ≤ 8 ∧ p4 ≤ 8 ∧ p5 ≤ 8 ∧ p6 ≤ 8 ∧ p7 ≤ 8 ∧ ones x = p0 + (p1 + (p2 + (p3 + (p4 + (p5 + (p6 + p7)))))) ∧
    s3 8 (s2 8 (s1 8 x)) = p0 + 256 * (p1 + 256 * (p2 + 256 * (p3 + 256 * (p4 + 256 * (p5 + 256 * (p6 + 256 * p7)))))) := by
  have step : ∀ (n x : Nat), ∃ p, p ≤ 8 ∧ ones x = p + ones (x / 256) ∧ s3 (n + 1) (s2 (n + 1) (s1 (n + 1) x)) = p + 256 * s3 n (s2 n (s1 n (x / 256))) := fun n x => by
    have hb : x % 256 < 256 := Nat.mod_lt _ (by decide)
    have e : x = x % 256 + 256 * (x / 256) := by omega
    have h1 := ones_byte (x % 256) (x / 256) hb
    have h2 := all3_step n (x % 256) (x / 256) hb
    rw [← e] at h1 h2
    exact ⟨_, pop_le ⟨_, hb⟩, h1, h2⟩
  obtain ⟨p0, h0, o0, t0⟩ := step 7 x
  obtain ⟨p1, h1, o1, t1⟩ := step 6 (x / 256)
  obtain ⟨p2, h2, o2, t2⟩ := step 5 (x / 256 / 256)
  obtain ⟨p3, h3, o3, t3⟩ := step 4 (x / 256 / 256 / 256)
  obtain ⟨p4, h4, o4, t4⟩ := step 3 (x / 256 / 256 / 256 / 256)
  obtain ⟨p5, h5, o5, t5⟩ := step 2 (x / 256 / 256 / 256 / 256 / 256)
  obtain ⟨p6, h6, o6, t6⟩ := step 1 (x / 256 / 256 / 256 / 256 / 256 / 256)
  obtain ⟨p7, h7, o7, t7⟩ := step 0 (x / 256 / 256 / 256 / 256 / 256 / 256 / 256)
  have hz : x / 256 / 256 / 256 / 256 / 256 / 256 / 256 / 256 = 0 := by omega
  rw [hz, ones_zero] at o7
  have hz0 : s3 0 (s2 0 (s1 0 (x / 256 / 256 / 256 / 256 / 256 / 256 / 256 / 256))) = 0 := by
    unfold s3
    exact Nat.and_zero _
  rw [hz0] at t7
  refine ⟨p0, p1, p2, p3, p4, p5, p6, p7, h0, h1, h2, h3, h4, h5, h6, h7, ?_, ?_⟩
  · rw [o0, o1, o2, o3, o4, o5, o6, o7]
    rfl
  · rw [t0, t1, t2, t3, t4, t5, t6, t7]
    rfl

/-- The last steps add the bytes up. -/
theorem last_steps (y p0 p1 p2 p3 p4 p5 p6 p7 : Nat) (h0 : p0 ≤ 8) (h1 : p1 ≤ 8) (h2 : p2 ≤ 8) (h3 : p3 ≤ 8) (h4 : p4 ≤ 8) (h5 : p5 ≤ 8) (h6 : p6 ≤ 8) (h7 : p7 ≤ 8)
    (hy : y = p0 + 256 * (p1 + 256 * (p2 + 256 * (p3 + 256 * (p4 + 256 * (p5 + 256 * (p6 + 256 * p7))))))) :
    ∃ y4 y5 y6, y4 = y + y / 256 ∧ y5 = y4 + y4 / 65536 ∧ y6 = y5 + y5 / 4294967296 ∧ y < 648518346341351425 ∧ y4 < 1297036692682702849 ∧ y5 < 2594073385365405697 ∧ y6 < 5188146770730811393 ∧ y6 % 128 = p0 + (p1 + (p2 + (p3 + (p4 + (p5 + (p6 + p7)))))) := by
  refine ⟨_, _, _, rfl, rfl, rfl, by omega, by omega, by omega, by omega, ?_⟩
  have e4 : y + y / 256 = (p0 + p1) + 256 * ((p1 + p2) + 256 * ((p2 + p3) + 256 * ((p3 + p4) + 256 * ((p4 + p5) + 256 * ((p5 + p6) + 256 * ((p6 + p7) + 256 * p7)))))) := by omega
  obtain ⟨y4, hy4⟩ : ∃ y4, y4 = y + y / 256 := ⟨_, rfl⟩
  rw [← hy4] at e4 ⊢
  have e5 : ∃ z, y4 + y4 / 65536 = (p0 + p1 + (p2 + p3)) + 256 * ((p1 + p2 + (p3 + p4)) + 256 * ((p2 + p3 + (p4 + p5)) + 256 * ((p3 + p4 + (p5 + p6)) + 256 * ((p4 + p5 + (p6 + p7)) + 256 * z)))) := by
    refine ⟨(p5 + p6 + p7) + 256 * ((p6 + p7) + 256 * p7), ?_⟩
    omega
  clear e4 hy4 hy
  obtain ⟨z, e5⟩ := e5
  obtain ⟨y5, hy5⟩ : ∃ y5, y5 = y4 + y4 / 65536 := ⟨_, rfl⟩
  rw [← hy5] at e5 ⊢
  have e6 : y5 / 4294967296 = (p4 + p5 + (p6 + p7)) + 256 * z := by omega
  omega

theorem bitLen_pos : ∀ (f x : Nat), x ≠ 0 → x < 2 ^ f → Lib.bitLenAux f x = Nat.log2 x + 1
  | 0, x, h, hx => by omega
  | f + 1, x, h, hx => by
    unfold Lib.bitLenAux
    rw [if_neg h]
    by_cases h2 : x / 2 = 0
    · have : x = 1 := by omega
      subst this
      rw [h2]
      cases f <;> rfl
    · rw [bitLen_pos f (x / 2) h2 (by rw [Nat.pow_succ] at hx; omega), Nat.log2_def x, if_pos (by omega)]
      omega
theorem bitLen_split (n : Nat) (h : 2 ≤ n) (hn : n < 18446744073709551616) : Lib.bitLen (n - 1) = Nat.log2 (n - 1) + 1 := bitLen_pos 64 _ (by omega) (by omega)
end Go.Proofs.YtdhfabjkpffhnaaDoor

/- Where the leaves of a tree are parted: the program's. -/
namespace Go.Proofs.YtdhfabjkpffhnaaDoor
set_option maxRecDepth 20000
open Go.RowKit ShaMath LeafMath Reg

theorem splitAt_any (n : Nat) (w : World) (h1 : 2 ≤ n) (h2 : n < 18446744073709551616) :
    Calls Tryd.prog 52 #[.int .u64 (n : Int)] w fun e w' => e = .returned (.int .u64 (splitN n : Int)) ∧ w' = w := by
  obtain ⟨k, hk⟩ : ∃ k, k = Nat.log2 (n - 1) := ⟨_, rfl⟩
  have hb := bitLen_split n h1 (by omega)
  have hk2 : 2 ^ k ≤ n - 1 := by rw [hk]; exact Nat.log2_self_le (by omega)
  have hk64 : k < 64 := by
    refine Decidable.byContradiction fun h => ?_
    have := Nat.pow_le_pow_right (n := 2) (by decide) (show 64 ≤ k by omega)
    omega
  have HL := Lib.hid (len64_any ((n - 1 : Nat) : Int) w (by omega) (by omega))
  rw [Int.toNat_natCast, hb, ← hk] at HL
  have hs : splitN n = 2 ^ k := by rw [hk]; rfl
  rw [hs]
  obtain ⟨m, hm⟩ : ∃ m, m = n - 1 := ⟨_, rfl⟩
  rw [← hm] at HL
  have f1 : IntKind.u64.wrap ((n : Int) - 1) = (m : Int) := by rw [IntKind.wrap_u64]; omega
  obtain ⟨k1, hk1⟩ : ∃ k1, k1 = k + 1 := ⟨_, rfl⟩
  rw [← hk1] at HL
  have f3 : wrap64 ((k1 : Int) - 1) = (k : Int) := by unfold wrap64; omega
  have f4 : IntKind.u64.wrap ((2 : Int) ^ k) = ((2 ^ k : Nat) : Int) := by
    have h3 := Nat.pow_le_pow_right (n := 2) (by decide) (show k ≤ 63 by omega)
    rw [show ((2 : Int) ^ k) = ((2 ^ k : Nat) : Int) by simp]
    generalize 2 ^ k = p at *
    rw [IntKind.wrap_u64]
    omega
  have hlt : ¬ (n : Int) < 2 := by omega
  have F4 := Lib.hid f4
  have F1 := Lib.hid f1
  have F3 := Lib.hid f3
  clear hb hk hk1 hk2 hs hm f1 f3 f4 h1 h2
  go_enter Tryd.func52, Tryd.ntmps52
  go_wp2_with fail
  rw [F1.out]
  refine HL.out.mono ?_
  rintro e w1 ⟨rfl, rfl⟩
  have f3 := F3.out
  go_wp2
  rw [F4.out]
  go_ret
  exact ⟨rfl, rfl⟩

end Go.Proofs.YtdhfabjkpffhnaaDoor

/- Package split: whether a proof is as long as it must be. -/
namespace Go.Proofs.YtdhfabjkpffhnaaDoor
set_option maxRecDepth 20000
open Go.RowKit ShaMath LeafMath Reg

/-- What Length answers. -/
def lenR (p s : Nat) : Nat := if p < s then 2 else if s < p then 4 else 0

theorem splitLength_any (p s : Nat) (w : World) :
    Calls Tryd.prog 84 #[.int .i64 (p : Int), .int .i64 (s : Int)] w fun e w' => e = .returned (.int .i64 (lenR p s : Int)) ∧ w' = w := by
  by_cases h1 : p < s
  · have hlt : (p : Int) < (s : Int) := by omega
    rw [lenR, if_pos h1]
    go_enter Tryd.func84, Tryd.ntmps84
    go_wp2
    go_ret
    exact ⟨rfl, rfl⟩
  · have hlt : ¬ (p : Int) < (s : Int) := by omega
    by_cases h2 : s < p
    · have hgt : (p : Int) > (s : Int) := by omega
      rw [lenR, if_neg h1, if_pos h2]
      go_enter Tryd.func84, Tryd.ntmps84
      go_wp2
      go_ret
      exact ⟨rfl, rfl⟩
    · have hgt : ¬ (p : Int) > (s : Int) := by omega
      rw [lenR, if_neg h1, if_neg h2]
      go_enter Tryd.func84, Tryd.ntmps84
      go_wp2
      go_ret
      exact ⟨rfl, rfl⟩
end Go.Proofs.YtdhfabjkpffhnaaDoor

