/- A gauge's mean lies between its ends, its sum is not below 0; of one number the mean is it. -/
import Derived.Test.YtoabhnbifbdknaaIeeeOps
namespace Go.Proofs.Ytoabhnbifbdknaa.EdgeMath
open Ieee

/-- A number up to 2 ^ 40. -/
def Bd (x : Nat) : Prop := rk x ≠ 9218868437227405313 ∧ -4787326403894837248 ≤ ky x ∧ ky x ≤ 4787326403894837248

theorem Bd.fn {x : Nat} (h : Bd x) : Fn x := ⟨h.1, by have := h.2.1; omega, by have := h.2.2; omega⟩

theorem val_most : 2 * val 4787326403894837248 = val 4791830003522207744 := by decide +kernel
theorem val_most2 (k : Nat) (hk : k = 1074) : val 4787326403894837248 = 1099511627776 * 2 ^ k := by
  subst hk
  decide +kernel

theorem VK_bound {k : Int} (h1 : -4787326403894837248 ≤ k) (h2 : k ≤ 4787326403894837248) : (VK k).natAbs ≤ val 4787326403894837248 := by
  rw [(VK_abs k).1]
  exact val_le.2 (by omega)

theorem R1074 (r : Nat) : R 1074 (val r) = r := by
  have := R_val 1074 r
  simpa using this

/-- The difference of two such. -/
theorem sub_bd {x y : Nat} (hx : Bd x) (hy : Bd y) : Fn (fop .sub x y) ∧ ky (fop .sub x y) = sg (decide (VK (ky x) - VK (ky y) < 0)) (R 1074 (VK (ky x) - VK (ky y)).natAbs) := by
  obtain ⟨h1, h2⟩ := sub_key hx.fn hy.fn
  have b1 := VK_bound hx.2.1 hx.2.2
  have b2 := VK_bound hy.2.1 hy.2.2
  have b3 : (VK (ky x) - VK (ky y)).natAbs ≤ val 4791830003522207744 := by rw [← val_most]; omega
  have b4 := R_mono (K := 1074) b3
  rw [R1074] at b4
  have e : ky (fop .sub x y) = sg (decide (VK (ky x) - VK (ky y) < 0)) (R 1074 (VK (ky x) - VK (ky y)).natAbs) := by
    rw [h1]
    unfold sf
    rw [Nat.min_eq_left (by omega)]
  refine ⟨⟨h2, ?_, ?_⟩, e⟩
  · rw [e]; unfold sg; split <;> omega
  · rw [e]; unfold sg; split <;> omega

/-- A float at most a rounded number's half lies at or below the number. -/
theorem half_below (Z : Nat) : ∃ r, val (R 1074 Z) ≤ 2 * val r ∧ val r ≤ Z ∧ r ≤ R 1074 Z := by
  obtain ⟨t, ht⟩ : ∃ t, t = R 1074 Z := ⟨_, rfl⟩
  rw [← ht]
  rcases Nat.lt_or_ge Z (val t) with h | h
  · have h0 : t ≠ 0 := by
      intro e
      rw [e, val_zero] at h
      omega
    have h1 : t ≠ 1 := by
      intro e
      rw [e, show val 1 = 1 from rfl] at h
      have : Z = 0 := by omega
      rw [this, R_zero] at ht
      omega
    refine ⟨t - 1, ?_, ?_, by omega⟩
    · have := val_double (t - 1) (by omega)
      rw [show t - 1 + 1 = t by omega] at this
      exact this
    · rcases Nat.lt_or_ge Z (val (t - 1)) with h2 | h2
      · have := R_mono (K := 1074) (Nat.le_of_lt h2)
        rw [R1074] at this
        omega
      · exact h2
  · exact ⟨t, by omega, h, Nat.le_refl _⟩

theorem mean_between {M X y : Nat} (hM : Bd M) (hX : Bd X) (hy : Whole y) : rk (fop .add M (fop .quo (fop .sub X M) y)) ≠ 9218868437227405313 ∧
    (ky M ≤ ky X → ky M ≤ ky (fop .add M (fop .quo (fop .sub X M) y)) ∧ ky (fop .add M (fop .quo (fop .sub X M) y)) ≤ ky X) ∧
    (ky X ≤ ky M → ky X ≤ ky (fop .add M (fop .quo (fop .sub X M) y)) ∧ ky (fop .add M (fop .quo (fop .sub X M) y)) ≤ ky M) := by
  obtain ⟨hd, hdk⟩ := sub_bd hX hM
  obtain ⟨q1, q2, q3, q4⟩ := quo_key hd hy
  obtain ⟨r, r1, r2, r3⟩ := half_below (VK (ky X) - VK (ky M)).natAbs
  have hda : (ky (fop .sub X M)).natAbs = R 1074 (VK (ky X) - VK (ky M)).natAbs := by
    rw [hdk]
    unfold sg
    split <;> omega
  have q5 := q4 r (by rw [hda]; exact r1)
  have hlim : (ky (fop .sub X M)).natAbs < 9218868437227405312 := by have := hd.2.1; have := hd.2.2; omega
  have hq : Fn (fop .quo (fop .sub X M) y) := ⟨q1, by omega, by omega⟩
  obtain ⟨m1, m2⟩ := add_key hM.fn hq
  have hv := (VK_abs (ky (fop .quo (fop .sub X M) y))).1
  have hvz : (VK (ky (fop .quo (fop .sub X M) y))).natAbs ≤ (VK (ky X) - VK (ky M)).natAbs := by
    rw [hv]
    exact Nat.le_trans (val_le.2 q5) r2
  have eM := sf_VK (ky M) (by have := hM.2.1; omega) (by have := hM.2.2; omega)
  have eX := sf_VK (ky X) (by have := hX.2.1; omega) (by have := hX.2.2; omega)
  refine ⟨m2, fun h => ?_, fun h => ?_⟩
  · have hZ := VK_mono h
    have hd0 : 0 ≤ ky (fop .sub X M) := by
      rw [hdk, show decide (VK (ky X) - VK (ky M) < 0) = false by simp; omega]
      unfold sg
      simp only [Bool.false_eq_true, if_false]
      omega
    have hv0 := VK_mono (q2 hd0)
    rw [VK_zero] at hv0
    rw [m1]
    have s1 := sf_mono (show VK (ky M) ≤ VK (ky M) + VK (ky (fop .quo (fop .sub X M) y)) by omega)
    have s2 := sf_mono (show VK (ky M) + VK (ky (fop .quo (fop .sub X M) y)) ≤ VK (ky X) by omega)
    rw [eM] at s1
    rw [eX] at s2
    exact ⟨s1, s2⟩
  · have hZ := VK_mono h
    have hd0 : ky (fop .sub X M) ≤ 0 := by
      by_cases he : VK (ky X) - VK (ky M) < 0
      · rw [hdk, show decide (VK (ky X) - VK (ky M) < 0) = true by simpa using he]
        unfold sg
        simp only [if_true]
        omega
      · rw [hdk, show (VK (ky X) - VK (ky M)).natAbs = 0 by omega, R_zero]
        unfold sg
        split <;> omega
    have hv0 := VK_mono (q3 hd0)
    rw [VK_zero] at hv0
    rw [m1]
    have s1 := sf_mono (show VK (ky X) ≤ VK (ky M) + VK (ky (fop .quo (fop .sub X M) y)) by omega)
    have s2 := sf_mono (show VK (ky M) + VK (ky (fop .quo (fop .sub X M) y)) ≤ VK (ky M) by omega)
    rw [eX] at s1
    rw [eM] at s2
    exact ⟨s1, s2⟩

/-- Not below 0, or NaN. -/
def NN (s : Nat) : Prop := rk s = 9218868437227405313 ∨ 0 ≤ ky s

theorem key_hi (x : Nat) : ky x ≤ 9218868437227405313 := by
  have := rk_hi x
  unfold ky key
  split <;> omega

theorem read_far {z : Nat} (h : rk z ≠ 9218868437227405313) (h0 : 0 ≤ ky z) (hn : ¬ Fn z) : double.read z = .infinity false := by
  have h4 : ¬ 9218868437227405312 < z % 9223372036854775808 := fun h' => h (rk_nan h')
  have h5 := (rk_num h4).2
  have h6 : ky z = sg (z / 9223372036854775808 % 2 == 1) (z % 9223372036854775808) := h5
  have h7 : z % 9223372036854775808 = 9218868437227405312 := by
    rcases Nat.lt_or_ge (z % 9223372036854775808) 9218868437227405312 with h8 | h8
    · exact absurd ⟨h, by rw [h6]; unfold sg; split <;> omega, by rw [h6]; unfold sg; split <;> omega⟩ hn
    · omega
  rw [read_inf z h7]
  rw [h6, h7] at h0
  unfold sg at h0
  split at h0
  · omega
  · rename_i hs
    rw [show (z / 9223372036854775808 % 2 == 1) = false by simpa using hs]

theorem nn_add {s p : Nat} (hs : NN s) (hp : 0 ≤ ky p) (hpn : rk p ≠ 9218868437227405313) : NN (fop .add s p) := by
  by_cases hsn : rk s = 9218868437227405313
  · left
    unfold fop
    rw [fop_nan (op := .add) rfl (.inl hsn)]
    rfl
  · have hs0 : 0 ≤ ky s := by
      rcases hs with h | h
      · exact absurd h hsn
      · exact h
    right
    have hinf : ky (double.word false 9218868437227405312) = 9218868437227405312 := (word_key false 9218868437227405312 (by omega)).1
    by_cases h1 : Fn s
    · by_cases h2 : Fn p
      · rw [(add_key h1 h2).1]
        have a1 := VK_mono hs0
        have a2 := VK_mono hp
        rw [VK_zero] at a1 a2
        have := sf_mono (show (0 : Int) ≤ VK (ky s) + VK (ky p) by omega)
        have e : sf 0 = 0 := by simp [sf, R_zero, sg]
        rw [e] at this
        exact this
      · obtain ⟨t, m, u, hr, -⟩ := fn_read h1
        have e : floatBits .add .f64 s p = some (double.word false 9218868437227405312) := by
          show ((double.read s).sum (double.read p)).map double.write = _
          rw [hr, read_far hpn hp h2]
          rfl
        unfold fop
        rw [e]
        show 0 ≤ ky (double.word false 9218868437227405312)
        omega
    · by_cases h2 : Fn p
      · obtain ⟨t, m, u, hr, -⟩ := fn_read h2
        have e : floatBits .add .f64 s p = some (double.word false 9218868437227405312) := by
          show ((double.read s).sum (double.read p)).map double.write = _
          rw [hr, read_far hsn hs0 h1]
          rfl
        unfold fop
        rw [e]
        show 0 ≤ ky (double.word false 9218868437227405312)
        omega
      · have e : floatBits .add .f64 s p = some (double.word false 9218868437227405312) := by
          show ((double.read s).sum (double.read p)).map double.write = _
          rw [read_far hsn hs0 h1, read_far hpn hp h2]
          rfl
        unfold fop
        rw [e]
        show 0 ≤ ky (double.word false 9218868437227405312)
        omega

/-- What is added to the sum. -/
theorem square_key {M X m : Nat} (hM : Bd M) (hX : Bd X) (hm : Bd m) (h : ky M ≤ ky X ∧ ky m ≤ ky X ∨ ky X ≤ ky M ∧ ky X ≤ ky m) :
    0 ≤ ky (fop .mul (fop .sub X M) (fop .sub X m)) ∧ rk (fop .mul (fop .sub X M) (fop .sub X m)) ≠ 9218868437227405313 ∧ (ky M = ky X → ky (fop .mul (fop .sub X M) (fop .sub X m)) = 0) := by
  obtain ⟨d1, d2⟩ := sub_bd hX hM
  obtain ⟨f1, f2⟩ := sub_bd hX hm
  have sign : ∀ a : Int, (0 ≤ a → 0 ≤ sg (decide (a < 0)) (R 1074 a.natAbs)) ∧ (a ≤ 0 → sg (decide (a < 0)) (R 1074 a.natAbs) ≤ 0) := fun a => by
    constructor
    · intro ha
      rw [show decide (a < 0) = false by simp; omega]
      unfold sg
      simp only [Bool.false_eq_true, if_false]
      omega
    · intro ha
      by_cases h0 : a = 0
      · subst h0
        simp [sg, R_zero]
      · rw [show decide (a < 0) = true by simp; omega]
        unfold sg
        simp only [if_true]
        omega
  obtain ⟨a1, a2⟩ := sign (VK (ky X) - VK (ky M))
  obtain ⟨b1, b2⟩ := sign (VK (ky X) - VK (ky m))
  rw [← d2] at a1 a2
  rw [← f2] at b1 b2
  obtain ⟨p1, p2, p3⟩ := mul_key d1 f1 (by
    rcases h with ⟨h1, h2⟩ | ⟨h1, h2⟩
    · have c1 := VK_mono h1
      have c2 := VK_mono h2
      exact .inl ⟨a1 (by omega), b1 (by omega)⟩
    · have c1 := VK_mono h1
      have c2 := VK_mono h2
      exact .inr ⟨a2 (by omega), b2 (by omega)⟩)
  refine ⟨p1, p2, fun he => p3 ?_⟩
  rw [d2, he, Int.sub_self]
  simp [sg, R_zero]

/-- What holds of a gauge of numbers. -/
structure Sound (a : G) : Prop where
  m : Bd a.m
  lo : Bd a.lo
  hi : Bd a.hi
  low : ky a.lo ≤ ky a.m
  high : ky a.m ≤ ky a.hi
  s : NN a.s

theorem ky_of {x y : Nat} (h : rk x = rk y) : ky x = ky y := by unfold ky; rw [h]
theorem ky_mono {x y : Nat} (h : rk x ≤ rk y) : ky x ≤ ky y := by
  unfold ky key
  split <;> split <;> omega
theorem Bd.of {x y : Nat} (h : rk x = rk y) (hy : Bd y) : Bd x := ⟨by rw [h]; exact hy.1, by rw [ky_of h]; exact hy.2.1, by rw [ky_of h]; exact hy.2.2⟩

theorem Sound.of {a b : G} (h : a.Eqv b) (hb : Sound b) : Sound a :=
  ⟨hb.m.of h.m, hb.lo.of h.lo, hb.hi.of h.hi, by rw [ky_of h.lo, ky_of h.m]; exact hb.low, by rw [ky_of h.m, ky_of h.hi]; exact hb.high, by
    unfold NN
    rw [h.s, ky_of h.s]
    exact hb.s⟩

theorem ends_of {lo hi m x m' : Nat} (hlo : Bd lo) (hhi : Bd hi) (hx : Bd x) (h1 : ky lo ≤ ky m) (h2 : ky m ≤ ky hi) (h3 : ky m ≤ ky m' ∧ ky m' ≤ ky x ∨ ky x ≤ ky m' ∧ ky m' ≤ ky m) :
    Bd (lesser lo x) ∧ Bd (greater hi x) ∧ ky (lesser lo x) ≤ ky m' ∧ ky m' ≤ ky (greater hi x) := by
  have a1 : Bd (lesser lo x) := by unfold lesser; split <;> assumption
  have a2 : Bd (greater hi x) := by unfold greater; split <;> assumption
  have a3 : ky (lesser lo x) ≤ ky lo ∧ ky (lesser lo x) ≤ ky x := by
    unfold lesser
    split
    · exact ⟨ky_mono (by omega), Int.le_refl _⟩
    · exact ⟨Int.le_refl _, ky_mono (by omega)⟩
  have a4 : ky hi ≤ ky (greater hi x) ∧ ky x ≤ ky (greater hi x) := by
    unfold greater
    split
    · exact ⟨ky_mono (by omega), Int.le_refl _⟩
    · exact ⟨Int.le_refl _, ky_mono (by omega)⟩
  exact ⟨a1, a2, by omega, by omega⟩

theorem sound_first {a : G} {x : Nat} (hn : a.n = 0) (hlo : rk a.lo = 9218868437227405312) (hhi : rk a.hi = -9218868437227405313) (hx : Bd x) : Sound (a.add x) ∧ ky (a.add x).s = 0 ∧ rk (a.add x).s ≠ 9218868437227405313 ∧ rk (a.add x).lo = rk x ∧ rk (a.add x).hi = rk x ∧ (a.add x).m = x ∧ (a.add x).n = 1 := by
  have e : a.add x = ⟨1, x, 0, lesser a.lo x, greater a.hi x⟩ := by
    unfold G.add
    rw [if_neg (by have := hx.1; omega), if_pos hn]
  have h1 := hx.2.1
  have h2 := hx.2.2
  have hr1 : rk x < 9218868437227405312 := by
    unfold ky key at h2
    split at h2 <;> omega
  have hr2 : -9218868437227405313 < rk x := by
    unfold ky key at h1
    split at h1 <;> omega
  have e1 : lesser a.lo x = x := by unfold lesser; rw [if_pos (by omega)]
  have e2 : greater a.hi x = x := by unfold greater; rw [if_pos (by omega)]
  rw [e, e1, e2]
  exact ⟨⟨hx, hx, hx, Int.le_refl _, Int.le_refl _, .inr (show (0 : Int) ≤ ky 0 by decide)⟩, show ky 0 = 0 by decide, show rk 0 ≠ 9218868437227405313 by decide, rfl, rfl, rfl, rfl⟩

theorem sound_step {a : G} {x : Nat} (ha : Sound a) (h1 : 1 ≤ a.n) (h2 : a.n < 300) (hx : Bd x) (hw : Whole (flo (a.n + 1))) : Sound (a.add x) ∧ (a.add x).n = a.n + 1 ∧
    (ky a.m = ky x → Fn a.s → ky a.s = 0 → ky (a.add x).m = ky x ∧ ky (a.add x).s = 0 ∧ rk (a.add x).s ≠ 9218868437227405313) := by
  have e : a.add x = ⟨a.n + 1, a.nm x, fop .add a.s (fop .mul (fop .sub x a.m) (fop .sub x (a.nm x))), lesser a.lo x, greater a.hi x⟩ := by
    unfold G.add
    rw [if_neg (by have := hx.1; omega), if_neg (by omega)]
  obtain ⟨b1, b2, b3⟩ := mean_between ha.m hx hw
  have hm : rk (a.nm x) ≠ 9218868437227405313 := b1
  have hb2 : ky a.m ≤ ky x → ky a.m ≤ ky (a.nm x) ∧ ky (a.nm x) ≤ ky x := b2
  have hb3 : ky x ≤ ky a.m → ky x ≤ ky (a.nm x) ∧ ky (a.nm x) ≤ ky a.m := b3
  have hbd : Bd (a.nm x) := by
    have c1 := ha.m.2
    have c2 := hx.2
    refine ⟨hm, ?_, ?_⟩
    · rcases Int.le_total (ky a.m) (ky x) with h | h
      · have := hb2 h; omega
      · have := hb3 h; omega
    · rcases Int.le_total (ky a.m) (ky x) with h | h
      · have := hb2 h; omega
      · have := hb3 h; omega
  obtain ⟨p1, p2, p3⟩ := square_key ha.m hx hbd (by
    rcases Int.le_total (ky a.m) (ky x) with h | h
    · exact .inl ⟨h, (hb2 h).2⟩
    · exact .inr ⟨h, (hb3 h).1⟩)
  obtain ⟨c1, c2, c3, c4⟩ := ends_of ha.lo ha.hi hx ha.low ha.high (by
    rcases Int.le_total (ky a.m) (ky x) with h | h
    · exact .inl (hb2 h)
    · exact .inr (hb3 h))
  rw [e]
  refine ⟨⟨hbd, c1, c2, c3, c4, nn_add ha.s p1 p2⟩, rfl, fun hk hf hs => ?_⟩
  refine ⟨?_, ?_, ?_⟩
  · have := hb2 (by omega)
    show ky (a.nm x) = ky x
    omega
  · have hp := p3 hk
    have hpf : Fn (fop .mul (fop .sub x a.m) (fop .sub x (a.nm x))) := ⟨p2, by omega, by omega⟩
    show ky (fop .add a.s (fop .mul (fop .sub x a.m) (fop .sub x (a.nm x)))) = 0
    rw [(add_key hf hpf).1, hs, hp]
    simp [VK_zero, sf, R_zero, sg]
  · have hp := p3 hk
    have hpf : Fn (fop .mul (fop .sub x a.m) (fop .sub x (a.nm x))) := ⟨p2, by omega, by omega⟩
    exact (add_key hf hpf).2

def wholeOk (N : Nat) : Bool := match double.read (flo N) with
  | .number false n p => decide (p ≤ 0) && decide (-53 ≤ p) && decide (2 ^ ((-p).toNat + 1) ≤ n)
  | _ => false

theorem whole_all : (List.range 301).all (fun N => decide (N < 2) || wholeOk N) = true := by decide +kernel

theorem whole_flo (N : Nat) (h1 : 2 ≤ N) (h2 : N ≤ 300) : Whole (flo N) := by
  have h := List.all_eq_true.1 whole_all N (List.mem_range.2 (by omega))
  rw [Bool.or_eq_true] at h
  rcases h with h | h
  · have : N < 2 := by simpa using h
    omega
  · unfold wholeOk at h
    split at h
    · rename_i n p hr
      simp only [Bool.and_eq_true, decide_eq_true_eq] at h
      obtain ⟨⟨h3, h4⟩, h5⟩ := h
      refine ⟨n, (-p).toNat, ?_, by omega, h5⟩
      rw [hr]
      congr 1
      omega
    · cases h

/-- A whole number as a float. -/
theorem int_bd (n : Int) (h : n.natAbs ≤ 1099511627776) : Bd (floatOfInt .f64 n) := by
  have e : floatOfInt .f64 n = double.nearest (decide (n < 0)) n.natAbs 0 := rfl
  obtain ⟨k, hk⟩ : ∃ k, k = 1074 := ⟨_, rfl⟩
  have hn := nearest_eq (decide (n < 0)) n.natAbs 0 1074 k (by omega) (by omega)
  have h1 : n.natAbs * 2 ^ k ≤ val 4787326403894837248 := by
    rw [val_most2 k hk]
    exact Nat.mul_le_mul_right _ h
  have h2 := R_mono (K := 1074) h1
  rw [R1074] at h2
  obtain ⟨k1, k2⟩ := word_key (decide (n < 0)) (min (R 1074 (n.natAbs * 2 ^ k)) 9218868437227405312) (by omega)
  rw [e, hn]
  refine ⟨k2, ?_, ?_⟩
  · rw [k1]; unfold sg; split <;> omega
  · rw [k1]; unfold sg; split <;> omega

theorem neq_test {x y : Nat} (hx : rk x ≠ 9218868437227405313) (hy : rk y ≠ 9218868437227405313) (h : ky x = ky y) : (FloatKind.f64.format.order x y != some .eq) = false := by
  rw [order_eq, if_neg (by omega), cmp_def]
  have h' : key (rk x) = key (rk y) := h
  rw [if_neg (by omega), if_pos h']
  rfl

theorem low_test {m lo r : Nat} (hm : Bd m) (hlo : Bd lo) (h : ky lo ≤ ky m) (hr : rk r = rk (fop .sub lo 4562254508917369340)) : (FloatKind.f64.format.order m r == some .lt) = false := by
  rw [lt_test]
  simp only [decide_eq_false_iff_not]
  rintro ⟨-, -, h1⟩
  have hC : Fn 4562254508917369340 := ⟨by decide +kernel, by decide +kernel, by decide +kernel⟩
  have hC0 : (0 : Int) ≤ VK (ky 4562254508917369340) := by
    have := VK_mono (show (0 : Int) ≤ ky 4562254508917369340 by decide +kernel)
    rw [VK_zero] at this
    exact this
  have e1 : ky r = sf (VK (ky lo) - VK (ky 4562254508917369340)) := by rw [ky_of hr]; exact (sub_key hlo.fn hC).1
  have e2 := sf_VK (ky lo) (by have := hlo.2.1; omega) (by have := hlo.2.2; omega)
  have e3 := sf_mono (show VK (ky lo) - VK (ky 4562254508917369340) ≤ VK (ky lo) by omega)
  have h2 : ky m < ky r := h1
  have := hm.1
  omega

theorem high_test {m hi r : Nat} (hhi : Bd hi) (h : ky m ≤ ky hi) (hr : rk r = rk (fop .add hi 4562254508917369340)) : (FloatKind.f64.format.order m r == some .gt) = false := by
  rw [gt_test]
  simp only [decide_eq_false_iff_not]
  rintro ⟨-, -, h1⟩
  have hC : Fn 4562254508917369340 := ⟨by decide +kernel, by decide +kernel, by decide +kernel⟩
  have hC0 : (0 : Int) ≤ VK (ky 4562254508917369340) := by
    have := VK_mono (show (0 : Int) ≤ ky 4562254508917369340 by decide +kernel)
    rw [VK_zero] at this
    exact this
  have e1 : ky r = sf (VK (ky hi) + VK (ky 4562254508917369340)) := by rw [ky_of hr]; exact (add_key hhi.fn hC).1
  have e2 := sf_VK (ky hi) (by have := hhi.2.1; omega) (by have := hhi.2.2; omega)
  have e3 := sf_mono (show VK (ky hi) ≤ VK (ky hi) + VK (ky 4562254508917369340) by omega)
  have h2 : ky r < ky m := h1
  omega

theorem sum_test {s : Nat} (hs : NN s) : (FloatKind.f64.format.order s 13785626545772145148 == some .lt) = false := by
  rw [lt_test]
  simp only [decide_eq_false_iff_not]
  rintro ⟨h1, -, h2⟩
  have h3 : key (rk 13785626545772145148) < 0 := by decide +kernel
  rcases hs with h | h
  · exact h1 h
  · unfold ky at h
    omega

/-- Nothing, parted. -/
theorem quo_zero {x y : Nat} (hx : Fn x) (h : ky x = 0) (hy : ∃ n p, double.read y = .number false n p ∧ n ≠ 0) : Fn (fop .quo x y) ∧ ky (fop .quo x y) = 0 := by
  obtain ⟨s, m, u, hrx, hvx, -⟩ := fn_read hx
  obtain ⟨n, p, hry, hn⟩ := hy
  have hm : m = 0 := by
    rw [h, VK_zero] at hvx
    have : m * 2 ^ u = 0 := by unfold sg at hvx; split at hvx <;> omega
    rcases Nat.mul_eq_zero.1 this with h | h
    · exact h
    · have := Nat.pow_pos (n := u) (show 0 < 2 by decide); omega
  subst hm
  have e : floatBits .quo .f64 x y = some (double.word (s ^^ false) 0) := by
    show ((double.read x).quotient 54 (double.read y)).map double.write = _
    rw [hrx, hry]
    show (Option.map double.write (if n = 0 then (if 0 = 0 then none else some (Datum.infinity (s ^^ false))) else some (Datum.number (s ^^ false) (2 * ((0 <<< (54 + n.log2 - (0 : Nat).log2)) / n) + ((0 <<< (54 + n.log2 - (0 : Nat).log2)) % n != 0).toNat) (-1074 + (u : Int) - p - ((54 + n.log2 - (0 : Nat).log2 : Nat) : Int) - 1)))) = _
    rw [if_neg hn, Nat.zero_shiftLeft, Nat.zero_div, Nat.zero_mod]
    rfl
  obtain ⟨h1, h2⟩ := word_key (s ^^ false) 0 (by omega)
  have hk : ky (fop .quo x y) = 0 := by
    unfold fop
    rw [e]
    show ky (double.word _ 0) = 0
    rw [h1]
    unfold sg
    split <;> omega
  refine ⟨⟨?_, by omega, by omega⟩, hk⟩
  unfold fop
  rw [e]
  exact h2

theorem flo_read (N : Nat) (h1 : 1 ≤ N) (h2 : N ≤ 300) : ∃ n p, double.read (flo N) = .number false n p ∧ n ≠ 0 := by
  by_cases h : N = 1
  · subst h
    exact ⟨4503599627370496, -52, by kernel_rfl, by omega⟩
  · obtain ⟨n, j, h3, -, h4⟩ := whole_flo N (by omega) h2
    refine ⟨n, _, h3, ?_⟩
    have := Nat.pow_pos (n := j + 1) (show 0 < 2 by decide)
    omega

theorem spread_zero {a : G} (h1 : 1 ≤ a.n) (h2 : a.n ≤ 300) (hs : Fn a.s) (hk : ky a.s = 0) : ky a.spread = 0 ∧ rk a.spread ≠ 9218868437227405313 := by
  obtain ⟨q1, q2⟩ := quo_zero hs hk (flo_read a.n h1 h2)
  unfold G.spread
  rw [if_neg (by omega)]
  exact sqrt_key q1 q2

end Go.Proofs.Ytoabhnbifbdknaa.EdgeMath
