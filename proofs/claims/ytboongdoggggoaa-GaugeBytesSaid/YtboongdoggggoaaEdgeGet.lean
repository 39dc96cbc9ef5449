/- edge.Get and the reference's: the float that bytes are. -/
import Derived.Test.YtboongdoggggoaaEdgePut
namespace Go.Proofs.Ytboongdoggggoaa
set_option maxRecDepth 20000
open Go.RowKit EdgeMath BinMath

/-- The number that bytes are, the highest first. -/
def valFrom (n : Nat) (l : List UInt8) : Nat := l.foldl (fun n c => n * 256 + c.toNat) n

def getV (l : List UInt8) : Nat := valFrom 0 l

theorem valFrom_eq (l : List UInt8) : ∀ n, valFrom n l = n * 256 ^ l.length + getV l := by
  induction l with
  | nil => intro n; simp [valFrom, getV]
  | cons c l ih =>
    intro n
    have h1 : valFrom n (c :: l) = valFrom (n * 256 + c.toNat) l := rfl
    have h2 : getV (c :: l) = valFrom c.toNat l := by unfold getV valFrom; simp
    rw [h1, h2, ih, ih c.toNat, List.length_cons, Nat.pow_succ, Nat.add_mul, Nat.mul_assoc, Nat.mul_comm 256, Nat.add_assoc]

theorem getV_lt (l : List UInt8) : getV l < 256 ^ l.length := by
  induction l with
  | nil => simp [valFrom, getV]
  | cons c l ih =>
    have h2 : getV (c :: l) = valFrom c.toNat l := by unfold getV valFrom; simp
    rw [h2, valFrom_eq, List.length_cons, Nat.pow_succ]
    have hc : c.toNat ≤ 255 := by have := c.toNat_lt; omega
    have := Nat.mul_le_mul_right (256 ^ l.length) hc
    omega

theorem be_getV (l : List UInt8) : ∀ n, be l.length (valFrom n l) = l := by
  induction l with
  | nil => intro n; rfl
  | cons c l ih =>
    intro n
    have h1 : valFrom n (c :: l) = valFrom (n * 256 + c.toNat) l := rfl
    rw [h1, List.length_cons, be, ih]
    congr 1
    rw [valFrom_eq]
    have hp : 0 < 256 ^ l.length := Nat.pow_pos (by decide)
    have hlt := getV_lt l
    rw [Nat.mul_comm, Nat.mul_add_div hp, Nat.div_eq_of_lt hlt, Nat.add_zero, Nat.mul_comm, Nat.mul_add_mod]
    have hc := c.toNat_lt
    rw [Nat.mod_eq_of_lt hc]
    simp

theorem getV_be (k : Nat) : ∀ x acc, valFrom acc (be k x) = acc * 256 ^ k + x % 256 ^ k := by
  induction k with
  | zero => intro x acc; simp [be, valFrom, Nat.mod_one]
  | succ k ih =>
    intro x acc
    have h1 : valFrom acc (be (k + 1) x) = valFrom (acc * 256 + (UInt8.ofNat (x / 256 ^ k % 256)).toNat) (be k x) := rfl
    have h2 : (UInt8.ofNat (x / 256 ^ k % 256)).toNat = x / 256 ^ k % 256 := by simp
    rw [h1, ih, h2, Nat.pow_succ, Nat.mod_mul, Nat.add_mul, Nat.mul_assoc, Nat.mul_comm 256, Nat.mul_comm (256 ^ k) (x / 256 ^ k % 256)]
    omega

/-- What the document answers at these bytes: the float, and the number of the error. -/
def getR (l : List UInt8) : Nat × Nat :=
  if l.length < 8 then (0, 2) else if 8 < l.length then (0, 5)
  else if rk (getV l) = 9218868437227405313 ∧ getV l ≠ 9221120237041090560 then (0, 3) else (getV l, 0)

theorem getR_lt (l : List UInt8) : (getR l).1 < 18446744073709551616 := by
  have h := getV_lt l
  unfold getR
  split
  · decide
  · split
    · decide
    · split
      · decide
      · rw [show l.length = 8 by omega] at h
        exact h

theorem valFrom_snoc (l : List UInt8) (i : Nat) (h : i < l.length) : getV (l.take (i + 1)) = getV (l.take i) * 256 + l[i].toNat := by
  unfold getV valFrom
  rw [List.take_add_one, List.getElem?_eq_getElem h, List.foldl_append]
  rfl

/-- 'n<<8 | c'. -/
theorem or_byte (n c : Nat) (hn : n < 72057594037927936) (hc : c < 256) : bits .or .u64 ((n : Int) * 256) (c : Int) = ((n * 256 + c : Nat) : Int) := by
  show IntKind.u64.wrap (((BitVec.ofInt 64 ((n : Int) * 256) ||| BitVec.ofInt 64 (c : Int)).toNat : Nat) : Int) = _
  have e : (n : Int) * 256 = ((n * 256 : Nat) : Int) := by omega
  have o := Nat.two_pow_add_eq_or_of_lt (i := 8) (b := c) (by omega) n
  rw [e, ofNat_int, ofNat_int, BitVec.toNat_or, BitVec.toNat_ofNat, BitVec.toNat_ofNat, Nat.mod_eq_of_lt (show n * 256 < 2 ^ 64 by omega), Nat.mod_eq_of_lt (show c < 2 ^ 64 by omega), show n * 256 = 2 ^ 8 * n by omega, ← o]
  exact wrap_small _ (by omega)

theorem pow_small (i : Nat) (h : i < 8) : 256 ^ i ≤ 72057594037927936 := by
  have h7 : (256 : Nat) ^ i ≤ 256 ^ 7 := Nat.pow_le_pow_right (by decide) (by omega)
  exact h7

set_option maxHeartbeats 1000000 in
theorem get_any (v : Value) (l : List UInt8) (f c : Nat) (w : World) (hv : Bys w v l) (hl : l.length ≤ 140737488355328) (hr : getR l = (f, c)) :
    Calls Try.prog 67 #[v] w fun e w' => e = .returned (.tuple #[.float .f64 f, .int .i64 (c : Int)]) ∧ w = w' := by
  obtain ⟨n, hn⟩ : ∃ n, n = l.length := ⟨_, rfl⟩
  have hb : (∃ ad cap, v = .slice ad n cap ∧ ∀ (i : Nat) (h : i < l.length), ∃ a, ad = some a ∧ w.cell? (a.add i) = some (bv l[i])) := by
    rcases hv with ⟨rfl, rfl⟩ | ⟨ad, cap, rfl, hc⟩
    · exact ⟨none, 0, by simp at hn; subst hn; rfl, fun i h => by simp at h⟩
    · exact ⟨some ad, cap, by rw [hn], fun i h => ⟨ad, rfl, hc i h⟩⟩
  obtain ⟨ad, cap, rfl, hc⟩ := hb
  have HC := Lib.hid hc
  have HN := Lib.hid hn
  have hn1 : n ≤ 140737488355328 := by omega
  have HR := Lib.hid hr
  clear hc hv hl hr
  have hf := run_from
  by_cases h8 : n < 8
  · have hr := HR.out
    unfold getR at hr
    rw [if_pos (by omega)] at hr
    obtain ⟨rfl, rfl⟩ := Prod.mk.inj hr
    clear hr hn
    go_enter Try.func67, Try.ntmps67
    go_wp2
    exact bodyPost_ret (v := .tuple #[.float .f64 0, .int .i64 2]) (by simp [results, Try.results67, go_sem]) rfl ⟨rfl, rfl⟩
  · by_cases h9 : 8 < n
    · have hr := HR.out
      unfold getR at hr
      rw [if_neg (by omega), if_pos (by omega)] at hr
      obtain ⟨rfl, rfl⟩ := Prod.mk.inj hr
      clear hr hn
      go_enter Try.func67, Try.ntmps67
      go_wp2
      exact bodyPost_ret (v := .tuple #[.float .f64 0, .int .i64 5]) (by simp [results, Try.results67, go_sem]) rfl ⟨rfl, rfl⟩
    · obtain rfl : n = 8 := by omega
      have hV : getV l < 18446744073709551616 := by
        have h := getV_lt l
        rw [← hn] at h
        exact h
      have hr := HR.out
      unfold getR at hr
      rw [if_neg (by omega), if_neg (by omega)] at hr
      obtain ⟨V, hVe⟩ : ∃ V, V = getV l := ⟨_, rfl⟩
      rw [← hVe] at hr hV
      have HV := Lib.hid hVe
      have HRr := Lib.hid hr
      clear hr hn h8 h9 hVe
      go_enter Try.func67, Try.ntmps67
      go_wp2
      go_loop [4, 16] (fun s4 s16 => ∃ i : Nat, i ≤ 8 ∧ s16 = .int .i64 (i : Int) ∧ s4 = .int .u64 ((getV (l.take i) : Nat) : Int)) (fun _ s16 => 8 - (intOf s16).toNat)
      case atStart => exact ⟨0, by omega, rfl, by simp [getV, valFrom]⟩
      case round =>
        obtain ⟨i, hi, rfl, rfl⟩ := hrel
        obtain ⟨k, hk⟩ : ∃ k, k = getV (l.take i) := ⟨_, rfl⟩
        rw [← hk]
        have HK := Lib.hid hk
        clear hk
        by_cases hlt : i < 8
        · have hil : i < l.length := by have := HN.out; omega
          obtain ⟨a, rfl, hcell⟩ := HC.out i hil
          obtain ⟨y, hy⟩ : ∃ y, y = l[i].toNat := ⟨_, rfl⟩
          rw [bv, ← hy] at hcell
          have hy255 : y < 256 := by rw [hy]; exact UInt8.toNat_lt _
          have hkb : k < 72057594037927936 := by
            have h := getV_lt (l.take i)
            have ht : (l.take i).length = i := by rw [List.length_take]; omega
            have hp := pow_small i hlt
            rw [ht, ← HK.out] at h
            omega
          obtain ⟨m, hm⟩ : ∃ m, m = k * 256 + y := ⟨_, rfl⟩
          have hor : bits .or .u64 ((k : Int) * 256) (y : Int) = (m : Int) := by rw [hm]; exact or_byte k y hkb hy255
          have hmv : m = getV (l.take (i + 1)) := by rw [valFrom_snoc l i hil, ← HK.out, hm, hy]
          have HM := Lib.hid hmv
          clear hm hmv hy
          go_wp2
          go_round
          case rel => exact ⟨i + 1, by omega, by go_num, by rw [HM.out]⟩
          case measure => simp [intOf]; omega
        · obtain rfl : k = V := by rw [HK.out, HV.out, List.take_of_length_le (by have := HN.out; omega)]
          have hr := HRr.out
          by_cases hnan : rk k = 9218868437227405313
          · by_cases hcn : k = 9221120237041090560
            · rw [if_neg (by omega)] at hr
              obtain ⟨rfl, rfl⟩ := Prod.mk.inj hr
              subst hcn
              clear hr hnan
              go_wp2
              exact bodyPost_ret (v := .tuple #[.float .f64 9221120237041090560, .int .i64 0]) (by simp [results, Try.results67, go_sem]) rfl ⟨rfl, rfl⟩
            · rw [if_pos (by omega)] at hr
              obtain ⟨rfl, rfl⟩ := Prod.mk.inj hr
              have ht : (FloatKind.f64.format.order k k != some .eq) = true := by rw [nan_test, hnan]; rfl
              have hc : ((k : Int) != 9221120237041090560) = true := by simp; omega
              clear hr hnan hcn
              go_wp2
              exact bodyPost_ret (v := .tuple #[.float .f64 0, .int .i64 3]) (by simp [results, Try.results67, go_sem]) rfl ⟨rfl, rfl⟩
          · rw [if_neg (by omega)] at hr
            obtain ⟨rfl, rfl⟩ := Prod.mk.inj hr
            have ht : (FloatKind.f64.format.order k k != some .eq) = false := by rw [nan_test]; simp [hnan]
            clear hr hnan
            go_wp2
            exact bodyPost_ret (v := .tuple #[.float .f64 k, .int .i64 0]) (by simp [results, Try.results67, go_sem]) rfl ⟨rfl, rfl⟩

set_option maxHeartbeats 1000000 in
theorem refget_any (v : Value) (l : List UInt8) (f c : Nat) (w : World) (hv : Bys w v l) (hl : l.length ≤ 140737488355328) (hr : getR l = (f, c)) :
    Calls Try.prog 68 #[v] w fun e w' => e = .returned (.tuple #[.float .f64 f, .int .i64 (c : Int)]) ∧ w = w' := by
  obtain ⟨n, hn⟩ : ∃ n, n = l.length := ⟨_, rfl⟩
  have hb : (∃ ad cap, v = .slice ad n cap ∧ ∀ (i : Nat) (h : i < l.length), ∃ a, ad = some a ∧ w.cell? (a.add i) = some (bv l[i])) := by
    rcases hv with ⟨rfl, rfl⟩ | ⟨ad, cap, rfl, hc⟩
    · exact ⟨none, 0, by simp at hn; subst hn; rfl, fun i h => by simp at h⟩
    · exact ⟨some ad, cap, by rw [hn], fun i h => ⟨ad, rfl, hc i h⟩⟩
  obtain ⟨ad, cap, rfl, hc⟩ := hb
  have HC := Lib.hid hc
  have HN := Lib.hid hn
  have hn1 : n ≤ 140737488355328 := by omega
  have HR := Lib.hid hr
  clear hc hv hl hr
  have hf := run_from
  by_cases h8 : n < 8
  · have hr := HR.out
    unfold getR at hr
    rw [if_pos (by omega)] at hr
    obtain ⟨rfl, rfl⟩ := Prod.mk.inj hr
    clear hr hn
    go_enter Try.func68, Try.ntmps68
    go_wp2
    exact bodyPost_ret (v := .tuple #[.float .f64 0, .int .i64 2]) (by simp [results, Try.results68, go_sem]) rfl ⟨rfl, rfl⟩
  · by_cases h9 : 8 < n
    · have hr := HR.out
      unfold getR at hr
      rw [if_neg (by omega), if_pos (by omega)] at hr
      obtain ⟨rfl, rfl⟩ := Prod.mk.inj hr
      clear hr hn
      go_enter Try.func68, Try.ntmps68
      go_wp2
      exact bodyPost_ret (v := .tuple #[.float .f64 0, .int .i64 5]) (by simp [results, Try.results68, go_sem]) rfl ⟨rfl, rfl⟩
    · obtain rfl : n = 8 := by omega
      have hV : getV l < 18446744073709551616 := by
        have h := getV_lt l
        rw [← hn] at h
        exact h
      have hr := HR.out
      unfold getR at hr
      rw [if_neg (by omega), if_neg (by omega)] at hr
      obtain ⟨V, hVe⟩ : ∃ V, V = getV l := ⟨_, rfl⟩
      rw [← hVe] at hr hV
      have HV := Lib.hid hVe
      have HRr := Lib.hid hr
      clear hr hn h8 h9 hVe
      go_enter Try.func68, Try.ntmps68
      go_wp2
      go_loop [4, 5] (fun s4 s5 => ∃ i : Nat, i ≤ 8 ∧ s5 = .int .i64 (i : Int) ∧ s4 = .int .u64 ((getV (l.take i) : Nat) : Int)) (fun _ s5 => 8 - (intOf s5).toNat)
      case atStart => exact ⟨0, by omega, rfl, by simp [getV, valFrom]⟩
      case round =>
        obtain ⟨i, hi, rfl, rfl⟩ := hrel
        obtain ⟨k, hk⟩ : ∃ k, k = getV (l.take i) := ⟨_, rfl⟩
        rw [← hk]
        have HK := Lib.hid hk
        clear hk
        by_cases hlt : i < 8
        · have hil : i < l.length := by have := HN.out; omega
          obtain ⟨a, rfl, hcell⟩ := HC.out i hil
          obtain ⟨y, hy⟩ : ∃ y, y = l[i].toNat := ⟨_, rfl⟩
          rw [bv, ← hy] at hcell
          have hy255 : y < 256 := by rw [hy]; exact UInt8.toNat_lt _
          have hkb : k < 72057594037927936 := by
            have h := getV_lt (l.take i)
            have ht : (l.take i).length = i := by rw [List.length_take]; omega
            have hp := pow_small i hlt
            rw [ht, ← HK.out] at h
            omega
          obtain ⟨m, hm⟩ : ∃ m, m = k * 256 + y := ⟨_, rfl⟩
          have hor : bits .or .u64 ((k : Int) * 256) (y : Int) = (m : Int) := by rw [hm]; exact or_byte k y hkb hy255
          have hmv : m = getV (l.take (i + 1)) := by rw [valFrom_snoc l i hil, ← HK.out, hm, hy]
          have HM := Lib.hid hmv
          clear hm hmv hy
          go_wp2
          go_round
          case rel => exact ⟨i + 1, by omega, by go_num, by rw [HM.out]⟩
          case measure => simp [intOf]; omega
        · obtain rfl : k = V := by rw [HK.out, HV.out, List.take_of_length_le (by have := HN.out; omega)]
          have hr := HRr.out
          by_cases hnan : rk k = 9218868437227405313
          · by_cases hcn : k = 9221120237041090560
            · rw [if_neg (by omega)] at hr
              obtain ⟨rfl, rfl⟩ := Prod.mk.inj hr
              subst hcn
              clear hr hnan
              go_wp2
              exact bodyPost_ret (v := .tuple #[.float .f64 9221120237041090560, .int .i64 0]) (by simp [results, Try.results68, go_sem]) rfl ⟨rfl, rfl⟩
            · rw [if_pos (by omega)] at hr
              obtain ⟨rfl, rfl⟩ := Prod.mk.inj hr
              have ht : (FloatKind.f64.format.order k k != some .eq) = true := by rw [nan_test, hnan]; rfl
              have hc : ((k : Int) != 9221120237041090560) = true := by simp; omega
              clear hr hnan hcn
              go_wp2
              exact bodyPost_ret (v := .tuple #[.float .f64 0, .int .i64 3]) (by simp [results, Try.results68, go_sem]) rfl ⟨rfl, rfl⟩
          · rw [if_neg (by omega)] at hr
            obtain ⟨rfl, rfl⟩ := Prod.mk.inj hr
            have ht : (FloatKind.f64.format.order k k != some .eq) = false := by rw [nan_test]; simp [hnan]
            clear hr hnan
            go_wp2
            exact bodyPost_ret (v := .tuple #[.float .f64 k, .int .i64 0]) (by simp [results, Try.results68, go_sem]) rfl ⟨rfl, rfl⟩

end Go.Proofs.Ytboongdoggggoaa
