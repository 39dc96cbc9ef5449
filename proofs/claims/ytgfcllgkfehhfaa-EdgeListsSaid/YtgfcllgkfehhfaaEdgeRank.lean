/- edge's ranks, and the reference's; what is the same float; the fixed answers. -/
import Derived.Test.YtgfcllgkfehhfaaEdgeNum
namespace Go.Proofs.Ytgfcllgkfehhfaa
open Go.RowKit EdgeMath

theorem neg_run (x : Nat) (w : World) : (Op.unary .neg (.float .f64 x)).run Try.prog w = .ok (.float .f64 (Op.negFloat .f64 x)) w := rfl

theorem ofNat_int (n : Nat) : BitVec.ofInt 64 (n : Int) = BitVec.ofNat 64 n := BitVec.ofInt_natCast 64 n

theorem wrap_small (n : Nat) (h : n < 18446744073709551616) : IntKind.u64.wrap (n : Int) = n := by
  rw [IntKind.wrap_u64]
  omega

/-- The bits below the sign. -/
theorem andNot_top (n : Nat) (h : n < 18446744073709551616) : bits .andNot .u64 (n : Int) 9223372036854775808 = ((n % 9223372036854775808 : Nat) : Int) := by
  show IntKind.u64.wrap (((BitVec.ofInt 64 (n : Int) &&& ~~~BitVec.ofInt 64 9223372036854775808).toNat : Nat) : Int) = _
  have c : ~~~BitVec.ofInt 64 9223372036854775808 = BitVec.ofNat 64 (2 ^ 63 - 1) := by decide
  rw [c, ofNat_int, BitVec.toNat_and, BitVec.toNat_ofNat, BitVec.toNat_ofNat, show (2 ^ 63 - 1) % 2 ^ 64 = 2 ^ 63 - 1 by decide, Nat.and_two_pow_sub_one_eq_mod, Nat.mod_eq_of_lt (show n < 2 ^ 64 by omega)]
  exact wrap_small _ (by omega)

/-- The sign set. -/
theorem or_top (r : Int) (h0 : 0 ≤ r) (h1 : r < 9223372036854775808) : bits .or .u64 r 9223372036854775808 = r + 9223372036854775808 := by
  obtain ⟨n, rfl⟩ : ∃ n : Nat, r = n := ⟨r.toNat, by omega⟩
  show IntKind.u64.wrap (((BitVec.ofInt 64 (n : Int) ||| BitVec.ofInt 64 9223372036854775808).toNat : Nat) : Int) = _
  have c : BitVec.ofInt 64 9223372036854775808 = BitVec.ofNat 64 (2 ^ 63) := by decide
  have o := Nat.two_pow_add_eq_or_of_lt (i := 63) (b := n) (by omega) 1
  rw [Nat.mul_one] at o
  rw [c, ofNat_int, BitVec.toNat_or, BitVec.toNat_ofNat, BitVec.toNat_ofNat, show 2 ^ 63 % 2 ^ 64 = 2 ^ 63 by decide, Nat.mod_eq_of_lt (show n < 2 ^ 64 by omega), Nat.or_comm, ← o]
  rw [wrap_small _ (by omega)]
  omega

theorem rank_small (x : Nat) (w : World) (hx : x < 9223372036854775808) :
    Calls Try.prog 14 #[.float .f64 x] w fun e w' => e = .returned (.int .i64 (rk x)) ∧ w = w' := by
  have hb := run_bits
  go_enter Try.func14, Try.ntmps14
  go_wp2_with (first | (go_at_call 30; refine (signbit_any x _ (by omega)).mono ?_; rintro e w' ⟨rfl, rfl⟩))
  all_goals (go_ret; refine ⟨congrArg (fun n => Ending.returned (.int .i64 n)) ?_, rfl⟩)
  all_goals
    simp only [nan_test, decide_eq_true_eq, decide_eq_false_iff_not] at *
    have h := rk_small x hx
    omega

theorem rank_any (x : Nat) (w : World) (hx : x < 18446744073709551616) :
    Calls Try.prog 14 #[.float .f64 x] w fun e w' => e = .returned (.int .i64 (rk x)) ∧ w = w' := by
  by_cases hs : x < 9223372036854775808
  · exact rank_small x w hs
  · have hb := run_bits
    have hn := neg_run
    have hneg : Op.negFloat .f64 x < 9223372036854775808 := by rw [neg_eq x hx, if_neg hs]; omega
    go_enter Try.func14, Try.ntmps14
    go_wp2_with (first | (go_at_call 30; refine (signbit_any x _ (by omega)).mono ?_; rintro e w' ⟨rfl, rfl⟩) | (go_at_call 14; refine (rank_small _ _ hneg).mono ?_; rintro e w' ⟨rfl, rfl⟩))
    all_goals (go_ret; refine ⟨congrArg (fun n => Ending.returned (.int .i64 n)) ?_, rfl⟩)
    all_goals
      simp only [nan_test, decide_eq_true_eq, decide_eq_false_iff_not] at *
      have h := rk_neg x hx
      have h1 := rk_lo x
      have h2 := rk_hi x
      try unfold wrap64
      omega

theorem refrank_any (x : Nat) (w : World) (hx : x < 18446744073709551616) :
    Calls Try.prog 15 #[.float .f64 x] w fun e w' => e = .returned (.int .i64 (rk x)) ∧ w = w' := by
  have hb := run_bits
  go_enter Try.func15, Try.ntmps15
  go_wp2_with (first | (go_at_call 13; refine (refclass_any x _ (by omega)).mono ?_; rintro e w' ⟨rfl, rfl⟩))
  all_goals (go_ret; refine ⟨congrArg (fun n => Ending.returned (.int .i64 n)) ?_, rfl⟩)
  all_goals
    simp only [nan_test, decide_eq_true_eq, decide_eq_false_iff_not, cls_lt, cls_ge] at *
    try rw [andNot_top x hx]
  · omega
  · rename_i h1 h2
    have h3 : rk x < 0 ∧ rk x ≠ 9218868437227405313 := by omega
    clear h1 h2
    unfold rk at h3 ⊢
    unfold wrap64
    (repeat' split) <;> (repeat' split at h3) <;> omega
  · rename_i h1 h2
    have h3 : 0 ≤ rk x ∧ rk x ≠ 9218868437227405313 := by omega
    clear h1 h2
    unfold rk at h3 ⊢
    unfold wrap64
    (repeat' split) <;> (repeat' split at h3) <;> omega

theorem at_pos (r : Int) (w : World) (h0 : 0 ≤ r) (h1 : r ≤ 9218868437227405312) :
    Calls Try.prog 17 #[.int .i64 r] w fun e w' => e = .returned (.float .f64 r.toNat) ∧ w = w' := by
  have hb := run_from
  go_enter Try.func17, Try.ntmps17
  go_wp2
  all_goals (go_ret; exact ⟨rfl, rfl⟩)

theorem at_any (r : Int) (w : World) (h0 : -9223372036854775808 ≤ r) (h1 : r ≤ 9223372036854775807) :
    Calls Try.prog 17 #[.int .i64 r] w fun e w' => ∃ b, e = .returned (.float .f64 b) ∧ b < 18446744073709551616 ∧ rk b = clamp r ∧ w = w' := by
  have hb := run_from
  have hn := neg_run
  by_cases hp : 0 ≤ r ∧ r ≤ 9218868437227405312
  · refine (at_pos r w hp.1 hp.2).mono ?_
    rintro e w' ⟨rfl, rfl⟩
    refine ⟨_, rfl, by omega, ?_, rfl⟩
    unfold clamp
    rw [if_neg (by omega), if_neg (by omega), rk_small _ (by omega)]
    · omega
    · unfold rk
      (repeat' split) <;> omega
  · go_enter Try.func17, Try.ntmps17
    go_wp2_with (first | (go_at_call 28; refine (nan_any _).mono ?_; rintro e w' ⟨rfl, rfl⟩) | (go_at_call 33; refine (inf_minus _).mono ?_; rintro e w' ⟨rfl, rfl⟩) | (go_at_call 17; refine (at_pos _ _ (by omega) (by omega)).mono ?_; rintro e w' ⟨rfl, rfl⟩))
    · go_ret
      refine ⟨_, rfl, by omega, ?_, rfl⟩
      unfold clamp
      rw [if_pos (by omega)]
      rfl
    · go_ret
      refine ⟨_, rfl, by omega, ?_, rfl⟩
      unfold clamp
      rw [if_neg (by omega), if_pos (by omega)]
      rfl
    · go_ret
      refine ⟨_, rfl, neg_lt _ (by omega), ?_, rfl⟩
      have hk : rk (-1 - r).toNat = -1 - r := by
        unfold rk
        (repeat' split) <;> omega
      unfold clamp
      rw [if_neg (by omega), if_neg (by omega), rk_neg _ (by omega) (by omega), hk]
      omega

theorem refat_any (r : Int) (w : World) (h0 : -9223372036854775808 ≤ r) (h1 : r ≤ 9223372036854775807) :
    Calls Try.prog 18 #[.int .i64 r] w fun e w' => ∃ b, e = .returned (.float .f64 b) ∧ b < 18446744073709551616 ∧ rk b = clamp r ∧ w = w' := by
  have hb := run_from
  go_enter Try.func18, Try.ntmps18
  go_wp2_with (first | (go_at_call 28; refine (nan_any _).mono ?_; rintro e w' ⟨rfl, rfl⟩))
  · go_ret
    refine ⟨_, rfl, by omega, ?_, rfl⟩
    unfold clamp
    rw [if_pos (by omega)]
    rfl
  · go_ret
    rw [or_top _ (by omega) (by omega)]
    refine ⟨_, rfl, by omega, ?_, rfl⟩
    unfold clamp
    rw [if_neg (by omega), if_pos (by omega)]
    rfl
  · go_ret
    rw [or_top _ (by omega) (by omega)]
    refine ⟨_, rfl, by omega, ?_, rfl⟩
    unfold clamp
    rw [if_neg (by omega), if_neg (by omega)]
    unfold rk
    (repeat' split) <;> omega
  · go_ret
    refine ⟨_, rfl, by omega, ?_, rfl⟩
    unfold clamp
    rw [if_neg (by omega), if_neg (by omega)]
    unfold rk
    (repeat' split) <;> omega

theorem refbits_any (x : Nat) (w : World) :
    Calls Try.prog 32 #[.float .f64 x] w fun e w' => e = .returned (.int .u64 (canon x : Int)) ∧ w = w' := by
  have hb := run_bits
  go_enter Try.func32, Try.ntmps32
  go_wp2
  all_goals (go_ret; refine ⟨congrArg (fun n => Ending.returned (.int .u64 n)) ?_, rfl⟩)
  all_goals
    simp only [nan_test, decide_eq_true_eq, decide_eq_false_iff_not] at *
    unfold canon
    split <;> omega

theorem same_any (x y : Nat) (w : World) (hx : x < 18446744073709551616) (hy : y < 18446744073709551616) :
    Calls Try.prog 16 #[.float .f64 x, .float .f64 y] w fun e w' => e = .returned (.bool (decide (rk x = rk y))) ∧ w = w' := by
  go_enter Try.func16, Try.ntmps16
  go_wp2_with fail
  refine (refbits_any x _).mono ?_
  rintro e w' ⟨rfl, rfl⟩
  go_wp2_with fail
  refine (refbits_any y _).mono ?_
  rintro e w' ⟨rfl, rfl⟩
  go_wp2
  go_ret
  refine ⟨congrArg (fun n => Ending.returned (.bool n)) ?_, rfl⟩
  have h := canon_eq x y hx hy
  rw [Bool.eq_iff_iff]
  simp only [beq_iff_eq, decide_eq_true_eq]
  omega

theorem copysign_any (w : World) : Calls Try.prog 27 #[.float .f64 0, .float .f64 13830554455654793216] w fun e w' => e = .returned (.float .f64 9223372036854775808) ∧ w = w' := by
  have hb := run_bits
  have hf := run_from
  go_enter Try.func27, Try.ntmps27
  go_wp2
  go_ret
  exact ⟨rfl, rfl⟩

end Go.Proofs.Ytgfcllgkfehhfaa
