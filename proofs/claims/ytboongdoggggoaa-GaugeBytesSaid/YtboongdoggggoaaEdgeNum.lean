/- edge and its reference at one float, two floats, one rank: what each call answers. -/
import Derived.Test.YtboongdoggggoaaRows
import Derived.Test.YtboongdoggggoaaEdgeMath
import Derived.WalkKit
import Derived.WalkSpells
import Derived.WalkLawsBesides
import Derived.Lib.Hide
namespace Go.Proofs.Ytboongdoggggoaa
set_option maxRecDepth 20000
open Go.RowKit EdgeMath

/-- math.Float64bits, math.Float64frombits: the model's entries. -/
theorem run_bits (x : Nat) (w : World) : (callFunc 102 #[.float .f64 x]).run Try.prog w = .ok (.value (.int .u64 (x : Int))) w := by
  rw [run_callFunc_extern Try.func102 (by kernel_rfl) (by kernel_rfl) (by kernel_rfl) (e := Extern.MathFloatBits.float64bits) (by kernel_rfl)]
  rfl

theorem run_from (n : Int) (w : World) : (callFunc 65 #[.int .u64 n]).run Try.prog w = .ok (.value (.float .f64 n.toNat)) w := by
  rw [run_callFunc_extern Try.func65 (by kernel_rfl) (by kernel_rfl) (by kernel_rfl) (e := Extern.MathFloatBits.float64frombits) (by kernel_rfl)]
  rfl

theorem signbit_any (x : Nat) (w : World) (hx : x < 18446744073709551616) :
    Calls Try.prog 141 #[.float .f64 x] w fun e w' => e = .returned (.bool (decide (9223372036854775808 ≤ x))) ∧ w = w' := by
  have hb := run_bits
  go_enter Try.func141, Try.ntmps141
  go_wp2
  all_goals (go_ret; refine ⟨congrArg (fun b => Ending.returned (.bool b)) ?_, rfl⟩)
  all_goals (unfold wrap64; congr 1; apply propext; omega)

theorem inf_plus (w : World) : Calls Try.prog 100 #[.int .i64 1] w fun e w' => e = .returned (.float .f64 9218868437227405312) ∧ w = w' := by
  have hb := run_from
  go_enter Try.func100, Try.ntmps100
  go_wp2
  all_goals (go_ret; exact ⟨rfl, rfl⟩)

theorem inf_minus (w : World) : Calls Try.prog 100 #[.int .i64 (-1)] w fun e w' => e = .returned (.float .f64 18442240474082181120) ∧ w = w' := by
  have hb := run_from
  go_enter Try.func100, Try.ntmps100
  go_wp2
  all_goals (go_ret; exact ⟨rfl, rfl⟩)

theorem nan_any (w : World) : Calls Try.prog 99 #[] w fun e w' => e = .returned (.float .f64 9221120237041090561) ∧ w = w' := by
  have hb := run_from
  go_enter Try.func99, Try.ntmps99
  go_wp2
  all_goals (go_ret; exact ⟨rfl, rfl⟩)

theorem isnan_any (n : Int) (w : World) : Calls Try.prog 140 #[.int .i64 n] w fun e w' => e = .returned (.bool false) ∧ w = w' := by
  go_enter Try.func140, Try.ntmps140
  go_wp2
  all_goals (go_ret; exact ⟨by simp, rfl⟩)

theorem compare_any (a b : Int) (w : World) : Calls Try.prog 134 #[.int .i64 a, .int .i64 b] w fun e w' => e = .returned (.int .i64 (ord a b)) ∧ w = w' := by
  go_enter Try.func134, Try.ntmps134
  go_wp2_with (first | (go_at_call 140; refine (isnan_any _ _).mono ?_; rintro e w' ⟨rfl, rfl⟩))
  all_goals (go_ret; refine ⟨congrArg (fun n => Ending.returned (.int .i64 n)) ?_, rfl⟩)
  all_goals (unfold ord; (repeat' split) <;> omega)

theorem class_any (x : Nat) (w : World) (hx : x < 18446744073709551616) :
    Calls Try.prog 135 #[.float .f64 x] w fun e w' => e = .returned (.int .i64 (cls (rk x))) ∧ w = w' := by
  go_enter Try.func135, Try.ntmps135
  go_wp2_with (first | (go_at_call 141; refine (signbit_any x _ hx).mono ?_; rintro e w' ⟨rfl, rfl⟩))
  all_goals (go_ret; refine ⟨congrArg (fun n => Ending.returned (.int .i64 n)) ?_, rfl⟩)
  all_goals
    simp only [nan_test, max_test, min_test, pos_test, sub_test, decide_eq_true_eq, decide_eq_false_iff_not] at *
    have h1 := sign_rk x hx
    unfold cls
    (repeat' split) <;> omega

theorem class_named (x : Nat) (p : Int) (w : World) (hx : x < 18446744073709551616) (hp : p = cls (rk x)) :
    Calls Try.prog 135 #[.float .f64 x] w fun e w' => e = .returned (.int .i64 p) ∧ w = w' := by
  rw [hp]
  exact class_any x w hx

theorem compare_named (a b c : Int) (w : World) (hc : c = ord a b) : Calls Try.prog 134 #[.int .i64 a, .int .i64 b] w fun e w' => e = .returned (.int .i64 c) ∧ w = w' := by
  rw [hc]
  exact compare_any a b w

theorem order_any (x y : Nat) (w : World) (hx : x < 18446744073709551616) (hy : y < 18446744073709551616) :
    Calls Try.prog 121 #[.float .f64 x, .float .f64 y] w fun e w' => e = .returned (.int .i64 (ord (rk x) (rk y))) ∧ w = w' := by
  obtain ⟨p, hp⟩ : ∃ p, p = cls (rk x) := ⟨_, rfl⟩
  obtain ⟨q, hq⟩ : ∃ p, p = cls (rk y) := ⟨_, rfl⟩
  obtain ⟨c, hc⟩ : ∃ c, c = ord p q := ⟨_, rfl⟩
  have HP := Lib.hid hp
  have HQ := Lib.hid hq
  have HC := Lib.hid hc
  clear hp hq hc
  go_enter Try.func121, Try.ntmps121
  go_wp2_with fail
  refine (class_named x p _ hx HP.out).mono ?_
  rintro e w' ⟨rfl, rfl⟩
  go_wp2_with fail
  refine (class_named y q _ hy HQ.out).mono ?_
  rintro e w' ⟨rfl, rfl⟩
  go_wp2_with fail
  refine (compare_named p q c _ HC.out).mono ?_
  rintro e w' ⟨rfl, rfl⟩
  go_wp2
  all_goals (go_ret; refine ⟨congrArg (fun n => Ending.returned (.int .i64 n)) ?_, rfl⟩)
  all_goals
    simp only [bne_iff_ne, bne_eq_false_iff_eq] at *
    have hp := HP.out
    have hq := HQ.out
    have hc := HC.out
    by_cases h0 : c = 0
    · have hpq : cls (rk x) = cls (rk y) := by
        rw [← hp, ← hq]
        unfold ord at hc
        split at hc
        · omega
        · split at hc <;> omega
      try simp only [lt_cls x y hpq, gt_cls x y hpq, decide_eq_true_eq, decide_eq_false_iff_not] at *
      unfold ord
      (repeat' split) <;> omega
    · have h1 := ord_cls x y (by rw [← hp, ← hq, ← hc]; exact h0)
      rw [← hp, ← hq, ← hc] at h1
      omega

end Go.Proofs.Ytboongdoggggoaa
