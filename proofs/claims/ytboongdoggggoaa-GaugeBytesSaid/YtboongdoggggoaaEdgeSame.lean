/- What is the same float, the program's order and the reference's, by names. -/
import Derived.Test.YtboongdoggggoaaEdgeNum
namespace Go.Proofs.Ytboongdoggggoaa
set_option maxRecDepth 20000
open Go.RowKit EdgeMath

theorem ofNat_int (n : Nat) : BitVec.ofInt 64 (n : Int) = BitVec.ofNat 64 n := BitVec.ofInt_natCast 64 n

theorem wrap_small (n : Nat) (h : n < 18446744073709551616) : IntKind.u64.wrap (n : Int) = n := by
  rw [IntKind.wrap_u64]
  omega

theorem refbits_any (x : Nat) (w : World) :
    Calls Try.prog 103 #[.float .f64 x] w fun e w' => e = .returned (.int .u64 (canon x : Int)) ∧ w = w' := by
  have hb := run_bits
  go_enter Try.func103, Try.ntmps103
  go_wp2
  all_goals (go_ret; refine ⟨congrArg (fun n => Ending.returned (.int .u64 n)) ?_, rfl⟩)
  all_goals
    simp only [nan_test, decide_eq_true_eq, decide_eq_false_iff_not] at *
    unfold canon
    split <;> omega

theorem same_any (x y : Nat) (w : World) (hx : x < 18446744073709551616) (hy : y < 18446744073709551616) :
    Calls Try.prog 71 #[.float .f64 x, .float .f64 y] w fun e w' => e = .returned (.bool (decide (rk x = rk y))) ∧ w = w' := by
  go_enter Try.func71, Try.ntmps71
  go_wp2_with fail
  refine (refbits_any x _).mono ?_
  rintro e w' ⟨rfl, rfl⟩
  go_wp2_with fail
  refine (refbits_any y _).mono ?_
  rintro e w' ⟨rfl, rfl⟩
  go_wp2
  go_ret
  refine ⟨congrArg (fun n => Ending.returned (.bool n)) ?_, rfl⟩
  have h := canon_eq x y hx hy
  rw [Bool.eq_iff_iff]
  simp only [beq_iff_eq, decide_eq_true_eq]
  omega

theorem same_true (x y : Nat) (w : World) (hx : x < 18446744073709551616) (hy : y < 18446744073709551616) (h : rk x = rk y) :
    Calls Try.prog 71 #[.float .f64 x, .float .f64 y] w fun e w' => e = .returned (.bool true) ∧ w = w' := by
  refine (same_any x y w hx hy).mono ?_
  rintro e w' ⟨rfl, rfl⟩
  exact ⟨by simp [h], rfl⟩

theorem order_named (x y : Nat) (o : Int) (w : World) (hx : x < 18446744073709551616) (hy : y < 18446744073709551616) (ho : o = ord (rk x) (rk y)) :
    Calls Try.prog 121 #[.float .f64 x, .float .f64 y] w fun e w' => e = .returned (.int .i64 o) ∧ w = w' := by
  rw [ho]
  exact order_any x y w hx hy

end Go.Proofs.Ytboongdoggggoaa
