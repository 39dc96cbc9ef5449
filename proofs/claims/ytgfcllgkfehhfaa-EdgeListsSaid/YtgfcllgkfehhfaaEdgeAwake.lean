/- The fixed answers of layer 5's laws. -/
import Derived.Test.YtgfcllgkfehhfaaEdgePut
namespace Go.Proofs.Ytgfcllgkfehhfaa
open Go.RowKit EdgeMath BinMath

theorem order_named (x y : Nat) (o : Int) (w : World) (hx : x < 18446744073709551616) (hy : y < 18446744073709551616) (ho : o = ord (rk x) (rk y)) :
    Calls Try.prog 10 #[.float .f64 x, .float .f64 y] w fun e w' => e = .returned (.int .i64 o) ∧ w = w' := by
  rw [ho]
  exact order_any x y w hx hy

theorem rank_named (x : Nat) (r : Int) (w : World) (hx : x < 18446744073709551616) (hr : r = rk x) :
    Calls Try.prog 14 #[.float .f64 x] w fun e w' => e = .returned (.int .i64 r) ∧ w = w' := by
  rw [hr]
  exact rank_any x w hx

set_option maxHeartbeats 400000 in
theorem awake_any (w : World) : Calls Try.prog 8 #[] w fun e w' => e = .returned (.bool true) ∧ Below w.heap.size w w' := by
  go_enter Try.func8, Try.ntmps8
  go_wp2_with fail
  refine (copysign_any _).mono ?_
  rintro e w' ⟨rfl, rfl⟩
  go_wp2_with fail
  refine (order_named _ _ (-1) _ (by omega) (by omega) (by decide)).mono ?_
  rintro e w' ⟨rfl, rfl⟩
  go_wp2_with fail
  refine (rank_named _ 4607182418800017408 _ (by omega) (by decide)).mono ?_
  rintro e w' ⟨rfl, rfl⟩
  go_wp2_with fail
  refine (nan_any _).mono ?_
  rintro e w' ⟨rfl, rfl⟩
  go_wp2_with fail
  refine (class_named _ 6 _ (by omega) (by decide)).mono ?_
  rintro e w' ⟨rfl, rfl⟩
  go_wp2_with fail
  refine (put_any _ _ (by omega)).mono ?_
  rintro e w' ⟨v, rfl, hv, hb⟩
  obtain ⟨a, c, rfl⟩ := slice_of_row hv
  rw [be_length]
  have HB := Lib.hid hb
  clear hv hb
  go_wp2
  go_ret
  exact ⟨rfl, HB.out⟩

end Go.Proofs.Ytgfcllgkfehhfaa
