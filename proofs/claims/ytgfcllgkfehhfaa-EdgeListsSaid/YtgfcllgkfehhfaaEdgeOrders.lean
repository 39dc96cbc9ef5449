/- EdgeOrders: the walk. -/
import Derived.Test.YtgfcllgkfehhfaaEdgeAwake
namespace Go.Proofs.Ytgfcllgkfehhfaa
open Go.RowKit EdgeMath

theorem reforder_named (x y : Nat) (o : Int) (w : World) (hx : x < 18446744073709551616) (hy : y < 18446744073709551616) (ho : o = ord (rk x) (rk y)) :
    Calls Try.prog 11 #[.float .f64 x, .float .f64 y] w fun e w' => e = .returned (.int .i64 o) ∧ w = w' := by
  rw [ho]
  exact reforder_any x y w hx hy

set_option maxHeartbeats 400000 in
theorem orders_walk (x y : Nat) (w : World) (hx : x < 18446744073709551616) (hy : y < 18446744073709551616) :
    Calls Try.prog 3 #[.int .u64 x, .int .u64 y] w fun e w' => e = .returned (.bool true) ∧ Below w.heap.size w w' := by
  obtain ⟨o, ho⟩ : ∃ o, o = ord (rk x) (rk y) := ⟨_, rfl⟩
  obtain ⟨p, hp⟩ : ∃ p, p = cls (rk x) := ⟨_, rfl⟩
  have ho' : -o = ord (rk y) (rk x) := by
    rw [ho]
    unfold ord
    (repeat' split) <;> omega
  have hob : -1 ≤ o ∧ o ≤ 1 := by
    rw [ho]
    unfold ord
    (repeat' split) <;> omega
  obtain ⟨hob1, hob2⟩ := hob
  have HO := Lib.hid ho
  have HO' := Lib.hid ho'
  have HP := Lib.hid hp
  clear ho ho' hp
  have hf := run_from
  go_enter Try.func3, Try.ntmps3
  go_wp2_with fail
  refine (awake_any _).mono ?_
  rintro e w1 ⟨rfl, hb⟩
  have HB := Lib.hid hb
  clear hb
  go_wp2_with fail
  refine (order_named x y o _ hx hy HO.out).mono ?_
  rintro e w' ⟨rfl, rfl⟩
  go_wp2_with fail
  refine (reforder_named x y o _ hx hy HO.out).mono ?_
  rintro e w' ⟨rfl, rfl⟩
  go_wp2_with fail
  refine (class_named x p _ hx HP.out).mono ?_
  rintro e w' ⟨rfl, rfl⟩
  go_wp2_with fail
  refine (refclass_named x p _ hx HP.out).mono ?_
  rintro e w' ⟨rfl, rfl⟩
  go_wp2_with fail
  refine (order_named x y o _ hx hy HO.out).mono ?_
  rintro e w' ⟨rfl, rfl⟩
  go_wp2_with fail
  refine (order_named y x (-o) _ hy hx HO'.out).mono ?_
  rintro e w' ⟨rfl, rfl⟩
  go_wp2
  go_ret
  exact ⟨by simp, HB.out⟩

/-- The walk at the numbers that came in. -/
theorem orders_all (w : World) (a : Int) (wa : (Lit.int .u64 a).wf = true) (b : Int) (wb : (Lit.int .u64 b).wf = true) :
    Calls Try.prog 3 #[.int .u64 a, .int .u64 b] w fun e w' => e = .returned (.bool true) ∧ Below w.heap.size w w' := by
  obtain ⟨m, rfl, hm⟩ := nat_u64 a wa
  obtain ⟨n, rfl, hn⟩ := nat_u64 b wb
  exact orders_walk m n w hm hn

end Go.Proofs.Ytgfcllgkfehhfaa
