/- EdgeRanks: the walk. -/
import Derived.Test.YtgfcllgkfehhfaaEdgeAwake
namespace Go.Proofs.Ytgfcllgkfehhfaa
open Go.RowKit EdgeMath

theorem refrank_named (x : Nat) (r : Int) (w : World) (hx : x < 18446744073709551616) (hr : r = rk x) :
    Calls Try.prog 15 #[.float .f64 x] w fun e w' => e = .returned (.int .i64 r) ∧ w = w' := by
  rw [hr]
  exact refrank_any x w hx

theorem same_true (x y : Nat) (w : World) (hx : x < 18446744073709551616) (hy : y < 18446744073709551616) (h : rk x = rk y) :
    Calls Try.prog 16 #[.float .f64 x, .float .f64 y] w fun e w' => e = .returned (.bool true) ∧ w = w' := by
  refine (same_any x y w hx hy).mono ?_
  rintro e w' ⟨rfl, rfl⟩
  exact ⟨by simp [h], rfl⟩

theorem clamp_rk (x : Nat) : clamp (rk x) = rk x := by
  have h1 := rk_lo x
  have h2 := rk_hi x
  unfold clamp
  (repeat' split) <;> omega

set_option maxHeartbeats 400000 in
theorem ranks_walk (x : Nat) (r : Int) (w : World) (hx : x < 18446744073709551616) (h0 : -9223372036854775808 ≤ r) (h1 : r ≤ 9223372036854775807) :
    Calls Try.prog 4 #[.int .u64 x, .int .i64 r] w fun e w' => e = .returned (.bool true) ∧ Below w.heap.size w w' := by
  obtain ⟨p, hp⟩ : ∃ p, p = rk x := ⟨_, rfl⟩
  have hp0 : -9218868437227405313 ≤ p := by rw [hp]; exact rk_lo x
  have hp1 : p ≤ 9218868437227405313 := by rw [hp]; exact rk_hi x
  have HP := Lib.hid hp
  clear hp
  have hf := run_from
  go_enter Try.func4, Try.ntmps4
  go_wp2_with fail
  refine (awake_any _).mono ?_
  rintro e w1 ⟨rfl, hb⟩
  have HB := Lib.hid hb
  clear hb
  go_wp2_with fail
  refine (rank_named x p _ hx HP.out).mono ?_
  rintro e w' ⟨rfl, rfl⟩
  go_wp2_with fail
  refine (refrank_named x p _ hx HP.out).mono ?_
  rintro e w' ⟨rfl, rfl⟩
  go_wp2_with fail
  refine (at_any r _ h0 h1).mono ?_
  rintro e w' ⟨b, rfl, hb, hk, rfl⟩
  have HK := Lib.hid hk
  clear hk
  go_wp2_with fail
  refine (refat_any r _ h0 h1).mono ?_
  rintro e w' ⟨c, rfl, hc, hk, rfl⟩
  have HK2 := Lib.hid hk
  clear hk
  go_wp2_with fail
  refine (same_true b c _ hb hc (by rw [HK.out, HK2.out])).mono ?_
  rintro e w' ⟨rfl, rfl⟩
  go_wp2_with fail
  refine (rank_named x p _ hx HP.out).mono ?_
  rintro e w' ⟨rfl, rfl⟩
  go_wp2_with fail
  refine (at_any p _ (by omega) (by omega)).mono ?_
  rintro e w' ⟨d, rfl, hd, hk, rfl⟩
  have HK3 := Lib.hid hk
  clear hk
  go_wp2_with fail
  refine (same_true d x _ hd hx (by rw [HK3.out, HP.out, clamp_rk])).mono ?_
  rintro e w' ⟨rfl, rfl⟩
  go_wp2
  go_ret
  exact ⟨by simp, HB.out⟩

/-- The walk at the numbers that came in. -/
theorem ranks_all (w : World) (a : Int) (wa : (Lit.int .u64 a).wf = true) (b : Int) (wb : (Lit.int .i64 b).wf = true) :
    Calls Try.prog 4 #[.int .u64 a, .int .i64 b] w fun e w' => e = .returned (.bool true) ∧ Below w.heap.size w w' := by
  obtain ⟨m, rfl, hm⟩ := nat_u64 a wa
  have hb := bounds_i64 wb
  exact ranks_walk m b w hm (by omega) (by omega)

end Go.Proofs.Ytgfcllgkfehhfaa
