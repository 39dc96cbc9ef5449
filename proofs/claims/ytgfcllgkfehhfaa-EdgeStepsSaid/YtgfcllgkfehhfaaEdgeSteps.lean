/- EdgeSteps: the walk. -/
import Derived.Test.YtgfcllgkfehhfaaEdgeRanks
namespace Go.Proofs.Ytgfcllgkfehhfaa
open Go.RowKit EdgeMath

set_option maxHeartbeats 1000000 in
theorem steps_lt_t (x y : Nat) (r p q o2 c : Int) (w : World) (hx : x < 18446744073709551616) (hy : y < 18446744073709551616) (h0 : -9223372036854775808 ≤ r) (h1 : r ≤ 9223372036854775807)
    (hpq : p < q) (hl : (FloatKind.f64.format.order x y == some .lt) = true) (hg : (FloatKind.f64.format.order x y == some .gt) = false)
    (HP : Hid (p = rk x)) (HQ : Hid (q = rk y)) (HO : Hid (-1 = ord p q)) (HO2 : Hid (o2 = ord (clamp r) (clamp (r + 1)))) (HC : Hid (c = cls (clamp r))) (HT : Hid (o2 = -1 ∨ (o2 = 0 ∧ c = 0) ∨ (o2 = 0 ∧ c = 6))) :
    Calls Try.prog 5 #[.int .u64 x, .int .u64 y, .int .i64 r] w fun e w' => e = .returned (.bool true) ∧ Below w.heap.size w w' := by
  have hf := run_from
  go_enter Try.func5, Try.ntmps5
  go_wp2_with fail
  refine (awake_any _).mono ?_
  rintro e w1 ⟨rfl, hb⟩
  have HB := Lib.hid hb
  clear hb
  go_wp2_with fail
  refine (rank_named x p _ hx HP.out).mono ?_
  rintro e w' ⟨rfl, rfl⟩
  go_wp2_with fail
  refine (rank_named y q _ hy HQ.out).mono ?_
  rintro e w' ⟨rfl, rfl⟩
  go_wp2_with fail
  refine (order_named x y (-1) _ hx hy (by rw [← HP.out, ← HQ.out]; exact HO.out)).mono ?_
  rintro e w' ⟨rfl, rfl⟩
  go_wp2_with fail
  · go_ret
    exact ⟨rfl, HB.out⟩
  · have hr : r ≠ 9223372036854775807 := by
      have h : (r == 9223372036854775807) = false := by assumption
      simpa using h
    clear hpq hl hg
    refine (at_any r _ h0 h1).mono ?_
    rintro e w' ⟨f, rfl, hf1, hk, rfl⟩
    have HK := Lib.hid hk
    clear hk
    go_wp2_with fail
    refine (at_any (r + 1) _ (by omega) (by omega)).mono ?_
    rintro e w' ⟨g, rfl, hg1, hk, rfl⟩
    have HK2 := Lib.hid hk
    clear hk
    go_wp2_with fail
    refine (order_named f g o2 _ hf1 hg1 (by rw [HK.out, HK2.out]; exact HO2.out)).mono ?_
    rintro e w' ⟨rfl, rfl⟩
    rcases HT.out with rfl | ⟨rfl, rfl⟩ | ⟨rfl, rfl⟩
    · go_wp2_with fail
      refine (order_named f g (-1) _ hf1 hg1 (by rw [HK.out, HK2.out]; exact HO2.out)).mono ?_
      rintro e w' ⟨rfl, rfl⟩
      go_wp2
      go_ret
      exact ⟨rfl, HB.out⟩
    · go_wp2_with fail
      refine (order_named f g 0 _ hf1 hg1 (by rw [HK.out, HK2.out]; exact HO2.out)).mono ?_
      rintro e w' ⟨rfl, rfl⟩
      go_wp2_with fail
      refine (class_named f 0 _ hf1 (by rw [HK.out]; exact HC.out)).mono ?_
      rintro e w' ⟨rfl, rfl⟩
      go_wp2
      go_ret
      exact ⟨rfl, HB.out⟩
    · go_wp2_with fail
      refine (order_named f g 0 _ hf1 hg1 (by rw [HK.out, HK2.out]; exact HO2.out)).mono ?_
      rintro e w' ⟨rfl, rfl⟩
      go_wp2_with fail
      refine (class_named f 6 _ hf1 (by rw [HK.out]; exact HC.out)).mono ?_
      rintro e w' ⟨rfl, rfl⟩
      go_wp2_with fail
      refine (class_named f 6 _ hf1 (by rw [HK.out]; exact HC.out)).mono ?_
      rintro e w' ⟨rfl, rfl⟩
      go_wp2
      go_ret
      exact ⟨rfl, HB.out⟩

set_option maxHeartbeats 1000000 in
theorem steps_lt_f (x y : Nat) (r p q o2 c : Int) (w : World) (hx : x < 18446744073709551616) (hy : y < 18446744073709551616) (h0 : -9223372036854775808 ≤ r) (h1 : r ≤ 9223372036854775807)
    (hpq : p < q) (hl : (FloatKind.f64.format.order x y == some .lt) = false) (hg : (FloatKind.f64.format.order x y == some .gt) = false)
    (HP : Hid (p = rk x)) (HQ : Hid (q = rk y)) (HO : Hid (-1 = ord p q)) (HO2 : Hid (o2 = ord (clamp r) (clamp (r + 1)))) (HC : Hid (c = cls (clamp r))) (HT : Hid (o2 = -1 ∨ (o2 = 0 ∧ c = 0) ∨ (o2 = 0 ∧ c = 6))) :
    Calls Try.prog 5 #[.int .u64 x, .int .u64 y, .int .i64 r] w fun e w' => e = .returned (.bool true) ∧ Below w.heap.size w w' := by
  have hf := run_from
  go_enter Try.func5, Try.ntmps5
  go_wp2_with fail
  refine (awake_any _).mono ?_
  rintro e w1 ⟨rfl, hb⟩
  have HB := Lib.hid hb
  clear hb
  go_wp2_with fail
  refine (rank_named x p _ hx HP.out).mono ?_
  rintro e w' ⟨rfl, rfl⟩
  go_wp2_with fail
  refine (rank_named y q _ hy HQ.out).mono ?_
  rintro e w' ⟨rfl, rfl⟩
  go_wp2_with fail
  refine (order_named x y (-1) _ hx hy (by rw [← HP.out, ← HQ.out]; exact HO.out)).mono ?_
  rintro e w' ⟨rfl, rfl⟩
  go_wp2_with fail
  · go_ret
    exact ⟨rfl, HB.out⟩
  · have hr : r ≠ 9223372036854775807 := by
      have h : (r == 9223372036854775807) = false := by assumption
      simpa using h
    clear hpq hl hg
    refine (at_any r _ h0 h1).mono ?_
    rintro e w' ⟨f, rfl, hf1, hk, rfl⟩
    have HK := Lib.hid hk
    clear hk
    go_wp2_with fail
    refine (at_any (r + 1) _ (by omega) (by omega)).mono ?_
    rintro e w' ⟨g, rfl, hg1, hk, rfl⟩
    have HK2 := Lib.hid hk
    clear hk
    go_wp2_with fail
    refine (order_named f g o2 _ hf1 hg1 (by rw [HK.out, HK2.out]; exact HO2.out)).mono ?_
    rintro e w' ⟨rfl, rfl⟩
    rcases HT.out with rfl | ⟨rfl, rfl⟩ | ⟨rfl, rfl⟩
    · go_wp2_with fail
      refine (order_named f g (-1) _ hf1 hg1 (by rw [HK.out, HK2.out]; exact HO2.out)).mono ?_
      rintro e w' ⟨rfl, rfl⟩
      go_wp2
      go_ret
      exact ⟨rfl, HB.out⟩
    · go_wp2_with fail
      refine (order_named f g 0 _ hf1 hg1 (by rw [HK.out, HK2.out]; exact HO2.out)).mono ?_
      rintro e w' ⟨rfl, rfl⟩
      go_wp2_with fail
      refine (class_named f 0 _ hf1 (by rw [HK.out]; exact HC.out)).mono ?_
      rintro e w' ⟨rfl, rfl⟩
      go_wp2
      go_ret
      exact ⟨rfl, HB.out⟩
    · go_wp2_with fail
      refine (order_named f g 0 _ hf1 hg1 (by rw [HK.out, HK2.out]; exact HO2.out)).mono ?_
      rintro e w' ⟨rfl, rfl⟩
      go_wp2_with fail
      refine (class_named f 6 _ hf1 (by rw [HK.out]; exact HC.out)).mono ?_
      rintro e w' ⟨rfl, rfl⟩
      go_wp2_with fail
      refine (class_named f 6 _ hf1 (by rw [HK.out]; exact HC.out)).mono ?_
      rintro e w' ⟨rfl, rfl⟩
      go_wp2
      go_ret
      exact ⟨rfl, HB.out⟩

set_option maxHeartbeats 1000000 in
theorem steps_gt_t (x y : Nat) (r p q o2 c : Int) (w : World) (hx : x < 18446744073709551616) (hy : y < 18446744073709551616) (h0 : -9223372036854775808 ≤ r) (h1 : r ≤ 9223372036854775807)
    (hpq : q < p) (hl : (FloatKind.f64.format.order x y == some .lt) = false) (hg : (FloatKind.f64.format.order x y == some .gt) = true)
    (HP : Hid (p = rk x)) (HQ : Hid (q = rk y)) (HO : Hid (1 = ord p q)) (HO2 : Hid (o2 = ord (clamp r) (clamp (r + 1)))) (HC : Hid (c = cls (clamp r))) (HT : Hid (o2 = -1 ∨ (o2 = 0 ∧ c = 0) ∨ (o2 = 0 ∧ c = 6))) :
    Calls Try.prog 5 #[.int .u64 x, .int .u64 y, .int .i64 r] w fun e w' => e = .returned (.bool true) ∧ Below w.heap.size w w' := by
  have hf := run_from
  go_enter Try.func5, Try.ntmps5
  go_wp2_with fail
  refine (awake_any _).mono ?_
  rintro e w1 ⟨rfl, hb⟩
  have HB := Lib.hid hb
  clear hb
  go_wp2_with fail
  refine (rank_named x p _ hx HP.out).mono ?_
  rintro e w' ⟨rfl, rfl⟩
  go_wp2_with fail
  refine (rank_named y q _ hy HQ.out).mono ?_
  rintro e w' ⟨rfl, rfl⟩
  go_wp2_with fail
  refine (order_named x y (1) _ hx hy (by rw [← HP.out, ← HQ.out]; exact HO.out)).mono ?_
  rintro e w' ⟨rfl, rfl⟩
  go_wp2_with fail
  · go_ret
    exact ⟨rfl, HB.out⟩
  · have hr : r ≠ 9223372036854775807 := by
      have h : (r == 9223372036854775807) = false := by assumption
      simpa using h
    clear hpq hl hg
    refine (at_any r _ h0 h1).mono ?_
    rintro e w' ⟨f, rfl, hf1, hk, rfl⟩
    have HK := Lib.hid hk
    clear hk
    go_wp2_with fail
    refine (at_any (r + 1) _ (by omega) (by omega)).mono ?_
    rintro e w' ⟨g, rfl, hg1, hk, rfl⟩
    have HK2 := Lib.hid hk
    clear hk
    go_wp2_with fail
    refine (order_named f g o2 _ hf1 hg1 (by rw [HK.out, HK2.out]; exact HO2.out)).mono ?_
    rintro e w' ⟨rfl, rfl⟩
    rcases HT.out with rfl | ⟨rfl, rfl⟩ | ⟨rfl, rfl⟩
    · go_wp2_with fail
      refine (order_named f g (-1) _ hf1 hg1 (by rw [HK.out, HK2.out]; exact HO2.out)).mono ?_
      rintro e w' ⟨rfl, rfl⟩
      go_wp2
      go_ret
      exact ⟨rfl, HB.out⟩
    · go_wp2_with fail
      refine (order_named f g 0 _ hf1 hg1 (by rw [HK.out, HK2.out]; exact HO2.out)).mono ?_
      rintro e w' ⟨rfl, rfl⟩
      go_wp2_with fail
      refine (class_named f 0 _ hf1 (by rw [HK.out]; exact HC.out)).mono ?_
      rintro e w' ⟨rfl, rfl⟩
      go_wp2
      go_ret
      exact ⟨rfl, HB.out⟩
    · go_wp2_with fail
      refine (order_named f g 0 _ hf1 hg1 (by rw [HK.out, HK2.out]; exact HO2.out)).mono ?_
      rintro e w' ⟨rfl, rfl⟩
      go_wp2_with fail
      refine (class_named f 6 _ hf1 (by rw [HK.out]; exact HC.out)).mono ?_
      rintro e w' ⟨rfl, rfl⟩
      go_wp2_with fail
      refine (class_named f 6 _ hf1 (by rw [HK.out]; exact HC.out)).mono ?_
      rintro e w' ⟨rfl, rfl⟩
      go_wp2
      go_ret
      exact ⟨rfl, HB.out⟩

set_option maxHeartbeats 1000000 in
theorem steps_gt_f (x y : Nat) (r p q o2 c : Int) (w : World) (hx : x < 18446744073709551616) (hy : y < 18446744073709551616) (h0 : -9223372036854775808 ≤ r) (h1 : r ≤ 9223372036854775807)
    (hpq : q < p) (hl : (FloatKind.f64.format.order x y == some .lt) = false) (hg : (FloatKind.f64.format.order x y == some .gt) = false)
    (HP : Hid (p = rk x)) (HQ : Hid (q = rk y)) (HO : Hid (1 = ord p q)) (HO2 : Hid (o2 = ord (clamp r) (clamp (r + 1)))) (HC : Hid (c = cls (clamp r))) (HT : Hid (o2 = -1 ∨ (o2 = 0 ∧ c = 0) ∨ (o2 = 0 ∧ c = 6))) :
    Calls Try.prog 5 #[.int .u64 x, .int .u64 y, .int .i64 r] w fun e w' => e = .returned (.bool true) ∧ Below w.heap.size w w' := by
  have hf := run_from
  go_enter Try.func5, Try.ntmps5
  go_wp2_with fail
  refine (awake_any _).mono ?_
  rintro e w1 ⟨rfl, hb⟩
  have HB := Lib.hid hb
  clear hb
  go_wp2_with fail
  refine (rank_named x p _ hx HP.out).mono ?_
  rintro e w' ⟨rfl, rfl⟩
  go_wp2_with fail
  refine (rank_named y q _ hy HQ.out).mono ?_
  rintro e w' ⟨rfl, rfl⟩
  go_wp2_with fail
  refine (order_named x y (1) _ hx hy (by rw [← HP.out, ← HQ.out]; exact HO.out)).mono ?_
  rintro e w' ⟨rfl, rfl⟩
  go_wp2_with fail
  · go_ret
    exact ⟨rfl, HB.out⟩
  · have hr : r ≠ 9223372036854775807 := by
      have h : (r == 9223372036854775807) = false := by assumption
      simpa using h
    clear hpq hl hg
    refine (at_any r _ h0 h1).mono ?_
    rintro e w' ⟨f, rfl, hf1, hk, rfl⟩
    have HK := Lib.hid hk
    clear hk
    go_wp2_with fail
    refine (at_any (r + 1) _ (by omega) (by omega)).mono ?_
    rintro e w' ⟨g, rfl, hg1, hk, rfl⟩
    have HK2 := Lib.hid hk
    clear hk
    go_wp2_with fail
    refine (order_named f g o2 _ hf1 hg1 (by rw [HK.out, HK2.out]; exact HO2.out)).mono ?_
    rintro e w' ⟨rfl, rfl⟩
    rcases HT.out with rfl | ⟨rfl, rfl⟩ | ⟨rfl, rfl⟩
    · go_wp2_with fail
      refine (order_named f g (-1) _ hf1 hg1 (by rw [HK.out, HK2.out]; exact HO2.out)).mono ?_
      rintro e w' ⟨rfl, rfl⟩
      go_wp2
      go_ret
      exact ⟨rfl, HB.out⟩
    · go_wp2_with fail
      refine (order_named f g 0 _ hf1 hg1 (by rw [HK.out, HK2.out]; exact HO2.out)).mono ?_
      rintro e w' ⟨rfl, rfl⟩
      go_wp2_with fail
      refine (class_named f 0 _ hf1 (by rw [HK.out]; exact HC.out)).mono ?_
      rintro e w' ⟨rfl, rfl⟩
      go_wp2
      go_ret
      exact ⟨rfl, HB.out⟩
    · go_wp2_with fail
      refine (order_named f g 0 _ hf1 hg1 (by rw [HK.out, HK2.out]; exact HO2.out)).mono ?_
      rintro e w' ⟨rfl, rfl⟩
      go_wp2_with fail
      refine (class_named f 6 _ hf1 (by rw [HK.out]; exact HC.out)).mono ?_
      rintro e w' ⟨rfl, rfl⟩
      go_wp2_with fail
      refine (class_named f 6 _ hf1 (by rw [HK.out]; exact HC.out)).mono ?_
      rintro e w' ⟨rfl, rfl⟩
      go_wp2
      go_ret
      exact ⟨rfl, HB.out⟩

set_option maxHeartbeats 1000000 in
theorem steps_eq (x y : Nat) (r p q o2 c : Int) (w : World) (hx : x < 18446744073709551616) (hy : y < 18446744073709551616) (h0 : -9223372036854775808 ≤ r) (h1 : r ≤ 9223372036854775807)
    (hpq : p = q) (hl : (FloatKind.f64.format.order x y == some .lt) = false) (hg : (FloatKind.f64.format.order x y == some .gt) = false)
    (HP : Hid (p = rk x)) (HQ : Hid (q = rk y)) (HO : Hid (0 = ord p q)) (HO2 : Hid (o2 = ord (clamp r) (clamp (r + 1)))) (HC : Hid (c = cls (clamp r))) (HT : Hid (o2 = -1 ∨ (o2 = 0 ∧ c = 0) ∨ (o2 = 0 ∧ c = 6))) :
    Calls Try.prog 5 #[.int .u64 x, .int .u64 y, .int .i64 r] w fun e w' => e = .returned (.bool true) ∧ Below w.heap.size w w' := by
  have hf := run_from
  go_enter Try.func5, Try.ntmps5
  go_wp2_with fail
  refine (awake_any _).mono ?_
  rintro e w1 ⟨rfl, hb⟩
  have HB := Lib.hid hb
  clear hb
  go_wp2_with fail
  refine (rank_named x p _ hx HP.out).mono ?_
  rintro e w' ⟨rfl, rfl⟩
  go_wp2_with fail
  refine (rank_named y q _ hy HQ.out).mono ?_
  rintro e w' ⟨rfl, rfl⟩
  go_wp2_with fail
  refine (order_named x y (0) _ hx hy (by rw [← HP.out, ← HQ.out]; exact HO.out)).mono ?_
  rintro e w' ⟨rfl, rfl⟩
  go_wp2_with fail
  · go_ret
    exact ⟨rfl, HB.out⟩
  · have hr : r ≠ 9223372036854775807 := by
      have h : (r == 9223372036854775807) = false := by assumption
      simpa using h
    clear hpq hl hg
    refine (at_any r _ h0 h1).mono ?_
    rintro e w' ⟨f, rfl, hf1, hk, rfl⟩
    have HK := Lib.hid hk
    clear hk
    go_wp2_with fail
    refine (at_any (r + 1) _ (by omega) (by omega)).mono ?_
    rintro e w' ⟨g, rfl, hg1, hk, rfl⟩
    have HK2 := Lib.hid hk
    clear hk
    go_wp2_with fail
    refine (order_named f g o2 _ hf1 hg1 (by rw [HK.out, HK2.out]; exact HO2.out)).mono ?_
    rintro e w' ⟨rfl, rfl⟩
    rcases HT.out with rfl | ⟨rfl, rfl⟩ | ⟨rfl, rfl⟩
    · go_wp2_with fail
      refine (order_named f g (-1) _ hf1 hg1 (by rw [HK.out, HK2.out]; exact HO2.out)).mono ?_
      rintro e w' ⟨rfl, rfl⟩
      go_wp2
      go_ret
      exact ⟨rfl, HB.out⟩
    · go_wp2_with fail
      refine (order_named f g 0 _ hf1 hg1 (by rw [HK.out, HK2.out]; exact HO2.out)).mono ?_
      rintro e w' ⟨rfl, rfl⟩
      go_wp2_with fail
      refine (class_named f 0 _ hf1 (by rw [HK.out]; exact HC.out)).mono ?_
      rintro e w' ⟨rfl, rfl⟩
      go_wp2
      go_ret
      exact ⟨rfl, HB.out⟩
    · go_wp2_with fail
      refine (order_named f g 0 _ hf1 hg1 (by rw [HK.out, HK2.out]; exact HO2.out)).mono ?_
      rintro e w' ⟨rfl, rfl⟩
      go_wp2_with fail
      refine (class_named f 6 _ hf1 (by rw [HK.out]; exact HC.out)).mono ?_
      rintro e w' ⟨rfl, rfl⟩
      go_wp2_with fail
      refine (class_named f 6 _ hf1 (by rw [HK.out]; exact HC.out)).mono ?_
      rintro e w' ⟨rfl, rfl⟩
      go_wp2
      go_ret
      exact ⟨rfl, HB.out⟩

theorem steps_last (r : Int) : ord (clamp r) (clamp (r + 1)) = -1 ∨ (ord (clamp r) (clamp (r + 1)) = 0 ∧ cls (clamp r) = 0) ∨ (ord (clamp r) (clamp (r + 1)) = 0 ∧ cls (clamp r) = 6) := by
  by_cases h1 : 9218868437227405312 < r
  · refine .inr (.inr ⟨?_, ?_⟩)
    · have e : clamp r = 9218868437227405313 := if_pos h1
      have e' : clamp (r + 1) = 9218868437227405313 := if_pos (by omega)
      rw [e, e']
      rfl
    · have e : clamp r = 9218868437227405313 := if_pos h1
      rw [e]
      rfl
  · by_cases h2 : r < -9218868437227405313
    · refine .inr (.inl ⟨?_, ?_⟩)
      · unfold clamp ord
        (repeat' split) <;> omega
      · have e : clamp r = -9218868437227405313 := by unfold clamp; rw [if_neg h1, if_pos h2]
        rw [e]
        rfl
    · left
      unfold clamp ord
      (repeat' split) <;> omega

/-- The walk at the numbers that came in. -/
theorem steps_all (w : World) (a : Int) (wa : (Lit.int .u64 a).wf = true) (b : Int) (wb : (Lit.int .u64 b).wf = true) (r : Int) (wr : (Lit.int .i64 r).wf = true) :
    Calls Try.prog 5 #[.int .u64 a, .int .u64 b, .int .i64 r] w fun e w' => e = .returned (.bool true) ∧ Below w.heap.size w w' := by
  obtain ⟨x, rfl, hx⟩ := nat_u64 a wa
  obtain ⟨y, rfl, hy⟩ := nat_u64 b wb
  have hr := bounds_i64 wr
  have hl := lt_test x y
  have hg := gt_test x y
  have kx := rk_lo x
  have ky := rk_lo y
  have kx' := rk_hi x
  have ky' := rk_hi y
  have HT := Lib.hid (steps_last r)
  rcases Int.lt_trichotomy (rk x) (rk y) with h | h | h
  · have hg' : (FloatKind.f64.format.order x y == some .gt) = false := by
      rw [hg, decide_eq_false_iff_not]
      unfold key
      (repeat' split) <;> omega
    have ho : (-1 : Int) = ord (rk x) (rk y) := by unfold ord; rw [if_pos h]
    rcases Bool.eq_false_or_eq_true (FloatKind.f64.format.order x y == some .lt) with hl' | hl'
    · exact steps_lt_t x y r _ _ _ _ w hx hy (by omega) (by omega) h hl' hg' (Lib.hid rfl) (Lib.hid rfl) (Lib.hid ho) (Lib.hid rfl) (Lib.hid rfl) HT
    · exact steps_lt_f x y r _ _ _ _ w hx hy (by omega) (by omega) h hl' hg' (Lib.hid rfl) (Lib.hid rfl) (Lib.hid ho) (Lib.hid rfl) (Lib.hid rfl) HT
  · have hg' : (FloatKind.f64.format.order x y == some .gt) = false := by
      rw [hg, decide_eq_false_iff_not]
      unfold key
      (repeat' split) <;> omega
    have hl' : (FloatKind.f64.format.order x y == some .lt) = false := by
      rw [hl, decide_eq_false_iff_not]
      unfold key
      (repeat' split) <;> omega
    have ho : (0 : Int) = ord (rk x) (rk y) := by unfold ord; rw [if_neg (by omega), if_neg (by omega)]
    exact steps_eq x y r _ _ _ _ w hx hy (by omega) (by omega) h hl' hg' (Lib.hid rfl) (Lib.hid rfl) (Lib.hid ho) (Lib.hid rfl) (Lib.hid rfl) HT
  · have hl' : (FloatKind.f64.format.order x y == some .lt) = false := by
      rw [hl, decide_eq_false_iff_not]
      unfold key
      (repeat' split) <;> omega
    have ho : (1 : Int) = ord (rk x) (rk y) := by unfold ord; rw [if_neg (by omega), if_pos h]
    rcases Bool.eq_false_or_eq_true (FloatKind.f64.format.order x y == some .gt) with hg' | hg'
    · exact steps_gt_t x y r _ _ _ _ w hx hy (by omega) (by omega) h hl' hg' (Lib.hid rfl) (Lib.hid rfl) (Lib.hid ho) (Lib.hid rfl) (Lib.hid rfl) HT
    · exact steps_gt_f x y r _ _ _ _ w hx hy (by omega) (by omega) h hl' hg' (Lib.hid rfl) (Lib.hid rfl) (Lib.hid ho) (Lib.hid rfl) (Lib.hid rfl) HT

end Go.Proofs.Ytgfcllgkfehhfaa
