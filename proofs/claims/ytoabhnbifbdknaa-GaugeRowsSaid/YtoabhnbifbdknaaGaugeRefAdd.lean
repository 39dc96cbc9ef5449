/- The reference's Add. -/
import Derived.Test.YtoabhnbifbdknaaGaugeAdd
namespace Go.Proofs.Ytoabhnbifbdknaa
open Go.RowKit EdgeMath

set_option maxRecDepth 100000 in
set_option maxHeartbeats 1000000 in
theorem refadd_none (n m s lo hi x : Nat) (w : World) (hok : G.Ok ⟨n, m, s, lo, hi⟩) (hq : rk x = 9218868437227405313 ∨ 9007199254740992 ≤ n) :
    Calls Try.prog 12 #[.agg #[.int .u64 (n : Int), .float .f64 m, .float .f64 s, .float .f64 lo, .float .f64 hi], .float .f64 x] w fun e w' =>
      ∃ b : G, e = .returned (.agg b.cells) ∧ b.Ok ∧ b.Eqv (G.add ⟨n, m, s, lo, hi⟩ x) ∧ Below w.heap.size w w' := by
  have hst := fun x w a md => run_store_float (P := Try.prog) .f64 x w a md
  have HOk := Lib.hid hok
  clear hok
  have HQ := Lib.hid hq
  by_cases hnan : rk x = 9218868437227405313
  · have hnb : (FloatKind.f64.format.order x x != some .eq) = true := by rw [nan_test]; simp [hnan]
    clear hnan hq
    go_enter Try.func12, Try.ntmps12
    go_wp2
    refine bodyPost_ret (v := .agg (EdgeMath.G.cells ⟨n, m, s, lo, hi⟩)) (by simp [EdgeMath.G.cells, results, Try.results12, go_sem]) rfl ⟨⟨n, m, s, lo, hi⟩, rfl, HOk.out, ?_, ?_⟩
    · unfold G.add; rw [if_pos HQ.out]; exact G.Eqv.refl _
    · (repeat (first | with_reducible exact Below.refl _ _ | (with_reducible refine Below.setCell ?_ ?_ _; rotate_left; (first | (show w.heap.size ≤ w.heap.size; omega) | (show w.heap.size ≤ w.heap.size + 1; omega))) | (with_reducible refine Below.alloc ?_ ?_ _; rotate_left; simp; try omega) | with_reducible refine below_drewN ?_ _))
  · have hnb : (FloatKind.f64.format.order x x != some .eq) = false := by rw [nan_test]; simp [hnan]
    have hge : decide ((9007199254740992 : Int) ≤ (n : Int)) = true := by simp; omega
    clear hnan hq
    go_enter Try.func12, Try.ntmps12
    go_wp2
    refine bodyPost_ret (v := .agg (EdgeMath.G.cells ⟨n, m, s, lo, hi⟩)) (by simp [EdgeMath.G.cells, results, Try.results12, go_sem]) rfl ⟨⟨n, m, s, lo, hi⟩, rfl, HOk.out, ?_, ?_⟩
    · unfold G.add; rw [if_pos HQ.out]; exact G.Eqv.refl _
    · (repeat (first | with_reducible exact Below.refl _ _ | (with_reducible refine Below.setCell ?_ ?_ _; rotate_left; (first | (show w.heap.size ≤ w.heap.size; omega) | (show w.heap.size ≤ w.heap.size + 1; omega))) | (with_reducible refine Below.alloc ?_ ?_ _; rotate_left; simp; try omega) | with_reducible refine below_drewN ?_ _))

set_option maxRecDepth 100000 in
set_option maxHeartbeats 2000000 in
theorem refadd_zero (m s lo hi x : Nat) (w : World) (hok : G.Ok ⟨0, m, s, lo, hi⟩) (hx : x < 18446744073709551616) (hnan : ¬ rk x = 9218868437227405313) :
    Calls Try.prog 12 #[.agg #[.int .u64 0, .float .f64 m, .float .f64 s, .float .f64 lo, .float .f64 hi], .float .f64 x] w fun e w' =>
      ∃ b : G, e = .returned (.agg b.cells) ∧ b.Ok ∧ b.Eqv (G.add ⟨0, m, s, lo, hi⟩ x) ∧ Below w.heap.size w w' := by
  have hst := fun x w a md => run_store_float (P := Try.prog) .f64 x w a md
  have HOk := Lib.hid hok
  have HX := Lib.hid hx
  have hnb : (FloatKind.f64.format.order x x != some .eq) = false := by rw [nan_test]; simp [hnan]
  have HNan := Lib.hid hnan
  obtain ⟨o1, ho1⟩ : ∃ o, o = ord (rk x) (rk lo) := ⟨_, rfl⟩
  obtain ⟨o2, ho2⟩ : ∃ o, o = ord (rk x) (rk hi) := ⟨_, rfl⟩
  have Ho1 := Lib.hid ho1
  have Ho2 := Lib.hid ho2
  clear hok hx hnan ho1 ho2
  by_cases hlo : rk x < rk lo
  · by_cases hhi : rk hi < rk x
    · -- n 0, lo True, hi True
      have d1 : decide ((o1 : Int) < 0) = true := by have := Ho1.out; unfold ord at this; (repeat' split at this) <;> simp <;> omega
      have d2 : decide ((0 : Int) < o2) = true := by have := Ho2.out; unfold ord at this; (repeat' split at this) <;> simp <;> omega
      have e1 : x = lesser lo x := by unfold lesser; rw [if_pos hlo]
      have e2 : x = greater hi x := by unfold greater; rw [if_pos hhi]
      have E1 := Lib.hid e1
      have E2 := Lib.hid e2
      clear e1 e2 hlo hhi
      go_enter Try.func12, Try.ntmps12
      go_wp2_with fail
      refine (reforder_named x lo o1 _ HX.out HOk.out.lo Ho1.out).mono ?_
      rintro e w' ⟨rfl, rfl⟩
      go_wp2_with fail
      refine (reforder_named x hi o2 _ HX.out HOk.out.hi Ho2.out).mono ?_
      rintro e w' ⟨rfl, rfl⟩
      go_wp2
      refine bodyPost_ret (v := .agg (EdgeMath.G.cells ⟨1, x, 0, x, x⟩)) (by simp [EdgeMath.G.cells, results, Try.results12, go_sem]) rfl ⟨⟨1, x, 0, x, x⟩, rfl, ⟨show 1 < 18446744073709551616 by decide, HX.out, show 0 < 18446744073709551616 by decide, HX.out, HX.out⟩, ?_, ?_⟩
      · unfold G.add; rw [if_neg (fun h => h.elim HNan.out (fun h => by simp at h)), if_pos rfl]; exact ⟨rfl, rfl, rfl, congrArg rk E1.out, congrArg rk E2.out⟩
      · (repeat (first | with_reducible exact Below.refl _ _ | (with_reducible refine Below.setCell ?_ ?_ _; rotate_left; (first | (show w.heap.size ≤ w.heap.size; omega) | (show w.heap.size ≤ w.heap.size + 1; omega))) | (with_reducible refine Below.alloc ?_ ?_ _; rotate_left; simp; try omega) | with_reducible refine below_drewN ?_ _))
    · -- n 0, lo True, hi False
      have d1 : decide ((o1 : Int) < 0) = true := by have := Ho1.out; unfold ord at this; (repeat' split at this) <;> simp <;> omega
      have d2 : decide ((0 : Int) < o2) = false := by have := Ho2.out; unfold ord at this; (repeat' split at this) <;> simp <;> omega
      have e1 : x = lesser lo x := by unfold lesser; rw [if_pos hlo]
      have e2 : hi = greater hi x := by unfold greater; rw [if_neg hhi]
      have E1 := Lib.hid e1
      have E2 := Lib.hid e2
      clear e1 e2 hlo hhi
      go_enter Try.func12, Try.ntmps12
      go_wp2_with fail
      refine (reforder_named x lo o1 _ HX.out HOk.out.lo Ho1.out).mono ?_
      rintro e w' ⟨rfl, rfl⟩
      go_wp2_with fail
      refine (reforder_named x hi o2 _ HX.out HOk.out.hi Ho2.out).mono ?_
      rintro e w' ⟨rfl, rfl⟩
      go_wp2
      refine bodyPost_ret (v := .agg (EdgeMath.G.cells ⟨1, x, 0, x, hi⟩)) (by simp [EdgeMath.G.cells, results, Try.results12, go_sem]) rfl ⟨⟨1, x, 0, x, hi⟩, rfl, ⟨show 1 < 18446744073709551616 by decide, HX.out, show 0 < 18446744073709551616 by decide, HX.out, HOk.out.hi⟩, ?_, ?_⟩
      · unfold G.add; rw [if_neg (fun h => h.elim HNan.out (fun h => by simp at h)), if_pos rfl]; exact ⟨rfl, rfl, rfl, congrArg rk E1.out, congrArg rk E2.out⟩
      · (repeat (first | with_reducible exact Below.refl _ _ | (with_reducible refine Below.setCell ?_ ?_ _; rotate_left; (first | (show w.heap.size ≤ w.heap.size; omega) | (show w.heap.size ≤ w.heap.size + 1; omega))) | (with_reducible refine Below.alloc ?_ ?_ _; rotate_left; simp; try omega) | with_reducible refine below_drewN ?_ _))
  · by_cases hhi : rk hi < rk x
    · -- n 0, lo False, hi True
      have d1 : decide ((o1 : Int) < 0) = false := by have := Ho1.out; unfold ord at this; (repeat' split at this) <;> simp <;> omega
      have d2 : decide ((0 : Int) < o2) = true := by have := Ho2.out; unfold ord at this; (repeat' split at this) <;> simp <;> omega
      have e1 : lo = lesser lo x := by unfold lesser; rw [if_neg hlo]
      have e2 : x = greater hi x := by unfold greater; rw [if_pos hhi]
      have E1 := Lib.hid e1
      have E2 := Lib.hid e2
      clear e1 e2 hlo hhi
      go_enter Try.func12, Try.ntmps12
      go_wp2_with fail
      refine (reforder_named x lo o1 _ HX.out HOk.out.lo Ho1.out).mono ?_
      rintro e w' ⟨rfl, rfl⟩
      go_wp2_with fail
      refine (reforder_named x hi o2 _ HX.out HOk.out.hi Ho2.out).mono ?_
      rintro e w' ⟨rfl, rfl⟩
      go_wp2
      refine bodyPost_ret (v := .agg (EdgeMath.G.cells ⟨1, x, 0, lo, x⟩)) (by simp [EdgeMath.G.cells, results, Try.results12, go_sem]) rfl ⟨⟨1, x, 0, lo, x⟩, rfl, ⟨show 1 < 18446744073709551616 by decide, HX.out, show 0 < 18446744073709551616 by decide, HOk.out.lo, HX.out⟩, ?_, ?_⟩
      · unfold G.add; rw [if_neg (fun h => h.elim HNan.out (fun h => by simp at h)), if_pos rfl]; exact ⟨rfl, rfl, rfl, congrArg rk E1.out, congrArg rk E2.out⟩
      · (repeat (first | with_reducible exact Below.refl _ _ | (with_reducible refine Below.setCell ?_ ?_ _; rotate_left; (first | (show w.heap.size ≤ w.heap.size; omega) | (show w.heap.size ≤ w.heap.size + 1; omega))) | (with_reducible refine Below.alloc ?_ ?_ _; rotate_left; simp; try omega) | with_reducible refine below_drewN ?_ _))
    · -- n 0, lo False, hi False
      have d1 : decide ((o1 : Int) < 0) = false := by have := Ho1.out; unfold ord at this; (repeat' split at this) <;> simp <;> omega
      have d2 : decide ((0 : Int) < o2) = false := by have := Ho2.out; unfold ord at this; (repeat' split at this) <;> simp <;> omega
      have e1 : lo = lesser lo x := by unfold lesser; rw [if_neg hlo]
      have e2 : hi = greater hi x := by unfold greater; rw [if_neg hhi]
      have E1 := Lib.hid e1
      have E2 := Lib.hid e2
      clear e1 e2 hlo hhi
      go_enter Try.func12, Try.ntmps12
      go_wp2_with fail
      refine (reforder_named x lo o1 _ HX.out HOk.out.lo Ho1.out).mono ?_
      rintro e w' ⟨rfl, rfl⟩
      go_wp2_with fail
      refine (reforder_named x hi o2 _ HX.out HOk.out.hi Ho2.out).mono ?_
      rintro e w' ⟨rfl, rfl⟩
      go_wp2
      refine bodyPost_ret (v := .agg (EdgeMath.G.cells ⟨1, x, 0, lo, hi⟩)) (by simp [EdgeMath.G.cells, results, Try.results12, go_sem]) rfl ⟨⟨1, x, 0, lo, hi⟩, rfl, ⟨show 1 < 18446744073709551616 by decide, HX.out, show 0 < 18446744073709551616 by decide, HOk.out.lo, HOk.out.hi⟩, ?_, ?_⟩
      · unfold G.add; rw [if_neg (fun h => h.elim HNan.out (fun h => by simp at h)), if_pos rfl]; exact ⟨rfl, rfl, rfl, congrArg rk E1.out, congrArg rk E2.out⟩
      · (repeat (first | with_reducible exact Below.refl _ _ | (with_reducible refine Below.setCell ?_ ?_ _; rotate_left; (first | (show w.heap.size ≤ w.heap.size; omega) | (show w.heap.size ≤ w.heap.size + 1; omega))) | (with_reducible refine Below.alloc ?_ ?_ _; rotate_left; simp; try omega) | with_reducible refine below_drewN ?_ _))

set_option maxRecDepth 100000 in
set_option maxHeartbeats 2000000 in
theorem refadd_more (n m s lo hi x : Nat) (w : World) (hok : G.Ok ⟨n, m, s, lo, hi⟩) (hx : x < 18446744073709551616) (hnan : ¬ rk x = 9218868437227405313) (hbig : ¬ 9007199254740992 ≤ n) (hz : ¬ n = 0) :
    Calls Try.prog 12 #[.agg #[.int .u64 (n : Int), .float .f64 m, .float .f64 s, .float .f64 lo, .float .f64 hi], .float .f64 x] w fun e w' =>
      ∃ b : G, e = .returned (.agg b.cells) ∧ b.Ok ∧ b.Eqv (G.add ⟨n, m, s, lo, hi⟩ x) ∧ Below w.heap.size w w' := by
  have hst := fun x w a md => run_store_float (P := Try.prog) .f64 x w a md
  have HOk := Lib.hid hok
  have HX := Lib.hid hx
  have hnb : (FloatKind.f64.format.order x x != some .eq) = false := by rw [nan_test]; simp [hnan]
  have HNan := Lib.hid hnan
  obtain ⟨o1, ho1⟩ : ∃ o, o = ord (rk x) (rk lo) := ⟨_, rfl⟩
  obtain ⟨o2, ho2⟩ : ∃ o, o = ord (rk x) (rk hi) := ⟨_, rfl⟩
  have Ho1 := Lib.hid ho1
  have Ho2 := Lib.hid ho2
  clear hok hx hnan ho1 ho2
  have hge : decide ((9007199254740992 : Int) ≤ (n : Int)) = false := by simp; omega
  obtain ⟨p, hp⟩ : ∃ p, p = n + 1 := ⟨_, rfl⟩
  have hw : IntKind.u64.wrap ((n : Int) + 1) = (p : Int) := by rw [IntKind.wrap_u64]; omega
  have hp1 : ((p : Int) == 1) = false := by simp; omega
  have HZ := Lib.hid hz
  have HP := Lib.hid hp
  have HBig := Lib.hid hbig
  clear hz hp hbig
  by_cases hlo : rk x < rk lo
  · by_cases hhi : rk hi < rk x
    · -- n more, lo True, hi True
      have d1 : decide ((o1 : Int) < 0) = true := by have := Ho1.out; unfold ord at this; (repeat' split at this) <;> simp <;> omega
      have d2 : decide ((0 : Int) < o2) = true := by have := Ho2.out; unfold ord at this; (repeat' split at this) <;> simp <;> omega
      have e1 : x = lesser lo x := by unfold lesser; rw [if_pos hlo]
      have e2 : x = greater hi x := by unfold greater; rw [if_pos hhi]
      have E1 := Lib.hid e1
      have E2 := Lib.hid e2
      clear e1 e2 hlo hhi
      go_enter Try.func12, Try.ntmps12
      go_wp2_with fail
      refine upon_fop .sub rfl _ _ _ _ ?_
      intro d k1 h1 h2
      have HD := Lib.hid h1
      have HDK := Lib.hid h2
      clear h1 h2
      go_wp2_with fail
      refine upon_fop .quo rfl _ _ _ _ ?_
      intro q k2 h1 h2
      have HQ := Lib.hid h1
      have HQK := Lib.hid h2
      clear h1 h2
      go_wp2_with fail
      refine upon_fop .add rfl _ _ _ _ ?_
      intro m1 k3 h1 h2
      have HM := Lib.hid h1
      have HMK := Lib.hid h2
      clear h1 h2
      go_wp2_with fail
      refine upon_fop .sub rfl _ _ _ _ ?_
      intro f k4 h1 h2
      have HF := Lib.hid h1
      have HFK := Lib.hid h2
      clear h1 h2
      go_wp2_with fail
      refine upon_fop .mul rfl _ _ _ _ ?_
      intro pr k5 h1 h2
      have HPr := Lib.hid h1
      have HPrK := Lib.hid h2
      clear h1 h2
      go_wp2_with fail
      refine upon_fop .add rfl _ _ _ _ ?_
      intro s1 k6 h1 h2
      have HS := Lib.hid h1
      have HSK := Lib.hid h2
      clear h1 h2
      go_wp2_with fail
      refine (reforder_named x lo o1 _ HX.out HOk.out.lo Ho1.out).mono ?_
      rintro e w' ⟨rfl, rfl⟩
      go_wp2_with fail
      refine (reforder_named x hi o2 _ HX.out HOk.out.hi Ho2.out).mono ?_
      rintro e w' ⟨rfl, rfl⟩
      go_wp2
      refine bodyPost_ret (v := .agg (EdgeMath.G.cells ⟨p, m1, s1, x, x⟩)) (by simp [EdgeMath.G.cells, results, Try.results12, go_sem]) rfl ⟨⟨p, m1, s1, x, x⟩, rfl, ⟨by have := HP.out; have := HBig.out; show p < _; omega, HM.out, HS.out, HX.out, HX.out⟩, ?_, ?_⟩
      · exact G.add_step n m s lo hi x p d q m1 f pr s1 x x HOk.out HX.out HNan.out HBig.out HZ.out HP.out HD.out HDK.out HQ.out HQK.out HM.out HMK.out HF.out HFK.out HPr.out HPrK.out HSK.out (congrArg rk E1.out) (congrArg rk E2.out)
      · (repeat (first | with_reducible exact Below.refl _ _ | (with_reducible refine Below.setCell ?_ ?_ _; rotate_left; (first | (show w.heap.size ≤ w.heap.size; omega) | (show w.heap.size ≤ w.heap.size + 1; omega))) | (with_reducible refine Below.alloc ?_ ?_ _; rotate_left; simp; try omega) | with_reducible refine below_drewN ?_ _))
    · -- n more, lo True, hi False
      have d1 : decide ((o1 : Int) < 0) = true := by have := Ho1.out; unfold ord at this; (repeat' split at this) <;> simp <;> omega
      have d2 : decide ((0 : Int) < o2) = false := by have := Ho2.out; unfold ord at this; (repeat' split at this) <;> simp <;> omega
      have e1 : x = lesser lo x := by unfold lesser; rw [if_pos hlo]
      have e2 : hi = greater hi x := by unfold greater; rw [if_neg hhi]
      have E1 := Lib.hid e1
      have E2 := Lib.hid e2
      clear e1 e2 hlo hhi
      go_enter Try.func12, Try.ntmps12
      go_wp2_with fail
      refine upon_fop .sub rfl _ _ _ _ ?_
      intro d k1 h1 h2
      have HD := Lib.hid h1
      have HDK := Lib.hid h2
      clear h1 h2
      go_wp2_with fail
      refine upon_fop .quo rfl _ _ _ _ ?_
      intro q k2 h1 h2
      have HQ := Lib.hid h1
      have HQK := Lib.hid h2
      clear h1 h2
      go_wp2_with fail
      refine upon_fop .add rfl _ _ _ _ ?_
      intro m1 k3 h1 h2
      have HM := Lib.hid h1
      have HMK := Lib.hid h2
      clear h1 h2
      go_wp2_with fail
      refine upon_fop .sub rfl _ _ _ _ ?_
      intro f k4 h1 h2
      have HF := Lib.hid h1
      have HFK := Lib.hid h2
      clear h1 h2
      go_wp2_with fail
      refine upon_fop .mul rfl _ _ _ _ ?_
      intro pr k5 h1 h2
      have HPr := Lib.hid h1
      have HPrK := Lib.hid h2
      clear h1 h2
      go_wp2_with fail
      refine upon_fop .add rfl _ _ _ _ ?_
      intro s1 k6 h1 h2
      have HS := Lib.hid h1
      have HSK := Lib.hid h2
      clear h1 h2
      go_wp2_with fail
      refine (reforder_named x lo o1 _ HX.out HOk.out.lo Ho1.out).mono ?_
      rintro e w' ⟨rfl, rfl⟩
      go_wp2_with fail
      refine (reforder_named x hi o2 _ HX.out HOk.out.hi Ho2.out).mono ?_
      rintro e w' ⟨rfl, rfl⟩
      go_wp2
      refine bodyPost_ret (v := .agg (EdgeMath.G.cells ⟨p, m1, s1, x, hi⟩)) (by simp [EdgeMath.G.cells, results, Try.results12, go_sem]) rfl ⟨⟨p, m1, s1, x, hi⟩, rfl, ⟨by have := HP.out; have := HBig.out; show p < _; omega, HM.out, HS.out, HX.out, HOk.out.hi⟩, ?_, ?_⟩
      · exact G.add_step n m s lo hi x p d q m1 f pr s1 x hi HOk.out HX.out HNan.out HBig.out HZ.out HP.out HD.out HDK.out HQ.out HQK.out HM.out HMK.out HF.out HFK.out HPr.out HPrK.out HSK.out (congrArg rk E1.out) (congrArg rk E2.out)
      · (repeat (first | with_reducible exact Below.refl _ _ | (with_reducible refine Below.setCell ?_ ?_ _; rotate_left; (first | (show w.heap.size ≤ w.heap.size; omega) | (show w.heap.size ≤ w.heap.size + 1; omega))) | (with_reducible refine Below.alloc ?_ ?_ _; rotate_left; simp; try omega) | with_reducible refine below_drewN ?_ _))
  · by_cases hhi : rk hi < rk x
    · -- n more, lo False, hi True
      have d1 : decide ((o1 : Int) < 0) = false := by have := Ho1.out; unfold ord at this; (repeat' split at this) <;> simp <;> omega
      have d2 : decide ((0 : Int) < o2) = true := by have := Ho2.out; unfold ord at this; (repeat' split at this) <;> simp <;> omega
      have e1 : lo = lesser lo x := by unfold lesser; rw [if_neg hlo]
      have e2 : x = greater hi x := by unfold greater; rw [if_pos hhi]
      have E1 := Lib.hid e1
      have E2 := Lib.hid e2
      clear e1 e2 hlo hhi
      go_enter Try.func12, Try.ntmps12
      go_wp2_with fail
      refine upon_fop .sub rfl _ _ _ _ ?_
      intro d k1 h1 h2
      have HD := Lib.hid h1
      have HDK := Lib.hid h2
      clear h1 h2
      go_wp2_with fail
      refine upon_fop .quo rfl _ _ _ _ ?_
      intro q k2 h1 h2
      have HQ := Lib.hid h1
      have HQK := Lib.hid h2
      clear h1 h2
      go_wp2_with fail
      refine upon_fop .add rfl _ _ _ _ ?_
      intro m1 k3 h1 h2
      have HM := Lib.hid h1
      have HMK := Lib.hid h2
      clear h1 h2
      go_wp2_with fail
      refine upon_fop .sub rfl _ _ _ _ ?_
      intro f k4 h1 h2
      have HF := Lib.hid h1
      have HFK := Lib.hid h2
      clear h1 h2
      go_wp2_with fail
      refine upon_fop .mul rfl _ _ _ _ ?_
      intro pr k5 h1 h2
      have HPr := Lib.hid h1
      have HPrK := Lib.hid h2
      clear h1 h2
      go_wp2_with fail
      refine upon_fop .add rfl _ _ _ _ ?_
      intro s1 k6 h1 h2
      have HS := Lib.hid h1
      have HSK := Lib.hid h2
      clear h1 h2
      go_wp2_with fail
      refine (reforder_named x lo o1 _ HX.out HOk.out.lo Ho1.out).mono ?_
      rintro e w' ⟨rfl, rfl⟩
      go_wp2_with fail
      refine (reforder_named x hi o2 _ HX.out HOk.out.hi Ho2.out).mono ?_
      rintro e w' ⟨rfl, rfl⟩
      go_wp2
      refine bodyPost_ret (v := .agg (EdgeMath.G.cells ⟨p, m1, s1, lo, x⟩)) (by simp [EdgeMath.G.cells, results, Try.results12, go_sem]) rfl ⟨⟨p, m1, s1, lo, x⟩, rfl, ⟨by have := HP.out; have := HBig.out; show p < _; omega, HM.out, HS.out, HOk.out.lo, HX.out⟩, ?_, ?_⟩
      · exact G.add_step n m s lo hi x p d q m1 f pr s1 lo x HOk.out HX.out HNan.out HBig.out HZ.out HP.out HD.out HDK.out HQ.out HQK.out HM.out HMK.out HF.out HFK.out HPr.out HPrK.out HSK.out (congrArg rk E1.out) (congrArg rk E2.out)
      · (repeat (first | with_reducible exact Below.refl _ _ | (with_reducible refine Below.setCell ?_ ?_ _; rotate_left; (first | (show w.heap.size ≤ w.heap.size; omega) | (show w.heap.size ≤ w.heap.size + 1; omega))) | (with_reducible refine Below.alloc ?_ ?_ _; rotate_left; simp; try omega) | with_reducible refine below_drewN ?_ _))
    · -- n more, lo False, hi False
      have d1 : decide ((o1 : Int) < 0) = false := by have := Ho1.out; unfold ord at this; (repeat' split at this) <;> simp <;> omega
      have d2 : decide ((0 : Int) < o2) = false := by have := Ho2.out; unfold ord at this; (repeat' split at this) <;> simp <;> omega
      have e1 : lo = lesser lo x := by unfold lesser; rw [if_neg hlo]
      have e2 : hi = greater hi x := by unfold greater; rw [if_neg hhi]
      have E1 := Lib.hid e1
      have E2 := Lib.hid e2
      clear e1 e2 hlo hhi
      go_enter Try.func12, Try.ntmps12
      go_wp2_with fail
      refine upon_fop .sub rfl _ _ _ _ ?_
      intro d k1 h1 h2
      have HD := Lib.hid h1
      have HDK := Lib.hid h2
      clear h1 h2
      go_wp2_with fail
      refine upon_fop .quo rfl _ _ _ _ ?_
      intro q k2 h1 h2
      have HQ := Lib.hid h1
      have HQK := Lib.hid h2
      clear h1 h2
      go_wp2_with fail
      refine upon_fop .add rfl _ _ _ _ ?_
      intro m1 k3 h1 h2
      have HM := Lib.hid h1
      have HMK := Lib.hid h2
      clear h1 h2
      go_wp2_with fail
      refine upon_fop .sub rfl _ _ _ _ ?_
      intro f k4 h1 h2
      have HF := Lib.hid h1
      have HFK := Lib.hid h2
      clear h1 h2
      go_wp2_with fail
      refine upon_fop .mul rfl _ _ _ _ ?_
      intro pr k5 h1 h2
      have HPr := Lib.hid h1
      have HPrK := Lib.hid h2
      clear h1 h2
      go_wp2_with fail
      refine upon_fop .add rfl _ _ _ _ ?_
      intro s1 k6 h1 h2
      have HS := Lib.hid h1
      have HSK := Lib.hid h2
      clear h1 h2
      go_wp2_with fail
      refine (reforder_named x lo o1 _ HX.out HOk.out.lo Ho1.out).mono ?_
      rintro e w' ⟨rfl, rfl⟩
      go_wp2_with fail
      refine (reforder_named x hi o2 _ HX.out HOk.out.hi Ho2.out).mono ?_
      rintro e w' ⟨rfl, rfl⟩
      go_wp2
      refine bodyPost_ret (v := .agg (EdgeMath.G.cells ⟨p, m1, s1, lo, hi⟩)) (by simp [EdgeMath.G.cells, results, Try.results12, go_sem]) rfl ⟨⟨p, m1, s1, lo, hi⟩, rfl, ⟨by have := HP.out; have := HBig.out; show p < _; omega, HM.out, HS.out, HOk.out.lo, HOk.out.hi⟩, ?_, ?_⟩
      · exact G.add_step n m s lo hi x p d q m1 f pr s1 lo hi HOk.out HX.out HNan.out HBig.out HZ.out HP.out HD.out HDK.out HQ.out HQK.out HM.out HMK.out HF.out HFK.out HPr.out HPrK.out HSK.out (congrArg rk E1.out) (congrArg rk E2.out)
      · (repeat (first | with_reducible exact Below.refl _ _ | (with_reducible refine Below.setCell ?_ ?_ _; rotate_left; (first | (show w.heap.size ≤ w.heap.size; omega) | (show w.heap.size ≤ w.heap.size + 1; omega))) | (with_reducible refine Below.alloc ?_ ?_ _; rotate_left; simp; try omega) | with_reducible refine below_drewN ?_ _))

theorem refadd_any (n m s lo hi x : Nat) (w : World) (hn : n < 18446744073709551616) (hm : m < 18446744073709551616) (hs : s < 18446744073709551616) (hlo : lo < 18446744073709551616) (hhi : hi < 18446744073709551616) (hx : x < 18446744073709551616) :
    Calls Try.prog 12 #[.agg #[.int .u64 (n : Int), .float .f64 m, .float .f64 s, .float .f64 lo, .float .f64 hi], .float .f64 x] w fun e w' =>
      ∃ b : G, e = .returned (.agg b.cells) ∧ b.Ok ∧ b.Eqv (G.add ⟨n, m, s, lo, hi⟩ x) ∧ Below w.heap.size w w' := by
  by_cases hq : rk x = 9218868437227405313 ∨ 9007199254740992 ≤ n
  · exact refadd_none n m s lo hi x w ⟨hn, hm, hs, hlo, hhi⟩ hq
  · by_cases hz : n = 0
    · subst hz
      exact refadd_zero m s lo hi x w ⟨hn, hm, hs, hlo, hhi⟩ hx (fun h => hq (.inl h))
    · exact refadd_more n m s lo hi x w ⟨hn, hm, hs, hlo, hhi⟩ hx (fun h => hq (.inl h)) (fun h => hq (.inr h)) hz

end Go.Proofs.Ytoabhnbifbdknaa
