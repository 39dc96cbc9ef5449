/- gauge's Spread and New, the reference's, and what are the same gauges. -/
import Derived.Test.YtboongdoggggoaaGaugeRefAdd
import Derived.Test.YtboongdoggggoaaEdgeSame
namespace Go.Proofs.Ytboongdoggggoaa
set_option maxRecDepth 20000
open Go.RowKit EdgeMath

theorem sqrt_any (x : Nat) (w : World) : Calls Try.prog 101 #[.float .f64 x] w fun e w' => ∃ r k, e = .returned (.float .f64 r) ∧ r < 18446744073709551616 ∧ rk r = rk (fsqrt x) ∧ w' = w.drewN k := by
  obtain ⟨r, k, h, hr, hrk⟩ := run_fsqrt (P := Try.prog) x w
  have hb : (callFunc 122 #[.float .f64 x]).run Try.prog w = .ok (.value (.float .f64 r)) (w.drewN k) := by
    rw [run_callFunc_extern Try.func122 (by kernel_rfl) (by kernel_rfl) (by kernel_rfl) (e := Extern.MathSqrt.sqrt) (by kernel_rfl), h]
    rfl
  have HR := Lib.hid hr
  have HK := Lib.hid hrk
  clear h hr hrk
  go_enter Try.func101, Try.ntmps101
  go_wp2
  go_ret
  exact ⟨r, k, rfl, HR.out, HK.out, rfl⟩

set_option maxRecDepth 100000 in
theorem gspread_any (a : G) (w : World) (ha : a.Ok) :
    Calls Try.prog 64 #[.agg a.cells] w fun e w' => ∃ r, e = .returned (.float .f64 r) ∧ r < 18446744073709551616 ∧ rk r = rk a.spread ∧ Below w.heap.size w w' := by
  obtain ⟨n, m, s, lo, hi⟩ := a
  have HA := Lib.hid ha
  clear ha
  show Calls Try.prog 64 #[.agg #[.int .u64 (n : Int), .float .f64 m, .float .f64 s, .float .f64 lo, .float .f64 hi]] w _
  by_cases hz : n = 0
  · subst hz
    go_enter Try.func64, Try.ntmps64
    go_wp2_with fail
    refine (nan_any _).mono ?_
    rintro e w' ⟨rfl, rfl⟩
    go_wp2
    go_ret
    exact ⟨_, rfl, by decide, by rfl, (Below.refl _ _).alloc (Nat.le_refl _) _⟩
  · have h0 : ((n : Int) == 0) = false := by simp; omega
    have HZ := Lib.hid hz
    clear hz
    go_enter Try.func64, Try.ntmps64
    go_wp2_with fail
    refine upon_fop .quo rfl _ _ _ _ ?_
    intro q k hq hqk
    have HQ := Lib.hid hq
    have HQK := Lib.hid hqk
    clear hq hqk
    go_wp2_with fail
    refine (sqrt_any q _).mono ?_
    rintro e w' ⟨r, k2, rfl, hr, hrk, rfl⟩
    have HR := Lib.hid hr
    have HRK := Lib.hid hrk
    clear hr hrk
    go_wp2
    go_ret
    refine ⟨r, rfl, HR.out, ?_, ?_⟩
    · have e : fsqrt q = fsqrt (fop .quo s (flo n)) := fsqrt_congr HQ.out fop_lt HQK.out
      rw [HRK.out, e]
      unfold G.spread
      rw [if_neg HZ.out]
    · exact below_drewN ((Below.refl _ _).alloc (Nat.le_refl _) _) _

/-- Nothing was measured. -/
def EdgeMath.G.none : G := ⟨0, 9221120237041090561, 0, 9218868437227405312, 18442240474082181120⟩
theorem EdgeMath.G.none_ok : G.none.Ok := ⟨by decide, by decide, by decide, by decide, by decide⟩

set_option maxRecDepth 100000 in
theorem gnew_any (w : World) : Calls Try.prog 63 #[] w fun e w' => e = .returned (.agg G.none.cells) ∧ Below w.heap.size w w' := by
  have hst := fun x w a md => run_store_float (P := Try.prog) .f64 x w a md
  go_enter Try.func63, Try.ntmps63
  go_wp2_with fail
  refine (nan_any _).mono ?_
  rintro e w' ⟨rfl, rfl⟩
  go_wp2_with fail
  refine (inf_plus _).mono ?_
  rintro e w' ⟨rfl, rfl⟩
  go_wp2_with fail
  refine (inf_minus _).mono ?_
  rintro e w' ⟨rfl, rfl⟩
  go_wp2
  refine bodyPost_ret (v := .agg G.none.cells) (by simp [EdgeMath.G.cells, EdgeMath.G.none, results, Try.results63, go_sem]) rfl ⟨rfl, ?_⟩
  (repeat (first | with_reducible exact Below.refl _ _ | (with_reducible refine Below.setCell ?_ ?_ _; rotate_left; (first | (show w.heap.size ≤ w.heap.size; omega) | (show w.heap.size ≤ w.heap.size + 1; omega))) | (with_reducible refine Below.alloc ?_ ?_ _; rotate_left; simp; try omega) | with_reducible refine below_drewN ?_ _))

set_option maxRecDepth 100000 in
set_option maxHeartbeats 1000000 in
/-- Gauges that are one are told the same. -/
theorem samegauge_any (a b : G) (w : World) (ha : a.Ok) (hb : b.Ok) (h : a.Eqv b) :
    Calls Try.prog 32 #[.agg a.cells, .agg b.cells] w fun e w' => e = .returned (.bool true) ∧ Below w.heap.size w w' := by
  obtain ⟨n, m, s, lo, hi⟩ := a
  obtain ⟨n', m', s', lo', hi'⟩ := b
  obtain rfl : n = n' := h.n
  have HA := Lib.hid ha
  have HB := Lib.hid hb
  have HE := Lib.hid h
  clear ha hb h
  show Calls Try.prog 32 #[.agg #[.int .u64 (n : Int), .float .f64 m, .float .f64 s, .float .f64 lo, .float .f64 hi], .agg #[.int .u64 (n : Int), .float .f64 m', .float .f64 s', .float .f64 lo', .float .f64 hi']] w _
  go_enter Try.func32, Try.ntmps32
  go_wp2_with fail
  refine (same_true m m' _ HA.out.m HB.out.m HE.out.m).mono ?_
  rintro e w' ⟨rfl, rfl⟩
  go_wp2_with fail
  refine (same_true s s' _ HA.out.s HB.out.s HE.out.s).mono ?_
  rintro e w' ⟨rfl, rfl⟩
  go_wp2_with fail
  refine (same_true lo lo' _ HA.out.lo HB.out.lo HE.out.lo).mono ?_
  rintro e w' ⟨rfl, rfl⟩
  go_wp2_with fail
  refine (same_true hi hi' _ HA.out.hi HB.out.hi HE.out.hi).mono ?_
  rintro e w' ⟨rfl, rfl⟩
  go_wp2
  go_ret
  refine ⟨rfl, ?_⟩
  (repeat (first | with_reducible exact Below.refl _ _ | (with_reducible refine Below.setCell ?_ ?_ _; rotate_left; (first | (show w.heap.size ≤ w.heap.size; omega) | (show w.heap.size ≤ w.heap.size + 1; omega))) | (with_reducible refine Below.alloc ?_ ?_ _; rotate_left; simp; try omega) | with_reducible refine below_drewN ?_ _))

end Go.Proofs.Ytboongdoggggoaa
