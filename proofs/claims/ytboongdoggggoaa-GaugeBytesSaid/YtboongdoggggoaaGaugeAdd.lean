/- gauge's Add, and the reference's. -/
import Derived.Test.YtboongdoggggoaaGaugeMath
import Derived.Test.YtboongdoggggoaaEdgeLeast
namespace Go.Proofs.Ytboongdoggggoaa
set_option maxRecDepth 20000
open Go.RowKit EdgeMath

/-- A gauge as a value. -/
def EdgeMath.G.cells (a : G) : Array Value := #[.int .u64 (a.n : Int), .float .f64 a.m, .float .f64 a.s, .float .f64 a.lo, .float .f64 a.hi]

theorem isnanf_any (x : Nat) (b : Bool) (w : World) (hb : b = decide (rk x = 9218868437227405313)) : Calls Try.prog 96 #[.float .f64 x] w fun e w' => e = .returned (.bool b) ∧ w = w' := by
  rw [hb]
  clear hb
  go_enter Try.func96, Try.ntmps96
  go_wp2
  all_goals (go_ret; refine ⟨congrArg (fun n => Ending.returned (.bool n)) ?_, rfl⟩)
  all_goals exact nan_test x

theorem two_floats (W : World) (g x y : Nat) (c0 : W.cell? ⟨g, 0, none⟩ = some (.float .f64 x)) (c1 : W.cell? ⟨g, 1, none⟩ = some (.float .f64 y)) : Fls W (.slice (some ⟨g, 0, none⟩) 2 2) [x, y] :=
  .inr ⟨g, 2, rfl, by simp, fun i h => by
    match i, h with
    | 0, _ => exact c0
    | 1, _ => exact c1⟩

theorem low_two (x y : Nat) : lowTo [x, y] 2 = rk (lesser x y) := by
  rw [lesser_rk]
  rfl
theorem high_two (x y : Nat) : highTo [x, y] 2 = rk (greater x y) := by
  rw [greater_rk]
  rfl

theorem least_two (W : World) (g x y : Nat) (hx : x < 18446744073709551616) (hy : y < 18446744073709551616) (c0 : W.cell? ⟨g, 0, none⟩ = some (.float .f64 x)) (c1 : W.cell? ⟨g, 1, none⟩ = some (.float .f64 y)) :
    Calls Try.prog 97 #[.slice (some ⟨g, 0, none⟩) 2 2] W fun e w' => ∃ f, e = .returned (.float .f64 f) ∧ f < 18446744073709551616 ∧ rk f = rk (lesser x y) ∧ W = w' := by
  refine (least_any _ [x, y] _ (two_floats W g x y c0 c1) (fun i h => ?_) (by simp)).mono fun e w' ⟨f, h1, h2, h3, h4⟩ => ⟨f, h1, h2, by rw [h3]; exact low_two x y, h4⟩
  match i, h with
  | 0, _ => exact hx
  | 1, _ => exact hy

theorem most_two (W : World) (g x y : Nat) (hx : x < 18446744073709551616) (hy : y < 18446744073709551616) (c0 : W.cell? ⟨g, 0, none⟩ = some (.float .f64 x)) (c1 : W.cell? ⟨g, 1, none⟩ = some (.float .f64 y)) :
    Calls Try.prog 98 #[.slice (some ⟨g, 0, none⟩) 2 2] W fun e w' => ∃ f, e = .returned (.float .f64 f) ∧ f < 18446744073709551616 ∧ rk f = rk (greater x y) ∧ W = w' := by
  refine (most_any _ [x, y] _ (two_floats W g x y c0 c1) (fun i h => ?_) (by simp)).mono fun e w' ⟨f, h1, h2, h3, h4⟩ => ⟨f, h1, h2, by rw [h3]; exact high_two x y, h4⟩
  match i, h with
  | 0, _ => exact hx
  | 1, _ => exact hy

set_option maxRecDepth 100000 in
set_option maxHeartbeats 1000000 in
theorem add_any (n m s lo hi x : Nat) (w : World) (hn : n < 18446744073709551616) (hm : m < 18446744073709551616) (hs : s < 18446744073709551616) (hlo : lo < 18446744073709551616) (hhi : hi < 18446744073709551616) (hx : x < 18446744073709551616) :
    Calls Try.prog 62 #[.agg #[.int .u64 (n : Int), .float .f64 m, .float .f64 s, .float .f64 lo, .float .f64 hi], .float .f64 x] w fun e w' =>
      ∃ b : G, e = .returned (.agg b.cells) ∧ b.Ok ∧ b.Eqv (G.add ⟨n, m, s, lo, hi⟩ x) ∧ Below w.heap.size w w' := by
  have hst := fun x w a md => run_store_float (P := Try.prog) .f64 x w a md
  have HOk := Lib.hid (show G.Ok ⟨n, m, s, lo, hi⟩ from ⟨hn, hm, hs, hlo, hhi⟩)
  have HX := Lib.hid hx
  clear hn hm hs hlo hhi hx
  by_cases hnan : rk x = 9218868437227405313
  · have hnb : true = decide (rk x = 9218868437227405313) := by simp [hnan]
    have HN := Lib.hid hnb
    have HNan := Lib.hid hnan
    clear hnb hnan
    go_enter Try.func62, Try.ntmps62
    go_wp2_with fail
    refine (isnanf_any x true _ HN.out).mono ?_
    rintro e w' ⟨rfl, rfl⟩
    go_wp2
    refine bodyPost_ret (v := .agg (EdgeMath.G.cells ⟨n, m, s, lo, hi⟩)) (by simp [EdgeMath.G.cells, results, Try.results62, go_sem]) rfl ⟨⟨n, m, s, lo, hi⟩, rfl, HOk.out, ?_, ?_⟩
    · unfold G.add
      rw [if_pos (.inl HNan.out)]
      exact G.Eqv.refl _
    · (repeat (first | with_reducible exact Below.refl _ _ | (with_reducible refine Below.setCell ?_ ?_ _; rotate_left; (first | (show w.heap.size ≤ w.heap.size; omega) | (show w.heap.size ≤ w.heap.size + 1; omega))) | (with_reducible refine Below.alloc ?_ ?_ _; rotate_left; simp; try omega) | with_reducible refine below_drewN ?_ _))
  · have hnb : false = decide (rk x = 9218868437227405313) := by simp [hnan]
    have HN := Lib.hid hnb
    have HNan := Lib.hid hnan
    clear hnb hnan
    by_cases hbig : 9007199254740992 ≤ n
    · have hge : decide ((9007199254740992 : Int) ≤ (n : Int)) = true := by simp; omega
      have HBig := Lib.hid hbig
      clear hbig
      go_enter Try.func62, Try.ntmps62
      go_wp2_with fail
      refine (isnanf_any x false _ HN.out).mono ?_
      rintro e w' ⟨rfl, rfl⟩
      go_wp2
      refine bodyPost_ret (v := .agg (EdgeMath.G.cells ⟨n, m, s, lo, hi⟩)) (by simp [EdgeMath.G.cells, results, Try.results62, go_sem]) rfl ⟨⟨n, m, s, lo, hi⟩, rfl, HOk.out, ?_, ?_⟩
      · unfold G.add
        rw [if_pos (.inr HBig.out)]
        exact G.Eqv.refl _
      · (repeat (first | with_reducible exact Below.refl _ _ | (with_reducible refine Below.setCell ?_ ?_ _; rotate_left; (first | (show w.heap.size ≤ w.heap.size; omega) | (show w.heap.size ≤ w.heap.size + 1; omega))) | (with_reducible refine Below.alloc ?_ ?_ _; rotate_left; simp; try omega) | with_reducible refine below_drewN ?_ _))
    · have hge : decide ((9007199254740992 : Int) ≤ (n : Int)) = false := by simp; omega
      have HBig := Lib.hid hbig
      by_cases hz : n = 0
      · subst hz
        clear hbig
        go_enter Try.func62, Try.ntmps62
        go_wp2_with fail
        refine (isnanf_any x false _ HN.out).mono ?_
        rintro e w' ⟨rfl, rfl⟩
        go_wp2_with fail
        refine (least_two _ _ lo x HOk.out.lo HX.out (by simp [go_sem]) (by simp [go_sem])).mono ?_
        rintro e w' ⟨f1, rfl, hf1, hk1, rfl⟩
        have HK1 := Lib.hid hk1
        have HF1 := Lib.hid hf1
        clear hk1 hf1
        go_wp2_with fail
        refine (most_two _ _ hi x HOk.out.hi HX.out (by simp [go_sem]) (by simp [go_sem])).mono ?_
        rintro e w' ⟨f2, rfl, hf2, hk2, rfl⟩
        have HK2 := Lib.hid hk2
        have HF2 := Lib.hid hf2
        clear hk2 hf2
        go_wp2
        refine bodyPost_ret (v := .agg (EdgeMath.G.cells ⟨1, x, 0, f1, f2⟩)) (by simp [EdgeMath.G.cells, results, Try.results62, go_sem]) rfl ⟨⟨1, x, 0, f1, f2⟩, rfl, ⟨show 1 < 18446744073709551616 by decide, HX.out, show 0 < 18446744073709551616 by decide, HF1.out, HF2.out⟩, ?_, ?_⟩
        · unfold G.add
          rw [if_neg (fun h => h.elim HNan.out (fun h => by simp at h)), if_pos rfl]
          exact ⟨rfl, rfl, rfl, HK1.out, HK2.out⟩
        · (repeat (first | with_reducible exact Below.refl _ _ | (with_reducible refine Below.setCell ?_ ?_ _; rotate_left; (first | (show w.heap.size ≤ w.heap.size; omega) | (show w.heap.size ≤ w.heap.size + 1; omega))) | (with_reducible refine Below.alloc ?_ ?_ _; rotate_left; simp; try omega) | with_reducible refine below_drewN ?_ _))
      · obtain ⟨p, hp⟩ : ∃ p, p = n + 1 := ⟨_, rfl⟩
        have hw : IntKind.u64.wrap ((n : Int) + 1) = (p : Int) := by rw [IntKind.wrap_u64]; omega
        have hp1 : ((p : Int) == 1) = false := by simp; omega
        have HZ := Lib.hid hz
        have HP := Lib.hid hp
        clear hz hp hbig
        go_enter Try.func62, Try.ntmps62
        go_wp2_with fail
        refine (isnanf_any x false _ HN.out).mono ?_
        rintro e w' ⟨rfl, rfl⟩
        go_wp2_with fail
        refine upon_fop .sub rfl _ _ _ _ ?_
        intro d k1 hd hdk
        have HD := Lib.hid hd
        have HDK := Lib.hid hdk
        clear hd hdk
        go_wp2_with fail
        refine upon_fop .quo rfl _ _ _ _ ?_
        intro q k2 hq hqk
        have HQ := Lib.hid hq
        have HQK := Lib.hid hqk
        clear hq hqk
        go_wp2_with fail
        refine upon_fop .add rfl _ _ _ _ ?_
        intro m1 k3 hm1 hm1k
        have HM := Lib.hid hm1
        have HMK := Lib.hid hm1k
        clear hm1 hm1k
        go_wp2_with fail
        refine upon_fop .sub rfl _ _ _ _ ?_
        intro f k4 hf hfk
        have HF := Lib.hid hf
        have HFK := Lib.hid hfk
        clear hf hfk
        go_wp2_with fail
        refine upon_fop .mul rfl _ _ _ _ ?_
        intro pr k5 hpr hprk
        have HPr := Lib.hid hpr
        have HPrK := Lib.hid hprk
        clear hpr hprk
        go_wp2_with fail
        refine upon_fop .add rfl _ _ _ _ ?_
        intro s1 k6 hs1 hs1k
        have HS := Lib.hid hs1
        have HSK := Lib.hid hs1k
        clear hs1 hs1k
        go_wp2_with fail
        refine (least_two _ _ lo x HOk.out.lo HX.out (by simp [go_sem]) (by simp [go_sem])).mono ?_
        rintro e w' ⟨f1, rfl, hf1, hk1, rfl⟩
        have HK1 := Lib.hid hk1
        have HF1 := Lib.hid hf1
        clear hk1 hf1
        go_wp2_with fail
        refine (most_two _ _ hi x HOk.out.hi HX.out (by simp [go_sem]) (by simp [go_sem])).mono ?_
        rintro e w' ⟨f2, rfl, hf2, hk2, rfl⟩
        have HK2 := Lib.hid hk2
        have HF2 := Lib.hid hf2
        clear hk2 hf2
        go_wp2
        refine bodyPost_ret (v := .agg (EdgeMath.G.cells ⟨p, m1, s1, f1, f2⟩)) (by simp [EdgeMath.G.cells, results, Try.results62, go_sem]) rfl ⟨⟨p, m1, s1, f1, f2⟩, rfl, ⟨by have := HP.out; have := HBig.out; show p < _; omega, HM.out, HS.out, HF1.out, HF2.out⟩, ?_, ?_⟩
        · exact G.add_step n m s lo hi x p d q m1 f pr s1 f1 f2 HOk.out HX.out HNan.out HBig.out HZ.out HP.out HD.out HDK.out HQ.out HQK.out HM.out HMK.out HF.out HFK.out HPr.out HPrK.out HSK.out HK1.out HK2.out
        · (repeat (first | with_reducible exact Below.refl _ _ | (with_reducible refine Below.setCell ?_ ?_ _; rotate_left; (first | (show w.heap.size ≤ w.heap.size; omega) | (show w.heap.size ≤ w.heap.size + 1; omega))) | (with_reducible refine Below.alloc ?_ ?_ _; rotate_left; simp; try omega) | with_reducible refine below_drewN ?_ _))

end Go.Proofs.Ytboongdoggggoaa
