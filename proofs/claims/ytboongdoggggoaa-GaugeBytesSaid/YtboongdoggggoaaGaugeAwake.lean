/- The fixed answers of layer 6's laws. -/
import Derived.Test.YtboongdoggggoaaGaugePut
namespace Go.Proofs.Ytboongdoggggoaa
set_option maxRecDepth 20000
open Go.RowKit EdgeMath BinMath

theorem add_g (a : G) (x : Nat) (w : World) (ha : a.Ok) (hx : x < 18446744073709551616) :
    Calls Try.prog 62 #[.agg a.cells, .float .f64 x] w fun e w' => ∃ b : G, e = .returned (.agg b.cells) ∧ b.Ok ∧ b.Eqv (a.add x) ∧ Below w.heap.size w w' :=
  add_any a.n a.m a.s a.lo a.hi x w ha.n ha.m ha.s ha.lo ha.hi hx

/-- 2 and 4. -/
def EdgeMath.G.two : G := ⟨2, 4613937818241073152, 4611686018427387904, 4611686018427387904, 4616189618054758400⟩

theorem two_made : (G.none.add 4611686018427387904).add 4616189618054758400 = G.two := by kernel_rfl

theorem two_spread : G.two.spread = 4607182418800017408 := by kernel_rfl

theorem two_only {b : G} (hb : b.Ok) (h : b.Eqv G.two) : b = G.two := by
  obtain ⟨n, m, s, lo, hi⟩ := b
  obtain ⟨h1, h2, h3, h4, h5⟩ := h
  have e1 : n = 2 := h1
  have e2 : m = 4613937818241073152 := rk_inj hb.m (by decide) h2 (by rw [h2]; decide)
  have e3 : s = 4611686018427387904 := rk_inj hb.s (by decide) h3 (by rw [h3]; decide)
  have e4 : lo = 4611686018427387904 := rk_inj hb.lo (by decide) h4 (by rw [h4]; decide)
  have e5 : hi = 4616189618054758400 := rk_inj hb.hi (by decide) h5 (by rw [h5]; decide)
  subst e1 e2 e3 e4 e5
  rfl

theorem two_ok : G.two.Ok := ⟨by decide, by decide, by decide, by decide, by decide⟩

theorem two_length : (G.two.txt 4).length = 34 := by
  rw [txt_length _ _ (by omega)]
  decide

set_option maxRecDepth 100000 in
set_option maxHeartbeats 1000000 in
theorem gawake_any (w : World) : Calls Try.prog 26 #[] w fun e w' => e = .returned (.bool true) ∧ Below w.heap.size w w' := by
  have hst := fun x w a md => run_store_float (P := Try.prog) .f64 x w a md
  go_enter Try.func26, Try.ntmps26
  go_wp2_with fail
  refine (gnew_any _).mono ?_
  rintro e w1 ⟨rfl, hb1⟩
  have HB1 := Lib.hid hb1
  clear hb1
  go_wp2_with fail
  refine (add_g G.none 4611686018427387904 _ G.none_ok (by decide)).mono ?_
  rintro e w2 ⟨b, rfl, hbok, hbe, hb2⟩
  have HB2 := Lib.hid (HB1.out.trans (hb2.mono HB1.out.size))
  have HO := Lib.hid hbok
  have HE := Lib.hid hbe
  clear hb2 hbok hbe HB1
  go_wp2_with fail
  refine (add_g b 4616189618054758400 _ HO.out (by decide)).mono ?_
  rintro e w3 ⟨c, rfl, hcok, hce, hb3⟩
  obtain rfl : c = G.two := two_only hcok (by
    have h := G.add_congr HO.out (G.add_ok G.none_ok (x := 4611686018427387904) (by decide)) (by decide) (by decide) HE.out (rfl : rk 4616189618054758400 = rk 4616189618054758400)
    rw [two_made] at h
    exact hce.trans h)
  have HB3 := Lib.hid (HB2.out.trans (hb3.mono HB2.out.size))
  clear hb3 hcok hce HO HE HB2
  have he : G.two.cells = #[.int .u64 2, .float .f64 4613937818241073152, .float .f64 4611686018427387904, .float .f64 4611686018427387904, .float .f64 4616189618054758400] := rfl
  rw [he]
  go_wp2_with fail
  refine (gspread_any G.two _ two_ok).mono ?_
  rintro e w4 ⟨r, rfl, hr, hrk, hb4⟩
  obtain rfl : r = 4607182418800017408 := by
    rw [two_spread] at hrk
    exact rk_inj hr (by decide) hrk (by rw [hrk]; decide)
  have hc0 := kept_cell hb4 0 _ rfl
  have hc1 := kept_cell hb4 1 _ rfl
  have hc2 := kept_cell hb4 2 _ rfl
  have hc3 := kept_cell hb4 3 _ rfl
  have hc4 := kept_cell hb4 4 _ rfl
  have HB4 := Lib.hid ((HB3.out.alloc HB3.out.size (.cells #[.int .u64 2, .float .f64 4613937818241073152, .float .f64 4611686018427387904, .float .f64 4611686018427387904, .float .f64 4616189618054758400] 54)).trans (hb4.mono (by have := HB3.out.size; simp; omega)))
  clear hb4 hr hrk HB3
  go_wp2_with fail
  refine (gput_any G.two _ two_ok).mono ?_
  rintro e w5 ⟨v, rfl, hrow, hb5⟩
  obtain ⟨a5, c5, rfl⟩ := slice_of_row hrow
  rw [two_length]
  have HB5 := Lib.hid (HB4.out.trans (hb5.mono HB4.out.size))
  clear hrow hb5 hc0 hc1 hc2 hc3 hc4
  go_wp2
  go_ret
  exact ⟨rfl, HB5.out⟩

end Go.Proofs.Ytboongdoggggoaa
