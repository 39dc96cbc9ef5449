/- The reference's Ahead. -/
import Derived.Test.YtoabhnbifbdknaaGaugeRows
namespace Go.Proofs.Ytoabhnbifbdknaa
open Go.RowKit EdgeMath Reg

def AheadP (a b : G) : Prop := rk a.m < rk b.m ∨ rk a.m = rk b.m ∧ rk a.spread < rk b.spread

set_option maxRecDepth 100000 in
set_option maxHeartbeats 1000000 in
theorem refahead_any (a b : G) (t : Bool) (w : World) (ha : a.Ok) (hb : b.Ok) (ht : t = true ↔ AheadP a b) :
    Calls Try.prog 35 #[.agg a.cells, .agg b.cells] w fun e w' => e = .returned (.bool t) ∧ Below w.heap.size w w' := by
  obtain ⟨o1, ho1⟩ : ∃ o, o = ord (rk a.m) (rk b.m) := ⟨_, rfl⟩
  obtain ⟨o2, ho2⟩ : ∃ o, o = ord (rk a.spread) (rk b.spread) := ⟨_, rfl⟩
  have HO1 := Lib.hid ho1
  have HO2 := Lib.hid ho2
  have HA := Lib.hid ha
  have HB := Lib.hid hb
  have hcs : ∀ c : G, c.cells = #[.int .u64 (c.n : Int), .float .f64 c.m, .float .f64 c.s, .float .f64 c.lo, .float .f64 c.hi] := fun _ => rfl
  have hT : (o1 ≠ 0 → t = decide (o1 < 0)) ∧ (o1 = 0 → t = decide (o2 < 0)) := by
    obtain ⟨a1, a2⟩ := ord_neg (rk a.m) (rk b.m)
    obtain ⟨b1, b2⟩ := ord_neg (rk a.spread) (rk b.spread)
    rw [← ho1] at a1 a2
    rw [← ho2] at b1 b2
    unfold AheadP at ht
    constructor
    · intro h
      rw [Bool.eq_iff_iff, decide_eq_true_eq, ht]
      omega
    · intro h
      rw [Bool.eq_iff_iff, decide_eq_true_eq, ht]
      omega
  have HT := Lib.hid hT
  clear ho1 ho2 ha hb ht hT
  rw [hcs a, hcs b]
  go_enter Try.func35, Try.ntmps35
  by_cases h0 : o1 = 0
  · have hz : (o1 == 0) = true := by simp [h0]
    have H0 := Lib.hid h0
    clear h0
    go_wp2_with fail
    refine (reforder_named a.m b.m o1 _ HA.out.m HB.out.m HO1.out).mono ?_
    rintro e w' ⟨rfl, rfl⟩
    go_upto_region 3 with fail
    refine world_cut (fun W => GBlk W w.heap.size a ∧ GBlk W (w.heap.size + 1) b ∧ Below w.heap.size w W) ⟨Blk.alloc (Blk.new w _ _) _, Blk.newAt _ _ _ _ _ (by simp) rfl, ((Below.refl _ _).alloc (Nat.le_refl _) _).alloc (by simp) _⟩ ?_
    clear hcs
    rintro W2 ⟨h1, h2, h3⟩
    have H1 := Lib.hid h1
    have H2 := Lib.hid h2
    have H3 := Lib.hid h3
    clear h1 h2 h3
    have hK : ∀ W W' : World, (GBlk W w.heap.size a ∧ GBlk W (w.heap.size + 1) b ∧ Below w.heap.size w W) → Below W.heap.size W W' → (GBlk W' w.heap.size a ∧ GBlk W' (w.heap.size + 1) b ∧ Below w.heap.size w W') := fun W W' hW hb => ⟨hW.1.keep hb, hW.2.1.keep hb, hW.2.2.trans (hb.mono hW.2.2.size)⟩
    refine region_by [(13, .is (.agg a.cells)), (14, flt (rk a.spread)), (15, .is (.agg b.cells)), (16, flt (rk b.spread)), (17, .is (.int .i64 o2)), (5, .is (.int .i64 o2))] [5] (fun W => GBlk W w.heap.size a ∧ GBlk W (w.heap.size + 1) b ∧ Below w.heap.size w W) (by kernel_rfl) (by kernel_rfl) (by kernel_rfl) (by kernel_rfl) (by kernel_rfl) (hK _ _ ⟨H1.out, H2.out, H3.out⟩ (Below.refl _ _).drew) ?_ ?_
    · refine ⟨?c0, ?c1, ?c2, ?c3, ?c4, ?c5, trivial⟩
      case c0 => exact ask_load (guard_none rfl) _ (.tmp 2) (.pointer (some ⟨w.heap.size, 0, none⟩)) (.agg a.cells) rfl rfl (by intro k hk; cases hk; rfl) (fun W hW => hW.1.loads)
      case c1 => exact ask_call hK (guard_none rfl) _ _ _ #[.agg a.cells] (flt (rk a.spread)) rfl (by kernel_rfl) rfl rfl (by intro k hk; cases hk; rfl) (fun W hW => (grefspread_any a W HA.out).mono fun e w' ⟨r, q1, q2, q3, q4⟩ => ⟨_, q1, ⟨r, rfl, q2, q3⟩, q4⟩)
      case c2 => exact ask_load (guard_none rfl) _ (.tmp 3) (.pointer (some ⟨w.heap.size + 1, 0, none⟩)) (.agg b.cells) rfl rfl (by intro k hk; cases hk; rfl) (fun W hW => hW.2.1.loads)
      case c3 => exact ask_call hK (guard_none rfl) _ _ _ #[.agg b.cells] (flt (rk b.spread)) rfl (by kernel_rfl) rfl rfl (by intro k hk; cases hk; rfl) (fun W hW => (grefspread_any b W HB.out).mono fun e w' ⟨r, q1, q2, q3, q4⟩ => ⟨_, q1, ⟨r, rfl, q2, q3⟩, q4⟩)
      case c4 => exact ask_call_still (guard_none rfl) _ _ _ (.is (.int .i64 o2)) rfl (by kernel_rfl) (by intro k hk; cases hk; rfl) (fun x W hW hk => by
        obtain ⟨r, e14, r1, r2⟩ : ∃ r, x 14 = .float .f64 r ∧ r < 18446744073709551616 ∧ rk r = rk a.spread := hk 14 rfl
        obtain ⟨s, e16, s1, s2⟩ : ∃ r, x 16 = .float .f64 r ∧ r < 18446744073709551616 ∧ rk r = rk b.spread := hk 16 rfl
        show Calls _ _ #[x 14, x 16] W _
        rw [e14, e16]
        exact (reforder_named r s o2 W r1 s1 (by rw [r2, s2]; exact HO2.out)).mono fun e w' ⟨h1, h2⟩ => ⟨_, h1, rfl, h2⟩)
      case c5 => exact ask_copy (guard_none rfl) (.tmp 17) (.inr rfl) (by intro k hk; cases hk; rfl)
    · intro a' W3 hW3 hd3 hs3 hf3
      have t5 : a'.tmps.getD 5 undef = .int .i64 o2 := hf3 5 rfl
      obtain ⟨us, hus, ha'⟩ := act_open 20 a' hs3 hd3
      rw [← hus] at t5
      have el : ((List.range 20).map us).toArray = #[us 0, us 1, us 2, us 3, us 4, us 5, us 6, us 7, us 8, us 9, us 10, us 11, us 12, us 13, us 14, us 15, us 16, us 17, us 18, us 19] := rfl
      rw [el] at ha'
      subst ha'
      rw [t5]
      have HB3 := Lib.hid hW3.2.2
      clear hus t5 el hf3 hs3 hd3 hK hW3
      go_wp2
      all_goals
        go_ret
        refine ⟨?_, HB3.out⟩
        rw [HT.out.2 H0.out]
        rfl
  · have hz : (o1 == 0) = false := by simp [h0]
    have H0 := Lib.hid h0
    clear h0
    go_wp2_with fail
    refine (reforder_named a.m b.m o1 _ HA.out.m HB.out.m HO1.out).mono ?_
    rintro e w' ⟨rfl, rfl⟩
    go_wp2
    all_goals
      go_ret
      refine ⟨?_, ((Below.refl _ _).alloc (Nat.le_refl _) _).alloc (by simp) _⟩
      rw [HT.out.1 H0.out]
      rfl

end Go.Proofs.Ytoabhnbifbdknaa
