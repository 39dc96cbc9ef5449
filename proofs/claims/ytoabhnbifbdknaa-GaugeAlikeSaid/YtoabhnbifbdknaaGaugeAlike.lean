/- GaugeAlike: the walk. -/
import Derived.Test.YtoabhnbifbdknaaGaugeAlikeMath
import Derived.Test.YtoabhnbifbdknaaGaugeKit
import Derived.Test.YtoabhnbifbdknaaTail
import Derived.Test.YtoabhnbifbdknaaFrame
import Derived.Deep.Cut
namespace Go.Proofs.Ytoabhnbifbdknaa
open Go.RowKit EdgeMath Reg

/-- After i times the number X; after i numbers. -/
def Alike (X i : Nat) (a : G) : Prop := a.Ok ∧ a.n = i ∧ (i = 0 → rk a.lo = 9218868437227405312 ∧ rk a.hi = -9218868437227405313) ∧ (1 ≤ i → Sound a ∧ ky a.m = ky X ∧ EdgeMath.Fn a.s ∧ ky a.s = 0 ∧ rk a.lo = rk X ∧ rk a.hi = rk X)
def Ran (i : Nat) (a : G) : Prop := a.Ok ∧ a.n = i ∧ (i = 0 → rk a.lo = 9218868437227405312 ∧ rk a.hi = -9218868437227405313) ∧ (1 ≤ i → Sound a)

theorem none_ends : rk G.none.lo = 9218868437227405312 ∧ rk G.none.hi = -9218868437227405313 := ⟨by decide +kernel, by decide +kernel⟩
theorem alike_none (X : Nat) : Alike X 0 G.none := ⟨G.none_ok, rfl, fun _ => none_ends, fun h => by omega⟩
theorem ran_none : Ran 0 G.none := ⟨G.none_ok, rfl, fun _ => none_ends, fun h => by omega⟩

theorem ran_step {i x : Nat} {a b : G} (ha : Ran i a) (hi : i < 300) (hx : Bd x) (hb : b.Ok) (h : b.Eqv (a.add x)) : Ran (i + 1) b := by
  obtain ⟨h0, h1, h2, h3⟩ := ha
  by_cases hz : i = 0
  · obtain ⟨e1, e2⟩ := h2 hz
    obtain ⟨s1, -, -, -, -, -, s2⟩ := sound_first (by omega) e1 e2 hx
    exact ⟨hb, by rw [h.n, s2]; omega, fun h => by omega, fun _ => s1.of h⟩
  · obtain ⟨s1, s2, -⟩ := sound_step (h3 (by omega)) (by omega) (by omega) hx (whole_flo _ (by omega) (by omega))
    exact ⟨hb, by rw [h.n, s2]; omega, fun h => by omega, fun _ => s1.of h⟩

theorem alike_step {X i : Nat} {a b : G} (ha : Alike X i a) (hi : i < 300) (hx : Bd X) (hb : b.Ok) (h : b.Eqv (a.add X)) : Alike X (i + 1) b := by
  obtain ⟨h0, h1, h2, h3⟩ := ha
  by_cases hz : i = 0
  · obtain ⟨e1, e2⟩ := h2 hz
    obtain ⟨s1, s2, s3, s4, s5, s6, s7⟩ := sound_first (by omega) e1 e2 hx
    refine ⟨hb, by rw [h.n, s7]; omega, fun h => by omega, fun _ => ⟨s1.of h, ?_, ?_, ?_, ?_, ?_⟩⟩
    · rw [ky_of h.m, s6]
    · exact ⟨by rw [h.s]; exact s3, by rw [ky_of h.s, s2]; omega, by rw [ky_of h.s, s2]; omega⟩
    · rw [ky_of h.s, s2]
    · rw [h.lo, s4]
    · rw [h.hi, s5]
  · obtain ⟨k1, k2, k3, k4, k5, k6⟩ := h3 (by omega)
    obtain ⟨s1, s2, s3⟩ := sound_step k1 (by omega) (by omega) hx (whole_flo _ (by omega) (by omega))
    obtain ⟨s4, s5, s6⟩ := s3 k2 k3 k4
    have hadd : a.add X = ⟨a.n + 1, a.nm X, fop .add a.s (fop .mul (fop .sub X a.m) (fop .sub X (a.nm X))), lesser a.lo X, greater a.hi X⟩ := by
      unfold G.add
      rw [if_neg (by have := hx.1; omega), if_neg (by omega)]
    have elo : rk (a.add X).lo = rk X := by
      rw [hadd]
      show rk (lesser _ _) = _
      rw [lesser_rk, k5]
      split <;> omega
    have ehi : rk (a.add X).hi = rk X := by
      rw [hadd]
      show rk (greater _ _) = _
      rw [greater_rk, k6]
      split <;> omega
    refine ⟨hb, by rw [h.n, s2]; omega, fun h => by omega, fun _ => ⟨s1.of h, ?_, ?_, ?_, ?_, ?_⟩⟩
    · rw [ky_of h.m, s4]
    · exact ⟨by rw [h.s]; exact s6, by rw [ky_of h.s, s5]; omega, by rw [ky_of h.s, s5]; omega⟩
    · rw [ky_of h.s, s5]
    · rw [h.lo, elo]
    · rw [h.hi, ehi]

/-- The list of small numbers that came in. -/
def Shorts (w : World) (a : Option Addr) (n : Nat) : Prop := ∀ i, i < n → ∃ ad z, a = some ad ∧ w.cell? (ad.add i) = some (.int .i16 z) ∧ -32768 ≤ z ∧ z < 32768

theorem index_short (ad : Addr) (n cap i : Nat) (hi : i < n) (W : World) : (Instr.indexAt 51 (.slice (some ad) n cap) (.int .i64 (i : Int))).run Try.prog W = .ok (.pointer (some (ad.add i))) W := by
  have he : Try.prog.elem 51 = 53 := by kernel_rfl
  have hs : (Go.sizeOf 53).run Try.prog W = .ok 1 W := by kernel_rfl
  have ht : Try.prog.underlying 51 = some (.slice (Try.prog.elem 51)) := by rw [he]; exact Try.underlying51
  rw [run_indexAt_slice (h := ht), if_pos (by omega), he, hs]
  simp [Result.andThen]

theorem load_short (W : World) (p : Addr) (v : Value) (h : W.cell? p = some v) : (Instr.loadAt 53 (.pointer (some p))).run Try.prog W = .ok v W := by
  have hagg : (isAgg 53).run Try.prog W = .ok false W := by kernel_rfl
  simp [Instr.loadAt, Instr.sureAddr, loadVar, Sem.run_bind, hagg, h]

theorem wpnil_cut {P : Program} {ops : Array Oper} {Q : Exit → Act → World → Prop} {a : Act} {W : World} (φ : World → Prop) (h : φ W) (k : ∀ W', φ W' → wpList P ops Q [] a W') : wpList P ops Q [] a W := k W h

theorem rem50 (z : Int) : ∃ k : Nat, k < 50 ∧ wrap64 ((IntKind.u64.wrap z).tmod 50) = (k : Int) := by
  rw [IntKind.wrap_u64]
  obtain ⟨m, hm⟩ : ∃ m : Nat, z % 18446744073709551616 = m := ⟨(z % 18446744073709551616).toNat, by omega⟩
  rw [hm]
  refine ⟨m % 50, by omega, ?_⟩
  have e : ((m : Int).tmod 50) = ((m % 50 : Nat) : Int) := by
    rw [Int.tmod_eq_emod_of_nonneg (by omega)]
    omega
  rw [e]
  exact IntWalk.wrap64_in _ ⟨by omega, by omega⟩

set_option maxRecDepth 100000 in
set_option maxHeartbeats 1000000 in
theorem alike_walk (x z : Int) (hx : -2147483648 ≤ x ∧ x < 2147483648) (a : Option Addr) (n cap : Nat) (w : World) (hs : Shorts w a n) :
    Calls Try.prog 6 #[.int .i32 x, .int .i64 z, .slice a n cap] w fun e w' => e = .returned (.bool true) ∧ Below w.heap.size w w' := by
  obtain ⟨X, hX⟩ : ∃ X, X = floatOfInt .f64 x := ⟨_, rfl⟩
  have HBd := Lib.hid (show Bd X by rw [hX]; exact int_bd x (by omega))
  have HXlt := Lib.hid (show X < 18446744073709551616 by
    rw [hX]
    have := floatOfInt_wf .f64 x
    simpa [Lit.wf] using this)
  have HS := Lib.hid hs
  have hcv : ∀ W, (convert 21 25 (.int .i32 x)).run Try.prog W = .ok (.float .f64 X) W := fun W => by
    rw [hX]
    exact run_convert_int_float W _ _ _ _ _ (by kernel_rfl) Try.underlying25
  have hst := fun x w a md => run_store_float (P := Try.prog) .f64 x w a md
  clear hs hx hX
  go_enter Try.func6, Try.ntmps6
  go_wp2_with fail
  refine (gawake_any _).mono ?_
  rintro e w1 ⟨rfl, hb1⟩
  have HB1 := Lib.hid hb1
  clear hb1
  go_wp2_with fail
  refine (gnew_any _).mono ?_
  rintro e w2 ⟨rfl, hb2⟩
  have HB2 := Lib.hid (HB1.out.trans (hb2.mono HB1.out.size))
  clear hb2
  go_upto_region 4 with (refine wpList_store_row rfl 27 (.tmp 7) (.tmp 13) rfl w2.heap.size G.none.cells rfl rfl 27 _ (heap_alloc_new w2 _) (gcells_info _) rfl (gcells_one _) ?_)
  refine world_cut (fun W => GBlk W w2.heap.size G.none ∧ Below w.heap.size w W) ⟨Blk.row (Blk.new w2 _ _) _, below_setRow (HB2.out.alloc HB2.out.size _) _ _ HB2.out.size⟩ ?_
  have hg7w := HB2.out.size
  obtain ⟨g7, hg7⟩ : ∃ g, g = w2.heap.size := ⟨_, rfl⟩
  rw [← hg7] at hg7w ⊢
  have HG7 := Lib.hid hg7w
  clear hg7w hg7 HB2 HB1
  rintro W3 ⟨h1, h2⟩
  have HK3 := Lib.hid h1
  have HB3 := Lib.hid h2
  clear h1 h2
  go_upto_region 5 with fail
  obtain ⟨k, hk50, hke⟩ := rem50 z
  rw [hke]
  clear hke
  go_wp2
  go_loopw [8] (fun s8 wr => ∃ (i : Nat) (g : G), i ≤ k ∧ s8 = .int .i64 (i : Int) ∧ GBlk wr g7 g ∧ Alike X i g ∧ Below w.heap.size w wr) (fun s8 _ => k - (intOf s8).toNat)
  case atStart => exact ⟨0, G.none, by omega, rfl, HK3.out, alike_none X, HB3.out⟩
  case round =>
    obtain ⟨i, g, hik, rfl, hkk, hal, hbel⟩ := hrel
    have HK := Lib.hid hkk
    have HA := Lib.hid hal
    have HB := Lib.hid hbel
    clear hkk hal hbel HK3 HB3
    by_cases hlt : i < k
    · go_wp2_with (refine wpList_load_row rfl 27 (.tmp 7) rfl g7 rfl _ _ _ _ HK.out Try.underlying27 rfl (gcells_info _) ?_)
      refine (add_g g X _ HA.out.1 HXlt.out).mono ?_
      rintro e wa ⟨b, rfl, hbo, hbe, hba⟩
      have HA2 := Lib.hid (alike_step HA.out (by omega) HBd.out hbo hbe)
      have HKa := Lib.hid (HK.out.keep hba)
      have HBa := Lib.hid (HB.out.trans (hba.mono HB.out.size))
      clear hbo hbe hba
      go_wp2_with (refine wpList_store_row rfl 27 (.tmp 7) (.tmp 26) rfl g7 b.cells rfl rfl 27 _ HKa.out (gcells_info _) rfl (gcells_one _) ?_)
      go_roundw
      case rel => exact ⟨i + 1, b, by omega, by go_num, Blk.row HKa.out _, HA2.out, below_setRow HBa.out _ _ HG7.out⟩
      case measure => simp [intOf]; omega
    · obtain rfl : i = k := by omega
      clear hlt hik
      obtain ⟨wo, rfl⟩ : ∃ wo : World, wo = wr := ⟨_, rfl⟩
      by_cases hi0 : i = 0
      · subst hi0
        go_upto_region 11 with fail
        refine world_cut (fun W => Below w.heap.size w W) HB.out ?_
        clear HK HA HB HG7 hcv
        rintro W4 hb4
        have HB4 := Lib.hid hb4
        clear hb4
        refine frame_cut 85 rfl rfl ?_
        intro us0 hus
        have f2 : us0 2 = .slice a n cap := hus 2
        clear hus
        have el : ((List.range 85).map us0).toArray = #[us0 0, us0 1, us0 2, us0 3, us0 4, us0 5, us0 6, us0 7, us0 8, us0 9, us0 10, us0 11, us0 12, us0 13, us0 14, us0 15, us0 16, us0 17, us0 18, us0 19, us0 20, us0 21, us0 22, us0 23, us0 24, us0 25, us0 26, us0 27, us0 28, us0 29, us0 30, us0 31, us0 32, us0 33, us0 34, us0 35, us0 36, us0 37, us0 38, us0 39, us0 40, us0 41, us0 42, us0 43, us0 44, us0 45, us0 46, us0 47, us0 48, us0 49, us0 50, us0 51, us0 52, us0 53, us0 54, us0 55, us0 56, us0 57, us0 58, us0 59, us0 60, us0 61, us0 62, us0 63, us0 64, us0 65, us0 66, us0 67, us0 68, us0 69, us0 70, us0 71, us0 72, us0 73, us0 74, us0 75, us0 76, us0 77, us0 78, us0 79, us0 80, us0 81, us0 82, us0 83, us0 84] := rfl
        rw [el, f2]
        clear el f2
        go_wp2_with fail
        refine (gnew_any _).mono ?_
        rintro e w5 ⟨rfl, hb5⟩
        have HB5 := Lib.hid (HB4.out.trans (hb5.mono HB4.out.size))
        clear hb5
        go_upto_region 12 with (refine wpList_store_row rfl 27 (.tmp 9) (.tmp 48) rfl w5.heap.size G.none.cells rfl rfl 27 _ (heap_alloc_new w5 _) (gcells_info _) rfl (gcells_one _) ?_)
        refine world_cut (fun W => GBlk W w5.heap.size G.none ∧ Below w.heap.size w W) ⟨Blk.row (Blk.new w5 _ _) _, below_setRow (HB5.out.alloc HB5.out.size _) _ _ HB5.out.size⟩ ?_
        have hg9w := HB5.out.size
        obtain ⟨g9, hg9⟩ : ∃ g, g = w5.heap.size := ⟨_, rfl⟩
        rw [← hg9] at hg9w ⊢
        have HG9 := Lib.hid hg9w
        clear hg9w hg9 HB5 HB4
        rintro W6 ⟨h1, h2⟩
        have HK6 := Lib.hid h1
        have HB6 := Lib.hid h2
        clear h1 h2
        go_wp2
        go_loopw [10] (fun s10 wr => ∃ (j : Nat) (h : G), j ≤ n ∧ j ≤ 200 ∧ s10 = .int .i64 (j : Int) ∧ GBlk wr g9 h ∧ Ran j h ∧ Below w.heap.size w wr) (fun s10 _ => n - (intOf s10).toNat)
        case atStart => exact ⟨0, G.none, by omega, by omega, rfl, HK6.out, ran_none, HB6.out⟩
        case round =>
          obtain ⟨j, h, hjn, hj2, rfl, hkk, hal, hbel⟩ := hrel
          have HK := Lib.hid hkk
          have HA := Lib.hid hal
          have HB := Lib.hid hbel
          clear hkk hal hbel HK6 HB6
          by_cases hlt : j < n ∧ j < 200
          · obtain ⟨hlt, hlt2⟩ := hlt
            obtain ⟨ad, y, rfl, hcell, hy1, hy2⟩ := HS.out j hlt
            obtain ⟨Y, hY⟩ : ∃ Y, Y = floatOfInt .f64 y := ⟨_, rfl⟩
            have HYb := Lib.hid (show Bd Y by rw [hY]; exact int_bd y (by omega))
            have HYlt := Lib.hid (show Y < 18446744073709551616 by
              rw [hY]
              have := floatOfInt_wf .f64 y
              simpa [Lit.wf] using this)
            have HCv := Lib.hid (show ∀ W, (convert 53 25 (.int .i16 y)).run Try.prog W = .ok (.float .f64 Y) W from fun W => by
              rw [hY]
              exact run_convert_int_float W _ _ _ _ _ (by kernel_rfl) Try.underlying25)
            have HCell := Lib.hid hcell
            have HBl := Lib.hid (World.block_lt_of_cell? w _ hcell)
            have hK : ∀ W W' : World, (GBlk W g9 h ∧ Below w.heap.size w W) → Below W.heap.size W W' → (GBlk W' g9 h ∧ Below w.heap.size w W') := fun W W' hW hb => ⟨hW.1.keep hb, hW.2.trans (hb.mono hW.2.size)⟩
            clear hcell hy1 hy2 hY
            go_upto_region 15 with fail
            refine region_tail_by 7 _ [(59, .is (.agg h.cells)), (60, .is (.slice (some ad) n cap)), (61, .is (.int .i64 (j : Int))), (62, .is (.pointer (some (ad.add j)))), (63, .is (.int .i16 y)), (64, .is (.float .f64 Y)), (65, .sat (fun v _ => ∃ b : G, v = .agg b.cells ∧ b.Ok ∧ b.Eqv (h.add Y)) (fun _ _ _ h _ => h))] [0, 1, 2, 3, 4, 5, 7, 8, 9, 10, 11, 12, 13, 14, 15, 16, 17, 18, 19, 20, 21, 22, 23, 24, 25, 26, 27, 28, 29, 30, 31, 32, 33, 34, 35, 36, 37, 38, 39, 40, 41, 42, 43, 44, 45, 46, 47, 48, 65] (fun W => GBlk W g9 h ∧ Below w.heap.size w W) (by kernel_rfl) (by kernel_rfl) (by kernel_rfl) (by kernel_rfl) (by kernel_rfl) rfl rfl rfl rfl (by kernel_rfl) (hK _ _ ⟨HK.out, HB.out⟩ (Below.refl _ _).drew) ?_ ?_
            · refine ⟨?c0, ?c1, ?c2, ?c3, ?c4, ?c5, ?c6, trivial⟩
              case c0 => exact ask_load (guard_none rfl) _ (.tmp 9) (.pointer (some ⟨g9, 0, none⟩)) (.agg h.cells) rfl rfl (by intro k hk; cases hk; rfl) (fun W hW => hW.1.loads)
              case c1 => exact ask_copy (guard_none rfl) (.tmp 2) (.inl rfl) (by intro k hk; cases hk; rfl)
              case c2 => exact ask_copy (guard_none rfl) (.tmp 10) (.inl rfl) (by intro k hk; cases hk; rfl)
              case c3 => exact ask_exec (guard_none rfl) (.pointer (some (ad.add j))) rfl rfl (by intro k hk; cases hk; rfl) (fun W hW => by show ((Instr.indexAt _ _ _ >>= fun v => pure (.value v) : Sem Next)).run _ _ = _; rw [Sem.run_bind]; show ((Instr.indexAt 51 (.slice (some ad) n cap) (.int .i64 (j : Int))).run Try.prog W).andThen _ = _; rw [index_short ad n cap j hlt W]; rfl)
              case c4 => exact ask_load (guard_none rfl) _ (.tmp 62) (.pointer (some (ad.add j))) (.int .i16 y) rfl rfl (by intro k hk; cases hk; rfl) (fun W hW => load_short W _ _ (by rw [hW.2.cell HBl.out]; exact HCell.out))
              case c5 => exact ask_read (guard_none rfl) (.tmp 63) (.int .i16 y) (.float .f64 Y) rfl (by simp [Op.operands]) (by intro k hk; cases hk; rfl) (fun x W hW e => by simp only [execOp, e, Sem.run_bind, HCv.out W, Result.andThen_ok, Sem.run_pure])
              case c6 => exact ask_call hK (guard_none rfl) _ _ _ #[.agg h.cells, .float .f64 Y] (.sat (fun v _ => ∃ b : G, v = .agg b.cells ∧ b.Ok ∧ b.Eqv (h.add Y)) (fun _ _ _ h _ => h)) rfl (by kernel_rfl) rfl rfl (by intro k hk; cases hk; rfl) (fun W hW => (add_g h Y W HA.out.1 HYlt.out).mono fun e w' ⟨b, q1, q2, q3, q4⟩ => ⟨_, q1, ⟨b, rfl, q2, q3⟩, q4⟩)
            · intro a' W7 hW7 hd7 hs7 hf7
              have t0 : a'.tmps.getD 0 undef = us0 0 := hf7 0 rfl
              have t1 : a'.tmps.getD 1 undef = us0 1 := hf7 1 rfl
              have t2 : a'.tmps.getD 2 undef = .slice (some ad) n cap := hf7 2 rfl
              have t3 : a'.tmps.getD 3 undef = us0 3 := hf7 3 rfl
              have t4 : a'.tmps.getD 4 undef = us0 4 := hf7 4 rfl
              have t5 : a'.tmps.getD 5 undef = us0 5 := hf7 5 rfl
              have t7 : a'.tmps.getD 7 undef = us0 7 := hf7 7 rfl
              have t8 : a'.tmps.getD 8 undef = us0 8 := hf7 8 rfl
              have t9 : a'.tmps.getD 9 undef = .pointer (some ⟨g9, 0, none⟩) := hf7 9 rfl
              have t10 : a'.tmps.getD 10 undef = .int .i64 (j : Int) := hf7 10 rfl
              have t11 : a'.tmps.getD 11 undef = us0 11 := hf7 11 rfl
              have t12 : a'.tmps.getD 12 undef = us0 12 := hf7 12 rfl
              have t13 : a'.tmps.getD 13 undef = us0 13 := hf7 13 rfl
              have t14 : a'.tmps.getD 14 undef = us0 14 := hf7 14 rfl
              have t15 : a'.tmps.getD 15 undef = us0 15 := hf7 15 rfl
              have t16 : a'.tmps.getD 16 undef = us0 16 := hf7 16 rfl
              have t17 : a'.tmps.getD 17 undef = us0 17 := hf7 17 rfl
              have t18 : a'.tmps.getD 18 undef = us0 18 := hf7 18 rfl
              have t19 : a'.tmps.getD 19 undef = us0 19 := hf7 19 rfl
              have t20 : a'.tmps.getD 20 undef = us0 20 := hf7 20 rfl
              have t21 : a'.tmps.getD 21 undef = us0 21 := hf7 21 rfl
              have t22 : a'.tmps.getD 22 undef = us0 22 := hf7 22 rfl
              have t23 : a'.tmps.getD 23 undef = us0 23 := hf7 23 rfl
              have t24 : a'.tmps.getD 24 undef = us0 24 := hf7 24 rfl
              have t25 : a'.tmps.getD 25 undef = us0 25 := hf7 25 rfl
              have t26 : a'.tmps.getD 26 undef = us0 26 := hf7 26 rfl
              have t27 : a'.tmps.getD 27 undef = us0 27 := hf7 27 rfl
              have t28 : a'.tmps.getD 28 undef = us0 28 := hf7 28 rfl
              have t29 : a'.tmps.getD 29 undef = us0 29 := hf7 29 rfl
              have t30 : a'.tmps.getD 30 undef = us0 30 := hf7 30 rfl
              have t31 : a'.tmps.getD 31 undef = us0 31 := hf7 31 rfl
              have t32 : a'.tmps.getD 32 undef = us0 32 := hf7 32 rfl
              have t33 : a'.tmps.getD 33 undef = us0 33 := hf7 33 rfl
              have t34 : a'.tmps.getD 34 undef = us0 34 := hf7 34 rfl
              have t35 : a'.tmps.getD 35 undef = us0 35 := hf7 35 rfl
              have t36 : a'.tmps.getD 36 undef = us0 36 := hf7 36 rfl
              have t37 : a'.tmps.getD 37 undef = us0 37 := hf7 37 rfl
              have t38 : a'.tmps.getD 38 undef = us0 38 := hf7 38 rfl
              have t39 : a'.tmps.getD 39 undef = us0 39 := hf7 39 rfl
              have t40 : a'.tmps.getD 40 undef = us0 40 := hf7 40 rfl
              have t41 : a'.tmps.getD 41 undef = us0 41 := hf7 41 rfl
              have t42 : a'.tmps.getD 42 undef = us0 42 := hf7 42 rfl
              have t43 : a'.tmps.getD 43 undef = us0 43 := hf7 43 rfl
              have t44 : a'.tmps.getD 44 undef = us0 44 := hf7 44 rfl
              have t45 : a'.tmps.getD 45 undef = us0 45 := hf7 45 rfl
              have t46 : a'.tmps.getD 46 undef = us0 46 := hf7 46 rfl
              have t47 : a'.tmps.getD 47 undef = us0 47 := hf7 47 rfl
              have t48 : a'.tmps.getD 48 undef = .agg G.none.cells := hf7 48 rfl
              obtain ⟨b, hb65, hbo, hbe⟩ : ∃ b : G, a'.tmps.getD 65 undef = .agg b.cells ∧ b.Ok ∧ b.Eqv (h.add Y) := hf7 65 rfl
              obtain ⟨us, hus, ha'⟩ := act_open 85 a' hs7 hd7
              rw [← hus] at t0 t1 t2 t3 t4 t5 t7 t8 t9 t10 t11 t12 t13 t14 t15 t16 t17 t18 t19 t20 t21 t22 t23 t24 t25 t26 t27 t28 t29 t30 t31 t32 t33 t34 t35 t36 t37 t38 t39 t40 t41 t42 t43 t44 t45 t46 t47 t48 hb65
              have el : ((List.range 85).map us).toArray = #[us 0, us 1, us 2, us 3, us 4, us 5, us 6, us 7, us 8, us 9, us 10, us 11, us 12, us 13, us 14, us 15, us 16, us 17, us 18, us 19, us 20, us 21, us 22, us 23, us 24, us 25, us 26, us 27, us 28, us 29, us 30, us 31, us 32, us 33, us 34, us 35, us 36, us 37, us 38, us 39, us 40, us 41, us 42, us 43, us 44, us 45, us 46, us 47, us 48, us 49, us 50, us 51, us 52, us 53, us 54, us 55, us 56, us 57, us 58, us 59, us 60, us 61, us 62, us 63, us 64, us 65, us 66, us 67, us 68, us 69, us 70, us 71, us 72, us 73, us 74, us 75, us 76, us 77, us 78, us 79, us 80, us 81, us 82, us 83, us 84] := rfl
              rw [el] at ha'
              subst ha'
              rw [t0, t1, t2, t3, t4, t5, t7, t8, t9, t10, t11, t12, t13, t14, t15, t16, t17, t18, t19, t20, t21, t22, t23, t24, t25, t26, t27, t28, t29, t30, t31, t32, t33, t34, t35, t36, t37, t38, t39, t40, t41, t42, t43, t44, t45, t46, t47, t48, hb65]
              clear hus t0 t1 t2 t3 t4 t5 t7 t8 t9 t10 t11 t12 t13 t14 t15 t16 t17 t18 t19 t20 t21 t22 t23 t24 t25 t26 t27 t28 t29 t30 t31 t32 t33 t34 t35 t36 t37 t38 t39 t40 t41 t42 t43 t44 t45 t46 t47 t48 hb65 el hf7 hs7 hd7 hK
              have HRan := Lib.hid (ran_step HA.out (by omega) HYb.out hbo hbe)
              have HK7 := Lib.hid hW7.1
              have HB7 := Lib.hid hW7.2
              clear hbo hbe hW7
              refine wpList_store_row rfl 27 (.tmp 9) (.tmp 65) rfl g9 b.cells rfl rfl 27 _ HK7.out (gcells_info _) rfl (gcells_one _) ?_
              refine wpnil_cut (fun W => GBlk W g9 b ∧ Below w.heap.size w W) ⟨Blk.row HK7.out _, below_setRow HB7.out _ _ HG9.out⟩ ?_
              rintro W8 ⟨h1, h2⟩
              have HK8 := Lib.hid h1
              have HB8 := Lib.hid h2
              have hc1 : W8.cell? ⟨g9, 1, none⟩ = some (.float .f64 b.m) := by rw [Blk.cell h1]; rfl
              have hc2 : W8.cell? ⟨g9, 2, none⟩ = some (.float .f64 b.s) := by rw [Blk.cell h1]; rfl
              have hc3 : W8.cell? ⟨g9, 3, none⟩ = some (.float .f64 b.lo) := by rw [Blk.cell h1]; rfl
              have hc4 : W8.cell? ⟨g9, 4, none⟩ = some (.float .f64 b.hi) := by rw [Blk.cell h1]; rfl
              have HSound := Lib.hid (HRan.out.2.2.2 (by omega))
              have hq3 := sum_test HSound.out.s
              clear h1 h2 HK7 HB7 HK HA HB
              go_wp2_with fail
              refine upon_fop .sub rfl _ _ _ _ ?_
              intro r1 k1 hr1 hrk1
              have hq1 := low_test HSound.out.m HSound.out.lo HSound.out.low hrk1
              clear hr1 hrk1
              go_wp2_with fail
              refine upon_fop .add rfl _ _ _ _ ?_
              intro r2 k2 hr2 hrk2
              have hq2 := high_test HSound.out.hi HSound.out.high hrk2
              clear hr2 hrk2
              go_wp2
              go_roundw
              case rel => exact ⟨j + 1, b, by omega, by omega, by go_num, HK8.out, HRan.out, below_drewN HB8.out _⟩
              case measure => simp [intOf]; omega
          · have hout : n ≤ j ∨ (j < n ∧ 200 ≤ j) := by omega
            obtain ⟨wq, rfl⟩ : ∃ wq : World, wq = wr := ⟨_, rfl⟩
            clear hlt hjn hj2 HS
            rcases hout with ho | ⟨ho1, ho2⟩
            · go_wp2
              go_ret
              exact ⟨rfl, HB.out⟩
            · go_wp2
              go_ret
              exact ⟨rfl, HB.out⟩
      · have hpos : decide (0 < i) = true := by simp; omega
        obtain ⟨k1, k2, k3, k4, k5, k6⟩ := HA.out.2.2.2 (by omega)
        obtain ⟨z1, z2⟩ := spread_zero (a := g) (by rw [HA.out.2.1]; omega) (by rw [HA.out.2.1]; omega) k3 k4
        have hc0 : wo.cell? ⟨g7, 0, none⟩ = some (.int .u64 (g.n : Int)) := by rw [Blk.cell HK.out]; rfl
        have hc1 : wo.cell? ⟨g7, 1, none⟩ = some (.float .f64 g.m) := by rw [Blk.cell HK.out]; rfl
        have hc2 : wo.cell? ⟨g7, 2, none⟩ = some (.float .f64 g.s) := by rw [Blk.cell HK.out]; rfl
        have hc3' : wo.cell? ⟨g7, 3, none⟩ = some (.float .f64 g.lo) := by rw [Blk.cell HK.out]; rfl
        have hc4' : wo.cell? ⟨g7, 4, none⟩ = some (.float .f64 g.hi) := by rw [Blk.cell HK.out]; rfl
        have hq1 := neq_test k1.m.1 HBd.out.1 k2
        have hq3 := neq_test k1.lo.1 k1.hi.1 (show ky g.lo = ky g.hi by rw [ky_of k5, ky_of k6])
        have Z1 := Lib.hid z1
        have Z2 := Lib.hid z2
        clear hi0 k1 k2 k3 k4 k5 k6 z1 z2
        go_wp2_with fail
        refine (gspread_any g _ HA.out.1).mono ?_
        rintro e wS ⟨r, rfl, hr, hrk, hbS⟩
        have hq2 := neq_test (x := r) (y := 0) (by rw [hrk]; exact Z2.out) (by decide) (by rw [ky_of hrk, Z1.out]; decide)
        have HKs := HK.out.keep hbS
        have hc3 : wS.cell? ⟨g7, 3, none⟩ = some (.float .f64 g.lo) := by rw [Blk.cell HKs]; rfl
        have hc4 : wS.cell? ⟨g7, 4, none⟩ = some (.float .f64 g.hi) := by rw [Blk.cell HKs]; rfl
        have HBs := Lib.hid (HB.out.trans (hbS.mono HB.out.size))
        clear hr hrk hbS HKs hc0 hc1 hc2 hc3' hc4' hq1
        go_upto_region 11 with fail
        refine world_cut (fun W => Below w.heap.size w W) HBs.out ?_
        clear hpos HK HA HB HG7 hcv hq3 hq2 hc3 hc4 HBs Z1 Z2
        rintro W4 hb4
        have HB4 := Lib.hid hb4
        clear hb4
        refine frame_cut 85 rfl rfl ?_
        intro us0 hus
        have f2 : us0 2 = .slice a n cap := hus 2
        clear hus
        have el : ((List.range 85).map us0).toArray = #[us0 0, us0 1, us0 2, us0 3, us0 4, us0 5, us0 6, us0 7, us0 8, us0 9, us0 10, us0 11, us0 12, us0 13, us0 14, us0 15, us0 16, us0 17, us0 18, us0 19, us0 20, us0 21, us0 22, us0 23, us0 24, us0 25, us0 26, us0 27, us0 28, us0 29, us0 30, us0 31, us0 32, us0 33, us0 34, us0 35, us0 36, us0 37, us0 38, us0 39, us0 40, us0 41, us0 42, us0 43, us0 44, us0 45, us0 46, us0 47, us0 48, us0 49, us0 50, us0 51, us0 52, us0 53, us0 54, us0 55, us0 56, us0 57, us0 58, us0 59, us0 60, us0 61, us0 62, us0 63, us0 64, us0 65, us0 66, us0 67, us0 68, us0 69, us0 70, us0 71, us0 72, us0 73, us0 74, us0 75, us0 76, us0 77, us0 78, us0 79, us0 80, us0 81, us0 82, us0 83, us0 84] := rfl
        rw [el, f2]
        clear el f2
        go_wp2_with fail
        refine (gnew_any _).mono ?_
        rintro e w5 ⟨rfl, hb5⟩
        have HB5 := Lib.hid (HB4.out.trans (hb5.mono HB4.out.size))
        clear hb5
        go_upto_region 12 with (refine wpList_store_row rfl 27 (.tmp 9) (.tmp 48) rfl w5.heap.size G.none.cells rfl rfl 27 _ (heap_alloc_new w5 _) (gcells_info _) rfl (gcells_one _) ?_)
        refine world_cut (fun W => GBlk W w5.heap.size G.none ∧ Below w.heap.size w W) ⟨Blk.row (Blk.new w5 _ _) _, below_setRow (HB5.out.alloc HB5.out.size _) _ _ HB5.out.size⟩ ?_
        have hg9w := HB5.out.size
        obtain ⟨g9, hg9⟩ : ∃ g, g = w5.heap.size := ⟨_, rfl⟩
        rw [← hg9] at hg9w ⊢
        have HG9 := Lib.hid hg9w
        clear hg9w hg9 HB5 HB4
        rintro W6 ⟨h1, h2⟩
        have HK6 := Lib.hid h1
        have HB6 := Lib.hid h2
        clear h1 h2
        go_wp2
        go_loopw [10] (fun s10 wr => ∃ (j : Nat) (h : G), j ≤ n ∧ j ≤ 200 ∧ s10 = .int .i64 (j : Int) ∧ GBlk wr g9 h ∧ Ran j h ∧ Below w.heap.size w wr) (fun s10 _ => n - (intOf s10).toNat)
        case atStart => exact ⟨0, G.none, by omega, by omega, rfl, HK6.out, ran_none, HB6.out⟩
        case round =>
          obtain ⟨j, h, hjn, hj2, rfl, hkk, hal, hbel⟩ := hrel
          have HK := Lib.hid hkk
          have HA := Lib.hid hal
          have HB := Lib.hid hbel
          clear hkk hal hbel HK6 HB6
          by_cases hlt : j < n ∧ j < 200
          · obtain ⟨hlt, hlt2⟩ := hlt
            obtain ⟨ad, y, rfl, hcell, hy1, hy2⟩ := HS.out j hlt
            obtain ⟨Y, hY⟩ : ∃ Y, Y = floatOfInt .f64 y := ⟨_, rfl⟩
            have HYb := Lib.hid (show Bd Y by rw [hY]; exact int_bd y (by omega))
            have HYlt := Lib.hid (show Y < 18446744073709551616 by
              rw [hY]
              have := floatOfInt_wf .f64 y
              simpa [Lit.wf] using this)
            have HCv := Lib.hid (show ∀ W, (convert 53 25 (.int .i16 y)).run Try.prog W = .ok (.float .f64 Y) W from fun W => by
              rw [hY]
              exact run_convert_int_float W _ _ _ _ _ (by kernel_rfl) Try.underlying25)
            have HCell := Lib.hid hcell
            have HBl := Lib.hid (World.block_lt_of_cell? w _ hcell)
            have hK : ∀ W W' : World, (GBlk W g9 h ∧ Below w.heap.size w W) → Below W.heap.size W W' → (GBlk W' g9 h ∧ Below w.heap.size w W') := fun W W' hW hb => ⟨hW.1.keep hb, hW.2.trans (hb.mono hW.2.size)⟩
            clear hcell hy1 hy2 hY
            go_upto_region 15 with fail
            refine region_tail_by 7 _ [(59, .is (.agg h.cells)), (60, .is (.slice (some ad) n cap)), (61, .is (.int .i64 (j : Int))), (62, .is (.pointer (some (ad.add j)))), (63, .is (.int .i16 y)), (64, .is (.float .f64 Y)), (65, .sat (fun v _ => ∃ b : G, v = .agg b.cells ∧ b.Ok ∧ b.Eqv (h.add Y)) (fun _ _ _ h _ => h))] [0, 1, 2, 3, 4, 5, 7, 8, 9, 10, 11, 12, 13, 14, 15, 16, 17, 18, 19, 20, 21, 22, 23, 24, 25, 26, 27, 28, 29, 30, 31, 32, 33, 34, 35, 36, 37, 38, 39, 40, 41, 42, 43, 44, 45, 46, 47, 48, 65] (fun W => GBlk W g9 h ∧ Below w.heap.size w W) (by kernel_rfl) (by kernel_rfl) (by kernel_rfl) (by kernel_rfl) (by kernel_rfl) rfl rfl rfl rfl (by kernel_rfl) (hK _ _ ⟨HK.out, HB.out⟩ (Below.refl _ _).drew) ?_ ?_
            · refine ⟨?c0, ?c1, ?c2, ?c3, ?c4, ?c5, ?c6, trivial⟩
              case c0 => exact ask_load (guard_none rfl) _ (.tmp 9) (.pointer (some ⟨g9, 0, none⟩)) (.agg h.cells) rfl rfl (by intro k hk; cases hk; rfl) (fun W hW => hW.1.loads)
              case c1 => exact ask_copy (guard_none rfl) (.tmp 2) (.inl rfl) (by intro k hk; cases hk; rfl)
              case c2 => exact ask_copy (guard_none rfl) (.tmp 10) (.inl rfl) (by intro k hk; cases hk; rfl)
              case c3 => exact ask_exec (guard_none rfl) (.pointer (some (ad.add j))) rfl rfl (by intro k hk; cases hk; rfl) (fun W hW => by show ((Instr.indexAt _ _ _ >>= fun v => pure (.value v) : Sem Next)).run _ _ = _; rw [Sem.run_bind]; show ((Instr.indexAt 51 (.slice (some ad) n cap) (.int .i64 (j : Int))).run Try.prog W).andThen _ = _; rw [index_short ad n cap j hlt W]; rfl)
              case c4 => exact ask_load (guard_none rfl) _ (.tmp 62) (.pointer (some (ad.add j))) (.int .i16 y) rfl rfl (by intro k hk; cases hk; rfl) (fun W hW => load_short W _ _ (by rw [hW.2.cell HBl.out]; exact HCell.out))
              case c5 => exact ask_read (guard_none rfl) (.tmp 63) (.int .i16 y) (.float .f64 Y) rfl (by simp [Op.operands]) (by intro k hk; cases hk; rfl) (fun x W hW e => by simp only [execOp, e, Sem.run_bind, HCv.out W, Result.andThen_ok, Sem.run_pure])
              case c6 => exact ask_call hK (guard_none rfl) _ _ _ #[.agg h.cells, .float .f64 Y] (.sat (fun v _ => ∃ b : G, v = .agg b.cells ∧ b.Ok ∧ b.Eqv (h.add Y)) (fun _ _ _ h _ => h)) rfl (by kernel_rfl) rfl rfl (by intro k hk; cases hk; rfl) (fun W hW => (add_g h Y W HA.out.1 HYlt.out).mono fun e w' ⟨b, q1, q2, q3, q4⟩ => ⟨_, q1, ⟨b, rfl, q2, q3⟩, q4⟩)
            · intro a' W7 hW7 hd7 hs7 hf7
              have t0 : a'.tmps.getD 0 undef = us0 0 := hf7 0 rfl
              have t1 : a'.tmps.getD 1 undef = us0 1 := hf7 1 rfl
              have t2 : a'.tmps.getD 2 undef = .slice (some ad) n cap := hf7 2 rfl
              have t3 : a'.tmps.getD 3 undef = us0 3 := hf7 3 rfl
              have t4 : a'.tmps.getD 4 undef = us0 4 := hf7 4 rfl
              have t5 : a'.tmps.getD 5 undef = us0 5 := hf7 5 rfl
              have t7 : a'.tmps.getD 7 undef = us0 7 := hf7 7 rfl
              have t8 : a'.tmps.getD 8 undef = us0 8 := hf7 8 rfl
              have t9 : a'.tmps.getD 9 undef = .pointer (some ⟨g9, 0, none⟩) := hf7 9 rfl
              have t10 : a'.tmps.getD 10 undef = .int .i64 (j : Int) := hf7 10 rfl
              have t11 : a'.tmps.getD 11 undef = us0 11 := hf7 11 rfl
              have t12 : a'.tmps.getD 12 undef = us0 12 := hf7 12 rfl
              have t13 : a'.tmps.getD 13 undef = us0 13 := hf7 13 rfl
              have t14 : a'.tmps.getD 14 undef = us0 14 := hf7 14 rfl
              have t15 : a'.tmps.getD 15 undef = us0 15 := hf7 15 rfl
              have t16 : a'.tmps.getD 16 undef = us0 16 := hf7 16 rfl
              have t17 : a'.tmps.getD 17 undef = us0 17 := hf7 17 rfl
              have t18 : a'.tmps.getD 18 undef = us0 18 := hf7 18 rfl
              have t19 : a'.tmps.getD 19 undef = us0 19 := hf7 19 rfl
              have t20 : a'.tmps.getD 20 undef = us0 20 := hf7 20 rfl
              have t21 : a'.tmps.getD 21 undef = us0 21 := hf7 21 rfl
              have t22 : a'.tmps.getD 22 undef = us0 22 := hf7 22 rfl
              have t23 : a'.tmps.getD 23 undef = us0 23 := hf7 23 rfl
              have t24 : a'.tmps.getD 24 undef = us0 24 := hf7 24 rfl
              have t25 : a'.tmps.getD 25 undef = us0 25 := hf7 25 rfl
              have t26 : a'.tmps.getD 26 undef = us0 26 := hf7 26 rfl
              have t27 : a'.tmps.getD 27 undef = us0 27 := hf7 27 rfl
              have t28 : a'.tmps.getD 28 undef = us0 28 := hf7 28 rfl
              have t29 : a'.tmps.getD 29 undef = us0 29 := hf7 29 rfl
              have t30 : a'.tmps.getD 30 undef = us0 30 := hf7 30 rfl
              have t31 : a'.tmps.getD 31 undef = us0 31 := hf7 31 rfl
              have t32 : a'.tmps.getD 32 undef = us0 32 := hf7 32 rfl
              have t33 : a'.tmps.getD 33 undef = us0 33 := hf7 33 rfl
              have t34 : a'.tmps.getD 34 undef = us0 34 := hf7 34 rfl
              have t35 : a'.tmps.getD 35 undef = us0 35 := hf7 35 rfl
              have t36 : a'.tmps.getD 36 undef = us0 36 := hf7 36 rfl
              have t37 : a'.tmps.getD 37 undef = us0 37 := hf7 37 rfl
              have t38 : a'.tmps.getD 38 undef = us0 38 := hf7 38 rfl
              have t39 : a'.tmps.getD 39 undef = us0 39 := hf7 39 rfl
              have t40 : a'.tmps.getD 40 undef = us0 40 := hf7 40 rfl
              have t41 : a'.tmps.getD 41 undef = us0 41 := hf7 41 rfl
              have t42 : a'.tmps.getD 42 undef = us0 42 := hf7 42 rfl
              have t43 : a'.tmps.getD 43 undef = us0 43 := hf7 43 rfl
              have t44 : a'.tmps.getD 44 undef = us0 44 := hf7 44 rfl
              have t45 : a'.tmps.getD 45 undef = us0 45 := hf7 45 rfl
              have t46 : a'.tmps.getD 46 undef = us0 46 := hf7 46 rfl
              have t47 : a'.tmps.getD 47 undef = us0 47 := hf7 47 rfl
              have t48 : a'.tmps.getD 48 undef = .agg G.none.cells := hf7 48 rfl
              obtain ⟨b, hb65, hbo, hbe⟩ : ∃ b : G, a'.tmps.getD 65 undef = .agg b.cells ∧ b.Ok ∧ b.Eqv (h.add Y) := hf7 65 rfl
              obtain ⟨us, hus, ha'⟩ := act_open 85 a' hs7 hd7
              rw [← hus] at t0 t1 t2 t3 t4 t5 t7 t8 t9 t10 t11 t12 t13 t14 t15 t16 t17 t18 t19 t20 t21 t22 t23 t24 t25 t26 t27 t28 t29 t30 t31 t32 t33 t34 t35 t36 t37 t38 t39 t40 t41 t42 t43 t44 t45 t46 t47 t48 hb65
              have el : ((List.range 85).map us).toArray = #[us 0, us 1, us 2, us 3, us 4, us 5, us 6, us 7, us 8, us 9, us 10, us 11, us 12, us 13, us 14, us 15, us 16, us 17, us 18, us 19, us 20, us 21, us 22, us 23, us 24, us 25, us 26, us 27, us 28, us 29, us 30, us 31, us 32, us 33, us 34, us 35, us 36, us 37, us 38, us 39, us 40, us 41, us 42, us 43, us 44, us 45, us 46, us 47, us 48, us 49, us 50, us 51, us 52, us 53, us 54, us 55, us 56, us 57, us 58, us 59, us 60, us 61, us 62, us 63, us 64, us 65, us 66, us 67, us 68, us 69, us 70, us 71, us 72, us 73, us 74, us 75, us 76, us 77, us 78, us 79, us 80, us 81, us 82, us 83, us 84] := rfl
              rw [el] at ha'
              subst ha'
              rw [t0, t1, t2, t3, t4, t5, t7, t8, t9, t10, t11, t12, t13, t14, t15, t16, t17, t18, t19, t20, t21, t22, t23, t24, t25, t26, t27, t28, t29, t30, t31, t32, t33, t34, t35, t36, t37, t38, t39, t40, t41, t42, t43, t44, t45, t46, t47, t48, hb65]
              clear hus t0 t1 t2 t3 t4 t5 t7 t8 t9 t10 t11 t12 t13 t14 t15 t16 t17 t18 t19 t20 t21 t22 t23 t24 t25 t26 t27 t28 t29 t30 t31 t32 t33 t34 t35 t36 t37 t38 t39 t40 t41 t42 t43 t44 t45 t46 t47 t48 hb65 el hf7 hs7 hd7 hK
              have HRan := Lib.hid (ran_step HA.out (by omega) HYb.out hbo hbe)
              have HK7 := Lib.hid hW7.1
              have HB7 := Lib.hid hW7.2
              clear hbo hbe hW7
              refine wpList_store_row rfl 27 (.tmp 9) (.tmp 65) rfl g9 b.cells rfl rfl 27 _ HK7.out (gcells_info _) rfl (gcells_one _) ?_
              refine wpnil_cut (fun W => GBlk W g9 b ∧ Below w.heap.size w W) ⟨Blk.row HK7.out _, below_setRow HB7.out _ _ HG9.out⟩ ?_
              rintro W8 ⟨h1, h2⟩
              have HK8 := Lib.hid h1
              have HB8 := Lib.hid h2
              have hc1 : W8.cell? ⟨g9, 1, none⟩ = some (.float .f64 b.m) := by rw [Blk.cell h1]; rfl
              have hc2 : W8.cell? ⟨g9, 2, none⟩ = some (.float .f64 b.s) := by rw [Blk.cell h1]; rfl
              have hc3 : W8.cell? ⟨g9, 3, none⟩ = some (.float .f64 b.lo) := by rw [Blk.cell h1]; rfl
              have hc4 : W8.cell? ⟨g9, 4, none⟩ = some (.float .f64 b.hi) := by rw [Blk.cell h1]; rfl
              have HSound := Lib.hid (HRan.out.2.2.2 (by omega))
              have hq3 := sum_test HSound.out.s
              clear h1 h2 HK7 HB7 HK HA HB
              go_wp2_with fail
              refine upon_fop .sub rfl _ _ _ _ ?_
              intro r1 k1 hr1 hrk1
              have hq1 := low_test HSound.out.m HSound.out.lo HSound.out.low hrk1
              clear hr1 hrk1
              go_wp2_with fail
              refine upon_fop .add rfl _ _ _ _ ?_
              intro r2 k2 hr2 hrk2
              have hq2 := high_test HSound.out.hi HSound.out.high hrk2
              clear hr2 hrk2
              go_wp2
              go_roundw
              case rel => exact ⟨j + 1, b, by omega, by omega, by go_num, HK8.out, HRan.out, below_drewN HB8.out _⟩
              case measure => simp [intOf]; omega
          · have hout : n ≤ j ∨ (j < n ∧ 200 ≤ j) := by omega
            obtain ⟨wq, rfl⟩ : ∃ wq : World, wq = wr := ⟨_, rfl⟩
            clear hlt hjn hj2 HS
            rcases hout with ho | ⟨ho1, ho2⟩
            · go_wp2
              go_ret
              exact ⟨rfl, HB.out⟩
            · go_wp2
              go_ret
              exact ⟨rfl, HB.out⟩

theorem alike_all (w : World) (x : Int) (wx : (Lit.int .i32 x).wf = true) (z : Int) (_wz : (Lit.int .i64 z).wf = true) (a : Option Addr) (n cap : Nat) (l : List Int) (hz : IsRow .i16 w a n cap l) (_sz : cap * 2 ≤ 140737488351232) :
    Calls Try.prog 6 #[.int .i32 x, .int .i64 z, .slice a n cap] w fun e w' => e = .returned (.bool true) ∧ Below w.heap.size w w' := by
  have hx := bounds_i32 wx
  refine alike_walk x z (by omega) a n cap w fun i hi => ?_
  rcases hz with ⟨-, rfl, -, -⟩ | ⟨ad, rfl, hl, hm, hzl, hc, hw⟩
  · omega
  · have hi2 : i < l.length := by omega
    have hb := bounds_i16 (hw l[i] (List.getElem_mem hi2))
    have h := hc i hi2
    rw [List.getD, List.getElem?_eq_getElem hi2, Option.getD_some] at h
    exact ⟨ad, l[i], rfl, h, by omega, by omega⟩

end Go.Proofs.Ytoabhnbifbdknaa
