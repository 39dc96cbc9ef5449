/- The law's open. -/
import Derived.Test.YthlnhphmbjkjkaaCellRset
namespace Go.Proofs.Ythlnhphmbjkjkaa
open Go.RowKit Go.Maps DiskMath CellMath BinMath Reg

theorem eq_cnil (a : Addr) (s t : Operand) (W : World) : (do eqGuard .eql 32 s t (.pointer (some a)) (.pointer none); binOp .eql 32 (.pointer (some a)) (.pointer none) : Sem Value).run Try.prog W = .ok (.bool false) W := by
  have u := Try.underlying32
  simp [eqGuard, go_sem]

theorem may_short {q : Nm} {F : Fs} {h : Hd} (hm : May q F h) : ∀ t, getA (nowN q) F = some t → t.length ≤ 140737488351232 := fun t ht => by
  have := hm.short _ (getA_mem ht)
  simp only at this
  omega

set_option maxHeartbeats 4000000 in
set_option maxRecDepth 100000 in
theorem ropen_any {w0 W : World} {B y d c : Nat} {p : Option Addr} {s : St} {V : RV} {hh : Hd} {T : Nat → Prop} (hr : RunD w0 B y d c p s V W T) (hi : Idle qV s hh) (hf : hh = V.has ∨ hh = V.may) (ka : Option Addr) (nk ck : Nat) (torn : Int) :
    Calls Try.prog 10 #[.pointer (some ⟨B, 0, none⟩), .slice ka nk ck, .int .i64 torn] W fun e W' => e = .returned (.bool true) ∧ (∃ x T', Run w0 B y d c x s hh false ⟨hh, hh, false⟩ W' T') ∧ OnlyS (fun k => k = B ∨ k = y) W W' := by
  have hop := Open_any (q := qV) qV_wn hr.disk (may_short hi.may)
  have HOp := Lib.hid hop
  have HR := Lib.hid hr
  have HI := Lib.hid hi
  have HF := Lib.hid hf
  clear hop hr hi hf
  go_enter Try.func10, Try.ntmps10
  go_wp2_with fail
  go_loopw [7] (fun s7 wr => s7 = .int .i64 0 ∧ Hid (wr = W)) (fun s7 _ => 8 - (intOf s7).toNat)
  case atStart => exact ⟨rfl, Lib.hid rfl⟩
  case round =>
    obtain ⟨rfl, HE⟩ := hrel
    obtain rfl := HE.out
    have c0 : wr.cell? ⟨B, 0, none⟩ = some (dp d) := by rw [HR.out.run.cell]; rfl
    go_wp2_with fail
    refine HOp.out.mono ?_
    rintro e w4 ⟨hb4, h | ⟨-, x, rfl, hx, hc4⟩⟩
    · exact absurd h.1 (by rw [HI.out.off]; simp)
    rw [HI.out.may.has] at hc4
    have HR4 := Lib.hid (HR.out.below hb4)
    have HC4 := Lib.hid hc4
    have HB4 := Lib.hid HR4.out.run
    have HX := Lib.hid hx
    have HBw := Lib.hid hb4
    have hG4 : ∀ W1 W' : World, Below w4.heap.size w4 W1 → Below W1.heap.size W1 W' → Below w4.heap.size w4 W' := fun W1 W' h h' => h.trans (h'.mono h.size)
    clear hb4 hx hc4 c0 HOp
    go_upto_region 9 with fail
    refine region_by [(37, .is (.int .i64 0)), (38, .is (.bool false)), (39, .is (.bool false)), (40, .is (.pointer (some ⟨x, 0, none⟩))), (41, .is (.bool false)), (42, .is (.bool false)), (43, .is (.bool false)), (44, .is (.pointer (some ⟨B, 0, none⟩))), (45, .is (.pointer (some ⟨B, 0, none⟩))), (46, .is (.pointer (some ⟨B, 2, none⟩))), (47, .is (.pointer (some ⟨y, 0, none⟩))), (48, .is (.pointer (some ⟨x, 0, none⟩))), (49, .is (hv hh)), (50, .is (.bool true)), (51, .is (.bool false)), (52, .is (.bool false))] [0, 8, 52] (fun W => Below w4.heap.size w4 W) (by kernel_rfl) (by kernel_rfl) (by kernel_rfl) (by kernel_rfl) (by kernel_rfl) ((Below.refl _ _).drew) ?_ ?_
    · refine ⟨?c0, ?c1, ?c2, ?c3, ?c4, ?c5, ?c6, ?c7, ?c8, ?c9, ?c10, ?c11, ?c12, ?c13, ?c14, ?c15, trivial⟩
      case c0 => exact ask_copy (guard_none rfl) (.tmp 9) (.inl rfl) (by intro k hk; cases hk; rfl)
      case c1 => exact ask_exec (guard_none rfl) (.bool false) rfl rfl (by intro k hk; cases hk; rfl) (fun W hW => by kernel_rfl)
      case c2 => exact ask_copy (guard_none rfl) (.tmp 38) (.inl rfl) (by intro k hk; cases hk; rfl)
      case c3 => exact ask_copy (guard_some rfl rfl rfl) (.tmp 8) (.inl rfl) (by intro k hk; cases hk; rfl)
      case c4 => exact ask_bin (guard_some rfl rfl rfl) _ _ _ _ _ _ _ _ rfl rfl rfl (by intro k hk; cases hk; rfl) (fun W => eq_cnil _ _ _ W)
      case c5 => exact ask_pick (guard_none rfl) (.tmp 39) (.const (.bool true)) (.tmp 41) false rfl rfl (by intro k hk; cases hk; rfl)
      case c6 => exact ask_copy (guard_none rfl) (.tmp 42) (.inl rfl) (by intro k hk; cases hk; rfl)
      case c7 => exact ask_copy (guard_some rfl rfl rfl) (.tmp 0) (.inl rfl) (by intro k hk; cases hk; rfl)
      case c8 => exact ask_exec (guard_some rfl rfl rfl) (.pointer (some ⟨B, 0, none⟩)) rfl rfl (by intro k hk; cases hk; rfl) (fun W hW => by kernel_rfl)
      case c9 => exact ask_field (guard_some rfl rfl rfl) _ (.tmp 45) 2 (.pointer (some ⟨B, 0, none⟩)) (.pointer (some ⟨B, 2, none⟩)) rfl rfl (by intro k hk; cases hk; rfl) (fun W => by kernel_rfl)
      case c10 => exact ask_load (guard_some rfl rfl rfl) _ (.tmp 46) (.pointer (some ⟨B, 2, none⟩)) (.pointer (some ⟨y, 0, none⟩)) rfl rfl (by intro k hk; cases hk; rfl) (fun W hW => load_rp W _ _ (by rw [hW.cell (p := ⟨B, 2, none⟩) HB4.out.lt, HB4.out.cell]; rfl))
      case c11 => exact ask_copy (guard_some rfl rfl rfl) (.tmp 8) (.inl rfl) (by intro k hk; cases hk; rfl)
      case c12 => exact ask_call hG4 (guard_some rfl rfl rfl) _ _ _ #[.pointer (some ⟨x, 0, none⟩)] (.is (hv hh)) rfl (by kernel_rfl) rfl rfl (by intro k hk; cases hk; rfl) (fun W hW => (get_any (HC4.out.below hW)).mono fun e w' h => by obtain ⟨h1, h2⟩ := h; exact ⟨_, h1, rfl, h2⟩)
      case c13 => exact ask_call hG4 (guard_some rfl rfl rfl) _ _ _ #[.pointer (some ⟨y, 0, none⟩), hv hh] (.is (.bool true)) rfl (by kernel_rfl) rfl rfl (by intro k hk; cases hk; rfl) (fun W hW => (fits_any (HR4.out.below hW).ref HF.out).mono fun e w' h => by obtain ⟨h1, h2⟩ := h; exact ⟨_, h1, rfl, h2⟩)
      case c14 => exact ask_exec (guard_some rfl rfl rfl) (.bool false) rfl rfl (by intro k hk; cases hk; rfl) (fun W hW => by kernel_rfl)
      case c15 => exact ask_pick (guard_none rfl) (.tmp 43) (.const (.bool true)) (.tmp 51) false rfl rfl (by intro k hk; cases hk; rfl)
    · intro af W9 hW hd' hs' hf'
      have t0 : af.tmps.getD 0 undef = .pointer (some ⟨B, 0, none⟩) := hf' 0 rfl
      have t8 : af.tmps.getD 8 undef = .pointer (some ⟨x, 0, none⟩) := hf' 8 rfl
      have t52 : af.tmps.getD 52 undef = .bool false := hf' 52 rfl
      obtain ⟨us, hus, haf⟩ := act_open 64 af hs' hd'
      rw [← hus] at t0 t8 t52
      have el : ((List.range 64).map us).toArray = #[us 0, us 1, us 2, us 3, us 4, us 5, us 6, us 7, us 8, us 9, us 10, us 11, us 12, us 13, us 14, us 15, us 16, us 17, us 18, us 19, us 20, us 21, us 22, us 23, us 24, us 25, us 26, us 27, us 28, us 29, us 30, us 31, us 32, us 33, us 34, us 35, us 36, us 37, us 38, us 39, us 40, us 41, us 42, us 43, us 44, us 45, us 46, us 47, us 48, us 49, us 50, us 51, us 52, us 53, us 54, us 55, us 56, us 57, us 58, us 59, us 60, us 61, us 62, us 63] := rfl
      rw [el] at haf
      subst haf
      rw [t0, t8, t52]
      have HW9 := Lib.hid hW
      clear hus t0 t8 t52 el hf' hs' hd' hW hG4
      have HR9 := Lib.hid (HR4.out.below HW9.out)
      have HC9 := Lib.hid (HC4.out.below HW9.out)
      have ho5 : OnlyS (fun k => k = B ∨ k = y) wr (W9.setCell ⟨B, 1, none⟩ (.pointer (some ⟨x, 0, none⟩))) := only_put (OnlyS.of_below (HBw.out.trans (HW9.out.mono HBw.out.size)) fun k hk _ => hk) (.inl rfl) 1 _
      have HO5 := Lib.hid ho5
      have hnx : ¬ T x := fun h => by have := HR.out.disk.lt x h; have := HX.out; omega
      have hax : w0.heap.size ≤ x := Nat.le_trans HR.out.bel.size HX.out
      have HP := Lib.hid (HR9.out.put HC9.out hnx hax)
      have c1 : W9.cell? ⟨B, 1, none⟩ = some (.pointer p) := by rw [HR9.out.run.cell]; rfl
      have f1 : W9.frozen? ⟨B, 1, none⟩ = false := HR9.out.run.frozen 1
      clear hnx hax ho5
      go_upto_region 12 with fail
      obtain ⟨w5, hw5⟩ : ∃ w5, w5 = W9.setCell ⟨B, 1, none⟩ (.pointer (some ⟨x, 0, none⟩)) := ⟨_, rfl⟩
      rw [← hw5] at HP HO5 ⊢
      have HB5 := Lib.hid HP.out.base.run
      have hG5 : ∀ W1 W' : World, Below w5.heap.size w5 W1 → Below W1.heap.size W1 W' → Below w5.heap.size w5 W' := fun W1 W' h h' => h.trans (h'.mono h.size)
      clear hw5 c1 f1
      refine region_tails_by 6 [(57, .is (.pointer (some ⟨B, 0, none⟩))), (58, .is (.pointer (some ⟨B, 0, none⟩))), (59, .is (.pointer (some ⟨B, 2, none⟩))), (60, .is (.pointer (some ⟨y, 0, none⟩))), (61, .is (.pointer (some ⟨x, 0, none⟩))), (62, .is (hv hh))] [0, 60, 62] (fun W => Below w5.heap.size w5 W) (by kernel_rfl) (by kernel_rfl) (by kernel_rfl) (by kernel_rfl) (by kernel_rfl) (by decide) (by kernel_rfl) (by kernel_rfl) ((Below.refl _ _).drew) ?_ ?_
      · refine ⟨?c0, ?c1, ?c2, ?c3, ?c4, ?c5, trivial⟩
        case c0 => exact ask_copy (guard_none rfl) (.tmp 0) (.inl rfl) (by intro k hk; cases hk; rfl)
        case c1 => exact ask_exec (guard_none rfl) (.pointer (some ⟨B, 0, none⟩)) rfl rfl (by intro k hk; cases hk; rfl) (fun W hW => by kernel_rfl)
        case c2 => exact ask_field (guard_none rfl) _ (.tmp 58) 2 (.pointer (some ⟨B, 0, none⟩)) (.pointer (some ⟨B, 2, none⟩)) rfl rfl (by intro k hk; cases hk; rfl) (fun W => by kernel_rfl)
        case c3 => exact ask_load (guard_none rfl) _ (.tmp 59) (.pointer (some ⟨B, 2, none⟩)) (.pointer (some ⟨y, 0, none⟩)) rfl rfl (by intro k hk; cases hk; rfl) (fun W hW => load_rp W _ _ (by rw [hW.cell (p := ⟨B, 2, none⟩) HB5.out.lt, HB5.out.cell]; rfl))
        case c4 => exact ask_copy (guard_none rfl) (.tmp 8) (.inl rfl) (by intro k hk; cases hk; rfl)
        case c5 => exact ask_call hG5 (guard_none rfl) _ _ _ #[.pointer (some ⟨x, 0, none⟩)] (.is (hv hh)) rfl (by kernel_rfl) rfl rfl (by intro k hk; cases hk; rfl) (fun W hW => (get_any (HP.out.below hW).cell).mono fun e w' h => by obtain ⟨h1, h2⟩ := h; exact ⟨_, h1, rfl, h2⟩)
      · intro af W12 hW hd' hs' hf'
        have t0 : af.tmps.getD 0 undef = .pointer (some ⟨B, 0, none⟩) := hf' 0 rfl
        have t60 : af.tmps.getD 60 undef = .pointer (some ⟨y, 0, none⟩) := hf' 60 rfl
        have t62 : af.tmps.getD 62 undef = hv hh := hf' 62 rfl
        obtain ⟨us, hus, haf⟩ := act_open 64 af hs' hd'
        rw [← hus] at t0 t60 t62
        have el : ((List.range 64).map us).toArray = #[us 0, us 1, us 2, us 3, us 4, us 5, us 6, us 7, us 8, us 9, us 10, us 11, us 12, us 13, us 14, us 15, us 16, us 17, us 18, us 19, us 20, us 21, us 22, us 23, us 24, us 25, us 26, us 27, us 28, us 29, us 30, us 31, us 32, us 33, us 34, us 35, us 36, us 37, us 38, us 39, us 40, us 41, us 42, us 43, us 44, us 45, us 46, us 47, us 48, us 49, us 50, us 51, us 52, us 53, us 54, us 55, us 56, us 57, us 58, us 59, us 60, us 61, us 62, us 63] := rfl
        rw [el] at haf
        subst haf
        rw [t0, t60, t62]
        have HW12 := Lib.hid hW
        clear hus t0 t60 t62 el hf' hs' hd' hW hG5
        simp only [List.drop_succ_cons, List.drop_zero]
        have HR12 := Lib.hid (HP.out.below HW12.out)
        have HTk := Lib.hid (took_any (h := hh) HR12.out.base.ref)
        go_wp2_with fail
        refine HTk.out.mono ?_
        rintro e w13 ⟨rfl, hrn⟩
        have HR13 := Lib.hid (HR12.out.refd hrn)
        have ho13 : OnlyS (fun k => k = B ∨ k = y) wr w13 := (HO5.out.trans (OnlyS.of_below HW12.out fun k hk _ => hk)).trans (hrn.2.mono fun k _ h => .inr h)
        have HO13 := Lib.hid ho13
        clear hrn HTk ho13
        go_wp2
        go_ret
        exact ⟨rfl, ⟨x, _, HR13.out⟩, HO13.out⟩

set_option maxHeartbeats 1000000 in
set_option maxRecDepth 20000 in
theorem begin_any {w0 W : World} (hb : Below w0.heap.size w0 W) : Calls Try.prog 6 #[] W fun e W' => ∃ B y d x T, e = .returned (.pointer (some ⟨B, 0, none⟩)) ∧ Run w0 B y d 0 x (St.new 1073741824) (0, 0) false ⟨(0, 0), (0, 0), false⟩ W' T := by
  have HB0 := Lib.hid hb
  clear hb
  go_enter Try.func6, Try.ntmps6
  go_wp2_with fail
  refine (new_any W 1073741824).mono ?_
  rintro e w1 ⟨d, rfl, hd, hb1⟩
  have HB1 := Lib.hid hb1
  have HD := Lib.hid hd
  clear hb1 hd
  go_wp2_with fail
  obtain ⟨w3, hw3⟩ : ∃ w3, w3 = (w1.alloc (.cells (rC ⟨(0, 0), (0, 0), false⟩) 40)).alloc (.cells (runC d none w1.heap.size) 35) := ⟨_, rfl⟩
  have hb3 : Below w1.heap.size w1 w3 := by rw [hw3]; exact ((Below.refl _ w1).alloc (Nat.le_refl _) _).alloc (by simp) _
  have hs3 : w3.heap.size = w1.heap.size + 2 := by rw [hw3]; simp
  have hx3 : Blk w3 w1.heap.size 40 (rC ⟨(0, 0), (0, 0), false⟩) := by
    rw [hw3]
    unfold Blk
    rw [Below.heap_alloc _ _ _ (by simp)]
    exact heap_alloc_new w1 _
  have hB3 : Blk w3 (w1.heap.size + 1) 35 (runC d none w1.heap.size) := by
    rw [hw3]
    have := Blk.new (w1.alloc (.cells (rC ⟨(0, 0), (0, 0), false⟩) 40)) 35 (runC d none w1.heap.size)
    simpa using this
  have e3 : w3 = (w1.alloc (.cells #[.int .u64 0, .int .u64 0, .int .u64 0, .int .u64 0, .bool false] 40)).alloc (.cells #[dp d, .pointer none, .pointer (some ⟨w1.heap.size, 0, none⟩)] 35) := hw3
  rw [← e3]
  have c0 : w3.cell? ⟨w1.heap.size + 1, 0, none⟩ = some (dp d) := by rw [hB3.cell]; rfl
  have hrd : RunD w0 (w1.heap.size + 1) w1.heap.size d 0 none (St.new 1073741824) ⟨(0, 0), (0, 0), false⟩ w3 (fun k => W.heap.size ≤ k ∧ k < w1.heap.size) :=
    { disk := HD.out.below hb3
      aT := fun k hk => Nat.le_trans HB0.out.size hk.1
      nB := fun h => by omega
      ny := fun h => by omega
      ref := hx3
      run := hB3
      aB := by have := HB0.out.size; have := HB1.out.size; omega
      ay := Nat.le_trans HB0.out.size HB1.out.size
      bel := (HB0.out.trans (HB1.out.mono HB0.out.size)).trans (hb3.mono (Nat.le_trans HB0.out.size HB1.out.size)) }
  have HRD := Lib.hid hrd
  have hop := Open_any (q := qV) qV_wn hrd.disk (new_short _)
  have HOp := Lib.hid hop
  clear hw3 e3 hb3 hx3 hB3 hrd hop
  go_wp2_with fail
  refine HOp.out.mono ?_
  rintro e w4 ⟨hb4, h | ⟨-, x, rfl, hx, hc4⟩⟩
  · exact absurd h.1 (by decide)
  have hc : IsCell w4 x d qV (0, 0) false := hc4
  have HC := Lib.hid hc
  have HR4 := Lib.hid (HRD.out.below hb4)
  have HX := Lib.hid hx
  have HS3 := Lib.hid hs3
  clear hb4 hx hc4 hc hs3 HOp c0
  go_wp2_with fail
  refine (get_any HC.out).mono ?_
  rintro e w5 ⟨rfl, hb5⟩
  have HR5 := Lib.hid (HR4.out.below hb5)
  have HC5 := Lib.hid (HC.out.below hb5)
  have c1 : w5.cell? ⟨w1.heap.size + 1, 1, none⟩ = some (.pointer none) := by rw [HR5.out.run.cell]; rfl
  have f1 : w5.frozen? ⟨w1.heap.size + 1, 1, none⟩ = false := HR5.out.run.frozen 1
  have hfin := HR5.out.put HC5.out (fun h => by have := HX.out; have := HS3.out; omega) (by have := HX.out; have := HS3.out; have := HRD.out.ay; omega)
  have HFin := Lib.hid hfin
  clear hb5 hfin
  go_wp2
  go_ret
  exact ⟨_, _, _, _, _, rfl, HFin.out⟩
end Go.Proofs.Ythlnhphmbjkjkaa
