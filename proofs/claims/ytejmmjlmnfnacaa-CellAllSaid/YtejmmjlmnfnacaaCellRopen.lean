/- The law's open, begin; the disk's Crash and Fuse in a run. -/
import Derived.Test.YtejmmjlmnfnacaaCellRset
namespace Go.Proofs.Ytejmmjlmnfnacaa
open Go.RowKit Go.Maps DiskMath SwapMath CellMath BinMath Reg

section
variable {w0 W : World} {B y d c z x : Nat} {p : Option Addr} {s : St} {t : Tx} {o : Bool} {V : RV} {T U : Nat → Prop}

theorem run_crash (h : RunD w0 B y d c p s V W T) {ka : Option Addr} {nk ck : Nat} {ks : List Bool} (torn : Int) (hk : Bls W (.slice ka nk ck) ks) (hnk : ks.length = nk) (hnk2 : nk ≤ 9223372036854775807) :
    Calls Try.prog 12 #[dp d, .slice ka nk ck, .int .i64 torn] W fun e w' => e = .returned (.tuple #[]) ∧ ∃ T', RunD w0 B y d c p (s.crash ks torn) V w' T' :=
  (crash_any h.disk hk hnk hnk2).mono fun _ _ hh => ⟨hh.1, _, h.next hh.2⟩

theorem run_crash2 (h : RunD w0 B y d c p s V W T) {ka : Option Addr} {nk ck : Nat} {ks : List Bool} (torn : Int) (hk : Bls W (.slice ka nk ck) ks) (hnk : ks.length = nk) (hnk2 : nk ≤ 9223372036854775807) :
    Calls Try.prog 12 #[dp d, .slice ka nk ck, .int .i64 torn] W fun e w' => e = .returned (.tuple #[]) ∧ RunD w0 B y d c p (s.crash ks torn) V w' (more W T w') ∧ OnlyS T W w' :=
  (crash_any h.disk hk hnk hnk2).mono fun _ _ hh => ⟨hh.1, h.next hh.2, hh.2.only⟩

theorem rund_fuse (h : RunD w0 B y d c p s V W T) (n : Int) (hn : n ≤ 9223372036854775807) :
    Calls Try.prog 11 #[dp d, .int .i64 n] W fun e w' => e = .returned (.tuple #[]) ∧ ∃ T', RunD w0 B y d c p { s with fuse := max n (-1) } V w' T' :=
  (fuse_any h.disk n hn).mono fun _ _ hh => ⟨hh.1, _, h.next hh.2⟩

theorem run_fuse (h : Run w0 B y d c z x s t o V W U) (n : Int) (hn : n ≤ 9223372036854775807) :
    Calls Try.prog 11 #[dp d, .int .i64 n] W fun e w' => e = .returned (.tuple #[]) ∧ ∃ U', Run w0 B y d c z x { s with fuse := max n (-1) } t o V w' U' := by
  obtain ⟨T, h1, h2, h3⟩ := h.sw.call
  exact (fuse_any h1 n hn).mono fun _ _ hh => ⟨hh.1, _, h.snx (h3 _ _ _ hh.2)⟩
end

theorem eq_cnil (a : Addr) (s t : Operand) (W : World) : (do eqGuard .eql 32 s t (.pointer (some a)) (.pointer none); binOp .eql 32 (.pointer (some a)) (.pointer none) : Sem Value).run Try.prog W = .ok (.bool false) W := by
  have u := Try.underlying32
  simp [eqGuard, go_sem]

set_option maxHeartbeats 4000000 in
set_option maxRecDepth 100000 in
theorem ropen_any {w0 W : World} {B y d : Nat} {p : Option Addr} {s : St} {V : RV} {t : Tx} {T : Nat → Prop} (hr : RunD w0 B y d 8 p s V W T) (hi : Fresh qV [] s t) (hf : hdOf t = V.has ∨ hdOf t = V.may) {ka : Option Addr} {nk ck : Nat} {ks : List Bool} (torn : Int) (hk : Bls w0 (.slice ka nk ck) ks) (hnk : ks.length = nk) (hnk2 : nk ≤ 9223372036854775807) :
    Calls Try.prog 13 #[.pointer (some ⟨B, 0, none⟩), .slice ka nk ck, .int .i64 torn] W fun e W' => e = .returned (.bool true) ∧ ∃ s' z x U, s'.room = s.room ∧ (s.fuse = -1 → s'.fuse = -1) ∧ Fresh qV [] s' t ∧ Run w0 B y d 9 z x s' t false ⟨hdOf t, hdOf t, false⟩ W' U ∧ OnlyS (fun k => T k ∨ k = B ∨ k = y) W W' ∧ ∀ k, U k → T k ∨ W.heap.size ≤ k := by
  have HR := Lib.hid hr
  have HI := Lib.hid hi
  have HF := Lib.hid hf
  have HK := Lib.hid hk
  have HNk := Lib.hid hnk
  have HNk2 := Lib.hid hnk2
  clear hr hi hf hk hnk hnk2
  go_enter Try.func13, Try.ntmps13
  go_wp2_with fail
  go_loopw [7] (fun s7 wr => ∃ (j : Nat) (s1 : St) (T1 : Nat → Prop), s7 = .int .i64 (j : Int) ∧ j ≤ 1 ∧ Hid (RunD w0 B y d 8 p s1 V wr T1) ∧ Hid (Fresh qV [] s1 t) ∧ Hid (s1.room = s.room) ∧ Hid (s.fuse = -1 → s1.fuse = -1) ∧ Hid (j = 1 → s1.fuse = -1) ∧ Hid (OnlyS (fun k => T k ∨ k = B ∨ k = y) W wr) ∧ Hid (∀ k, T1 k → T k ∨ W.heap.size ≤ k)) (fun s7 _ => 8 - (intOf s7).toNat)
  case atStart => exact ⟨0, s, T, rfl, by omega, HR, HI, Lib.hid rfl, Lib.hid fun h => h, (Lib.hid fun h => by omega), Lib.hid (OnlyS.refl _ _), Lib.hid fun k h => .inl h⟩
  case round =>
    obtain ⟨j, s1, T1, rfl, hj, HR1, HI1, HRoom, HCalm, HJ, HOw, HT1⟩ := hrel
    have c0 : wr.cell? ⟨B, 0, none⟩ = some (dp d) := by rw [HR1.out.run.cell]; rfl
    have hop := cOpen_any qV_wn HR1.out.disk (by omega)
    have HFr := Lib.hid (open_fresh HI1.out)
    obtain ⟨Y, hY⟩ : ∃ Y, Y = (opA qV s1).1 := ⟨_, rfl⟩
    obtain ⟨Z, hZ⟩ : ∃ Z, Z = (opA qV s1).2 := ⟨_, rfl⟩
    rw [HI1.out.1.now.has, ← hY, ← hZ] at hop
    rw [← hY, ← hZ] at HFr
    have HOp := Lib.hid hop
    have j0 : (0 : Int) ≤ (j : Int) := Int.natCast_nonneg _
    have j8 : (j : Int) < 8 := by omega
    clear hop hY hZ
    go_wp2_with fail
    refine HOp.out.mono ?_
    obtain ⟨hcase, hroom, hcalm⟩ := HFr.out
    rintro e w4 (⟨h6, rfl, hnx⟩ | ⟨h0, z, x, U, rfl, hz, hsw, hzU, hU, hv, ho⟩)
    · obtain ⟨hfu, hgone⟩ : s1.fuse ≠ -1 ∧ Gone qV [] Z t t := by
        rcases hcase with h | h
        · have := h.1; omega
        · exact h.2
      have hjz : j = 0 := by
        by_cases h : j = 1
        · exact absurd (HJ.out h) hfu
        · omega
      subst hjz
      have hr4 := HR1.out.next hnx
      have HR4 := Lib.hid hr4
      have HGone := Lib.hid hgone
      have HZroom := Lib.hid hroom
      have HFu := Lib.hid hfu
      have c4 : w4.cell? ⟨B, 0, none⟩ = some (dp d) := by rw [hr4.run.cell]; rfl
      have hdn := isdown_any hr4.disk
      rw [hgone.off] at hdn
      have HDn := Lib.hid hdn
      have hcr := run_crash2 hr4 torn (HK.out.below hr4.bel) HNk.out HNk2.out
      have ho4 : OnlyS (fun k => T k ∨ k = B ∨ k = y) W w4 := HOw.out.then hnx.only fun k hk h => .inl ((HT1.out k h).resolve_right (by omega))
      have hT4 : ∀ k, more wr T1 w4 k → T k ∨ W.heap.size ≤ k := fun k hk => by
        have := HOw.out.size
        rcases hk with hk | hk
        · exact HT1.out k hk
        · exact .inr (by omega)
      have HO4 := Lib.hid ho4
      have HT4 := Lib.hid hT4
      have HCr := Lib.hid hcr
      clear c0 hcase hroom hcalm h6 hnx hfu hgone hr4 hdn hcr j8 ho4 hT4
      go_wp2_with fail
      refine HDn.out.mono ?_
      rintro e w4' ⟨rfl, rfl⟩
      go_wp2_with fail
      refine HCr.out.mono ?_
      rintro e w5 ⟨rfl, hr5, ho5⟩
      have HO5 := Lib.hid (HO4.out.then ho5 fun k hk h => .inl ((HT4.out k h).resolve_right (by omega)))
      have hT5 : ∀ k, more w4 (more wr T1 w4) w5 k → T k ∨ W.heap.size ≤ k := fun k hk => by
        have := HO4.out.size
        rcases hk with hk | hk
        · exact HT4.out k hk
        · exact .inr (by omega)
      have HT5 := Lib.hid hT5
      have hfr5 : Fresh qV [] (Z.crash ks torn) t := (HGone.out.crash ks torn).elim id id
      have HR5 := Lib.hid (hr5.tight (c' := 8) (by have := hfr5.1.counts; omega) (by omega))
      have HFr5 := Lib.hid hfr5
      clear hr5 hfr5 c4 ho5 hT5
      go_wp2
      go_roundw
      case rel => exact ⟨1, Z.crash ks torn, _, by go_num, by omega, HR5, HFr5, Lib.hid (by show Z.room = s.room; rw [HZroom.out, HRoom.out]), Lib.hid fun _ => rfl, Lib.hid fun _ => rfl, HO5, HT5⟩
      case measure => simp [intOf]
    · have hidle : Fresh qV [] Z t := by
        rcases hcase with h | h
        · exact h.2
        · have := h.1; omega
      have hr4 : RunD w0 B y d 8 p s1 V wr T1 := HR1.out
      have hBU : ¬ U B := fun h => (hU B h).elim hr4.nB fun h => by have := hr4.run.lt; omega
      have hyU : ¬ U y := fun h => (hU y h).elim hr4.ny fun h => by have := hr4.ref.lt; omega
      have hBel : Below w0.heap.size w0 w4 := hr4.bel.trans (ho.below (fun k hk hT => by have := hr4.aT k hT; omega) hr4.bel.size)
      have hrun4 : Blk w4 B 35 (runC d p y) := hr4.run.stays (ho.block B hr4.run.lt hr4.nB)
      have href4 : Blk w4 y 40 (rC V) := hr4.ref.stays (ho.block y hr4.ref.lt hr4.ny)
      have hU0 : ∀ k, U k → w0.heap.size ≤ k := fun k hk => (hU k hk).elim (hr4.aT k) fun h => Nat.le_trans hr4.bel.size h
      have hrd : RunD w0 B y d 9 p Z V w4 U := ⟨hsw.disk, hU0, hBU, hyU, href4, hrun4, hr4.aB, hr4.ay, hBel⟩
      have ho4 : OnlyS (fun k => T k ∨ k = B ∨ k = y) W w4 := HOw.out.then ho fun k hk h => .inl ((HT1.out k h).resolve_right (by omega))
      have HO4 := Lib.hid ho4
      have hUT : ∀ k, U k → T k ∨ W.heap.size ≤ k := fun k hk => by
        have := HOw.out.size
        rcases hU k hk with h | h
        · exact HT1.out k h
        · exact .inr (by omega)
      have HUT := Lib.hid hUT
      clear ho4 hUT
      have HR4 := Lib.hid hrd
      have HS4 := Lib.hid hsw
      have HV4 := Lib.hid hv
      have HIdle := Lib.hid hidle
      have HZroom := Lib.hid hroom
      have HZcalm := Lib.hid hcalm
      have HzU := Lib.hid hzU
      have HU0 := Lib.hid hU0
      have HBU := Lib.hid hBU
      have HyU := Lib.hid hyU
      have Hz := Lib.hid (Nat.le_trans hr4.bel.size hz)
      have HB4 := Lib.hid hrun4
      have hG4 : ∀ W1 W' : World, Below w4.heap.size w4 W1 → Below W1.heap.size W1 W' → Below w4.heap.size w4 W' := fun W1 W' h h' => h.trans (h'.mono h.size)
      clear c0 hcase hroom hcalm h0 hz hsw hzU hU hv ho hidle hr4 hBU hyU hBel hrun4 href4 hU0 hrd HOp
      go_upto_region 9 with fail
      refine region_by [(37, .is (.int .i64 0)), (38, .is (.bool false)), (39, .is (.bool false)), (40, .is (.pointer (some ⟨z, 0, none⟩))), (41, .is (.bool false)), (42, .is (.bool false)), (43, .is (.bool false)), (44, .is (.pointer (some ⟨B, 0, none⟩))), (45, .is (.pointer (some ⟨B, 0, none⟩))), (46, .is (.pointer (some ⟨B, 2, none⟩))), (47, .is (.pointer (some ⟨y, 0, none⟩))), (48, .is (.pointer (some ⟨z, 0, none⟩))), (49, .is (hv (hdOf t))), (50, .is (.bool true)), (51, .is (.bool false)), (52, .is (.bool false))] [0, 8, 52] (fun W => Below w4.heap.size w4 W) (by kernel_rfl) (by kernel_rfl) (by kernel_rfl) (by kernel_rfl) (by kernel_rfl) ((Below.refl _ _).drew) ?_ ?_
      · refine ⟨?c0, ?c1, ?c2, ?c3, ?c4, ?c5, ?c6, ?c7, ?c8, ?c9, ?c10, ?c11, ?c12, ?c13, ?c14, ?c15, trivial⟩
        case c0 => exact ask_copy (guard_none rfl) (.tmp 9) (.inl rfl) (by intro k hk; cases hk; rfl)
        case c1 => exact ask_exec (guard_none rfl) (.bool false) rfl rfl (by intro k hk; cases hk; rfl) (fun W hW => by kernel_rfl)
        case c2 => exact ask_copy (guard_none rfl) (.tmp 38) (.inl rfl) (by intro k hk; cases hk; rfl)
        case c3 => exact ask_copy (guard_some rfl rfl rfl) (.tmp 8) (.inl rfl) (by intro k hk; cases hk; rfl)
        case c4 => exact ask_bin (guard_some rfl rfl rfl) _ _ _ _ _ _ _ _ rfl rfl rfl (by intro k hk; cases hk; rfl) (fun W => eq_cnil _ _ _ W)
        case c5 => exact ask_pick (guard_none rfl) (.tmp 39) (.const (.bool true)) (.tmp 41) false rfl rfl (by intro k hk; cases hk; rfl)
        case c6 => exact ask_copy (guard_none rfl) (.tmp 42) (.inl rfl) (by intro k hk; cases hk; rfl)
        case c7 => exact ask_copy (guard_some rfl rfl rfl) (.tmp 0) (.inl rfl) (by intro k hk; cases hk; rfl)
        case c8 => exact ask_exec (guard_some rfl rfl rfl) (.pointer (some ⟨B, 0, none⟩)) rfl rfl (by intro k hk; cases hk; rfl) (fun W hW => by kernel_rfl)
        case c9 => exact ask_field (guard_some rfl rfl rfl) _ (.tmp 45) 2 (.pointer (some ⟨B, 0, none⟩)) (.pointer (some ⟨B, 2, none⟩)) rfl rfl (by intro k hk; cases hk; rfl) (fun W => by kernel_rfl)
        case c10 => exact ask_load (guard_some rfl rfl rfl) _ (.tmp 46) (.pointer (some ⟨B, 2, none⟩)) (.pointer (some ⟨y, 0, none⟩)) rfl rfl (by intro k hk; cases hk; rfl) (fun W hW => load_rp W _ _ (by rw [hW.cell (p := ⟨B, 2, none⟩) HB4.out.lt, HB4.out.cell]; rfl))
        case c11 => exact ask_copy (guard_some rfl rfl rfl) (.tmp 8) (.inl rfl) (by intro k hk; cases hk; rfl)
        case c12 => exact ask_call hG4 (guard_some rfl rfl rfl) _ _ _ #[.pointer (some ⟨z, 0, none⟩)] (.is (hv (hdOf t))) rfl (by kernel_rfl) rfl rfl (by intro k hk; cases hk; rfl) (fun W hW => (cGet_any (HV4.out.keep hW) (HS4.out.below hW)).mono fun e w' h => by obtain ⟨h1, h2⟩ := h; exact ⟨_, h1, rfl, h2⟩)
        case c13 => exact ask_call hG4 (guard_some rfl rfl rfl) _ _ _ #[.pointer (some ⟨y, 0, none⟩), hv (hdOf t)] (.is (.bool true)) rfl (by kernel_rfl) rfl rfl (by intro k hk; cases hk; rfl) (fun W hW => (fits_any (HR4.out.below hW).ref HF.out).mono fun e w' h => by obtain ⟨h1, h2⟩ := h; exact ⟨_, h1, rfl, h2⟩)
        case c14 => exact ask_exec (guard_some rfl rfl rfl) (.bool false) rfl rfl (by intro k hk; cases hk; rfl) (fun W hW => by kernel_rfl)
        case c15 => exact ask_pick (guard_none rfl) (.tmp 43) (.const (.bool true)) (.tmp 51) false rfl rfl (by intro k hk; cases hk; rfl)
      · intro af W9 hW hd' hs' hf'
        have t0 : af.tmps.getD 0 undef = .pointer (some ⟨B, 0, none⟩) := hf' 0 rfl
        have t8 : af.tmps.getD 8 undef = .pointer (some ⟨z, 0, none⟩) := hf' 8 rfl
        have t52 : af.tmps.getD 52 undef = .bool false := hf' 52 rfl
        obtain ⟨us, hus, haf⟩ := act_open 64 af hs' hd'
        rw [← hus] at t0 t8 t52
        have el : ((List.range 64).map us).toArray = #[us 0, us 1, us 2, us 3, us 4, us 5, us 6, us 7, us 8, us 9, us 10, us 11, us 12, us 13, us 14, us 15, us 16, us 17, us 18, us 19, us 20, us 21, us 22, us 23, us 24, us 25, us 26, us 27, us 28, us 29, us 30, us 31, us 32, us 33, us 34, us 35, us 36, us 37, us 38, us 39, us 40, us 41, us 42, us 43, us 44, us 45, us 46, us 47, us 48, us 49, us 50, us 51, us 52, us 53, us 54, us 55, us 56, us 57, us 58, us 59, us 60, us 61, us 62, us 63] := rfl
        rw [el] at haf
        subst haf
        rw [t0, t8, t52]
        have HW9 := Lib.hid hW
        clear hus t0 t8 t52 el hf' hs' hd' hW hG4
        have HR9 := Lib.hid (HR4.out.below HW9.out)
        have HS9 := Lib.hid (HS4.out.below HW9.out)
        have HV9 := Lib.hid (HV4.out.keep HW9.out)
        have ho9 : OnlyS (fun k => T k ∨ k = B ∨ k = y) W (W9.setCell ⟨B, 1, none⟩ (.pointer (some ⟨z, 0, none⟩))) := only_put (HO4.out.trans (OnlyS.of_below HW9.out fun k hk _ => hk)) (.inr (.inl rfl)) 1 _
        have HO9 := Lib.hid ho9
        clear ho9
        have HP := Lib.hid (HR9.out.put HS9.out HV9.out HzU.out (fun k hk => .inr (HU0.out k hk)) HBU.out HyU.out Hz.out)
        have c1 : W9.cell? ⟨B, 1, none⟩ = some (.pointer p) := by rw [HR9.out.run.cell]; rfl
        have f1 : W9.frozen? ⟨B, 1, none⟩ = false := HR9.out.run.frozen 1
        go_upto_region 12 with fail
        obtain ⟨w5, hw5⟩ : ∃ w5, w5 = W9.setCell ⟨B, 1, none⟩ (.pointer (some ⟨z, 0, none⟩)) := ⟨_, rfl⟩
        rw [← hw5] at HP HO9 ⊢
        have HB5 := Lib.hid HP.out.run
        have hG5 : ∀ W1 W' : World, Below w5.heap.size w5 W1 → Below W1.heap.size W1 W' → Below w5.heap.size w5 W' := fun W1 W' h h' => h.trans (h'.mono h.size)
        clear hw5 c1 f1
        refine region_tails_by 6 [(57, .is (.pointer (some ⟨B, 0, none⟩))), (58, .is (.pointer (some ⟨B, 0, none⟩))), (59, .is (.pointer (some ⟨B, 2, none⟩))), (60, .is (.pointer (some ⟨y, 0, none⟩))), (61, .is (.pointer (some ⟨z, 0, none⟩))), (62, .is (hv (hdOf t)))] [0, 60, 62] (fun W => Below w5.heap.size w5 W) (by kernel_rfl) (by kernel_rfl) (by kernel_rfl) (by kernel_rfl) (by kernel_rfl) (by decide) (by kernel_rfl) (by kernel_rfl) ((Below.refl _ _).drew) ?_ ?_
        · refine ⟨?c0, ?c1, ?c2, ?c3, ?c4, ?c5, trivial⟩
          case c0 => exact ask_copy (guard_none rfl) (.tmp 0) (.inl rfl) (by intro k hk; cases hk; rfl)
          case c1 => exact ask_exec (guard_none rfl) (.pointer (some ⟨B, 0, none⟩)) rfl rfl (by intro k hk; cases hk; rfl) (fun W hW => by kernel_rfl)
          case c2 => exact ask_field (guard_none rfl) _ (.tmp 58) 2 (.pointer (some ⟨B, 0, none⟩)) (.pointer (some ⟨B, 2, none⟩)) rfl rfl (by intro k hk; cases hk; rfl) (fun W => by kernel_rfl)
          case c3 => exact ask_load (guard_none rfl) _ (.tmp 59) (.pointer (some ⟨B, 2, none⟩)) (.pointer (some ⟨y, 0, none⟩)) rfl rfl (by intro k hk; cases hk; rfl) (fun W hW => load_rp W _ _ (by rw [hW.cell (p := ⟨B, 2, none⟩) HB5.out.lt, HB5.out.cell]; rfl))
          case c4 => exact ask_copy (guard_none rfl) (.tmp 8) (.inl rfl) (by intro k hk; cases hk; rfl)
          case c5 => exact ask_call hG5 (guard_none rfl) _ _ _ #[.pointer (some ⟨z, 0, none⟩)] (.is (hv (hdOf t))) rfl (by kernel_rfl) rfl rfl (by intro k hk; cases hk; rfl) (fun W hW => (cGet_any (HP.out.below hW).vault (HP.out.below hW).sw).mono fun e w' h => by obtain ⟨h1, h2⟩ := h; exact ⟨_, h1, rfl, h2⟩)
        · intro af W12 hW hd' hs' hf'
          have t0 : af.tmps.getD 0 undef = .pointer (some ⟨B, 0, none⟩) := hf' 0 rfl
          have t60 : af.tmps.getD 60 undef = .pointer (some ⟨y, 0, none⟩) := hf' 60 rfl
          have t62 : af.tmps.getD 62 undef = hv (hdOf t) := hf' 62 rfl
          obtain ⟨us, hus, haf⟩ := act_open 64 af hs' hd'
          rw [← hus] at t0 t60 t62
          have el : ((List.range 64).map us).toArray = #[us 0, us 1, us 2, us 3, us 4, us 5, us 6, us 7, us 8, us 9, us 10, us 11, us 12, us 13, us 14, us 15, us 16, us 17, us 18, us 19, us 20, us 21, us 22, us 23, us 24, us 25, us 26, us 27, us 28, us 29, us 30, us 31, us 32, us 33, us 34, us 35, us 36, us 37, us 38, us 39, us 40, us 41, us 42, us 43, us 44, us 45, us 46, us 47, us 48, us 49, us 50, us 51, us 52, us 53, us 54, us 55, us 56, us 57, us 58, us 59, us 60, us 61, us 62, us 63] := rfl
          rw [el] at haf
          subst haf
          rw [t0, t60, t62]
          have HW12 := Lib.hid hW
          clear hus t0 t60 t62 el hf' hs' hd' hW hG5
          simp only [List.drop_succ_cons, List.drop_zero]
          have HR12 := Lib.hid (HP.out.below HW12.out)
          have HTk := Lib.hid (took_any (h := hdOf t) HR12.out.ref)
          go_wp2_with fail
          refine HTk.out.mono ?_
          rintro e w13 ⟨rfl, hrn⟩
          have HR13 := Lib.hid (HR12.out.refd hrn)
          have HO13 := Lib.hid ((HO9.out.trans (OnlyS.of_below HW12.out fun k hk _ => hk)).then hrn.2 fun k _ h => .inr (.inr h))
          clear hrn HTk
          go_wp2
          go_ret
          exact ⟨rfl, Z, z, x, U, by rw [HZroom.out, HRoom.out], fun h => HZcalm.out (HCalm.out h), HIdle.out, HR13.out, HO13.out, HUT.out⟩

set_option maxHeartbeats 1000000 in
set_option maxRecDepth 20000 in
theorem begin_any {w0 W : World} (hb : Below w0.heap.size w0 W) : Calls Try.prog 9 #[] W fun e W' => ∃ B y d z x U, e = .returned (.pointer (some ⟨B, 0, none⟩)) ∧ Run w0 B y d 1 z x (St.new 1073741824) none false ⟨(0, 0), (0, 0), false⟩ W' U := by
  have HB0 := Lib.hid hb
  clear hb
  go_enter Try.func9, Try.ntmps9
  go_wp2_with fail
  refine (new_any W 1073741824).mono ?_
  rintro e w1 ⟨d, rfl, hd, hb1⟩
  have HB1 := Lib.hid hb1
  have HD := Lib.hid hd
  clear hb1 hd
  go_wp2_with fail
  obtain ⟨w3, hw3⟩ : ∃ w3, w3 = (w1.alloc (.cells (rC ⟨(0, 0), (0, 0), false⟩) 40)).alloc (.cells (runC d none w1.heap.size) 35) := ⟨_, rfl⟩
  have hb3 : Below w1.heap.size w1 w3 := by rw [hw3]; exact ((Below.refl _ w1).alloc (Nat.le_refl _) _).alloc (by simp) _
  have hs3 : w3.heap.size = w1.heap.size + 2 := by rw [hw3]; simp
  have hx3 : Blk w3 w1.heap.size 40 (rC ⟨(0, 0), (0, 0), false⟩) := by
    rw [hw3]
    unfold Blk
    rw [Below.heap_alloc _ _ _ (by simp)]
    exact heap_alloc_new w1 _
  have hB3 : Blk w3 (w1.heap.size + 1) 35 (runC d none w1.heap.size) := by
    rw [hw3]
    have := Blk.new (w1.alloc (.cells (rC ⟨(0, 0), (0, 0), false⟩) 40)) 35 (runC d none w1.heap.size)
    simpa using this
  have e3 : w3 = (w1.alloc (.cells #[.int .u64 0, .int .u64 0, .int .u64 0, .int .u64 0, .bool false] 40)).alloc (.cells #[dp d, .pointer none, .pointer (some ⟨w1.heap.size, 0, none⟩)] 35) := hw3
  rw [← e3]
  have c0 : w3.cell? ⟨w1.heap.size + 1, 0, none⟩ = some (dp d) := by rw [hB3.cell]; rfl
  have hrd : RunD w0 (w1.heap.size + 1) w1.heap.size d 0 none (St.new 1073741824) ⟨(0, 0), (0, 0), false⟩ w3 (fun k => W.heap.size ≤ k ∧ k < w1.heap.size) :=
    { disk := HD.out.below hb3
      aT := fun k hk => Nat.le_trans HB0.out.size hk.1
      nB := fun h => by omega
      ny := fun h => by omega
      ref := hx3
      run := hB3
      aB := by have := HB0.out.size; have := HB1.out.size; omega
      ay := Nat.le_trans HB0.out.size HB1.out.size
      bel := (HB0.out.trans (HB1.out.mono HB0.out.size)).trans (hb3.mono (Nat.le_trans HB0.out.size HB1.out.size)) }
  have HRD := Lib.hid hrd
  have hop := cOpen_any (q := qV) qV_wn hrd.disk (by omega)
  rw [opA_new] at hop
  have HOp := Lib.hid hop
  clear hw3 e3 hb3 hx3 hB3 hrd hop
  go_wp2_with fail
  refine HOp.out.mono ?_
  rintro e w4 (⟨h6, -⟩ | ⟨-, z, x, U, rfl, hz, hsw, hzU, hU, hv, ho⟩)
  · exact absurd h6 (by decide)
  have hr4 := HRD.out
  have hBU : ¬ U (w1.heap.size + 1) := fun h => (hU _ h).elim hr4.nB fun h => by have := hr4.run.lt; omega
  have hyU : ¬ U w1.heap.size := fun h => (hU _ h).elim hr4.ny fun h => by have := hr4.ref.lt; omega
  have hBel : Below w0.heap.size w0 w4 := hr4.bel.trans (ho.below (fun k hk hT => by have := hr4.aT k hT; omega) hr4.bel.size)
  have hrun4 : Blk w4 (w1.heap.size + 1) 35 (runC d none w1.heap.size) := hr4.run.stays (ho.block _ hr4.run.lt hr4.nB)
  have href4 : Blk w4 w1.heap.size 40 (rC ⟨(0, 0), (0, 0), false⟩) := hr4.ref.stays (ho.block _ hr4.ref.lt hr4.ny)
  have hU0 : ∀ k, U k → w0.heap.size ≤ k := fun k hk => (hU k hk).elim (hr4.aT k) fun h => Nat.le_trans hr4.bel.size h
  have hsw' : Sw w4 U x d 1 qV (St.new 1073741824) none false := hsw
  have hrd : RunD w0 (w1.heap.size + 1) w1.heap.size d 1 none (St.new 1073741824) ⟨(0, 0), (0, 0), false⟩ w4 U := ⟨hsw'.disk, hU0, hBU, hyU, href4, hrun4, hr4.aB, hr4.ay, hBel⟩
  have HR4 := Lib.hid hrd
  have HS4 := Lib.hid hsw'
  have HV4 := Lib.hid hv
  have HzU := Lib.hid hzU
  have HU0 := Lib.hid hU0
  have HBU := Lib.hid hBU
  have HyU := Lib.hid hyU
  have Hz := Lib.hid (Nat.le_trans hr4.bel.size hz)
  clear hz hsw hzU hU hv ho hr4 hBU hyU hBel hrun4 href4 hU0 hsw' hrd HOp c0
  go_wp2_with fail
  refine (cGet_any HV4.out HS4.out).mono ?_
  rintro e w5 ⟨rfl, hb5⟩
  have HR5 := Lib.hid (HR4.out.below hb5)
  have c1 : w5.cell? ⟨w1.heap.size + 1, 1, none⟩ = some (.pointer none) := by rw [HR5.out.run.cell]; rfl
  have f1 : w5.frozen? ⟨w1.heap.size + 1, 1, none⟩ = false := HR5.out.run.frozen 1
  have HFin := Lib.hid (HR5.out.put (HS4.out.below hb5) (HV4.out.keep hb5) HzU.out (fun k hk => .inr (HU0.out k hk)) HBU.out HyU.out Hz.out)
  have e6 : hv (hdOf none) = .agg #[.int .u64 0, .int .u64 0] := rfl
  rw [e6]
  clear hb5 e6
  go_wp2
  go_ret
  exact ⟨_, _, _, _, _, _, rfl, HFin.out⟩
end Go.Proofs.Ytejmmjlmnfnacaa
