/- Joined: CellRopen, CellKeep, CellPlay, CellIn, CellAll, CellAllProof. -/
import Derived.Test.YtboongdoggggoaaCellRset
import Derived.Test.YtboongdoggggoaaCellAwake
import Derived.Deep.Slices
import Derived.OpenShut
import Derived.SizedLaws
import Derived.Test.YtboongdoggggoaaGuards
import Derived.Test.YtboongdoggggoaaFrame
/- The law's open, begin; the disk's Crash and Fuse in a run. -/
namespace Go.Proofs.Ytboongdoggggoaa
set_option maxRecDepth 20000
open Go.RowKit Go.Maps DiskMath SwapMath CellMath BinMath Reg

section
variable {w0 W : World} {B y d c z x : Nat} {p : Option Addr} {s : St} {t : Tx} {o : Bool} {V : RV} {T U : Nat → Prop}

theorem run_crash (h : RunD w0 B y d c p s V W T) {ka : Option Addr} {nk ck : Nat} {ks : List Bool} (torn : Int) (hk : Bls W (.slice ka nk ck) ks) (hnk : ks.length = nk) (hnk2 : nk ≤ 9223372036854775807) :
    Calls Try.prog 37 #[dp d, .slice ka nk ck, .int .i64 torn] W fun e w' => e = .returned (.tuple #[]) ∧ ∃ T', RunD w0 B y d c p (s.crash ks torn) V w' T' :=
  (crash_any h.disk hk hnk hnk2).mono fun _ _ hh => ⟨hh.1, _, h.next hh.2⟩

theorem run_crash2 (h : RunD w0 B y d c p s V W T) {ka : Option Addr} {nk ck : Nat} {ks : List Bool} (torn : Int) (hk : Bls W (.slice ka nk ck) ks) (hnk : ks.length = nk) (hnk2 : nk ≤ 9223372036854775807) :
    Calls Try.prog 37 #[dp d, .slice ka nk ck, .int .i64 torn] W fun e w' => e = .returned (.tuple #[]) ∧ RunD w0 B y d c p (s.crash ks torn) V w' (more W T w') ∧ OnlyS T W w' :=
  (crash_any h.disk hk hnk hnk2).mono fun _ _ hh => ⟨hh.1, h.next hh.2, hh.2.only⟩

theorem rund_fuse (h : RunD w0 B y d c p s V W T) (n : Int) (hn : n ≤ 9223372036854775807) :
    Calls Try.prog 36 #[dp d, .int .i64 n] W fun e w' => e = .returned (.tuple #[]) ∧ ∃ T', RunD w0 B y d c p { s with fuse := max n (-1) } V w' T' :=
  (fuse_any h.disk n hn).mono fun _ _ hh => ⟨hh.1, _, h.next hh.2⟩

theorem run_fuse (h : Run w0 B y d c z x s t o V W U) (n : Int) (hn : n ≤ 9223372036854775807) :
    Calls Try.prog 36 #[dp d, .int .i64 n] W fun e w' => e = .returned (.tuple #[]) ∧ ∃ U', Run w0 B y d c z x { s with fuse := max n (-1) } t o V w' U' := by
  obtain ⟨T, h1, h2, h3⟩ := h.sw.call
  exact (fuse_any h1 n hn).mono fun _ _ hh => ⟨hh.1, _, h.snx (h3 _ _ _ hh.2)⟩
end

theorem eq_cnil (a : Addr) (s t : Operand) (W : World) : (do eqGuard .eql 69 s t (.pointer (some a)) (.pointer none); binOp .eql 69 (.pointer (some a)) (.pointer none) : Sem Value).run Try.prog W = .ok (.bool false) W := by
  have u := Try.underlying69
  simp [eqGuard, go_sem]

set_option maxHeartbeats 4000000 in
set_option maxRecDepth 100000 in
theorem ropen_any {w0 W : World} {B y d : Nat} {p : Option Addr} {s : St} {V : RV} {t : Tx} {T : Nat → Prop} (hr : RunD w0 B y d 8 p s V W T) (hi : Fresh qV [] s t) (hf : hdOf t = V.has ∨ hdOf t = V.may) {ka : Option Addr} {nk ck : Nat} {ks : List Bool} (torn : Int) (hk : Bls w0 (.slice ka nk ck) ks) (hnk : ks.length = nk) (hnk2 : nk ≤ 9223372036854775807) :
    Calls Try.prog 38 #[.pointer (some ⟨B, 0, none⟩), .slice ka nk ck, .int .i64 torn] W fun e W' => e = .returned (.bool true) ∧ ∃ s' z x U, s'.room = s.room ∧ (s.fuse = -1 → s'.fuse = -1) ∧ Fresh qV [] s' t ∧ Run w0 B y d 9 z x s' t false ⟨hdOf t, hdOf t, false⟩ W' U ∧ OnlyS (fun k => T k ∨ k = B ∨ k = y) W W' ∧ ∀ k, U k → T k ∨ W.heap.size ≤ k := by
  have HR := Lib.hid hr
  have HI := Lib.hid hi
  have HF := Lib.hid hf
  have HK := Lib.hid hk
  have HNk := Lib.hid hnk
  have HNk2 := Lib.hid hnk2
  clear hr hi hf hk hnk hnk2
  go_enter Try.func38, Try.ntmps38
  go_wp2_with fail
  go_loopw [7] (fun s7 wr => ∃ (j : Nat) (s1 : St) (T1 : Nat → Prop), s7 = .int .i64 (j : Int) ∧ j ≤ 1 ∧ Hid (RunD w0 B y d 8 p s1 V wr T1) ∧ Hid (Fresh qV [] s1 t) ∧ Hid (s1.room = s.room) ∧ Hid (s.fuse = -1 → s1.fuse = -1) ∧ Hid (j = 1 → s1.fuse = -1) ∧ Hid (OnlyS (fun k => T k ∨ k = B ∨ k = y) W wr) ∧ Hid (∀ k, T1 k → T k ∨ W.heap.size ≤ k)) (fun s7 _ => 8 - (intOf s7).toNat)
  case atStart => exact ⟨0, s, T, rfl, by omega, HR, HI, Lib.hid rfl, Lib.hid fun h => h, (Lib.hid fun h => by omega), Lib.hid (OnlyS.refl _ _), Lib.hid fun k h => .inl h⟩
  case round =>
    obtain ⟨j, s1, T1, rfl, hj, HR1, HI1, HRoom, HCalm, HJ, HOw, HT1⟩ := hrel
    have c0 : wr.cell? ⟨B, 0, none⟩ = some (dp d) := by rw [HR1.out.run.cell]; rfl
    have hop := cOpen_any qV_wn HR1.out.disk (by omega)
    have HFr := Lib.hid (open_fresh HI1.out)
    obtain ⟨Y, hY⟩ : ∃ Y, Y = (opA qV s1).1 := ⟨_, rfl⟩
    obtain ⟨Z, hZ⟩ : ∃ Z, Z = (opA qV s1).2 := ⟨_, rfl⟩
    rw [HI1.out.1.now.has, ← hY, ← hZ] at hop
    rw [← hY, ← hZ] at HFr
    have HOp := Lib.hid hop
    have j0 : (0 : Int) ≤ (j : Int) := Int.natCast_nonneg _
    have j8 : (j : Int) < 8 := by omega
    clear hop hY hZ
    go_wp2_with fail
    refine HOp.out.mono ?_
    obtain ⟨hcase, hroom, hcalm⟩ := HFr.out
    rintro e w4 (⟨h6, rfl, hnx⟩ | ⟨h0, z, x, U, rfl, hz, hsw, hzU, hU, hv, ho⟩)
    · obtain ⟨hfu, hgone⟩ : s1.fuse ≠ -1 ∧ Gone qV [] Z t t := by
        rcases hcase with h | h
        · have := h.1; omega
        · exact h.2
      have hjz : j = 0 := by
        by_cases h : j = 1
        · exact absurd (HJ.out h) hfu
        · omega
      subst hjz
      have hr4 := HR1.out.next hnx
      have HR4 := Lib.hid hr4
      have HGone := Lib.hid hgone
      have HZroom := Lib.hid hroom
      have HFu := Lib.hid hfu
      have c4 : w4.cell? ⟨B, 0, none⟩ = some (dp d) := by rw [hr4.run.cell]; rfl
      have hdn := isdown_any hr4.disk
      rw [hgone.off] at hdn
      have HDn := Lib.hid hdn
      have hcr := run_crash2 hr4 torn (HK.out.below hr4.bel) HNk.out HNk2.out
      have ho4 : OnlyS (fun k => T k ∨ k = B ∨ k = y) W w4 := HOw.out.then hnx.only fun k hk h => .inl ((HT1.out k h).resolve_right (by omega))
      have hT4 : ∀ k, more wr T1 w4 k → T k ∨ W.heap.size ≤ k := fun k hk => by
        have := HOw.out.size
        rcases hk with hk | hk
        · exact HT1.out k hk
        · exact .inr (by omega)
      have HO4 := Lib.hid ho4
      have HT4 := Lib.hid hT4
      have HCr := Lib.hid hcr
      clear c0 hcase hroom hcalm h6 hnx hfu hgone hr4 hdn hcr j8 ho4 hT4
      go_wp2_with fail
      refine HDn.out.mono ?_
      rintro e w4' ⟨rfl, rfl⟩
      go_wp2_with fail
      refine HCr.out.mono ?_
      rintro e w5 ⟨rfl, hr5, ho5⟩
      have HO5 := Lib.hid (HO4.out.then ho5 fun k hk h => .inl ((HT4.out k h).resolve_right (by omega)))
      have hT5 : ∀ k, more w4 (more wr T1 w4) w5 k → T k ∨ W.heap.size ≤ k := fun k hk => by
        have := HO4.out.size
        rcases hk with hk | hk
        · exact HT4.out k hk
        · exact .inr (by omega)
      have HT5 := Lib.hid hT5
      have hfr5 : Fresh qV [] (Z.crash ks torn) t := (HGone.out.crash ks torn).elim id id
      have HR5 := Lib.hid (hr5.tight (c' := 8) (by have := hfr5.1.counts; omega) (by omega))
      have HFr5 := Lib.hid hfr5
      clear hr5 hfr5 c4 ho5 hT5
      go_wp2
      go_roundw
      case rel => exact ⟨1, Z.crash ks torn, _, by go_num, by omega, HR5, HFr5, Lib.hid (by show Z.room = s.room; rw [HZroom.out, HRoom.out]), Lib.hid fun _ => rfl, Lib.hid fun _ => rfl, HO5, HT5⟩
      case measure => simp [intOf]
    · have hidle : Fresh qV [] Z t := by
        rcases hcase with h | h
        · exact h.2
        · have := h.1; omega
      have hr4 : RunD w0 B y d 8 p s1 V wr T1 := HR1.out
      have hBU : ¬ U B := fun h => (hU B h).elim hr4.nB fun h => by have := hr4.run.lt; omega
      have hyU : ¬ U y := fun h => (hU y h).elim hr4.ny fun h => by have := hr4.ref.lt; omega
      have hBel : Below w0.heap.size w0 w4 := hr4.bel.trans (ho.below (fun k hk hT => by have := hr4.aT k hT; omega) hr4.bel.size)
      have hrun4 : Blk w4 B 72 (runC d p y) := hr4.run.stays (ho.block B hr4.run.lt hr4.nB)
      have href4 : Blk w4 y 77 (rC V) := hr4.ref.stays (ho.block y hr4.ref.lt hr4.ny)
      have hU0 : ∀ k, U k → w0.heap.size ≤ k := fun k hk => (hU k hk).elim (hr4.aT k) fun h => Nat.le_trans hr4.bel.size h
      have hrd : RunD w0 B y d 9 p Z V w4 U := ⟨hsw.disk, hU0, hBU, hyU, href4, hrun4, hr4.aB, hr4.ay, hBel⟩
      have ho4 : OnlyS (fun k => T k ∨ k = B ∨ k = y) W w4 := HOw.out.then ho fun k hk h => .inl ((HT1.out k h).resolve_right (by omega))
      have HO4 := Lib.hid ho4
      have hUT : ∀ k, U k → T k ∨ W.heap.size ≤ k := fun k hk => by
        have := HOw.out.size
        rcases hU k hk with h | h
        · exact HT1.out k h
        · exact .inr (by omega)
      have HUT := Lib.hid hUT
      clear ho4 hUT
      have HR4 := Lib.hid hrd
      have HS4 := Lib.hid hsw
      have HV4 := Lib.hid hv
      have HIdle := Lib.hid hidle
      have HZroom := Lib.hid hroom
      have HZcalm := Lib.hid hcalm
      have HzU := Lib.hid hzU
      have HU0 := Lib.hid hU0
      have HBU := Lib.hid hBU
      have HyU := Lib.hid hyU
      have Hz := Lib.hid (Nat.le_trans hr4.bel.size hz)
      have HB4 := Lib.hid hrun4
      have hG4 : ∀ W1 W' : World, Below w4.heap.size w4 W1 → Below W1.heap.size W1 W' → Below w4.heap.size w4 W' := fun W1 W' h h' => h.trans (h'.mono h.size)
      clear c0 hcase hroom hcalm h0 hz hsw hzU hU hv ho hidle hr4 hBU hyU hBel hrun4 href4 hU0 hrd HOp
      go_upto_region 9 with fail
      refine region_by [(37, .is (.int .i64 0)), (38, .is (.bool false)), (39, .is (.bool false)), (40, .is (.pointer (some ⟨z, 0, none⟩))), (41, .is (.bool false)), (42, .is (.bool false)), (43, .is (.bool false)), (44, .is (.pointer (some ⟨B, 0, none⟩))), (45, .is (.pointer (some ⟨B, 0, none⟩))), (46, .is (.pointer (some ⟨B, 2, none⟩))), (47, .is (.pointer (some ⟨y, 0, none⟩))), (48, .is (.pointer (some ⟨z, 0, none⟩))), (49, .is (hv (hdOf t))), (50, .is (.bool true)), (51, .is (.bool false)), (52, .is (.bool false))] [0, 8, 52] (fun W => Below w4.heap.size w4 W) (by kernel_rfl) (by kernel_rfl) (by kernel_rfl) (by kernel_rfl) (by kernel_rfl) ((Below.refl _ _).drew) ?_ ?_
      · refine ⟨?c0, ?c1, ?c2, ?c3, ?c4, ?c5, ?c6, ?c7, ?c8, ?c9, ?c10, ?c11, ?c12, ?c13, ?c14, ?c15, trivial⟩
        case c0 => exact ask_copy (guard_none rfl) (.tmp 9) (.inl rfl) (by intro k hk; cases hk; rfl)
        case c1 => exact ask_exec (guard_none rfl) (.bool false) rfl rfl (by intro k hk; cases hk; rfl) (fun W hW => by kernel_rfl)
        case c2 => exact ask_copy (guard_none rfl) (.tmp 38) (.inl rfl) (by intro k hk; cases hk; rfl)
        case c3 => exact ask_copy (guard_some rfl rfl rfl) (.tmp 8) (.inl rfl) (by intro k hk; cases hk; rfl)
        case c4 => exact ask_bin (guard_some rfl rfl rfl) _ _ _ _ _ _ _ _ rfl rfl rfl (by intro k hk; cases hk; rfl) (fun W => eq_cnil _ _ _ W)
        case c5 => exact ask_pick (guard_none rfl) (.tmp 39) (.const (.bool true)) (.tmp 41) false rfl rfl (by intro k hk; cases hk; rfl)
        case c6 => exact ask_copy (guard_none rfl) (.tmp 42) (.inl rfl) (by intro k hk; cases hk; rfl)
        case c7 => exact ask_copy (guard_some rfl rfl rfl) (.tmp 0) (.inl rfl) (by intro k hk; cases hk; rfl)
        case c8 => exact ask_exec (guard_some rfl rfl rfl) (.pointer (some ⟨B, 0, none⟩)) rfl rfl (by intro k hk; cases hk; rfl) (fun W hW => by kernel_rfl)
        case c9 => exact ask_field (guard_some rfl rfl rfl) _ (.tmp 45) 2 (.pointer (some ⟨B, 0, none⟩)) (.pointer (some ⟨B, 2, none⟩)) rfl rfl (by intro k hk; cases hk; rfl) (fun W => by kernel_rfl)
        case c10 => exact ask_load (guard_some rfl rfl rfl) _ (.tmp 46) (.pointer (some ⟨B, 2, none⟩)) (.pointer (some ⟨y, 0, none⟩)) rfl rfl (by intro k hk; cases hk; rfl) (fun W hW => load_rp W _ _ (by rw [hW.cell (p := ⟨B, 2, none⟩) HB4.out.lt, HB4.out.cell]; rfl))
        case c11 => exact ask_copy (guard_some rfl rfl rfl) (.tmp 8) (.inl rfl) (by intro k hk; cases hk; rfl)
        case c12 => exact ask_call hG4 (guard_some rfl rfl rfl) _ _ _ #[.pointer (some ⟨z, 0, none⟩)] (.is (hv (hdOf t))) rfl (by kernel_rfl) rfl rfl (by intro k hk; cases hk; rfl) (fun W hW => (cGet_any (HV4.out.keep hW) (HS4.out.below hW)).mono fun e w' h => by obtain ⟨h1, h2⟩ := h; exact ⟨_, h1, rfl, h2⟩)
        case c13 => exact ask_call hG4 (guard_some rfl rfl rfl) _ _ _ #[.pointer (some ⟨y, 0, none⟩), hv (hdOf t)] (.is (.bool true)) rfl (by kernel_rfl) rfl rfl (by intro k hk; cases hk; rfl) (fun W hW => (fits_any (HR4.out.below hW).ref HF.out).mono fun e w' h => by obtain ⟨h1, h2⟩ := h; exact ⟨_, h1, rfl, h2⟩)
        case c14 => exact ask_exec (guard_some rfl rfl rfl) (.bool false) rfl rfl (by intro k hk; cases hk; rfl) (fun W hW => by kernel_rfl)
        case c15 => exact ask_pick (guard_none rfl) (.tmp 43) (.const (.bool true)) (.tmp 51) false rfl rfl (by intro k hk; cases hk; rfl)
      · intro af W9 hW hd' hs' hf'
        have t0 : af.tmps.getD 0 undef = .pointer (some ⟨B, 0, none⟩) := hf' 0 rfl
        have t8 : af.tmps.getD 8 undef = .pointer (some ⟨z, 0, none⟩) := hf' 8 rfl
        have t52 : af.tmps.getD 52 undef = .bool false := hf' 52 rfl
        obtain ⟨us, hus, haf⟩ := act_open 64 af hs' hd'
        rw [← hus] at t0 t8 t52
        have el : ((List.range 64).map us).toArray = #[us 0, us 1, us 2, us 3, us 4, us 5, us 6, us 7, us 8, us 9, us 10, us 11, us 12, us 13, us 14, us 15, us 16, us 17, us 18, us 19, us 20, us 21, us 22, us 23, us 24, us 25, us 26, us 27, us 28, us 29, us 30, us 31, us 32, us 33, us 34, us 35, us 36, us 37, us 38, us 39, us 40, us 41, us 42, us 43, us 44, us 45, us 46, us 47, us 48, us 49, us 50, us 51, us 52, us 53, us 54, us 55, us 56, us 57, us 58, us 59, us 60, us 61, us 62, us 63] := rfl
        rw [el] at haf
        subst haf
        rw [t0, t8, t52]
        have HW9 := Lib.hid hW
        clear hus t0 t8 t52 el hf' hs' hd' hW hG4
        have HR9 := Lib.hid (HR4.out.below HW9.out)
        have HS9 := Lib.hid (HS4.out.below HW9.out)
        have HV9 := Lib.hid (HV4.out.keep HW9.out)
        have ho9 : OnlyS (fun k => T k ∨ k = B ∨ k = y) W (W9.setCell ⟨B, 1, none⟩ (.pointer (some ⟨z, 0, none⟩))) := only_put (HO4.out.trans (OnlyS.of_below HW9.out fun k hk _ => hk)) (.inr (.inl rfl)) 1 _
        have HO9 := Lib.hid ho9
        clear ho9
        have HP := Lib.hid (HR9.out.put HS9.out HV9.out HzU.out (fun k hk => .inr (HU0.out k hk)) HBU.out HyU.out Hz.out)
        have c1 : W9.cell? ⟨B, 1, none⟩ = some (.pointer p) := by rw [HR9.out.run.cell]; rfl
        have f1 : W9.frozen? ⟨B, 1, none⟩ = false := HR9.out.run.frozen 1
        go_upto_region 12 with fail
        obtain ⟨w5, hw5⟩ : ∃ w5, w5 = W9.setCell ⟨B, 1, none⟩ (.pointer (some ⟨z, 0, none⟩)) := ⟨_, rfl⟩
        rw [← hw5] at HP HO9 ⊢
        have HB5 := Lib.hid HP.out.run
        have hG5 : ∀ W1 W' : World, Below w5.heap.size w5 W1 → Below W1.heap.size W1 W' → Below w5.heap.size w5 W' := fun W1 W' h h' => h.trans (h'.mono h.size)
        clear hw5 c1 f1
        refine region_tails_by 6 [(57, .is (.pointer (some ⟨B, 0, none⟩))), (58, .is (.pointer (some ⟨B, 0, none⟩))), (59, .is (.pointer (some ⟨B, 2, none⟩))), (60, .is (.pointer (some ⟨y, 0, none⟩))), (61, .is (.pointer (some ⟨z, 0, none⟩))), (62, .is (hv (hdOf t)))] [0, 60, 62] (fun W => Below w5.heap.size w5 W) (by kernel_rfl) (by kernel_rfl) (by kernel_rfl) (by kernel_rfl) (by kernel_rfl) (by decide) (by kernel_rfl) (by kernel_rfl) ((Below.refl _ _).drew) ?_ ?_
        · refine ⟨?c0, ?c1, ?c2, ?c3, ?c4, ?c5, trivial⟩
          case c0 => exact ask_copy (guard_none rfl) (.tmp 0) (.inl rfl) (by intro k hk; cases hk; rfl)
          case c1 => exact ask_exec (guard_none rfl) (.pointer (some ⟨B, 0, none⟩)) rfl rfl (by intro k hk; cases hk; rfl) (fun W hW => by kernel_rfl)
          case c2 => exact ask_field (guard_none rfl) _ (.tmp 58) 2 (.pointer (some ⟨B, 0, none⟩)) (.pointer (some ⟨B, 2, none⟩)) rfl rfl (by intro k hk; cases hk; rfl) (fun W => by kernel_rfl)
          case c3 => exact ask_load (guard_none rfl) _ (.tmp 59) (.pointer (some ⟨B, 2, none⟩)) (.pointer (some ⟨y, 0, none⟩)) rfl rfl (by intro k hk; cases hk; rfl) (fun W hW => load_rp W _ _ (by rw [hW.cell (p := ⟨B, 2, none⟩) HB5.out.lt, HB5.out.cell]; rfl))
          case c4 => exact ask_copy (guard_none rfl) (.tmp 8) (.inl rfl) (by intro k hk; cases hk; rfl)
          case c5 => exact ask_call hG5 (guard_none rfl) _ _ _ #[.pointer (some ⟨z, 0, none⟩)] (.is (hv (hdOf t))) rfl (by kernel_rfl) rfl rfl (by intro k hk; cases hk; rfl) (fun W hW => (cGet_any (HP.out.below hW).vault (HP.out.below hW).sw).mono fun e w' h => by obtain ⟨h1, h2⟩ := h; exact ⟨_, h1, rfl, h2⟩)
        · intro af W12 hW hd' hs' hf'
          have t0 : af.tmps.getD 0 undef = .pointer (some ⟨B, 0, none⟩) := hf' 0 rfl
          have t60 : af.tmps.getD 60 undef = .pointer (some ⟨y, 0, none⟩) := hf' 60 rfl
          have t62 : af.tmps.getD 62 undef = hv (hdOf t) := hf' 62 rfl
          obtain ⟨us, hus, haf⟩ := act_open 64 af hs' hd'
          rw [← hus] at t0 t60 t62
          have el : ((List.range 64).map us).toArray = #[us 0, us 1, us 2, us 3, us 4, us 5, us 6, us 7, us 8, us 9, us 10, us 11, us 12, us 13, us 14, us 15, us 16, us 17, us 18, us 19, us 20, us 21, us 22, us 23, us 24, us 25, us 26, us 27, us 28, us 29, us 30, us 31, us 32, us 33, us 34, us 35, us 36, us 37, us 38, us 39, us 40, us 41, us 42, us 43, us 44, us 45, us 46, us 47, us 48, us 49, us 50, us 51, us 52, us 53, us 54, us 55, us 56, us 57, us 58, us 59, us 60, us 61, us 62, us 63] := rfl
          rw [el] at haf
          subst haf
          rw [t0, t60, t62]
          have HW12 := Lib.hid hW
          clear hus t0 t60 t62 el hf' hs' hd' hW hG5
          simp only [List.drop_succ_cons, List.drop_zero]
          have HR12 := Lib.hid (HP.out.below HW12.out)
          have HTk := Lib.hid (took_any (h := hdOf t) HR12.out.ref)
          go_wp2_with fail
          refine HTk.out.mono ?_
          rintro e w13 ⟨rfl, hrn⟩
          have HR13 := Lib.hid (HR12.out.refd hrn)
          have HO13 := Lib.hid ((HO9.out.trans (OnlyS.of_below HW12.out fun k hk _ => hk)).then hrn.2 fun k _ h => .inr (.inr h))
          clear hrn HTk
          go_wp2
          go_ret
          exact ⟨rfl, Z, z, x, U, by rw [HZroom.out, HRoom.out], fun h => HZcalm.out (HCalm.out h), HIdle.out, HR13.out, HO13.out, HUT.out⟩

set_option maxHeartbeats 1000000 in
theorem begin_any {w0 W : World} (hb : Below w0.heap.size w0 W) : Calls Try.prog 34 #[] W fun e W' => ∃ B y d z x U, e = .returned (.pointer (some ⟨B, 0, none⟩)) ∧ Run w0 B y d 1 z x (St.new 1073741824) none false ⟨(0, 0), (0, 0), false⟩ W' U := by
  have HB0 := Lib.hid hb
  clear hb
  go_enter Try.func34, Try.ntmps34
  go_wp2_with fail
  refine (new_any W 1073741824).mono ?_
  rintro e w1 ⟨d, rfl, hd, hb1⟩
  have HB1 := Lib.hid hb1
  have HD := Lib.hid hd
  clear hb1 hd
  go_wp2_with fail
  obtain ⟨w3, hw3⟩ : ∃ w3, w3 = (w1.alloc (.cells (rC ⟨(0, 0), (0, 0), false⟩) 77)).alloc (.cells (runC d none w1.heap.size) 72) := ⟨_, rfl⟩
  have hb3 : Below w1.heap.size w1 w3 := by rw [hw3]; exact ((Below.refl _ w1).alloc (Nat.le_refl _) _).alloc (by simp) _
  have hs3 : w3.heap.size = w1.heap.size + 2 := by rw [hw3]; simp
  have hx3 : Blk w3 w1.heap.size 77 (rC ⟨(0, 0), (0, 0), false⟩) := by
    rw [hw3]
    unfold Blk
    rw [Below.heap_alloc _ _ _ (by simp)]
    exact heap_alloc_new w1 _
  have hB3 : Blk w3 (w1.heap.size + 1) 72 (runC d none w1.heap.size) := by
    rw [hw3]
    have := Blk.new (w1.alloc (.cells (rC ⟨(0, 0), (0, 0), false⟩) 77)) 72 (runC d none w1.heap.size)
    simpa using this
  have e3 : w3 = (w1.alloc (.cells #[.int .u64 0, .int .u64 0, .int .u64 0, .int .u64 0, .bool false] 77)).alloc (.cells #[dp d, .pointer none, .pointer (some ⟨w1.heap.size, 0, none⟩)] 72) := hw3
  rw [← e3]
  have c0 : w3.cell? ⟨w1.heap.size + 1, 0, none⟩ = some (dp d) := by rw [hB3.cell]; rfl
  have hrd : RunD w0 (w1.heap.size + 1) w1.heap.size d 0 none (St.new 1073741824) ⟨(0, 0), (0, 0), false⟩ w3 (fun k => W.heap.size ≤ k ∧ k < w1.heap.size) :=
    { disk := HD.out.below hb3
      aT := fun k hk => Nat.le_trans HB0.out.size hk.1
      nB := fun h => by omega
      ny := fun h => by omega
      ref := hx3
      run := hB3
      aB := by have := HB0.out.size; have := HB1.out.size; omega
      ay := Nat.le_trans HB0.out.size HB1.out.size
      bel := (HB0.out.trans (HB1.out.mono HB0.out.size)).trans (hb3.mono (Nat.le_trans HB0.out.size HB1.out.size)) }
  have HRD := Lib.hid hrd
  have hop := cOpen_any (q := qV) qV_wn hrd.disk (by omega)
  rw [opA_new] at hop
  have HOp := Lib.hid hop
  clear hw3 e3 hb3 hx3 hB3 hrd hop
  go_wp2_with fail
  refine HOp.out.mono ?_
  rintro e w4 (⟨h6, -⟩ | ⟨-, z, x, U, rfl, hz, hsw, hzU, hU, hv, ho⟩)
  · exact absurd h6 (by decide)
  have hr4 := HRD.out
  have hBU : ¬ U (w1.heap.size + 1) := fun h => (hU _ h).elim hr4.nB fun h => by have := hr4.run.lt; omega
  have hyU : ¬ U w1.heap.size := fun h => (hU _ h).elim hr4.ny fun h => by have := hr4.ref.lt; omega
  have hBel : Below w0.heap.size w0 w4 := hr4.bel.trans (ho.below (fun k hk hT => by have := hr4.aT k hT; omega) hr4.bel.size)
  have hrun4 : Blk w4 (w1.heap.size + 1) 72 (runC d none w1.heap.size) := hr4.run.stays (ho.block _ hr4.run.lt hr4.nB)
  have href4 : Blk w4 w1.heap.size 77 (rC ⟨(0, 0), (0, 0), false⟩) := hr4.ref.stays (ho.block _ hr4.ref.lt hr4.ny)
  have hU0 : ∀ k, U k → w0.heap.size ≤ k := fun k hk => (hU k hk).elim (hr4.aT k) fun h => Nat.le_trans hr4.bel.size h
  have hsw' : Sw w4 U x d 1 qV (St.new 1073741824) none false := hsw
  have hrd : RunD w0 (w1.heap.size + 1) w1.heap.size d 1 none (St.new 1073741824) ⟨(0, 0), (0, 0), false⟩ w4 U := ⟨hsw'.disk, hU0, hBU, hyU, href4, hrun4, hr4.aB, hr4.ay, hBel⟩
  have HR4 := Lib.hid hrd
  have HS4 := Lib.hid hsw'
  have HV4 := Lib.hid hv
  have HzU := Lib.hid hzU
  have HU0 := Lib.hid hU0
  have HBU := Lib.hid hBU
  have HyU := Lib.hid hyU
  have Hz := Lib.hid (Nat.le_trans hr4.bel.size hz)
  clear hz hsw hzU hU hv ho hr4 hBU hyU hBel hrun4 href4 hU0 hsw' hrd HOp c0
  go_wp2_with fail
  refine (cGet_any HV4.out HS4.out).mono ?_
  rintro e w5 ⟨rfl, hb5⟩
  have HR5 := Lib.hid (HR4.out.below hb5)
  have c1 : w5.cell? ⟨w1.heap.size + 1, 1, none⟩ = some (.pointer none) := by rw [HR5.out.run.cell]; rfl
  have f1 : w5.frozen? ⟨w1.heap.size + 1, 1, none⟩ = false := HR5.out.run.frozen 1
  have HFin := Lib.hid (HR5.out.put (HS4.out.below hb5) (HV4.out.keep hb5) HzU.out (fun k hk => .inr (HU0.out k hk)) HBU.out HyU.out Hz.out)
  have e6 : hv (hdOf none) = .agg #[.int .u64 0, .int .u64 0] := rfl
  rw [e6]
  clear hb5 e6
  go_wp2
  go_ret
  exact ⟨_, _, _, _, _, _, rfl, HFin.out⟩
end Go.Proofs.Ytboongdoggggoaa

/- append([]bool{true}, keep...). -/
namespace Go.Proofs.Ytboongdoggggoaa
set_option maxRecDepth 20000
open Go.RowKit Go.Maps DiskMath SwapMath CellMath BinMath Reg

theorem info_bool : (Try.prog.info? 4).map (fun i => (i.zero, i.size, i.bytes)) = some (some (.bool false), 1, 1) := by kernel_rfl

/-- Choices in memory of the call's own. -/
def Own2 (B : Nat) (bs : List Bool) (v : Value) (w : World) : Prop := w.ownsRow B 4 1 v bs.length (bs.map .bool)

theorem Own2.stays {B : Nat} {bs : List Bool} {v : Value} {w w' : World} (h : Own2 B bs v w) (hb : Below w.heap.size w w') : Own2 B bs v w' := ownRow_same h fun k hk => hb.block k (World.ownsRow.lt h k hk).2

theorem Own2.bls {B : Nat} {bs : List Bool} {v : Value} {w : World} (h : Own2 B bs v w) : ∃ a c, v = .slice a bs.length c ∧ Bls w (.slice a bs.length c) bs := by
  rcases h.2 with ⟨rfl, h0⟩ | ⟨g, cap, cur, rfl, hB, hg, r⟩
  · have hb : bs = [] := List.eq_nil_of_length_eq_zero h0
    subst hb
    exact ⟨none, 0, rfl, none, 0, rfl, fun i b hi => by simp at hi⟩
  · refine ⟨_, _, rfl, some ⟨g, 0, none⟩, cap, rfl, fun i b hi => ⟨_, rfl, ?_⟩⟩
    have hl := (List.getElem?_eq_some_iff.1 hi).1
    have h2 := World.ownsRow.cellAt h i (by simpa using hl)
    rw [addr_add, Nat.zero_add]
    rw [h2]
    simp [hi]

theorem append_keep {w : World} {B : Nat} {v : Value} {ka : Option Addr} {nk ck : Nat} {ks : List Bool} (hB : B ≤ w.heap.size) (h : Own2 B [true] v w) (hk : Bls w (.slice ka nk ck) ks) (hnk : ks.length = nk) (hkn : ka = none → ck = 0) (hnk2 : nk ≤ 140737488351232) :
    ∃ v' w', (Builtin.append_ #[64, 64] 64 #[v, .slice ka nk ck]).run Try.prog w = .ok v' w' ∧ Own2 B (true :: ks) v' w' ∧ w.grownBy w' v.ownBlock := by
  obtain ⟨i0, hi, hz0, hz1, hz2⟩ := info_parts info_bool
  cases ka with
  | none =>
    have hc := hkn rfl
    subst hc
    obtain ⟨a, c, e, hcell⟩ := hk
    have hks : ks = [] := by
      cases ks with
      | nil => rfl
      | cons b r =>
        obtain ⟨ad, h1, -⟩ := hcell 0 b rfl
        cases e
        cases h1
    subst hks
    simp at hnk
    subst hnk
    exact ⟨v, w, run_append_owned_none (P := Try.prog) (w := w) B _ _ _ i0 1 Try.underlying64 hi v 1 [.bool true] h, h, ⟨rfl, rfl, rfl, Nat.le_refl _, fun _ _ _ => rfl⟩⟩
  | some ad =>
    obtain ⟨a, c, e, hcell⟩ := hk
    cases e
    obtain ⟨v', w', hr, h1, h2, -⟩ := run_append_own (P := Try.prog) w B 64 64 4 i0 (.bool false) 1 1 Try.underlying64 hi hz0 hz1 hz2 rfl (by decide) v 1 [.bool true] h ad ks.length ck (ks.map .bool) (by simp) (fun j u hj => by
      rw [List.getElem?_map] at hj
      obtain ⟨b, hb, rfl⟩ := Option.map_eq_some_iff.1 hj
      obtain ⟨ad', e', h3⟩ := hcell j b hb
      cases e'
      exact h3) (fun u hu => by
      obtain ⟨b, -, rfl⟩ := List.mem_map.1 hu
      rfl) (by unfold maxLen; omega) (by omega) hB
    refine ⟨v', w', hr, ?_, h2⟩
    unfold Own2
    rw [List.length_cons, Nat.add_comm ks.length 1]
    exact h1

section
variable {ops : Array Oper} {tab : List (List Nat)} {fin : List Tmp} {G : World → Prop} {f : Tmp → Fact} {i : Nat} {o : Oper}

theorem ask_build_true (hG : ∀ W W', G W → Below W.heap.size W W' → G W') (hg : guardOk ops f o) (B : Nat) (hBG : ∀ W, G W → B ≤ W.heap.size) (ho : o.op = .buildSlice 64 1 #[(0, .const (.bool true))]) (hd : ∀ k, o.dst = some k → f k = .sat (Own2 B [true]) (fun _ _ _ h hb => h.stays hb)) : Asked Try.prog ops tab fin G f i o := by
  refine ask_grow hG hg fun x W hW hk => ?_
  have hz : (zeroValue 4).run Try.prog W = .ok (.bool false) W := by kernel_rfl
  have hr : (Instr.buildSlice 64 1 #[(0, .bool true)]).run Try.prog W = .ok (.slice (some ⟨W.heap.size, 0, none⟩) 1 1) (W.alloc (.cells #[.bool true] 4)) := by
    simp [Instr.buildSlice, run_underlying Try.underlying64, Result.andThen, hz, Instr.fill, newRow, Value.cells, range_one]
  refine gives_value (v := .slice (some ⟨W.heap.size, 0, none⟩) 1 1) (w' := W.alloc (.cells #[.bool true] 4)) ?_ ⟨(Below.refl _ _).alloc (Nat.le_refl _) _, fun k hk => by
    rw [hd k hk]
    exact ⟨rfl, .inr ⟨W.heap.size, 1, #[.bool true], rfl, hBG W hW, heap_alloc_new W _, Nat.le_refl _, by unfold maxLen; omega, rfl, rfl⟩⟩⟩
  simp [execOp, ho, hr, evalBy, Result.andThen]

theorem ask_append_keep (hg : guardOk ops f o) (hst : stillBut ops tab fin f i o = true) (s t : Operand) (B : Nat) {ka : Option Addr} {nk ck : Nat} {ks : List Bool} (hty : o.type = 64)
    (ho : o.op = .call { callee := .builtin .append, args := #[s, t], argTypes := #[64, 64] }) (hs : opFact f s = .sat (Own2 B [true]) (fun _ _ _ h hb => h.stays hb)) (ht : opFact f t = .is (.slice ka nk ck)) (hk : ∀ W, G W → Bls W (.slice ka nk ck) ks) (hnk : ks.length = nk) (hkn : ka = none → ck = 0) (hnk2 : nk ≤ 140737488351232)
    (hBG : ∀ W, G W → B ≤ W.heap.size) (hGg : ∀ W W' row, G W → W.grownBy W' row → (∀ k, row = some k → B ≤ k) → G W')
    (hd : ∀ k, o.dst = some k → f k = .sat (Own2 B (true :: ks)) (fun _ _ _ h hb => h.stays hb)) : Asked Try.prog ops tab fin G f i o := by
  refine ask_write hg hst fun x W hW hkk => ?_
  have h1 := told_op hkk s (by rw [ho]; simp [Op.operands, Call.operands])
  rw [hs] at h1
  have e2 := evalBy_opVal hkk t (by rw [ho]; simp [Op.operands, Call.operands]) ht
  obtain ⟨v', w', hr, h2, h3⟩ := append_keep (hBG W hW) h1 (hk W hW) hnk hkn hnk2
  refine gives_value (v := v') (w' := w') ?_ ⟨hGg W w' _ hW h3 (fun k hk => (World.ownsRow.lt h1 k hk).1), fun k hk => ?_⟩
  · simp [execOp, ho, resolve, invoke, builtin, hty, e2, hr, Result.andThen]
  · rw [hd k hk]
    exact h2
end

end Go.Proofs.Ytboongdoggggoaa

/- A run between the law's calls, step by step. -/
namespace Go.Proofs.Ytboongdoggggoaa
set_option maxRecDepth 20000
open Go.RowKit Go.Maps DiskMath SwapMath CellMath BinMath Reg

/-- A run whose cell has h. -/
structure Play (w0 : World) (B y d : Nat) (h : Hd) (W : World) : Prop where
  ex : ∃ z x s t U, Run w0 B y d 9 z x s t false ⟨h, h, false⟩ W U ∧ Fresh qV [] s t ∧ hdOf t = h ∧ s.room = 1073741824 ∧ s.fuse = -1
/-- With a fuse. -/
structure Fused (w0 : World) (B y d : Nat) (h : Hd) (W : World) : Prop where
  ex : ∃ z x s t U, Run w0 B y d 9 z x s t false ⟨h, h, false⟩ W U ∧ Fresh qV [] s t ∧ hdOf t = h ∧ s.room = 1073741824
/-- Behind a set with a fuse. -/
structure SetDone (w0 : World) (B y d : Nat) (W : World) : Prop where
  ex : ∃ p s V T, RunD w0 B y d 12 p s V W T ∧ s.room = 1073741824 ∧ ∀ keep torn, ∃ t, Fresh qV [] (s.crash keep torn) t ∧ (hdOf t = V.has ∨ hdOf t = V.may)
/-- Behind a crash. -/
structure Crashed (w0 : World) (B y d : Nat) (hh : Hd) (W : World) : Prop where
  ex : ∃ p s t V T, RunD w0 B y d 8 p s V W T ∧ Fresh qV [] s t ∧ hdOf t = hh ∧ (hdOf t = V.has ∨ hdOf t = V.may) ∧ s.room = 1073741824 ∧ s.fuse = -1

section
variable {w0 W W' : World} {B y d : Nat} {h g hh : Hd}

theorem Play.below (hp : Play w0 B y d h W) (hb : Below W.heap.size W W') : Play w0 B y d h W' := by
  obtain ⟨z, x, s, t, U, h1, h2⟩ := hp.ex
  exact ⟨z, x, s, t, U, h1.below hb, h2⟩
theorem Fused.below (hp : Fused w0 B y d h W) (hb : Below W.heap.size W W') : Fused w0 B y d h W' := by
  obtain ⟨z, x, s, t, U, h1, h2⟩ := hp.ex
  exact ⟨z, x, s, t, U, h1.below hb, h2⟩
theorem SetDone.below (hp : SetDone w0 B y d W) (hb : Below W.heap.size W W') : SetDone w0 B y d W' := by
  obtain ⟨p, s, V, T, h1, h2⟩ := hp.ex
  exact ⟨p, s, V, T, h1.below hb, h2⟩
theorem Crashed.below (hp : Crashed w0 B y d hh W) (hb : Below W.heap.size W W') : Crashed w0 B y d hh W' := by
  obtain ⟨p, s, t, V, T, h1, h2⟩ := hp.ex
  exact ⟨p, s, t, V, T, h1.below hb, h2⟩

theorem Play.bel (hp : Play w0 B y d h W) : Below w0.heap.size w0 W := by
  obtain ⟨z, x, s, t, U, h1, h2⟩ := hp.ex
  exact h1.bel
theorem Fused.bel (hp : Fused w0 B y d h W) : Below w0.heap.size w0 W := by
  obtain ⟨z, x, s, t, U, h1, h2⟩ := hp.ex
  exact h1.bel
theorem SetDone.bel (hp : SetDone w0 B y d W) : Below w0.heap.size w0 W := by
  obtain ⟨p, s, V, T, h1, h2⟩ := hp.ex
  exact h1.bel
theorem Crashed.bel (hp : Crashed w0 B y d hh W) : Below w0.heap.size w0 W := by
  obtain ⟨p, s, t, V, T, h1, h2⟩ := hp.ex
  exact h1.bel

/-- The cells of the run that are known. -/
theorem Play.cells (hp : Play w0 B y d h W) : W.cell? ⟨B, 0, none⟩ = some (dp d) ∧ W.cell? ⟨B, 2, none⟩ = some (.pointer (some ⟨y, 0, none⟩)) := by
  obtain ⟨z, x, s, t, U, h1, h2⟩ := hp.ex
  exact ⟨by rw [h1.run.cell]; rfl, by rw [h1.run.cell]; rfl⟩
theorem Crashed.cells (hp : Crashed w0 B y d h W) : W.cell? ⟨B, 0, none⟩ = some (dp d) ∧ W.cell? ⟨B, 2, none⟩ = some (.pointer (some ⟨y, 0, none⟩)) := by
  obtain ⟨p, s, t, V, T, h1, h2⟩ := hp.ex
  exact ⟨by rw [h1.run.cell]; rfl, by rw [h1.run.cell]; rfl⟩
theorem SetDone.run (hp : SetDone w0 B y d W) : ∃ p, Blk W B 72 (runC d p y) := by
  obtain ⟨p, s, V, T, h1, h2⟩ := hp.ex
  exact ⟨p, h1.run⟩
theorem Crashed.run (hp : Crashed w0 B y d h W) : ∃ p, Blk W B 72 (runC d p y) := by
  obtain ⟨p, s, t, V, T, h1, h2⟩ := hp.ex
  exact ⟨p, h1.run⟩
theorem Play.ref (hp : Play w0 B y d h W) : Blk W y 77 (rC ⟨h, h, false⟩) := by
  obtain ⟨z, x, s, t, U, h1, h2⟩ := hp.ex
  exact h1.ref

theorem Play.crashed (hp : Play w0 B y d h W) : Crashed w0 B y d h W := by
  obtain ⟨z, x, s, t, U, h1, h2, h3, h4, h5⟩ := hp.ex
  exact ⟨_, s, t, _, U, h1.base.tight (by have := h2.1.counts; omega) (by omega), h2, h3, .inl h3, h4, h5⟩

theorem play_begin (hb : Below w0.heap.size w0 W) : Calls Try.prog 34 #[] W fun e W' => ∃ B y d, e = .returned (.pointer (some ⟨B, 0, none⟩)) ∧ Play w0 B y d (0, 0) W' := by
  refine (begin_any hb).mono ?_
  rintro e w' ⟨B, y, d, z, x, U, rfl, h1⟩
  have hi := fresh_new qV 1073741824
  exact ⟨B, y, d, rfl, z, x, St.new 1073741824, none, U, h1.tight (by have := hi.1.counts; omega) (by omega), hi, rfl, rfl, rfl⟩

theorem play_set (hp : Play w0 B y d h W) (hg : okH g) : Calls Try.prog 35 #[.pointer (some ⟨B, 0, none⟩), hv g] W fun e W' => e = .returned (.bool true) ∧ Play w0 B y d g W' := by
  obtain ⟨z, x, s, t, U, h1, h2, rfl, h3, h4⟩ := hp.ex
  refine (rset_any h1 h2.1 (by rw [h3]; decide) hg (by omega)).mono ?_
  rintro e w' ⟨rfl, s', U', r1, r2, r3⟩
  rcases r3 with ⟨q1, q2⟩ | ⟨q1, -⟩
  · exact ⟨rfl, z, x, s', _, U', q2.tight (by have := q1.1.counts; omega) (by omega), q1, hdOf_txt g hg, by rw [r1]; exact h3, r2 h4⟩
  · exact absurd h4 q1

theorem play_fuse (hp : Play w0 B y d h W) (n : Int) (hn : n ≤ 9223372036854775807) : Calls Try.prog 36 #[dp d, .int .i64 n] W fun e W' => e = .returned (.tuple #[]) ∧ Fused w0 B y d h W' := by
  obtain ⟨z, x, s, t, U, h1, h2, h3, h4, h5⟩ := hp.ex
  refine (run_fuse h1 n hn).mono ?_
  rintro e w' ⟨rfl, U', r⟩
  exact ⟨rfl, z, x, _, t, U', r, h2.fuse _, h3, h4⟩

theorem fused_set (hp : Fused w0 B y d h W) (hg : okH g) : Calls Try.prog 35 #[.pointer (some ⟨B, 0, none⟩), hv g] W fun e W' => e = .returned (.bool true) ∧ SetDone w0 B y d W' := by
  obtain ⟨z, x, s, t, U, h1, h2, rfl, h3⟩ := hp.ex
  refine (rset_any h1 h2.1 (by rw [h3]; decide) hg (by omega)).mono ?_
  rintro e w' ⟨rfl, s', U', r1, r2, r3⟩
  rcases r3 with ⟨q1, q2⟩ | ⟨-, q1, q2⟩
  · exact ⟨rfl, _, s', _, U', q2.base, by rw [r1]; exact h3, fun keep torn => ⟨_, q1.1.crash keep torn, .inl (hdOf_txt g hg)⟩⟩
  · refine ⟨rfl, _, s', _, U', q2.base, by rw [r1]; exact h3, fun keep torn => ?_⟩
    rcases q1.crash keep torn with q | q
    · exact ⟨t, q, .inl rfl⟩
    · exact ⟨_, q, .inr (hdOf_txt g hg)⟩

theorem done_crash (hp : SetDone w0 B y d W) {ka : Option Addr} {nk ck : Nat} {ks : List Bool} (torn : Int) (hk : Bls W (.slice ka nk ck) ks) (hnk : ks.length = nk) (hnk2 : nk ≤ 9223372036854775807) :
    Calls Try.prog 37 #[dp d, .slice ka nk ck, .int .i64 torn] W fun e w' => e = .returned (.tuple #[]) ∧ ∃ hh, Crashed w0 B y d hh w' := by
  obtain ⟨p, s, V, T, h1, h2, h3⟩ := hp.ex
  refine (run_crash h1 torn hk hnk hnk2).mono ?_
  rintro e w' ⟨rfl, T', r⟩
  obtain ⟨t, q1, q2⟩ := h3 ks torn
  exact ⟨rfl, hdOf t, p, _, t, V, T', r.tight (by have := q1.1.counts; omega) (by omega), q1, rfl, q2, h2, rfl⟩

theorem play_crash (hp : Play w0 B y d h W) {ka : Option Addr} {nk ck : Nat} {ks : List Bool} (torn : Int) (hk : Bls W (.slice ka nk ck) ks) (hnk : ks.length = nk) (hnk2 : nk ≤ 9223372036854775807) :
    Calls Try.prog 37 #[dp d, .slice ka nk ck, .int .i64 torn] W fun e w' => e = .returned (.tuple #[]) ∧ Crashed w0 B y d h w' := by
  obtain ⟨z, x, s, t, U, h1, h2, h3, h4, h5⟩ := hp.ex
  refine (run_crash h1.base torn hk hnk hnk2).mono ?_
  rintro e w' ⟨rfl, T', r⟩
  have q1 := h2.1.crash ks torn
  exact ⟨rfl, _, _, t, _, T', r.tight (by have := q1.1.counts; omega) (by omega), q1, h3, .inl h3, h4, rfl⟩

/-- The cell of the run. -/
theorem Play.get1 (hp : Play w0 B y d h W) : ∃ z, W.cell? ⟨B, 1, none⟩ = some (.pointer (some ⟨z, 0, none⟩)) ∧ ∀ W', Below W.heap.size W W' → Calls Try.prog 39 #[.pointer (some ⟨z, 0, none⟩)] W' fun e w' => e = .returned (hv h) ∧ Below W'.heap.size W' w' := by
  obtain ⟨z, x, s, t, U, h1, h2, rfl, h3⟩ := hp.ex
  exact ⟨z, by rw [h1.run.cell]; rfl, fun W' hb => cGet_any (h1.vault.keep hb) (h1.sw.below hb)⟩

theorem crashed_open (hp : Crashed w0 B y d hh W) {ka : Option Addr} {nk ck : Nat} {ks : List Bool} (torn : Int) (hk : Bls w0 (.slice ka nk ck) ks) (hnk : ks.length = nk) (hnk2 : nk ≤ 9223372036854775807) :
    Calls Try.prog 38 #[.pointer (some ⟨B, 0, none⟩), .slice ka nk ck, .int .i64 torn] W fun e W' => e = .returned (.bool true) ∧ Play w0 B y d hh W' := by
  obtain ⟨p, s, t, V, T, h1, h2, rfl, h3, h4, h5⟩ := hp.ex
  refine (ropen_any h1 h2 h3 torn hk hnk hnk2).mono ?_
  rintro e w' ⟨rfl, s', z, x, U, r1, r2, r3, r4, -, -⟩
  exact ⟨rfl, z, x, s', t, U, r4, r3, rfl, by rw [r1]; exact h4, r2 h5⟩
end
end Go.Proofs.Ytboongdoggggoaa

/- Terms and votes, and choices, that came in. -/
namespace Go.Proofs.Ytboongdoggggoaa
set_option maxRecDepth 20000
open Go.ChangeShapes Go.WideShapes Go.ChangeAt Go.RowKit Go.Deep Go.Maps DiskMath SwapMath CellMath

theorem int_u64 (n : Int) (h : (Lit.int .u64 n).wf = true) : ∃ k : Nat, n = k ∧ k < 18446744073709551616 := by
  have := bounds_u64 h
  exact ⟨n.toNat, by omega, by omega⟩

/-- A term and a vote as cells. -/
abbrev hc (h : Hd) : Array Value := #[.int .u64 (h.1 : Int), .int .u64 (h.2 : Int)]

theorem hard_open {H : Type} {enc : TypeId × Value → H} {W : World} {base : Nat} {spare : Nat → Bool} {held : Bool} {fuel : Nat} {cs : List Value} {x : DataW H × List MemPlace}
    (h : DataW.trod enc Try.prog W base spare held fuel 63 cs = some x) : ∃ g : Hd, okH g ∧ cs = (hc g).toList := by
  obtain ⟨xs, n', -, -, hlen, hxl, hfld⟩ := DataW.trod_struct Try.underlying63 h
  have f0 : DataW.trod enc Try.prog W base spare held n' 33 ((cs.drop 0).take (Try.prog.cellsOf 33)) = xs[0]? := hfld 0 { name := "Term", type := 33, offset := 0, embedded := false, tag := "", pkgPath := "", byteOffset := 0 } rfl
  have f1 : DataW.trod enc Try.prog W base spare held n' 33 ((cs.drop 1).take (Try.prog.cellsOf 33)) = xs[1]? := hfld 1 { name := "Vote", type := 33, offset := 1, embedded := false, tag := "", pkgPath := "", byteOffset := 8 } rfl
  have c0 : Try.prog.cellsOf 33 = 1 := by kernel_rfl
  have cr : Try.prog.cellsOf 63 = 2 := by kernel_rfl
  rw [cr] at hlen
  rw [c0] at f0 f1
  obtain ⟨u0, u1, rfl⟩ : ∃ u0 u1, cs = [u0, u1] := by
    match cs, hlen with
    | [u0, u1], _ => exact ⟨u0, u1, rfl⟩
  have l2 : xs.length = 2 := hxl
  rw [List.getElem?_eq_getElem (by omega)] at f0 f1
  obtain ⟨k0, e0, -, w0⟩ := DataW.trod_int Try.underlying33 f0
  obtain ⟨k1, e1, -, w1⟩ := DataW.trod_int Try.underlying33 f1
  simp at e0 e1
  obtain ⟨n0, rfl, h0⟩ := int_u64 k0 w0
  obtain ⟨n1, rfl, h1⟩ := int_u64 k1 w1
  subst e0 e1
  exact ⟨(n0, n1), ⟨h0, h1⟩, rfl⟩

/-- Terms and votes in a row. -/
def Hls (w : World) (a : Option Addr) (L : List Hd) : Prop := ∀ (i : Nat) (h : Hd), L[i]? = some h → okH h ∧ ∃ ad, a = some ad ∧ w.cell? (ad.add (i * 2)) = some (.int .u64 (h.1 : Int)) ∧ w.cell? ⟨(ad.add (i * 2)).block, (ad.add (i * 2)).off + 1, none⟩ = some (.int .u64 (h.2 : Int))

theorem Hls.below {w w' : World} {a : Option Addr} {L : List Hd} (h : Hls w a L) (hb : Below w.heap.size w w') : Hls w' a L := fun i g hg => by
  obtain ⟨h0, ad, e, h1, h2⟩ := h i g hg
  have hcc : ∀ {p : Addr} {u : Value}, w.cell? p = some u → w'.cell? p = some u := fun {p u} hp => by rw [hb.cell (World.block_lt_of_cell? w _ hp)]; exact hp
  exact ⟨h0, ad, e, hcc h1, hcc h2⟩

theorem hards_open {H : Type} {enc : TypeId × Value → H} {W : World} {a1 : Option Addr} {len1 cap1 fuel : Nat} {x : DataW H × List MemPlace}
    (hf : DataW.trod enc Try.prog W 0 (fun _ => true) true fuel 61 (Value.slice a1 len1 cap1).cells.toList = some x) : ∃ L : List Hd, L.length = len1 ∧ Hls W a1 L ∧ len1 ≤ cap1 ∧ cap1 ≤ 9223372036854775807 := by
  rcases open_slice Try.underlying61 hf with ⟨hcs, _⟩ | ⟨ad, ln, c, m, n, D, Pl, hcs, _, hl, hm, hmm, hx, hel⟩
  · simp [Value.cells] at hcs
    obtain ⟨rfl, rfl, rfl⟩ := hcs
    exact ⟨[], rfl, fun i o hi => (by simp at hi), Nat.le_refl _, by omega⟩
  · simp [Value.cells] at hcs
    obtain ⟨rfl, rfl, rfl⟩ := hcs
    have hC : Try.prog.cellsOf 63 = 2 := by kernel_rfl
    simp only [if_true] at hmm
    have hall : ∀ i, ∃ g : Hd, i < len1 → okH g ∧ W.cell? (ad.add (i * 2)) = some (.int .u64 (g.1 : Int)) ∧ W.cell? ⟨(ad.add (i * 2)).block, (ad.add (i * 2)).off + 1, none⟩ = some (.int .u64 (g.2 : Int)) := fun i => by
      by_cases hi : i < len1
      · obtain ⟨cs', h1, h2⟩ := hel i (by omega)
        rw [hC] at h1
        obtain ⟨-, hlen, hcell⟩ := World.cells?_some h1
        obtain ⟨g, hg, rfl⟩ := hard_open h2
        have z0 := hcell 0 (by decide)
        have z1 := hcell 1 (by decide)
        refine ⟨g, fun _ => ⟨hg, ?_, ?_⟩⟩
        · simpa [Addr.add] using z0
        · simpa [Addr.add] using z1
      · exact ⟨(0, 0), fun h => absurd h hi⟩
    refine ⟨(List.range len1).map fun i => Classical.choose (hall i), by simp, fun i h hi => ?_, by omega, by unfold maxLen at hm; omega⟩
    rw [List.getElem?_map] at hi
    obtain ⟨j, hj, rfl⟩ := Option.map_eq_some_iff.1 hi
    obtain ⟨hj1, hj2⟩ := List.getElem?_eq_some_iff.1 hj
    simp at hj1 hj2
    subst hj2
    obtain ⟨e1, e2, e3⟩ := Classical.choose_spec (hall i) hj1
    exact ⟨e1, ad, rfl, e2, e3⟩

/-- Choices that came in, and how many. -/
theorem open_bls {H : Type} {enc : TypeId × Value → H} {W : World} {a1 : Option Addr} {len1 cap1 fuel : Nat} {d1 : DataW H} {p1 : List MemPlace}
    (hf : DataW.trod enc Try.prog W 0 (fun _ => true) true fuel 64 (Value.slice a1 len1 cap1).cells.toList = some (d1, p1)) : ∃ ks : List Bool, ks.length = len1 ∧ Bls W (.slice a1 len1 cap1) ks ∧ (a1 = none → cap1 = 0) ∧ ∀ {ts : List TypeId} {ds : List (DataW H)} {j : Nat}, (DataW.weightsEach Try.prog ts ds).all (· ≤ reachBytes) = true → ts[j]? = some 64 → ds[j]? = some d1 → len1 ≤ 140737488351232 := by
  have f5 : DataW.trod enc Try.prog W 0 (fun _ => true) true fuel 64 [Value.slice a1 len1 cap1] = some (d1, p1) := hf
  rcases open_slice1 Try.underlying64 (by kernel_rfl) f5 with ⟨hcs, _⟩ | ⟨x', l', c', m', n'', V, D', Pl', hcs, _, hl', hm', hmm', hxd, hx'⟩
  · simp at hcs
    obtain ⟨rfl, rfl, rfl⟩ := hcs
    exact ⟨[], rfl, ⟨none, 0, rfl, fun i b h => (by simp at h)⟩, fun _ => rfl, fun _ _ _ => by omega⟩
  · simp at hcs
    obtain ⟨rfl, rfl, rfl⟩ := hcs
    have hd : d1 = _ := (Prod.mk.inj hxd).1
    simp only [if_true] at hmm'
    obtain ⟨B, hB⟩ := choose_lt (α := Bool) (n := len1) (p := fun i b => V i = .bool b) (fun i hi => by
      obtain ⟨b, h1, -⟩ := DataW.trod_bool Try.underlying4 (hx' i (by omega)).2
      exact ⟨b, by simpa using h1⟩)
    refine ⟨(List.range len1).map B, by simp, ⟨some x', cap1, by simp, fun i b hi => ⟨x', rfl, ?_⟩⟩, fun h => (by cases h), fun h1 h2 h3 => ?_⟩
    · rw [List.getElem?_map] at hi
      obtain ⟨j, hj, rfl⟩ := Option.map_eq_some_iff.1 hi
      obtain ⟨hj1, hj2⟩ := List.getElem?_eq_some_iff.1 hj
      simp at hj1 hj2
      subst hj2
      rw [(hx' i (by omega)).1, hB i hj1]
    · rw [hd] at h3
      have hs2 := sized_slice h1 h2 h3 Try.underlying64
      have hb : Try.prog.bytesOf 4 = 1 := by kernel_rfl
      rw [hb] at hs2
      simp only [List.length_map, List.length_range, reachBytes] at hs2
      omega
end Go.Proofs.Ytboongdoggggoaa

/- CellAll: the walk. -/
namespace Go.Proofs.Ytboongdoggggoaa
set_option maxRecDepth 20000
open Go.RowKit Go.Maps DiskMath SwapMath CellMath BinMath Reg

theorem hards_to (a : Option Addr) (n c : Nat) (hk : 6 ≤ c) (W : World) : (Instr.sliceAt 61 (.slice a n c) none (some (.int .i64 6)) none).run Try.prog W = .ok (.slice a 6 c) W := by
  have he : Try.prog.elem 61 = 63 := by kernel_rfl
  have hs : (Go.sizeOf 63).run Try.prog W = .ok 2 W := by kernel_rfl
  have ht : Try.prog.underlying 61 = some (.slice (Try.prog.elem 61)) := by rw [he]; exact Try.underlying61
  rw [run_sliceAt_slice _ _ _ _ _ _ ht, run_slice_h _ _ _ _ _ ht .i64 6 (by omega) (by omega), he, hs]
  cases a with
  | none => simp [Result.andThen, sliced]
  | some ad => simp [Result.andThen, sliced, Addr.add]

theorem hards_index (W : World) (ad : Addr) (n cap i : Nat) (hi : i < n) : (Instr.indexAt 61 (.slice (some ad) n cap) (.int .i64 (i : Int))).run Try.prog W = .ok (.pointer (some (ad.add (i * 2)))) W := by
  have he : Try.prog.elem 61 = 63 := by kernel_rfl
  have hs : (Go.sizeOf 63).run Try.prog W = .ok 2 W := by kernel_rfl
  have ht : Try.prog.underlying 61 = some (.slice (Try.prog.elem 61)) := by rw [he]; exact Try.underlying61
  rw [run_indexAt_slice (h := ht), if_pos (by omega), he, hs]
  simp [Result.andThen]

theorem Hls.take {w : World} {a : Option Addr} {L : List Hd} (h : Hls w a L) (n : Nat) : Hls w a (L.take n) := fun i g hg => by
  rw [List.getElem?_take] at hg
  split at hg
  · exact h i g hg
  · cases hg

set_option maxHeartbeats 4000000 in
set_option maxRecDepth 100000 in
theorem cellAll_any {w : World} {a : Option Addr} {len cap : Nat} {L : List Hd} (hl : L.length = len) (hs : Hls w a L) (hlc : len ≤ cap) (hcap : cap ≤ 9223372036854775807) {g m : Hd} (hg : okH g) (hm : okH m)
    {ka : Option Addr} {nk ck : Nat} {ks : List Bool} (hk : Bls w (.slice ka nk ck) ks) (hnk : ks.length = nk) (hkn : ka = none → ck = 0) (hnk2 : nk ≤ 140737488351232) :
    Calls Try.prog 7 #[.slice a len cap, hv g, hv m, .slice ka nk ck] w fun e w' => e = .returned (.bool true) ∧ Below w.heap.size w w' := by
  obtain ⟨g1, g2⟩ := g
  obtain ⟨m1, m2⟩ := m
  have HL := Lib.hid hl
  have HG := Lib.hid hg
  have HM := Lib.hid hm
  have HNk := Lib.hid hnk
  have HKn := Lib.hid hkn
  have HNk2 := Lib.hid hnk2
  have hnk9 : Hid (nk ≤ 9223372036854775807) := Lib.hid (by omega)
  have HCap := Lib.hid hcap
  have HLc := Lib.hid hlc
  have HSw := Lib.hid hs
  have HKw := Lib.hid hk
  have hln : len ≤ 9223372036854775807 := by omega
  clear hl hs hg hm hk hnk hkn hnk2 hcap hlc
  go_enter Try.func7, Try.ntmps7
  go_wp2_with fail
  obtain ⟨W0, hW0⟩ : ∃ W0, W0 = (w.alloc (.cells #[.int .u64 (g1 : Int), .int .u64 (g2 : Int)] 63)).alloc (.cells #[.int .u64 (m1 : Int), .int .u64 (m2 : Int)] 63) := ⟨_, rfl⟩
  obtain ⟨b1, hb1⟩ : ∃ b1, b1 = w.heap.size := ⟨_, rfl⟩
  obtain ⟨b2, hb2⟩ : ∃ b2, b2 = b1 + 1 := ⟨_, rfl⟩
  have hx1 : Blk W0 b1 63 #[.int .u64 (g1 : Int), .int .u64 (g2 : Int)] := by
    rw [hW0, hb1]
    exact (Blk.new w _ _).keep ((Below.refl _ _).alloc (Nat.le_refl _) _)
  have hx2 : Blk W0 b2 63 #[.int .u64 (m1 : Int), .int .u64 (m2 : Int)] := by
    rw [hW0, hb2, hb1]
    have := Blk.new (w.alloc (.cells #[.int .u64 (g1 : Int), .int .u64 (g2 : Int)] 63)) 63 #[.int .u64 (m1 : Int), .int .u64 (m2 : Int)]
    simpa using this
  have hb00 : Below w.heap.size w W0 := by
    rw [hW0]
    exact ((Below.refl _ w).alloc (Nat.le_refl _) _).alloc (by simp) _
  rw [← hW0, ← hb1, ← hb2]
  have HX1 := Lib.hid hx1
  have HX2 := Lib.hid hx2
  have HS := Lib.hid (HSw.out.below hb00)
  have HK := Lib.hid (HKw.out.below hb00)
  have HFin := Lib.hid (fun (W : World) (hW : Below W0.heap.size W0 W) => hb00.trans (hW.mono hb00.size))
  have HC1 := Lib.hid (fun (W : World) (hW : Below W0.heap.size W0 W) => show W.cell? ⟨b1, 0, none⟩ = some (.int .u64 (g1 : Int)) ∧ W.cell? ⟨b1, 1, none⟩ = some (.int .u64 (g2 : Int)) from by
    have h := HX1.out.keep hW
    exact ⟨by rw [h.cell]; rfl, by rw [h.cell]; rfl⟩)
  clear hW0 hb1 hb2 hx1 hx2 hb00 HSw HKw
  refine (cawake_any W0).mono ?_
  rintro e w1 ⟨rfl, hb1⟩
  have HB1 := Lib.hid hb1
  clear hb1
  by_cases h6 : 6 < len
  · have q1 : (len : Int) > 6 := by omega
    have q2 : decide (6 < len) = true := by simpa using h6
    have hsl := fun W => hards_to a len cap (by have := HLc.out; omega) W
    go_wp2
    go_loopw [9] (fun s9 wr => ∃ j : Nat, j ≤ 5 ∧ s9 = .int .i64 j ∧ Hid (Below W0.heap.size W0 wr)) (fun s9 _ => 5 - (intOf s9).toNat)
    case atStart => exact ⟨0, by decide, rfl, HB1⟩
    case round =>
      obtain ⟨j, hj, rfl, HBj⟩ := hrel
      have j0 : (0 : Int) ≤ (j : Int) := Int.natCast_nonneg _
      clear HB1
      by_cases hj5 : j < 5
      · have j1 : (j : Int) < 5 := by omega
        obtain ⟨wj, hwj⟩ : ∃ wj : World, wj = wr := ⟨_, rfl⟩
        rw [← hwj] at HBj
        have HWj := Lib.hid hwj
        clear hwj
        go_wp2
        rw [← HWj.out]
        clear HWj
        go_loopw [10] (fun s10 wr => ∃ t : Nat, t ≤ 70 ∧ s10 = .int .i64 t ∧ Hid (Below W0.heap.size W0 wr)) (fun s10 _ => 70 - (intOf s10).toNat)
        case atStart => exact ⟨0, by decide, rfl, HBj⟩
        case round =>
          obtain ⟨t, ht, rfl, HBt⟩ := hrel
          have t0 : (0 : Int) ≤ (t : Int) := Int.natCast_nonneg _
          clear HBj
          by_cases ht70 : t < 70
          · have t1 : (t : Int) < 70 := by omega
            go_wp2_with fail
            refine (play_begin HBt.out).mono ?_
            rintro e w4 ⟨B, y, d, rfl, hp0⟩
            have HP0 := Lib.hid hp0
            clear hp0
            go_wp2
            go_loopw [12] (fun s12 wr => ∃ (i : Nat) (h : Hd), i ≤ 6 ∧ s12 = .int .i64 i ∧ Hid (Play W0 B y d h wr)) (fun s12 _ => 6 - (intOf s12).toNat)
            case atStart => exact ⟨0, (0, 0), Nat.zero_le _, rfl, HP0⟩
            case round =>
              obtain ⟨i, h, hi, rfl, HP⟩ := hrel
              have i0 : (0 : Int) ≤ (i : Int) := Int.natCast_nonneg _
              clear HP0
              by_cases hlt : i < 6
              · have i1 : (i : Int) < 6 := by omega
                have i2 : decide (i < 6) = true := by simpa using hlt
                obtain ⟨o, ho⟩ : ∃ o, (L)[i]? = some o := ⟨(L)[i]'(by have := HL.out; simp; omega), List.getElem?_eq_getElem _⟩
                obtain ⟨hok, ad, rfl, c0, c1⟩ := HS.out i o ho
                have hidx : ∀ W, (Instr.indexAt 61 (.slice (some ad) 6 cap) (.int .i64 (i : Int))).run Try.prog W = .ok (.pointer (some (ad.add (i * 2)))) W := fun W => hards_index W ad 6 cap i hlt
                obtain ⟨p, hp⟩ : ∃ p, p = ad.add (i * 2) := ⟨_, rfl⟩
                rw [← hp] at hidx c0 c1
                have hcc : ∀ {q : Addr} {u : Value}, W0.cell? q = some u → wr.cell? q = some u := fun {q u} hq => by rw [HP.out.bel.cell (World.block_lt_of_cell? W0 _ hq)]; exact hq
                replace c0 := hcc c0
                replace c1 := hcc c1
                have HSt := Lib.hid (play_set HP.out hok)
                obtain ⟨o1, o2⟩ := o
                clear hcc hp ho hok
                go_wp2_with fail
                refine HSt.out.mono ?_
                rintro e w5 ⟨rfl, hp5⟩
                have HP5 := Lib.hid hp5
                clear hp5 HSt c0 c1 hidx i2
                go_wp2
                go_roundw
                case rel => exact ⟨i + 1, (o1, o2), by omega, by go_num, HP5⟩
                case measure => simp [intOf]; omega
              · have i1 : ¬ (i : Int) < 6 := by omega
                have i2 : decide (i < 6) = false := by simpa using hlt
                obtain ⟨k0, k2⟩ := HP.out.cells
                have HFu := Lib.hid (play_fuse HP.out (j : Int) (by omega))
                go_wp2_with fail
                clear k0 k2
                refine HFu.out.mono ?_
                rintro e w6 ⟨rfl, hf6⟩
                have HF6 := Lib.hid hf6
                obtain ⟨c0, c1⟩ := HC1.out w6 hf6.bel
                clear hf6 HFu HP i2
                have HSt := Lib.hid (fused_set HF6.out HG.out)
                go_wp2_with fail
                clear c0 c1
                refine HSt.out.mono ?_
                rintro e w7 ⟨rfl, hd7⟩
                have HD7 := Lib.hid hd7
                clear hd7 HSt HF6
                go_upto_region 22 with fail
                obtain ⟨p7, hrn⟩ := HD7.out.run
                have HRn := Lib.hid hrn
                have hG7 : ∀ W W' : World, Below w7.heap.size w7 W → Below W.heap.size W W' → Below w7.heap.size w7 W' := fun W W' h h' => h.trans (h'.mono h.size)
                have hQA : ∀ W W' : World, (∃ hh, Play W0 B y d hh W) → Below W.heap.size W W' → (∃ hh, Play W0 B y d hh W') := fun W W' h hb => by
                  obtain ⟨hh, h⟩ := h
                  exact ⟨hh, h.below hb⟩
                have hQM : ∀ W W' : World, Play W0 B y d (m1, m2) W → Below W.heap.size W W' → Play W0 B y d (m1, m2) W' := fun W W' h hb => h.below hb
                clear hrn
                refine region_tails_by 8 [(54, .is (.pointer (some ⟨B, 0, none⟩))), (55, .is (.pointer (some ⟨B, 0, none⟩))), (56, .is (.pointer (some ⟨B, 0, none⟩))), (57, .is (.pointer (some ⟨d, 0, none⟩))), (58, (.sat (Own2 w7.heap.size [true]) (fun _ _ _ h hb => h.stays hb))), (59, .is (.slice ka nk ck)), (60, (.sat (Own2 w7.heap.size (true :: ks)) (fun _ _ _ h hb => h.stays hb))), (61, .is (.int .i64 (t : Int)))] [0, 1, 2, 3, 4, 5, 6, 7, 8, 9, 10, 11, 12, 13, 14, 15, 16, 17, 18, 19, 20, 21, 22, 23, 57, 61, 60] (fun W => Below w7.heap.size w7 W) (by kernel_rfl) (by kernel_rfl) (by kernel_rfl) (by kernel_rfl) (by kernel_rfl) (by decide) (by kernel_rfl) (by kernel_rfl) ((Below.refl _ _).drew) ?_ ?_
                · refine ⟨?c0, ?c1, ?c2, ?c3, ?c4, ?c5, ?c6, ?c7, trivial⟩
                  case c0 => exact ask_copy (guard_none rfl) (.tmp 11) (.inl rfl) (by intro k hk; cases hk; rfl)
                  case c1 => exact ask_exec (guard_none rfl) (.pointer (some ⟨B, 0, none⟩)) rfl rfl (by intro k hk; cases hk; rfl) (fun W hW => by kernel_rfl)
                  case c2 => exact ask_field (guard_none rfl) _ (.tmp 55) 0 (.pointer (some ⟨B, 0, none⟩)) (.pointer (some ⟨B, 0, none⟩)) rfl rfl (by intro k hk; cases hk; rfl) (fun W => by kernel_rfl)
                  case c3 => exact ask_load (guard_none rfl) _ (.tmp 56) (.pointer (some ⟨B, 0, none⟩)) (.pointer (some ⟨d, 0, none⟩)) rfl rfl (by intro k hk; cases hk; rfl) (fun W hW => load_dp W _ _ (by rw [hW.cell (p := ⟨B, 0, none⟩) HRn.out.lt, HRn.out.cell]; rfl))
                  case c4 => exact ask_build_true hG7 (guard_none rfl) w7.heap.size (fun W hW => hW.size) rfl (by intro k hk; cases hk; rfl)
                  case c5 => exact ask_copy (guard_none rfl) (.tmp 3) (.inl rfl) (by intro k hk; cases hk; rfl)
                  case c6 => exact ask_append_keep (guard_none rfl) (by kernel_rfl) (.tmp 58) (.tmp 59) w7.heap.size rfl rfl rfl rfl (fun W hW => HK.out.below (HD7.out.bel.trans (hW.mono HD7.out.bel.size))) HNk.out HKn.out HNk2.out (fun W hW => hW.size) (fun W W' row hW hg hr => hW.grown hg hW.size hr) (by intro k hk; cases hk; rfl)
                  case c7 => exact ask_copy (guard_none rfl) (.tmp 10) (.inl rfl) (by intro k hk; cases hk; rfl)
                · intro af W8 hW hd' hs' hf'
                  have t0 : af.tmps.getD 0 undef = .slice a 6 cap := hf' 0 rfl
                  have t1 : af.tmps.getD 1 undef = hv (g1, g2) := hf' 1 rfl
                  have t2 : af.tmps.getD 2 undef = hv (m1, m2) := hf' 2 rfl
                  have t3 : af.tmps.getD 3 undef = .slice ka nk ck := hf' 3 rfl
                  have t4 : af.tmps.getD 4 undef = undef := hf' 4 rfl
                  have t5 : af.tmps.getD 5 undef = .pointer (some ⟨b1, 0, none⟩) := hf' 5 rfl
                  have t6 : af.tmps.getD 6 undef = .pointer (some ⟨b2, 0, none⟩) := hf' 6 rfl
                  have t7 : af.tmps.getD 7 undef = undef := hf' 7 rfl
                  have t8 : af.tmps.getD 8 undef = u8 := hf' 8 rfl
                  have t9 : af.tmps.getD 9 undef = .int .i64 (j : Int) := hf' 9 rfl
                  have t10 : af.tmps.getD 10 undef = .int .i64 (t : Int) := hf' 10 rfl
                  have t11 : af.tmps.getD 11 undef = .pointer (some ⟨B, 0, none⟩) := hf' 11 rfl
                  have t12 : af.tmps.getD 12 undef = .int .i64 (i : Int) := hf' 12 rfl
                  have t13 : af.tmps.getD 13 undef = .bool true := hf' 13 rfl
                  have t14 : af.tmps.getD 14 undef = .bool false := hf' 14 rfl
                  have t15 : af.tmps.getD 15 undef = .slice a len cap := hf' 15 rfl
                  have t16 : af.tmps.getD 16 undef = .int .i64 (len : Int) := hf' 16 rfl
                  have t17 : af.tmps.getD 17 undef = .bool true := hf' 17 rfl
                  have t18 : af.tmps.getD 18 undef = .slice a len cap := hf' 18 rfl
                  have t19 : af.tmps.getD 19 undef = .slice a 6 cap := hf' 19 rfl
                  have t20 : af.tmps.getD 20 undef = .int .i64 (j : Int) := hf' 20 rfl
                  have t21 : af.tmps.getD 21 undef = .bool true := hf' 21 rfl
                  have t22 : af.tmps.getD 22 undef = u22 := hf' 22 rfl
                  have t23 : af.tmps.getD 23 undef = u23 := hf' 23 rfl
                  have t57 : af.tmps.getD 57 undef = .pointer (some ⟨d, 0, none⟩) := hf' 57 rfl
                  have t61 : af.tmps.getD 61 undef = .int .i64 (t : Int) := hf' 61 rfl
                  have t60 : Own2 w7.heap.size (true :: ks) (af.tmps.getD 60 undef) W8 := hf' 60 rfl
                  obtain ⟨us, hus, haf⟩ := act_open 106 af hs' hd'
                  rw [← hus] at t0 t1 t2 t3 t4 t5 t6 t7 t8 t9 t10 t11 t12 t13 t14 t15 t16 t17 t18 t19 t20 t21 t22 t23 t57 t61 t60
                  have el : ((List.range 106).map us).toArray = #[us 0, us 1, us 2, us 3, us 4, us 5, us 6, us 7, us 8, us 9, us 10, us 11, us 12, us 13, us 14, us 15, us 16, us 17, us 18, us 19, us 20, us 21, us 22, us 23, us 24, us 25, us 26, us 27, us 28, us 29, us 30, us 31, us 32, us 33, us 34, us 35, us 36, us 37, us 38, us 39, us 40, us 41, us 42, us 43, us 44, us 45, us 46, us 47, us 48, us 49, us 50, us 51, us 52, us 53, us 54, us 55, us 56, us 57, us 58, us 59, us 60, us 61, us 62, us 63, us 64, us 65, us 66, us 67, us 68, us 69, us 70, us 71, us 72, us 73, us 74, us 75, us 76, us 77, us 78, us 79, us 80, us 81, us 82, us 83, us 84, us 85, us 86, us 87, us 88, us 89, us 90, us 91, us 92, us 93, us 94, us 95, us 96, us 97, us 98, us 99, us 100, us 101, us 102, us 103, us 104, us 105] := rfl
                  rw [el] at haf
                  subst haf
                  rw [t0, t1, t2, t3, t4, t5, t6, t7, t8, t9, t10, t11, t12, t13, t14, t15, t16, t17, t18, t19, t20, t21, t22, t23, t57, t61]
                  have HOw := Lib.hid t60
                  have HW8 := Lib.hid hW
                  clear hus t0 t1 t2 t3 t4 t5 t6 t7 t8 t9 t10 t11 t12 t13 t14 t15 t16 t17 t18 t19 t20 t21 t22 t23 t57 t61 t60 el hf' hs' hd' hW hG7
                  simp only [List.drop_succ_cons, List.drop_zero]
                  obtain ⟨oa, oc, ho60, hobl⟩ := HOw.out.bls
                  rw [ho60]
                  have hcr := done_crash (HD7.out.below HW8.out) (t : Int) hobl rfl (by have := HNk.out; have := HNk2.out; simp; omega)
                  have HCrc := Lib.hid hcr
                  clear hobl hcr ho60
                  go_wp2_with fail
                  refine HCrc.out.mono ?_
                  rintro e w9 ⟨rfl, hh, hcr⟩
                  have HCr := Lib.hid hcr
                  have hgb : ∀ W : World, (∃ hh, Crashed W0 B y d hh W) → Below W0.heap.size W0 W := fun W h => by
                    obtain ⟨hh, h⟩ := h
                    exact h.bel
                  have hgc : ∀ W : World, (∃ hh, Crashed W0 B y d hh W) → W.cell? ⟨B, 2, none⟩ = some (.pointer (some ⟨y, 0, none⟩)) := fun W h => by
                    obtain ⟨hh, h⟩ := h
                    exact h.cells.2
                  clear hcr HCrc
                  go_upto_region 23 with fail
                  refine region_by [(63, .is (.pointer (some ⟨B, 0, none⟩))), (64, .is (.slice ka nk ck)), (65, .is (.int .i64 (t : Int))), (66, SatF (.bool true) (fun W => ∃ hh, Play W0 B y d hh W) hQA), (67, SatF (.bool false) (fun W => ∃ hh, Play W0 B y d hh W) hQA), (68, SatF (.bool false) (fun W => ∃ hh, Play W0 B y d hh W) hQA), (69, .is (.pointer (some ⟨B, 0, none⟩))), (70, .is (hv (m1, m2))), (71, SatF (.bool true) (fun W => Play W0 B y d (m1, m2) W) hQM), (72, SatF (.bool false) (fun W => Play W0 B y d (m1, m2) W) hQM), (73, SatF (.bool false) (fun W => Play W0 B y d (m1, m2) W) hQM), (74, SatF (.bool false) (fun W => Play W0 B y d (m1, m2) W) hQM), (75, .is (.pointer (some ⟨B, 0, none⟩))), (76, .is (.pointer (some ⟨B, 0, none⟩))), (77, .is (.pointer (some ⟨B, 2, none⟩))), (78, .is (.pointer (some ⟨y, 0, none⟩))), (79, .is (.pointer (some ⟨y, 0, none⟩))), (80, .is (.pointer (some ⟨y, 0, none⟩))), (81, .is (hv (m1, m2))), (82, .is (hv (m1, m2))), (83, .is (.bool false)), (84, SatF (.bool false) (fun W => Play W0 B y d (m1, m2) W) hQM)] [0, 1, 2, 3, 4, 5, 6, 7, 8, 9, 10, 11, 12, 13, 14, 15, 16, 17, 18, 19, 20, 21, 22, 23, 84] (fun W => ∃ hh, Crashed W0 B y d hh W) (by kernel_rfl) (by kernel_rfl) (by kernel_rfl) (by kernel_rfl) (by kernel_rfl) (⟨_, HCr.out.below ((Below.refl _ _).drew)⟩) ?_ ?_
                  · refine ⟨?c0, ?c1, ?c2, ?c3, ?c4, ?c5, ?c6, ?c7, ?c8, ?c9, ?c10, ?c11, ?c12, ?c13, ?c14, ?c15, ?c16, ?c17, ?c18, ?c19, ?c20, ?c21, trivial⟩
                    case c0 => exact ask_copy (guard_none rfl) (.tmp 11) (.inl rfl) (by intro k hk; cases hk; rfl)
                    case c1 => exact ask_copy (guard_none rfl) (.tmp 3) (.inl rfl) (by intro k hk; cases hk; rfl)
                    case c2 => exact ask_copy (guard_none rfl) (.tmp 10) (.inl rfl) (by intro k hk; cases hk; rfl)
                    case c3 => exact ask_step (guardw_none rfl) _ _ _ rfl (by kernel_rfl) (fun x W hW hk => by
                        have e1 : x 63 = .pointer (some ⟨B, 0, none⟩) := hk 63 rfl
                        have e2 : x 64 = .slice ka nk ck := hk 64 rfl
                        have e3 : x 65 = .int .i64 (t : Int) := hk 65 rfl
                        show Calls _ _ #[x 63, x 64, x 65] W _
                        rw [e1, e2, e3]
                        by_cases hq : Play W0 B y d (m1, m2) W
                        · exact (crashed_open hq.crashed (t : Int) HK.out HNk.out hnk9.out).mono fun e W' h => by
                            obtain ⟨h1, h2⟩ := h
                            exact ⟨_, h1, ⟨_, h2.crashed⟩, (fun k hk => by cases hk; exact ⟨rfl, _, h2⟩), facts_go ⟨trivial, trivial, trivial, satf_goes (hQ := hQA) (fun _ => ⟨_, h2⟩), satf_goes (hQ := hQA) (fun _ => ⟨_, h2⟩), satf_goes (hQ := hQA) (fun _ => ⟨_, h2⟩), trivial, trivial, satf_goes (hQ := hQM) (fun _ => h2), satf_goes (hQ := hQM) (fun _ => h2), satf_goes (hQ := hQM) (fun _ => h2), satf_goes (hQ := hQM) (fun _ => h2), trivial, trivial, trivial, trivial, trivial, trivial, trivial, trivial, trivial, satf_goes (hQ := hQM) (fun _ => h2), trivial⟩⟩
                        · obtain ⟨hh, hc⟩ := hW
                          exact (crashed_open hc (t : Int) HK.out HNk.out hnk9.out).mono fun e W' h => by
                            obtain ⟨h1, h2⟩ := h
                            exact ⟨_, h1, ⟨_, h2.crashed⟩, (fun k hk => by cases hk; exact ⟨rfl, _, h2⟩), facts_go ⟨trivial, trivial, trivial, satf_goes (hQ := hQA) (fun _ => ⟨_, h2⟩), satf_goes (hQ := hQA) (fun _ => ⟨_, h2⟩), satf_goes (hQ := hQA) (fun _ => ⟨_, h2⟩), trivial, trivial, satf_goes (hQ := hQM) (fun h => absurd h hq), satf_goes (hQ := hQM) (fun h => absurd h hq), satf_goes (hQ := hQM) (fun h => absurd h hq), satf_goes (hQ := hQM) (fun h => absurd h hq), trivial, trivial, trivial, trivial, trivial, trivial, trivial, trivial, trivial, satf_goes (hQ := hQM) (fun h => absurd h hq), trivial⟩⟩)
                    case c4 => exact ask_still (guardw_none rfl) (fun x W hW hk => by
                        have h1 : x 66 = .bool true ∧ (∃ hh, Play W0 B y d hh W) := hk 66 rfl
                        exact ⟨.bool false, by simp [execOp, evalBy, h1.1, go_sem], fun k h => by cases h; exact ⟨rfl, h1.2⟩⟩)
                    case c5 => exact ask_copy (guard_none rfl) (.tmp 67) (.inl rfl) (by intro k hk; cases hk; rfl)
                    case c6 => exact askw_copy (guardw_some rfl rfl (fun v W h => (show v = .bool false ∧ (∃ hh, Play W0 B y d hh W) from h).1)) (.tmp 11) (.inl rfl) (by intro k hk; cases hk; rfl)
                    case c7 => exact askw_load (guardw_some rfl rfl (fun v W h => (show v = .bool false ∧ (∃ hh, Play W0 B y d hh W) from h).1)) _ (.tmp 6) (.pointer (some ⟨b2, 0, none⟩)) (hv (m1, m2)) rfl rfl (by intro k hk; cases hk; rfl) (fun W hW => load_hard (HX2.out.keep (hgb W hW)) rfl rfl)
                    case c8 => exact ask_step (guardw_some rfl rfl (fun v W h => (show v = .bool false ∧ (∃ hh, Play W0 B y d hh W) from h).1)) _ _ _ rfl (by kernel_rfl) (fun x W hW hk => by
                        have e1 : x 69 = .pointer (some ⟨B, 0, none⟩) := hk 69 rfl
                        have e2 : x 70 = hv (m1, m2) := hk 70 rfl
                        have h68 : x 68 = .bool false ∧ (∃ hh, Play W0 B y d hh W) := hk 68 rfl
                        obtain ⟨hh, hp⟩ := h68.2
                        show Calls _ _ #[x 69, x 70] W _
                        rw [e1, e2]
                        exact (play_set hp HM.out).mono fun e W' h => by
                          obtain ⟨h1, h2⟩ := h
                          exact ⟨_, h1, ⟨_, h2.crashed⟩, (fun k hk => by cases hk; exact ⟨rfl, h2⟩), facts_go ⟨trivial, trivial, trivial, satf_goes (hQ := hQA) (fun _ => ⟨_, h2⟩), satf_goes (hQ := hQA) (fun _ => ⟨_, h2⟩), satf_goes (hQ := hQA) (fun _ => ⟨_, h2⟩), trivial, trivial, satf_goes (hQ := hQM) (fun _ => h2), satf_goes (hQ := hQM) (fun _ => h2), satf_goes (hQ := hQM) (fun _ => h2), satf_goes (hQ := hQM) (fun _ => h2), trivial, trivial, trivial, trivial, trivial, trivial, trivial, trivial, trivial, satf_goes (hQ := hQM) (fun _ => h2), trivial⟩⟩)
                    case c9 => exact ask_still (guardw_some rfl rfl (fun v W h => (show v = .bool false ∧ (∃ hh, Play W0 B y d hh W) from h).1)) (fun x W hW hk => by
                        have h1 : x 71 = .bool true ∧ Play W0 B y d (m1, m2) W := hk 71 rfl
                        exact ⟨.bool false, by simp [execOp, evalBy, h1.1, go_sem], fun k h => by cases h; exact ⟨rfl, h1.2⟩⟩)
                    case c10 => exact ask_still (guardw_none rfl) (fun x W hW hk => by
                        have h1 : x 68 = .bool false ∧ (∃ hh, Play W0 B y d hh W) := hk 68 rfl
                        have h2 : x 72 = .bool false ∧ Play W0 B y d (m1, m2) W := hk 72 rfl
                        exact ⟨.bool false, by simp [execOp, evalBy, h1.1, h2.1, asBool], fun k h => by cases h; exact ⟨rfl, h2.2⟩⟩)
                    case c11 => exact ask_copy (guard_none rfl) (.tmp 73) (.inl rfl) (by intro k hk; cases hk; rfl)
                    case c12 => exact askw_copy (guardw_some rfl rfl (fun v W h => (show v = .bool false ∧ Play W0 B y d (m1, m2) W from h).1)) (.tmp 11) (.inl rfl) (by intro k hk; cases hk; rfl)
                    case c13 => exact askw_exec (guardw_some rfl rfl (fun v W h => (show v = .bool false ∧ Play W0 B y d (m1, m2) W from h).1)) (.pointer (some ⟨B, 0, none⟩)) rfl rfl (by intro k hk; cases hk; rfl) (fun W hW => by kernel_rfl)
                    case c14 => exact askw_field (guardw_some rfl rfl (fun v W h => (show v = .bool false ∧ Play W0 B y d (m1, m2) W from h).1)) _ (.tmp 76) 2 (.pointer (some ⟨B, 0, none⟩)) (.pointer (some ⟨B, 2, none⟩)) rfl rfl (by intro k hk; cases hk; rfl) (fun W => by kernel_rfl)
                    case c15 => exact askw_load (guardw_some rfl rfl (fun v W h => (show v = .bool false ∧ Play W0 B y d (m1, m2) W from h).1)) _ (.tmp 77) (.pointer (some ⟨B, 2, none⟩)) (.pointer (some ⟨y, 0, none⟩)) rfl rfl (by intro k hk; cases hk; rfl) (fun W hW => load_rp W _ _ (hgc W hW))
                    case c16 => exact askw_exec (guardw_some rfl rfl (fun v W h => (show v = .bool false ∧ Play W0 B y d (m1, m2) W from h).1)) (.pointer (some ⟨y, 0, none⟩)) rfl rfl (by intro k hk; cases hk; rfl) (fun W hW => by kernel_rfl)
                    case c17 => exact askw_field (guardw_some rfl rfl (fun v W h => (show v = .bool false ∧ Play W0 B y d (m1, m2) W from h).1)) _ (.tmp 79) 0 (.pointer (some ⟨y, 0, none⟩)) (.pointer (some ⟨y, 0, none⟩)) rfl rfl (by intro k hk; cases hk; rfl) (fun W => by kernel_rfl)
                    case c18 => exact ask_still (guardw_some rfl rfl (fun v W h => (show v = .bool false ∧ Play W0 B y d (m1, m2) W from h).1)) (fun x W hW hk => by
                        have e1 : x 80 = .pointer (some ⟨y, 0, none⟩) := hk 80 rfl
                        have h74 : x 74 = .bool false ∧ Play W0 B y d (m1, m2) W := hk 74 rfl
                        have hl := load_hard (o := 0) (a := m1) (b := m2) h74.2.ref rfl rfl
                        exact ⟨hv (m1, m2), by simp only [execOp, evalBy, e1, Sem.run_bind, hl, Result.andThen_ok, Sem.run_pure], fun k h => by cases h; rfl⟩)
                    case c19 => exact askw_load (guardw_some rfl rfl (fun v W h => (show v = .bool false ∧ Play W0 B y d (m1, m2) W from h).1)) _ (.tmp 6) (.pointer (some ⟨b2, 0, none⟩)) (hv (m1, m2)) rfl rfl (by intro k hk; cases hk; rfl) (fun W hW => load_hard (HX2.out.keep (hgb W hW)) rfl rfl)
                    case c20 => exact askw_bin (guardw_some rfl rfl (fun v W h => (show v = .bool false ∧ Play W0 B y d (m1, m2) W from h).1)) _ _ _ _ _ _ _ _ rfl rfl rfl (by intro k hk; cases hk; rfl) (fun W => neq_self _ _ _ _ W)
                    case c21 => exact ask_still (guardw_none rfl) (fun x W hW hk => by
                        have h1 : x 74 = .bool false ∧ Play W0 B y d (m1, m2) W := hk 74 rfl
                        have h2 : x 83 = .bool false := hk 83 rfl
                        exact ⟨.bool false, by simp [execOp, evalBy, h1.1, h2, asBool], fun k h => by cases h; exact ⟨rfl, h1.2⟩⟩)
                  · intro af W10 hW hd' hs' hf'
                    have t0 : af.tmps.getD 0 undef = .slice a 6 cap := hf' 0 rfl
                    have t1 : af.tmps.getD 1 undef = hv (g1, g2) := hf' 1 rfl
                    have t2 : af.tmps.getD 2 undef = hv (m1, m2) := hf' 2 rfl
                    have t3 : af.tmps.getD 3 undef = .slice ka nk ck := hf' 3 rfl
                    have t4 : af.tmps.getD 4 undef = undef := hf' 4 rfl
                    have t5 : af.tmps.getD 5 undef = .pointer (some ⟨b1, 0, none⟩) := hf' 5 rfl
                    have t6 : af.tmps.getD 6 undef = .pointer (some ⟨b2, 0, none⟩) := hf' 6 rfl
                    have t7 : af.tmps.getD 7 undef = undef := hf' 7 rfl
                    have t8 : af.tmps.getD 8 undef = u8 := hf' 8 rfl
                    have t9 : af.tmps.getD 9 undef = .int .i64 (j : Int) := hf' 9 rfl
                    have t10 : af.tmps.getD 10 undef = .int .i64 (t : Int) := hf' 10 rfl
                    have t11 : af.tmps.getD 11 undef = .pointer (some ⟨B, 0, none⟩) := hf' 11 rfl
                    have t12 : af.tmps.getD 12 undef = .int .i64 (i : Int) := hf' 12 rfl
                    have t13 : af.tmps.getD 13 undef = .bool true := hf' 13 rfl
                    have t14 : af.tmps.getD 14 undef = .bool false := hf' 14 rfl
                    have t15 : af.tmps.getD 15 undef = .slice a len cap := hf' 15 rfl
                    have t16 : af.tmps.getD 16 undef = .int .i64 (len : Int) := hf' 16 rfl
                    have t17 : af.tmps.getD 17 undef = .bool true := hf' 17 rfl
                    have t18 : af.tmps.getD 18 undef = .slice a len cap := hf' 18 rfl
                    have t19 : af.tmps.getD 19 undef = .slice a 6 cap := hf' 19 rfl
                    have t20 : af.tmps.getD 20 undef = .int .i64 (j : Int) := hf' 20 rfl
                    have t21 : af.tmps.getD 21 undef = .bool true := hf' 21 rfl
                    have t22 : af.tmps.getD 22 undef = u22 := hf' 22 rfl
                    have t23 : af.tmps.getD 23 undef = u23 := hf' 23 rfl
                    have t84 : (af.tmps.getD 84 undef) = .bool false ∧ Play W0 B y d (m1, m2) W10 := hf' 84 rfl
                    obtain ⟨us, hus, haf⟩ := act_open 106 af hs' hd'
                    rw [← hus] at t0 t1 t2 t3 t4 t5 t6 t7 t8 t9 t10 t11 t12 t13 t14 t15 t16 t17 t18 t19 t20 t21 t22 t23 t84
                    have el : ((List.range 106).map us).toArray = #[us 0, us 1, us 2, us 3, us 4, us 5, us 6, us 7, us 8, us 9, us 10, us 11, us 12, us 13, us 14, us 15, us 16, us 17, us 18, us 19, us 20, us 21, us 22, us 23, us 24, us 25, us 26, us 27, us 28, us 29, us 30, us 31, us 32, us 33, us 34, us 35, us 36, us 37, us 38, us 39, us 40, us 41, us 42, us 43, us 44, us 45, us 46, us 47, us 48, us 49, us 50, us 51, us 52, us 53, us 54, us 55, us 56, us 57, us 58, us 59, us 60, us 61, us 62, us 63, us 64, us 65, us 66, us 67, us 68, us 69, us 70, us 71, us 72, us 73, us 74, us 75, us 76, us 77, us 78, us 79, us 80, us 81, us 82, us 83, us 84, us 85, us 86, us 87, us 88, us 89, us 90, us 91, us 92, us 93, us 94, us 95, us 96, us 97, us 98, us 99, us 100, us 101, us 102, us 103, us 104, us 105] := rfl
                    rw [el] at haf
                    subst haf
                    rw [t0, t1, t2, t3, t4, t5, t6, t7, t8, t9, t10, t11, t12, t13, t14, t15, t16, t17, t18, t19, t20, t21, t22, t23]
                    have H84 := Lib.hid t84
                    have HW10 := Lib.hid hW
                    clear hus t0 t1 t2 t3 t4 t5 t6 t7 t8 t9 t10 t11 t12 t13 t14 t15 t16 t17 t18 t19 t20 t21 t22 t23 t84 el hf' hs' hd' hW hgb hgc
                    rw [H84.out.1]
                    obtain ⟨k0, k2⟩ := H84.out.2.cells
                    have HCrc := Lib.hid (play_crash H84.out.2 (t : Int) (HK.out.below H84.out.2.bel) HNk.out (by have := HNk2.out; omega))
                    go_wp2_with fail
                    clear k0 k2
                    refine HCrc.out.mono ?_
                    rintro e w12 ⟨rfl, hcr⟩
                    have HCr12 := Lib.hid hcr
                    clear hcr HCrc
                    go_upto_region 26 with fail
                    refine region_late_by 13 _ _ rfl [(92, .is (.pointer (some ⟨B, 0, none⟩))), (93, .is (.slice ka nk ck)), (94, .is (.int .i64 (t : Int))), (95, SatF (.bool true) (fun W => Play W0 B y d (m1, m2) W) hQM), (96, SatF (.bool false) (fun W => Play W0 B y d (m1, m2) W) hQM), (97, SatF (.bool false) (fun W => Play W0 B y d (m1, m2) W) hQM), (98, .is (.pointer (some ⟨B, 0, none⟩))), (99, .is (.pointer (some ⟨B, 0, none⟩))), (100, .is (.pointer (some ⟨B, 1, none⟩))), (101, (.sat (fun v W => (∃ z, v = .pointer (some ⟨z, 0, none⟩) ∧ ∀ W', Below W.heap.size W W' → Calls Try.prog 39 #[.pointer (some ⟨z, 0, none⟩)] W' fun e w' => e = .returned (hv (m1, m2)) ∧ Below W'.heap.size W' w')) (fun _ W W' h hb => by obtain ⟨z, h1, h2⟩ := h; exact ⟨z, h1, fun W'' hb2 => h2 W'' (hb.trans (hb2.mono hb.size))⟩))), (102, .is (hv (m1, m2))), (103, .is (hv (m1, m2))), (104, .is (.bool false))] [0, 1, 2, 3, 4, 5, 6, 7, 8, 9, 10, 11, 12, 13, 14, 15, 16, 17, 18, 19, 20, 21, 22, 23, 104, 97] (fun W => Crashed W0 B y d (m1, m2) W) (by kernel_rfl) (by kernel_rfl) (by kernel_rfl) (by kernel_rfl) ?_ rfl rfl rfl (by kernel_rfl) (HCr12.out.below ((Below.refl _ _).drew)) ?_ ?_
                    · intro q fq hq
                      by_cases hq4 : q = 92
                      · subst hq4
                        exact .inl (by kernel_rfl)
                      · exact .inl (lookup_all 92 (by kernel_rfl) hq hq4)
                    · refine ⟨?c0, ?c1, ?c2, ?c3, ?c4, ?c5, ?c6, ?c7, ?c8, ?c9, ?c10, ?c11, ?c12, trivial⟩
                      case c0 => exact Asked.late (ask_copy (guard_none rfl) (.tmp 11) (.inl rfl) (by intro k hk; cases hk; rfl))
                      case c1 => exact Asked.late (ask_copy (guard_none rfl) (.tmp 3) (.inl rfl) (by intro k hk; cases hk; rfl))
                      case c2 => exact Asked.late (ask_copy (guard_none rfl) (.tmp 10) (.inl rfl) (by intro k hk; cases hk; rfl))
                      case c3 => exact ask_step2 (guardw_none rfl) _ _ _ rfl (by kernel_rfl) (fun x W hW hk => by
                          have e1 : x 92 = .pointer (some ⟨B, 0, none⟩) := hk 92 rfl
                          have e2 : x 93 = .slice ka nk ck := hk 93 rfl
                          have e3 : x 94 = .int .i64 (t : Int) := hk 94 rfl
                          show Calls _ _ #[x 92, x 93, x 94] W _
                          rw [e1, e2, e3]
                          exact (crashed_open hW (t : Int) HK.out HNk.out hnk9.out).mono fun e W' h => by
                            obtain ⟨h1, h2⟩ := h
                            exact ⟨_, h1, h2.crashed, (fun k hk => by cases hk; exact ⟨rfl, h2⟩), facts_go2 ⟨fun _ => trivial, fun _ => trivial, fun _ => trivial, fun _ => satf_goes (hQ := hQM) (fun _ => h2), fun _ => satf_goes (hQ := hQM) (fun _ => h2), fun _ => satf_goes (hQ := hQM) (fun _ => h2), fun _ => trivial, fun _ => trivial, fun _ => trivial, fun h => absurd (h.symm.trans (by kernel_rfl)) (by decide : ¬ (true = false)), fun _ => trivial, fun _ => trivial, fun _ => trivial, trivial⟩⟩)
                      case c4 => exact Asked.late (ask_still (guardw_none rfl) (fun x W hW hk => by
                          have h1 : x 95 = .bool true ∧ Play W0 B y d (m1, m2) W := hk 95 rfl
                          exact ⟨.bool false, by simp [execOp, evalBy, h1.1, go_sem], fun k h => by cases h; exact ⟨rfl, h1.2⟩⟩))
                      case c5 => exact Asked.late (ask_copy (guard_none rfl) (.tmp 96) (.inl rfl) (by intro k hk; cases hk; rfl))
                      case c6 => exact Asked.late (askw_copy (guardw_some rfl rfl (fun v W h => (show v = .bool false ∧ Play W0 B y d (m1, m2) W from h).1)) (.tmp 11) (.inl rfl) (by intro k hk; cases hk; rfl))
                      case c7 => exact Asked.late (askw_exec (guardw_some rfl rfl (fun v W h => (show v = .bool false ∧ Play W0 B y d (m1, m2) W from h).1)) (.pointer (some ⟨B, 0, none⟩)) rfl rfl (by intro k hk; cases hk; rfl) (fun W hW => by kernel_rfl))
                      case c8 => exact Asked.late (askw_field (guardw_some rfl rfl (fun v W h => (show v = .bool false ∧ Play W0 B y d (m1, m2) W from h).1)) _ (.tmp 99) 1 (.pointer (some ⟨B, 0, none⟩)) (.pointer (some ⟨B, 1, none⟩)) rfl rfl (by intro k hk; cases hk; rfl) (fun W => by kernel_rfl))
                      case c9 => exact Asked.late (ask_still (guardw_some rfl rfl (fun v W h => (show v = .bool false ∧ Play W0 B y d (m1, m2) W from h).1)) (fun x W hW hk => by
                          have e1 : x 100 = .pointer (some ⟨B, 1, none⟩) := hk 100 rfl
                          have h97 : x 97 = .bool false ∧ Play W0 B y d (m1, m2) W := hk 97 rfl
                          obtain ⟨z, hz, hg1⟩ := h97.2.get1
                          have hl := load_cp W ⟨B, 1, none⟩ _ hz
                          exact ⟨.pointer (some ⟨z, 0, none⟩), by simp only [execOp, evalBy, e1, Sem.run_bind, hl, Result.andThen_ok, Sem.run_pure], fun k h => by cases h; exact ⟨z, rfl, hg1⟩⟩))
                      case c10 => exact Asked.late (ask_step (guardw_some rfl rfl (fun v W h => (show v = .bool false ∧ Play W0 B y d (m1, m2) W from h).1)) _ _ _ rfl (by kernel_rfl) (fun x W hW hk => by
                          have h1 : (∃ z, x 101 = .pointer (some ⟨z, 0, none⟩) ∧ ∀ W', Below W.heap.size W W' → Calls Try.prog 39 #[.pointer (some ⟨z, 0, none⟩)] W' fun e w' => e = .returned (hv (m1, m2)) ∧ Below W'.heap.size W' w') := hk 101 rfl
                          obtain ⟨z, e1, hc⟩ := h1
                          show Calls _ _ #[x 101] W _
                          rw [e1]
                          exact (hc W (Below.refl _ _)).mono fun e W' h => by
                            obtain ⟨h1, h2⟩ := h
                            exact ⟨_, h1, hW.below h2, (fun k hk => by cases hk; rfl), facts_go ⟨trivial, trivial, trivial, satf_goes (hQ := hQM) (fun h => h.below h2), satf_goes (hQ := hQM) (fun h => h.below h2), satf_goes (hQ := hQM) (fun h => h.below h2), trivial, trivial, trivial, (fun v hv => by obtain ⟨z, h3, h4⟩ := hv; exact ⟨z, h3, fun W'' hb2 => h4 W'' (h2.trans (hb2.mono h2.size))⟩), trivial, trivial, trivial, trivial⟩⟩))
                      case c11 => exact Asked.late (askw_load (guardw_some rfl rfl (fun v W h => (show v = .bool false ∧ Play W0 B y d (m1, m2) W from h).1)) _ (.tmp 6) (.pointer (some ⟨b2, 0, none⟩)) (hv (m1, m2)) rfl rfl (by intro k hk; cases hk; rfl) (fun W hW => load_hard (HX2.out.keep hW.bel) rfl rfl))
                      case c12 => exact Asked.late (askw_bin (guardw_some rfl rfl (fun v W h => (show v = .bool false ∧ Play W0 B y d (m1, m2) W from h).1)) _ _ _ _ _ _ _ _ rfl rfl rfl (by intro k hk; cases hk; rfl) (fun W => neq_self _ _ _ _ W))
                    · intro af W13 hW hd' hs' hf'
                      have t0 : af.tmps.getD 0 undef = .slice a 6 cap := hf' 0 rfl
                      have t1 : af.tmps.getD 1 undef = hv (g1, g2) := hf' 1 rfl
                      have t2 : af.tmps.getD 2 undef = hv (m1, m2) := hf' 2 rfl
                      have t3 : af.tmps.getD 3 undef = .slice ka nk ck := hf' 3 rfl
                      have t4 : af.tmps.getD 4 undef = undef := hf' 4 rfl
                      have t5 : af.tmps.getD 5 undef = .pointer (some ⟨b1, 0, none⟩) := hf' 5 rfl
                      have t6 : af.tmps.getD 6 undef = .pointer (some ⟨b2, 0, none⟩) := hf' 6 rfl
                      have t7 : af.tmps.getD 7 undef = undef := hf' 7 rfl
                      have t8 : af.tmps.getD 8 undef = u8 := hf' 8 rfl
                      have t9 : af.tmps.getD 9 undef = .int .i64 (j : Int) := hf' 9 rfl
                      have t10 : af.tmps.getD 10 undef = .int .i64 (t : Int) := hf' 10 rfl
                      have t11 : af.tmps.getD 11 undef = .pointer (some ⟨B, 0, none⟩) := hf' 11 rfl
                      have t12 : af.tmps.getD 12 undef = .int .i64 (i : Int) := hf' 12 rfl
                      have t13 : af.tmps.getD 13 undef = .bool true := hf' 13 rfl
                      have t14 : af.tmps.getD 14 undef = .bool false := hf' 14 rfl
                      have t15 : af.tmps.getD 15 undef = .slice a len cap := hf' 15 rfl
                      have t16 : af.tmps.getD 16 undef = .int .i64 (len : Int) := hf' 16 rfl
                      have t17 : af.tmps.getD 17 undef = .bool true := hf' 17 rfl
                      have t18 : af.tmps.getD 18 undef = .slice a len cap := hf' 18 rfl
                      have t19 : af.tmps.getD 19 undef = .slice a 6 cap := hf' 19 rfl
                      have t20 : af.tmps.getD 20 undef = .int .i64 (j : Int) := hf' 20 rfl
                      have t21 : af.tmps.getD 21 undef = .bool true := hf' 21 rfl
                      have t22 : af.tmps.getD 22 undef = u22 := hf' 22 rfl
                      have t23 : af.tmps.getD 23 undef = u23 := hf' 23 rfl
                      have t104 : af.tmps.getD 104 undef = .bool false := hf' 104 rfl
                      have t97 : (af.tmps.getD 97 undef) = .bool false ∧ Play W0 B y d (m1, m2) W13 := hf' 97 rfl
                      obtain ⟨us, hus, haf⟩ := act_open 106 af hs' hd'
                      rw [← hus] at t0 t1 t2 t3 t4 t5 t6 t7 t8 t9 t10 t11 t12 t13 t14 t15 t16 t17 t18 t19 t20 t21 t22 t23 t104 t97
                      have el : ((List.range 106).map us).toArray = #[us 0, us 1, us 2, us 3, us 4, us 5, us 6, us 7, us 8, us 9, us 10, us 11, us 12, us 13, us 14, us 15, us 16, us 17, us 18, us 19, us 20, us 21, us 22, us 23, us 24, us 25, us 26, us 27, us 28, us 29, us 30, us 31, us 32, us 33, us 34, us 35, us 36, us 37, us 38, us 39, us 40, us 41, us 42, us 43, us 44, us 45, us 46, us 47, us 48, us 49, us 50, us 51, us 52, us 53, us 54, us 55, us 56, us 57, us 58, us 59, us 60, us 61, us 62, us 63, us 64, us 65, us 66, us 67, us 68, us 69, us 70, us 71, us 72, us 73, us 74, us 75, us 76, us 77, us 78, us 79, us 80, us 81, us 82, us 83, us 84, us 85, us 86, us 87, us 88, us 89, us 90, us 91, us 92, us 93, us 94, us 95, us 96, us 97, us 98, us 99, us 100, us 101, us 102, us 103, us 104, us 105] := rfl
                      rw [el] at haf
                      subst haf
                      rw [t0, t1, t2, t3, t4, t5, t6, t7, t8, t9, t10, t11, t12, t13, t14, t15, t16, t17, t18, t19, t20, t21, t22, t23, t104]
                      have H105 := Lib.hid t97
                      clear hus t0 t1 t2 t3 t4 t5 t6 t7 t8 t9 t10 t11 t12 t13 t14 t15 t16 t17 t18 t19 t20 t21 t22 t23 t104 t97 el hf' hs' hd' hW
                      rw [H105.out.1]
                      have HBn := Lib.hid H105.out.2.bel
                      clear hQA hQM hlt
                      go_wp2
                      go_roundw
                      case rel => exact ⟨t + 1, by omega, by go_num, HBn⟩
                      case measure => simp [intOf]; omega
          · have t1 : ¬ (t : Int) < 70 := by omega
            go_wp2
            go_roundw
            case rel => exact ⟨j + 1, by omega, by go_num, HBt⟩
            case measure => simp [intOf]; omega
      · have j1 : ¬ (j : Int) < 5 := by omega
        have HBf := Lib.hid (HFin.out wr HBj.out)
        go_wp2
        go_ret
        exact ⟨rfl, HBf.out⟩
  · have q1 : ¬ (len : Int) > 6 := by omega
    have q2 : decide (6 < len) = false := by simpa using h6
    go_wp2
    go_loopw [9] (fun s9 wr => ∃ j : Nat, j ≤ 5 ∧ s9 = .int .i64 j ∧ Hid (Below W0.heap.size W0 wr)) (fun s9 _ => 5 - (intOf s9).toNat)
    case atStart => exact ⟨0, by decide, rfl, HB1⟩
    case round =>
      obtain ⟨j, hj, rfl, HBj⟩ := hrel
      have j0 : (0 : Int) ≤ (j : Int) := Int.natCast_nonneg _
      clear HB1
      by_cases hj5 : j < 5
      · have j1 : (j : Int) < 5 := by omega
        obtain ⟨wj, hwj⟩ : ∃ wj : World, wj = wr := ⟨_, rfl⟩
        rw [← hwj] at HBj
        have HWj := Lib.hid hwj
        clear hwj
        go_wp2
        rw [← HWj.out]
        clear HWj
        go_loopw [10] (fun s10 wr => ∃ t : Nat, t ≤ 70 ∧ s10 = .int .i64 t ∧ Hid (Below W0.heap.size W0 wr)) (fun s10 _ => 70 - (intOf s10).toNat)
        case atStart => exact ⟨0, by decide, rfl, HBj⟩
        case round =>
          obtain ⟨t, ht, rfl, HBt⟩ := hrel
          have t0 : (0 : Int) ≤ (t : Int) := Int.natCast_nonneg _
          clear HBj
          by_cases ht70 : t < 70
          · have t1 : (t : Int) < 70 := by omega
            go_wp2_with fail
            refine (play_begin HBt.out).mono ?_
            rintro e w4 ⟨B, y, d, rfl, hp0⟩
            have HP0 := Lib.hid hp0
            clear hp0
            go_wp2
            go_loopw [12] (fun s12 wr => ∃ (i : Nat) (h : Hd), i ≤ len ∧ s12 = .int .i64 i ∧ Hid (Play W0 B y d h wr)) (fun s12 _ => len - (intOf s12).toNat)
            case atStart => exact ⟨0, (0, 0), Nat.zero_le _, rfl, HP0⟩
            case round =>
              obtain ⟨i, h, hi, rfl, HP⟩ := hrel
              have i0 : (0 : Int) ≤ (i : Int) := Int.natCast_nonneg _
              clear HP0
              by_cases hlt : i < len
              · have i1 : (i : Int) < (len : Int) := by omega
                have i2 : decide (i < len) = true := by simpa using hlt
                obtain ⟨o, ho⟩ : ∃ o, (L)[i]? = some o := ⟨(L)[i]'(by have := HL.out; simp; omega), List.getElem?_eq_getElem _⟩
                obtain ⟨hok, ad, rfl, c0, c1⟩ := HS.out i o ho
                have hidx : ∀ W, (Instr.indexAt 61 (.slice (some ad) len cap) (.int .i64 (i : Int))).run Try.prog W = .ok (.pointer (some (ad.add (i * 2)))) W := fun W => hards_index W ad len cap i hlt
                obtain ⟨p, hp⟩ : ∃ p, p = ad.add (i * 2) := ⟨_, rfl⟩
                rw [← hp] at hidx c0 c1
                have hcc : ∀ {q : Addr} {u : Value}, W0.cell? q = some u → wr.cell? q = some u := fun {q u} hq => by rw [HP.out.bel.cell (World.block_lt_of_cell? W0 _ hq)]; exact hq
                replace c0 := hcc c0
                replace c1 := hcc c1
                have HSt := Lib.hid (play_set HP.out hok)
                obtain ⟨o1, o2⟩ := o
                clear hcc hp ho hok
                go_wp2_with fail
                refine HSt.out.mono ?_
                rintro e w5 ⟨rfl, hp5⟩
                have HP5 := Lib.hid hp5
                clear hp5 HSt c0 c1 hidx i2
                go_wp2
                go_roundw
                case rel => exact ⟨i + 1, (o1, o2), by omega, by go_num, HP5⟩
                case measure => simp [intOf]; omega
              · have i1 : ¬ (i : Int) < (len : Int) := by omega
                have i2 : decide (i < len) = false := by simpa using hlt
                obtain ⟨k0, k2⟩ := HP.out.cells
                have HFu := Lib.hid (play_fuse HP.out (j : Int) (by omega))
                go_wp2_with fail
                clear k0 k2
                refine HFu.out.mono ?_
                rintro e w6 ⟨rfl, hf6⟩
                have HF6 := Lib.hid hf6
                obtain ⟨c0, c1⟩ := HC1.out w6 hf6.bel
                clear hf6 HFu HP i2
                have HSt := Lib.hid (fused_set HF6.out HG.out)
                go_wp2_with fail
                clear c0 c1
                refine HSt.out.mono ?_
                rintro e w7 ⟨rfl, hd7⟩
                have HD7 := Lib.hid hd7
                clear hd7 HSt HF6
                go_upto_region 22 with fail
                obtain ⟨p7, hrn⟩ := HD7.out.run
                have HRn := Lib.hid hrn
                have hG7 : ∀ W W' : World, Below w7.heap.size w7 W → Below W.heap.size W W' → Below w7.heap.size w7 W' := fun W W' h h' => h.trans (h'.mono h.size)
                have hQA : ∀ W W' : World, (∃ hh, Play W0 B y d hh W) → Below W.heap.size W W' → (∃ hh, Play W0 B y d hh W') := fun W W' h hb => by
                  obtain ⟨hh, h⟩ := h
                  exact ⟨hh, h.below hb⟩
                have hQM : ∀ W W' : World, Play W0 B y d (m1, m2) W → Below W.heap.size W W' → Play W0 B y d (m1, m2) W' := fun W W' h hb => h.below hb
                clear hrn
                refine region_tails_by 8 [(54, .is (.pointer (some ⟨B, 0, none⟩))), (55, .is (.pointer (some ⟨B, 0, none⟩))), (56, .is (.pointer (some ⟨B, 0, none⟩))), (57, .is (.pointer (some ⟨d, 0, none⟩))), (58, (.sat (Own2 w7.heap.size [true]) (fun _ _ _ h hb => h.stays hb))), (59, .is (.slice ka nk ck)), (60, (.sat (Own2 w7.heap.size (true :: ks)) (fun _ _ _ h hb => h.stays hb))), (61, .is (.int .i64 (t : Int)))] [0, 1, 2, 3, 4, 5, 6, 7, 8, 9, 10, 11, 12, 13, 14, 15, 16, 17, 18, 19, 20, 21, 22, 23, 57, 61, 60] (fun W => Below w7.heap.size w7 W) (by kernel_rfl) (by kernel_rfl) (by kernel_rfl) (by kernel_rfl) (by kernel_rfl) (by decide) (by kernel_rfl) (by kernel_rfl) ((Below.refl _ _).drew) ?_ ?_
                · refine ⟨?c0, ?c1, ?c2, ?c3, ?c4, ?c5, ?c6, ?c7, trivial⟩
                  case c0 => exact ask_copy (guard_none rfl) (.tmp 11) (.inl rfl) (by intro k hk; cases hk; rfl)
                  case c1 => exact ask_exec (guard_none rfl) (.pointer (some ⟨B, 0, none⟩)) rfl rfl (by intro k hk; cases hk; rfl) (fun W hW => by kernel_rfl)
                  case c2 => exact ask_field (guard_none rfl) _ (.tmp 55) 0 (.pointer (some ⟨B, 0, none⟩)) (.pointer (some ⟨B, 0, none⟩)) rfl rfl (by intro k hk; cases hk; rfl) (fun W => by kernel_rfl)
                  case c3 => exact ask_load (guard_none rfl) _ (.tmp 56) (.pointer (some ⟨B, 0, none⟩)) (.pointer (some ⟨d, 0, none⟩)) rfl rfl (by intro k hk; cases hk; rfl) (fun W hW => load_dp W _ _ (by rw [hW.cell (p := ⟨B, 0, none⟩) HRn.out.lt, HRn.out.cell]; rfl))
                  case c4 => exact ask_build_true hG7 (guard_none rfl) w7.heap.size (fun W hW => hW.size) rfl (by intro k hk; cases hk; rfl)
                  case c5 => exact ask_copy (guard_none rfl) (.tmp 3) (.inl rfl) (by intro k hk; cases hk; rfl)
                  case c6 => exact ask_append_keep (guard_none rfl) (by kernel_rfl) (.tmp 58) (.tmp 59) w7.heap.size rfl rfl rfl rfl (fun W hW => HK.out.below (HD7.out.bel.trans (hW.mono HD7.out.bel.size))) HNk.out HKn.out HNk2.out (fun W hW => hW.size) (fun W W' row hW hg hr => hW.grown hg hW.size hr) (by intro k hk; cases hk; rfl)
                  case c7 => exact ask_copy (guard_none rfl) (.tmp 10) (.inl rfl) (by intro k hk; cases hk; rfl)
                · intro af W8 hW hd' hs' hf'
                  have t0 : af.tmps.getD 0 undef = .slice a len cap := hf' 0 rfl
                  have t1 : af.tmps.getD 1 undef = hv (g1, g2) := hf' 1 rfl
                  have t2 : af.tmps.getD 2 undef = hv (m1, m2) := hf' 2 rfl
                  have t3 : af.tmps.getD 3 undef = .slice ka nk ck := hf' 3 rfl
                  have t4 : af.tmps.getD 4 undef = undef := hf' 4 rfl
                  have t5 : af.tmps.getD 5 undef = .pointer (some ⟨b1, 0, none⟩) := hf' 5 rfl
                  have t6 : af.tmps.getD 6 undef = .pointer (some ⟨b2, 0, none⟩) := hf' 6 rfl
                  have t7 : af.tmps.getD 7 undef = undef := hf' 7 rfl
                  have t8 : af.tmps.getD 8 undef = u8 := hf' 8 rfl
                  have t9 : af.tmps.getD 9 undef = .int .i64 (j : Int) := hf' 9 rfl
                  have t10 : af.tmps.getD 10 undef = .int .i64 (t : Int) := hf' 10 rfl
                  have t11 : af.tmps.getD 11 undef = .pointer (some ⟨B, 0, none⟩) := hf' 11 rfl
                  have t12 : af.tmps.getD 12 undef = .int .i64 (i : Int) := hf' 12 rfl
                  have t13 : af.tmps.getD 13 undef = .bool true := hf' 13 rfl
                  have t14 : af.tmps.getD 14 undef = .bool false := hf' 14 rfl
                  have t15 : af.tmps.getD 15 undef = .slice a len cap := hf' 15 rfl
                  have t16 : af.tmps.getD 16 undef = .int .i64 (len : Int) := hf' 16 rfl
                  have t17 : af.tmps.getD 17 undef = .bool (decide (6 < (len : Int))) := hf' 17 rfl
                  have t18 : af.tmps.getD 18 undef = undef := hf' 18 rfl
                  have t19 : af.tmps.getD 19 undef = undef := hf' 19 rfl
                  have t20 : af.tmps.getD 20 undef = .int .i64 (j : Int) := hf' 20 rfl
                  have t21 : af.tmps.getD 21 undef = .bool true := hf' 21 rfl
                  have t22 : af.tmps.getD 22 undef = u22 := hf' 22 rfl
                  have t23 : af.tmps.getD 23 undef = u23 := hf' 23 rfl
                  have t57 : af.tmps.getD 57 undef = .pointer (some ⟨d, 0, none⟩) := hf' 57 rfl
                  have t61 : af.tmps.getD 61 undef = .int .i64 (t : Int) := hf' 61 rfl
                  have t60 : Own2 w7.heap.size (true :: ks) (af.tmps.getD 60 undef) W8 := hf' 60 rfl
                  obtain ⟨us, hus, haf⟩ := act_open 106 af hs' hd'
                  rw [← hus] at t0 t1 t2 t3 t4 t5 t6 t7 t8 t9 t10 t11 t12 t13 t14 t15 t16 t17 t18 t19 t20 t21 t22 t23 t57 t61 t60
                  have el : ((List.range 106).map us).toArray = #[us 0, us 1, us 2, us 3, us 4, us 5, us 6, us 7, us 8, us 9, us 10, us 11, us 12, us 13, us 14, us 15, us 16, us 17, us 18, us 19, us 20, us 21, us 22, us 23, us 24, us 25, us 26, us 27, us 28, us 29, us 30, us 31, us 32, us 33, us 34, us 35, us 36, us 37, us 38, us 39, us 40, us 41, us 42, us 43, us 44, us 45, us 46, us 47, us 48, us 49, us 50, us 51, us 52, us 53, us 54, us 55, us 56, us 57, us 58, us 59, us 60, us 61, us 62, us 63, us 64, us 65, us 66, us 67, us 68, us 69, us 70, us 71, us 72, us 73, us 74, us 75, us 76, us 77, us 78, us 79, us 80, us 81, us 82, us 83, us 84, us 85, us 86, us 87, us 88, us 89, us 90, us 91, us 92, us 93, us 94, us 95, us 96, us 97, us 98, us 99, us 100, us 101, us 102, us 103, us 104, us 105] := rfl
                  rw [el] at haf
                  subst haf
                  rw [t0, t1, t2, t3, t4, t5, t6, t7, t8, t9, t10, t11, t12, t13, t14, t15, t16, t17, t18, t19, t20, t21, t22, t23, t57, t61]
                  have HOw := Lib.hid t60
                  have HW8 := Lib.hid hW
                  clear hus t0 t1 t2 t3 t4 t5 t6 t7 t8 t9 t10 t11 t12 t13 t14 t15 t16 t17 t18 t19 t20 t21 t22 t23 t57 t61 t60 el hf' hs' hd' hW hG7
                  simp only [List.drop_succ_cons, List.drop_zero]
                  obtain ⟨oa, oc, ho60, hobl⟩ := HOw.out.bls
                  rw [ho60]
                  have hcr := done_crash (HD7.out.below HW8.out) (t : Int) hobl rfl (by have := HNk.out; have := HNk2.out; simp; omega)
                  have HCrc := Lib.hid hcr
                  clear hobl hcr ho60
                  go_wp2_with fail
                  refine HCrc.out.mono ?_
                  rintro e w9 ⟨rfl, hh, hcr⟩
                  have HCr := Lib.hid hcr
                  have hgb : ∀ W : World, (∃ hh, Crashed W0 B y d hh W) → Below W0.heap.size W0 W := fun W h => by
                    obtain ⟨hh, h⟩ := h
                    exact h.bel
                  have hgc : ∀ W : World, (∃ hh, Crashed W0 B y d hh W) → W.cell? ⟨B, 2, none⟩ = some (.pointer (some ⟨y, 0, none⟩)) := fun W h => by
                    obtain ⟨hh, h⟩ := h
                    exact h.cells.2
                  clear hcr HCrc
                  go_upto_region 23 with fail
                  refine region_by [(63, .is (.pointer (some ⟨B, 0, none⟩))), (64, .is (.slice ka nk ck)), (65, .is (.int .i64 (t : Int))), (66, SatF (.bool true) (fun W => ∃ hh, Play W0 B y d hh W) hQA), (67, SatF (.bool false) (fun W => ∃ hh, Play W0 B y d hh W) hQA), (68, SatF (.bool false) (fun W => ∃ hh, Play W0 B y d hh W) hQA), (69, .is (.pointer (some ⟨B, 0, none⟩))), (70, .is (hv (m1, m2))), (71, SatF (.bool true) (fun W => Play W0 B y d (m1, m2) W) hQM), (72, SatF (.bool false) (fun W => Play W0 B y d (m1, m2) W) hQM), (73, SatF (.bool false) (fun W => Play W0 B y d (m1, m2) W) hQM), (74, SatF (.bool false) (fun W => Play W0 B y d (m1, m2) W) hQM), (75, .is (.pointer (some ⟨B, 0, none⟩))), (76, .is (.pointer (some ⟨B, 0, none⟩))), (77, .is (.pointer (some ⟨B, 2, none⟩))), (78, .is (.pointer (some ⟨y, 0, none⟩))), (79, .is (.pointer (some ⟨y, 0, none⟩))), (80, .is (.pointer (some ⟨y, 0, none⟩))), (81, .is (hv (m1, m2))), (82, .is (hv (m1, m2))), (83, .is (.bool false)), (84, SatF (.bool false) (fun W => Play W0 B y d (m1, m2) W) hQM)] [0, 1, 2, 3, 4, 5, 6, 7, 8, 9, 10, 11, 12, 13, 14, 15, 16, 17, 18, 19, 20, 21, 22, 23, 84] (fun W => ∃ hh, Crashed W0 B y d hh W) (by kernel_rfl) (by kernel_rfl) (by kernel_rfl) (by kernel_rfl) (by kernel_rfl) (⟨_, HCr.out.below ((Below.refl _ _).drew)⟩) ?_ ?_
                  · refine ⟨?c0, ?c1, ?c2, ?c3, ?c4, ?c5, ?c6, ?c7, ?c8, ?c9, ?c10, ?c11, ?c12, ?c13, ?c14, ?c15, ?c16, ?c17, ?c18, ?c19, ?c20, ?c21, trivial⟩
                    case c0 => exact ask_copy (guard_none rfl) (.tmp 11) (.inl rfl) (by intro k hk; cases hk; rfl)
                    case c1 => exact ask_copy (guard_none rfl) (.tmp 3) (.inl rfl) (by intro k hk; cases hk; rfl)
                    case c2 => exact ask_copy (guard_none rfl) (.tmp 10) (.inl rfl) (by intro k hk; cases hk; rfl)
                    case c3 => exact ask_step (guardw_none rfl) _ _ _ rfl (by kernel_rfl) (fun x W hW hk => by
                        have e1 : x 63 = .pointer (some ⟨B, 0, none⟩) := hk 63 rfl
                        have e2 : x 64 = .slice ka nk ck := hk 64 rfl
                        have e3 : x 65 = .int .i64 (t : Int) := hk 65 rfl
                        show Calls _ _ #[x 63, x 64, x 65] W _
                        rw [e1, e2, e3]
                        by_cases hq : Play W0 B y d (m1, m2) W
                        · exact (crashed_open hq.crashed (t : Int) HK.out HNk.out hnk9.out).mono fun e W' h => by
                            obtain ⟨h1, h2⟩ := h
                            exact ⟨_, h1, ⟨_, h2.crashed⟩, (fun k hk => by cases hk; exact ⟨rfl, _, h2⟩), facts_go ⟨trivial, trivial, trivial, satf_goes (hQ := hQA) (fun _ => ⟨_, h2⟩), satf_goes (hQ := hQA) (fun _ => ⟨_, h2⟩), satf_goes (hQ := hQA) (fun _ => ⟨_, h2⟩), trivial, trivial, satf_goes (hQ := hQM) (fun _ => h2), satf_goes (hQ := hQM) (fun _ => h2), satf_goes (hQ := hQM) (fun _ => h2), satf_goes (hQ := hQM) (fun _ => h2), trivial, trivial, trivial, trivial, trivial, trivial, trivial, trivial, trivial, satf_goes (hQ := hQM) (fun _ => h2), trivial⟩⟩
                        · obtain ⟨hh, hc⟩ := hW
                          exact (crashed_open hc (t : Int) HK.out HNk.out hnk9.out).mono fun e W' h => by
                            obtain ⟨h1, h2⟩ := h
                            exact ⟨_, h1, ⟨_, h2.crashed⟩, (fun k hk => by cases hk; exact ⟨rfl, _, h2⟩), facts_go ⟨trivial, trivial, trivial, satf_goes (hQ := hQA) (fun _ => ⟨_, h2⟩), satf_goes (hQ := hQA) (fun _ => ⟨_, h2⟩), satf_goes (hQ := hQA) (fun _ => ⟨_, h2⟩), trivial, trivial, satf_goes (hQ := hQM) (fun h => absurd h hq), satf_goes (hQ := hQM) (fun h => absurd h hq), satf_goes (hQ := hQM) (fun h => absurd h hq), satf_goes (hQ := hQM) (fun h => absurd h hq), trivial, trivial, trivial, trivial, trivial, trivial, trivial, trivial, trivial, satf_goes (hQ := hQM) (fun h => absurd h hq), trivial⟩⟩)
                    case c4 => exact ask_still (guardw_none rfl) (fun x W hW hk => by
                        have h1 : x 66 = .bool true ∧ (∃ hh, Play W0 B y d hh W) := hk 66 rfl
                        exact ⟨.bool false, by simp [execOp, evalBy, h1.1, go_sem], fun k h => by cases h; exact ⟨rfl, h1.2⟩⟩)
                    case c5 => exact ask_copy (guard_none rfl) (.tmp 67) (.inl rfl) (by intro k hk; cases hk; rfl)
                    case c6 => exact askw_copy (guardw_some rfl rfl (fun v W h => (show v = .bool false ∧ (∃ hh, Play W0 B y d hh W) from h).1)) (.tmp 11) (.inl rfl) (by intro k hk; cases hk; rfl)
                    case c7 => exact askw_load (guardw_some rfl rfl (fun v W h => (show v = .bool false ∧ (∃ hh, Play W0 B y d hh W) from h).1)) _ (.tmp 6) (.pointer (some ⟨b2, 0, none⟩)) (hv (m1, m2)) rfl rfl (by intro k hk; cases hk; rfl) (fun W hW => load_hard (HX2.out.keep (hgb W hW)) rfl rfl)
                    case c8 => exact ask_step (guardw_some rfl rfl (fun v W h => (show v = .bool false ∧ (∃ hh, Play W0 B y d hh W) from h).1)) _ _ _ rfl (by kernel_rfl) (fun x W hW hk => by
                        have e1 : x 69 = .pointer (some ⟨B, 0, none⟩) := hk 69 rfl
                        have e2 : x 70 = hv (m1, m2) := hk 70 rfl
                        have h68 : x 68 = .bool false ∧ (∃ hh, Play W0 B y d hh W) := hk 68 rfl
                        obtain ⟨hh, hp⟩ := h68.2
                        show Calls _ _ #[x 69, x 70] W _
                        rw [e1, e2]
                        exact (play_set hp HM.out).mono fun e W' h => by
                          obtain ⟨h1, h2⟩ := h
                          exact ⟨_, h1, ⟨_, h2.crashed⟩, (fun k hk => by cases hk; exact ⟨rfl, h2⟩), facts_go ⟨trivial, trivial, trivial, satf_goes (hQ := hQA) (fun _ => ⟨_, h2⟩), satf_goes (hQ := hQA) (fun _ => ⟨_, h2⟩), satf_goes (hQ := hQA) (fun _ => ⟨_, h2⟩), trivial, trivial, satf_goes (hQ := hQM) (fun _ => h2), satf_goes (hQ := hQM) (fun _ => h2), satf_goes (hQ := hQM) (fun _ => h2), satf_goes (hQ := hQM) (fun _ => h2), trivial, trivial, trivial, trivial, trivial, trivial, trivial, trivial, trivial, satf_goes (hQ := hQM) (fun _ => h2), trivial⟩⟩)
                    case c9 => exact ask_still (guardw_some rfl rfl (fun v W h => (show v = .bool false ∧ (∃ hh, Play W0 B y d hh W) from h).1)) (fun x W hW hk => by
                        have h1 : x 71 = .bool true ∧ Play W0 B y d (m1, m2) W := hk 71 rfl
                        exact ⟨.bool false, by simp [execOp, evalBy, h1.1, go_sem], fun k h => by cases h; exact ⟨rfl, h1.2⟩⟩)
                    case c10 => exact ask_still (guardw_none rfl) (fun x W hW hk => by
                        have h1 : x 68 = .bool false ∧ (∃ hh, Play W0 B y d hh W) := hk 68 rfl
                        have h2 : x 72 = .bool false ∧ Play W0 B y d (m1, m2) W := hk 72 rfl
                        exact ⟨.bool false, by simp [execOp, evalBy, h1.1, h2.1, asBool], fun k h => by cases h; exact ⟨rfl, h2.2⟩⟩)
                    case c11 => exact ask_copy (guard_none rfl) (.tmp 73) (.inl rfl) (by intro k hk; cases hk; rfl)
                    case c12 => exact askw_copy (guardw_some rfl rfl (fun v W h => (show v = .bool false ∧ Play W0 B y d (m1, m2) W from h).1)) (.tmp 11) (.inl rfl) (by intro k hk; cases hk; rfl)
                    case c13 => exact askw_exec (guardw_some rfl rfl (fun v W h => (show v = .bool false ∧ Play W0 B y d (m1, m2) W from h).1)) (.pointer (some ⟨B, 0, none⟩)) rfl rfl (by intro k hk; cases hk; rfl) (fun W hW => by kernel_rfl)
                    case c14 => exact askw_field (guardw_some rfl rfl (fun v W h => (show v = .bool false ∧ Play W0 B y d (m1, m2) W from h).1)) _ (.tmp 76) 2 (.pointer (some ⟨B, 0, none⟩)) (.pointer (some ⟨B, 2, none⟩)) rfl rfl (by intro k hk; cases hk; rfl) (fun W => by kernel_rfl)
                    case c15 => exact askw_load (guardw_some rfl rfl (fun v W h => (show v = .bool false ∧ Play W0 B y d (m1, m2) W from h).1)) _ (.tmp 77) (.pointer (some ⟨B, 2, none⟩)) (.pointer (some ⟨y, 0, none⟩)) rfl rfl (by intro k hk; cases hk; rfl) (fun W hW => load_rp W _ _ (hgc W hW))
                    case c16 => exact askw_exec (guardw_some rfl rfl (fun v W h => (show v = .bool false ∧ Play W0 B y d (m1, m2) W from h).1)) (.pointer (some ⟨y, 0, none⟩)) rfl rfl (by intro k hk; cases hk; rfl) (fun W hW => by kernel_rfl)
                    case c17 => exact askw_field (guardw_some rfl rfl (fun v W h => (show v = .bool false ∧ Play W0 B y d (m1, m2) W from h).1)) _ (.tmp 79) 0 (.pointer (some ⟨y, 0, none⟩)) (.pointer (some ⟨y, 0, none⟩)) rfl rfl (by intro k hk; cases hk; rfl) (fun W => by kernel_rfl)
                    case c18 => exact ask_still (guardw_some rfl rfl (fun v W h => (show v = .bool false ∧ Play W0 B y d (m1, m2) W from h).1)) (fun x W hW hk => by
                        have e1 : x 80 = .pointer (some ⟨y, 0, none⟩) := hk 80 rfl
                        have h74 : x 74 = .bool false ∧ Play W0 B y d (m1, m2) W := hk 74 rfl
                        have hl := load_hard (o := 0) (a := m1) (b := m2) h74.2.ref rfl rfl
                        exact ⟨hv (m1, m2), by simp only [execOp, evalBy, e1, Sem.run_bind, hl, Result.andThen_ok, Sem.run_pure], fun k h => by cases h; rfl⟩)
                    case c19 => exact askw_load (guardw_some rfl rfl (fun v W h => (show v = .bool false ∧ Play W0 B y d (m1, m2) W from h).1)) _ (.tmp 6) (.pointer (some ⟨b2, 0, none⟩)) (hv (m1, m2)) rfl rfl (by intro k hk; cases hk; rfl) (fun W hW => load_hard (HX2.out.keep (hgb W hW)) rfl rfl)
                    case c20 => exact askw_bin (guardw_some rfl rfl (fun v W h => (show v = .bool false ∧ Play W0 B y d (m1, m2) W from h).1)) _ _ _ _ _ _ _ _ rfl rfl rfl (by intro k hk; cases hk; rfl) (fun W => neq_self _ _ _ _ W)
                    case c21 => exact ask_still (guardw_none rfl) (fun x W hW hk => by
                        have h1 : x 74 = .bool false ∧ Play W0 B y d (m1, m2) W := hk 74 rfl
                        have h2 : x 83 = .bool false := hk 83 rfl
                        exact ⟨.bool false, by simp [execOp, evalBy, h1.1, h2, asBool], fun k h => by cases h; exact ⟨rfl, h1.2⟩⟩)
                  · intro af W10 hW hd' hs' hf'
                    have t0 : af.tmps.getD 0 undef = .slice a len cap := hf' 0 rfl
                    have t1 : af.tmps.getD 1 undef = hv (g1, g2) := hf' 1 rfl
                    have t2 : af.tmps.getD 2 undef = hv (m1, m2) := hf' 2 rfl
                    have t3 : af.tmps.getD 3 undef = .slice ka nk ck := hf' 3 rfl
                    have t4 : af.tmps.getD 4 undef = undef := hf' 4 rfl
                    have t5 : af.tmps.getD 5 undef = .pointer (some ⟨b1, 0, none⟩) := hf' 5 rfl
                    have t6 : af.tmps.getD 6 undef = .pointer (some ⟨b2, 0, none⟩) := hf' 6 rfl
                    have t7 : af.tmps.getD 7 undef = undef := hf' 7 rfl
                    have t8 : af.tmps.getD 8 undef = u8 := hf' 8 rfl
                    have t9 : af.tmps.getD 9 undef = .int .i64 (j : Int) := hf' 9 rfl
                    have t10 : af.tmps.getD 10 undef = .int .i64 (t : Int) := hf' 10 rfl
                    have t11 : af.tmps.getD 11 undef = .pointer (some ⟨B, 0, none⟩) := hf' 11 rfl
                    have t12 : af.tmps.getD 12 undef = .int .i64 (i : Int) := hf' 12 rfl
                    have t13 : af.tmps.getD 13 undef = .bool true := hf' 13 rfl
                    have t14 : af.tmps.getD 14 undef = .bool false := hf' 14 rfl
                    have t15 : af.tmps.getD 15 undef = .slice a len cap := hf' 15 rfl
                    have t16 : af.tmps.getD 16 undef = .int .i64 (len : Int) := hf' 16 rfl
                    have t17 : af.tmps.getD 17 undef = .bool (decide (6 < (len : Int))) := hf' 17 rfl
                    have t18 : af.tmps.getD 18 undef = undef := hf' 18 rfl
                    have t19 : af.tmps.getD 19 undef = undef := hf' 19 rfl
                    have t20 : af.tmps.getD 20 undef = .int .i64 (j : Int) := hf' 20 rfl
                    have t21 : af.tmps.getD 21 undef = .bool true := hf' 21 rfl
                    have t22 : af.tmps.getD 22 undef = u22 := hf' 22 rfl
                    have t23 : af.tmps.getD 23 undef = u23 := hf' 23 rfl
                    have t84 : (af.tmps.getD 84 undef) = .bool false ∧ Play W0 B y d (m1, m2) W10 := hf' 84 rfl
                    obtain ⟨us, hus, haf⟩ := act_open 106 af hs' hd'
                    rw [← hus] at t0 t1 t2 t3 t4 t5 t6 t7 t8 t9 t10 t11 t12 t13 t14 t15 t16 t17 t18 t19 t20 t21 t22 t23 t84
                    have el : ((List.range 106).map us).toArray = #[us 0, us 1, us 2, us 3, us 4, us 5, us 6, us 7, us 8, us 9, us 10, us 11, us 12, us 13, us 14, us 15, us 16, us 17, us 18, us 19, us 20, us 21, us 22, us 23, us 24, us 25, us 26, us 27, us 28, us 29, us 30, us 31, us 32, us 33, us 34, us 35, us 36, us 37, us 38, us 39, us 40, us 41, us 42, us 43, us 44, us 45, us 46, us 47, us 48, us 49, us 50, us 51, us 52, us 53, us 54, us 55, us 56, us 57, us 58, us 59, us 60, us 61, us 62, us 63, us 64, us 65, us 66, us 67, us 68, us 69, us 70, us 71, us 72, us 73, us 74, us 75, us 76, us 77, us 78, us 79, us 80, us 81, us 82, us 83, us 84, us 85, us 86, us 87, us 88, us 89, us 90, us 91, us 92, us 93, us 94, us 95, us 96, us 97, us 98, us 99, us 100, us 101, us 102, us 103, us 104, us 105] := rfl
                    rw [el] at haf
                    subst haf
                    rw [t0, t1, t2, t3, t4, t5, t6, t7, t8, t9, t10, t11, t12, t13, t14, t15, t16, t17, t18, t19, t20, t21, t22, t23]
                    have H84 := Lib.hid t84
                    have HW10 := Lib.hid hW
                    clear hus t0 t1 t2 t3 t4 t5 t6 t7 t8 t9 t10 t11 t12 t13 t14 t15 t16 t17 t18 t19 t20 t21 t22 t23 t84 el hf' hs' hd' hW hgb hgc
                    rw [H84.out.1]
                    obtain ⟨k0, k2⟩ := H84.out.2.cells
                    have HCrc := Lib.hid (play_crash H84.out.2 (t : Int) (HK.out.below H84.out.2.bel) HNk.out (by have := HNk2.out; omega))
                    go_wp2_with fail
                    clear k0 k2
                    refine HCrc.out.mono ?_
                    rintro e w12 ⟨rfl, hcr⟩
                    have HCr12 := Lib.hid hcr
                    clear hcr HCrc
                    go_upto_region 26 with fail
                    refine region_late_by 13 _ _ rfl [(92, .is (.pointer (some ⟨B, 0, none⟩))), (93, .is (.slice ka nk ck)), (94, .is (.int .i64 (t : Int))), (95, SatF (.bool true) (fun W => Play W0 B y d (m1, m2) W) hQM), (96, SatF (.bool false) (fun W => Play W0 B y d (m1, m2) W) hQM), (97, SatF (.bool false) (fun W => Play W0 B y d (m1, m2) W) hQM), (98, .is (.pointer (some ⟨B, 0, none⟩))), (99, .is (.pointer (some ⟨B, 0, none⟩))), (100, .is (.pointer (some ⟨B, 1, none⟩))), (101, (.sat (fun v W => (∃ z, v = .pointer (some ⟨z, 0, none⟩) ∧ ∀ W', Below W.heap.size W W' → Calls Try.prog 39 #[.pointer (some ⟨z, 0, none⟩)] W' fun e w' => e = .returned (hv (m1, m2)) ∧ Below W'.heap.size W' w')) (fun _ W W' h hb => by obtain ⟨z, h1, h2⟩ := h; exact ⟨z, h1, fun W'' hb2 => h2 W'' (hb.trans (hb2.mono hb.size))⟩))), (102, .is (hv (m1, m2))), (103, .is (hv (m1, m2))), (104, .is (.bool false))] [0, 1, 2, 3, 4, 5, 6, 7, 8, 9, 10, 11, 12, 13, 14, 15, 16, 17, 18, 19, 20, 21, 22, 23, 104, 97] (fun W => Crashed W0 B y d (m1, m2) W) (by kernel_rfl) (by kernel_rfl) (by kernel_rfl) (by kernel_rfl) ?_ rfl rfl rfl (by kernel_rfl) (HCr12.out.below ((Below.refl _ _).drew)) ?_ ?_
                    · intro q fq hq
                      by_cases hq4 : q = 92
                      · subst hq4
                        exact .inl (by kernel_rfl)
                      · exact .inl (lookup_all 92 (by kernel_rfl) hq hq4)
                    · refine ⟨?c0, ?c1, ?c2, ?c3, ?c4, ?c5, ?c6, ?c7, ?c8, ?c9, ?c10, ?c11, ?c12, trivial⟩
                      case c0 => exact Asked.late (ask_copy (guard_none rfl) (.tmp 11) (.inl rfl) (by intro k hk; cases hk; rfl))
                      case c1 => exact Asked.late (ask_copy (guard_none rfl) (.tmp 3) (.inl rfl) (by intro k hk; cases hk; rfl))
                      case c2 => exact Asked.late (ask_copy (guard_none rfl) (.tmp 10) (.inl rfl) (by intro k hk; cases hk; rfl))
                      case c3 => exact ask_step2 (guardw_none rfl) _ _ _ rfl (by kernel_rfl) (fun x W hW hk => by
                          have e1 : x 92 = .pointer (some ⟨B, 0, none⟩) := hk 92 rfl
                          have e2 : x 93 = .slice ka nk ck := hk 93 rfl
                          have e3 : x 94 = .int .i64 (t : Int) := hk 94 rfl
                          show Calls _ _ #[x 92, x 93, x 94] W _
                          rw [e1, e2, e3]
                          exact (crashed_open hW (t : Int) HK.out HNk.out hnk9.out).mono fun e W' h => by
                            obtain ⟨h1, h2⟩ := h
                            exact ⟨_, h1, h2.crashed, (fun k hk => by cases hk; exact ⟨rfl, h2⟩), facts_go2 ⟨fun _ => trivial, fun _ => trivial, fun _ => trivial, fun _ => satf_goes (hQ := hQM) (fun _ => h2), fun _ => satf_goes (hQ := hQM) (fun _ => h2), fun _ => satf_goes (hQ := hQM) (fun _ => h2), fun _ => trivial, fun _ => trivial, fun _ => trivial, fun h => absurd (h.symm.trans (by kernel_rfl)) (by decide : ¬ (true = false)), fun _ => trivial, fun _ => trivial, fun _ => trivial, trivial⟩⟩)
                      case c4 => exact Asked.late (ask_still (guardw_none rfl) (fun x W hW hk => by
                          have h1 : x 95 = .bool true ∧ Play W0 B y d (m1, m2) W := hk 95 rfl
                          exact ⟨.bool false, by simp [execOp, evalBy, h1.1, go_sem], fun k h => by cases h; exact ⟨rfl, h1.2⟩⟩))
                      case c5 => exact Asked.late (ask_copy (guard_none rfl) (.tmp 96) (.inl rfl) (by intro k hk; cases hk; rfl))
                      case c6 => exact Asked.late (askw_copy (guardw_some rfl rfl (fun v W h => (show v = .bool false ∧ Play W0 B y d (m1, m2) W from h).1)) (.tmp 11) (.inl rfl) (by intro k hk; cases hk; rfl))
                      case c7 => exact Asked.late (askw_exec (guardw_some rfl rfl (fun v W h => (show v = .bool false ∧ Play W0 B y d (m1, m2) W from h).1)) (.pointer (some ⟨B, 0, none⟩)) rfl rfl (by intro k hk; cases hk; rfl) (fun W hW => by kernel_rfl))
                      case c8 => exact Asked.late (askw_field (guardw_some rfl rfl (fun v W h => (show v = .bool false ∧ Play W0 B y d (m1, m2) W from h).1)) _ (.tmp 99) 1 (.pointer (some ⟨B, 0, none⟩)) (.pointer (some ⟨B, 1, none⟩)) rfl rfl (by intro k hk; cases hk; rfl) (fun W => by kernel_rfl))
                      case c9 => exact Asked.late (ask_still (guardw_some rfl rfl (fun v W h => (show v = .bool false ∧ Play W0 B y d (m1, m2) W from h).1)) (fun x W hW hk => by
                          have e1 : x 100 = .pointer (some ⟨B, 1, none⟩) := hk 100 rfl
                          have h97 : x 97 = .bool false ∧ Play W0 B y d (m1, m2) W := hk 97 rfl
                          obtain ⟨z, hz, hg1⟩ := h97.2.get1
                          have hl := load_cp W ⟨B, 1, none⟩ _ hz
                          exact ⟨.pointer (some ⟨z, 0, none⟩), by simp only [execOp, evalBy, e1, Sem.run_bind, hl, Result.andThen_ok, Sem.run_pure], fun k h => by cases h; exact ⟨z, rfl, hg1⟩⟩))
                      case c10 => exact Asked.late (ask_step (guardw_some rfl rfl (fun v W h => (show v = .bool false ∧ Play W0 B y d (m1, m2) W from h).1)) _ _ _ rfl (by kernel_rfl) (fun x W hW hk => by
                          have h1 : (∃ z, x 101 = .pointer (some ⟨z, 0, none⟩) ∧ ∀ W', Below W.heap.size W W' → Calls Try.prog 39 #[.pointer (some ⟨z, 0, none⟩)] W' fun e w' => e = .returned (hv (m1, m2)) ∧ Below W'.heap.size W' w') := hk 101 rfl
                          obtain ⟨z, e1, hc⟩ := h1
                          show Calls _ _ #[x 101] W _
                          rw [e1]
                          exact (hc W (Below.refl _ _)).mono fun e W' h => by
                            obtain ⟨h1, h2⟩ := h
                            exact ⟨_, h1, hW.below h2, (fun k hk => by cases hk; rfl), facts_go ⟨trivial, trivial, trivial, satf_goes (hQ := hQM) (fun h => h.below h2), satf_goes (hQ := hQM) (fun h => h.below h2), satf_goes (hQ := hQM) (fun h => h.below h2), trivial, trivial, trivial, (fun v hv => by obtain ⟨z, h3, h4⟩ := hv; exact ⟨z, h3, fun W'' hb2 => h4 W'' (h2.trans (hb2.mono h2.size))⟩), trivial, trivial, trivial, trivial⟩⟩))
                      case c11 => exact Asked.late (askw_load (guardw_some rfl rfl (fun v W h => (show v = .bool false ∧ Play W0 B y d (m1, m2) W from h).1)) _ (.tmp 6) (.pointer (some ⟨b2, 0, none⟩)) (hv (m1, m2)) rfl rfl (by intro k hk; cases hk; rfl) (fun W hW => load_hard (HX2.out.keep hW.bel) rfl rfl))
                      case c12 => exact Asked.late (askw_bin (guardw_some rfl rfl (fun v W h => (show v = .bool false ∧ Play W0 B y d (m1, m2) W from h).1)) _ _ _ _ _ _ _ _ rfl rfl rfl (by intro k hk; cases hk; rfl) (fun W => neq_self _ _ _ _ W))
                    · intro af W13 hW hd' hs' hf'
                      have t0 : af.tmps.getD 0 undef = .slice a len cap := hf' 0 rfl
                      have t1 : af.tmps.getD 1 undef = hv (g1, g2) := hf' 1 rfl
                      have t2 : af.tmps.getD 2 undef = hv (m1, m2) := hf' 2 rfl
                      have t3 : af.tmps.getD 3 undef = .slice ka nk ck := hf' 3 rfl
                      have t4 : af.tmps.getD 4 undef = undef := hf' 4 rfl
                      have t5 : af.tmps.getD 5 undef = .pointer (some ⟨b1, 0, none⟩) := hf' 5 rfl
                      have t6 : af.tmps.getD 6 undef = .pointer (some ⟨b2, 0, none⟩) := hf' 6 rfl
                      have t7 : af.tmps.getD 7 undef = undef := hf' 7 rfl
                      have t8 : af.tmps.getD 8 undef = u8 := hf' 8 rfl
                      have t9 : af.tmps.getD 9 undef = .int .i64 (j : Int) := hf' 9 rfl
                      have t10 : af.tmps.getD 10 undef = .int .i64 (t : Int) := hf' 10 rfl
                      have t11 : af.tmps.getD 11 undef = .pointer (some ⟨B, 0, none⟩) := hf' 11 rfl
                      have t12 : af.tmps.getD 12 undef = .int .i64 (i : Int) := hf' 12 rfl
                      have t13 : af.tmps.getD 13 undef = .bool true := hf' 13 rfl
                      have t14 : af.tmps.getD 14 undef = .bool false := hf' 14 rfl
                      have t15 : af.tmps.getD 15 undef = .slice a len cap := hf' 15 rfl
                      have t16 : af.tmps.getD 16 undef = .int .i64 (len : Int) := hf' 16 rfl
                      have t17 : af.tmps.getD 17 undef = .bool (decide (6 < (len : Int))) := hf' 17 rfl
                      have t18 : af.tmps.getD 18 undef = undef := hf' 18 rfl
                      have t19 : af.tmps.getD 19 undef = undef := hf' 19 rfl
                      have t20 : af.tmps.getD 20 undef = .int .i64 (j : Int) := hf' 20 rfl
                      have t21 : af.tmps.getD 21 undef = .bool true := hf' 21 rfl
                      have t22 : af.tmps.getD 22 undef = u22 := hf' 22 rfl
                      have t23 : af.tmps.getD 23 undef = u23 := hf' 23 rfl
                      have t104 : af.tmps.getD 104 undef = .bool false := hf' 104 rfl
                      have t97 : (af.tmps.getD 97 undef) = .bool false ∧ Play W0 B y d (m1, m2) W13 := hf' 97 rfl
                      obtain ⟨us, hus, haf⟩ := act_open 106 af hs' hd'
                      rw [← hus] at t0 t1 t2 t3 t4 t5 t6 t7 t8 t9 t10 t11 t12 t13 t14 t15 t16 t17 t18 t19 t20 t21 t22 t23 t104 t97
                      have el : ((List.range 106).map us).toArray = #[us 0, us 1, us 2, us 3, us 4, us 5, us 6, us 7, us 8, us 9, us 10, us 11, us 12, us 13, us 14, us 15, us 16, us 17, us 18, us 19, us 20, us 21, us 22, us 23, us 24, us 25, us 26, us 27, us 28, us 29, us 30, us 31, us 32, us 33, us 34, us 35, us 36, us 37, us 38, us 39, us 40, us 41, us 42, us 43, us 44, us 45, us 46, us 47, us 48, us 49, us 50, us 51, us 52, us 53, us 54, us 55, us 56, us 57, us 58, us 59, us 60, us 61, us 62, us 63, us 64, us 65, us 66, us 67, us 68, us 69, us 70, us 71, us 72, us 73, us 74, us 75, us 76, us 77, us 78, us 79, us 80, us 81, us 82, us 83, us 84, us 85, us 86, us 87, us 88, us 89, us 90, us 91, us 92, us 93, us 94, us 95, us 96, us 97, us 98, us 99, us 100, us 101, us 102, us 103, us 104, us 105] := rfl
                      rw [el] at haf
                      subst haf
                      rw [t0, t1, t2, t3, t4, t5, t6, t7, t8, t9, t10, t11, t12, t13, t14, t15, t16, t17, t18, t19, t20, t21, t22, t23, t104]
                      have H105 := Lib.hid t97
                      clear hus t0 t1 t2 t3 t4 t5 t6 t7 t8 t9 t10 t11 t12 t13 t14 t15 t16 t17 t18 t19 t20 t21 t22 t23 t104 t97 el hf' hs' hd' hW
                      rw [H105.out.1]
                      have HBn := Lib.hid H105.out.2.bel
                      clear hQA hQM hlt
                      go_wp2
                      go_roundw
                      case rel => exact ⟨t + 1, by omega, by go_num, HBn⟩
                      case measure => simp [intOf]; omega
          · have t1 : ¬ (t : Int) < 70 := by omega
            go_wp2
            go_roundw
            case rel => exact ⟨j + 1, by omega, by go_num, HBt⟩
            case measure => simp [intOf]; omega
      · have j1 : ¬ (j : Int) < 5 := by omega
        have HBf := Lib.hid (HFin.out wr HBj.out)
        go_wp2
        go_ret
        exact ⟨rfl, HBf.out⟩

theorem cellAll_all (w : World) (a : Option Addr) (len cap : Nat) (L : List Hd) (hl : L.length = len) (hs : Hls w a L) (hlc : len ≤ cap ∧ cap ≤ 9223372036854775807) (g : Hd) (hg : okH g) (m : Hd) (hm : okH m)
    (ka : Option Addr) (nk ck : Nat) (ks : List Bool) (hnk : ks.length = nk) (hk : Bls w (.slice ka nk ck) ks) (hkn : ka = none → ck = 0) (hnk2 : nk ≤ 140737488351232) :
    Calls Try.prog 7 #[.slice a len cap, .agg (hc g), .agg (hc m), .slice ka nk ck] w fun e w' => e = .returned (.bool true) ∧ Below w.heap.size w w' :=
  cellAll_any hl hs hlc.1 hlc.2 hg hm hk hnk hkn hnk2
end Go.Proofs.Ytboongdoggggoaa

/- Proved: whatever it is given, the law CellAll answers true, and its arguments read as they did: whatever was set, wherever the power fails in a Set, and whatever of it is kept, the cell has the old one or the new one behind it, and the next Set is taken. Conditions: none. -/
namespace Go.Proofs.Ytboongdoggggoaa
set_option maxRecDepth 20000
open Go.ChangeShapes Go.WideShapes Go.ChangeAt Go.RowKit
open Go.ChangeMaps (open_string shut_string)
set_option linter.unusedVariables false

set_option maxRecDepth 100000 in
theorem cellAll_lifted (os : Os) (started : os.Started) (H : Type) (enc : TypeId × Value → H) :
    ReturnsInHanded {} Try.checked os 7 .any (Rows.cellAllSpec.pre6 enc Try.prog Try.f7 Rows.cellAllRow.domain false) (Rows.cellAllSpec.post enc Try.prog Try.f7 false true false false) := by
  refine returnsInHanded_of_change_sized (C := Try.checked) own started (by kernel_rfl) Try.func7
    (ChangeSpec.witness6 (enc := enc) (C := Try.checked) false ⟨#[], #[.slice none 0 0, .agg #[.int .u64 0, .int .u64 0], .agg #[.int .u64 0, .int .u64 0], .slice none 0 0], []⟩ 8 (by kernel_rfl) (by kernel_rfl) (by kernel_rfl) (by kernel_rfl)) ?_
  intro W base args ds gs before hval0 hW hcnd hsz0 _
  have hsz : (DataW.weightsEach Try.prog (Try.f7.params.toList ++ Rows.cellAllSpec.plain.varTypes Try.prog) (ds ++ gs)).all (· ≤ reachBytes) = true := hsz0
  clear hsz0
  have hval : ∀ (j : Nat) t v, Try.f7.params[j]? = some t → args[j]? = some v → Value.okWide Try.prog W .any base t v := hval0
  have hW' := hW
  obtain ⟨p, q, hA0, hV, rfl, hfz, hnd⟩ := hW
  have hA : DataW.TrodAll enc Try.prog W 0 (fun _ => true) true Try.f7.params.toList args.toList ds p := hA0
  rw [Try.params7] at hA hval hsz
  obtain ⟨v0, vs0, d0, ds0, p0, q0, hargs, rfl, rfl, h0, r0⟩ := trodAll_cons hA
  obtain ⟨v1, vs1, d1, ds1, p1, q1, rfl, rfl, rfl, h1, r1⟩ := trodAll_cons r0
  obtain ⟨v2, vs2, d2, ds2, p2, q2, rfl, rfl, rfl, h2, r2⟩ := trodAll_cons r1
  obtain ⟨v3, vs3, d3, ds3, p3, q3, rfl, rfl, rfl, h3, r3⟩ := trodAll_cons r2
  obtain ⟨rfl, rfl, rfl⟩ := trodAll_nil r3
  obtain rfl : args = #[v0, v1, v2, v3] := by cases args; simp_all
  obtain ⟨rfl, rfl⟩ := trodVars_none hV
  obtain ⟨a0, len0, cap0, rfl⟩ := okWide_slice Try.underlying61 (hval 0 61 v0 rfl rfl)
  have k0 := h0
  have lt0 : ∀ x ∈ p0, x.block < W.heap.size := by obtain ⟨m, hm⟩ := k0; exact DataW.trod_lt m _ _ _ hm
  obtain ⟨fuel0, hf0⟩ := h0
  obtain ⟨rs0, ls0, os0, ws0⟩ := hards_open hf0
  obtain ⟨cs1, rfl, -⟩ := okWide_struct Try.underlying63 (hval 1 63 v1 rfl rfl)
  have k1 := h1
  have lt1 : ∀ x ∈ p1, x.block < W.heap.size := by obtain ⟨m, hm⟩ := k1; exact DataW.trod_lt m _ _ _ hm
  obtain ⟨fuel1, hf1⟩ := h1
  obtain ⟨g1, w1, e1⟩ := hard_open hf1
  obtain rfl : cs1 = hc g1 := by
    apply Array.toList_inj.1
    simpa [Value.cells] using e1
  obtain ⟨cs2, rfl, -⟩ := okWide_struct Try.underlying63 (hval 2 63 v2 rfl rfl)
  have k2 := h2
  have lt2 : ∀ x ∈ p2, x.block < W.heap.size := by obtain ⟨m, hm⟩ := k2; exact DataW.trod_lt m _ _ _ hm
  obtain ⟨fuel2, hf2⟩ := h2
  obtain ⟨g2, w2, e2⟩ := hard_open hf2
  obtain rfl : cs2 = hc g2 := by
    apply Array.toList_inj.1
    simpa [Value.cells] using e2
  obtain ⟨a3, len3, cap3, rfl⟩ := okWide_slice Try.underlying64 (hval 3 64 v3 rfl rfl)
  have k3 := h3
  have lt3 : ∀ x ∈ p3, x.block < W.heap.size := by obtain ⟨m, hm⟩ := k3; exact DataW.trod_lt m _ _ _ hm
  obtain ⟨fuel3, hf3⟩ := h3
  obtain ⟨rs3, ls3, os3, ns3, ws3⟩ := open_bls hf3
  have ss3 : len3 ≤ 140737488351232 := ws3 (j := 3) hsz rfl rfl
  clear hA0 hval0
  refine (cellAll_all W a0 len0 cap0 rs0 ls0 os0 ws0 g1 w1 g2 w2 a3 len3 cap3 rs3 ls3 os3 ns3 ss3).mono fun e W' ⟨he, bel⟩ => ?_
  subst he
  exact ⟨_, rfl, _, _, _, [], _, [], hW', trodAll_mk1 (shut_bool Try.underlying4 _), (trodAll_cons_mk (Below.trod laidOut (by kernel_rfl) (of_decide_eq_true (by kernel_rfl)) k0 bel lt0) (trodAll_cons_mk (Below.trod laidOut (by kernel_rfl) (of_decide_eq_true (by kernel_rfl)) k1 bel lt1) (trodAll_cons_mk (Below.trod laidOut (by kernel_rfl) (of_decide_eq_true (by kernel_rfl)) k2 bel lt2) (trodAll_cons_mk (Below.trod laidOut (by kernel_rfl) (of_decide_eq_true (by kernel_rfl)) k3 bel lt3) trodAll_mk0)))), rfl, bel.frame _, fun h => by cases h⟩

theorem cellAll_proved : Rows.CellAllSaid :=
  OpenClaim.holds_of_wide 7 Try.f7 rfl rfl rfl rfl rfl rfl rfl ⟨rfl, rfl, rfl, rfl, rfl⟩ rfl rfl rfl rfl rfl (by kernel_rfl) Try.func7 (by kernel_rfl)
    (of_decide_eq_true (by kernel_rfl)) (by unfold Func.isWrapper; first | (rw [if_pos (by decide +kernel)]; kernel_rfl) | (rw [if_neg (by decide +kernel)]; exact ⟨rfl, rfl⟩))
    (fun os started H enc _ => cellAll_lifted os started H enc)
#print axioms cellAll_proved
end Go.Proofs.Ytboongdoggggoaa
