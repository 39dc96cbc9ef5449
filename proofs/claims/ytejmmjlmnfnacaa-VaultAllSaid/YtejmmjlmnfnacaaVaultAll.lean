/- VaultAll: the walk. -/
import Derived.Test.YtejmmjlmnfnacaaVaultPlay
import Derived.Test.YtejmmjlmnfnacaaBlsIn
import Derived.Test.YtejmmjlmnfnacaaGuards
namespace Go.Proofs.Ytejmmjlmnfnacaa
open Go.RowKit Go.Maps DiskMath SwapMath Reg

theorem neq_str (s t : Operand) (l : List UInt8) (W : World) : (do eqGuard .neq 9 s t (nm l) (nm l); binOp .neq 9 (nm l) (nm l) : Sem Value).run Try.prog W = .ok (.bool false) W := by
  have u := Try.underlying9
  simp [eqGuard, go_sem, nm_str]

set_option maxHeartbeats 4000000 in
set_option maxRecDepth 100000 in
theorem vaultAll_any {w : World} {a0 a1 a2 : Option Addr} {n0 c0 n1 c1 n2 c2 : Nat} {l0 l1 l2 : List UInt8} (h0 : Bys w (.slice a0 n0 c0) l0) (e0 : l0.length = n0) (h1 : Bys w (.slice a1 n1 c1) l1) (e1 : l1.length = n1) (h2 : Bys w (.slice a2 n2 c2) l2) (e2 : l2.length = n2)
    {ka : Option Addr} {nk ck : Nat} {ks : List Bool} (hk : Bls w (.slice ka nk ck) ks) (hnk : ks.length = nk) (hnk2 : nk ≤ 9223372036854775807) (tn : Int) :
    Calls Try.prog 5 #[.slice a0 n0 c0, .slice a1 n1 c1, .slice a2 n2 c2, .slice ka nk ck, .int .i64 tn] w fun e w' => e = .returned (.bool true) ∧ Below w.heap.size w w' := by
  by_cases q0 : 3000 < n0
  · have d0 : decide (3000 < (n0 : Int)) = true := by simp; omega
    clear h0 h1 h2 e0 e1 e2 hk hnk hnk2
    go_enter Try.func5, Try.ntmps5
    go_wp2_with fail
    refine (vawake_any w).mono ?_
    rintro e w1 ⟨rfl, hb1⟩
    have HB1 := Lib.hid hb1
    clear hb1
    go_wp2_with fail
    refine (vawake_any w1).mono ?_
    rintro e w2 ⟨rfl, hb2⟩
    have HB2 := Lib.hid (HB1.out.trans (hb2.mono HB1.out.size))
    clear hb2
    go_wp2
    go_ret
    exact ⟨rfl, HB2.out⟩
  by_cases q1 : 3000 < n1
  · have d0 : decide (3000 < (n0 : Int)) = false := by simp; omega
    have d1 : decide (3000 < (n1 : Int)) = true := by simp; omega
    clear h0 h1 h2 e0 e1 e2 hk hnk hnk2
    go_enter Try.func5, Try.ntmps5
    go_wp2_with fail
    refine (vawake_any w).mono ?_
    rintro e w1 ⟨rfl, hb1⟩
    have HB1 := Lib.hid hb1
    clear hb1
    go_wp2_with fail
    refine (vawake_any w1).mono ?_
    rintro e w2 ⟨rfl, hb2⟩
    have HB2 := Lib.hid (HB1.out.trans (hb2.mono HB1.out.size))
    clear hb2
    go_wp2
    go_ret
    exact ⟨rfl, HB2.out⟩
  by_cases q2 : 3000 < n2
  · have d0 : decide (3000 < (n0 : Int)) = false := by simp; omega
    have d1 : decide (3000 < (n1 : Int)) = false := by simp; omega
    have d2 : decide (3000 < (n2 : Int)) = true := by simp; omega
    clear h0 h1 h2 e0 e1 e2 hk hnk hnk2
    go_enter Try.func5, Try.ntmps5
    go_wp2_with fail
    refine (vawake_any w).mono ?_
    rintro e w1 ⟨rfl, hb1⟩
    have HB1 := Lib.hid hb1
    clear hb1
    go_wp2_with fail
    refine (vawake_any w1).mono ?_
    rintro e w2 ⟨rfl, hb2⟩
    have HB2 := Lib.hid (HB1.out.trans (hb2.mono HB1.out.size))
    clear hb2
    go_wp2
    go_ret
    exact ⟨rfl, HB2.out⟩
  have d0 : decide (3000 < (n0 : Int)) = false := by simp; omega
  have d1 : decide (3000 < (n1 : Int)) = false := by simp; omega
  have d2 : decide (3000 < (n2 : Int)) = false := by simp; omega
  have H0 := Lib.hid h0
  have H1 := Lib.hid h1
  have H2 := Lib.hid h2
  have E0 := Lib.hid e0
  have E1 := Lib.hid e1
  have E2 := Lib.hid e2
  have Q0 := Lib.hid q0
  have Q1 := Lib.hid q1
  have Q2 := Lib.hid q2
  have HK := Lib.hid hk
  have HNk := Lib.hid hnk
  have HNk2 := Lib.hid hnk2
  clear h0 h1 h2 e0 e1 e2 hk hnk hnk2 q0 q1 q2
  go_enter Try.func5, Try.ntmps5
  go_wp2_with fail
  refine (vawake_any w).mono ?_
  rintro e w1 ⟨rfl, hb1⟩
  have HB1 := Lib.hid hb1
  clear hb1
  go_wp2
  clear d0 d1 d2
  go_loopw [11] (fun s11 wr => ∃ j : Nat, j ≤ 8 ∧ s11 = .int .i64 j ∧ Hid (Below w.heap.size w wr)) (fun s11 _ => 8 - (intOf s11).toNat)
  case atStart => exact ⟨0, by decide, rfl, HB1⟩
  case round =>
    obtain ⟨j, hj, rfl, HBj⟩ := hrel
    have j0 : (0 : Int) ≤ (j : Int) := Int.natCast_nonneg _
    clear HB1
    by_cases hj8 : j < 8
    · have j1 : (j : Int) < 8 := by omega
      obtain ⟨wj, hwj⟩ : ∃ wj : World, wj = wr := ⟨_, rfl⟩
      rw [← hwj] at HBj
      have HWj := Lib.hid hwj
      clear hwj
      go_wp2
      rw [← HWj.out]
      clear HWj
      go_loopw [12] (fun s12 wr => ∃ t : Nat, t ≤ 4 ∧ s12 = .int .i64 t ∧ Hid (Below w.heap.size w wr)) (fun s12 _ => 4 - (intOf s12).toNat)
      case atStart => exact ⟨0, by decide, rfl, HBj⟩
      case round =>
        obtain ⟨t, ht, rfl, HBt⟩ := hrel
        have t0 : (0 : Int) ≤ (t : Int) := Int.natCast_nonneg _
        clear HBj
        by_cases ht4 : t < 4
        · have t1 : (t : Int) < 4 := by omega
          go_wp2_with fail
          refine (play_begin HBt.out).mono ?_
          rintro e w2 ⟨B, y, d, rfl, hp⟩
          have HC := Lib.hid (play_put hp H0.out E0.out (by have := Q0.out; omega))
          clear hp
          go_wp2_with fail
          refine HC.out.mono ?_
          rintro e w3 ⟨rfl, hp⟩
          obtain ⟨pw3, hrn⟩ := hp.live.run
          have k0 : w3.cell? ⟨B, 0, none⟩ = some (dp d) := by rw [hrn.cell]; rfl
          clear hrn
          have HC := Lib.hid (live_fuse hp.live (j : Int) (by omega))
          clear hp
          go_wp2_with fail
          refine HC.out.mono ?_
          rintro e w4 ⟨rfl, hp⟩
          clear k0
          have HC := Lib.hid (live_put hp H1.out E1.out (by have := Q1.out; omega))
          clear hp
          go_wp2_with fail
          refine HC.out.mono ?_
          rintro e w5 ⟨rfl, hp⟩
          obtain ⟨pw5, hrn⟩ := hp.run
          have k0 : w5.cell? ⟨B, 0, none⟩ = some (dp d) := by rw [hrn.cell]; rfl
          clear hrn
          have HC := Lib.hid (done_crash hp tn HK.out HNk.out HNk2.out)
          clear hp
          go_wp2_with fail
          refine HC.out.mono ?_
          rintro e w6 ⟨rfl, hh, hp⟩
          clear k0
          obtain ⟨pw6, hrn⟩ := hp.run
          have k0 : w6.cell? ⟨B, 0, none⟩ = some (dp d) := by rw [hrn.cell]; rfl
          clear hrn
          have HC := Lib.hid (crashed_fuse hp (t : Int) (by omega))
          clear hp
          go_wp2_with fail
          refine HC.out.mono ?_
          rintro e w7 ⟨rfl, hp⟩
          clear k0
          have HC := Lib.hid (crashed_open hp tn HK.out HNk.out HNk2.out)
          clear hp
          go_wp2_with fail
          refine HC.out.mono ?_
          rintro e w8 ⟨rfl, hp⟩
          obtain ⟨pw8, hrn⟩ := hp.run
          have k0 : w8.cell? ⟨B, 0, none⟩ = some (dp d) := by rw [hrn.cell]; rfl
          clear hrn
          have HC := Lib.hid (live_calm hp)
          clear hp
          go_wp2_with fail
          refine HC.out.mono ?_
          rintro e w9 ⟨rfl, hp⟩
          clear k0
          have HP9 := Lib.hid hp
          clear hp HC HBt
          go_upto_region 20 with fail
          have hQM : ∀ W W' : World, Live w B y d (some l2) W → Below W.heap.size W W' → Live w B y d (some l2) W' := fun W W' h hb => h.below hb
          have hGb : ∀ W : World, (∃ tt, Play w B y d tt W) → Below w.heap.size w W := fun W h => by
            obtain ⟨tt, h⟩ := h
            exact h.bel
          refine region_by [(82, .is (.pointer (some ⟨B, 0, none⟩))), (83, .is (.slice a2 n2 c2)), (84, SatF (.bool true) (fun W => Live w B y d (some l2) W) hQM), (85, SatF (.bool false) (fun W => Live w B y d (some l2) W) hQM), (86, SatF (.bool false) (fun W => Live w B y d (some l2) W) hQM), (87, .is (.pointer (some ⟨B, 0, none⟩))), (88, .is (.pointer (some ⟨B, 0, none⟩))), (89, .is (.pointer (some ⟨B, 2, none⟩))), (90, .is (.pointer (some ⟨y, 0, none⟩))), (91, .is (.pointer (some ⟨y, 0, none⟩))), (92, .is (.pointer (some ⟨y, 0, none⟩))), (93, .is (.pointer (some ⟨y, 0, none⟩))), (94, .is (nm l2)), (95, .is (.slice a2 n2 c2)), (96, .is (nm l2)), (97, .is (.bool false)), (98, SatF (.bool false) (fun W => Live w B y d (some l2) W) hQM)] [0, 1, 2, 3, 4, 5, 6, 7, 8, 9, 10, 11, 12, 13, 14, 15, 16, 17, 18, 19, 20, 21, 22, 23, 24, 25, 26, 27, 28, 29, 30, 31, 32, 33, 34, 35, 98] (fun W => ∃ tt, Play w B y d tt W) (by kernel_rfl) (by kernel_rfl) (by kernel_rfl) (by kernel_rfl) (by kernel_rfl) ⟨_, HP9.out.below ((Below.refl _ _).drew)⟩ ?_ ?_
          · refine ⟨?c0, ?c1, ?c2, ?c3, ?c4, ?c5, ?c6, ?c7, ?c8, ?c9, ?c10, ?c11, ?c12, ?c13, ?c14, ?c15, ?c16, trivial⟩
            case c0 => exact ask_copy (guard_none rfl) (.tmp 13) (.inl rfl) (by intro k hk; cases hk; rfl)
            case c1 => exact ask_copy (guard_none rfl) (.tmp 2) (.inl rfl) (by intro k hk; cases hk; rfl)
            case c2 => exact ask_step (guardw_none rfl) _ _ _ rfl (by kernel_rfl) (fun x W hW hk => by
                have e1 : x 82 = .pointer (some ⟨B, 0, none⟩) := hk 82 rfl
                have e2 : x 83 = .slice a2 n2 c2 := hk 83 rfl
                obtain ⟨tt, hp⟩ := hW
                show Calls _ _ #[x 82, x 83] W _
                rw [e1, e2]
                exact (play_put hp H2.out E2.out (by have := Q2.out; omega)).mono fun e W' h => by
                  obtain ⟨h1, h2⟩ := h
                  exact ⟨_, h1, ⟨_, h2⟩, (fun k hk => by cases hk; exact ⟨rfl, h2.live⟩), facts_go ⟨trivial, trivial, satf_goes (hQ := hQM) (fun _ => h2.live), satf_goes (hQ := hQM) (fun _ => h2.live), satf_goes (hQ := hQM) (fun _ => h2.live), trivial, trivial, trivial, trivial, trivial, trivial, trivial, trivial, trivial, trivial, trivial, satf_goes (hQ := hQM) (fun _ => h2.live), trivial⟩⟩)
            case c3 => exact ask_still (guardw_none rfl) (fun x W hW hk => by
                have h1 : x 84 = .bool true ∧ Live w B y d (some l2) W := hk 84 rfl
                exact ⟨.bool false, by simp [execOp, evalBy, h1.1, go_sem], fun k h => by cases h; exact ⟨rfl, h1.2⟩⟩)
            case c4 => exact ask_copy (guard_none rfl) (.tmp 85) (.inl rfl) (by intro k hk; cases hk; rfl)
            case c5 => exact askw_copy (guardw_some rfl rfl (fun v W h => (show v = .bool false ∧ Live w B y d (some l2) W from h).1)) (.tmp 13) (.inl rfl) (by intro k hk; cases hk; rfl)
            case c6 => exact askw_exec (guardw_some rfl rfl (fun v W h => (show v = .bool false ∧ Live w B y d (some l2) W from h).1)) (.pointer (some ⟨B, 0, none⟩)) rfl rfl (by intro k hk; cases hk; rfl) (fun W hW => by kernel_rfl)
            case c7 => exact askw_field (guardw_some rfl rfl (fun v W h => (show v = .bool false ∧ Live w B y d (some l2) W from h).1)) _ (.tmp 88) 2 (.pointer (some ⟨B, 0, none⟩)) (.pointer (some ⟨B, 2, none⟩)) rfl rfl (by intro k hk; cases hk; rfl) (fun W => by kernel_rfl)
            case c8 => exact ask_still (guardw_some rfl rfl (fun v W h => (show v = .bool false ∧ Live w B y d (some l2) W from h).1)) (fun x W hW hk => by
                have e1 : x 89 = .pointer (some ⟨B, 2, none⟩) := hk 89 rfl
                have h86 : x 86 = .bool false ∧ Live w B y d (some l2) W := hk 86 rfl
                obtain ⟨pq, hrn⟩ := h86.2.run
                have hl := load_rp W ⟨B, 2, none⟩ (.pointer (some ⟨y, 0, none⟩)) (by rw [hrn.cell]; rfl)
                exact ⟨.pointer (some ⟨y, 0, none⟩), by simp only [execOp, evalBy, e1, Sem.run_bind, hl, Result.andThen_ok, Sem.run_pure], fun k h => by cases h; rfl⟩)
            case c9 => exact askw_exec (guardw_some rfl rfl (fun v W h => (show v = .bool false ∧ Live w B y d (some l2) W from h).1)) (.pointer (some ⟨y, 0, none⟩)) rfl rfl (by intro k hk; cases hk; rfl) (fun W hW => by kernel_rfl)
            case c10 => exact askw_field (guardw_some rfl rfl (fun v W h => (show v = .bool false ∧ Live w B y d (some l2) W from h).1)) _ (.tmp 91) 0 (.pointer (some ⟨y, 0, none⟩)) (.pointer (some ⟨y, 0, none⟩)) rfl rfl (by intro k hk; cases hk; rfl) (fun W => by kernel_rfl)
            case c11 => exact askw_field (guardw_some rfl rfl (fun v W h => (show v = .bool false ∧ Live w B y d (some l2) W from h).1)) _ (.tmp 92) 0 (.pointer (some ⟨y, 0, none⟩)) (.pointer (some ⟨y, 0, none⟩)) rfl rfl (by intro k hk; cases hk; rfl) (fun W => by kernel_rfl)
            case c12 => exact ask_still (guardw_some rfl rfl (fun v W h => (show v = .bool false ∧ Live w B y d (some l2) W from h).1)) (fun x W hW hk => by
                have e1 : x 93 = .pointer (some ⟨y, 0, none⟩) := hk 93 rfl
                have h86 : x 86 = .bool false ∧ Live w B y d (some l2) W := hk 86 rfl
                have hl := load_str W ⟨y, 0, none⟩ (nm l2) (by rw [h86.2.ref.cell]; rfl)
                exact ⟨nm l2, by simp only [execOp, evalBy, e1, Sem.run_bind, hl, Result.andThen_ok, Sem.run_pure], fun k h => by cases h; rfl⟩)
            case c13 => exact askw_copy (guardw_some rfl rfl (fun v W h => (show v = .bool false ∧ Live w B y d (some l2) W from h).1)) (.tmp 2) (.inl rfl) (by intro k hk; cases hk; rfl)
            case c14 => exact ask_still (guardw_some rfl rfl (fun v W h => (show v = .bool false ∧ Live w B y d (some l2) W from h).1)) (fun x W hW hk => by
                have e1 : x 95 = .slice a2 n2 c2 := hk 95 rfl
                have hcv := conv_bys (H2.out.below (Nat.le_refl _) (hGb W hW))
                exact ⟨nm l2, by simp only [execOp, evalBy, e1, Sem.run_bind, hcv, Result.andThen_ok, Sem.run_pure]; rfl, fun k h => by cases h; rfl⟩)
            case c15 => exact askw_bin (guardw_some rfl rfl (fun v W h => (show v = .bool false ∧ Live w B y d (some l2) W from h).1)) _ _ _ _ _ _ _ _ rfl rfl rfl (by intro k hk; cases hk; rfl) (fun W => neq_str _ _ _ W)
            case c16 => exact ask_still (guardw_none rfl) (fun x W hW hk => by
                have h1 : x 86 = .bool false ∧ Live w B y d (some l2) W := hk 86 rfl
                have h2 : x 97 = .bool false := hk 97 rfl
                exact ⟨.bool false, by simp [execOp, evalBy, h1.1, h2, asBool], fun k h => by cases h; exact ⟨rfl, h1.2⟩⟩)
          · intro af w10 hW hd' hs' hf'
            have t0 : af.tmps.getD 0 undef = .slice a0 n0 c0 := hf' 0 rfl
            have t1 : af.tmps.getD 1 undef = .slice a1 n1 c1 := hf' 1 rfl
            have t2 : af.tmps.getD 2 undef = .slice a2 n2 c2 := hf' 2 rfl
            have t3 : af.tmps.getD 3 undef = .slice ka nk ck := hf' 3 rfl
            have t4 : af.tmps.getD 4 undef = .int .i64 tn := hf' 4 rfl
            have t5 : af.tmps.getD 5 undef = undef := hf' 5 rfl
            have t6 : af.tmps.getD 6 undef = undef := hf' 6 rfl
            have t7 : af.tmps.getD 7 undef = undef := hf' 7 rfl
            have t8 : af.tmps.getD 8 undef = undef := hf' 8 rfl
            have t9 : af.tmps.getD 9 undef = undef := hf' 9 rfl
            have t10 : af.tmps.getD 10 undef = u10 := hf' 10 rfl
            have t11 : af.tmps.getD 11 undef = .int .i64 (j : Int) := hf' 11 rfl
            have t12 : af.tmps.getD 12 undef = .int .i64 (t : Int) := hf' 12 rfl
            have t13 : af.tmps.getD 13 undef = .pointer (some ⟨B, 0, none⟩) := hf' 13 rfl
            have t14 : af.tmps.getD 14 undef = .bool true := hf' 14 rfl
            have t15 : af.tmps.getD 15 undef = .bool false := hf' 15 rfl
            have t16 : af.tmps.getD 16 undef = .bool false := hf' 16 rfl
            have t17 : af.tmps.getD 17 undef = .slice a0 n0 c0 := hf' 17 rfl
            have t18 : af.tmps.getD 18 undef = .int .i64 (n0 : Int) := hf' 18 rfl
            have t19 : af.tmps.getD 19 undef = .bool false := hf' 19 rfl
            have t20 : af.tmps.getD 20 undef = .bool false := hf' 20 rfl
            have t21 : af.tmps.getD 21 undef = .bool false := hf' 21 rfl
            have t22 : af.tmps.getD 22 undef = .slice a1 n1 c1 := hf' 22 rfl
            have t23 : af.tmps.getD 23 undef = .int .i64 (n1 : Int) := hf' 23 rfl
            have t24 : af.tmps.getD 24 undef = .bool false := hf' 24 rfl
            have t25 : af.tmps.getD 25 undef = .bool false := hf' 25 rfl
            have t26 : af.tmps.getD 26 undef = .bool false := hf' 26 rfl
            have t27 : af.tmps.getD 27 undef = .slice a2 n2 c2 := hf' 27 rfl
            have t28 : af.tmps.getD 28 undef = .int .i64 (n2 : Int) := hf' 28 rfl
            have t29 : af.tmps.getD 29 undef = .bool false := hf' 29 rfl
            have t30 : af.tmps.getD 30 undef = .bool false := hf' 30 rfl
            have t31 : af.tmps.getD 31 undef = undef := hf' 31 rfl
            have t32 : af.tmps.getD 32 undef = .int .i64 (j : Int) := hf' 32 rfl
            have t33 : af.tmps.getD 33 undef = .bool true := hf' 33 rfl
            have t34 : af.tmps.getD 34 undef = u34 := hf' 34 rfl
            have t35 : af.tmps.getD 35 undef = u35 := hf' 35 rfl
            have t98 : (af.tmps.getD 98 undef) = .bool false ∧ Live w B y d (some l2) w10 := hf' 98 rfl
            obtain ⟨us, hus, haf⟩ := act_open 122 af hs' hd'
            rw [← hus] at t0 t1 t2 t3 t4 t5 t6 t7 t8 t9 t10 t11 t12 t13 t14 t15 t16 t17 t18 t19 t20 t21 t22 t23 t24 t25 t26 t27 t28 t29 t30 t31 t32 t33 t34 t35 t98
            have el : ((List.range 122).map us).toArray = #[us 0, us 1, us 2, us 3, us 4, us 5, us 6, us 7, us 8, us 9, us 10, us 11, us 12, us 13, us 14, us 15, us 16, us 17, us 18, us 19, us 20, us 21, us 22, us 23, us 24, us 25, us 26, us 27, us 28, us 29, us 30, us 31, us 32, us 33, us 34, us 35, us 36, us 37, us 38, us 39, us 40, us 41, us 42, us 43, us 44, us 45, us 46, us 47, us 48, us 49, us 50, us 51, us 52, us 53, us 54, us 55, us 56, us 57, us 58, us 59, us 60, us 61, us 62, us 63, us 64, us 65, us 66, us 67, us 68, us 69, us 70, us 71, us 72, us 73, us 74, us 75, us 76, us 77, us 78, us 79, us 80, us 81, us 82, us 83, us 84, us 85, us 86, us 87, us 88, us 89, us 90, us 91, us 92, us 93, us 94, us 95, us 96, us 97, us 98, us 99, us 100, us 101, us 102, us 103, us 104, us 105, us 106, us 107, us 108, us 109, us 110, us 111, us 112, us 113, us 114, us 115, us 116, us 117, us 118, us 119, us 120, us 121] := rfl
            rw [el] at haf
            subst haf
            rw [t0, t1, t2, t3, t4, t5, t6, t7, t8, t9, t10, t11, t12, t13, t14, t15, t16, t17, t18, t19, t20, t21, t22, t23, t24, t25, t26, t27, t28, t29, t30, t31, t32, t33, t34, t35]
            have H98 := Lib.hid t98
            clear hus t0 t1 t2 t3 t4 t5 t6 t7 t8 t9 t10 t11 t12 t13 t14 t15 t16 t17 t18 t19 t20 t21 t22 t23 t24 t25 t26 t27 t28 t29 t30 t31 t32 t33 t34 t35 t98 el hf' hs' hd' hW hGb
            rw [H98.out.1]
            obtain ⟨p10, hrn⟩ := H98.out.2.run
            have k0 : w10.cell? ⟨B, 0, none⟩ = some (dp d) := by rw [hrn.cell]; rfl
            clear hrn HP9
            have HC := Lib.hid (live_crash H98.out.2 tn HK.out HNk.out HNk2.out)
            go_wp2_with fail
            refine HC.out.mono ?_
            rintro e w11 ⟨rfl, hp⟩
            have HCr := Lib.hid hp
            have hGb : ∀ W : World, Crashed w B y d (some l2) W → Below w.heap.size w W := fun W h => h.bel
            clear k0 hp HC
            go_upto_region 23 with fail
            refine region_late_by 15 _ _ rfl [(106, .is (.pointer (some ⟨B, 0, none⟩))), (107, .is (.slice ka nk ck)), (108, .is (.int .i64 tn)), (109, SatF (.bool true) (fun W => Live w B y d (some l2) W) hQM), (110, SatF (.bool false) (fun W => Live w B y d (some l2) W) hQM), (111, SatF (.bool false) (fun W => Live w B y d (some l2) W) hQM), (112, .is (.pointer (some ⟨B, 0, none⟩))), (113, .is (.pointer (some ⟨B, 0, none⟩))), (114, .is (.pointer (some ⟨B, 1, none⟩))), (115, (.sat (fun v W => ∃ z, v = .pointer (some ⟨z, 0, none⟩) ∧ ∀ W', Below W.heap.size W W' → Calls Try.prog 23 #[.pointer (some ⟨z, 0, none⟩)] W' fun e w' => e = .returned (tv (some l2)) ∧ Below W'.heap.size W' w') (fun _ W W' h hb => by obtain ⟨z, h1, h2⟩ := h; exact ⟨z, h1, fun W'' hb2 => h2 W'' (hb.trans (hb2.mono hb.size))⟩))), (116, .is (tv (some l2))), (117, .is (nm l2)), (118, .is (.slice a2 n2 c2)), (119, .is (nm l2)), (120, .is (.bool false))] [0, 1, 2, 3, 4, 5, 6, 7, 8, 9, 10, 11, 12, 13, 14, 15, 16, 17, 18, 19, 20, 21, 22, 23, 24, 25, 26, 27, 28, 29, 30, 31, 32, 33, 34, 35, 120, 111] (fun W => Crashed w B y d (some l2) W) (by kernel_rfl) (by kernel_rfl) (by kernel_rfl) (by kernel_rfl) ?_ rfl rfl rfl (by kernel_rfl) (HCr.out.below ((Below.refl _ _).drew)) ?_ ?_
            · intro q fq hq
              by_cases hq4 : q = 106
              · subst hq4
                exact .inl (by kernel_rfl)
              · exact .inl (lookup_all 106 (by kernel_rfl) hq hq4)
            · refine ⟨?c0, ?c1, ?c2, ?c3, ?c4, ?c5, ?c6, ?c7, ?c8, ?c9, ?c10, ?c11, ?c12, ?c13, ?c14, trivial⟩
              case c0 => exact Asked.late (ask_copy (guard_none rfl) (.tmp 13) (.inl rfl) (by intro k hk; cases hk; rfl))
              case c1 => exact Asked.late (ask_copy (guard_none rfl) (.tmp 3) (.inl rfl) (by intro k hk; cases hk; rfl))
              case c2 => exact Asked.late (ask_copy (guard_none rfl) (.tmp 4) (.inl rfl) (by intro k hk; cases hk; rfl))
              case c3 => exact ask_step2 (guardw_none rfl) _ _ _ rfl (by kernel_rfl) (fun x W hW hk => by
                  have e1 : x 106 = .pointer (some ⟨B, 0, none⟩) := hk 106 rfl
                  have e2 : x 107 = .slice ka nk ck := hk 107 rfl
                  have e3 : x 108 = .int .i64 tn := hk 108 rfl
                  show Calls _ _ #[x 106, x 107, x 108] W _
                  rw [e1, e2, e3]
                  exact (crashed_open hW tn HK.out HNk.out HNk2.out).mono fun e W' h => by
                    obtain ⟨h1, h2⟩ := h
                    exact ⟨_, h1, h2.crashed, (fun k hk => by cases hk; exact ⟨rfl, h2⟩), facts_go2 ⟨fun _ => trivial, fun _ => trivial, fun _ => trivial, fun _ => satf_goes (hQ := hQM) (fun _ => h2), fun _ => satf_goes (hQ := hQM) (fun _ => h2), fun _ => satf_goes (hQ := hQM) (fun _ => h2), fun _ => trivial, fun _ => trivial, fun _ => trivial, fun h => absurd (h.symm.trans (by kernel_rfl)) (by decide : ¬ (true = false)), fun _ => trivial, fun _ => trivial, fun _ => trivial, fun _ => trivial, fun _ => trivial, trivial⟩⟩)
              case c4 => exact Asked.late (ask_still (guardw_none rfl) (fun x W hW hk => by
                  have h1 : x 109 = .bool true ∧ Live w B y d (some l2) W := hk 109 rfl
                  exact ⟨.bool false, by simp [execOp, evalBy, h1.1, go_sem], fun k h => by cases h; exact ⟨rfl, h1.2⟩⟩))
              case c5 => exact Asked.late (ask_copy (guard_none rfl) (.tmp 110) (.inl rfl) (by intro k hk; cases hk; rfl))
              case c6 => exact Asked.late (askw_copy (guardw_some rfl rfl (fun v W h => (show v = .bool false ∧ Live w B y d (some l2) W from h).1)) (.tmp 13) (.inl rfl) (by intro k hk; cases hk; rfl))
              case c7 => exact Asked.late (askw_exec (guardw_some rfl rfl (fun v W h => (show v = .bool false ∧ Live w B y d (some l2) W from h).1)) (.pointer (some ⟨B, 0, none⟩)) rfl rfl (by intro k hk; cases hk; rfl) (fun W hW => by kernel_rfl))
              case c8 => exact Asked.late (askw_field (guardw_some rfl rfl (fun v W h => (show v = .bool false ∧ Live w B y d (some l2) W from h).1)) _ (.tmp 113) 1 (.pointer (some ⟨B, 0, none⟩)) (.pointer (some ⟨B, 1, none⟩)) rfl rfl (by intro k hk; cases hk; rfl) (fun W => by kernel_rfl))
              case c9 => exact Asked.late (ask_still (guardw_some rfl rfl (fun v W h => (show v = .bool false ∧ Live w B y d (some l2) W from h).1)) (fun x W hW hk => by
                  have e1 : x 114 = .pointer (some ⟨B, 1, none⟩) := hk 114 rfl
                  have h111 : x 111 = .bool false ∧ Live w B y d (some l2) W := hk 111 rfl
                  obtain ⟨z, hz, htx⟩ := h111.2.vault
                  have hl := load_vp W ⟨B, 1, none⟩ _ hz
                  exact ⟨.pointer (some ⟨z, 0, none⟩), by simp only [execOp, evalBy, e1, Sem.run_bind, hl, Result.andThen_ok, Sem.run_pure], fun k h => by cases h; exact ⟨z, rfl, htx⟩⟩))
              case c10 => exact Asked.late (ask_step (guardw_some rfl rfl (fun v W h => (show v = .bool false ∧ Live w B y d (some l2) W from h).1)) _ _ _ rfl (by kernel_rfl) (fun x W hW hk => by
                  have h1 : ∃ z, x 115 = .pointer (some ⟨z, 0, none⟩) ∧ ∀ W', Below W.heap.size W W' → Calls Try.prog 23 #[.pointer (some ⟨z, 0, none⟩)] W' fun e w' => e = .returned (tv (some l2)) ∧ Below W'.heap.size W' w' := hk 115 rfl
                  obtain ⟨z, e1, hc⟩ := h1
                  show Calls _ _ #[x 115] W _
                  rw [e1]
                  exact (hc W (Below.refl _ _)).mono fun e W' h => by
                    obtain ⟨h1, h2⟩ := h
                    exact ⟨_, h1, hW.below h2, (fun k hk => by cases hk; rfl), facts_go ⟨trivial, trivial, trivial, satf_goes (hQ := hQM) (fun h => h.below h2), satf_goes (hQ := hQM) (fun h => h.below h2), satf_goes (hQ := hQM) (fun h => h.below h2), trivial, trivial, trivial, (fun v hv => by obtain ⟨z, h3, h4⟩ := hv; exact ⟨z, h3, fun W'' hb2 => h4 W'' (h2.trans (hb2.mono h2.size))⟩), trivial, trivial, trivial, trivial, trivial, trivial⟩⟩))
              case c11 => exact Asked.late (askw_exec (guardw_some rfl rfl (fun v W h => (show v = .bool false ∧ Live w B y d (some l2) W from h).1)) (nm l2) rfl rfl (by intro k hk; cases hk; rfl) (fun W hW => by kernel_rfl))
              case c12 => exact Asked.late (askw_copy (guardw_some rfl rfl (fun v W h => (show v = .bool false ∧ Live w B y d (some l2) W from h).1)) (.tmp 2) (.inl rfl) (by intro k hk; cases hk; rfl))
              case c13 => exact Asked.late (ask_still (guardw_some rfl rfl (fun v W h => (show v = .bool false ∧ Live w B y d (some l2) W from h).1)) (fun x W hW hk => by
                  have e1 : x 118 = .slice a2 n2 c2 := hk 118 rfl
                  have hcv := conv_bys (H2.out.below (Nat.le_refl _) (hGb W hW))
                  exact ⟨nm l2, by simp only [execOp, evalBy, e1, Sem.run_bind, hcv, Result.andThen_ok, Sem.run_pure]; rfl, fun k h => by cases h; rfl⟩))
              case c14 => exact Asked.late (askw_bin (guardw_some rfl rfl (fun v W h => (show v = .bool false ∧ Live w B y d (some l2) W from h).1)) _ _ _ _ _ _ _ _ rfl rfl rfl (by intro k hk; cases hk; rfl) (fun W => neq_str _ _ _ W))
            · intro af w13 hW hd' hs' hf'
              have t0 : af.tmps.getD 0 undef = .slice a0 n0 c0 := hf' 0 rfl
              have t1 : af.tmps.getD 1 undef = .slice a1 n1 c1 := hf' 1 rfl
              have t2 : af.tmps.getD 2 undef = .slice a2 n2 c2 := hf' 2 rfl
              have t3 : af.tmps.getD 3 undef = .slice ka nk ck := hf' 3 rfl
              have t4 : af.tmps.getD 4 undef = .int .i64 tn := hf' 4 rfl
              have t5 : af.tmps.getD 5 undef = undef := hf' 5 rfl
              have t6 : af.tmps.getD 6 undef = undef := hf' 6 rfl
              have t7 : af.tmps.getD 7 undef = undef := hf' 7 rfl
              have t8 : af.tmps.getD 8 undef = undef := hf' 8 rfl
              have t9 : af.tmps.getD 9 undef = undef := hf' 9 rfl
              have t10 : af.tmps.getD 10 undef = u10 := hf' 10 rfl
              have t11 : af.tmps.getD 11 undef = .int .i64 (j : Int) := hf' 11 rfl
              have t12 : af.tmps.getD 12 undef = .int .i64 (t : Int) := hf' 12 rfl
              have t13 : af.tmps.getD 13 undef = .pointer (some ⟨B, 0, none⟩) := hf' 13 rfl
              have t14 : af.tmps.getD 14 undef = .bool true := hf' 14 rfl
              have t15 : af.tmps.getD 15 undef = .bool false := hf' 15 rfl
              have t16 : af.tmps.getD 16 undef = .bool false := hf' 16 rfl
              have t17 : af.tmps.getD 17 undef = .slice a0 n0 c0 := hf' 17 rfl
              have t18 : af.tmps.getD 18 undef = .int .i64 (n0 : Int) := hf' 18 rfl
              have t19 : af.tmps.getD 19 undef = .bool false := hf' 19 rfl
              have t20 : af.tmps.getD 20 undef = .bool false := hf' 20 rfl
              have t21 : af.tmps.getD 21 undef = .bool false := hf' 21 rfl
              have t22 : af.tmps.getD 22 undef = .slice a1 n1 c1 := hf' 22 rfl
              have t23 : af.tmps.getD 23 undef = .int .i64 (n1 : Int) := hf' 23 rfl
              have t24 : af.tmps.getD 24 undef = .bool false := hf' 24 rfl
              have t25 : af.tmps.getD 25 undef = .bool false := hf' 25 rfl
              have t26 : af.tmps.getD 26 undef = .bool false := hf' 26 rfl
              have t27 : af.tmps.getD 27 undef = .slice a2 n2 c2 := hf' 27 rfl
              have t28 : af.tmps.getD 28 undef = .int .i64 (n2 : Int) := hf' 28 rfl
              have t29 : af.tmps.getD 29 undef = .bool false := hf' 29 rfl
              have t30 : af.tmps.getD 30 undef = .bool false := hf' 30 rfl
              have t31 : af.tmps.getD 31 undef = undef := hf' 31 rfl
              have t32 : af.tmps.getD 32 undef = .int .i64 (j : Int) := hf' 32 rfl
              have t33 : af.tmps.getD 33 undef = .bool true := hf' 33 rfl
              have t34 : af.tmps.getD 34 undef = u34 := hf' 34 rfl
              have t35 : af.tmps.getD 35 undef = u35 := hf' 35 rfl
              have t120 : af.tmps.getD 120 undef = .bool false := hf' 120 rfl
              have t111 : (af.tmps.getD 111 undef) = .bool false ∧ Live w B y d (some l2) w13 := hf' 111 rfl
              obtain ⟨us, hus, haf⟩ := act_open 122 af hs' hd'
              rw [← hus] at t0 t1 t2 t3 t4 t5 t6 t7 t8 t9 t10 t11 t12 t13 t14 t15 t16 t17 t18 t19 t20 t21 t22 t23 t24 t25 t26 t27 t28 t29 t30 t31 t32 t33 t34 t35 t120 t111
              have el : ((List.range 122).map us).toArray = #[us 0, us 1, us 2, us 3, us 4, us 5, us 6, us 7, us 8, us 9, us 10, us 11, us 12, us 13, us 14, us 15, us 16, us 17, us 18, us 19, us 20, us 21, us 22, us 23, us 24, us 25, us 26, us 27, us 28, us 29, us 30, us 31, us 32, us 33, us 34, us 35, us 36, us 37, us 38, us 39, us 40, us 41, us 42, us 43, us 44, us 45, us 46, us 47, us 48, us 49, us 50, us 51, us 52, us 53, us 54, us 55, us 56, us 57, us 58, us 59, us 60, us 61, us 62, us 63, us 64, us 65, us 66, us 67, us 68, us 69, us 70, us 71, us 72, us 73, us 74, us 75, us 76, us 77, us 78, us 79, us 80, us 81, us 82, us 83, us 84, us 85, us 86, us 87, us 88, us 89, us 90, us 91, us 92, us 93, us 94, us 95, us 96, us 97, us 98, us 99, us 100, us 101, us 102, us 103, us 104, us 105, us 106, us 107, us 108, us 109, us 110, us 111, us 112, us 113, us 114, us 115, us 116, us 117, us 118, us 119, us 120, us 121] := rfl
              rw [el] at haf
              subst haf
              rw [t0, t1, t2, t3, t4, t5, t6, t7, t8, t9, t10, t11, t12, t13, t14, t15, t16, t17, t18, t19, t20, t21, t22, t23, t24, t25, t26, t27, t28, t29, t30, t31, t32, t33, t34, t35, t120]
              have H111 := Lib.hid t111
              clear hus t0 t1 t2 t3 t4 t5 t6 t7 t8 t9 t10 t11 t12 t13 t14 t15 t16 t17 t18 t19 t20 t21 t22 t23 t24 t25 t26 t27 t28 t29 t30 t31 t32 t33 t34 t35 t120 t111 el hf' hs' hd' hW
              have HBn := Lib.hid H111.out.2.bel
              rw [H111.out.1]
              clear hQM HCr hGb
              go_wp2
              go_roundw
              case rel => exact ⟨t + 1, by omega, by go_num, HBn⟩
              case measure => simp [intOf]; omega
        · have t1 : ¬ (t : Int) < 4 := by omega
          go_wp2
          go_roundw
          case rel => exact ⟨j + 1, by omega, by go_num, HBt⟩
          case measure => simp [intOf]; omega
    · have j1 : ¬ (j : Int) < 8 := by omega
      go_wp2
      go_ret
      exact ⟨rfl, HBj.out⟩

theorem vaultAll_all (w : World) (a0 : Option Addr) (n0 c0 : Nat) (z0 : List Int) (h0 : IsRow .u8 w a0 n0 c0 z0) (_ : c0 * 1 ≤ 140737488351232) (a1 : Option Addr) (n1 c1 : Nat) (z1 : List Int) (h1 : IsRow .u8 w a1 n1 c1 z1) (_ : c1 * 1 ≤ 140737488351232) (a2 : Option Addr) (n2 c2 : Nat) (z2 : List Int) (h2 : IsRow .u8 w a2 n2 c2 z2) (_ : c2 * 1 ≤ 140737488351232)
    (ka : Option Addr) (nk ck : Nat) (ks : List Bool) (hnk : ks.length = nk) (hk : Bls w (.slice ka nk ck) ks) (_ : ka = none → ck = 0) (hnk2 : nk ≤ 140737488351232) (tn : Int) (_ : (Lit.int .i64 tn).wf = true) :
    Calls Try.prog 5 #[.slice a0 n0 c0, .slice a1 n1 c1, .slice a2 n2 c2, .slice ka nk ck, .int .i64 tn] w fun e w' => e = .returned (.bool true) ∧ Below w.heap.size w w' := by
  obtain ⟨l0, e0, b0⟩ := h0.bys
  obtain ⟨l1, e1, b1⟩ := h1.bys
  obtain ⟨l2, e2, b2⟩ := h2.bys
  exact vaultAll_any b0 e0 b1 e1 b2 e2 hk hnk (by omega) tn
end Go.Proofs.Ytejmmjlmnfnacaa
