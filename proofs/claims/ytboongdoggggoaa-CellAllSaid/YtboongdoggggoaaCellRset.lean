/- The law's set. -/
import Derived.Test.YtboongdoggggoaaCellRun
namespace Go.Proofs.Ytboongdoggggoaa
set_option maxRecDepth 20000
open Go.RowKit Go.Maps DiskMath SwapMath CellMath BinMath Reg

/-- How the law's set ends. -/
def SetR (w0 : World) (B y d c z x : Nat) (s : St) (t : Tx) (g : Hd) (e : Ending) (W' : World) : Prop :=
  e = .returned (.bool true) ∧ ∃ s' U', s'.room = s.room ∧ (s.fuse = -1 → s'.fuse = -1) ∧
    ((Fresh qV [] s' (some (txt g)) ∧ Run w0 B y d c z x s' (some (txt g)) false ⟨g, g, false⟩ W' U') ∨ (s.fuse ≠ -1 ∧ Gone qV [] s' t (some (txt g)) ∧ Run w0 B y d c z x s' t true ⟨hdOf t, g, true⟩ W' U'))

set_option maxHeartbeats 4000000 in
set_option maxRecDepth 100000 in
theorem rset_any {w0 W : World} {B y d c z x : Nat} {s : St} {t : Tx} {g : Hd} {U : Nat → Prop} (hr : Run w0 B y d c z x s t false ⟨hdOf t, hdOf t, false⟩ W U) (hi : Idle qV [] s t) (hR : 262144 ≤ s.room) (hg : okH g) (hc : c + 3 ≤ 2000) :
    Calls Try.prog 35 #[.pointer (some ⟨B, 0, none⟩), hv g] W (SetR w0 B y d (c + 3) z x s t g) := by
  obtain ⟨Y, Z, hYZ⟩ : ∃ Y Z, (Y, Z) = swA qV s (txt g) := ⟨_, _, rfl⟩
  have hY : (swA qV s (txt g)).1 = Y := by rw [← hYZ]
  have hZ : (swA qV s (txt g)).2 = Z := by rw [← hYZ]
  have hend := put_idle qV_wn hi (b := txt g) (txt_short g hg) hR
  rw [hY, hZ] at hend
  have HEnd := Lib.hid hend
  have HSet : Hid (∀ W1, Below W.heap.size W W1 → Calls Try.prog 43 #[.pointer (some ⟨z, 0, none⟩), hv g] W1 fun e w' => e = .returned (.int .i64 (saysC Y : Int)) ∧ PutEnd W1 U x d (c + 3) qV t (txt g) Y Z w') := fun W1 hW => by
    have hr1 := hr.below hW
    have h1 := cset_any qV_wn hr1.vault hr1.sw hg hc
    rw [hY, hZ] at h1
    exact h1
  have HTx : Hid (hdOf (some (txt g)) = g) := Lib.hid (hdOf_txt g hg)
  obtain ⟨a, b⟩ := g
  have HR := Lib.hid hr
  clear hYZ hY hZ hend hr hi hR hg hc
  go_enter Try.func35, Try.ntmps35
  go_upto_region 1 with fail
  obtain ⟨W0, hW0⟩ : ∃ W0, W0 = W.alloc (.cells #[.int .u64 (a : Int), .int .u64 (b : Int)] 63) := ⟨_, rfl⟩
  obtain ⟨b0, hb0⟩ : ∃ b0, b0 = W.heap.size := ⟨_, rfl⟩
  have hbox : Blk W0 b0 63 #[.int .u64 (a : Int), .int .u64 (b : Int)] := by rw [hW0, hb0]; exact Blk.new W _ _
  have hb00 : Below W.heap.size W W0 := by rw [hW0]; exact (Below.refl _ W).alloc (Nat.le_refl _) _
  have HBox0 := Lib.hid hbox
  have HB0 := Lib.hid hb00
  have HR0 := Lib.hid (HR.out.below hb00)
  have HBB0 := Lib.hid HR0.out.run
  have hbT : ¬ U b0 := fun h => by have := HR.out.sw.lt _ h; omega
  have HbT := Lib.hid hbT
  have hG : ∀ W1 W' : World, Below W0.heap.size W0 W1 → Below W1.heap.size W1 W' → Below W0.heap.size W0 W' := fun W1 W' h h' => h.trans (h'.mono h.size)
  rw [← hW0, ← hb0]
  clear hW0 hb0 hbox hb00 hbT
  refine region_tails_by 5 [(6, .is (.pointer (some ⟨B, 0, none⟩))), (7, .is (.pointer (some ⟨B, 0, none⟩))), (8, .is (.pointer (some ⟨B, 1, none⟩))), (9, .is (.pointer (some ⟨z, 0, none⟩))), (10, .is (hv (a, b)))] [0, 3, 9, 10] (fun W => Below W0.heap.size W0 W) (by kernel_rfl) (by kernel_rfl) (by kernel_rfl) (by kernel_rfl) (by kernel_rfl) (by decide) (by kernel_rfl) (by kernel_rfl) ((Below.refl _ _).drew) ?_ ?_
  · refine ⟨?c0, ?c1, ?c2, ?c3, ?c4, trivial⟩
    case c0 => exact ask_copy (guard_none rfl) (.tmp 0) (.inl rfl) (by intro k hk; cases hk; rfl)
    case c1 => exact ask_exec (guard_none rfl) (.pointer (some ⟨B, 0, none⟩)) rfl rfl (by intro k hk; cases hk; rfl) (fun W hW => by kernel_rfl)
    case c2 => exact ask_field (guard_none rfl) _ (.tmp 7) 1 (.pointer (some ⟨B, 0, none⟩)) (.pointer (some ⟨B, 1, none⟩)) rfl rfl (by intro k hk; cases hk; rfl) (fun W => by kernel_rfl)
    case c3 => exact ask_load (guard_none rfl) _ (.tmp 8) (.pointer (some ⟨B, 1, none⟩)) (.pointer (some ⟨z, 0, none⟩)) rfl rfl (by intro k hk; cases hk; rfl) (fun W hW => load_cp W _ _ (by rw [hW.cell (p := ⟨B, 1, none⟩) HBB0.out.lt, HBB0.out.cell]; rfl))
    case c4 => exact ask_load (guard_none rfl) _ (.tmp 3) (.pointer (some ⟨b0, 0, none⟩)) (hv (a, b)) rfl rfl (by intro k hk; cases hk; rfl) (fun W hW => load_hard (HBox0.out.keep hW) rfl rfl)
  · intro af W1 hW hd' hs' hf'
    have t0 : af.tmps.getD 0 undef = .pointer (some ⟨B, 0, none⟩) := hf' 0 rfl
    have t3 : af.tmps.getD 3 undef = .pointer (some ⟨b0, 0, none⟩) := hf' 3 rfl
    have t9 : af.tmps.getD 9 undef = .pointer (some ⟨z, 0, none⟩) := hf' 9 rfl
    have t10 : af.tmps.getD 10 undef = hv (a, b) := hf' 10 rfl
    obtain ⟨us, hus, haf⟩ := act_open 74 af hs' hd'
    rw [← hus] at t0 t3 t9 t10
    have el : ((List.range 74).map us).toArray = #[us 0, us 1, us 2, us 3, us 4, us 5, us 6, us 7, us 8, us 9, us 10, us 11, us 12, us 13, us 14, us 15, us 16, us 17, us 18, us 19, us 20, us 21, us 22, us 23, us 24, us 25, us 26, us 27, us 28, us 29, us 30, us 31, us 32, us 33, us 34, us 35, us 36, us 37, us 38, us 39, us 40, us 41, us 42, us 43, us 44, us 45, us 46, us 47, us 48, us 49, us 50, us 51, us 52, us 53, us 54, us 55, us 56, us 57, us 58, us 59, us 60, us 61, us 62, us 63, us 64, us 65, us 66, us 67, us 68, us 69, us 70, us 71, us 72, us 73] := rfl
    rw [el] at haf
    subst haf
    rw [t0, t3, t9, t10]
    have HB1 := Lib.hid hW
    clear hus t0 t3 t9 t10 el hf' hs' hd' hW hG
    simp only [List.drop_succ_cons, List.drop_zero]
    go_wp2_with fail
    refine (HSet.out W1 (HB0.out.trans (HB1.out.mono HB0.out.size))).mono ?_
    rintro e w2 ⟨rfl, hse⟩
    have HR1 := Lib.hid (HR0.out.below HB1.out)
    obtain ⟨hcase, hroom, hcalm⟩ := HEnd.out
    have HRoom := Lib.hid hroom
    have HCalm := Lib.hid hcalm
    have hbox2 : ∀ {g' : Tx} {o' : Bool}, SNx W1 U x d (c + 3) qV Z g' o' w2 → Blk w2 b0 63 #[.int .u64 (a : Int), .int .u64 (b : Int)] := fun hn => hn.blk (HBox0.out.keep HB1.out) HbT.out
    rcases hcase with ⟨rfl, hi2⟩ | ⟨rfl, hf2, hg2⟩
    · have hn := hse.1 rfl
      have HR2 := Lib.hid (HR1.out.snx hn)
      have HBox2 := Lib.hid (hbox2 hn)
      have HI2 := Lib.hid hi2
      clear hi2 hse hroom hcalm hbox2 hn
      have kB2 : w2.cell? ⟨B, 2, none⟩ = some (.pointer (some ⟨y, 0, none⟩)) := by rw [HR2.out.run.cell]; rfl
      have ky4 : w2.cell? ⟨y, 4, none⟩ = some (.bool false) := by rw [HR2.out.ref.cell]; rfl
      have e0 : ((saysC 0 : Nat) : Int) = 0 := rfl
      rw [e0]
      have HBB2 := Lib.hid HR2.out.run
      have hG2 : ∀ W1 W' : World, Below w2.heap.size w2 W1 → Below W1.heap.size W1 W' → Below w2.heap.size w2 W' := fun W1 W' h h' => h.trans (h'.mono h.size)
      go_upto_region 7 with fail
      clear kB2 ky4 e0
      refine region_tails_by 5 [(39, .is (.pointer (some ⟨B, 0, none⟩))), (40, .is (.pointer (some ⟨B, 0, none⟩))), (41, .is (.pointer (some ⟨B, 2, none⟩))), (42, .is (.pointer (some ⟨y, 0, none⟩))), (43, .is (hv (a, b)))] [0, 42, 43] (fun W => Below w2.heap.size w2 W) (by kernel_rfl) (by kernel_rfl) (by kernel_rfl) (by kernel_rfl) (by kernel_rfl) (by decide) (by kernel_rfl) (by kernel_rfl) ((Below.refl _ _).drew) ?_ ?_
      · refine ⟨?c0, ?c1, ?c2, ?c3, ?c4, trivial⟩
        case c0 => exact ask_copy (guard_none rfl) (.tmp 0) (.inl rfl) (by intro k hk; cases hk; rfl)
        case c1 => exact ask_exec (guard_none rfl) (.pointer (some ⟨B, 0, none⟩)) rfl rfl (by intro k hk; cases hk; rfl) (fun W hW => by kernel_rfl)
        case c2 => exact ask_field (guard_none rfl) _ (.tmp 40) 2 (.pointer (some ⟨B, 0, none⟩)) (.pointer (some ⟨B, 2, none⟩)) rfl rfl (by intro k hk; cases hk; rfl) (fun W => by kernel_rfl)
        case c3 => exact ask_load (guard_none rfl) _ (.tmp 41) (.pointer (some ⟨B, 2, none⟩)) (.pointer (some ⟨y, 0, none⟩)) rfl rfl (by intro k hk; cases hk; rfl) (fun W hW => load_rp W _ _ (by rw [hW.cell (p := ⟨B, 2, none⟩) HBB2.out.lt, HBB2.out.cell]; rfl))
        case c4 => exact ask_load (guard_none rfl) _ (.tmp 3) (.pointer (some ⟨b0, 0, none⟩)) (hv (a, b)) rfl rfl (by intro k hk; cases hk; rfl) (fun W hW => load_hard (HBox2.out.keep hW) rfl rfl)
      · intro af W3 hW hd' hs' hf'
        have t0 : af.tmps.getD 0 undef = .pointer (some ⟨B, 0, none⟩) := hf' 0 rfl
        have t42 : af.tmps.getD 42 undef = .pointer (some ⟨y, 0, none⟩) := hf' 42 rfl
        have t43 : af.tmps.getD 43 undef = hv (a, b) := hf' 43 rfl
        obtain ⟨us, hus, haf⟩ := act_open 74 af hs' hd'
        rw [← hus] at t0 t42 t43
        have el : ((List.range 74).map us).toArray = #[us 0, us 1, us 2, us 3, us 4, us 5, us 6, us 7, us 8, us 9, us 10, us 11, us 12, us 13, us 14, us 15, us 16, us 17, us 18, us 19, us 20, us 21, us 22, us 23, us 24, us 25, us 26, us 27, us 28, us 29, us 30, us 31, us 32, us 33, us 34, us 35, us 36, us 37, us 38, us 39, us 40, us 41, us 42, us 43, us 44, us 45, us 46, us 47, us 48, us 49, us 50, us 51, us 52, us 53, us 54, us 55, us 56, us 57, us 58, us 59, us 60, us 61, us 62, us 63, us 64, us 65, us 66, us 67, us 68, us 69, us 70, us 71, us 72, us 73] := rfl
        rw [el] at haf
        subst haf
        rw [t0, t42, t43]
        have HB3 := Lib.hid hW
        clear hus t0 t42 t43 el hf' hs' hd' hW hG2
        simp only [List.drop_succ_cons, List.drop_zero]
        have HR3 := Lib.hid (HR2.out.below HB3.out)
        have HTk := Lib.hid (took_any (h := (a, b)) HR3.out.ref)
        go_wp2_with fail
        refine HTk.out.mono ?_
        rintro e w4 ⟨rfl, hrn⟩
        have HR4 : Hid (Run w0 B y d (c + 3) z x Z (some (txt (a, b))) false ⟨(a, b), (a, b), false⟩ w4 (more W1 U w2)) := HR3.out.refd hrn
        have HBB4 := Lib.hid HR4.out.run
        have HRf4 := Lib.hid HR4.out.ref
        have hG4 : ∀ W1 W' : World, Below w4.heap.size w4 W1 → Below W1.heap.size W1 W' → Below w4.heap.size w4 W' := fun W1 W' h h' => h.trans (h'.mono h.size)
        clear hrn HTk
        go_upto_region 13 with fail
        refine region_by [(61, .is (.pointer (some ⟨B, 0, none⟩))), (62, .is (.pointer (some ⟨B, 0, none⟩))), (63, .is (.pointer (some ⟨B, 1, none⟩))), (64, .is (.pointer (some ⟨z, 0, none⟩))), (65, .is (hv (a, b))), (66, .is (.pointer (some ⟨B, 0, none⟩))), (67, .is (.pointer (some ⟨B, 0, none⟩))), (68, .is (.pointer (some ⟨B, 2, none⟩))), (69, .is (.pointer (some ⟨y, 0, none⟩))), (70, .is (.pointer (some ⟨y, 0, none⟩))), (71, .is (.pointer (some ⟨y, 0, none⟩))), (72, .is (hv (a, b))), (73, .is (.bool true)), (4, .is (.bool true))] [4] (fun W => Below w4.heap.size w4 W) (by kernel_rfl) (by kernel_rfl) (by kernel_rfl) (by kernel_rfl) (by kernel_rfl) ((Below.refl _ _).drew) ?_ ?_
        · refine ⟨?c0, ?c1, ?c2, ?c3, ?c4, ?c5, ?c6, ?c7, ?c8, ?c9, ?c10, ?c11, ?c12, ?c13, trivial⟩
          case c0 => exact ask_copy (guard_none rfl) (.tmp 0) (.inl rfl) (by intro k hk; cases hk; rfl)
          case c1 => exact ask_exec (guard_none rfl) (.pointer (some ⟨B, 0, none⟩)) rfl rfl (by intro k hk; cases hk; rfl) (fun W hW => by kernel_rfl)
          case c2 => exact ask_field (guard_none rfl) _ (.tmp 62) 1 (.pointer (some ⟨B, 0, none⟩)) (.pointer (some ⟨B, 1, none⟩)) rfl rfl (by intro k hk; cases hk; rfl) (fun W => by kernel_rfl)
          case c3 => exact ask_load (guard_none rfl) _ (.tmp 63) (.pointer (some ⟨B, 1, none⟩)) (.pointer (some ⟨z, 0, none⟩)) rfl rfl (by intro k hk; cases hk; rfl) (fun W hW => load_cp W _ _ (by rw [hW.cell (p := ⟨B, 1, none⟩) HBB4.out.lt, HBB4.out.cell]; rfl))
          case c4 => exact ask_call hG4 (guard_none rfl) _ _ _ #[.pointer (some ⟨z, 0, none⟩)] (.is (hv (a, b))) rfl (by kernel_rfl) rfl rfl (by intro k hk; cases hk; rfl) (fun W hW => (cGet_any (HR4.out.below hW).vault (HR4.out.below hW).sw).mono fun e w' h => by obtain ⟨h1, h2⟩ := h; exact ⟨_, h1.trans (by rw [HTx.out]), rfl, h2⟩)
          case c5 => exact ask_copy (guard_none rfl) (.tmp 0) (.inl rfl) (by intro k hk; cases hk; rfl)
          case c6 => exact ask_exec (guard_none rfl) (.pointer (some ⟨B, 0, none⟩)) rfl rfl (by intro k hk; cases hk; rfl) (fun W hW => by kernel_rfl)
          case c7 => exact ask_field (guard_none rfl) _ (.tmp 67) 2 (.pointer (some ⟨B, 0, none⟩)) (.pointer (some ⟨B, 2, none⟩)) rfl rfl (by intro k hk; cases hk; rfl) (fun W => by kernel_rfl)
          case c8 => exact ask_load (guard_none rfl) _ (.tmp 68) (.pointer (some ⟨B, 2, none⟩)) (.pointer (some ⟨y, 0, none⟩)) rfl rfl (by intro k hk; cases hk; rfl) (fun W hW => load_rp W _ _ (by rw [hW.cell (p := ⟨B, 2, none⟩) HBB4.out.lt, HBB4.out.cell]; rfl))
          case c9 => exact ask_exec (guard_none rfl) (.pointer (some ⟨y, 0, none⟩)) rfl rfl (by intro k hk; cases hk; rfl) (fun W hW => by kernel_rfl)
          case c10 => exact ask_field (guard_none rfl) _ (.tmp 70) 0 (.pointer (some ⟨y, 0, none⟩)) (.pointer (some ⟨y, 0, none⟩)) rfl rfl (by intro k hk; cases hk; rfl) (fun W => by kernel_rfl)
          case c11 => exact ask_load (guard_none rfl) _ (.tmp 71) (.pointer (some ⟨y, 0, none⟩)) (hv (a, b)) rfl rfl (by intro k hk; cases hk; rfl) (fun W hW => load_hard (HRf4.out.keep hW) rfl rfl)
          case c12 => exact ask_bin (guard_none rfl) _ _ _ _ _ _ _ _ rfl rfl rfl (by intro k hk; cases hk; rfl) (fun W => eql_self _ _ _ _ W)
          case c13 => exact ask_copy (guard_none rfl) (.tmp 73) (.inr rfl) (by intro k hk; cases hk; rfl)
        · intro af W5 hW hd' hs' hf'
          have t4 : af.tmps.getD 4 undef = .bool true := hf' 4 rfl
          obtain ⟨us, hus, haf⟩ := act_open 74 af hs' hd'
          rw [← hus] at t4
          have el : ((List.range 74).map us).toArray = #[us 0, us 1, us 2, us 3, us 4, us 5, us 6, us 7, us 8, us 9, us 10, us 11, us 12, us 13, us 14, us 15, us 16, us 17, us 18, us 19, us 20, us 21, us 22, us 23, us 24, us 25, us 26, us 27, us 28, us 29, us 30, us 31, us 32, us 33, us 34, us 35, us 36, us 37, us 38, us 39, us 40, us 41, us 42, us 43, us 44, us 45, us 46, us 47, us 48, us 49, us 50, us 51, us 52, us 53, us 54, us 55, us 56, us 57, us 58, us 59, us 60, us 61, us 62, us 63, us 64, us 65, us 66, us 67, us 68, us 69, us 70, us 71, us 72, us 73] := rfl
          rw [el] at haf
          subst haf
          rw [t4]
          have HB5 := Lib.hid hW
          clear hus t4 el hf' hs' hd' hW hG4
          go_wp2
          go_ret
          exact ⟨rfl, Z, _, HRoom.out, HCalm.out, .inl ⟨HI2.out, HR4.out.below HB5.out⟩⟩
    · have hn := hse.2.2 (by decide) (by decide)
      have HR2 := Lib.hid (HR1.out.snx hn)
      have HBox2 := Lib.hid (hbox2 hn)
      have HG2 := Lib.hid hg2
      have HF2 := Lib.hid hf2
      clear hg2 hf2 hse hroom hcalm hbox2 hn
      have kB2 : w2.cell? ⟨B, 2, none⟩ = some (.pointer (some ⟨y, 0, none⟩)) := by rw [HR2.out.run.cell]; rfl
      have ky4 : w2.cell? ⟨y, 4, none⟩ = some (.bool false) := by rw [HR2.out.ref.cell]; rfl
      have e0 : ((saysC 6 : Nat) : Int) = 6 := rfl
      rw [e0]
      have kB0 : w2.cell? ⟨B, 0, none⟩ = some (dp d) := by rw [HR2.out.run.cell]; rfl
      have hdn := isdown_any HR2.out.sw.disk
      rw [HG2.out.off] at hdn
      have HDn := Lib.hid hdn
      clear hdn
      go_wp2_with fail
      refine HDn.out.mono ?_
      rintro e w2' ⟨rfl, rfl⟩
      clear kB0 HDn
      have HBB2 := Lib.hid HR2.out.run
      have hG2 : ∀ W1 W' : World, Below w2.heap.size w2 W1 → Below W1.heap.size W1 W' → Below w2.heap.size w2 W' := fun W1 W' h h' => h.trans (h'.mono h.size)
      go_upto_region 12 with fail
      clear kB2 ky4 e0
      refine region_tails_by 5 [(55, .is (.pointer (some ⟨B, 0, none⟩))), (56, .is (.pointer (some ⟨B, 0, none⟩))), (57, .is (.pointer (some ⟨B, 2, none⟩))), (58, .is (.pointer (some ⟨y, 0, none⟩))), (59, .is (hv (a, b)))] [0, 58, 59] (fun W => Below w2.heap.size w2 W) (by kernel_rfl) (by kernel_rfl) (by kernel_rfl) (by kernel_rfl) (by kernel_rfl) (by decide) (by kernel_rfl) (by kernel_rfl) ((Below.refl _ _).drew) ?_ ?_
      · refine ⟨?c0, ?c1, ?c2, ?c3, ?c4, trivial⟩
        case c0 => exact ask_copy (guard_none rfl) (.tmp 0) (.inl rfl) (by intro k hk; cases hk; rfl)
        case c1 => exact ask_exec (guard_none rfl) (.pointer (some ⟨B, 0, none⟩)) rfl rfl (by intro k hk; cases hk; rfl) (fun W hW => by kernel_rfl)
        case c2 => exact ask_field (guard_none rfl) _ (.tmp 56) 2 (.pointer (some ⟨B, 0, none⟩)) (.pointer (some ⟨B, 2, none⟩)) rfl rfl (by intro k hk; cases hk; rfl) (fun W => by kernel_rfl)
        case c3 => exact ask_load (guard_none rfl) _ (.tmp 57) (.pointer (some ⟨B, 2, none⟩)) (.pointer (some ⟨y, 0, none⟩)) rfl rfl (by intro k hk; cases hk; rfl) (fun W hW => load_rp W _ _ (by rw [hW.cell (p := ⟨B, 2, none⟩) HBB2.out.lt, HBB2.out.cell]; rfl))
        case c4 => exact ask_load (guard_none rfl) _ (.tmp 3) (.pointer (some ⟨b0, 0, none⟩)) (hv (a, b)) rfl rfl (by intro k hk; cases hk; rfl) (fun W hW => load_hard (HBox2.out.keep hW) rfl rfl)
      · intro af W3 hW hd' hs' hf'
        have t0 : af.tmps.getD 0 undef = .pointer (some ⟨B, 0, none⟩) := hf' 0 rfl
        have t58 : af.tmps.getD 58 undef = .pointer (some ⟨y, 0, none⟩) := hf' 58 rfl
        have t59 : af.tmps.getD 59 undef = hv (a, b) := hf' 59 rfl
        obtain ⟨us, hus, haf⟩ := act_open 74 af hs' hd'
        rw [← hus] at t0 t58 t59
        have el : ((List.range 74).map us).toArray = #[us 0, us 1, us 2, us 3, us 4, us 5, us 6, us 7, us 8, us 9, us 10, us 11, us 12, us 13, us 14, us 15, us 16, us 17, us 18, us 19, us 20, us 21, us 22, us 23, us 24, us 25, us 26, us 27, us 28, us 29, us 30, us 31, us 32, us 33, us 34, us 35, us 36, us 37, us 38, us 39, us 40, us 41, us 42, us 43, us 44, us 45, us 46, us 47, us 48, us 49, us 50, us 51, us 52, us 53, us 54, us 55, us 56, us 57, us 58, us 59, us 60, us 61, us 62, us 63, us 64, us 65, us 66, us 67, us 68, us 69, us 70, us 71, us 72, us 73] := rfl
        rw [el] at haf
        subst haf
        rw [t0, t58, t59]
        have HB3 := Lib.hid hW
        clear hus t0 t58 t59 el hf' hs' hd' hW hG2
        simp only [List.drop_succ_cons, List.drop_zero]
        have HR3 := Lib.hid (HR2.out.below HB3.out)
        have HTk := Lib.hid (lost_any (h := (a, b)) HR3.out.ref)
        go_wp2_with fail
        refine HTk.out.mono ?_
        rintro e w4 ⟨rfl, hrn⟩
        have HR4 : Hid (Run w0 B y d (c + 3) z x Z t true ⟨hdOf t, (a, b), true⟩ w4 (more W1 U w2)) := HR3.out.refd hrn
        have HBB4 := Lib.hid HR4.out.run
        have HRf4 := Lib.hid HR4.out.ref
        have hG4 : ∀ W1 W' : World, Below w4.heap.size w4 W1 → Below W1.heap.size W1 W' → Below w4.heap.size w4 W' := fun W1 W' h h' => h.trans (h'.mono h.size)
        clear hrn HTk
        go_upto_region 13 with fail
        refine region_by [(61, .is (.pointer (some ⟨B, 0, none⟩))), (62, .is (.pointer (some ⟨B, 0, none⟩))), (63, .is (.pointer (some ⟨B, 1, none⟩))), (64, .is (.pointer (some ⟨z, 0, none⟩))), (65, .is (hv (hdOf t))), (66, .is (.pointer (some ⟨B, 0, none⟩))), (67, .is (.pointer (some ⟨B, 0, none⟩))), (68, .is (.pointer (some ⟨B, 2, none⟩))), (69, .is (.pointer (some ⟨y, 0, none⟩))), (70, .is (.pointer (some ⟨y, 0, none⟩))), (71, .is (.pointer (some ⟨y, 0, none⟩))), (72, .is (hv (hdOf t))), (73, .is (.bool true)), (4, .is (.bool true))] [4] (fun W => Below w4.heap.size w4 W) (by kernel_rfl) (by kernel_rfl) (by kernel_rfl) (by kernel_rfl) (by kernel_rfl) ((Below.refl _ _).drew) ?_ ?_
        · refine ⟨?c0, ?c1, ?c2, ?c3, ?c4, ?c5, ?c6, ?c7, ?c8, ?c9, ?c10, ?c11, ?c12, ?c13, trivial⟩
          case c0 => exact ask_copy (guard_none rfl) (.tmp 0) (.inl rfl) (by intro k hk; cases hk; rfl)
          case c1 => exact ask_exec (guard_none rfl) (.pointer (some ⟨B, 0, none⟩)) rfl rfl (by intro k hk; cases hk; rfl) (fun W hW => by kernel_rfl)
          case c2 => exact ask_field (guard_none rfl) _ (.tmp 62) 1 (.pointer (some ⟨B, 0, none⟩)) (.pointer (some ⟨B, 1, none⟩)) rfl rfl (by intro k hk; cases hk; rfl) (fun W => by kernel_rfl)
          case c3 => exact ask_load (guard_none rfl) _ (.tmp 63) (.pointer (some ⟨B, 1, none⟩)) (.pointer (some ⟨z, 0, none⟩)) rfl rfl (by intro k hk; cases hk; rfl) (fun W hW => load_cp W _ _ (by rw [hW.cell (p := ⟨B, 1, none⟩) HBB4.out.lt, HBB4.out.cell]; rfl))
          case c4 => exact ask_call hG4 (guard_none rfl) _ _ _ #[.pointer (some ⟨z, 0, none⟩)] (.is (hv (hdOf t))) rfl (by kernel_rfl) rfl rfl (by intro k hk; cases hk; rfl) (fun W hW => (cGet_any (HR4.out.below hW).vault (HR4.out.below hW).sw).mono fun e w' h => by obtain ⟨h1, h2⟩ := h; exact ⟨_, h1, rfl, h2⟩)
          case c5 => exact ask_copy (guard_none rfl) (.tmp 0) (.inl rfl) (by intro k hk; cases hk; rfl)
          case c6 => exact ask_exec (guard_none rfl) (.pointer (some ⟨B, 0, none⟩)) rfl rfl (by intro k hk; cases hk; rfl) (fun W hW => by kernel_rfl)
          case c7 => exact ask_field (guard_none rfl) _ (.tmp 67) 2 (.pointer (some ⟨B, 0, none⟩)) (.pointer (some ⟨B, 2, none⟩)) rfl rfl (by intro k hk; cases hk; rfl) (fun W => by kernel_rfl)
          case c8 => exact ask_load (guard_none rfl) _ (.tmp 68) (.pointer (some ⟨B, 2, none⟩)) (.pointer (some ⟨y, 0, none⟩)) rfl rfl (by intro k hk; cases hk; rfl) (fun W hW => load_rp W _ _ (by rw [hW.cell (p := ⟨B, 2, none⟩) HBB4.out.lt, HBB4.out.cell]; rfl))
          case c9 => exact ask_exec (guard_none rfl) (.pointer (some ⟨y, 0, none⟩)) rfl rfl (by intro k hk; cases hk; rfl) (fun W hW => by kernel_rfl)
          case c10 => exact ask_field (guard_none rfl) _ (.tmp 70) 0 (.pointer (some ⟨y, 0, none⟩)) (.pointer (some ⟨y, 0, none⟩)) rfl rfl (by intro k hk; cases hk; rfl) (fun W => by kernel_rfl)
          case c11 => exact ask_load (guard_none rfl) _ (.tmp 71) (.pointer (some ⟨y, 0, none⟩)) (hv (hdOf t)) rfl rfl (by intro k hk; cases hk; rfl) (fun W hW => load_hard (HRf4.out.keep hW) rfl rfl)
          case c12 => exact ask_bin (guard_none rfl) _ _ _ _ _ _ _ _ rfl rfl rfl (by intro k hk; cases hk; rfl) (fun W => eql_self _ _ _ _ W)
          case c13 => exact ask_copy (guard_none rfl) (.tmp 73) (.inr rfl) (by intro k hk; cases hk; rfl)
        · intro af W5 hW hd' hs' hf'
          have t4 : af.tmps.getD 4 undef = .bool true := hf' 4 rfl
          obtain ⟨us, hus, haf⟩ := act_open 74 af hs' hd'
          rw [← hus] at t4
          have el : ((List.range 74).map us).toArray = #[us 0, us 1, us 2, us 3, us 4, us 5, us 6, us 7, us 8, us 9, us 10, us 11, us 12, us 13, us 14, us 15, us 16, us 17, us 18, us 19, us 20, us 21, us 22, us 23, us 24, us 25, us 26, us 27, us 28, us 29, us 30, us 31, us 32, us 33, us 34, us 35, us 36, us 37, us 38, us 39, us 40, us 41, us 42, us 43, us 44, us 45, us 46, us 47, us 48, us 49, us 50, us 51, us 52, us 53, us 54, us 55, us 56, us 57, us 58, us 59, us 60, us 61, us 62, us 63, us 64, us 65, us 66, us 67, us 68, us 69, us 70, us 71, us 72, us 73] := rfl
          rw [el] at haf
          subst haf
          rw [t4]
          have HB5 := Lib.hid hW
          clear hus t4 el hf' hs' hd' hW hG4
          go_wp2
          go_ret
          exact ⟨rfl, Z, _, HRoom.out, HCalm.out, .inr ⟨HF2.out, HG2.out, HR4.out.below HB5.out⟩⟩
end Go.Proofs.Ytboongdoggggoaa
