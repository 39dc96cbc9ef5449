/- CellAll: the walk. -/
import Derived.Test.YtejmmjlmnfnacaaCellPlay
import Derived.Test.YtejmmjlmnfnacaaCellIn
import Derived.Test.YtejmmjlmnfnacaaGuards
namespace Go.Proofs.Ytejmmjlmnfnacaa
open Go.RowKit Go.Maps DiskMath SwapMath CellMath BinMath Reg

theorem hards_to (a : Option Addr) (n c : Nat) (hk : 6 ≤ c) (W : World) : (Instr.sliceAt 22 (.slice a n c) none (some (.int .i64 6)) none).run Try.prog W = .ok (.slice a 6 c) W := by
  have he : Try.prog.elem 22 = 25 := by kernel_rfl
  have hs : (Go.sizeOf 25).run Try.prog W = .ok 2 W := by kernel_rfl
  have ht : Try.prog.underlying 22 = some (.slice (Try.prog.elem 22)) := by rw [he]; exact Try.underlying22
  rw [run_sliceAt_slice _ _ _ _ _ _ ht, run_slice_h _ _ _ _ _ ht .i64 6 (by omega) (by omega), he, hs]
  cases a with
  | none => simp [Result.andThen, sliced]
  | some ad => simp [Result.andThen, sliced, Addr.add]

theorem hards_index (W : World) (ad : Addr) (n cap i : Nat) (hi : i < n) : (Instr.indexAt 22 (.slice (some ad) n cap) (.int .i64 (i : Int))).run Try.prog W = .ok (.pointer (some (ad.add (i * 2)))) W := by
  have he : Try.prog.elem 22 = 25 := by kernel_rfl
  have hs : (Go.sizeOf 25).run Try.prog W = .ok 2 W := by kernel_rfl
  have ht : Try.prog.underlying 22 = some (.slice (Try.prog.elem 22)) := by rw [he]; exact Try.underlying22
  rw [run_indexAt_slice (h := ht), if_pos (by omega), he, hs]
  simp [Result.andThen]

theorem Hls.take {w : World} {a : Option Addr} {L : List Hd} (h : Hls w a L) (n : Nat) : Hls w a (L.take n) := fun i g hg => by
  rw [List.getElem?_take] at hg
  split at hg
  · exact h i g hg
  · cases hg

set_option maxHeartbeats 4000000 in
set_option maxRecDepth 100000 in
theorem cellAll_any {w : World} {a : Option Addr} {len cap : Nat} {L : List Hd} (hl : L.length = len) (hs : Hls w a L) (hlc : len ≤ cap) (hcap : cap ≤ 9223372036854775807) {g m : Hd} (hg : okH g) (hm : okH m)
    {ka : Option Addr} {nk ck : Nat} {ks : List Bool} (hk : Bls w (.slice ka nk ck) ks) (hnk : ks.length = nk) (hkn : ka = none → ck = 0) (hnk2 : nk ≤ 140737488351232) :
    Calls Try.prog 3 #[.slice a len cap, hv g, hv m, .slice ka nk ck] w fun e w' => e = .returned (.bool true) ∧ Below w.heap.size w w' := by
  obtain ⟨g1, g2⟩ := g
  obtain ⟨m1, m2⟩ := m
  have HL := Lib.hid hl
  have HG := Lib.hid hg
  have HM := Lib.hid hm
  have HNk := Lib.hid hnk
  have HKn := Lib.hid hkn
  have HNk2 := Lib.hid hnk2
  have hnk9 : Hid (nk ≤ 9223372036854775807) := Lib.hid (by omega)
  have HCap := Lib.hid hcap
  have HLc := Lib.hid hlc
  have HSw := Lib.hid hs
  have HKw := Lib.hid hk
  have hln : len ≤ 9223372036854775807 := by omega
  clear hl hs hg hm hk hnk hkn hnk2 hcap hlc
  go_enter Try.func3, Try.ntmps3
  go_wp2_with fail
  obtain ⟨W0, hW0⟩ : ∃ W0, W0 = (w.alloc (.cells #[.int .u64 (g1 : Int), .int .u64 (g2 : Int)] 25)).alloc (.cells #[.int .u64 (m1 : Int), .int .u64 (m2 : Int)] 25) := ⟨_, rfl⟩
  obtain ⟨b1, hb1⟩ : ∃ b1, b1 = w.heap.size := ⟨_, rfl⟩
  obtain ⟨b2, hb2⟩ : ∃ b2, b2 = b1 + 1 := ⟨_, rfl⟩
  have hx1 : Blk W0 b1 25 #[.int .u64 (g1 : Int), .int .u64 (g2 : Int)] := by
    rw [hW0, hb1]
    exact (Blk.new w _ _).keep ((Below.refl _ _).alloc (Nat.le_refl _) _)
  have hx2 : Blk W0 b2 25 #[.int .u64 (m1 : Int), .int .u64 (m2 : Int)] := by
    rw [hW0, hb2, hb1]
    have := Blk.new (w.alloc (.cells #[.int .u64 (g1 : Int), .int .u64 (g2 : Int)] 25)) 25 #[.int .u64 (m1 : Int), .int .u64 (m2 : Int)]
    simpa using this
  have hb00 : Below w.heap.size w W0 := by
    rw [hW0]
    exact ((Below.refl _ w).alloc (Nat.le_refl _) _).alloc (by simp) _
  rw [← hW0, ← hb1, ← hb2]
  have HX1 := Lib.hid hx1
  have HX2 := Lib.hid hx2
  have HS := Lib.hid (HSw.out.below hb00)
  have HK := Lib.hid (HKw.out.below hb00)
  have HFin := Lib.hid (fun (W : World) (hW : Below W0.heap.size W0 W) => hb00.trans (hW.mono hb00.size))
  have HC1 := Lib.hid (fun (W : World) (hW : Below W0.heap.size W0 W) => show W.cell? ⟨b1, 0, none⟩ = some (.int .u64 (g1 : Int)) ∧ W.cell? ⟨b1, 1, none⟩ = some (.int .u64 (g2 : Int)) from by
    have h := HX1.out.keep hW
    exact ⟨by rw [h.cell]; rfl, by rw [h.cell]; rfl⟩)
  clear hW0 hb1 hb2 hx1 hx2 hb00 HSw HKw
  refine (cawake_any W0).mono ?_
  rintro e w1 ⟨rfl, hb1⟩
  have HB1 := Lib.hid hb1
  clear hb1
  by_cases h6 : 6 < len
  · have q1 : (len : Int) > 6 := by omega
    have q2 : decide (6 < len) = true := by simpa using h6
    have hsl := fun W => hards_to a len cap (by have := HLc.out; omega) W
    go_wp2
    go_loopw [9] (fun s9 wr => ∃ j : Nat, j ≤ 5 ∧ s9 = .int .i64 j ∧ Hid (Below W0.heap.size W0 wr)) (fun s9 _ => 5 - (intOf s9).toNat)
    case atStart => exact ⟨0, by decide, rfl, HB1⟩
    case round =>
      obtain ⟨j, hj, rfl, HBj⟩ := hrel
      have j0 : (0 : Int) ≤ (j : Int) := Int.natCast_nonneg _
      clear HB1
      by_cases hj5 : j < 5
      · have j1 : (j : Int) < 5 := by omega
        obtain ⟨wj, hwj⟩ : ∃ wj : World, wj = wr := ⟨_, rfl⟩
        rw [← hwj] at HBj
        have HWj := Lib.hid hwj
        clear hwj
        go_wp2
        rw [← HWj.out]
        clear HWj
        go_loopw [10] (fun s10 wr => ∃ t : Nat, t ≤ 70 ∧ s10 = .int .i64 t ∧ Hid (Below W0.heap.size W0 wr)) (fun s10 _ => 70 - (intOf s10).toNat)
        case atStart => exact ⟨0, by decide, rfl, HBj⟩
        case round =>
          obtain ⟨t, ht, rfl, HBt⟩ := hrel
          have t0 : (0 : Int) ≤ (t : Int) := Int.natCast_nonneg _
          clear HBj
          by_cases ht70 : t < 70
          · have t1 : (t : Int) < 70 := by omega
            go_wp2_with fail
            refine (play_begin HBt.out).mono ?_
            rintro e w4 ⟨B, y, d, rfl, hp0⟩
            have HP0 := Lib.hid hp0
            clear hp0
            go_wp2
            go_loopw [12] (fun s12 wr => ∃ (i : Nat) (h : Hd), i ≤ 6 ∧ s12 = .int .i64 i ∧ Hid (Play W0 B y d h wr)) (fun s12 _ => 6 - (intOf s12).toNat)
            case atStart => exact ⟨0, (0, 0), Nat.zero_le _, rfl, HP0⟩
            case round =>
              obtain ⟨i, h, hi, rfl, HP⟩ := hrel
              have i0 : (0 : Int) ≤ (i : Int) := Int.natCast_nonneg _
              clear HP0
              by_cases hlt : i < 6
              · have i1 : (i : Int) < 6 := by omega
                have i2 : decide (i < 6) = true := by simpa using hlt
                obtain ⟨o, ho⟩ : ∃ o, (L)[i]? = some o := ⟨(L)[i]'(by have := HL.out; simp; omega), List.getElem?_eq_getElem _⟩
                obtain ⟨hok, ad, rfl, c0, c1⟩ := HS.out i o ho
                have hidx : ∀ W, (Instr.indexAt 22 (.slice (some ad) 6 cap) (.int .i64 (i : Int))).run Try.prog W = .ok (.pointer (some (ad.add (i * 2)))) W := fun W => hards_index W ad 6 cap i hlt
                obtain ⟨p, hp⟩ : ∃ p, p = ad.add (i * 2) := ⟨_, rfl⟩
                rw [← hp] at hidx c0 c1
                have hcc : ∀ {q : Addr} {u : Value}, W0.cell? q = some u → wr.cell? q = some u := fun {q u} hq => by rw [HP.out.bel.cell (World.block_lt_of_cell? W0 _ hq)]; exact hq
                replace c0 := hcc c0
                replace c1 := hcc c1
                have HSt := Lib.hid (play_set HP.out hok)
                obtain ⟨o1, o2⟩ := o
                clear hcc hp ho hok
                go_wp2_with fail
                refine HSt.out.mono ?_
                rintro e w5 ⟨rfl, hp5⟩
                have HP5 := Lib.hid hp5
                clear hp5 HSt c0 c1 hidx i2
                go_wp2
                go_roundw
                case rel => exact ⟨i + 1, (o1, o2), by omega, by go_num, HP5⟩
                case measure => simp [intOf]; omega
              · have i1 : ¬ (i : Int) < 6 := by omega
                have i2 : decide (i < 6) = false := by simpa using hlt
                obtain ⟨k0, k2⟩ := HP.out.cells
                have HFu := Lib.hid (play_fuse HP.out (j : Int) (by omega))
                go_wp2_with fail
                clear k0 k2
                refine HFu.out.mono ?_
                rintro e w6 ⟨rfl, hf6⟩
                have HF6 := Lib.hid hf6
                obtain ⟨c0, c1⟩ := HC1.out w6 hf6.bel
                clear hf6 HFu HP i2
                have HSt := Lib.hid (fused_set HF6.out HG.out)
                go_wp2_with fail
                clear c0 c1
                refine HSt.out.mono ?_
                rintro e w7 ⟨rfl, hd7⟩
                have HD7 := Lib.hid hd7
                clear hd7 HSt HF6
                go_upto_region 22 with fail
                obtain ⟨p7, hrn⟩ := HD7.out.run
                have HRn := Lib.hid hrn
                have hG7 : ∀ W W' : World, Below w7.heap.size w7 W → Below W.heap.size W W' → Below w7.heap.size w7 W' := fun W W' h h' => h.trans (h'.mono h.size)
                have hQA : ∀ W W' : World, (∃ hh, Play W0 B y d hh W) → Below W.heap.size W W' → (∃ hh, Play W0 B y d hh W') := fun W W' h hb => by
                  obtain ⟨hh, h⟩ := h
                  exact ⟨hh, h.below hb⟩
                have hQM : ∀ W W' : World, Play W0 B y d (m1, m2) W → Below W.heap.size W W' → Play W0 B y d (m1, m2) W' := fun W W' h hb => h.below hb
                clear hrn
                refine region_tails_by 8 [(54, .is (.pointer (some ⟨B, 0, none⟩))), (55, .is (.pointer (some ⟨B, 0, none⟩))), (56, .is (.pointer (some ⟨B, 0, none⟩))), (57, .is (.pointer (some ⟨d, 0, none⟩))), (58, (.sat (Own2 w7.heap.size [true]) (fun _ _ _ h hb => h.stays hb))), (59, .is (.slice ka nk ck)), (60, (.sat (Own2 w7.heap.size (true :: ks)) (fun _ _ _ h hb => h.stays hb))), (61, .is (.int .i64 (t : Int)))] [0, 1, 2, 3, 4, 5, 6, 7, 8, 9, 10, 11, 12, 13, 14, 15, 16, 17, 18, 19, 20, 21, 22, 23, 57, 61, 60] (fun W => Below w7.heap.size w7 W) (by kernel_rfl) (by kernel_rfl) (by kernel_rfl) (by kernel_rfl) (by kernel_rfl) (by decide) (by kernel_rfl) (by kernel_rfl) ((Below.refl _ _).drew) ?_ ?_
                · refine ⟨?c0, ?c1, ?c2, ?c3, ?c4, ?c5, ?c6, ?c7, trivial⟩
                  case c0 => exact ask_copy (guard_none rfl) (.tmp 11) (.inl rfl) (by intro k hk; cases hk; rfl)
                  case c1 => exact ask_exec (guard_none rfl) (.pointer (some ⟨B, 0, none⟩)) rfl rfl (by intro k hk; cases hk; rfl) (fun W hW => by kernel_rfl)
                  case c2 => exact ask_field (guard_none rfl) _ (.tmp 55) 0 (.pointer (some ⟨B, 0, none⟩)) (.pointer (some ⟨B, 0, none⟩)) rfl rfl (by intro k hk; cases hk; rfl) (fun W => by kernel_rfl)
                  case c3 => exact ask_load (guard_none rfl) _ (.tmp 56) (.pointer (some ⟨B, 0, none⟩)) (.pointer (some ⟨d, 0, none⟩)) rfl rfl (by intro k hk; cases hk; rfl) (fun W hW => load_dp W _ _ (by rw [hW.cell (p := ⟨B, 0, none⟩) HRn.out.lt, HRn.out.cell]; rfl))
                  case c4 => exact ask_build_true hG7 (guard_none rfl) w7.heap.size (fun W hW => hW.size) rfl (by intro k hk; cases hk; rfl)
                  case c5 => exact ask_copy (guard_none rfl) (.tmp 3) (.inl rfl) (by intro k hk; cases hk; rfl)
                  case c6 => exact ask_append_keep (guard_none rfl) (by kernel_rfl) (.tmp 58) (.tmp 59) w7.heap.size rfl rfl rfl rfl (fun W hW => HK.out.below (HD7.out.bel.trans (hW.mono HD7.out.bel.size))) HNk.out HKn.out HNk2.out (fun W hW => hW.size) (fun W W' row hW hg hr => hW.grown hg hW.size hr) (by intro k hk; cases hk; rfl)
                  case c7 => exact ask_copy (guard_none rfl) (.tmp 10) (.inl rfl) (by intro k hk; cases hk; rfl)
                · intro af W8 hW hd' hs' hf'
                  have t0 : af.tmps.getD 0 undef = .slice a 6 cap := hf' 0 rfl
                  have t1 : af.tmps.getD 1 undef = hv (g1, g2) := hf' 1 rfl
                  have t2 : af.tmps.getD 2 undef = hv (m1, m2) := hf' 2 rfl
                  have t3 : af.tmps.getD 3 undef = .slice ka nk ck := hf' 3 rfl
                  have t4 : af.tmps.getD 4 undef = undef := hf' 4 rfl
                  have t5 : af.tmps.getD 5 undef = .pointer (some ⟨b1, 0, none⟩) := hf' 5 rfl
                  have t6 : af.tmps.getD 6 undef = .pointer (some ⟨b2, 0, none⟩) := hf' 6 rfl
                  have t7 : af.tmps.getD 7 undef = undef := hf' 7 rfl
                  have t8 : af.tmps.getD 8 undef = u8 := hf' 8 rfl
                  have t9 : af.tmps.getD 9 undef = .int .i64 (j : Int) := hf' 9 rfl
                  have t10 : af.tmps.getD 10 undef = .int .i64 (t : Int) := hf' 10 rfl
                  have t11 : af.tmps.getD 11 undef = .pointer (some ⟨B, 0, none⟩) := hf' 11 rfl
                  have t12 : af.tmps.getD 12 undef = .int .i64 (i : Int) := hf' 12 rfl
                  have t13 : af.tmps.getD 13 undef = .bool true := hf' 13 rfl
                  have t14 : af.tmps.getD 14 undef = .bool false := hf' 14 rfl
                  have t15 : af.tmps.getD 15 undef = .slice a len cap := hf' 15 rfl
                  have t16 : af.tmps.getD 16 undef = .int .i64 (len : Int) := hf' 16 rfl
                  have t17 : af.tmps.getD 17 undef = .bool true := hf' 17 rfl
                  have t18 : af.tmps.getD 18 undef = .slice a len cap := hf' 18 rfl
                  have t19 : af.tmps.getD 19 undef = .slice a 6 cap := hf' 19 rfl
                  have t20 : af.tmps.getD 20 undef = .int .i64 (j : Int) := hf' 20 rfl
                  have t21 : af.tmps.getD 21 undef = .bool true := hf' 21 rfl
                  have t22 : af.tmps.getD 22 undef = u22 := hf' 22 rfl
                  have t23 : af.tmps.getD 23 undef = u23 := hf' 23 rfl
                  have t57 : af.tmps.getD 57 undef = .pointer (some ⟨d, 0, none⟩) := hf' 57 rfl
                  have t61 : af.tmps.getD 61 undef = .int .i64 (t : Int) := hf' 61 rfl
                  have t60 : Own2 w7.heap.size (true :: ks) (af.tmps.getD 60 undef) W8 := hf' 60 rfl
                  obtain ⟨us, hus, haf⟩ := act_open 106 af hs' hd'
                  rw [← hus] at t0 t1 t2 t3 t4 t5 t6 t7 t8 t9 t10 t11 t12 t13 t14 t15 t16 t17 t18 t19 t20 t21 t22 t23 t57 t61 t60
                  have el : ((List.range 106).map us).toArray = #[us 0, us 1, us 2, us 3, us 4, us 5, us 6, us 7, us 8, us 9, us 10, us 11, us 12, us 13, us 14, us 15, us 16, us 17, us 18, us 19, us 20, us 21, us 22, us 23, us 24, us 25, us 26, us 27, us 28, us 29, us 30, us 31, us 32, us 33, us 34, us 35, us 36, us 37, us 38, us 39, us 40, us 41, us 42, us 43, us 44, us 45, us 46, us 47, us 48, us 49, us 50, us 51, us 52, us 53, us 54, us 55, us 56, us 57, us 58, us 59, us 60, us 61, us 62, us 63, us 64, us 65, us 66, us 67, us 68, us 69, us 70, us 71, us 72, us 73, us 74, us 75, us 76, us 77, us 78, us 79, us 80, us 81, us 82, us 83, us 84, us 85, us 86, us 87, us 88, us 89, us 90, us 91, us 92, us 93, us 94, us 95, us 96, us 97, us 98, us 99, us 100, us 101, us 102, us 103, us 104, us 105] := rfl
                  rw [el] at haf
                  subst haf
                  rw [t0, t1, t2, t3, t4, t5, t6, t7, t8, t9, t10, t11, t12, t13, t14, t15, t16, t17, t18, t19, t20, t21, t22, t23, t57, t61]
                  have HOw := Lib.hid t60
                  have HW8 := Lib.hid hW
                  clear hus t0 t1 t2 t3 t4 t5 t6 t7 t8 t9 t10 t11 t12 t13 t14 t15 t16 t17 t18 t19 t20 t21 t22 t23 t57 t61 t60 el hf' hs' hd' hW hG7
                  simp only [List.drop_succ_cons, List.drop_zero]
                  obtain ⟨oa, oc, ho60, hobl⟩ := HOw.out.bls
                  rw [ho60]
                  have hcr := done_crash (HD7.out.below HW8.out) (t : Int) hobl rfl (by have := HNk.out; have := HNk2.out; simp; omega)
                  have HCrc := Lib.hid hcr
                  clear hobl hcr ho60
                  go_wp2_with fail
                  refine HCrc.out.mono ?_
                  rintro e w9 ⟨rfl, hh, hcr⟩
                  have HCr := Lib.hid hcr
                  have hgb : ∀ W : World, (∃ hh, Crashed W0 B y d hh W) → Below W0.heap.size W0 W := fun W h => by
                    obtain ⟨hh, h⟩ := h
                    exact h.bel
                  have hgc : ∀ W : World, (∃ hh, Crashed W0 B y d hh W) → W.cell? ⟨B, 2, none⟩ = some (.pointer (some ⟨y, 0, none⟩)) := fun W h => by
                    obtain ⟨hh, h⟩ := h
                    exact h.cells.2
                  clear hcr HCrc
                  go_upto_region 23 with fail
                  refine region_by [(63, .is (.pointer (some ⟨B, 0, none⟩))), (64, .is (.slice ka nk ck)), (65, .is (.int .i64 (t : Int))), (66, SatF (.bool true) (fun W => ∃ hh, Play W0 B y d hh W) hQA), (67, SatF (.bool false) (fun W => ∃ hh, Play W0 B y d hh W) hQA), (68, SatF (.bool false) (fun W => ∃ hh, Play W0 B y d hh W) hQA), (69, .is (.pointer (some ⟨B, 0, none⟩))), (70, .is (hv (m1, m2))), (71, SatF (.bool true) (fun W => Play W0 B y d (m1, m2) W) hQM), (72, SatF (.bool false) (fun W => Play W0 B y d (m1, m2) W) hQM), (73, SatF (.bool false) (fun W => Play W0 B y d (m1, m2) W) hQM), (74, SatF (.bool false) (fun W => Play W0 B y d (m1, m2) W) hQM), (75, .is (.pointer (some ⟨B, 0, none⟩))), (76, .is (.pointer (some ⟨B, 0, none⟩))), (77, .is (.pointer (some ⟨B, 2, none⟩))), (78, .is (.pointer (some ⟨y, 0, none⟩))), (79, .is (.pointer (some ⟨y, 0, none⟩))), (80, .is (.pointer (some ⟨y, 0, none⟩))), (81, .is (hv (m1, m2))), (82, .is (hv (m1, m2))), (83, .is (.bool false)), (84, SatF (.bool false) (fun W => Play W0 B y d (m1, m2) W) hQM)] [0, 1, 2, 3, 4, 5, 6, 7, 8, 9, 10, 11, 12, 13, 14, 15, 16, 17, 18, 19, 20, 21, 22, 23, 84] (fun W => ∃ hh, Crashed W0 B y d hh W) (by kernel_rfl) (by kernel_rfl) (by kernel_rfl) (by kernel_rfl) (by kernel_rfl) (⟨_, HCr.out.below ((Below.refl _ _).drew)⟩) ?_ ?_
                  · refine ⟨?c0, ?c1, ?c2, ?c3, ?c4, ?c5, ?c6, ?c7, ?c8, ?c9, ?c10, ?c11, ?c12, ?c13, ?c14, ?c15, ?c16, ?c17, ?c18, ?c19, ?c20, ?c21, trivial⟩
                    case c0 => exact ask_copy (guard_none rfl) (.tmp 11) (.inl rfl) (by intro k hk; cases hk; rfl)
                    case c1 => exact ask_copy (guard_none rfl) (.tmp 3) (.inl rfl) (by intro k hk; cases hk; rfl)
                    case c2 => exact ask_copy (guard_none rfl) (.tmp 10) (.inl rfl) (by intro k hk; cases hk; rfl)
                    case c3 => exact ask_step (guardw_none rfl) _ _ _ rfl (by kernel_rfl) (fun x W hW hk => by
                        have e1 : x 63 = .pointer (some ⟨B, 0, none⟩) := hk 63 rfl
                        have e2 : x 64 = .slice ka nk ck := hk 64 rfl
                        have e3 : x 65 = .int .i64 (t : Int) := hk 65 rfl
                        show Calls _ _ #[x 63, x 64, x 65] W _
                        rw [e1, e2, e3]
                        by_cases hq : Play W0 B y d (m1, m2) W
                        · exact (crashed_open hq.crashed (t : Int) HK.out HNk.out hnk9.out).mono fun e W' h => by
                            obtain ⟨h1, h2⟩ := h
                            exact ⟨_, h1, ⟨_, h2.crashed⟩, (fun k hk => by cases hk; exact ⟨rfl, _, h2⟩), facts_go ⟨trivial, trivial, trivial, satf_goes (hQ := hQA) (fun _ => ⟨_, h2⟩), satf_goes (hQ := hQA) (fun _ => ⟨_, h2⟩), satf_goes (hQ := hQA) (fun _ => ⟨_, h2⟩), trivial, trivial, satf_goes (hQ := hQM) (fun _ => h2), satf_goes (hQ := hQM) (fun _ => h2), satf_goes (hQ := hQM) (fun _ => h2), satf_goes (hQ := hQM) (fun _ => h2), trivial, trivial, trivial, trivial, trivial, trivial, trivial, trivial, trivial, satf_goes (hQ := hQM) (fun _ => h2), trivial⟩⟩
                        · obtain ⟨hh, hc⟩ := hW
                          exact (crashed_open hc (t : Int) HK.out HNk.out hnk9.out).mono fun e W' h => by
                            obtain ⟨h1, h2⟩ := h
                            exact ⟨_, h1, ⟨_, h2.crashed⟩, (fun k hk => by cases hk; exact ⟨rfl, _, h2⟩), facts_go ⟨trivial, trivial, trivial, satf_goes (hQ := hQA) (fun _ => ⟨_, h2⟩), satf_goes (hQ := hQA) (fun _ => ⟨_, h2⟩), satf_goes (hQ := hQA) (fun _ => ⟨_, h2⟩), trivial, trivial, satf_goes (hQ := hQM) (fun h => absurd h hq), satf_goes (hQ := hQM) (fun h => absurd h hq), satf_goes (hQ := hQM) (fun h => absurd h hq), satf_goes (hQ := hQM) (fun h => absurd h hq), trivial, trivial, trivial, trivial, trivial, trivial, trivial, trivial, trivial, satf_goes (hQ := hQM) (fun h => absurd h hq), trivial⟩⟩)
                    case c4 => exact ask_still (guardw_none rfl) (fun x W hW hk => by
                        have h1 : x 66 = .bool true ∧ (∃ hh, Play W0 B y d hh W) := hk 66 rfl
                        exact ⟨.bool false, by simp [execOp, evalBy, h1.1, go_sem], fun k h => by cases h; exact ⟨rfl, h1.2⟩⟩)
                    case c5 => exact ask_copy (guard_none rfl) (.tmp 67) (.inl rfl) (by intro k hk; cases hk; rfl)
                    case c6 => exact askw_copy (guardw_some rfl rfl (fun v W h => (show v = .bool false ∧ (∃ hh, Play W0 B y d hh W) from h).1)) (.tmp 11) (.inl rfl) (by intro k hk; cases hk; rfl)
                    case c7 => exact askw_load (guardw_some rfl rfl (fun v W h => (show v = .bool false ∧ (∃ hh, Play W0 B y d hh W) from h).1)) _ (.tmp 6) (.pointer (some ⟨b2, 0, none⟩)) (hv (m1, m2)) rfl rfl (by intro k hk; cases hk; rfl) (fun W hW => load_hard (HX2.out.keep (hgb W hW)) rfl rfl)
                    case c8 => exact ask_step (guardw_some rfl rfl (fun v W h => (show v = .bool false ∧ (∃ hh, Play W0 B y d hh W) from h).1)) _ _ _ rfl (by kernel_rfl) (fun x W hW hk => by
                        have e1 : x 69 = .pointer (some ⟨B, 0, none⟩) := hk 69 rfl
                        have e2 : x 70 = hv (m1, m2) := hk 70 rfl
                        have h68 : x 68 = .bool false ∧ (∃ hh, Play W0 B y d hh W) := hk 68 rfl
                        obtain ⟨hh, hp⟩ := h68.2
                        show Calls _ _ #[x 69, x 70] W _
                        rw [e1, e2]
                        exact (play_set hp HM.out).mono fun e W' h => by
                          obtain ⟨h1, h2⟩ := h
                          exact ⟨_, h1, ⟨_, h2.crashed⟩, (fun k hk => by cases hk; exact ⟨rfl, h2⟩), facts_go ⟨trivial, trivial, trivial, satf_goes (hQ := hQA) (fun _ => ⟨_, h2⟩), satf_goes (hQ := hQA) (fun _ => ⟨_, h2⟩), satf_goes (hQ := hQA) (fun _ => ⟨_, h2⟩), trivial, trivial, satf_goes (hQ := hQM) (fun _ => h2), satf_goes (hQ := hQM) (fun _ => h2), satf_goes (hQ := hQM) (fun _ => h2), satf_goes (hQ := hQM) (fun _ => h2), trivial, trivial, trivial, trivial, trivial, trivial, trivial, trivial, trivial, satf_goes (hQ := hQM) (fun _ => h2), trivial⟩⟩)
                    case c9 => exact ask_still (guardw_some rfl rfl (fun v W h => (show v = .bool false ∧ (∃ hh, Play W0 B y d hh W) from h).1)) (fun x W hW hk => by
                        have h1 : x 71 = .bool true ∧ Play W0 B y d (m1, m2) W := hk 71 rfl
                        exact ⟨.bool false, by simp [execOp, evalBy, h1.1, go_sem], fun k h => by cases h; exact ⟨rfl, h1.2⟩⟩)
                    case c10 => exact ask_still (guardw_none rfl) (fun x W hW hk => by
                        have h1 : x 68 = .bool false ∧ (∃ hh, Play W0 B y d hh W) := hk 68 rfl
                        have h2 : x 72 = .bool false ∧ Play W0 B y d (m1, m2) W := hk 72 rfl
                        exact ⟨.bool false, by simp [execOp, evalBy, h1.1, h2.1, asBool], fun k h => by cases h; exact ⟨rfl, h2.2⟩⟩)
                    case c11 => exact ask_copy (guard_none rfl) (.tmp 73) (.inl rfl) (by intro k hk; cases hk; rfl)
                    case c12 => exact askw_copy (guardw_some rfl rfl (fun v W h => (show v = .bool false ∧ Play W0 B y d (m1, m2) W from h).1)) (.tmp 11) (.inl rfl) (by intro k hk; cases hk; rfl)
                    case c13 => exact askw_exec (guardw_some rfl rfl (fun v W h => (show v = .bool false ∧ Play W0 B y d (m1, m2) W from h).1)) (.pointer (some ⟨B, 0, none⟩)) rfl rfl (by intro k hk; cases hk; rfl) (fun W hW => by kernel_rfl)
                    case c14 => exact askw_field (guardw_some rfl rfl (fun v W h => (show v = .bool false ∧ Play W0 B y d (m1, m2) W from h).1)) _ (.tmp 76) 2 (.pointer (some ⟨B, 0, none⟩)) (.pointer (some ⟨B, 2, none⟩)) rfl rfl (by intro k hk; cases hk; rfl) (fun W => by kernel_rfl)
                    case c15 => exact askw_load (guardw_some rfl rfl (fun v W h => (show v = .bool false ∧ Play W0 B y d (m1, m2) W from h).1)) _ (.tmp 77) (.pointer (some ⟨B, 2, none⟩)) (.pointer (some ⟨y, 0, none⟩)) rfl rfl (by intro k hk; cases hk; rfl) (fun W hW => load_rp W _ _ (hgc W hW))
                    case c16 => exact askw_exec (guardw_some rfl rfl (fun v W h => (show v = .bool false ∧ Play W0 B y d (m1, m2) W from h).1)) (.pointer (some ⟨y, 0, none⟩)) rfl rfl (by intro k hk; cases hk; rfl) (fun W hW => by kernel_rfl)
                    case c17 => exact askw_field (guardw_some rfl rfl (fun v W h => (show v = .bool false ∧ Play W0 B y d (m1, m2) W from h).1)) _ (.tmp 79) 0 (.pointer (some ⟨y, 0, none⟩)) (.pointer (some ⟨y, 0, none⟩)) rfl rfl (by intro k hk; cases hk; rfl) (fun W => by kernel_rfl)
                    case c18 => exact ask_still (guardw_some rfl rfl (fun v W h => (show v = .bool false ∧ Play W0 B y d (m1, m2) W from h).1)) (fun x W hW hk => by
                        have e1 : x 80 = .pointer (some ⟨y, 0, none⟩) := hk 80 rfl
                        have h74 : x 74 = .bool false ∧ Play W0 B y d (m1, m2) W := hk 74 rfl
                        have hl := load_hard (o := 0) (a := m1) (b := m2) h74.2.ref rfl rfl
                        exact ⟨hv (m1, m2), by simp only [execOp, evalBy, e1, Sem.run_bind, hl, Result.andThen_ok, Sem.run_pure], fun k h => by cases h; rfl⟩)
                    case c19 => exact askw_load (guardw_some rfl rfl (fun v W h => (show v = .bool false ∧ Play W0 B y d (m1, m2) W from h).1)) _ (.tmp 6) (.pointer (some ⟨b2, 0, none⟩)) (hv (m1, m2)) rfl rfl (by intro k hk; cases hk; rfl) (fun W hW => load_hard (HX2.out.keep (hgb W hW)) rfl rfl)
                    case c20 => exact askw_bin (guardw_some rfl rfl (fun v W h => (show v = .bool false ∧ Play W0 B y d (m1, m2) W from h).1)) _ _ _ _ _ _ _ _ rfl rfl rfl (by intro k hk; cases hk; rfl) (fun W => neq_self _ _ _ _ W)
                    case c21 => exact ask_still (guardw_none rfl) (fun x W hW hk => by
                        have h1 : x 74 = .bool false ∧ Play W0 B y d (m1, m2) W := hk 74 rfl
                        have h2 : x 83 = .bool false := hk 83 rfl
                        exact ⟨.bool false, by simp [execOp, evalBy, h1.1, h2, asBool], fun k h => by cases h; exact ⟨rfl, h1.2⟩⟩)
                  · intro af W10 hW hd' hs' hf'
                    have t0 : af.tmps.getD 0 undef = .slice a 6 cap := hf' 0 rfl
                    have t1 : af.tmps.getD 1 undef = hv (g1, g2) := hf' 1 rfl
                    have t2 : af.tmps.getD 2 undef = hv (m1, m2) := hf' 2 rfl
                    have t3 : af.tmps.getD 3 undef = .slice ka nk ck := hf' 3 rfl
                    have t4 : af.tmps.getD 4 undef = undef := hf' 4 rfl
                    have t5 : af.tmps.getD 5 undef = .pointer (some ⟨b1, 0, none⟩) := hf' 5 rfl
                    have t6 : af.tmps.getD 6 undef = .pointer (some ⟨b2, 0, none⟩) := hf' 6 rfl
                    have t7 : af.tmps.getD 7 undef = undef := hf' 7 rfl
                    have t8 : af.tmps.getD 8 undef = u8 := hf' 8 rfl
                    have t9 : af.tmps.getD 9 undef = .int .i64 (j : Int) := hf' 9 rfl
                    have t10 : af.tmps.getD 10 undef = .int .i64 (t : Int) := hf' 10 rfl
                    have t11 : af.tmps.getD 11 undef = .pointer (some ⟨B, 0, none⟩) := hf' 11 rfl
                    have t12 : af.tmps.getD 12 undef = .int .i64 (i : Int) := hf' 12 rfl
                    have t13 : af.tmps.getD 13 undef = .bool true := hf' 13 rfl
                    have t14 : af.tmps.getD 14 undef = .bool false := hf' 14 rfl
                    have t15 : af.tmps.getD 15 undef = .slice a len cap := hf' 15 rfl
                    have t16 : af.tmps.getD 16 undef = .int .i64 (len : Int) := hf' 16 rfl
                    have t17 : af.tmps.getD 17 undef = .bool true := hf' 17 rfl
                    have t18 : af.tmps.getD 18 undef = .slice a len cap := hf' 18 rfl
                    have t19 : af.tmps.getD 19 undef = .slice a 6 cap := hf' 19 rfl
                    have t20 : af.tmps.getD 20 undef = .int .i64 (j : Int) := hf' 20 rfl
                    have t21 : af.tmps.getD 21 undef = .bool true := hf' 21 rfl
                    have t22 : af.tmps.getD 22 undef = u22 := hf' 22 rfl
                    have t23 : af.tmps.getD 23 undef = u23 := hf' 23 rfl
                    have t84 : (af.tmps.getD 84 undef) = .bool false ∧ Play W0 B y d (m1, m2) W10 := hf' 84 rfl
                    obtain ⟨us, hus, haf⟩ := act_open 106 af hs' hd'
                    rw [← hus] at t0 t1 t2 t3 t4 t5 t6 t7 t8 t9 t10 t11 t12 t13 t14 t15 t16 t17 t18 t19 t20 t21 t22 t23 t84
                    have el : ((List.range 106).map us).toArray = #[us 0, us 1, us 2, us 3, us 4, us 5, us 6, us 7, us 8, us 9, us 10, us 11, us 12, us 13, us 14, us 15, us 16, us 17, us 18, us 19, us 20, us 21, us 22, us 23, us 24, us 25, us 26, us 27, us 28, us 29, us 30, us 31, us 32, us 33, us 34, us 35, us 36, us 37, us 38, us 39, us 40, us 41, us 42, us 43, us 44, us 45, us 46, us 47, us 48, us 49, us 50, us 51, us 52, us 53, us 54, us 55, us 56, us 57, us 58, us 59, us 60, us 61, us 62, us 63, us 64, us 65, us 66, us 67, us 68, us 69, us 70, us 71, us 72, us 73, us 74, us 75, us 76, us 77, us 78, us 79, us 80, us 81, us 82, us 83, us 84, us 85, us 86, us 87, us 88, us 89, us 90, us 91, us 92, us 93, us 94, us 95, us 96, us 97, us 98, us 99, us 100, us 101, us 102, us 103, us 104, us 105] := rfl
                    rw [el] at haf
                    subst haf
                    rw [t0, t1, t2, t3, t4, t5, t6, t7, t8, t9, t10, t11, t12, t13, t14, t15, t16, t17, t18, t19, t20, t21, t22, t23]
                    have H84 := Lib.hid t84
                    have HW10 := Lib.hid hW
                    clear hus t0 t1 t2 t3 t4 t5 t6 t7 t8 t9 t10 t11 t12 t13 t14 t15 t16 t17 t18 t19 t20 t21 t22 t23 t84 el hf' hs' hd' hW hgb hgc
                    rw [H84.out.1]
                    obtain ⟨k0, k2⟩ := H84.out.2.cells
                    have HCrc := Lib.hid (play_crash H84.out.2 (t : Int) (HK.out.below H84.out.2.bel) HNk.out (by have := HNk2.out; omega))
                    go_wp2_with fail
                    clear k0 k2
                    refine HCrc.out.mono ?_
                    rintro e w12 ⟨rfl, hcr⟩
                    have HCr12 := Lib.hid hcr
                    clear hcr HCrc
                    go_upto_region 26 with fail
                    refine region_late_by 13 _ _ rfl [(92, .is (.pointer (some ⟨B, 0, none⟩))), (93, .is (.slice ka nk ck)), (94, .is (.int .i64 (t : Int))), (95, SatF (.bool true) (fun W => Play W0 B y d (m1, m2) W) hQM), (96, SatF (.bool false) (fun W => Play W0 B y d (m1, m2) W) hQM), (97, SatF (.bool false) (fun W => Play W0 B y d (m1, m2) W) hQM), (98, .is (.pointer (some ⟨B, 0, none⟩))), (99, .is (.pointer (some ⟨B, 0, none⟩))), (100, .is (.pointer (some ⟨B, 1, none⟩))), (101, (.sat (fun v W => (∃ z, v = .pointer (some ⟨z, 0, none⟩) ∧ ∀ W', Below W.heap.size W W' → Calls Try.prog 14 #[.pointer (some ⟨z, 0, none⟩)] W' fun e w' => e = .returned (hv (m1, m2)) ∧ Below W'.heap.size W' w')) (fun _ W W' h hb => by obtain ⟨z, h1, h2⟩ := h; exact ⟨z, h1, fun W'' hb2 => h2 W'' (hb.trans (hb2.mono hb.size))⟩))), (102, .is (hv (m1, m2))), (103, .is (hv (m1, m2))), (104, .is (.bool false))] [0, 1, 2, 3, 4, 5, 6, 7, 8, 9, 10, 11, 12, 13, 14, 15, 16, 17, 18, 19, 20, 21, 22, 23, 104, 97] (fun W => Crashed W0 B y d (m1, m2) W) (by kernel_rfl) (by kernel_rfl) (by kernel_rfl) (by kernel_rfl) ?_ rfl rfl rfl (by kernel_rfl) (HCr12.out.below ((Below.refl _ _).drew)) ?_ ?_
                    · intro q fq hq
                      by_cases hq4 : q = 92
                      · subst hq4
                        exact .inl (by kernel_rfl)
                      · exact .inl (lookup_all 92 (by kernel_rfl) hq hq4)
                    · refine ⟨?c0, ?c1, ?c2, ?c3, ?c4, ?c5, ?c6, ?c7, ?c8, ?c9, ?c10, ?c11, ?c12, trivial⟩
                      case c0 => exact Asked.late (ask_copy (guard_none rfl) (.tmp 11) (.inl rfl) (by intro k hk; cases hk; rfl))
                      case c1 => exact Asked.late (ask_copy (guard_none rfl) (.tmp 3) (.inl rfl) (by intro k hk; cases hk; rfl))
                      case c2 => exact Asked.late (ask_copy (guard_none rfl) (.tmp 10) (.inl rfl) (by intro k hk; cases hk; rfl))
                      case c3 => exact ask_step2 (guardw_none rfl) _ _ _ rfl (by kernel_rfl) (fun x W hW hk => by
                          have e1 : x 92 = .pointer (some ⟨B, 0, none⟩) := hk 92 rfl
                          have e2 : x 93 = .slice ka nk ck := hk 93 rfl
                          have e3 : x 94 = .int .i64 (t : Int) := hk 94 rfl
                          show Calls _ _ #[x 92, x 93, x 94] W _
                          rw [e1, e2, e3]
                          exact (crashed_open hW (t : Int) HK.out HNk.out hnk9.out).mono fun e W' h => by
                            obtain ⟨h1, h2⟩ := h
                            exact ⟨_, h1, h2.crashed, (fun k hk => by cases hk; exact ⟨rfl, h2⟩), facts_go2 ⟨fun _ => trivial, fun _ => trivial, fun _ => trivial, fun _ => satf_goes (hQ := hQM) (fun _ => h2), fun _ => satf_goes (hQ := hQM) (fun _ => h2), fun _ => satf_goes (hQ := hQM) (fun _ => h2), fun _ => trivial, fun _ => trivial, fun _ => trivial, fun h => absurd (h.symm.trans (by kernel_rfl)) (by decide : ¬ (true = false)), fun _ => trivial, fun _ => trivial, fun _ => trivial, trivial⟩⟩)
                      case c4 => exact Asked.late (ask_still (guardw_none rfl) (fun x W hW hk => by
                          have h1 : x 95 = .bool true ∧ Play W0 B y d (m1, m2) W := hk 95 rfl
                          exact ⟨.bool false, by simp [execOp, evalBy, h1.1, go_sem], fun k h => by cases h; exact ⟨rfl, h1.2⟩⟩))
                      case c5 => exact Asked.late (ask_copy (guard_none rfl) (.tmp 96) (.inl rfl) (by intro k hk; cases hk; rfl))
                      case c6 => exact Asked.late (askw_copy (guardw_some rfl rfl (fun v W h => (show v = .bool false ∧ Play W0 B y d (m1, m2) W from h).1)) (.tmp 11) (.inl rfl) (by intro k hk; cases hk; rfl))
                      case c7 => exact Asked.late (askw_exec (guardw_some rfl rfl (fun v W h => (show v = .bool false ∧ Play W0 B y d (m1, m2) W from h).1)) (.pointer (some ⟨B, 0, none⟩)) rfl rfl (by intro k hk; cases hk; rfl) (fun W hW => by kernel_rfl))
                      case c8 => exact Asked.late (askw_field (guardw_some rfl rfl (fun v W h => (show v = .bool false ∧ Play W0 B y d (m1, m2) W from h).1)) _ (.tmp 99) 1 (.pointer (some ⟨B, 0, none⟩)) (.pointer (some ⟨B, 1, none⟩)) rfl rfl (by intro k hk; cases hk; rfl) (fun W => by kernel_rfl))
                      case c9 => exact Asked.late (ask_still (guardw_some rfl rfl (fun v W h => (show v = .bool false ∧ Play W0 B y d (m1, m2) W from h).1)) (fun x W hW hk => by
                          have e1 : x 100 = .pointer (some ⟨B, 1, none⟩) := hk 100 rfl
                          have h97 : x 97 = .bool false ∧ Play W0 B y d (m1, m2) W := hk 97 rfl
                          obtain ⟨z, hz, hg1⟩ := h97.2.get1
                          have hl := load_cp W ⟨B, 1, none⟩ _ hz
                          exact ⟨.pointer (some ⟨z, 0, none⟩), by simp only [execOp, evalBy, e1, Sem.run_bind, hl, Result.andThen_ok, Sem.run_pure], fun k h => by cases h; exact ⟨z, rfl, hg1⟩⟩))
                      case c10 => exact Asked.late (ask_step (guardw_some rfl rfl (fun v W h => (show v = .bool false ∧ Play W0 B y d (m1, m2) W from h).1)) _ _ _ rfl (by kernel_rfl) (fun x W hW hk => by
                          have h1 : (∃ z, x 101 = .pointer (some ⟨z, 0, none⟩) ∧ ∀ W', Below W.heap.size W W' → Calls Try.prog 14 #[.pointer (some ⟨z, 0, none⟩)] W' fun e w' => e = .returned (hv (m1, m2)) ∧ Below W'.heap.size W' w') := hk 101 rfl
                          obtain ⟨z, e1, hc⟩ := h1
                          show Calls _ _ #[x 101] W _
                          rw [e1]
                          exact (hc W (Below.refl _ _)).mono fun e W' h => by
                            obtain ⟨h1, h2⟩ := h
                            exact ⟨_, h1, hW.below h2, (fun k hk => by cases hk; rfl), facts_go ⟨trivial, trivial, trivial, satf_goes (hQ := hQM) (fun h => h.below h2), satf_goes (hQ := hQM) (fun h => h.below h2), satf_goes (hQ := hQM) (fun h => h.below h2), trivial, trivial, trivial, (fun v hv => by obtain ⟨z, h3, h4⟩ := hv; exact ⟨z, h3, fun W'' hb2 => h4 W'' (h2.trans (hb2.mono h2.size))⟩), trivial, trivial, trivial, trivial⟩⟩))
                      case c11 => exact Asked.late (askw_load (guardw_some rfl rfl (fun v W h => (show v = .bool false ∧ Play W0 B y d (m1, m2) W from h).1)) _ (.tmp 6) (.pointer (some ⟨b2, 0, none⟩)) (hv (m1, m2)) rfl rfl (by intro k hk; cases hk; rfl) (fun W hW => load_hard (HX2.out.keep hW.bel) rfl rfl))
                      case c12 => exact Asked.late (askw_bin (guardw_some rfl rfl (fun v W h => (show v = .bool false ∧ Play W0 B y d (m1, m2) W from h).1)) _ _ _ _ _ _ _ _ rfl rfl rfl (by intro k hk; cases hk; rfl) (fun W => neq_self _ _ _ _ W))
                    · intro af W13 hW hd' hs' hf'
                      have t0 : af.tmps.getD 0 undef = .slice a 6 cap := hf' 0 rfl
                      have t1 : af.tmps.getD 1 undef = hv (g1, g2) := hf' 1 rfl
                      have t2 : af.tmps.getD 2 undef = hv (m1, m2) := hf' 2 rfl
                      have t3 : af.tmps.getD 3 undef = .slice ka nk ck := hf' 3 rfl
                      have t4 : af.tmps.getD 4 undef = undef := hf' 4 rfl
                      have t5 : af.tmps.getD 5 undef = .pointer (some ⟨b1, 0, none⟩) := hf' 5 rfl
                      have t6 : af.tmps.getD 6 undef = .pointer (some ⟨b2, 0, none⟩) := hf' 6 rfl
                      have t7 : af.tmps.getD 7 undef = undef := hf' 7 rfl
                      have t8 : af.tmps.getD 8 undef = u8 := hf' 8 rfl
                      have t9 : af.tmps.getD 9 undef = .int .i64 (j : Int) := hf' 9 rfl
                      have t10 : af.tmps.getD 10 undef = .int .i64 (t : Int) := hf' 10 rfl
                      have t11 : af.tmps.getD 11 undef = .pointer (some ⟨B, 0, none⟩) := hf' 11 rfl
                      have t12 : af.tmps.getD 12 undef = .int .i64 (i : Int) := hf' 12 rfl
                      have t13 : af.tmps.getD 13 undef = .bool true := hf' 13 rfl
                      have t14 : af.tmps.getD 14 undef = .bool false := hf' 14 rfl
                      have t15 : af.tmps.getD 15 undef = .slice a len cap := hf' 15 rfl
                      have t16 : af.tmps.getD 16 undef = .int .i64 (len : Int) := hf' 16 rfl
                      have t17 : af.tmps.getD 17 undef = .bool true := hf' 17 rfl
                      have t18 : af.tmps.getD 18 undef = .slice a len cap := hf' 18 rfl
                      have t19 : af.tmps.getD 19 undef = .slice a 6 cap := hf' 19 rfl
                      have t20 : af.tmps.getD 20 undef = .int .i64 (j : Int) := hf' 20 rfl
                      have t21 : af.tmps.getD 21 undef = .bool true := hf' 21 rfl
                      have t22 : af.tmps.getD 22 undef = u22 := hf' 22 rfl
                      have t23 : af.tmps.getD 23 undef = u23 := hf' 23 rfl
                      have t104 : af.tmps.getD 104 undef = .bool false := hf' 104 rfl
                      have t97 : (af.tmps.getD 97 undef) = .bool false ∧ Play W0 B y d (m1, m2) W13 := hf' 97 rfl
                      obtain ⟨us, hus, haf⟩ := act_open 106 af hs' hd'
                      rw [← hus] at t0 t1 t2 t3 t4 t5 t6 t7 t8 t9 t10 t11 t12 t13 t14 t15 t16 t17 t18 t19 t20 t21 t22 t23 t104 t97
                      have el : ((List.range 106).map us).toArray = #[us 0, us 1, us 2, us 3, us 4, us 5, us 6, us 7, us 8, us 9, us 10, us 11, us 12, us 13, us 14, us 15, us 16, us 17, us 18, us 19, us 20, us 21, us 22, us 23, us 24, us 25, us 26, us 27, us 28, us 29, us 30, us 31, us 32, us 33, us 34, us 35, us 36, us 37, us 38, us 39, us 40, us 41, us 42, us 43, us 44, us 45, us 46, us 47, us 48, us 49, us 50, us 51, us 52, us 53, us 54, us 55, us 56, us 57, us 58, us 59, us 60, us 61, us 62, us 63, us 64, us 65, us 66, us 67, us 68, us 69, us 70, us 71, us 72, us 73, us 74, us 75, us 76, us 77, us 78, us 79, us 80, us 81, us 82, us 83, us 84, us 85, us 86, us 87, us 88, us 89, us 90, us 91, us 92, us 93, us 94, us 95, us 96, us 97, us 98, us 99, us 100, us 101, us 102, us 103, us 104, us 105] := rfl
                      rw [el] at haf
                      subst haf
                      rw [t0, t1, t2, t3, t4, t5, t6, t7, t8, t9, t10, t11, t12, t13, t14, t15, t16, t17, t18, t19, t20, t21, t22, t23, t104]
                      have H105 := Lib.hid t97
                      clear hus t0 t1 t2 t3 t4 t5 t6 t7 t8 t9 t10 t11 t12 t13 t14 t15 t16 t17 t18 t19 t20 t21 t22 t23 t104 t97 el hf' hs' hd' hW
                      rw [H105.out.1]
                      have HBn := Lib.hid H105.out.2.bel
                      clear hQA hQM hlt
                      go_wp2
                      go_roundw
                      case rel => exact ⟨t + 1, by omega, by go_num, HBn⟩
                      case measure => simp [intOf]; omega
          · have t1 : ¬ (t : Int) < 70 := by omega
            go_wp2
            go_roundw
            case rel => exact ⟨j + 1, by omega, by go_num, HBt⟩
            case measure => simp [intOf]; omega
      · have j1 : ¬ (j : Int) < 5 := by omega
        have HBf := Lib.hid (HFin.out wr HBj.out)
        go_wp2
        go_ret
        exact ⟨rfl, HBf.out⟩
  · have q1 : ¬ (len : Int) > 6 := by omega
    have q2 : decide (6 < len) = false := by simpa using h6
    go_wp2
    go_loopw [9] (fun s9 wr => ∃ j : Nat, j ≤ 5 ∧ s9 = .int .i64 j ∧ Hid (Below W0.heap.size W0 wr)) (fun s9 _ => 5 - (intOf s9).toNat)
    case atStart => exact ⟨0, by decide, rfl, HB1⟩
    case round =>
      obtain ⟨j, hj, rfl, HBj⟩ := hrel
      have j0 : (0 : Int) ≤ (j : Int) := Int.natCast_nonneg _
      clear HB1
      by_cases hj5 : j < 5
      · have j1 : (j : Int) < 5 := by omega
        obtain ⟨wj, hwj⟩ : ∃ wj : World, wj = wr := ⟨_, rfl⟩
        rw [← hwj] at HBj
        have HWj := Lib.hid hwj
        clear hwj
        go_wp2
        rw [← HWj.out]
        clear HWj
        go_loopw [10] (fun s10 wr => ∃ t : Nat, t ≤ 70 ∧ s10 = .int .i64 t ∧ Hid (Below W0.heap.size W0 wr)) (fun s10 _ => 70 - (intOf s10).toNat)
        case atStart => exact ⟨0, by decide, rfl, HBj⟩
        case round =>
          obtain ⟨t, ht, rfl, HBt⟩ := hrel
          have t0 : (0 : Int) ≤ (t : Int) := Int.natCast_nonneg _
          clear HBj
          by_cases ht70 : t < 70
          · have t1 : (t : Int) < 70 := by omega
            go_wp2_with fail
            refine (play_begin HBt.out).mono ?_
            rintro e w4 ⟨B, y, d, rfl, hp0⟩
            have HP0 := Lib.hid hp0
            clear hp0
            go_wp2
            go_loopw [12] (fun s12 wr => ∃ (i : Nat) (h : Hd), i ≤ len ∧ s12 = .int .i64 i ∧ Hid (Play W0 B y d h wr)) (fun s12 _ => len - (intOf s12).toNat)
            case atStart => exact ⟨0, (0, 0), Nat.zero_le _, rfl, HP0⟩
            case round =>
              obtain ⟨i, h, hi, rfl, HP⟩ := hrel
              have i0 : (0 : Int) ≤ (i : Int) := Int.natCast_nonneg _
              clear HP0
              by_cases hlt : i < len
              · have i1 : (i : Int) < (len : Int) := by omega
                have i2 : decide (i < len) = true := by simpa using hlt
                obtain ⟨o, ho⟩ : ∃ o, (L)[i]? = some o := ⟨(L)[i]'(by have := HL.out; simp; omega), List.getElem?_eq_getElem _⟩
                obtain ⟨hok, ad, rfl, c0, c1⟩ := HS.out i o ho
                have hidx : ∀ W, (Instr.indexAt 22 (.slice (some ad) len cap) (.int .i64 (i : Int))).run Try.prog W = .ok (.pointer (some (ad.add (i * 2)))) W := fun W => hards_index W ad len cap i hlt
                obtain ⟨p, hp⟩ : ∃ p, p = ad.add (i * 2) := ⟨_, rfl⟩
                rw [← hp] at hidx c0 c1
                have hcc : ∀ {q : Addr} {u : Value}, W0.cell? q = some u → wr.cell? q = some u := fun {q u} hq => by rw [HP.out.bel.cell (World.block_lt_of_cell? W0 _ hq)]; exact hq
                replace c0 := hcc c0
                replace c1 := hcc c1
                have HSt := Lib.hid (play_set HP.out hok)
                obtain ⟨o1, o2⟩ := o
                clear hcc hp ho hok
                go_wp2_with fail
                refine HSt.out.mono ?_
                rintro e w5 ⟨rfl, hp5⟩
                have HP5 := Lib.hid hp5
                clear hp5 HSt c0 c1 hidx i2
                go_wp2
                go_roundw
                case rel => exact ⟨i + 1, (o1, o2), by omega, by go_num, HP5⟩
                case measure => simp [intOf]; omega
              · have i1 : ¬ (i : Int) < (len : Int) := by omega
                have i2 : decide (i < len) = false := by simpa using hlt
                obtain ⟨k0, k2⟩ := HP.out.cells
                have HFu := Lib.hid (play_fuse HP.out (j : Int) (by omega))
                go_wp2_with fail
                clear k0 k2
                refine HFu.out.mono ?_
                rintro e w6 ⟨rfl, hf6⟩
                have HF6 := Lib.hid hf6
                obtain ⟨c0, c1⟩ := HC1.out w6 hf6.bel
                clear hf6 HFu HP i2
                have HSt := Lib.hid (fused_set HF6.out HG.out)
                go_wp2_with fail
                clear c0 c1
                refine HSt.out.mono ?_
                rintro e w7 ⟨rfl, hd7⟩
                have HD7 := Lib.hid hd7
                clear hd7 HSt HF6
                go_upto_region 22 with fail
                obtain ⟨p7, hrn⟩ := HD7.out.run
                have HRn := Lib.hid hrn
                have hG7 : ∀ W W' : World, Below w7.heap.size w7 W → Below W.heap.size W W' → Below w7.heap.size w7 W' := fun W W' h h' => h.trans (h'.mono h.size)
                have hQA : ∀ W W' : World, (∃ hh, Play W0 B y d hh W) → Below W.heap.size W W' → (∃ hh, Play W0 B y d hh W') := fun W W' h hb => by
                  obtain ⟨hh, h⟩ := h
                  exact ⟨hh, h.below hb⟩
                have hQM : ∀ W W' : World, Play W0 B y d (m1, m2) W → Below W.heap.size W W' → Play W0 B y d (m1, m2) W' := fun W W' h hb => h.below hb
                clear hrn
                refine region_tails_by 8 [(54, .is (.pointer (some ⟨B, 0, none⟩))), (55, .is (.pointer (some ⟨B, 0, none⟩))), (56, .is (.pointer (some ⟨B, 0, none⟩))), (57, .is (.pointer (some ⟨d, 0, none⟩))), (58, (.sat (Own2 w7.heap.size [true]) (fun _ _ _ h hb => h.stays hb))), (59, .is (.slice ka nk ck)), (60, (.sat (Own2 w7.heap.size (true :: ks)) (fun _ _ _ h hb => h.stays hb))), (61, .is (.int .i64 (t : Int)))] [0, 1, 2, 3, 4, 5, 6, 7, 8, 9, 10, 11, 12, 13, 14, 15, 16, 17, 18, 19, 20, 21, 22, 23, 57, 61, 60] (fun W => Below w7.heap.size w7 W) (by kernel_rfl) (by kernel_rfl) (by kernel_rfl) (by kernel_rfl) (by kernel_rfl) (by decide) (by kernel_rfl) (by kernel_rfl) ((Below.refl _ _).drew) ?_ ?_
                · refine ⟨?c0, ?c1, ?c2, ?c3, ?c4, ?c5, ?c6, ?c7, trivial⟩
                  case c0 => exact ask_copy (guard_none rfl) (.tmp 11) (.inl rfl) (by intro k hk; cases hk; rfl)
                  case c1 => exact ask_exec (guard_none rfl) (.pointer (some ⟨B, 0, none⟩)) rfl rfl (by intro k hk; cases hk; rfl) (fun W hW => by kernel_rfl)
                  case c2 => exact ask_field (guard_none rfl) _ (.tmp 55) 0 (.pointer (some ⟨B, 0, none⟩)) (.pointer (some ⟨B, 0, none⟩)) rfl rfl (by intro k hk; cases hk; rfl) (fun W => by kernel_rfl)
                  case c3 => exact ask_load (guard_none rfl) _ (.tmp 56) (.pointer (some ⟨B, 0, none⟩)) (.pointer (some ⟨d, 0, none⟩)) rfl rfl (by intro k hk; cases hk; rfl) (fun W hW => load_dp W _ _ (by rw [hW.cell (p := ⟨B, 0, none⟩) HRn.out.lt, HRn.out.cell]; rfl))
                  case c4 => exact ask_build_true hG7 (guard_none rfl) w7.heap.size (fun W hW => hW.size) rfl (by intro k hk; cases hk; rfl)
                  case c5 => exact ask_copy (guard_none rfl) (.tmp 3) (.inl rfl) (by intro k hk; cases hk; rfl)
                  case c6 => exact ask_append_keep (guard_none rfl) (by kernel_rfl) (.tmp 58) (.tmp 59) w7.heap.size rfl rfl rfl rfl (fun W hW => HK.out.below (HD7.out.bel.trans (hW.mono HD7.out.bel.size))) HNk.out HKn.out HNk2.out (fun W hW => hW.size) (fun W W' row hW hg hr => hW.grown hg hW.size hr) (by intro k hk; cases hk; rfl)
                  case c7 => exact ask_copy (guard_none rfl) (.tmp 10) (.inl rfl) (by intro k hk; cases hk; rfl)
                · intro af W8 hW hd' hs' hf'
                  have t0 : af.tmps.getD 0 undef = .slice a len cap := hf' 0 rfl
                  have t1 : af.tmps.getD 1 undef = hv (g1, g2) := hf' 1 rfl
                  have t2 : af.tmps.getD 2 undef = hv (m1, m2) := hf' 2 rfl
                  have t3 : af.tmps.getD 3 undef = .slice ka nk ck := hf' 3 rfl
                  have t4 : af.tmps.getD 4 undef = undef := hf' 4 rfl
                  have t5 : af.tmps.getD 5 undef = .pointer (some ⟨b1, 0, none⟩) := hf' 5 rfl
                  have t6 : af.tmps.getD 6 undef = .pointer (some ⟨b2, 0, none⟩) := hf' 6 rfl
                  have t7 : af.tmps.getD 7 undef = undef := hf' 7 rfl
                  have t8 : af.tmps.getD 8 undef = u8 := hf' 8 rfl
                  have t9 : af.tmps.getD 9 undef = .int .i64 (j : Int) := hf' 9 rfl
                  have t10 : af.tmps.getD 10 undef = .int .i64 (t : Int) := hf' 10 rfl
                  have t11 : af.tmps.getD 11 undef = .pointer (some ⟨B, 0, none⟩) := hf' 11 rfl
                  have t12 : af.tmps.getD 12 undef = .int .i64 (i : Int) := hf' 12 rfl
                  have t13 : af.tmps.getD 13 undef = .bool true := hf' 13 rfl
                  have t14 : af.tmps.getD 14 undef = .bool false := hf' 14 rfl
                  have t15 : af.tmps.getD 15 undef = .slice a len cap := hf' 15 rfl
                  have t16 : af.tmps.getD 16 undef = .int .i64 (len : Int) := hf' 16 rfl
                  have t17 : af.tmps.getD 17 undef = .bool (decide (6 < (len : Int))) := hf' 17 rfl
                  have t18 : af.tmps.getD 18 undef = undef := hf' 18 rfl
                  have t19 : af.tmps.getD 19 undef = undef := hf' 19 rfl
                  have t20 : af.tmps.getD 20 undef = .int .i64 (j : Int) := hf' 20 rfl
                  have t21 : af.tmps.getD 21 undef = .bool true := hf' 21 rfl
                  have t22 : af.tmps.getD 22 undef = u22 := hf' 22 rfl
                  have t23 : af.tmps.getD 23 undef = u23 := hf' 23 rfl
                  have t57 : af.tmps.getD 57 undef = .pointer (some ⟨d, 0, none⟩) := hf' 57 rfl
                  have t61 : af.tmps.getD 61 undef = .int .i64 (t : Int) := hf' 61 rfl
                  have t60 : Own2 w7.heap.size (true :: ks) (af.tmps.getD 60 undef) W8 := hf' 60 rfl
                  obtain ⟨us, hus, haf⟩ := act_open 106 af hs' hd'
                  rw [← hus] at t0 t1 t2 t3 t4 t5 t6 t7 t8 t9 t10 t11 t12 t13 t14 t15 t16 t17 t18 t19 t20 t21 t22 t23 t57 t61 t60
                  have el : ((List.range 106).map us).toArray = #[us 0, us 1, us 2, us 3, us 4, us 5, us 6, us 7, us 8, us 9, us 10, us 11, us 12, us 13, us 14, us 15, us 16, us 17, us 18, us 19, us 20, us 21, us 22, us 23, us 24, us 25, us 26, us 27, us 28, us 29, us 30, us 31, us 32, us 33, us 34, us 35, us 36, us 37, us 38, us 39, us 40, us 41, us 42, us 43, us 44, us 45, us 46, us 47, us 48, us 49, us 50, us 51, us 52, us 53, us 54, us 55, us 56, us 57, us 58, us 59, us 60, us 61, us 62, us 63, us 64, us 65, us 66, us 67, us 68, us 69, us 70, us 71, us 72, us 73, us 74, us 75, us 76, us 77, us 78, us 79, us 80, us 81, us 82, us 83, us 84, us 85, us 86, us 87, us 88, us 89, us 90, us 91, us 92, us 93, us 94, us 95, us 96, us 97, us 98, us 99, us 100, us 101, us 102, us 103, us 104, us 105] := rfl
                  rw [el] at haf
                  subst haf
                  rw [t0, t1, t2, t3, t4, t5, t6, t7, t8, t9, t10, t11, t12, t13, t14, t15, t16, t17, t18, t19, t20, t21, t22, t23, t57, t61]
                  have HOw := Lib.hid t60
                  have HW8 := Lib.hid hW
                  clear hus t0 t1 t2 t3 t4 t5 t6 t7 t8 t9 t10 t11 t12 t13 t14 t15 t16 t17 t18 t19 t20 t21 t22 t23 t57 t61 t60 el hf' hs' hd' hW hG7
                  simp only [List.drop_succ_cons, List.drop_zero]
                  obtain ⟨oa, oc, ho60, hobl⟩ := HOw.out.bls
                  rw [ho60]
                  have hcr := done_crash (HD7.out.below HW8.out) (t : Int) hobl rfl (by have := HNk.out; have := HNk2.out; simp; omega)
                  have HCrc := Lib.hid hcr
                  clear hobl hcr ho60
                  go_wp2_with fail
                  refine HCrc.out.mono ?_
                  rintro e w9 ⟨rfl, hh, hcr⟩
                  have HCr := Lib.hid hcr
                  have hgb : ∀ W : World, (∃ hh, Crashed W0 B y d hh W) → Below W0.heap.size W0 W := fun W h => by
                    obtain ⟨hh, h⟩ := h
                    exact h.bel
                  have hgc : ∀ W : World, (∃ hh, Crashed W0 B y d hh W) → W.cell? ⟨B, 2, none⟩ = some (.pointer (some ⟨y, 0, none⟩)) := fun W h => by
                    obtain ⟨hh, h⟩ := h
                    exact h.cells.2
                  clear hcr HCrc
                  go_upto_region 23 with fail
                  refine region_by [(63, .is (.pointer (some ⟨B, 0, none⟩))), (64, .is (.slice ka nk ck)), (65, .is (.int .i64 (t : Int))), (66, SatF (.bool true) (fun W => ∃ hh, Play W0 B y d hh W) hQA), (67, SatF (.bool false) (fun W => ∃ hh, Play W0 B y d hh W) hQA), (68, SatF (.bool false) (fun W => ∃ hh, Play W0 B y d hh W) hQA), (69, .is (.pointer (some ⟨B, 0, none⟩))), (70, .is (hv (m1, m2))), (71, SatF (.bool true) (fun W => Play W0 B y d (m1, m2) W) hQM), (72, SatF (.bool false) (fun W => Play W0 B y d (m1, m2) W) hQM), (73, SatF (.bool false) (fun W => Play W0 B y d (m1, m2) W) hQM), (74, SatF (.bool false) (fun W => Play W0 B y d (m1, m2) W) hQM), (75, .is (.pointer (some ⟨B, 0, none⟩))), (76, .is (.pointer (some ⟨B, 0, none⟩))), (77, .is (.pointer (some ⟨B, 2, none⟩))), (78, .is (.pointer (some ⟨y, 0, none⟩))), (79, .is (.pointer (some ⟨y, 0, none⟩))), (80, .is (.pointer (some ⟨y, 0, none⟩))), (81, .is (hv (m1, m2))), (82, .is (hv (m1, m2))), (83, .is (.bool false)), (84, SatF (.bool false) (fun W => Play W0 B y d (m1, m2) W) hQM)] [0, 1, 2, 3, 4, 5, 6, 7, 8, 9, 10, 11, 12, 13, 14, 15, 16, 17, 18, 19, 20, 21, 22, 23, 84] (fun W => ∃ hh, Crashed W0 B y d hh W) (by kernel_rfl) (by kernel_rfl) (by kernel_rfl) (by kernel_rfl) (by kernel_rfl) (⟨_, HCr.out.below ((Below.refl _ _).drew)⟩) ?_ ?_
                  · refine ⟨?c0, ?c1, ?c2, ?c3, ?c4, ?c5, ?c6, ?c7, ?c8, ?c9, ?c10, ?c11, ?c12, ?c13, ?c14, ?c15, ?c16, ?c17, ?c18, ?c19, ?c20, ?c21, trivial⟩
                    case c0 => exact ask_copy (guard_none rfl) (.tmp 11) (.inl rfl) (by intro k hk; cases hk; rfl)
                    case c1 => exact ask_copy (guard_none rfl) (.tmp 3) (.inl rfl) (by intro k hk; cases hk; rfl)
                    case c2 => exact ask_copy (guard_none rfl) (.tmp 10) (.inl rfl) (by intro k hk; cases hk; rfl)
                    case c3 => exact ask_step (guardw_none rfl) _ _ _ rfl (by kernel_rfl) (fun x W hW hk => by
                        have e1 : x 63 = .pointer (some ⟨B, 0, none⟩) := hk 63 rfl
                        have e2 : x 64 = .slice ka nk ck := hk 64 rfl
                        have e3 : x 65 = .int .i64 (t : Int) := hk 65 rfl
                        show Calls _ _ #[x 63, x 64, x 65] W _
                        rw [e1, e2, e3]
                        by_cases hq : Play W0 B y d (m1, m2) W
                        · exact (crashed_open hq.crashed (t : Int) HK.out HNk.out hnk9.out).mono fun e W' h => by
                            obtain ⟨h1, h2⟩ := h
                            exact ⟨_, h1, ⟨_, h2.crashed⟩, (fun k hk => by cases hk; exact ⟨rfl, _, h2⟩), facts_go ⟨trivial, trivial, trivial, satf_goes (hQ := hQA) (fun _ => ⟨_, h2⟩), satf_goes (hQ := hQA) (fun _ => ⟨_, h2⟩), satf_goes (hQ := hQA) (fun _ => ⟨_, h2⟩), trivial, trivial, satf_goes (hQ := hQM) (fun _ => h2), satf_goes (hQ := hQM) (fun _ => h2), satf_goes (hQ := hQM) (fun _ => h2), satf_goes (hQ := hQM) (fun _ => h2), trivial, trivial, trivial, trivial, trivial, trivial, trivial, trivial, trivial, satf_goes (hQ := hQM) (fun _ => h2), trivial⟩⟩
                        · obtain ⟨hh, hc⟩ := hW
                          exact (crashed_open hc (t : Int) HK.out HNk.out hnk9.out).mono fun e W' h => by
                            obtain ⟨h1, h2⟩ := h
                            exact ⟨_, h1, ⟨_, h2.crashed⟩, (fun k hk => by cases hk; exact ⟨rfl, _, h2⟩), facts_go ⟨trivial, trivial, trivial, satf_goes (hQ := hQA) (fun _ => ⟨_, h2⟩), satf_goes (hQ := hQA) (fun _ => ⟨_, h2⟩), satf_goes (hQ := hQA) (fun _ => ⟨_, h2⟩), trivial, trivial, satf_goes (hQ := hQM) (fun h => absurd h hq), satf_goes (hQ := hQM) (fun h => absurd h hq), satf_goes (hQ := hQM) (fun h => absurd h hq), satf_goes (hQ := hQM) (fun h => absurd h hq), trivial, trivial, trivial, trivial, trivial, trivial, trivial, trivial, trivial, satf_goes (hQ := hQM) (fun h => absurd h hq), trivial⟩⟩)
                    case c4 => exact ask_still (guardw_none rfl) (fun x W hW hk => by
                        have h1 : x 66 = .bool true ∧ (∃ hh, Play W0 B y d hh W) := hk 66 rfl
                        exact ⟨.bool false, by simp [execOp, evalBy, h1.1, go_sem], fun k h => by cases h; exact ⟨rfl, h1.2⟩⟩)
                    case c5 => exact ask_copy (guard_none rfl) (.tmp 67) (.inl rfl) (by intro k hk; cases hk; rfl)
                    case c6 => exact askw_copy (guardw_some rfl rfl (fun v W h => (show v = .bool false ∧ (∃ hh, Play W0 B y d hh W) from h).1)) (.tmp 11) (.inl rfl) (by intro k hk; cases hk; rfl)
                    case c7 => exact askw_load (guardw_some rfl rfl (fun v W h => (show v = .bool false ∧ (∃ hh, Play W0 B y d hh W) from h).1)) _ (.tmp 6) (.pointer (some ⟨b2, 0, none⟩)) (hv (m1, m2)) rfl rfl (by intro k hk; cases hk; rfl) (fun W hW => load_hard (HX2.out.keep (hgb W hW)) rfl rfl)
                    case c8 => exact ask_step (guardw_some rfl rfl (fun v W h => (show v = .bool false ∧ (∃ hh, Play W0 B y d hh W) from h).1)) _ _ _ rfl (by kernel_rfl) (fun x W hW hk => by
                        have e1 : x 69 = .pointer (some ⟨B, 0, none⟩) := hk 69 rfl
                        have e2 : x 70 = hv (m1, m2) := hk 70 rfl
                        have h68 : x 68 = .bool false ∧ (∃ hh, Play W0 B y d hh W) := hk 68 rfl
                        obtain ⟨hh, hp⟩ := h68.2
                        show Calls _ _ #[x 69, x 70] W _
                        rw [e1, e2]
                        exact (play_set hp HM.out).mono fun e W' h => by
                          obtain ⟨h1, h2⟩ := h
                          exact ⟨_, h1, ⟨_, h2.crashed⟩, (fun k hk => by cases hk; exact ⟨rfl, h2⟩), facts_go ⟨trivial, trivial, trivial, satf_goes (hQ := hQA) (fun _ => ⟨_, h2⟩), satf_goes (hQ := hQA) (fun _ => ⟨_, h2⟩), satf_goes (hQ := hQA) (fun _ => ⟨_, h2⟩), trivial, trivial, satf_goes (hQ := hQM) (fun _ => h2), satf_goes (hQ := hQM) (fun _ => h2), satf_goes (hQ := hQM) (fun _ => h2), satf_goes (hQ := hQM) (fun _ => h2), trivial, trivial, trivial, trivial, trivial, trivial, trivial, trivial, trivial, satf_goes (hQ := hQM) (fun _ => h2), trivial⟩⟩)
                    case c9 => exact ask_still (guardw_some rfl rfl (fun v W h => (show v = .bool false ∧ (∃ hh, Play W0 B y d hh W) from h).1)) (fun x W hW hk => by
                        have h1 : x 71 = .bool true ∧ Play W0 B y d (m1, m2) W := hk 71 rfl
                        exact ⟨.bool false, by simp [execOp, evalBy, h1.1, go_sem], fun k h => by cases h; exact ⟨rfl, h1.2⟩⟩)
                    case c10 => exact ask_still (guardw_none rfl) (fun x W hW hk => by
                        have h1 : x 68 = .bool false ∧ (∃ hh, Play W0 B y d hh W) := hk 68 rfl
                        have h2 : x 72 = .bool false ∧ Play W0 B y d (m1, m2) W := hk 72 rfl
                        exact ⟨.bool false, by simp [execOp, evalBy, h1.1, h2.1, asBool], fun k h => by cases h; exact ⟨rfl, h2.2⟩⟩)
                    case c11 => exact ask_copy (guard_none rfl) (.tmp 73) (.inl rfl) (by intro k hk; cases hk; rfl)
                    case c12 => exact askw_copy (guardw_some rfl rfl (fun v W h => (show v = .bool false ∧ Play W0 B y d (m1, m2) W from h).1)) (.tmp 11) (.inl rfl) (by intro k hk; cases hk; rfl)
                    case c13 => exact askw_exec (guardw_some rfl rfl (fun v W h => (show v = .bool false ∧ Play W0 B y d (m1, m2) W from h).1)) (.pointer (some ⟨B, 0, none⟩)) rfl rfl (by intro k hk; cases hk; rfl) (fun W hW => by kernel_rfl)
                    case c14 => exact askw_field (guardw_some rfl rfl (fun v W h => (show v = .bool false ∧ Play W0 B y d (m1, m2) W from h).1)) _ (.tmp 76) 2 (.pointer (some ⟨B, 0, none⟩)) (.pointer (some ⟨B, 2, none⟩)) rfl rfl (by intro k hk; cases hk; rfl) (fun W => by kernel_rfl)
                    case c15 => exact askw_load (guardw_some rfl rfl (fun v W h => (show v = .bool false ∧ Play W0 B y d (m1, m2) W from h).1)) _ (.tmp 77) (.pointer (some ⟨B, 2, none⟩)) (.pointer (some ⟨y, 0, none⟩)) rfl rfl (by intro k hk; cases hk; rfl) (fun W hW => load_rp W _ _ (hgc W hW))
                    case c16 => exact askw_exec (guardw_some rfl rfl (fun v W h => (show v = .bool false ∧ Play W0 B y d (m1, m2) W from h).1)) (.pointer (some ⟨y, 0, none⟩)) rfl rfl (by intro k hk; cases hk; rfl) (fun W hW => by kernel_rfl)
                    case c17 => exact askw_field (guardw_some rfl rfl (fun v W h => (show v = .bool false ∧ Play W0 B y d (m1, m2) W from h).1)) _ (.tmp 79) 0 (.pointer (some ⟨y, 0, none⟩)) (.pointer (some ⟨y, 0, none⟩)) rfl rfl (by intro k hk; cases hk; rfl) (fun W => by kernel_rfl)
                    case c18 => exact ask_still (guardw_some rfl rfl (fun v W h => (show v = .bool false ∧ Play W0 B y d (m1, m2) W from h).1)) (fun x W hW hk => by
                        have e1 : x 80 = .pointer (some ⟨y, 0, none⟩) := hk 80 rfl
                        have h74 : x 74 = .bool false ∧ Play W0 B y d (m1, m2) W := hk 74 rfl
                        have hl := load_hard (o := 0) (a := m1) (b := m2) h74.2.ref rfl rfl
                        exact ⟨hv (m1, m2), by simp only [execOp, evalBy, e1, Sem.run_bind, hl, Result.andThen_ok, Sem.run_pure], fun k h => by cases h; rfl⟩)
                    case c19 => exact askw_load (guardw_some rfl rfl (fun v W h => (show v = .bool false ∧ Play W0 B y d (m1, m2) W from h).1)) _ (.tmp 6) (.pointer (some ⟨b2, 0, none⟩)) (hv (m1, m2)) rfl rfl (by intro k hk; cases hk; rfl) (fun W hW => load_hard (HX2.out.keep (hgb W hW)) rfl rfl)
                    case c20 => exact askw_bin (guardw_some rfl rfl (fun v W h => (show v = .bool false ∧ Play W0 B y d (m1, m2) W from h).1)) _ _ _ _ _ _ _ _ rfl rfl rfl (by intro k hk; cases hk; rfl) (fun W => neq_self _ _ _ _ W)
                    case c21 => exact ask_still (guardw_none rfl) (fun x W hW hk => by
                        have h1 : x 74 = .bool false ∧ Play W0 B y d (m1, m2) W := hk 74 rfl
                        have h2 : x 83 = .bool false := hk 83 rfl
                        exact ⟨.bool false, by simp [execOp, evalBy, h1.1, h2, asBool], fun k h => by cases h; exact ⟨rfl, h1.2⟩⟩)
                  · intro af W10 hW hd' hs' hf'
                    have t0 : af.tmps.getD 0 undef = .slice a len cap := hf' 0 rfl
                    have t1 : af.tmps.getD 1 undef = hv (g1, g2) := hf' 1 rfl
                    have t2 : af.tmps.getD 2 undef = hv (m1, m2) := hf' 2 rfl
                    have t3 : af.tmps.getD 3 undef = .slice ka nk ck := hf' 3 rfl
                    have t4 : af.tmps.getD 4 undef = undef := hf' 4 rfl
                    have t5 : af.tmps.getD 5 undef = .pointer (some ⟨b1, 0, none⟩) := hf' 5 rfl
                    have t6 : af.tmps.getD 6 undef = .pointer (some ⟨b2, 0, none⟩) := hf' 6 rfl
                    have t7 : af.tmps.getD 7 undef = undef := hf' 7 rfl
                    have t8 : af.tmps.getD 8 undef = u8 := hf' 8 rfl
                    have t9 : af.tmps.getD 9 undef = .int .i64 (j : Int) := hf' 9 rfl
                    have t10 : af.tmps.getD 10 undef = .int .i64 (t : Int) := hf' 10 rfl
                    have t11 : af.tmps.getD 11 undef = .pointer (some ⟨B, 0, none⟩) := hf' 11 rfl
                    have t12 : af.tmps.getD 12 undef = .int .i64 (i : Int) := hf' 12 rfl
                    have t13 : af.tmps.getD 13 undef = .bool true := hf' 13 rfl
                    have t14 : af.tmps.getD 14 undef = .bool false := hf' 14 rfl
                    have t15 : af.tmps.getD 15 undef = .slice a len cap := hf' 15 rfl
                    have t16 : af.tmps.getD 16 undef = .int .i64 (len : Int) := hf' 16 rfl
                    have t17 : af.tmps.getD 17 undef = .bool (decide (6 < (len : Int))) := hf' 17 rfl
                    have t18 : af.tmps.getD 18 undef = undef := hf' 18 rfl
                    have t19 : af.tmps.getD 19 undef = undef := hf' 19 rfl
                    have t20 : af.tmps.getD 20 undef = .int .i64 (j : Int) := hf' 20 rfl
                    have t21 : af.tmps.getD 21 undef = .bool true := hf' 21 rfl
                    have t22 : af.tmps.getD 22 undef = u22 := hf' 22 rfl
                    have t23 : af.tmps.getD 23 undef = u23 := hf' 23 rfl
                    have t84 : (af.tmps.getD 84 undef) = .bool false ∧ Play W0 B y d (m1, m2) W10 := hf' 84 rfl
                    obtain ⟨us, hus, haf⟩ := act_open 106 af hs' hd'
                    rw [← hus] at t0 t1 t2 t3 t4 t5 t6 t7 t8 t9 t10 t11 t12 t13 t14 t15 t16 t17 t18 t19 t20 t21 t22 t23 t84
                    have el : ((List.range 106).map us).toArray = #[us 0, us 1, us 2, us 3, us 4, us 5, us 6, us 7, us 8, us 9, us 10, us 11, us 12, us 13, us 14, us 15, us 16, us 17, us 18, us 19, us 20, us 21, us 22, us 23, us 24, us 25, us 26, us 27, us 28, us 29, us 30, us 31, us 32, us 33, us 34, us 35, us 36, us 37, us 38, us 39, us 40, us 41, us 42, us 43, us 44, us 45, us 46, us 47, us 48, us 49, us 50, us 51, us 52, us 53, us 54, us 55, us 56, us 57, us 58, us 59, us 60, us 61, us 62, us 63, us 64, us 65, us 66, us 67, us 68, us 69, us 70, us 71, us 72, us 73, us 74, us 75, us 76, us 77, us 78, us 79, us 80, us 81, us 82, us 83, us 84, us 85, us 86, us 87, us 88, us 89, us 90, us 91, us 92, us 93, us 94, us 95, us 96, us 97, us 98, us 99, us 100, us 101, us 102, us 103, us 104, us 105] := rfl
                    rw [el] at haf
                    subst haf
                    rw [t0, t1, t2, t3, t4, t5, t6, t7, t8, t9, t10, t11, t12, t13, t14, t15, t16, t17, t18, t19, t20, t21, t22, t23]
                    have H84 := Lib.hid t84
                    have HW10 := Lib.hid hW
                    clear hus t0 t1 t2 t3 t4 t5 t6 t7 t8 t9 t10 t11 t12 t13 t14 t15 t16 t17 t18 t19 t20 t21 t22 t23 t84 el hf' hs' hd' hW hgb hgc
                    rw [H84.out.1]
                    obtain ⟨k0, k2⟩ := H84.out.2.cells
                    have HCrc := Lib.hid (play_crash H84.out.2 (t : Int) (HK.out.below H84.out.2.bel) HNk.out (by have := HNk2.out; omega))
                    go_wp2_with fail
                    clear k0 k2
                    refine HCrc.out.mono ?_
                    rintro e w12 ⟨rfl, hcr⟩
                    have HCr12 := Lib.hid hcr
                    clear hcr HCrc
                    go_upto_region 26 with fail
                    refine region_late_by 13 _ _ rfl [(92, .is (.pointer (some ⟨B, 0, none⟩))), (93, .is (.slice ka nk ck)), (94, .is (.int .i64 (t : Int))), (95, SatF (.bool true) (fun W => Play W0 B y d (m1, m2) W) hQM), (96, SatF (.bool false) (fun W => Play W0 B y d (m1, m2) W) hQM), (97, SatF (.bool false) (fun W => Play W0 B y d (m1, m2) W) hQM), (98, .is (.pointer (some ⟨B, 0, none⟩))), (99, .is (.pointer (some ⟨B, 0, none⟩))), (100, .is (.pointer (some ⟨B, 1, none⟩))), (101, (.sat (fun v W => (∃ z, v = .pointer (some ⟨z, 0, none⟩) ∧ ∀ W', Below W.heap.size W W' → Calls Try.prog 14 #[.pointer (some ⟨z, 0, none⟩)] W' fun e w' => e = .returned (hv (m1, m2)) ∧ Below W'.heap.size W' w')) (fun _ W W' h hb => by obtain ⟨z, h1, h2⟩ := h; exact ⟨z, h1, fun W'' hb2 => h2 W'' (hb.trans (hb2.mono hb.size))⟩))), (102, .is (hv (m1, m2))), (103, .is (hv (m1, m2))), (104, .is (.bool false))] [0, 1, 2, 3, 4, 5, 6, 7, 8, 9, 10, 11, 12, 13, 14, 15, 16, 17, 18, 19, 20, 21, 22, 23, 104, 97] (fun W => Crashed W0 B y d (m1, m2) W) (by kernel_rfl) (by kernel_rfl) (by kernel_rfl) (by kernel_rfl) ?_ rfl rfl rfl (by kernel_rfl) (HCr12.out.below ((Below.refl _ _).drew)) ?_ ?_
                    · intro q fq hq
                      by_cases hq4 : q = 92
                      · subst hq4
                        exact .inl (by kernel_rfl)
                      · exact .inl (lookup_all 92 (by kernel_rfl) hq hq4)
                    · refine ⟨?c0, ?c1, ?c2, ?c3, ?c4, ?c5, ?c6, ?c7, ?c8, ?c9, ?c10, ?c11, ?c12, trivial⟩
                      case c0 => exact Asked.late (ask_copy (guard_none rfl) (.tmp 11) (.inl rfl) (by intro k hk; cases hk; rfl))
                      case c1 => exact Asked.late (ask_copy (guard_none rfl) (.tmp 3) (.inl rfl) (by intro k hk; cases hk; rfl))
                      case c2 => exact Asked.late (ask_copy (guard_none rfl) (.tmp 10) (.inl rfl) (by intro k hk; cases hk; rfl))
                      case c3 => exact ask_step2 (guardw_none rfl) _ _ _ rfl (by kernel_rfl) (fun x W hW hk => by
                          have e1 : x 92 = .pointer (some ⟨B, 0, none⟩) := hk 92 rfl
                          have e2 : x 93 = .slice ka nk ck := hk 93 rfl
                          have e3 : x 94 = .int .i64 (t : Int) := hk 94 rfl
                          show Calls _ _ #[x 92, x 93, x 94] W _
                          rw [e1, e2, e3]
                          exact (crashed_open hW (t : Int) HK.out HNk.out hnk9.out).mono fun e W' h => by
                            obtain ⟨h1, h2⟩ := h
                            exact ⟨_, h1, h2.crashed, (fun k hk => by cases hk; exact ⟨rfl, h2⟩), facts_go2 ⟨fun _ => trivial, fun _ => trivial, fun _ => trivial, fun _ => satf_goes (hQ := hQM) (fun _ => h2), fun _ => satf_goes (hQ := hQM) (fun _ => h2), fun _ => satf_goes (hQ := hQM) (fun _ => h2), fun _ => trivial, fun _ => trivial, fun _ => trivial, fun h => absurd (h.symm.trans (by kernel_rfl)) (by decide : ¬ (true = false)), fun _ => trivial, fun _ => trivial, fun _ => trivial, trivial⟩⟩)
                      case c4 => exact Asked.late (ask_still (guardw_none rfl) (fun x W hW hk => by
                          have h1 : x 95 = .bool true ∧ Play W0 B y d (m1, m2) W := hk 95 rfl
                          exact ⟨.bool false, by simp [execOp, evalBy, h1.1, go_sem], fun k h => by cases h; exact ⟨rfl, h1.2⟩⟩))
                      case c5 => exact Asked.late (ask_copy (guard_none rfl) (.tmp 96) (.inl rfl) (by intro k hk; cases hk; rfl))
                      case c6 => exact Asked.late (askw_copy (guardw_some rfl rfl (fun v W h => (show v = .bool false ∧ Play W0 B y d (m1, m2) W from h).1)) (.tmp 11) (.inl rfl) (by intro k hk; cases hk; rfl))
                      case c7 => exact Asked.late (askw_exec (guardw_some rfl rfl (fun v W h => (show v = .bool false ∧ Play W0 B y d (m1, m2) W from h).1)) (.pointer (some ⟨B, 0, none⟩)) rfl rfl (by intro k hk; cases hk; rfl) (fun W hW => by kernel_rfl))
                      case c8 => exact Asked.late (askw_field (guardw_some rfl rfl (fun v W h => (show v = .bool false ∧ Play W0 B y d (m1, m2) W from h).1)) _ (.tmp 99) 1 (.pointer (some ⟨B, 0, none⟩)) (.pointer (some ⟨B, 1, none⟩)) rfl rfl (by intro k hk; cases hk; rfl) (fun W => by kernel_rfl))
                      case c9 => exact Asked.late (ask_still (guardw_some rfl rfl (fun v W h => (show v = .bool false ∧ Play W0 B y d (m1, m2) W from h).1)) (fun x W hW hk => by
                          have e1 : x 100 = .pointer (some ⟨B, 1, none⟩) := hk 100 rfl
                          have h97 : x 97 = .bool false ∧ Play W0 B y d (m1, m2) W := hk 97 rfl
                          obtain ⟨z, hz, hg1⟩ := h97.2.get1
                          have hl := load_cp W ⟨B, 1, none⟩ _ hz
                          exact ⟨.pointer (some ⟨z, 0, none⟩), by simp only [execOp, evalBy, e1, Sem.run_bind, hl, Result.andThen_ok, Sem.run_pure], fun k h => by cases h; exact ⟨z, rfl, hg1⟩⟩))
                      case c10 => exact Asked.late (ask_step (guardw_some rfl rfl (fun v W h => (show v = .bool false ∧ Play W0 B y d (m1, m2) W from h).1)) _ _ _ rfl (by kernel_rfl) (fun x W hW hk => by
                          have h1 : (∃ z, x 101 = .pointer (some ⟨z, 0, none⟩) ∧ ∀ W', Below W.heap.size W W' → Calls Try.prog 14 #[.pointer (some ⟨z, 0, none⟩)] W' fun e w' => e = .returned (hv (m1, m2)) ∧ Below W'.heap.size W' w') := hk 101 rfl
                          obtain ⟨z, e1, hc⟩ := h1
                          show Calls _ _ #[x 101] W _
                          rw [e1]
                          exact (hc W (Below.refl _ _)).mono fun e W' h => by
                            obtain ⟨h1, h2⟩ := h
                            exact ⟨_, h1, hW.below h2, (fun k hk => by cases hk; rfl), facts_go ⟨trivial, trivial, trivial, satf_goes (hQ := hQM) (fun h => h.below h2), satf_goes (hQ := hQM) (fun h => h.below h2), satf_goes (hQ := hQM) (fun h => h.below h2), trivial, trivial, trivial, (fun v hv => by obtain ⟨z, h3, h4⟩ := hv; exact ⟨z, h3, fun W'' hb2 => h4 W'' (h2.trans (hb2.mono h2.size))⟩), trivial, trivial, trivial, trivial⟩⟩))
                      case c11 => exact Asked.late (askw_load (guardw_some rfl rfl (fun v W h => (show v = .bool false ∧ Play W0 B y d (m1, m2) W from h).1)) _ (.tmp 6) (.pointer (some ⟨b2, 0, none⟩)) (hv (m1, m2)) rfl rfl (by intro k hk; cases hk; rfl) (fun W hW => load_hard (HX2.out.keep hW.bel) rfl rfl))
                      case c12 => exact Asked.late (askw_bin (guardw_some rfl rfl (fun v W h => (show v = .bool false ∧ Play W0 B y d (m1, m2) W from h).1)) _ _ _ _ _ _ _ _ rfl rfl rfl (by intro k hk; cases hk; rfl) (fun W => neq_self _ _ _ _ W))
                    · intro af W13 hW hd' hs' hf'
                      have t0 : af.tmps.getD 0 undef = .slice a len cap := hf' 0 rfl
                      have t1 : af.tmps.getD 1 undef = hv (g1, g2) := hf' 1 rfl
                      have t2 : af.tmps.getD 2 undef = hv (m1, m2) := hf' 2 rfl
                      have t3 : af.tmps.getD 3 undef = .slice ka nk ck := hf' 3 rfl
                      have t4 : af.tmps.getD 4 undef = undef := hf' 4 rfl
                      have t5 : af.tmps.getD 5 undef = .pointer (some ⟨b1, 0, none⟩) := hf' 5 rfl
                      have t6 : af.tmps.getD 6 undef = .pointer (some ⟨b2, 0, none⟩) := hf' 6 rfl
                      have t7 : af.tmps.getD 7 undef = undef := hf' 7 rfl
                      have t8 : af.tmps.getD 8 undef = u8 := hf' 8 rfl
                      have t9 : af.tmps.getD 9 undef = .int .i64 (j : Int) := hf' 9 rfl
                      have t10 : af.tmps.getD 10 undef = .int .i64 (t : Int) := hf' 10 rfl
                      have t11 : af.tmps.getD 11 undef = .pointer (some ⟨B, 0, none⟩) := hf' 11 rfl
                      have t12 : af.tmps.getD 12 undef = .int .i64 (i : Int) := hf' 12 rfl
                      have t13 : af.tmps.getD 13 undef = .bool true := hf' 13 rfl
                      have t14 : af.tmps.getD 14 undef = .bool false := hf' 14 rfl
                      have t15 : af.tmps.getD 15 undef = .slice a len cap := hf' 15 rfl
                      have t16 : af.tmps.getD 16 undef = .int .i64 (len : Int) := hf' 16 rfl
                      have t17 : af.tmps.getD 17 undef = .bool (decide (6 < (len : Int))) := hf' 17 rfl
                      have t18 : af.tmps.getD 18 undef = undef := hf' 18 rfl
                      have t19 : af.tmps.getD 19 undef = undef := hf' 19 rfl
                      have t20 : af.tmps.getD 20 undef = .int .i64 (j : Int) := hf' 20 rfl
                      have t21 : af.tmps.getD 21 undef = .bool true := hf' 21 rfl
                      have t22 : af.tmps.getD 22 undef = u22 := hf' 22 rfl
                      have t23 : af.tmps.getD 23 undef = u23 := hf' 23 rfl
                      have t104 : af.tmps.getD 104 undef = .bool false := hf' 104 rfl
                      have t97 : (af.tmps.getD 97 undef) = .bool false ∧ Play W0 B y d (m1, m2) W13 := hf' 97 rfl
                      obtain ⟨us, hus, haf⟩ := act_open 106 af hs' hd'
                      rw [← hus] at t0 t1 t2 t3 t4 t5 t6 t7 t8 t9 t10 t11 t12 t13 t14 t15 t16 t17 t18 t19 t20 t21 t22 t23 t104 t97
                      have el : ((List.range 106).map us).toArray = #[us 0, us 1, us 2, us 3, us 4, us 5, us 6, us 7, us 8, us 9, us 10, us 11, us 12, us 13, us 14, us 15, us 16, us 17, us 18, us 19, us 20, us 21, us 22, us 23, us 24, us 25, us 26, us 27, us 28, us 29, us 30, us 31, us 32, us 33, us 34, us 35, us 36, us 37, us 38, us 39, us 40, us 41, us 42, us 43, us 44, us 45, us 46, us 47, us 48, us 49, us 50, us 51, us 52, us 53, us 54, us 55, us 56, us 57, us 58, us 59, us 60, us 61, us 62, us 63, us 64, us 65, us 66, us 67, us 68, us 69, us 70, us 71, us 72, us 73, us 74, us 75, us 76, us 77, us 78, us 79, us 80, us 81, us 82, us 83, us 84, us 85, us 86, us 87, us 88, us 89, us 90, us 91, us 92, us 93, us 94, us 95, us 96, us 97, us 98, us 99, us 100, us 101, us 102, us 103, us 104, us 105] := rfl
                      rw [el] at haf
                      subst haf
                      rw [t0, t1, t2, t3, t4, t5, t6, t7, t8, t9, t10, t11, t12, t13, t14, t15, t16, t17, t18, t19, t20, t21, t22, t23, t104]
                      have H105 := Lib.hid t97
                      clear hus t0 t1 t2 t3 t4 t5 t6 t7 t8 t9 t10 t11 t12 t13 t14 t15 t16 t17 t18 t19 t20 t21 t22 t23 t104 t97 el hf' hs' hd' hW
                      rw [H105.out.1]
                      have HBn := Lib.hid H105.out.2.bel
                      clear hQA hQM hlt
                      go_wp2
                      go_roundw
                      case rel => exact ⟨t + 1, by omega, by go_num, HBn⟩
                      case measure => simp [intOf]; omega
          · have t1 : ¬ (t : Int) < 70 := by omega
            go_wp2
            go_roundw
            case rel => exact ⟨j + 1, by omega, by go_num, HBt⟩
            case measure => simp [intOf]; omega
      · have j1 : ¬ (j : Int) < 5 := by omega
        have HBf := Lib.hid (HFin.out wr HBj.out)
        go_wp2
        go_ret
        exact ⟨rfl, HBf.out⟩

theorem cellAll_all (w : World) (a : Option Addr) (len cap : Nat) (L : List Hd) (hl : L.length = len) (hs : Hls w a L) (hlc : len ≤ cap ∧ cap ≤ 9223372036854775807) (g : Hd) (hg : okH g) (m : Hd) (hm : okH m)
    (ka : Option Addr) (nk ck : Nat) (ks : List Bool) (hnk : ks.length = nk) (hk : Bls w (.slice ka nk ck) ks) (hkn : ka = none → ck = 0) (hnk2 : nk ≤ 140737488351232) :
    Calls Try.prog 3 #[.slice a len cap, .agg (hc g), .agg (hc m), .slice ka nk ck] w fun e w' => e = .returned (.bool true) ∧ Below w.heap.size w w' :=
  cellAll_any hl hs hlc.1 hlc.2 hg hm hk hnk hkn hnk2
end Go.Proofs.Ytejmmjlmnfnacaa
