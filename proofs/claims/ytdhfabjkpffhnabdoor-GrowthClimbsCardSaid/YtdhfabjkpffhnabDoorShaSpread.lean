/- The words of a block: the program's. -/
import Derived.Test.YtdhfabjkpffhnabDoorArr
import Derived.Deep.DeepCutAuto
import Derived.StillTailTactics
import Derived.BigQuiet
namespace Go.Proofs.YtdhfabjkpffhnabDoor
set_option maxRecDepth 20000
open Go.RowKit ShaMath

theorem u8_bd (c : UInt8) : 0 ≤ (c.toNat : Int) ∧ (c.toNat : Int) ≤ 255 := by
  have := c.toNat_lt
  omega
theorem rv_zx (c : UInt8) : (c.toNat : Int) = rv (zx c) := by
  have := c.toNat_lt
  unfold rv zx
  rw [BitVec.toNat_ofNat]
  omega

def FeedAt (w : World) (b : List UInt8) (s12 : Value) (wr : World) : Prop :=
  ∃ i : Nat, i ≤ 64 ∧ s12 = .int .i64 i ∧ Blk wr (w.heap.size + 1 + 1) 76 (us (fed b i)) ∧ Blk wr (w.heap.size + 1) 76 (us zeros64) ∧ Below w.heap.size w wr

def GrowAt (w : World) (b : List UInt8) (s6 : Value) (wr : World) : Prop :=
  ∃ n t : Nat, t = 16 + n ∧ n ≤ 48 ∧ s6 = .int .i64 (t : Int) ∧ Blk wr (w.heap.size + 1 + 1) 76 (us (grown (laid b 16) n)) ∧ Blk wr (w.heap.size + 1) 76 (us zeros64) ∧ Below w.heap.size w wr

set_option maxRecDepth 100000 in
theorem spread_any (b : List UInt8) (w : World) (hb : b.length = 64) :
    Calls Tryd.prog 64 #[.agg (bs b)] w fun e w' => e = .returned (.agg (us (words b))) ∧ Below w.heap.size w w' := by
  have HB := Lib.hid hb
  clear hb
  go_enter Tryd.func64, Tryd.ntmps64
  go_upto_region 2 with fail
  refine world_cut (fun W => Blk W w.heap.size 64 (bs b) ∧ Blk W (w.heap.size + 1) 76 (us zeros64) ∧ Blk W (w.heap.size + 1 + 1) 76 (us zeros64) ∧ Below w.heap.size w W) ?_ ?_
  · refine ⟨((Blk.new _ _ _).alloc _).alloc _, ?_, ?_, ((((Below.refl _ _).alloc (Nat.le_refl _) _).alloc (by simp) _).alloc (by simp; omega) _)⟩
    · exact (Blk.newAt _ _ _ _ _ (by simp) (by kernel_rfl)).alloc _
    · exact Blk.newAt _ _ _ _ _ (by simp) (by kernel_rfl)
  rintro W ⟨h1, h2, h3, h4⟩
  have H1 := Lib.hid h1
  have hsz : (Tryd.prog.info? 64).map (·.size) = some (bs b).size := by rw [bs_size, HB.out]; kernel_rfl
  have HS := Lib.hid hsz
  have H2 := Lib.hid h2
  have H3 := Lib.hid h3
  have H4 := Lib.hid h4
  clear h1 h2 h3 h4 hsz
  go_wp2_with (refine wpList_load_row rfl 64 (.tmp 1) rfl w.heap.size rfl _ _ _ _ H1.out Tryd.underlying64 rfl HS.out ?_)
  go_loopw [12] (fun s12 wr => FeedAt w b s12 wr) (fun s12 _ => 64 - (intOf s12).toNat)
  case atStart => exact ⟨0, by omega, rfl, H3.out, H2.out, H4.out⟩
  case round =>
    obtain ⟨i, hi, rfl, hw, hz, hbel⟩ := hrel
    by_cases hlt : i < 64
    · have hl := fed_length b i
      have hc := hw.cell (i / 4)
      rw [us_at _ _ (by rw [hl]; omega), ru] at hc
      have hf := hw.frozen (i / 4)
      obtain ⟨x, hx⟩ : ∃ x, x = at0 (fed b i) (i / 4) := ⟨_, rfl⟩
      obtain ⟨y, hy⟩ : ∃ y, y = x <<< 8 := ⟨_, rfl⟩
      obtain ⟨c, hcc⟩ : ∃ c, c = b.getD i 0 := ⟨_, rfl⟩
      obtain ⟨z, hzz⟩ : ∃ z, z = y ||| zx c := ⟨_, rfl⟩
      obtain ⟨k, hk⟩ : ∃ k : Nat, k = c.toNat := ⟨_, rfl⟩
      have k1 : (k : Int) ≤ 255 := by rw [hk]; exact (u8_bd c).2
      have f1 : rv x * 256 % 4294967296 = rv y := by rw [hy]; exact rv_shl_lit x 8 256 (by decide)
      have f2 : bits .or .u32 (rv y) (k : Int) = rv z := by rw [hk, rv_zx, rv_or, hzz]
      have hix : ∀ W, (Instr.index 64 (.agg (bs b)) (.int .i64 (i : Int))).run Tryd.prog W = .ok (.int .u8 (k : Int)) W := fun W => by
        rw [index_bytes W _ _ 64 b i Tryd.underlying64 Tryd.underlying5 (by kernel_rfl) (by rw [HB.out]; exact hlt) hlt, ← hcc, hk]
        rfl
      have hset := hw.set (i / 4) (ru z)
      rw [us_set] at hset
      have hfe : (fed b i).set (i / 4) z = fed b (i + 1) := by rw [fed, feed, ← hx, ← hcc, hzz, hy]
      rw [hfe, ru] at hset
      have hot := hz.other ⟨w.heap.size + 1 + 1, i / 4, none⟩ (ru z) (by simp)
      rw [ru] at hot
      have hbe := hbel.setCell (p := ⟨w.heap.size + 1 + 1, i / 4, none⟩) (by simp; omega) (ru z)
      rw [ru] at hbe
      rw [← hx] at hc
      have HSet := Lib.hid hset
      have HOt := Lib.hid hot
      have HBe := Lib.hid hbe
      clear hw hz hbel hl hx hy hcc hzz hk hset hfe hot hbe
      go_wp2
      go_roundw
      case rel => exact ⟨i + 1, by omega, by go_num, HSet.out, HOt.out, HBe.out⟩
      case measure => simp [intOf]; omega
    · have hi64 : i = 64 := by omega
      have hw' := hw
      rw [hi64] at hw'
      have HW := Lib.hid hw'
      have HZ := Lib.hid hz
      have HBel := Lib.hid hbel
      clear hw hw' hz hbel hi hi64
      go_wp2
      clear hlt
      obtain ⟨wo, rfl⟩ : ∃ wo : World, wo = wr := ⟨_, rfl⟩
      go_loopw [6] (fun s6 wr => GrowAt w b s6 wr) (fun s6 _ => 64 - (intOf s6).toNat)
      case atStart => exact ⟨0, 16, rfl, by omega, rfl, by rw [← fed_laid b 16 (by omega)] at *; exact HW.out, HZ.out, HBel.out⟩
      case round =>
        obtain ⟨n, t, ht, hn, rfl, hw, hz, hbel⟩ := hrel
        have HT := Lib.hid ht
        by_cases hlt : t < 64
        · have h16 : 16 ≤ t := by omega
          have hl : (grown (laid b 16) n).length = 64 := by rw [grown_length, laid_length]
          obtain ⟨L, hL⟩ : ∃ L, L = grown (laid b 16) n := ⟨_, rfl⟩
          rw [← hL] at hw hl
          have c2 := hw.cell (t - 2)
          have c7 := hw.cell (t - 7)
          have c15 := hw.cell (t - 15)
          have c16 := hw.cell (t - 16)
          rw [us_at _ _ (by rw [hl]; omega), ru] at c2 c7 c15 c16
          have hf := hw.frozen t
          have ct := hw.cell t
          rw [us_at _ _ (by rw [hl]; omega), ru] at ct
          obtain ⟨x, hx⟩ : ∃ x, x = at0 L (t - 15) := ⟨_, rfl⟩
          obtain ⟨y, hy⟩ : ∃ x, x = at0 L (t - 2) := ⟨_, rfl⟩
          obtain ⟨x7, hx7⟩ : ∃ x, x = at0 L (t - 7) := ⟨_, rfl⟩
          obtain ⟨x16, hx16⟩ : ∃ x, x = at0 L (t - 16) := ⟨_, rfl⟩
          rw [← hx] at c15
          rw [← hy] at c2
          rw [← hx7] at c7
          rw [← hx16] at c16
          have HL := Lib.hid hL
          have HWr := Lib.hid hw
          have HZr := Lib.hid hz
          have HBr := Lib.hid hbel
          have HLen := Lib.hid hl
          have HX := Lib.hid (And.intro hx (And.intro hy (And.intro hx7 hx16)))
          have b0 := (rv_bd x).1
          have b1 := (rv_bd x).2
          have b2 := (rv_bd y).1
          have b3 := (rv_bd y).2
          clear hL hw hz hbel hl ht hx hy hx7 hx16
          obtain ⟨r7, hr7⟩ : ∃ r, r = ror x 7 := ⟨_, rfl⟩
          obtain ⟨r18, hr18⟩ : ∃ r, r = ror x 18 := ⟨_, rfl⟩
          obtain ⟨r17, hr17⟩ : ∃ r, r = ror y 17 := ⟨_, rfl⟩
          obtain ⟨r19, hr19⟩ : ∃ r, r = ror y 19 := ⟨_, rfl⟩
          obtain ⟨xa, hxa⟩ : ∃ r, r = r7 ^^^ r18 := ⟨_, rfl⟩
          obtain ⟨x3, hx3⟩ : ∃ r, r = x >>> 3 := ⟨_, rfl⟩
          obtain ⟨sx, hsx⟩ : ∃ r, r = xa ^^^ x3 := ⟨_, rfl⟩
          obtain ⟨ya, hya⟩ : ∃ r, r = r17 ^^^ r19 := ⟨_, rfl⟩
          obtain ⟨y10, hy10⟩ : ∃ r, r = y >>> 10 := ⟨_, rfl⟩
          obtain ⟨sy, hsy⟩ : ∃ r, r = ya ^^^ y10 := ⟨_, rfl⟩
          have q7 : Hid (∀ W, Calls Tryd.prog 65 #[.int .u32 (rv x), .int .u64 7] W fun e w' => e = .returned (.int .u32 (rv r7)) ∧ W = w') := Lib.hid fun W => by rw [hr7]; exact right_any x 7 W (by omega) (by omega)
          have q18 : Hid (∀ W, Calls Tryd.prog 65 #[.int .u32 (rv x), .int .u64 18] W fun e w' => e = .returned (.int .u32 (rv r18)) ∧ W = w') := Lib.hid fun W => by rw [hr18]; exact right_any x 18 W (by omega) (by omega)
          have q17 : Hid (∀ W, Calls Tryd.prog 65 #[.int .u32 (rv y), .int .u64 17] W fun e w' => e = .returned (.int .u32 (rv r17)) ∧ W = w') := Lib.hid fun W => by rw [hr17]; exact right_any y 17 W (by omega) (by omega)
          have q19 : Hid (∀ W, Calls Tryd.prog 65 #[.int .u32 (rv y), .int .u64 19] W fun e w' => e = .returned (.int .u32 (rv r19)) ∧ W = w') := Lib.hid fun W => by rw [hr19]; exact right_any y 19 W (by omega) (by omega)
          have g1 : bits .xor .u32 (rv r7) (rv r18) = rv xa := by rw [rv_xor, hxa]
          have g2 : rv x / 8 = rv x3 := by rw [hx3]; exact rv_shr_lit x 3 8 (by decide)
          have g3 : bits .xor .u32 (rv xa) (rv x3) = rv sx := by rw [rv_xor, hsx]
          have g4 : bits .xor .u32 (rv r17) (rv r19) = rv ya := by rw [rv_xor, hya]
          have g5 : rv y / 1024 = rv y10 := by rw [hy10]; exact rv_shr_lit y 10 1024 (by decide)
          have g6 : bits .xor .u32 (rv ya) (rv y10) = rv sy := by rw [rv_xor, hsy]
          obtain ⟨z1, hz1⟩ : ∃ r, r = sy + x7 := ⟨_, rfl⟩
          obtain ⟨z2, hz2⟩ : ∃ r, r = z1 + sx := ⟨_, rfl⟩
          obtain ⟨z, hz⟩ : ∃ r, r = z2 + x16 := ⟨_, rfl⟩
          have e1 : (rv sy + rv x7) % 4294967296 = rv z1 := by rw [rv_add_mod, hz1]
          have e2 : (rv z1 + rv sx) % 4294967296 = rv z2 := by rw [rv_add_mod, hz2]
          have e3 : (rv z2 + rv x16) % 4294967296 = rv z := by rw [rv_add_mod, hz]
          have e1' : IntKind.u32.wrap (rv sy + rv x7) = rv z1 := by rw [rv_add, hz1]
          have e2' : IntKind.u32.wrap (rv z1 + rv sx) = rv z2 := by rw [rv_add, hz2]
          have e3' : IntKind.u32.wrap (rv z2 + rv x16) = rv z := by rw [rv_add, hz]
          have HZZ : Hid (z = nextW L t) := Lib.hid (by rw [hz, hz2, hz1, hsy, hsx, hxa, hya, hx3, hy10, hr7, hr18, hr17, hr19, nextW, HX.out.1, HX.out.2.1, HX.out.2.2.1, HX.out.2.2.2]; rfl)
          clear hr7 hr18 hr17 hr19 hxa hx3 hsx hya hy10 hsy hz1 hz2 hz
          have i1 : (0 : Int) ≤ (t : Int) - 15 := by omega
          have i2 : (t : Int) - 15 < 64 := by omega
          have i3 : (0 : Int) ≤ (t : Int) - 2 := by omega
          have i4 : (t : Int) - 2 < 64 := by omega
          have i5 : (0 : Int) ≤ (t : Int) - 7 := by omega
          have i6 : (t : Int) - 7 < 64 := by omega
          have i7 : (0 : Int) ≤ (t : Int) - 16 := by omega
          have i8 : (t : Int) - 16 < 64 := by omega
          go_wp2_with fail
          go_quiet (fail)
          go_wp2_with ((with_reducible first | refine (q7.out _).mono ?_ | refine (q18.out _).mono ?_ | refine (q17.out _).mono ?_ | refine (q19.out _).mono ?_); rintro e w' ⟨rfl, rfl⟩)
          refine region_tail 15 (by kernel_rfl) (by kernel_rfl) (fun W => W.cell? ⟨w.heap.size + 1 + 1, t - 7, none⟩ = some (.int .u32 (rv x7)) ∧ W.cell? ⟨w.heap.size + 1 + 1, t - 16, none⟩ = some (.int .u32 (rv x16)) ∧ W.cell? ⟨w.heap.size + 1 + 1, t, none⟩ = some (.int .u32 (rv (at0 L t))) ∧ W.frozen? ⟨w.heap.size + 1 + 1, t, none⟩ = false ∧ Blk W (w.heap.size + 1 + 1) 76 (us L) ∧ Blk W (w.heap.size + 1) 76 (us zeros64) ∧ Below w.heap.size w W) ?_ ?_
          · exact ⟨by simpa using c7, by simpa using c16, by simpa using ct, by simpa using hf, HWr.out, HZr.out, ⟨HBr.out.os, HBr.out.tape, HBr.out.output, HBr.out.size, HBr.out.block⟩⟩
          rintro W2 ⟨d7, d16, dt, df, hw2, hz2, hb2⟩
          have HW2 := Lib.hid hw2
          have HZ2 := Lib.hid hz2
          have HB2 := Lib.hid hb2
          clear hw2 hz2 hb2 c7 c16 c2 c15 ct hf
          simp only [List.take_succ_cons, List.take_zero, List.drop_succ_cons, List.drop_zero]
          repeat (first | go_big_quiet_skip | (go_big_quiet_want; go_big_quiet_op; go_big_quiet_on))
          refine wpQuiet_nil ?_
          go_wp2
          go_roundw
          case rel =>
            have hset := HW2.out.set t (ru z)
            rw [us_set] at hset
            have hfe : L.set t z = grown (laid b 16) (n + 1) := by rw [HZZ.out, grown, ← HL.out, ← HT.out]
            rw [hfe] at hset
            exact ⟨n + 1, t + 1, by have := HT.out; omega, by have := HT.out; omega, by go_num, hset, HZ2.out.other _ _ (by simp), HB2.out.setCell (by simp; omega) _⟩
          case measure => simp [intOf]; omega
        · have h48 : n = 48 := by omega
          rw [h48] at hw
          have hl : (us (grown (laid b 16) 48)).size = 64 := by rw [us_size, grown_length, laid_length]
          have hz64 : (us zeros64).size = 64 := by kernel_rfl
          have hone := us_one (grown (laid b 16) 48)
          obtain ⟨cs, hcs⟩ : ∃ cs, cs = us (grown (laid b 16) 48) := ⟨_, rfl⟩
          obtain ⟨zs, hzs⟩ : ∃ cs, cs = us zeros64 := ⟨_, rfl⟩
          rw [← hcs] at hw hl hone
          rw [← hzs] at hz hz64
          have HW2 := Lib.hid hw
          have HZ2 := Lib.hid hz
          have HB2 := Lib.hid hbel
          have hsz : (Tryd.prog.info? 76).map (·.size) = some cs.size := by rw [hl]; kernel_rfl
          have HSZ := Lib.hid hsz
          have HSZ2 := Lib.hid (hz64.trans hl.symm)
          have HONE := Lib.hid hone
          have HCS := Lib.hid hcs
          clear hw hz hbel hl hz64 hsz hone hcs hzs ht hn h48
          go_wp2_with (first
            | (refine wpList_load_row rfl 76 (.tmp 3) rfl (w.heap.size + 1 + 1) rfl _ _ _ _ HW2.out Tryd.underlying76 rfl HSZ.out ?_)
            | (refine wpList_store_row rfl 76 (.tmp 2) (.tmp 71) rfl (w.heap.size + 1) _ rfl rfl _ _ HZ2.out HSZ.out HSZ2.out HONE.out ?_))
          refine bodyPost_ret (v := .agg cs) (results_cell_row rfl _ _ (w.heap.size + 1) _ cs _ _ rfl (HZ2.out.row cs) Tryd.underlying76 rfl HSZ.out) rfl ⟨?_, below_setRow HB2.out _ _ (by omega)⟩
          rw [HCS.out]
          rfl
end Go.Proofs.YtdhfabjkpffhnabDoor
