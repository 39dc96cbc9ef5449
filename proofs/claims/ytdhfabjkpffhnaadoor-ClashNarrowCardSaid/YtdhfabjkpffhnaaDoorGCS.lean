/- Joined: ShaSpread, ShaStir, ShaChain, ShaWrite, ShaEnding, ShaSum, ShaTabs. -/
import Derived.Test.YtdhfabjkpffhnaaDoorArr
import Derived.Deep.DeepCutAuto
import Derived.StillTailTactics
import Derived.BigQuiet
import Derived.Test.YtdhfabjkpffhnaaDoorArmsC
import Derived.Test.YtdhfabjkpffhnaaDoorShaGood
import Derived.Test.YtdhfabjkpffhnaaDoorShaMath
/- The words of a block: the program's. -/
namespace Go.Proofs.YtdhfabjkpffhnaaDoor
set_option maxRecDepth 20000
open Go.RowKit ShaMath

theorem u8_bd (c : UInt8) : 0 ≤ (c.toNat : Int) ∧ (c.toNat : Int) ≤ 255 := by
  have := c.toNat_lt
  omega
theorem rv_zx (c : UInt8) : (c.toNat : Int) = rv (zx c) := by
  have := c.toNat_lt
  unfold rv zx
  rw [BitVec.toNat_ofNat]
  omega

def FeedAt (w : World) (b : List UInt8) (s12 : Value) (wr : World) : Prop :=
  ∃ i : Nat, i ≤ 64 ∧ s12 = .int .i64 i ∧ Blk wr (w.heap.size + 1 + 1) 124 (us (fed b i)) ∧ Blk wr (w.heap.size + 1) 124 (us zeros64) ∧ Below w.heap.size w wr

def GrowAt (w : World) (b : List UInt8) (s6 : Value) (wr : World) : Prop :=
  ∃ n t : Nat, t = 16 + n ∧ n ≤ 48 ∧ s6 = .int .i64 (t : Int) ∧ Blk wr (w.heap.size + 1 + 1) 124 (us (grown (laid b 16) n)) ∧ Blk wr (w.heap.size + 1) 124 (us zeros64) ∧ Below w.heap.size w wr

set_option maxRecDepth 100000 in
theorem spread_any (b : List UInt8) (w : World) (hb : b.length = 64) :
    Calls Tryd.prog 102 #[.agg (bs b)] w fun e w' => e = .returned (.agg (us (words b))) ∧ Below w.heap.size w w' := by
  have HB := Lib.hid hb
  clear hb
  go_enter Tryd.func102, Tryd.ntmps102
  go_upto_region 2 with fail
  refine world_cut (fun W => Blk W w.heap.size 94 (bs b) ∧ Blk W (w.heap.size + 1) 124 (us zeros64) ∧ Blk W (w.heap.size + 1 + 1) 124 (us zeros64) ∧ Below w.heap.size w W) ?_ ?_
  · refine ⟨((Blk.new _ _ _).alloc _).alloc _, ?_, ?_, ((((Below.refl _ _).alloc (Nat.le_refl _) _).alloc (by simp) _).alloc (by simp; omega) _)⟩
    · exact (Blk.newAt _ _ _ _ _ (by simp) (by kernel_rfl)).alloc _
    · exact Blk.newAt _ _ _ _ _ (by simp) (by kernel_rfl)
  rintro W ⟨h1, h2, h3, h4⟩
  have H1 := Lib.hid h1
  have hsz : (Tryd.prog.info? 94).map (·.size) = some (bs b).size := by rw [bs_size, HB.out]; kernel_rfl
  have HS := Lib.hid hsz
  have H2 := Lib.hid h2
  have H3 := Lib.hid h3
  have H4 := Lib.hid h4
  clear h1 h2 h3 h4 hsz
  go_wp2_with (refine wpList_load_row rfl 94 (.tmp 1) rfl w.heap.size rfl _ _ _ _ H1.out Tryd.underlying94 rfl HS.out ?_)
  go_loopw [12] (fun s12 wr => FeedAt w b s12 wr) (fun s12 _ => 64 - (intOf s12).toNat)
  case atStart => exact ⟨0, by omega, rfl, H3.out, H2.out, H4.out⟩
  case round =>
    obtain ⟨i, hi, rfl, hw, hz, hbel⟩ := hrel
    by_cases hlt : i < 64
    · have hl := fed_length b i
      have hc := hw.cell (i / 4)
      rw [us_at _ _ (by rw [hl]; omega), ru] at hc
      have hf := hw.frozen (i / 4)
      obtain ⟨x, hx⟩ : ∃ x, x = at0 (fed b i) (i / 4) := ⟨_, rfl⟩
      obtain ⟨y, hy⟩ : ∃ y, y = x <<< 8 := ⟨_, rfl⟩
      obtain ⟨c, hcc⟩ : ∃ c, c = b.getD i 0 := ⟨_, rfl⟩
      obtain ⟨z, hzz⟩ : ∃ z, z = y ||| zx c := ⟨_, rfl⟩
      obtain ⟨k, hk⟩ : ∃ k : Nat, k = c.toNat := ⟨_, rfl⟩
      have k1 : (k : Int) ≤ 255 := by rw [hk]; exact (u8_bd c).2
      have f1 : rv x * 256 % 4294967296 = rv y := by rw [hy]; exact rv_shl_lit x 8 256 (by decide)
      have f2 : bits .or .u32 (rv y) (k : Int) = rv z := by rw [hk, rv_zx, rv_or, hzz]
      have hix : ∀ W, (Instr.index 94 (.agg (bs b)) (.int .i64 (i : Int))).run Tryd.prog W = .ok (.int .u8 (k : Int)) W := fun W => by
        rw [index_bytes W _ _ 64 b i Tryd.underlying94 Tryd.underlying5 (by kernel_rfl) (by rw [HB.out]; exact hlt) hlt, ← hcc, hk]
        rfl
      have hset := hw.set (i / 4) (ru z)
      rw [us_set] at hset
      have hfe : (fed b i).set (i / 4) z = fed b (i + 1) := by rw [fed, feed, ← hx, ← hcc, hzz, hy]
      rw [hfe, ru] at hset
      have hot := hz.other ⟨w.heap.size + 1 + 1, i / 4, none⟩ (ru z) (by simp)
      rw [ru] at hot
      have hbe := hbel.setCell (p := ⟨w.heap.size + 1 + 1, i / 4, none⟩) (by simp; omega) (ru z)
      rw [ru] at hbe
      rw [← hx] at hc
      have HSet := Lib.hid hset
      have HOt := Lib.hid hot
      have HBe := Lib.hid hbe
      clear hw hz hbel hl hx hy hcc hzz hk hset hfe hot hbe
      go_wp2
      go_roundw
      case rel => exact ⟨i + 1, by omega, by go_num, HSet.out, HOt.out, HBe.out⟩
      case measure => simp [intOf]; omega
    · have hi64 : i = 64 := by omega
      have hw' := hw
      rw [hi64] at hw'
      have HW := Lib.hid hw'
      have HZ := Lib.hid hz
      have HBel := Lib.hid hbel
      clear hw hw' hz hbel hi hi64
      go_wp2
      clear hlt
      obtain ⟨wo, rfl⟩ : ∃ wo : World, wo = wr := ⟨_, rfl⟩
      go_loopw [6] (fun s6 wr => GrowAt w b s6 wr) (fun s6 _ => 64 - (intOf s6).toNat)
      case atStart => exact ⟨0, 16, rfl, by omega, rfl, by rw [← fed_laid b 16 (by omega)] at *; exact HW.out, HZ.out, HBel.out⟩
      case round =>
        obtain ⟨n, t, ht, hn, rfl, hw, hz, hbel⟩ := hrel
        have HT := Lib.hid ht
        by_cases hlt : t < 64
        · have h16 : 16 ≤ t := by omega
          have hl : (grown (laid b 16) n).length = 64 := by rw [grown_length, laid_length]
          obtain ⟨L, hL⟩ : ∃ L, L = grown (laid b 16) n := ⟨_, rfl⟩
          rw [← hL] at hw hl
          have c2 := hw.cell (t - 2)
          have c7 := hw.cell (t - 7)
          have c15 := hw.cell (t - 15)
          have c16 := hw.cell (t - 16)
          rw [us_at _ _ (by rw [hl]; omega), ru] at c2 c7 c15 c16
          have hf := hw.frozen t
          have ct := hw.cell t
          rw [us_at _ _ (by rw [hl]; omega), ru] at ct
          obtain ⟨x, hx⟩ : ∃ x, x = at0 L (t - 15) := ⟨_, rfl⟩
          obtain ⟨y, hy⟩ : ∃ x, x = at0 L (t - 2) := ⟨_, rfl⟩
          obtain ⟨x7, hx7⟩ : ∃ x, x = at0 L (t - 7) := ⟨_, rfl⟩
          obtain ⟨x16, hx16⟩ : ∃ x, x = at0 L (t - 16) := ⟨_, rfl⟩
          rw [← hx] at c15
          rw [← hy] at c2
          rw [← hx7] at c7
          rw [← hx16] at c16
          have HL := Lib.hid hL
          have HWr := Lib.hid hw
          have HZr := Lib.hid hz
          have HBr := Lib.hid hbel
          have HLen := Lib.hid hl
          have HX := Lib.hid (And.intro hx (And.intro hy (And.intro hx7 hx16)))
          have b0 := (rv_bd x).1
          have b1 := (rv_bd x).2
          have b2 := (rv_bd y).1
          have b3 := (rv_bd y).2
          clear hL hw hz hbel hl ht hx hy hx7 hx16
          obtain ⟨r7, hr7⟩ : ∃ r, r = ror x 7 := ⟨_, rfl⟩
          obtain ⟨r18, hr18⟩ : ∃ r, r = ror x 18 := ⟨_, rfl⟩
          obtain ⟨r17, hr17⟩ : ∃ r, r = ror y 17 := ⟨_, rfl⟩
          obtain ⟨r19, hr19⟩ : ∃ r, r = ror y 19 := ⟨_, rfl⟩
          obtain ⟨xa, hxa⟩ : ∃ r, r = r7 ^^^ r18 := ⟨_, rfl⟩
          obtain ⟨x3, hx3⟩ : ∃ r, r = x >>> 3 := ⟨_, rfl⟩
          obtain ⟨sx, hsx⟩ : ∃ r, r = xa ^^^ x3 := ⟨_, rfl⟩
          obtain ⟨ya, hya⟩ : ∃ r, r = r17 ^^^ r19 := ⟨_, rfl⟩
          obtain ⟨y10, hy10⟩ : ∃ r, r = y >>> 10 := ⟨_, rfl⟩
          obtain ⟨sy, hsy⟩ : ∃ r, r = ya ^^^ y10 := ⟨_, rfl⟩
          have q7 : Hid (∀ W, Calls Tryd.prog 103 #[.int .u32 (rv x), .int .u64 7] W fun e w' => e = .returned (.int .u32 (rv r7)) ∧ W = w') := Lib.hid fun W => by rw [hr7]; exact right_any x 7 W (by omega) (by omega)
          have q18 : Hid (∀ W, Calls Tryd.prog 103 #[.int .u32 (rv x), .int .u64 18] W fun e w' => e = .returned (.int .u32 (rv r18)) ∧ W = w') := Lib.hid fun W => by rw [hr18]; exact right_any x 18 W (by omega) (by omega)
          have q17 : Hid (∀ W, Calls Tryd.prog 103 #[.int .u32 (rv y), .int .u64 17] W fun e w' => e = .returned (.int .u32 (rv r17)) ∧ W = w') := Lib.hid fun W => by rw [hr17]; exact right_any y 17 W (by omega) (by omega)
          have q19 : Hid (∀ W, Calls Tryd.prog 103 #[.int .u32 (rv y), .int .u64 19] W fun e w' => e = .returned (.int .u32 (rv r19)) ∧ W = w') := Lib.hid fun W => by rw [hr19]; exact right_any y 19 W (by omega) (by omega)
          have g1 : bits .xor .u32 (rv r7) (rv r18) = rv xa := by rw [rv_xor, hxa]
          have g2 : rv x / 8 = rv x3 := by rw [hx3]; exact rv_shr_lit x 3 8 (by decide)
          have g3 : bits .xor .u32 (rv xa) (rv x3) = rv sx := by rw [rv_xor, hsx]
          have g4 : bits .xor .u32 (rv r17) (rv r19) = rv ya := by rw [rv_xor, hya]
          have g5 : rv y / 1024 = rv y10 := by rw [hy10]; exact rv_shr_lit y 10 1024 (by decide)
          have g6 : bits .xor .u32 (rv ya) (rv y10) = rv sy := by rw [rv_xor, hsy]
          obtain ⟨z1, hz1⟩ : ∃ r, r = sy + x7 := ⟨_, rfl⟩
          obtain ⟨z2, hz2⟩ : ∃ r, r = z1 + sx := ⟨_, rfl⟩
          obtain ⟨z, hz⟩ : ∃ r, r = z2 + x16 := ⟨_, rfl⟩
          have e1 : (rv sy + rv x7) % 4294967296 = rv z1 := by rw [rv_add_mod, hz1]
          have e2 : (rv z1 + rv sx) % 4294967296 = rv z2 := by rw [rv_add_mod, hz2]
          have e3 : (rv z2 + rv x16) % 4294967296 = rv z := by rw [rv_add_mod, hz]
          have e1' : IntKind.u32.wrap (rv sy + rv x7) = rv z1 := by rw [rv_add, hz1]
          have e2' : IntKind.u32.wrap (rv z1 + rv sx) = rv z2 := by rw [rv_add, hz2]
          have e3' : IntKind.u32.wrap (rv z2 + rv x16) = rv z := by rw [rv_add, hz]
          have HZZ : Hid (z = nextW L t) := Lib.hid (by rw [hz, hz2, hz1, hsy, hsx, hxa, hya, hx3, hy10, hr7, hr18, hr17, hr19, nextW, HX.out.1, HX.out.2.1, HX.out.2.2.1, HX.out.2.2.2]; rfl)
          clear hr7 hr18 hr17 hr19 hxa hx3 hsx hya hy10 hsy hz1 hz2 hz
          have i1 : (0 : Int) ≤ (t : Int) - 15 := by omega
          have i2 : (t : Int) - 15 < 64 := by omega
          have i3 : (0 : Int) ≤ (t : Int) - 2 := by omega
          have i4 : (t : Int) - 2 < 64 := by omega
          have i5 : (0 : Int) ≤ (t : Int) - 7 := by omega
          have i6 : (t : Int) - 7 < 64 := by omega
          have i7 : (0 : Int) ≤ (t : Int) - 16 := by omega
          have i8 : (t : Int) - 16 < 64 := by omega
          go_wp2_with fail
          go_quiet (fail)
          go_wp2_with ((with_reducible first | refine (q7.out _).mono ?_ | refine (q18.out _).mono ?_ | refine (q17.out _).mono ?_ | refine (q19.out _).mono ?_); rintro e w' ⟨rfl, rfl⟩)
          refine region_tail 15 (by kernel_rfl) (by kernel_rfl) (fun W => W.cell? ⟨w.heap.size + 1 + 1, t - 7, none⟩ = some (.int .u32 (rv x7)) ∧ W.cell? ⟨w.heap.size + 1 + 1, t - 16, none⟩ = some (.int .u32 (rv x16)) ∧ W.cell? ⟨w.heap.size + 1 + 1, t, none⟩ = some (.int .u32 (rv (at0 L t))) ∧ W.frozen? ⟨w.heap.size + 1 + 1, t, none⟩ = false ∧ Blk W (w.heap.size + 1 + 1) 124 (us L) ∧ Blk W (w.heap.size + 1) 124 (us zeros64) ∧ Below w.heap.size w W) ?_ ?_
          · exact ⟨by simpa using c7, by simpa using c16, by simpa using ct, by simpa using hf, HWr.out, HZr.out, ⟨HBr.out.os, HBr.out.tape, HBr.out.output, HBr.out.size, HBr.out.block⟩⟩
          rintro W2 ⟨d7, d16, dt, df, hw2, hz2, hb2⟩
          have HW2 := Lib.hid hw2
          have HZ2 := Lib.hid hz2
          have HB2 := Lib.hid hb2
          clear hw2 hz2 hb2 c7 c16 c2 c15 ct hf
          simp only [List.take_succ_cons, List.take_zero, List.drop_succ_cons, List.drop_zero]
          repeat (first | go_big_quiet_skip | (go_big_quiet_want; go_big_quiet_op; go_big_quiet_on))
          refine wpQuiet_nil ?_
          go_wp2
          go_roundw
          case rel =>
            have hset := HW2.out.set t (ru z)
            rw [us_set] at hset
            have hfe : L.set t z = grown (laid b 16) (n + 1) := by rw [HZZ.out, grown, ← HL.out, ← HT.out]
            rw [hfe] at hset
            exact ⟨n + 1, t + 1, by have := HT.out; omega, by have := HT.out; omega, by go_num, hset, HZ2.out.other _ _ (by simp), HB2.out.setCell (by simp; omega) _⟩
          case measure => simp [intOf]; omega
        · have h48 : n = 48 := by omega
          rw [h48] at hw
          have hl : (us (grown (laid b 16) 48)).size = 64 := by rw [us_size, grown_length, laid_length]
          have hz64 : (us zeros64).size = 64 := by kernel_rfl
          have hone := us_one (grown (laid b 16) 48)
          obtain ⟨cs, hcs⟩ : ∃ cs, cs = us (grown (laid b 16) 48) := ⟨_, rfl⟩
          obtain ⟨zs, hzs⟩ : ∃ cs, cs = us zeros64 := ⟨_, rfl⟩
          rw [← hcs] at hw hl hone
          rw [← hzs] at hz hz64
          have HW2 := Lib.hid hw
          have HZ2 := Lib.hid hz
          have HB2 := Lib.hid hbel
          have hsz : (Tryd.prog.info? 124).map (·.size) = some cs.size := by rw [hl]; kernel_rfl
          have HSZ := Lib.hid hsz
          have HSZ2 := Lib.hid (hz64.trans hl.symm)
          have HONE := Lib.hid hone
          have HCS := Lib.hid hcs
          clear hw hz hbel hl hz64 hsz hone hcs hzs ht hn h48
          go_wp2_with (first
            | (refine wpList_load_row rfl 124 (.tmp 3) rfl (w.heap.size + 1 + 1) rfl _ _ _ _ HW2.out Tryd.underlying124 rfl HSZ.out ?_)
            | (refine wpList_store_row rfl 124 (.tmp 2) (.tmp 71) rfl (w.heap.size + 1) _ rfl rfl _ _ HZ2.out HSZ.out HSZ2.out HONE.out ?_))
          refine bodyPost_ret (v := .agg cs) (results_cell_row rfl _ _ (w.heap.size + 1) _ cs _ _ rfl (HZ2.out.row cs) Tryd.underlying124 rfl HSZ.out) rfl ⟨?_, below_setRow HB2.out _ _ (by omega)⟩
          rw [HCS.out]
          rfl
end Go.Proofs.YtdhfabjkpffhnaaDoor

/- One block worked in: the program's. -/
namespace Go.Proofs.YtdhfabjkpffhnaaDoor
set_option maxRecDepth 20000
open Go.RowKit ShaMath

/-- The program's table. -/
def Roots (w : World) : Prop := ∀ j, j < 64 → w.cell? ⟨2, j, none⟩ = some (ru (at0 K j))
theorem Roots.below {w w' : World} {B : Nat} (h : Roots w) (hB : w.heap.size ≤ B) (hb : Below B w w') : Roots w' := fun j hj => by
  have h0 := h j hj
  rw [hb.cell (p := ⟨2, j, none⟩) (Nat.lt_of_lt_of_le (World.block_lt_of_cell? w _ h0) hB)]
  exact h0

/-- The numbers on the way to T1, T2. -/
theorem t1_num (e f g h k w : BitVec 32) : ∃ r6 r11 r25 x1 x2 y1 ef ne ng c y2 y3 t : BitVec 32, r6 = ror e 6 ∧ r11 = ror e 11 ∧ r25 = ror e 25 ∧
    bits .xor .u32 (rv r6) (rv r11) = rv x1 ∧ bits .xor .u32 (rv x1) (rv r25) = rv x2 ∧ (rv h + rv x2) % 4294967296 = rv y1 ∧ IntKind.u32.wrap (rv h + rv x2) = rv y1 ∧
    bits .and .u32 (rv e) (rv f) = rv ef ∧ bits .xor .u32 4294967295 (rv e) = rv ne ∧ bits .xor .u32 (if IntKind.u32.signed = true then -1 else IntKind.u32.max) (rv e) = rv ne ∧ bits .and .u32 (rv ne) (rv g) = rv ng ∧ bits .xor .u32 (rv ef) (rv ng) = rv c ∧
    (rv y1 + rv c) % 4294967296 = rv y2 ∧ IntKind.u32.wrap (rv y1 + rv c) = rv y2 ∧ (rv y2 + rv k) % 4294967296 = rv y3 ∧ IntKind.u32.wrap (rv y2 + rv k) = rv y3 ∧
    (rv y3 + rv w) % 4294967296 = rv t ∧ IntKind.u32.wrap (rv y3 + rv w) = rv t ∧ t = h + S1 e + ch e f g + k + w := by
  have hn : bits .xor .u32 4294967295 (rv e) = rv (~~~ e) := by
    have := rv_xor (~~~ 0#32) e
    rw [show rv (~~~ 0#32) = 4294967295 by decide] at this
    rw [this]
    congr 1
  exact ⟨_, _, _, _, _, _, _, _, _, _, _, _, _, rfl, rfl, rfl, rv_xor _ _, rv_xor _ _, rv_add_mod _ _, rv_add _ _, rv_and _ _, hn, hn, rv_and _ _, rv_xor _ _, rv_add_mod _ _, rv_add _ _, rv_add_mod _ _, rv_add _ _, rv_add_mod _ _, rv_add _ _, rfl⟩

theorem t2_num (a b c : BitVec 32) : ∃ r2 r13 r22 x1 x2 ab ac m1 bc m t : BitVec 32, r2 = ror a 2 ∧ r13 = ror a 13 ∧ r22 = ror a 22 ∧
    bits .xor .u32 (rv r2) (rv r13) = rv x1 ∧ bits .xor .u32 (rv x1) (rv r22) = rv x2 ∧ bits .and .u32 (rv a) (rv b) = rv ab ∧ bits .and .u32 (rv a) (rv c) = rv ac ∧ bits .xor .u32 (rv ab) (rv ac) = rv m1 ∧
    bits .and .u32 (rv b) (rv c) = rv bc ∧ bits .xor .u32 (rv m1) (rv bc) = rv m ∧ (rv x2 + rv m) % 4294967296 = rv t ∧ IntKind.u32.wrap (rv x2 + rv m) = rv t ∧ t = S0 a + maj a b c := by
  exact ⟨_, _, _, _, _, _, _, _, _, _, _, rfl, rfl, rfl, rv_xor _ _, rv_xor _ _, rv_and _ _, rv_and _ _, rv_xor _ _, rv_and _ _, rv_xor _ _, rv_add_mod _ _, rv_add _ _, rfl⟩

def oct (a b c d e f g h : Int) : Array Value := #[.int .u32 a, .int .u32 b, .int .u32 c, .int .u32 d, .int .u32 e, .int .u32 f, .int .u32 g, .int .u32 h]
theorem oct_us (r : Regs) : oct (rv r.a) (rv r.b) (rv r.c) (rv r.d) (rv r.e) (rv r.f) (rv r.g) (rv r.h) = us r.list := rfl
theorem oct_size (a b c d e f g h : Int) : (oct a b c d e f g h).size = 8 := rfl

def StirAt (w : World) (g : Nat) (r : Regs) (b : List UInt8) (s6 s7 s8 s9 s10 s11 s12 s13 s35 : Value) (wr : World) : Prop :=
  ∃ (n : Nat) (q : Regs), n ≤ 64 ∧ q = rounds (words b) r n ∧ s35 = .int .i64 n ∧ s6 = .int .u32 (rv q.a) ∧ s7 = .int .u32 (rv q.b) ∧ s8 = .int .u32 (rv q.c) ∧ s9 = .int .u32 (rv q.d) ∧ s10 = .int .u32 (rv q.e) ∧ s11 = .int .u32 (rv q.f) ∧ s12 = .int .u32 (rv q.g) ∧ s13 = .int .u32 (rv q.h) ∧
    Blk wr g 124 (us (words b)) ∧ Blk wr w.heap.size 93 (us r.list) ∧ (∃ zs, Blk wr (w.heap.size + 1 + 1) 93 zs ∧ zs.size = 8) ∧ Roots wr ∧ Below w.heap.size w wr

set_option maxRecDepth 100000 in
theorem stir_any (r : Regs) (b : List UInt8) (w : World) (hb : b.length = 64) (ht : Roots w) :
    Calls Tryd.prog 94 #[.agg (us r.list), .agg (bs b)] w fun e w' => e = .returned (.agg (us (comp r b).list)) ∧ Below w.heap.size w w' := by
  have HB := Lib.hid hb
  have HT := Lib.hid ht
  have hsz : (Tryd.prog.info? 94).map (·.size) = some (bs b).size := by rw [bs_size, hb]; kernel_rfl
  have HS := Lib.hid hsz
  clear hb ht hsz
  go_enter Tryd.func94, Tryd.ntmps94
  go_wp2_with (refine wpList_load_row rfl 94 (.tmp 3) rfl (w.heap.size + 1) rfl 94 (bs b) (0, 0) _ ((Blk.newAt _ _ _ _ _ (by simp) rfl).alloc _) Tryd.underlying94 rfl HS.out ?_)
  refine (spread_any b _ HB.out).mono ?_
  rintro e w1 ⟨rfl, hb1⟩
  have hs1 : w.heap.size + 1 + 1 + 1 ≤ w1.heap.size := by have := hb1.size; simpa using this
  have f0 : Blk w1 w.heap.size 93 (us r.list) := (((Blk.newAt _ _ _ _ _ rfl rfl).alloc _).alloc _).keep hb1
  have f2 : ∃ zs, Blk w1 (w.heap.size + 1 + 1) 93 zs ∧ zs.size = 8 := ⟨_, (Blk.newAt _ _ _ _ _ (by simp) rfl).keep hb1, rfl⟩
  have f3 : Below w.heap.size w w1 := ((((Below.refl w.heap.size w).alloc (Nat.le_refl _) (.cells (us r.list) 93)).alloc (by simp) (.cells (bs b) 94)).alloc (by simp; omega) _).trans (hb1.mono (by simp; omega))
  have F0 := Lib.hid f0
  have F2 := Lib.hid f2
  have F3 := Lib.hid f3
  clear hb1 f0 f2 f3
  obtain ⟨cs, hcs⟩ : ∃ cs, cs = us (words b) := ⟨_, rfl⟩
  have hl : cs.size = 64 := by rw [hcs, us_size, words_length]
  have hone : cs.all (·.oneCell') = true := by rw [hcs]; exact us_one _
  have hsz : (Tryd.prog.info? 124).map (·.size) = some cs.size := by rw [hl]; kernel_rfl
  rw [← hcs]
  have HCS := Lib.hid hcs
  have HL := Lib.hid hl
  have HONE := Lib.hid hone
  have HSZ := Lib.hid hsz
  clear hcs hl hone hsz
  go_upto_region 2 with (refine wpList_store_row rfl 124 (.tmp 5) (.tmp 18) rfl w1.heap.size cs rfl rfl _ _ (heap_alloc_new w1 _) HSZ.out (by rw [HL.out]; rfl) HONE.out ?_)
  refine world_cut (fun W => Blk W w1.heap.size 124 cs ∧ Blk W w.heap.size 93 (us r.list) ∧ (∃ zs, Blk W (w.heap.size + 1 + 1) 93 zs ∧ zs.size = 8) ∧ Below w.heap.size w W) ?_ ?_
  · refine ⟨Blk.row (heap_alloc_new w1 _) cs, (F0.out.alloc _).rowOther _ (by omega), ?_, below_setRow (F3.out.alloc (by omega) _) _ _ (by omega)⟩
    obtain ⟨zs, h1, h2⟩ := F2.out
    exact ⟨zs, (h1.alloc _).rowOther _ (by omega), h2⟩
  rintro W ⟨h1, h2, h3, h4⟩
  have c0 := h2.cell 0
  have c1 := h2.cell 1
  have c2 := h2.cell 2
  have c3 := h2.cell 3
  have c4 := h2.cell 4
  have c5 := h2.cell 5
  have c6 := h2.cell 6
  have c7 := h2.cell 7
  rw [us_at _ _ (by simp [Regs.list]), ru] at c0 c1 c2 c3 c4 c5 c6 c7
  simp only [at0, Regs.list, List.getD_cons_zero, List.getD_cons_succ] at c0 c1 c2 c3 c4 c5 c6 c7
  have H1 := Lib.hid h1
  have H2 := Lib.hid h2
  have H3 := Lib.hid h3
  have H4 := Lib.hid h4
  clear h1 h2 h3 h4
  go_quiet (fail)
  go_wp2
  clear c0 c1 c2 c3 c4 c5 c6 c7
  go_loopw [6, 7, 8, 9, 10, 11, 12, 13, 35] (fun s6 s7 s8 s9 s10 s11 s12 s13 s35 wr => StirAt w w1.heap.size r b s6 s7 s8 s9 s10 s11 s12 s13 s35 wr) (fun _ _ _ _ _ _ _ _ s35 _ => 64 - (intOf s35).toNat)
  case atStart =>
    refine ⟨0, r, by omega, rfl, rfl, rfl, rfl, rfl, rfl, rfl, rfl, rfl, rfl, by rw [← HCS.out]; exact H1.out, H2.out, H3.out, HT.out.below (Nat.le_refl _) ?_, ?_⟩
    · exact ⟨H4.out.os, H4.out.tape, H4.out.output, H4.out.size, H4.out.block⟩
    · exact ⟨H4.out.os, H4.out.tape, H4.out.output, H4.out.size, H4.out.block⟩
  case round =>
    obtain ⟨n, q, hn, hq, rfl, rfl, rfl, rfl, rfl, rfl, rfl, rfl, rfl, hw, hr, hz, hro, hbel⟩ := hrel
    by_cases hlt : n < 64
    · obtain ⟨qa, qb, qc, qd, qe, qf, qg, qh⟩ := q
      dsimp only
      have hK := hro n hlt
      have hc := hw.cell n
      rw [us_at _ _ (by rw [words_length]; exact hlt)] at hc
      rw [ru] at hK hc
      obtain ⟨kk, hkk⟩ : ∃ x, x = at0 K n := ⟨_, rfl⟩
      obtain ⟨ww, hww⟩ : ∃ x, x = at0 (words b) n := ⟨_, rfl⟩
      rw [← hkk] at hK
      rw [← hww] at hc
      obtain ⟨r6, r11, r25, x1, x2, y1, ef, ne, ng, cc, y2, y3, t1, h6, h11, h25, a1, a2, a3, a3', a4, a5, a5', a6, a7, a8, a8', a9, a9', a10, a10', ht1⟩ := t1_num qe qf qg qh kk ww
      obtain ⟨r2, r13, r22, z1, z2, ab, ac, m1, bc, mm, t2, h2, h13, h22, b1, b2, b3, b4, b5, b6, b7, b8, b8', ht2⟩ := t2_num qa qb qc
      have q6 : Hid (∀ N, Calls Tryd.prog 103 #[.int .u32 (rv qe), .int .u64 6] (wr.drewN N) fun e w' => e = .returned (.int .u32 (rv r6)) ∧ ∃ m, w' = wr.drewN m) := Lib.hid fun N => by rw [h6]; exact (right_any qe 6 _ (by omega) (by omega)).mono fun e w' h => ⟨h.1, N, h.2.symm⟩
      have q11 : Hid (∀ N, Calls Tryd.prog 103 #[.int .u32 (rv qe), .int .u64 11] (wr.drewN N) fun e w' => e = .returned (.int .u32 (rv r11)) ∧ ∃ m, w' = wr.drewN m) := Lib.hid fun N => by rw [h11]; exact (right_any qe 11 _ (by omega) (by omega)).mono fun e w' h => ⟨h.1, N, h.2.symm⟩
      have q25 : Hid (∀ N, Calls Tryd.prog 103 #[.int .u32 (rv qe), .int .u64 25] (wr.drewN N) fun e w' => e = .returned (.int .u32 (rv r25)) ∧ ∃ m, w' = wr.drewN m) := Lib.hid fun N => by rw [h25]; exact (right_any qe 25 _ (by omega) (by omega)).mono fun e w' h => ⟨h.1, N, h.2.symm⟩
      have q2 : Hid (∀ W, Calls Tryd.prog 103 #[.int .u32 (rv qa), .int .u64 2] W fun e w' => e = .returned (.int .u32 (rv r2)) ∧ W = w') := Lib.hid fun W => by rw [h2]; exact right_any qa 2 W (by omega) (by omega)
      have q13 : Hid (∀ W, Calls Tryd.prog 103 #[.int .u32 (rv qa), .int .u64 13] W fun e w' => e = .returned (.int .u32 (rv r13)) ∧ W = w') := Lib.hid fun W => by rw [h13]; exact right_any qa 13 W (by omega) (by omega)
      have q22 : Hid (∀ W, Calls Tryd.prog 103 #[.int .u32 (rv qa), .int .u64 22] W fun e w' => e = .returned (.int .u32 (rv r22)) ∧ W = w') := Lib.hid fun W => by rw [h22]; exact right_any qa 22 W (by omega) (by omega)
      obtain ⟨da, hda⟩ : ∃ x, x = qd + t1 := ⟨_, rfl⟩
      obtain ⟨aa, haa⟩ : ∃ x, x = t1 + t2 := ⟨_, rfl⟩
      have d1 : (rv qd + rv t1) % 4294967296 = rv da := by rw [rv_add_mod, hda]
      have d2 : (rv t1 + rv t2) % 4294967296 = rv aa := by rw [rv_add_mod, haa]
      have hst : Hid ((⟨aa, qa, qb, qc, da, qe, qf, qg⟩ : Regs) = rounds (words b) r (n + 1)) := Lib.hid (by rw [rounds, ← hq, haa, hda, ht1, ht2, hkk, hww]; rfl)
      have HW := Lib.hid hw
      have HR := Lib.hid hr
      have HZ := Lib.hid hz
      have HRo := Lib.hid hro
      have HBel := Lib.hid hbel
      clear hq hw hr hz hro hbel hkk hww h6 h11 h25 h2 h13 h22 ht1 ht2 hda haa
      go_wp2_with fail
      go_quiet (first | with_reducible exact q6.out _ | with_reducible exact q11.out _ | with_reducible exact q25.out _)
      go_wp2_with ((with_reducible first | refine (q2.out _).mono ?_ | refine (q13.out _).mono ?_ | refine (q22.out _).mono ?_); rintro e w' ⟨rfl, rfl⟩)
      go_roundw
      case rel =>
        have hbe := HBel.out
        have hbe2 : Below w.heap.size w (wr.drewN nq) := ⟨hbe.os, hbe.tape, hbe.output, hbe.size, hbe.block⟩
        exact ⟨n + 1, _, by omega, hst.out, by go_num, by first | rfl | rw [d2], rfl, rfl, rfl, by first | rfl | rw [d1], rfl, rfl, rfl, HW.out, HR.out, HZ.out, fun j hj => HRo.out j hj, hbe2⟩
      case measure => simp [intOf]; omega
    · have h64 : n = 64 := by omega
      rw [h64] at hq
      obtain ⟨qa, qb, qc, qd, qe, qf, qg, qh⟩ := q
      dsimp only
      have c0 := hr.cell 0
      have c1 := hr.cell 1
      have c2 := hr.cell 2
      have c3 := hr.cell 3
      have c4 := hr.cell 4
      have c5 := hr.cell 5
      have c6 := hr.cell 6
      have c7 := hr.cell 7
      rw [us_at _ _ (by simp [Regs.list]), ru] at c0 c1 c2 c3 c4 c5 c6 c7
      simp only [at0, Regs.list, List.getD_cons_zero, List.getD_cons_succ] at c0 c1 c2 c3 c4 c5 c6 c7
      obtain ⟨ra, rb, rc, rd, re, rf, rg, rh⟩ := r
      dsimp only at c0 c1 c2 c3 c4 c5 c6 c7
      obtain ⟨va, hva⟩ : ∃ x, x = ra + qa := ⟨_, rfl⟩
      obtain ⟨vb, hvb⟩ : ∃ x, x = rb + qb := ⟨_, rfl⟩
      obtain ⟨vc, hvc⟩ : ∃ x, x = rc + qc := ⟨_, rfl⟩
      obtain ⟨vd, hvd⟩ : ∃ x, x = rd + qd := ⟨_, rfl⟩
      obtain ⟨ve, hve⟩ : ∃ x, x = re + qe := ⟨_, rfl⟩
      obtain ⟨vf, hvf⟩ : ∃ x, x = rf + qf := ⟨_, rfl⟩
      obtain ⟨vg, hvg⟩ : ∃ x, x = rg + qg := ⟨_, rfl⟩
      obtain ⟨vh, hvh⟩ : ∃ x, x = rh + qh := ⟨_, rfl⟩
      have ea : (rv ra + rv qa) % 4294967296 = rv va := by rw [rv_add_mod, hva]
      have eb : (rv rb + rv qb) % 4294967296 = rv vb := by rw [rv_add_mod, hvb]
      have ec : (rv rc + rv qc) % 4294967296 = rv vc := by rw [rv_add_mod, hvc]
      have ed : (rv rd + rv qd) % 4294967296 = rv vd := by rw [rv_add_mod, hvd]
      have ee : (rv re + rv qe) % 4294967296 = rv ve := by rw [rv_add_mod, hve]
      have ef : (rv rf + rv qf) % 4294967296 = rv vf := by rw [rv_add_mod, hvf]
      have eg : (rv rg + rv qg) % 4294967296 = rv vg := by rw [rv_add_mod, hvg]
      have eh : (rv rh + rv qh) % 4294967296 = rv vh := by rw [rv_add_mod, hvh]
      have hend : Hid ((⟨va, vb, vc, vd, ve, vf, vg, vh⟩ : Regs) = comp ⟨ra, rb, rc, rd, re, rf, rg, rh⟩ b) := Lib.hid (by rw [comp, ← hq, hva, hvb, hvc, hvd, hve, hvf, hvg, hvh]; rfl)
      obtain ⟨zs, hz1, hz2⟩ := hz
      have HZ := Lib.hid hz1
      have HZ2 := Lib.hid hz2
      have HBel := Lib.hid hbel
      clear hq hw hr hz1 hz2 hro hbel hva hvb hvc hvd hve hvf hvg hvh h64
      have E := Lib.hid (And.intro ea (And.intro eb (And.intro ec (And.intro ed (And.intro ee (And.intro ef (And.intro eg eh)))))))
      clear ea eb ec ed ee ef eg eh
      go_wp2_with (refine wpList_store_row rfl 93 (.tmp 4) (.tmp 130) rfl (w.heap.size + 1 + 1) _ rfl rfl _ _ HZ.out ?_ ?_ ?_ ?_)
      · show Option.map _ _ = some 8
        kernel_rfl
      · rw [HZ2.out]; rfl
      · simp [Value.oneCell']
      · refine bodyPost_ret (v := .agg (oct ((rv ra + rv qa) % 4294967296) ((rv rb + rv qb) % 4294967296) ((rv rc + rv qc) % 4294967296) ((rv rd + rv qd) % 4294967296) ((rv re + rv qe) % 4294967296) ((rv rf + rv qf) % 4294967296) ((rv rg + rv qg) % 4294967296) ((rv rh + rv qh) % 4294967296))) (results_cell_row rfl _ _ (w.heap.size + 1 + 1) _ (oct ((rv ra + rv qa) % 4294967296) ((rv rb + rv qb) % 4294967296) ((rv rc + rv qc) % 4294967296) ((rv rd + rv qd) % 4294967296) ((rv re + rv qe) % 4294967296) ((rv rf + rv qf) % 4294967296) ((rv rg + rv qg) % 4294967296) ((rv rh + rv qh) % 4294967296)) _ _ rfl (HZ.out.row _) Tryd.underlying93 rfl (by rw [oct_size]; kernel_rfl)) rfl ⟨?_, below_setRow HBel.out _ _ (by omega)⟩
        obtain ⟨ea, eb, ec, ed, ee, ef, eg, eh⟩ := E.out
        rw [← hend.out, ← oct_us, ea, eb, ec, ed, ee, ef, eg, eh]
end Go.Proofs.YtdhfabjkpffhnaaDoor

/- A state of the program: its cells; the words behind its whole blocks; its length. -/
namespace Go.Proofs.YtdhfabjkpffhnaaDoor
set_option maxRecDepth 20000
open Go.RowKit ShaMath

/-- The cells of a state. -/
def stL (h : List (BitVec 32)) (r : List UInt8) (n : Nat) : List Value := h.map ru ++ (r.map bv ++ [.int .u64 (n : Int)])
def stC (h : List (BitVec 32)) (r : List UInt8) (n : Nat) : Array Value := (stL h r n).toArray

variable {h : List (BitVec 32)} {r : List UInt8} (n : Nat)
theorem stC_size (eh : h.length = 8) (er : r.length = 64) : (stC h r n).size = 73 := by simp [stC, stL, eh, er]
theorem stC_words : ∀ j u, (h.map ru)[j]? = some u → (stC h r n)[0 + j]? = some u := by
  intro j u hj
  have hlt : j < (h.map ru).length := (List.getElem?_eq_some_iff.1 hj).1
  simp only [stC, stL, List.getElem?_toArray, Nat.zero_add]
  rw [List.getElem?_append_left hlt]
  exact hj
theorem stC_rest (eh : h.length = 8) : ∀ j u, (r.map bv)[j]? = some u → (stC h r n)[8 + j]? = some u := by
  intro j u hj
  have hlt : j < (r.map bv).length := (List.getElem?_eq_some_iff.1 hj).1
  simp only [stC, stL, List.getElem?_toArray]
  rw [List.getElem?_append_right (by simp [eh]), List.getElem?_append_left (by simp [eh] at hlt ⊢; omega)]
  simpa [eh] using hj
theorem stC_len (eh : h.length = 8) (er : r.length = 64) : (stC h r n)[72]? = some (.int .u64 (n : Int)) := by
  simp only [stC, stL, List.getElem?_toArray]
  rw [List.getElem?_append_right (by simp [eh]), List.getElem?_append_right (by simp [eh, er])]
  simp [eh, er]
theorem stC_setLen (eh : h.length = 8) (er : r.length = 64) (m : Nat) : (stC h r n).setIfInBounds 72 (.int .u64 (m : Int)) = stC h r m := by
  apply Array.toList_inj.1
  simp only [stC, stL, Array.toList_setIfInBounds]
  rw [List.set_append_right _ _ (by simp [eh]), List.set_append_right _ _ (by simp [eh, er])]
  simp [eh, er]
theorem stC_setWords (eh : h.length = 8) (h' : List (BitVec 32)) (eh' : h'.length = 8) : patch (stC h r n) 0 (h'.map ru) = stC h' r n := by
  unfold patch stC stL
  congr 1
  simp [eh, eh']
theorem stC_setRest (eh : h.length = 8) (er : r.length = 64) (o : Nat) (vs : List UInt8) (ho : o + vs.length ≤ 64) : patch (stC h r n) (8 + o) (vs.map bv) = stC h (r.take o ++ vs ++ r.drop (o + vs.length)) n := by
  unfold patch stC stL
  congr 1
  simp only [List.take_append, List.drop_append, List.length_map, eh, List.map_append, List.map_take, List.map_drop]
  rw [List.take_of_length_le (by simp [eh]), List.drop_of_length_le (l := h.map ru) (by simp [eh]; omega)]
  simp [er, show o - 64 = 0 by omega, show 8 + o - 8 = o by omega, show 8 + o + vs.length - 8 = o + vs.length by omega, show o + vs.length - 64 = 0 by omega]
theorem stL_one (h : List (BitVec 32)) (r : List UInt8) (n : Nat) : ∀ v ∈ stL h r n, v.oneCell' = true := by
  intro v hv
  simp only [stL, List.mem_append, List.mem_map, List.mem_singleton] at hv
  rcases hv with ⟨x, _, rfl⟩ | ⟨x, _, rfl⟩ | rfl <;> simp [ru, bv, Value.oneCell']
theorem stC_one (h : List (BitVec 32)) (r : List UInt8) (n : Nat) : (stC h r n).all (·.oneCell') = true := by
  rw [Array.all_eq_true_iff_forall_mem]
  intro v hv
  exact stL_one h r n v (by simpa [stC] using hv)

/-- The program's first words. -/
def Starts (w : World) : Prop := ∀ j, j < 8 → w.cell? ⟨3, j, none⟩ = some (ru (at0 ShaMath.start.list j))
theorem Starts.below {w w' : World} {B : Nat} (h : Starts w) (hB : w.heap.size ≤ B) (hb : Below B w w') : Starts w' := fun j hj => by
  have h0 := h j hj
  rw [hb.cell (p := ⟨3, j, none⟩) (Nat.lt_of_lt_of_le (World.block_lt_of_cell? w _ h0) hB)]
  exact h0

set_option maxRecDepth 100000 in
theorem chain_any (h : List (BitVec 32)) (r : List UInt8) (n : Nat) (w : World) (eh : h.length = 8) (er : r.length = 64) (hs : Starts w) (hn : n ≤ 18446744073709551615) :
    Calls Tryd.prog 95 #[.agg (stC h r n)] w fun e w' => e = .returned (.agg (us (if n < 64 then ShaMath.start.list else h))) ∧ Below w.heap.size w w' := by
  have hl := stC_len n eh er
  have hw := stC_words (r := r) n (h := h)
  obtain ⟨cs, hcs⟩ : ∃ cs, cs = stC h r n := ⟨_, rfl⟩
  rw [← hcs] at hl hw ⊢
  have HW := Lib.hid hw
  have HE := Lib.hid eh
  have HS := Lib.hid hs
  clear hcs eh er hw hs
  by_cases hlt : n < 64
  · rw [if_pos hlt]
    go_enter Tryd.func95, Tryd.ntmps95
    go_upto_region 2 with fail
    refine world_cut (fun W => (∃ zs, Blk W (w.heap.size + 1) 93 zs ∧ zs.size = 8) ∧ Starts W ∧ Below w.heap.size w W) ?_ ?_
    · exact ⟨⟨_, Blk.newAt _ _ _ _ _ (by simp) rfl, rfl⟩, HS.out.below (Nat.le_refl _) (((Below.refl _ _).alloc (Nat.le_refl _) _).alloc (by simp) _), (((Below.refl _ _).alloc (Nat.le_refl _) _).alloc (by simp) _)⟩
    rintro W ⟨⟨zs, hz, hzs⟩, hst, hb⟩
    have hld : (Instr.loadAt 93 (.pointer (some ⟨3, 0, none⟩))).run Tryd.prog W = .ok (.agg (us ShaMath.start.list)) W :=
      loads_cells ⟨3, 0, none⟩ _ _ (ShaMath.start.list.map ru) Tryd.underlying93 rfl (by kernel_rfl) (fun j u hj => by
        have hlt : j < 8 := by have := (List.getElem?_eq_some_iff.1 hj).1; simpa [ShaMath.start, Regs.list] using this
        rw [addr_add, Nat.zero_add, hst j hlt, ← us_at _ _ (by simpa [ShaMath.start, Regs.list] using hlt)]
        simpa [us] using hj)
    have HLd := Lib.hid hld
    have HZ := Lib.hid hz
    have HZs := Lib.hid hzs
    have HB := Lib.hid hb
    clear hld hz hzs hst hb
    go_wp2_with (first
      | (refine wpList_load_by rfl 93 (.global 3) rfl _ _ rfl HLd.out ?_)
      | (refine wpList_store_row rfl 93 (.tmp 2) (.tmp 6) rfl (w.heap.size + 1) (us ShaMath.start.list) rfl rfl _ _ HZ.out (by kernel_rfl) (by rw [HZs.out]; kernel_rfl) (us_one _) ?_))
    refine bodyPost_ret (v := .agg (us ShaMath.start.list)) (results_cell_row rfl _ _ (w.heap.size + 1) _ (us ShaMath.start.list) _ _ rfl (HZ.out.row _) Tryd.underlying93 rfl (by kernel_rfl)) rfl ⟨rfl, below_setRow HB.out _ _ (by omega)⟩
  · rw [if_neg hlt]
    go_enter Tryd.func95, Tryd.ntmps95
    go_upto_region 3 with fail
    refine world_cut (fun W => (∃ zs, Blk W (w.heap.size + 1) 93 zs ∧ zs.size = 8) ∧ Blk W w.heap.size 96 cs ∧ Below w.heap.size w W) ?_ ?_
    · exact ⟨⟨_, Blk.newAt _ _ _ _ _ (by simp) rfl, rfl⟩, (Blk.new _ _ _).alloc _, (((Below.refl _ _).alloc (Nat.le_refl _) _).alloc (by simp) _)⟩
    rintro W ⟨⟨zs, hz, hzs⟩, hst, hb⟩
    have hsz : (Tryd.prog.info? 93).map (·.size) = some (h.map ru).length := by rw [List.length_map, HE.out]; kernel_rfl
    have hld := hst.loadsAt (P := Tryd.prog) 93 _ 0 0 (h.map ru) Tryd.underlying93 rfl hsz (fun j u hj => HW.out j u hj) rfl
    have HLd := Lib.hid hld
    have HZ := Lib.hid hz
    have HZs := Lib.hid hzs
    have HB := Lib.hid hb
    have hsz2 : (Tryd.prog.info? 93).map (·.size) = some (us h).size := by rw [us_size, HE.out]; kernel_rfl
    have HSz2 := Lib.hid hsz2
    have HSz3 := Lib.hid (show zs.size = (us h).size by rw [hzs, us_size, HE.out])
    clear hsz hsz2 hld hz hzs hst hb
    go_wp2_with (first
      | (refine wpList_load_by rfl 93 (.tmp 7) rfl _ _ rfl HLd.out ?_)
      | (refine wpList_store_row rfl 93 (.tmp 2) (.tmp 8) rfl (w.heap.size + 1) (us h) rfl rfl _ _ HZ.out HSz2.out HSz3.out (us_one _) ?_))
    refine bodyPost_ret (v := .agg (us h)) (results_cell_row rfl _ _ (w.heap.size + 1) _ (us h) _ _ rfl (HZ.out.row _) Tryd.underlying93 rfl HSz2.out) rfl ⟨rfl, below_setRow HB.out _ _ (by omega)⟩
end Go.Proofs.YtdhfabjkpffhnaaDoor

/- Bytes written to a state of the program. -/
namespace Go.Proofs.YtdhfabjkpffhnaaDoor
set_option maxRecDepth 20000
open Go.RowKit ShaMath Reg

/-- A state of text t. -/
def IsState (v : Value) (t : List UInt8) : Prop := ∃ h r, v = .agg (stC h r t.length) ∧ GoodS h r t

def WriteAt (w : World) (l m : List UInt8) (s1 : Value) (wr : World) : Prop :=
  ∃ (k n : Nat) (a : Option Addr) (cap : Nat) (h : List (BitVec 32)) (r : List UInt8), k + n = m.length ∧ s1 = .slice a n cap ∧ n ≤ cap ∧ Bys w (.slice a n cap) (m.drop k) ∧
    Blk wr w.heap.size 96 (stC h r (l.length + k)) ∧ GoodS h r (l ++ m.take k) ∧ (∃ zs, Blk wr (w.heap.size + 1) 96 zs ∧ zs.size = 73) ∧ Below w.heap.size w wr

def zeroState : Array Value := stC (List.replicate 8 0#32) (List.replicate 64 0) 0
theorem zero_state : ∃ zs, (∀ W, (zeroValue 96).run Tryd.prog W = .ok (.agg zs) W) ∧ zs.size = 73 := ⟨zeroState, fun W => by kernel_rfl, by kernel_rfl⟩

/-- 'copy(s.rest[at:], b)'. -/
theorem copy_rest {W : World} {g : Nat} {h : List (BitVec 32)} {r : List UInt8} {N : Nat} (hb : Blk W g 96 (stC h r N)) (eh : h.length = 8) (er : r.length = 64) (q : Nat) (hq : q < 64)
    (a : Option Addr) (len cap : Nat) (l : List UInt8) (hl : Bys W (.slice a len cap) l) (hlen : l.length = len) (hpos : 0 < len) (n : Nat) (hn : n = Nat.min len (64 - q)) :
    (Builtin.copy_ #[22, 22] 3 #[.slice (some ⟨g, 8 + q, none⟩) (64 - q) (64 - q), .slice a len cap]).run Tryd.prog W = .ok (.int .i64 (n : Int)) (W.setRow g (stC h (put r q (l.take n)) N)) := by
  rcases hl with ⟨e, rfl⟩ | ⟨ad, c, e, hc⟩
  · simp at hlen
    omega
  simp at e
  obtain ⟨rfl, -, rfl⟩ := e
  have hnl : n ≤ len := by rw [hn]; exact Nat.min_le_left _ _
  have hnq : n ≤ 64 - q := by rw [hn]; exact Nat.min_le_right _ _
  have htl : (l.take n).length = n := by rw [List.length_take]; omega
  have h1 := run_copy_row (P := Tryd.prog) W 22 22 3 5 g (8 + q) (64 - q) (64 - q) ad len cap (stC h r N) 96 ((l.take n).map bv) Tryd.underlying22 (by kernel_rfl) hb
    (by rw [List.length_map, htl]; exact hn) (cells_bys fun i hi => by
      rw [htl] at hi
      rw [hc i (by omega)]
      simp) (by rw [List.length_map, htl, stC_size N eh er]; omega) (one_bv _)
  rw [h1, List.length_map, htl]
  have h2 := stC_setRest N eh er q (l.take n) (by rw [htl]; omega)
  unfold patch at h2
  simp only [List.length_map, htl] at h2
  rw [h2]
  unfold put
  rw [htl]
  rfl

/-- 's.rest[at:]'. -/
theorem slice_rest (g q : Nat) (hq : q < 64) (W : World) : (Instr.sliceAt 94 (.pointer (some ⟨g, 8, none⟩)) (some (.int .i64 (q : Int))) none none).run Tryd.prog W = .ok (.slice (some ⟨g, 8 + q, none⟩) (64 - q) (64 - q)) W := by
  have hal : Tryd.prog.arrayLen 94 = 64 := by kernel_rfl
  have hel : Tryd.prog.elem 94 = 5 := by kernel_rfl
  rw [run_sliceAt_array_l W 94 _ (by rw [hal, hel]; exact Tryd.underlying94) .i64 (q : Int) (by omega) (by rw [hal]; omega), hal, hel, size_byte]
  simp only [Result.andThen_ok, slicedAt, Int.toNat_natCast, Nat.mul_one, addr_add]
  rw [if_neg (by omega)]

set_option maxRecDepth 100000 in
theorem write_walk (l m : List UInt8) (h0 : List (BitVec 32)) (r0 : List UInt8) (a : Option Addr) (len cap : Nat) (w : World) (hg : GoodS h0 r0 l) (hm : Bys w (.slice a len cap) m) (hlen : m.length = len) (hcap : len ≤ cap)
    (hsum : l.length + len ≤ 1152921504606846976) (hro : Roots w) (hst : Starts w) :
    Calls Tryd.prog 75 #[.agg (stC h0 r0 l.length), .slice a len cap] w fun e w' => ∃ v, e = .returned v ∧ IsState v (l ++ m) ∧ Below w.heap.size w w' := by
  have HG := Lib.hid hg
  have HM := Lib.hid hm
  have HL := Lib.hid hlen
  have HRo := Lib.hid hro
  have HSt := Lib.hid hst
  obtain ⟨L, hL⟩ : ∃ L, L = l.length := ⟨_, rfl⟩
  rw [← hL] at hsum ⊢
  have HLL := Lib.hid hL
  obtain ⟨cs0, hcs0⟩ : ∃ cs, cs = stC h0 r0 L := ⟨_, rfl⟩
  rw [← hcs0]
  have HCS := Lib.hid hcs0
  clear hg hm hlen hro hst hL hcs0
  obtain ⟨zs, hzv, hzs⟩ := zero_state
  have HZ0 := Lib.hid hzs
  clear hzs
  go_enter Tryd.func75, Tryd.ntmps75
  go_wp2_with fail
  clear hzv
  go_loopw [1] (fun s1 wr => WriteAt w l m s1 wr) (fun s1 _ => match s1 with | .slice _ n _ => n | _ => 0)
  case atStart =>
    refine ⟨0, len, a, cap, h0, r0, by rw [HL.out]; omega, rfl, hcap, by simpa using HM.out, ?_, by simpa using HG.out, ⟨_, Blk.newAt _ _ _ _ _ (by simp) rfl, HZ0.out⟩, ((Below.refl _ _).alloc (Nat.le_refl _) _).alloc (by simp) _⟩
    rw [← HLL.out, Nat.add_zero, ← HCS.out]
    exact (Blk.new _ _ _).alloc _
  case round =>
    obtain ⟨k, n, a1, cap1, h, r, hkn, rfl, hnc, hbs, hblk, hgd, hz, hbel⟩ := hrel
    obtain ⟨N, hN⟩ : ∃ N, N = l.length + k := ⟨_, rfl⟩
    rw [← hN] at hblk
    have hTl : (l ++ m.take k).length = N := by rw [List.length_append, List.length_take, hN]; omega
    have hNb : N ≤ 1152921504606846976 := by have h1 := HL.out; have h2 := HLL.out; omega
    have hsz := hbel.size
    have HN := Lib.hid hN
    have HTl := Lib.hid hTl
    have HBlk := Lib.hid hblk
    have HGd := Lib.hid hgd
    have HZ := Lib.hid hz
    have HBel := Lib.hid hbel
    have HKN := Lib.hid hkn
    have HBs := Lib.hid hbs
    by_cases hpos : 0 < n
    · obtain ⟨q, hq⟩ : ∃ q, q = N % 64 := ⟨_, rfl⟩
      have hq64 : q < 64 := by omega
      have hqi : (N : Int) % 64 = (q : Int) := by omega
      obtain ⟨j, hj⟩ : ∃ j, j = Nat.min n (64 - q) := ⟨_, rfl⟩
      have hj1 : 1 ≤ j := by rw [hj]; exact Nat.le_min.2 ⟨hpos, by omega⟩
      have hj2 : j ≤ n := by rw [hj]; exact Nat.min_le_left _ _
      have hj3 : q + j ≤ 64 := by have : j ≤ 64 - q := by rw [hj]; exact Nat.min_le_right _ _
                                  omega
      have c72 : wr.cell? ⟨w.heap.size, 72, none⟩ = some (.int .u64 (N : Int)) := by rw [hblk.cell, stC_len N hgd.1 hgd.2.1]
      have hcp := copy_rest hblk hgd.1 hgd.2.1 q hq64 a1 n cap1 (m.drop k) (hbs.below (Nat.le_refl _) hbel) (by rw [List.length_drop]; omega) hpos j hj
      have HCp := Lib.hid hcp
      have HQ := Lib.hid hq
      have hsr := slice_rest w.heap.size q hq64
      clear hN hTl hblk hgd hz hbel hkn hbs hcp hq hj
      go_upto_region 4 with (refine wpList_copy_by rfl (.tmp 16) (.tmp 17) 22 rfl (.slice (some ⟨w.heap.size, 8 + q, none⟩) (64 - q) (64 - q)) (.slice a1 n cap1) (.int .i64 (j : Int)) (wr.setRow w.heap.size (stC h (put r q ((m.drop k).take j)) N)) rfl rfl HCp.out ?_)
      clear hsr c72
      obtain ⟨p, hp⟩ : ∃ p, p = (m.drop k).take j := ⟨_, rfl⟩
      have hpl : p.length = j := by rw [hp, List.length_take, List.length_drop]; have := HKN.out; omega
      rw [← hp]
      obtain ⟨r1, hr1⟩ : ∃ r1, r1 = put r q p := ⟨_, rfl⟩
      rw [← hr1]
      have hmk : l ++ m.take (k + j) = (l ++ m.take k) ++ p := by rw [hp, List.append_assoc, ← List.take_add]
      refine world_cut (fun W => Blk W w.heap.size 96 (stC h r1 N) ∧ (∃ zs, Blk W (w.heap.size + 1) 96 zs ∧ zs.size = 73) ∧ Below w.heap.size w W) ?_ ?_
      · refine ⟨HBlk.out.row _, ?_, below_setRow HBel.out _ _ (Nat.le_refl _)⟩
        obtain ⟨zs, h1, h2⟩ := HZ.out
        exact ⟨zs, h1.rowOther _ (by omega), h2⟩
      rintro W1 ⟨hB1, hZ1, hL1⟩
      have HB1 := Lib.hid hB1
      have HZ1 := Lib.hid hZ1
      have HL1 := Lib.hid hL1
      have HMK := Lib.hid hmk
      have HP := Lib.hid hp
      have HPl := Lib.hid hpl
      have HR1 := Lib.hid hr1
      have hs1 := hL1.size
      clear hp hpl hr1 hmk hB1 hZ1 hL1
      by_cases hfull : q + j = 64
      · have hg2 : GoodS (comp (chain (l ++ m.take k) (N / 64)) r1).list r1 (l ++ m.take (k + j)) := by
          rw [HMK.out, HR1.out, HQ.out, ← HTl.out]
          exact good_whole HGd.out p (by rw [HTl.out, ← HQ.out, HPl.out]; exact hfull)
        have HG2 := Lib.hid hg2
        clear hg2
        go_upto_region 5 with fail
        have hst1 : ∀ W, Below w.heap.size w W → Starts W := fun W hW => HSt.out.below (Nat.le_refl _) hW
        have hro1 : ∀ W, Below w.heap.size w W → Roots W := fun W hW => HRo.out.below (Nat.le_refl _) hW
        have her : r1.length = 64 := HG2.out.2.1
        have heh : h.length = 8 := HGd.out.1
        have hch : (if N < 64 then ShaMath.start.list else h) = (chain (l ++ m.take k) (N / 64)).list := by
          have := good_chain HGd.out
          rwa [HTl.out] at this
        obtain ⟨R, hR⟩ : ∃ R, R = chain (l ++ m.take k) (N / 64) := ⟨_, rfl⟩
        rw [← hR] at hch HG2
        obtain ⟨R2, hR2⟩ : ∃ R2, R2 = comp R r1 := ⟨_, rfl⟩
        rw [← hR2] at HG2
        have hG : ∀ W W' : World, (Blk W w.heap.size 96 (stC h r1 N) ∧ (∃ zs, Blk W (w.heap.size + 1) 96 zs ∧ zs.size = 73) ∧ Below w.heap.size w W) → Below W.heap.size W W' → (Blk W' w.heap.size 96 (stC h r1 N) ∧ (∃ zs, Blk W' (w.heap.size + 1) 96 zs ∧ zs.size = 73) ∧ Below w.heap.size w W') := fun W W' hW hb => by
          obtain ⟨h1, ⟨zs, h2, h3⟩, h4⟩ := hW
          exact ⟨h1.keep hb, ⟨zs, h2.keep hb, h3⟩, h4.trans (hb.mono h4.size)⟩
        refine region_tail_by 6 _ [(23, .is (.agg (stC h r1 N))), (24, .is (.agg (us R.list))), (25, .is (.pointer (some ⟨w.heap.size, 8, none⟩))), (26, .is (.agg (bs r1))), (27, .is (.agg (us R2.list))), (28, .is (.pointer (some ⟨w.heap.size, 0, none⟩)))] [0, 1, 2, 3, 4, 5, 6, 27, 28, 38]
          (fun W => Blk W w.heap.size 96 (stC h r1 N) ∧ (∃ zs, Blk W (w.heap.size + 1) 96 zs ∧ zs.size = 73) ∧ Below w.heap.size w W) (by kernel_rfl) (by kernel_rfl) (by kernel_rfl) (by kernel_rfl) (by kernel_rfl) rfl rfl rfl rfl (by kernel_rfl) ?_ ?_ ?_
        · exact ⟨HB1.out, HZ1.out, ⟨HL1.out.os, HL1.out.tape, HL1.out.output, HL1.out.size, HL1.out.block⟩⟩
        · refine ⟨?a0, ?a1, ?a2, ?a3, ?a4, ?a5, trivial⟩
          case a0 => exact ask_load (guard_none rfl) 96 (.tmp 2) (.pointer (some ⟨w.heap.size, 0, none⟩)) (.agg (stC h r1 N)) rfl rfl (by intro k hk; cases hk; rfl) (fun W hW => hW.1.loads _ _ Tryd.underlying96 rfl (by rw [stC_size N heh her]; kernel_rfl))
          case a1 => exact ask_call hG (guard_none rfl) _ _ _ #[.agg (stC h r1 N)] (.is (.agg (us R.list))) rfl (by kernel_rfl) rfl rfl (by intro k hk; cases hk; rfl) (fun W hW => (chain_any h r1 N W heh her (hst1 W hW.2.2) (by omega)).mono fun e w' hh => ⟨_, hh.1, by show _ = _; rw [hch], hh.2⟩)
          case a2 => exact ask_field (guard_none rfl) 96 (.tmp 2) 1 (.pointer (some ⟨w.heap.size, 0, none⟩)) (.pointer (some ⟨w.heap.size, 8, none⟩)) rfl rfl (by intro k hk; cases hk; rfl) (fun W => by kernel_rfl)
          case a3 => exact ask_load (guard_none rfl) 94 (.tmp 25) (.pointer (some ⟨w.heap.size, 8, none⟩)) (.agg (bs r1)) rfl rfl (by intro k hk; cases hk; rfl) (fun W hW => hW.1.loadsAt _ _ 8 8 (r1.map bv) Tryd.underlying94 rfl (by rw [List.length_map, her]; kernel_rfl) (stC_rest N heh) rfl)
          case a4 => exact ask_call hG (guard_none rfl) _ _ _ #[.agg (us R.list), .agg (bs r1)] (.is (.agg (us R2.list))) rfl (by kernel_rfl) rfl rfl (by intro k hk; cases hk; rfl) (fun W hW => (stir_any R r1 W her (hro1 W hW.2.2)).mono fun e w' hh => ⟨_, hh.1, by show _ = _; rw [hR2], hh.2⟩)
          case a5 => exact ask_field (guard_none rfl) 96 (.tmp 2) 0 (.pointer (some ⟨w.heap.size, 0, none⟩)) (.pointer (some ⟨w.heap.size, 0, none⟩)) rfl rfl (by intro k hk; cases hk; rfl) (fun W => by kernel_rfl)
        intro a' W3 hW3 hd3 hs3 hf3
        have t0 : a'.tmps.getD 0 undef = .agg cs0 := hf3 0 rfl
        have t1 : a'.tmps.getD 1 undef = .slice a1 n cap1 := hf3 1 rfl
        have t2 : a'.tmps.getD 2 undef = .pointer (some ⟨w.heap.size, 0, none⟩) := hf3 2 rfl
        have t3 : a'.tmps.getD 3 undef = undef := hf3 3 rfl
        have t4 : a'.tmps.getD 4 undef = .pointer (some ⟨w.heap.size + 1, 0, none⟩) := hf3 4 rfl
        have t5 : a'.tmps.getD 5 undef = .int .i64 (q : Int) := hf3 5 rfl
        have t6 : a'.tmps.getD 6 undef = .int .i64 (j : Int) := hf3 6 rfl
        have t27 : a'.tmps.getD 27 undef = .agg (us R2.list) := hf3 27 rfl
        have t28 : a'.tmps.getD 28 undef = .pointer (some ⟨w.heap.size, 0, none⟩) := hf3 28 rfl
        have t38 : a'.tmps.getD 38 undef = undef := hf3 38 rfl
        obtain ⟨us', hus, ha'⟩ := act_open 39 a' hs3 hd3
        rw [← hus] at t0 t1 t2 t3 t4 t5 t6 t27 t28 t38
        have el : ((List.range 39).map us').toArray = #[us' 0, us' 1, us' 2, us' 3, us' 4, us' 5, us' 6, us' 7, us' 8, us' 9, us' 10, us' 11, us' 12, us' 13, us' 14, us' 15, us' 16, us' 17, us' 18, us' 19, us' 20, us' 21, us' 22, us' 23, us' 24, us' 25, us' 26, us' 27, us' 28, us' 29, us' 30, us' 31, us' 32, us' 33, us' 34, us' 35, us' 36, us' 37, us' 38] := rfl
        rw [el] at ha'
        subst ha'
        rw [t0, t1, t2, t3, t4, t5, t6, t27, t28, t38]
        clear hus t0 t1 t2 t3 t4 t5 t6 t27 t28 t38 el hf3 hs3 hd3
        obtain ⟨hB3, hZ3, hL3⟩ := hW3
        have hsto := hB3.storesAt (P := Tryd.prog) 93 0 (R2.list.map ru) (by rw [List.length_map]; kernel_rfl) (by rw [stC_size N heh her, List.length_map]; show 0 + 8 ≤ 73; omega) us_mem_one
        rw [stC_setWords N heh R2.list rfl] at hsto
        have HSto := Lib.hid hsto
        refine wpList_store_by rfl 93 (.tmp 28) (.tmp 27) rfl (.pointer (some ⟨w.heap.size, 0, none⟩)) (.agg (us R2.list)) rfl rfl (W3.setRow w.heap.size (stC R2.list r1 N)) HSto.out ?_
        obtain ⟨h2, hh2⟩ : ∃ h2, h2 = R2.list := ⟨_, rfl⟩
        rw [← hh2] at HG2 ⊢
        clear hst1 hro1 hch hG hR hR2 hh2 HSto hsto
        go_upto_region 6 with fail
        refine world_cut (fun W => Blk W w.heap.size 96 (stC h2 r1 N) ∧ (∃ zs, Blk W (w.heap.size + 1) 96 zs ∧ zs.size = 73) ∧ Below w.heap.size w W) ?_ ?_
        · refine ⟨hB3.row _, ?_, below_setRow hL3 _ _ (Nat.le_refl _)⟩
          obtain ⟨zs, h1, h2⟩ := hZ3
          exact ⟨zs, h1.rowOther _ (by omega), h2⟩
        clear hB3 hZ3 hL3
        rintro W2 ⟨hB2, hZ2, hL2⟩
        have HB2 := Lib.hid hB2
        have HZ2 := Lib.hid hZ2
        have HL2 := Lib.hid hL2
        clear hB2 hZ2 hL2
        have c72 : W2.cell? ⟨w.heap.size, 72, none⟩ = some (.int .u64 (N : Int)) := by rw [HB2.out.cell, stC_len N HG2.out.1 HG2.out.2.1]
        have f72 := HB2.out.frozen 72
        obtain ⟨a2, hs2, hb2⟩ := bys_from a1 n cap1 j (m.drop k) w HBs.out (by rw [List.length_drop]; have := HKN.out; omega) hnc hj2
        have HB3 := Lib.hid hb2
        clear hb2
        go_wp2
        clear hs2 c72 f72
        go_roundw
        case rel =>
          have hset := HB2.out.set 72 (.int .u64 ((N + j : Nat) : Int))
          rw [stC_setLen N HG2.out.1 HG2.out.2.1 (N + j)] at hset
          refine ⟨k + j, n - j, a2, cap1 - j, h2, r1, by have := HKN.out; omega, rfl, by omega, ?_, ?_, HG2.out, ?_, HL2.out.setCell (by simp) _⟩
          · have := HB3.out
            rwa [List.drop_drop] at this
          · rw [← Nat.add_assoc, ← HN.out]
            simpa using hset
          · obtain ⟨zs, h1, h2⟩ := HZ2.out
            exact ⟨zs, h1.other _ _ (by simp), h2⟩
        case measure =>
          show n - j < n
          omega
      · have hg2 : GoodS h r1 (l ++ m.take (k + j)) := by
          rw [HMK.out, HR1.out, HQ.out, ← HTl.out]
          exact good_part HGd.out p (by rw [HTl.out, ← HQ.out, HPl.out]; omega)
        have HG2 := Lib.hid hg2
        clear hg2
        obtain ⟨h2, rfl⟩ : ∃ h2, h2 = h := ⟨_, rfl⟩
        obtain ⟨W2, rfl⟩ : ∃ W2, W2 = W1 := ⟨_, rfl⟩
        have HB2 := Lib.hid HB1.out
        have HZ2 := Lib.hid HZ1.out
        have HL2 := Lib.hid HL1.out
        have c72 : W2.cell? ⟨w.heap.size, 72, none⟩ = some (.int .u64 (N : Int)) := by rw [HB2.out.cell, stC_len N HG2.out.1 HG2.out.2.1]
        have f72 := HB2.out.frozen 72
        obtain ⟨a2, hs2, hb2⟩ := bys_from a1 n cap1 j (m.drop k) w HBs.out (by rw [List.length_drop]; have := HKN.out; omega) hnc hj2
        have HB3 := Lib.hid hb2
        clear hb2
        go_wp2
        clear hs2 c72 f72
        go_roundw
        case rel =>
          have hset := HB2.out.set 72 (.int .u64 ((N + j : Nat) : Int))
          rw [stC_setLen N HG2.out.1 HG2.out.2.1 (N + j)] at hset
          refine ⟨k + j, n - j, a2, cap1 - j, h2, r1, by have := HKN.out; omega, rfl, by omega, ?_, ?_, HG2.out, ?_, HL2.out.setCell (by simp) _⟩
          · have := HB3.out
            rwa [List.drop_drop] at this
          · rw [← Nat.add_assoc, ← HN.out]
            simpa using hset
          · obtain ⟨zs, h1, h2⟩ := HZ2.out
            exact ⟨zs, h1.other _ _ (by simp), h2⟩
        case measure =>
          show n - j < n
          omega
    · have hn0 : n = 0 := by omega
      have hfin : m.take k = m := List.take_of_length_le (by have := HKN.out; omega)
      have hNm : N = (l ++ m).length := by rw [← HTl.out, hfin]
      have hG2 : GoodS h r (l ++ m) := by have := HGd.out; rwa [hfin] at this
      obtain ⟨cs, hcs⟩ : ∃ cs, cs = stC h r N := ⟨_, rfl⟩
      have hB2 : Blk wr w.heap.size 96 cs := by rw [hcs]; exact HBlk.out
      have hcl : cs.size = 73 := by rw [hcs]; exact stC_size N hG2.1 hG2.2.1
      have hone : cs.all (·.oneCell') = true := by rw [hcs]; exact stC_one _ _ _
      have hsz2 : (Tryd.prog.info? 96).map (·.size) = some cs.size := by rw [hcl]; kernel_rfl
      obtain ⟨zs, hz1, hz2⟩ := HZ.out
      have HB2 := Lib.hid hB2
      have HZ1 := Lib.hid hz1
      have HSz := Lib.hid (hz2.trans hcl.symm)
      have HSz2 := Lib.hid hsz2
      have HOne := Lib.hid hone
      have HCs := Lib.hid hcs
      have HNm := Lib.hid hNm
      have HG2 := Lib.hid hG2
      clear hN hTl hblk hgd hz hbel hkn hbs hfin hNm hG2 hB2 hcl hone hsz2 hz1 hz2 hcs hn0
      go_wp2_with (first
        | (refine wpList_load_row rfl 96 (.tmp 2) rfl w.heap.size rfl _ _ _ _ HB2.out Tryd.underlying96 rfl HSz2.out ?_)
        | (refine wpList_store_row rfl 96 (.tmp 4) (.tmp 38) rfl (w.heap.size + 1) cs rfl rfl _ _ HZ1.out HSz2.out HSz.out HOne.out ?_))
      refine bodyPost_ret (v := .agg cs) (results_cell_row rfl _ _ (w.heap.size + 1) _ cs _ _ rfl (HZ1.out.row cs) Tryd.underlying96 rfl HSz2.out) rfl ⟨_, rfl, ⟨h, r, ?_, HG2.out⟩, below_setRow HBel.out _ _ (by omega)⟩
      rw [HCs.out, ← HNm.out]

theorem write_any (v : Value) (l m : List UInt8) (a : Option Addr) (len cap : Nat) (w : World) (hv : IsState v l) (hm : Bys w (.slice a len cap) m) (hcap : len ≤ cap)
    (hsum : l.length + m.length ≤ 1152921504606846976) (hro : Roots w) (hst : Starts w) :
    Calls Tryd.prog 75 #[v, .slice a len cap] w fun e w' => ∃ v, e = .returned v ∧ IsState v (l ++ m) ∧ Below w.heap.size w w' := by
  obtain ⟨h, r, rfl, hg⟩ := hv
  have hlen : m.length = len := by
    rcases hm with ⟨e, rfl⟩ | ⟨ad, c, e, _⟩
    · simp at e
      rw [e.2.1]
      rfl
    · simp at e
      exact e.2.1.symm
  exact write_walk l m h r a len cap w hg hm hlen hcap (by omega) hro hst
end Go.Proofs.YtdhfabjkpffhnaaDoor

/- What the program lays behind a text. -/
namespace Go.Proofs.YtdhfabjkpffhnaaDoor
set_option maxRecDepth 20000
open Go.RowKit ShaMath

/-- append to a row of the call's own, as a walk meets it. -/
theorem grow_own {w wr : World} {B : Nat} {v x : Value} {l l' : List UInt8} (hB : B ≤ wr.heap.size) (h : Row wr B v l) (hx : Bys wr x l') (hlen : l.length + l'.length ≤ 140737488355328) (hw : Below B w wr) :
    ∃ v' w', (Builtin.append_ #[22, 22] 22 #[v, x]).run Tryd.prog wr = .ok v' w' ∧ (Row w' B v' (l ++ l') ∧ Below B w w') := by
  obtain ⟨v', w', h1, h2, h3⟩ := append_bys hB h hx hlen
  exact ⟨v', w', h1, h2, hw.grown h3 hB fun k hk => (World.ownsRow.lt h k hk).1⟩

/-- append of one byte. -/
theorem grow_one {w wr : World} {B : Nat} {v : Value} {l : List UInt8} (z : Int) (c : UInt8) (hz : Value.int .u8 z = bv c) (hB : B ≤ wr.heap.size) (h : Row wr B v l) (hlen : l.length ≤ 140737488355320) (hw : Below B w wr) :
    ∃ v' w', (Builtin.append_ #[22, 22] 22 #[v, .slice (some ⟨wr.heap.size, 0, none⟩) 1 1]).run Tryd.prog (wr.alloc (.cells #[.int .u8 z] 5)) = .ok v' w' ∧ (Row w' B v' (l ++ [c]) ∧ Below B w w') := by
  rw [hz]
  exact grow_own (by simp; omega) (h.below ((Below.refl _ _).alloc (Nat.le_refl _) _)) (byte_bys wr c) (by simp; omega) (hw.alloc hB _)

def sl : Value → Nat
  | .slice _ n _ => n
  | _ => 0

theorem Row.len {w : World} {B : Nat} {v : Value} {l : List UInt8} (h : Row w B v l) : ∃ a cap, v = .slice a l.length cap := slice_of_row h

def GapAt (n : Nat) (w : World) (s3 : Value) (wr : World) : Prop :=
  ∃ k, k ≤ gap n ∧ Row wr w.heap.size s3 (128 :: List.replicate k 0) ∧ Below w.heap.size w wr
def LenAt (n : Nat) (w : World) (s3 s4 : Value) (wr : World) : Prop :=
  ∃ j : Nat, j ≤ 8 ∧ s4 = .int .i64 (56 - 8 * (j : Int)) ∧ Row wr w.heap.size s3 (128 :: (List.replicate (gap n) 0 ++ (lenB n).take j)) ∧ Below w.heap.size w wr

theorem lenB_at (n j : Nat) (hj : j < 8) : (lenB n)[j]? = some (UInt8.ofNat (8 * n % 18446744073709551616 / 2 ^ (56 - 8 * j))) := by
  have : j = 0 ∨ j = 1 ∨ j = 2 ∨ j = 3 ∨ j = 4 ∨ j = 5 ∨ j = 6 ∨ j = 7 := by omega
  rcases this with rfl | rfl | rfl | rfl | rfl | rfl | rfl | rfl <;> rfl
theorem lenB_step (n j : Nat) (hj : j < 8) : (lenB n).take (j + 1) = (lenB n).take j ++ [UInt8.ofNat (8 * n % 18446744073709551616 / 2 ^ (56 - 8 * j))] := by
  have h := lenB_at n j hj
  obtain ⟨h1, h2⟩ := List.getElem?_eq_some_iff.1 h
  rw [List.take_succ_eq_append_getElem h1, h2]

theorem first_row (w : World) : Row (w.alloc (.cells (Value.int .u8 128 :: List.replicate 71 (Value.int .u8 0)).toArray 5)) w.heap.size (.slice (some ⟨w.heap.size, 0, none⟩) 1 72) [128] := by
  refine ⟨rfl, .inr ⟨w.heap.size, 72, _, rfl, Nat.le_refl _, heap_alloc_new w _, by simp, by unfold maxLen; omega, ?_, ?_⟩⟩
  · simp
  · rfl

theorem gap_more (n k : Nat) (h : k < gap n) : (n + (k + 1)) % 64 ≠ 56 := by
  unfold gap at h
  omega
theorem gap_end (n : Nat) : (n + (gap n + 1)) % 64 = 56 := by
  unfold gap
  omega

set_option maxRecDepth 100000 in
theorem ending_any (n : Nat) (w : World) (hn : n ≤ 1152921504606846976) :
    Calls Tryd.prog 96 #[.int .u64 (n : Int)] w fun e w' => ∃ v, e = .returned v ∧ Row w' w.heap.size v (tail n) ∧ Below w.heap.size w w' := by
  have hmk : ∀ W, (Instr.makeSlice 22 (.int .i64 1) (.int .i64 72)).run Tryd.prog W = .ok (.slice (some ⟨W.heap.size, 0, none⟩) 1 72) (W.alloc (.cells (List.replicate 72 (Value.int .u8 0)).toArray 5)) := fun W => by kernel_rfl
  go_enter Tryd.func96, Tryd.ntmps96
  go_upto_region 3 with fail
  clear hmk
  go_loopw [3] (fun s3 wr => GapAt n w s3 wr) (fun s3 _ => 100 - sl s3)
  case atStart => exact ⟨0, Nat.zero_le _, first_row w, (Below.refl _ _).alloc (Nat.le_refl _) _⟩
  case round =>
    obtain ⟨k, hk, hrow, hbel⟩ := hrel
    obtain ⟨a, cap, rfl⟩ := slice_of_row hrow
    obtain ⟨m, hm⟩ : ∃ m, m = (128 :: List.replicate k (0 : UInt8)).length := ⟨_, rfl⟩
    have hm1 : m = k + 1 := by rw [hm]; simp
    rw [← hm] at hrow ⊢
    have hk64 : gap n < 64 := by unfold gap; omega
    have hmb : m ≤ 64 := by omega
    have HM := Lib.hid hm1
    have HR := Lib.hid hrow
    have HB := Lib.hid hbel
    have hsz := hbel.size
    clear hm hrow hbel
    by_cases hlt : k < gap n
    · have hc : (((n : Int) + (m : Int)) % 64 != 56) = true := by
        have := gap_more n k hlt
        rw [hm1]
        simp
        omega
      clear hm1
      have HA := Lib.hid (grow_one (w := w) 0 0 rfl hsz HR.out (by simp; omega) HB.out)
      go_wp2_with (at_builtin; refine wpList_append_by rfl (.tmp 15) (.tmp 16) 22 rfl _ _ rfl rfl _ HA.out ?_; rintro v' w2 ⟨hr2, hb2⟩; (have HR2 := Lib.hid hr2); (have HB2 := Lib.hid hb2); clear hr2 hb2)
      go_roundw
      case rel =>
        refine ⟨k + 1, hlt, ?_, HB2.out⟩
        have h := HR2.out
        rwa [List.cons_append, ← List.replicate_succ'] at h
      case measure =>
        obtain ⟨a2, cap2, e⟩ := slice_of_row HR2.out
        have h := HM.out
        subst e
        simp [sl]
        omega
    · have hc : (((n : Int) + (m : Int)) % 64 != 56) = false := by
        have := gap_end n
        rw [hm1, show k = gap n by omega]
        simp
        omega
      have hkg : k = gap n := by omega
      have HKG := Lib.hid hkg
      clear hm1 hkg hlt
      go_wp2
      clear hc
      obtain ⟨wo, rfl⟩ : ∃ wo : World, wo = wr := ⟨_, rfl⟩
      go_loopw [3, 4] (fun s3 s4 wr => LenAt n w s3 s4 wr) (fun s3 _ _ => 200 - sl s3)
      case atStart => exact ⟨0, by omega, rfl, by rw [← HKG.out]; simpa using HR.out, HB.out⟩
      case round =>
        obtain ⟨j, hj, rfl, hrow, hbel⟩ := hrel
        obtain ⟨a1, cap1, rfl⟩ := slice_of_row hrow
        obtain ⟨m1, hm1⟩ : ∃ m, m = (128 :: (List.replicate (gap n) (0 : UInt8) ++ (lenB n).take j)).length := ⟨_, rfl⟩
        have hll : (lenB n).length = 8 := rfl
        have hm2 : m1 = gap n + 1 + j := by rw [hm1]; simp [hll]; omega
        rw [← hm1] at hrow ⊢
        have hmb1 : m1 ≤ 80 := by omega
        have HM1 := Lib.hid hm2
        have HR1 := Lib.hid hrow
        have HB1 := Lib.hid hbel
        have hsz1 := hbel.size
        clear hm1 hm2 hrow hbel hll
        by_cases hlt : j < 8
        · obtain ⟨t, ht⟩ : ∃ t : Nat, (t : Int) = 56 - 8 * (j : Int) := ⟨56 - 8 * j, by omega⟩
          rw [← ht]
          have ht2 : t = 56 - 8 * j := by omega
          have ht56 : t ≤ 56 := by omega
          obtain ⟨c, hcc⟩ : ∃ c, c = UInt8.ofNat (8 * n % 18446744073709551616 / 2 ^ (56 - 8 * j)) := ⟨_, rfl⟩
          obtain ⟨q, hq⟩ : ∃ q : Nat, q = 8 * n / 2 ^ t := ⟨_, rfl⟩
          have f1 : (8 : Int) * (n : Int) / 2 ^ t = (q : Int) := by rw [hq]; simp
          have hz : Value.int .u8 ((q : Int) % 256) = bv c := by
            rw [hcc, hq, ← ht2, Nat.mod_eq_of_lt (by omega), bv_of]
            simp
          have HA := Lib.hid (grow_one (w := w) ((q : Int) % 256) c hz hsz1 HR1.out (by simp; omega) HB1.out)
          have HC := Lib.hid hcc
          have HT := Lib.hid ht
          clear hcc hq hz ht ht2
          go_wp2_with (at_builtin; refine wpList_append_by rfl (.tmp 22) (.tmp 28) 22 rfl _ _ rfl rfl _ HA.out ?_; rintro v' w2 ⟨hr2, hb2⟩; (have HR2 := Lib.hid hr2); (have HB2 := Lib.hid hb2); clear hr2 hb2)
          refine ⟨⟨j + 1, by omega, ?_, ?_, HB2.out⟩, ?_⟩
          · have := HT.out
            have e : (t : Int) - 8 = 56 - 8 * ((j + 1 : Nat) : Int) := by omega
            rw [e]
          · have h := HR2.out
            rw [lenB_step n j hlt, ← HC.out]
            simpa using h
          · obtain ⟨a2, cap2, e⟩ := slice_of_row HR2.out
            have h := HM1.out
            have hll : (lenB n).length = 8 := rfl
            subst e
            simp [sl, hll]
            omega
        · have hj8 : j = 8 := by omega
          have hneg : ¬ (0 : Int) ≤ 56 - 8 * (j : Int) := by omega
          have HJ := Lib.hid hj8
          clear hj8 hlt hj
          go_wp2
          go_ret
          refine ⟨_, rfl, ?_, HB1.out⟩
          have h := HR1.out
          rw [HJ.out, List.take_of_length_le (by show 8 ≤ 8; omega)] at h
          exact h
end Go.Proofs.YtdhfabjkpffhnaaDoor

/- The program's hash of a state, of a text. -/
namespace Go.Proofs.YtdhfabjkpffhnaaDoor
set_option maxRecDepth 20000
open Go.RowKit ShaMath Reg

/-- i bytes of the words are laid. -/
def laidB (r : Regs) (i : Nat) : List UInt8 := (List.range i).map (byteAt r.list) ++ List.replicate (32 - i) 0
theorem laidB_length (r : Regs) (i : Nat) (h : i ≤ 32) : (laidB r i).length = 32 := by
  simp [laidB]
  omega
theorem laidB_step (r : Regs) (i : Nat) (h : i < 32) : (laidB r i).set i (byteAt r.list i) = laidB r (i + 1) := by
  unfold laidB
  rw [show 32 - i = (32 - (i + 1)) + 1 by omega, List.replicate_succ, List.set_append_right _ _ (by simp), List.range_succ, List.map_append]
  simp
theorem laidB_zero (r : Regs) : laidB r 0 = List.replicate 32 0 := by simp [laidB]
theorem laidB_all (r : Regs) : laidB r 32 = ShaMath.bytes r := by simp [laidB, ShaMath.bytes]

def ByteAt (w : World) (g g4 : Nat) (r : Regs) (s12 : Value) (wr : World) : Prop :=
  ∃ i : Nat, i ≤ 32 ∧ s12 = .int .i64 i ∧ Blk wr g 93 (us r.list) ∧ Blk wr g4 24 (bs (laidB r i)) ∧ (∃ zs, Blk wr (w.heap.size + 1) 24 zs ∧ zs.size = 32) ∧ Below w.heap.size w wr

theorem byte_value (x : BitVec 32) (t : Nat) : Value.int .u8 (rv (x >>> t) % 256) = bv (UInt8.ofNat (x.toNat / 2 ^ t)) := by
  rw [bv_of]
  congr 1
  unfold rv
  rw [BitVec.toNat_ushiftRight, Nat.shiftRight_eq_div_pow]
  simp

/-- What a call laid in memory of its own: a slice of bytes. -/
def SliceOf (l : List UInt8) (v : Value) (W : World) : Prop := ∃ a len cap, v = .slice a len cap ∧ len ≤ cap ∧ Bys W v l
theorem SliceOf.mono {l : List UInt8} : ∀ v W W', SliceOf l v W → Below W.heap.size W W' → SliceOf l v W' := fun _ _ _ ⟨a, n, c, h1, h2, h3⟩ hb => ⟨a, n, c, h1, h2, h3.below (Nat.le_refl _) hb⟩
def VarOf (B : Nat) (t : TypeId) (n : Nat) (v : Value) (W : World) : Prop := ∃ g zs, v = .pointer (some ⟨g, 0, none⟩) ∧ B ≤ g ∧ Blk W g t zs ∧ zs.size = n
theorem VarOf.mono {B : Nat} {t : TypeId} {n : Nat} : ∀ v W W', VarOf B t n v W → Below W.heap.size W W' → VarOf B t n v W' := fun _ _ _ ⟨g, zs, h1, h2, h3, h4⟩ hb => ⟨g, zs, h1, h2, h3.keep hb, h4⟩

theorem zero_words : ∃ zs, (∀ W, (zeroValue 93).run Tryd.prog W = .ok (.agg zs) W) ∧ zs.size = 8 := ⟨us (List.replicate 8 0#32), fun W => by kernel_rfl, by kernel_rfl⟩

theorem Row.sliceOf {w : World} {B : Nat} {v : Value} {l : List UInt8} (h : Row w B v l) (hl : l ≠ []) : SliceOf l v w := by
  obtain ⟨g, cap, rfl, _, _, hc, _⟩ := h.shape hl
  exact ⟨_, _, cap, rfl, hc, h.bys⟩

theorem goodS_nil : GoodS (List.replicate 8 0#32) (List.replicate 64 0) [] := good_nil _ _ rfl rfl
theorem tail_ne (n : Nat) : tail n ≠ [] := fun h => by cases h

set_option maxRecDepth 100000 in
theorem stateSum_any (v : Value) (l : List UInt8) (w : World) (hv : IsState v l) (hl : l.length ≤ 1125899906842624) (hro : Roots w) (hst : Starts w) :
    Calls Tryd.prog 76 #[v] w fun e w' => e = .returned (.agg (bs (hash l))) ∧ Below w.heap.size w w' := by
  obtain ⟨h, r, rfl, hg⟩ := hv
  obtain ⟨N, hN⟩ : ∃ N, N = l.length := ⟨_, rfl⟩
  have hcl := stC_len N hg.1 hg.2.1
  have hcz := stC_size N hg.1 hg.2.1
  have hst0 : IsState (.agg (stC h r l.length)) l := ⟨h, r, rfl, hg⟩
  rw [← hN] at hst0 hl ⊢
  obtain ⟨cs, hcs⟩ : ∃ cs, cs = stC h r N := ⟨_, rfl⟩
  rw [← hcs] at hcl hcz hst0 ⊢
  have HSt := Lib.hid hst
  have HRo := Lib.hid hro
  have HIs := Lib.hid hst0
  have HN := Lib.hid hN
  clear hst hro hg hcs hst0 hN
  obtain ⟨z8, hz8, hz8s⟩ := zero_words
  have HZ8 := Lib.hid hz8
  have HZ8s := Lib.hid hz8s
  clear hz8 hz8s
  go_enter Tryd.func76, Tryd.ntmps76
  go_upto_region 1 with fail
  refine world_cut (fun W => Blk W w.heap.size 96 cs ∧ (∃ zs, Blk W (w.heap.size + 1) 24 zs ∧ zs.size = 32) ∧ Below w.heap.size w W ∧ w.heap.size + 2 ≤ W.heap.size) ?_ ?_
  · exact ⟨(Blk.new _ _ _).alloc _, ⟨_, Blk.newAt _ _ _ _ _ (by simp) rfl, rfl⟩, ((Below.refl _ _).alloc (Nat.le_refl _) _).alloc (by simp) _, by simp⟩
  rintro W1 hW1
  have hst1 : ∀ W, Below w.heap.size w W → Starts W := fun W hW => HSt.out.below (Nat.le_refl _) hW
  have hro1 : ∀ W, Below w.heap.size w W → Roots W := fun W hW => HRo.out.below (Nat.le_refl _) hW
  have hG : ∀ W W' : World, (Blk W w.heap.size 96 cs ∧ (∃ zs, Blk W (w.heap.size + 1) 24 zs ∧ zs.size = 32) ∧ Below w.heap.size w W ∧ w.heap.size + 2 ≤ W.heap.size) → Below W.heap.size W W' → (Blk W' w.heap.size 96 cs ∧ (∃ zs, Blk W' (w.heap.size + 1) 24 zs ∧ zs.size = 32) ∧ Below w.heap.size w W' ∧ w.heap.size + 2 ≤ W'.heap.size) := fun W W' hW hb => by
    obtain ⟨h1, ⟨zs, h2, h3⟩, h4, h5⟩ := hW
    exact ⟨h1.keep hb, ⟨zs, h2.keep hb, h3⟩, h4.trans (hb.mono h4.size), Nat.le_trans h5 hb.size⟩
  obtain ⟨R, hR⟩ : ∃ R, R = chain (pad l) ((pad l).length / 64) := ⟨_, rfl⟩
  have htl : (l ++ tail N).length ≤ 1152921504606846976 := by
    rw [HN.out]
    unfold tail gap lenB
    simp
    have := HN.out
    omega
  refine region_tail_by 7 _ [(6, .is (.agg cs)), (7, .is (.pointer (some ⟨w.heap.size, 72, none⟩))), (8, .is (.int .u64 (N : Int))), (9, .sat (SliceOf (tail N)) SliceOf.mono), (10, .sat (fun v _ => IsState v (l ++ tail N)) (fun _ _ _ h _ => h)), (11, .is (.agg (us R.list))), (3, .sat (VarOf (w.heap.size + 2) 93 8) VarOf.mono)] [0, 1, 2, 3, 11]
    (fun W => Blk W w.heap.size 96 cs ∧ (∃ zs, Blk W (w.heap.size + 1) 24 zs ∧ zs.size = 32) ∧ Below w.heap.size w W ∧ w.heap.size + 2 ≤ W.heap.size) (by kernel_rfl) (by kernel_rfl) (by kernel_rfl) (by kernel_rfl) (by kernel_rfl) rfl rfl rfl rfl (by kernel_rfl) ?_ ?_ ?_
  · obtain ⟨h1, h2, h3, h4⟩ := hW1
    exact ⟨h1, h2, ⟨h3.os, h3.tape, h3.output, h3.size, h3.block⟩, h4⟩
  · refine ⟨?a0, ?a1, ?a2, ?a3, ?a4, ?a5, ?a6, trivial⟩
    case a0 => exact ask_load (guard_none rfl) 96 (.tmp 1) (.pointer (some ⟨w.heap.size, 0, none⟩)) (.agg cs) rfl rfl (by intro k hk; cases hk; rfl) (fun W hW => hW.1.loads _ _ Tryd.underlying96 rfl (by rw [hcz]; kernel_rfl))
    case a1 => exact ask_field (guard_none rfl) 96 (.tmp 1) 2 (.pointer (some ⟨w.heap.size, 0, none⟩)) (.pointer (some ⟨w.heap.size, 72, none⟩)) rfl rfl (by intro k hk; cases hk; rfl) (fun W => by kernel_rfl)
    case a2 => exact ask_load (guard_none rfl) 34 (.tmp 7) (.pointer (some ⟨w.heap.size, 72, none⟩)) (.int .u64 (N : Int)) rfl rfl (by intro k hk; cases hk; rfl) (fun W hW => by
      have hc := hW.1.cell 72
      rw [hcl] at hc
      simp [go_sem, hc])
    case a3 => exact ask_call_by hG (guard_none rfl) _ _ _ (.sat (SliceOf (tail N)) SliceOf.mono) rfl (by kernel_rfl) (by intro k hk; cases hk; rfl) (fun x W hW hk => by
      have e8 : x 8 = .int .u64 (N : Int) := hk 8 rfl
      show Calls _ _ #[x 8] W _
      rw [e8]
      refine (ending_any N W (by omega)).mono ?_
      rintro e w' ⟨v, h1, h2, h3⟩
      exact ⟨v, h1, h2.sliceOf (tail_ne N), h3⟩)
    case a4 => exact ask_call_by hG (guard_none rfl) _ _ _ (.sat (fun v _ => IsState v (l ++ tail N)) (fun _ _ _ h _ => h)) rfl (by kernel_rfl) (by intro k hk; cases hk; rfl) (fun x W hW hk => by
      have e6 : x 6 = .agg cs := hk 6 rfl
      obtain ⟨a9, n9, c9, e9, h9, b9⟩ : SliceOf (tail N) (x 9) W := hk 9 rfl
      show Calls _ _ #[x 6, x 9] W _
      rw [e6]
      rw [e9] at b9 ⊢
      refine (write_any (.agg cs) l (tail N) a9 n9 c9 W HIs.out b9 h9 (by rw [← List.length_append]; exact htl) (hro1 W hW.2.2.1) (hst1 W hW.2.2.1)).mono ?_
      rintro e w' ⟨v, h1, h2, h3⟩
      exact ⟨v, h1, h2, h3⟩)
    case a5 => exact ask_call_by hG (guard_none rfl) _ _ _ (.is (.agg (us R.list))) rfl (by kernel_rfl) (by intro k hk; cases hk; rfl) (fun x W hW hk => by
      obtain ⟨h', r', e10, hg'⟩ : IsState (x 10) (l ++ tail N) := hk 10 rfl
      show Calls _ _ #[x 10] W _
      rw [e10]
      have hh := good_chain hg'
      have hp : l ++ tail N = pad l := by rw [HN.out]; rfl
      refine (chain_any h' r' _ W hg'.1 hg'.2.1 (hst1 W hW.2.2.1) (by omega)).mono fun e w' h => ⟨_, h.1, ?_, h.2⟩
      show _ = _
      rw [hh, hp, ← hR])
    case a6 => exact ask_alloc hG (guard_none rfl) 93 (.agg z8) (.sat (VarOf (w.heap.size + 2) 93 8) VarOf.mono) rfl HZ8.out (by intro k hk; cases hk; rfl) (fun W hW => ⟨_, _, rfl, hW.2.2.2, Blk.new _ _ _, HZ8s.out⟩)
  intro a' W3 hW3 hd3 hs3 hf3
  have t0 : a'.tmps.getD 0 undef = .agg cs := hf3 0 rfl
  have t1 : a'.tmps.getD 1 undef = .pointer (some ⟨w.heap.size, 0, none⟩) := hf3 1 rfl
  have t2 : a'.tmps.getD 2 undef = .pointer (some ⟨w.heap.size + 1, 0, none⟩) := hf3 2 rfl
  obtain ⟨g3, zs3, t3, hg3, hb3, hz3⟩ : VarOf (w.heap.size + 2) 93 8 (a'.tmps.getD 3 undef) W3 := hf3 3 rfl
  have t11 : a'.tmps.getD 11 undef = .agg (us R.list) := hf3 11 rfl
  obtain ⟨us', hus, ha'⟩ := act_open 29 a' hs3 hd3
  rw [← hus] at t0 t1 t2 t3 t11
  have el : ((List.range 29).map us').toArray = #[us' 0, us' 1, us' 2, us' 3, us' 4, us' 5, us' 6, us' 7, us' 8, us' 9, us' 10, us' 11, us' 12, us' 13, us' 14, us' 15, us' 16, us' 17, us' 18, us' 19, us' 20, us' 21, us' 22, us' 23, us' 24, us' 25, us' 26, us' 27, us' 28] := rfl
  rw [el] at ha'
  subst ha'
  rw [t0, t1, t2, t3, t11]
  clear hus t0 t1 t2 t3 t11 el hf3 hs3 hd3
  obtain ⟨-, hZ3, hL3, hS3⟩ := hW3
  have hsto := hb3.stores (P := Tryd.prog) 93 (us R.list) (by rw [us_size]; kernel_rfl) (by rw [hz3, us_size]; rfl) (us_one _)
  have HSto := Lib.hid hsto
  refine wpList_store_by rfl 93 (.tmp 3) (.tmp 11) rfl (.pointer (some ⟨g3, 0, none⟩)) (.agg (us R.list)) rfl rfl (W3.setRow g3 (us R.list)) HSto.out ?_
  have hr3 := hb3.row (us R.list)
  have hlt3 := hb3.lt
  have hB4 : Below w.heap.size w (W3.setRow g3 (us R.list)) := below_setRow hL3 _ _ (by omega)
  have hZ4 : ∃ zs, Blk (W3.setRow g3 (us R.list)) (w.heap.size + 1) 24 zs ∧ zs.size = 32 := by
    obtain ⟨zs, h1, h2⟩ := hZ3
    exact ⟨zs, h1.rowOther _ (by omega), h2⟩
  have hlt4 : g3 < (W3.setRow g3 (us R.list)).heap.size := by simpa using hlt3
  obtain ⟨W4, hW4⟩ : ∃ W4, W4 = W3.setRow g3 (us R.list) := ⟨_, rfl⟩
  rw [← hW4] at hr3 hB4 hZ4 hlt4 ⊢
  have HR3 := Lib.hid hr3
  have HB4 := Lib.hid hB4
  have HZ4 := Lib.hid hZ4
  have HR := Lib.hid hR
  clear hcl hcz hG hst1 hro1 htl HSto hsto hW4 hW1 hb3 hz3 hZ3 hL3 hS3 hlt3 hr3 hB4 hZ4 hR hl
  go_upto_region 3 with fail
  refine world_cut (fun W => Blk W g3 93 (us R.list) ∧ Blk W W4.heap.size 24 (bs (laidB R 0)) ∧ (∃ zs, Blk W (w.heap.size + 1) 24 zs ∧ zs.size = 32) ∧ Below w.heap.size w W) ?_ ?_
  · refine ⟨HR3.out.alloc _, Blk.newAt _ _ _ _ _ rfl (by rw [laidB_zero]; kernel_rfl), ?_, HB4.out.alloc HB4.out.size _⟩
    obtain ⟨zs, h1, h2⟩ := HZ4.out
    exact ⟨zs, h1.alloc _, h2⟩
  obtain ⟨g4, hg4⟩ : ∃ g4, g4 = W4.heap.size := ⟨_, rfl⟩
  rw [← hg4] at hlt4 ⊢
  clear hg4 HR3 HB4 HZ4
  rintro W5 ⟨h51, h52, h53, h54⟩
  have H51 := Lib.hid h51
  have H52 := Lib.hid h52
  have H53 := Lib.hid h53
  have H54 := Lib.hid h54
  clear h51 h52 h53 h54
  go_wp2
  go_loopw [12] (fun s12 wr => ByteAt w g3 g4 R s12 wr) (fun s12 _ => 32 - (intOf s12).toNat)
  case atStart => exact ⟨0, by omega, rfl, H51.out, H52.out, H53.out, H54.out⟩
  case round =>
    obtain ⟨i, hi, rfl, hw, hh, hz, hbel⟩ := hrel
    have hsz := hbel.size
    by_cases hlt : i < 32
    · have hc := hw.cell (i / 4)
      rw [us_at _ _ (by simp [Regs.list]; omega), ru] at hc
      obtain ⟨x, hx⟩ : ∃ x, x = at0 R.list (i / 4) := ⟨_, rfl⟩
      rw [← hx] at hc
      have hc4 := hh.cell i
      rw [bs_at _ _ (by rw [laidB_length R i hi]; exact hlt)] at hc4
      have hf4 := hh.frozen i
      obtain ⟨c4, hc4e⟩ : ∃ c, c = bv ((laidB R i).getD i 0) := ⟨_, rfl⟩
      rw [← hc4e] at hc4
      obtain ⟨t, ht⟩ : ∃ t, t = 24 - i % 4 * 8 := ⟨_, rfl⟩
      have hti : (24 : Int) - (i : Int) % 4 * 8 = (t : Int) := by omega
      have ht24 : t ≤ 24 := by omega
      obtain ⟨y, hy⟩ : ∃ y, y = x >>> t := ⟨_, rfl⟩
      have f1 : rv x / 2 ^ t = rv y := by rw [rv_shr, hy]
      have hval : Value.int .u8 (rv y % 256) = bv (byteAt R.list i) := by
        rw [hy, byte_value, byteAt, ← hx, ← ht]
      have hset := hh.set i (bv (byteAt R.list i))
      rw [bs_set, laidB_step R i hlt, ← hval] at hset
      have hw2 := hw.other ⟨g4, i, none⟩ (.int .u8 (rv y % 256)) (by simp; omega)
      have hz2 : ∃ zs, Blk (wr.setCell ⟨g4, i, none⟩ (.int .u8 (rv y % 256))) (w.heap.size + 1) 24 zs ∧ zs.size = 32 := by
        obtain ⟨zs, h1, h2⟩ := hz
        exact ⟨zs, h1.other _ _ (by simp; omega), h2⟩
      have hb2 := hbel.setCell (p := ⟨g4, i, none⟩) (by simp; omega) (.int .u8 (rv y % 256))
      have HSet := Lib.hid hset
      have HW2 := Lib.hid hw2
      have HZ2 := Lib.hid hz2
      have HB2 := Lib.hid hb2
      have b0 := (rv_bd x).1
      have b1 := (rv_bd x).2
      have b2 := (rv_bd y).1
      have b3 := (rv_bd y).2
      clear hw hh hz hbel hx hc4e ht hy hval hset hw2 hz2 hb2
      go_wp2
      go_roundw
      case rel => exact ⟨i + 1, by omega, by go_num, HW2.out, HSet.out, HZ2.out, HB2.out⟩
      case measure => simp [intOf]; omega
    · have hi32 : i = 32 := by omega
      rw [hi32, laidB_all] at hh
      obtain ⟨zs, hz1, hz2⟩ := hz
      obtain ⟨bb, hbb⟩ : ∃ bb, bb = bs (ShaMath.bytes R) := ⟨_, rfl⟩
      have hbl : bb.size = 32 := by rw [hbb, bs_size, bytes_length]
      have hone : bb.all (·.oneCell') = true := by rw [hbb]; exact bs_one _
      have hsz2 : (Tryd.prog.info? 24).map (·.size) = some bb.size := by rw [hbl]; kernel_rfl
      rw [← hbb] at hh
      have HH := Lib.hid hh
      have HZ1 := Lib.hid hz1
      have HSz := Lib.hid (hz2.trans hbl.symm)
      have HSz2 := Lib.hid hsz2
      have HOne := Lib.hid hone
      have HBb := Lib.hid hbb
      have HBel := Lib.hid hbel
      clear hw hh hz1 hz2 hbel hbb hbl hone hsz2 hi32 hi
      go_wp2_with (first
        | (refine wpList_load_row rfl 24 (.tmp 4) rfl g4 rfl _ _ _ _ HH.out Tryd.underlying24 rfl HSz2.out ?_)
        | (refine wpList_store_row rfl 24 (.tmp 2) (.tmp 28) rfl (w.heap.size + 1) bb rfl rfl _ _ HZ1.out HSz2.out HSz.out HOne.out ?_))
      refine bodyPost_ret (v := .agg bb) (results_cell_row rfl _ _ (w.heap.size + 1) _ bb _ _ rfl (HZ1.out.row bb) Tryd.underlying24 rfl HSz2.out) rfl ⟨?_, below_setRow HBel.out _ _ (by omega)⟩
      rw [HBb.out, HR.out]
      rfl

theorem sum_any (m : List UInt8) (a : Option Addr) (len cap : Nat) (w : World) (hm : Bys w (.slice a len cap) m) (hcap : len ≤ cap) (hl : m.length ≤ 1125899906842624) (hro : Roots w) (hst : Starts w) :
    Calls Tryd.prog 46 #[.slice a len cap] w fun e w' => e = .returned (.agg (bs (hash m))) ∧ Below w.heap.size w w' := by
  have HM := Lib.hid hm
  have HRo := Lib.hid hro
  have HSt := Lib.hid hst
  clear hm hro hst
  obtain ⟨zc, hzc⟩ : ∃ zc, zc = zeroState := ⟨_, rfl⟩
  have hzs : ∀ W, (zeroValue 96).run Tryd.prog W = .ok (.agg zc) W := fun W => by rw [hzc]; kernel_rfl
  have HI : Hid (IsState (.agg zc) []) := Lib.hid ⟨List.replicate 8 0#32, List.replicate 64 0, by rw [hzc]; rfl, goodS_nil⟩
  clear hzc
  go_enter Tryd.func46, Tryd.ntmps46
  go_wp2_with fail
  clear hzs
  have hb0 : ∀ o : Obj, Below w.heap.size w (w.alloc o) := fun o => (Below.refl _ _).alloc (Nat.le_refl _) o
  refine (write_any (.agg zc) [] m a len cap _ HI.out (HM.out.below (Nat.le_refl _) (hb0 _)) hcap (by simp; omega) (HRo.out.below (Nat.le_refl _) (hb0 _)) (HSt.out.below (Nat.le_refl _) (hb0 _))).mono ?_
  rintro e w1 ⟨v1, rfl, hv1, hb1⟩
  have hb2 : Below w.heap.size w w1 := (hb0 _).trans (hb1.mono (by simp))
  have hz1 : ∃ zs, Blk w1 w.heap.size 24 zs ∧ zs.size = 32 := ⟨_, (Blk.newAt _ _ _ _ _ rfl rfl).keep hb1, rfl⟩
  have HV1 := Lib.hid hv1
  have HB2 := Lib.hid hb2
  have HZ1 := Lib.hid hz1
  clear hb0 hv1 hb1 hb2 hz1
  go_wp2_with fail
  refine (stateSum_any v1 m w1 (by have := HV1.out; simpa using this) hl (HRo.out.below (Nat.le_refl _) HB2.out) (HSt.out.below (Nat.le_refl _) HB2.out)).mono ?_
  rintro e w2 ⟨rfl, hb3⟩
  obtain ⟨zs, hz2, hz3⟩ := HZ1.out
  have hb4 : Below w.heap.size w w2 := HB2.out.trans (hb3.mono HB2.out.size)
  obtain ⟨bb, hbb⟩ : ∃ bb, bb = bs (hash m) := ⟨_, rfl⟩
  have hbl : bb.size = 32 := by rw [hbb, bs_size, hash_length]
  have hone : bb.all (·.oneCell') = true := by rw [hbb]; exact bs_one _
  have hsz2 : (Tryd.prog.info? 24).map (·.size) = some bb.size := by rw [hbl]; kernel_rfl
  have HZ2 := Lib.hid (hz2.keep hb3)
  have HSz := Lib.hid (hz3.trans hbl.symm)
  have HSz2 := Lib.hid hsz2
  have HOne := Lib.hid hone
  have HB4 := Lib.hid hb4
  have HBb := Lib.hid hbb
  rw [← hbb]
  clear hz2 hz3 hbl hone hsz2 hb3 hb4 hbb
  go_wp2_with (refine wpList_store_row rfl 24 (.tmp 2) (.tmp 6) rfl w.heap.size bb rfl rfl _ _ HZ2.out HSz2.out HSz.out HOne.out ?_)
  exact bodyPost_ret (v := .agg bb) (results_cell_row rfl _ _ w.heap.size _ bb _ _ rfl (HZ2.out.row bb) Tryd.underlying24 rfl HSz2.out) rfl ⟨by rw [HBb.out], below_setRow HB4.out _ _ (Nat.le_refl _)⟩
end Go.Proofs.YtdhfabjkpffhnaaDoor

/- The program's tables, as a walk holds them. -/
namespace Go.Proofs.YtdhfabjkpffhnaaDoor
set_option maxRecDepth 20000
open Go.RowKit ShaMath

/-- The program's tables. -/
def Tabs (w : World) : Prop := Roots w ∧ Starts w
theorem Tabs.below {w w' : World} {B : Nat} (h : Tabs w) (hB : w.heap.size ≤ B) (hb : Below B w w') : Tabs w' := ⟨h.1.below hB hb, h.2.below hB hb⟩
end Go.Proofs.YtdhfabjkpffhnaaDoor

