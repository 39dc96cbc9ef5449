/- Joined: ShaRefBlock, ShaRefSum, ShaEq, ShaNarrow. -/
import Derived.Test.YtdhfabjkpffhnaaDoorGCS
import Derived.Test.YtdhfabjkpffhnaaDoorArmsC
import Derived.Stop.BytesEq
import Derived.Test.YtdhfabjkpffhnaaDoorShaNarrowMath
/- One block worked in: the reference's. -/
namespace Go.Proofs.YtdhfabjkpffhnaaDoor
set_option maxRecDepth 20000
open Go.RowKit ShaMath

/-- The reference's table. -/
def Consts (w : World) : Prop := ∀ j, j < 64 → w.cell? ⟨1, j, none⟩ = some (ru (at0 K j))
theorem Consts.below {w w' : World} {B : Nat} (h : Consts w) (hB : w.heap.size ≤ B) (hb : Below B w w') : Consts w' := fun j hj => by
  have h0 := h j hj
  rw [hb.cell (p := ⟨1, j, none⟩) (Nat.lt_of_lt_of_le (World.block_lt_of_cell? w _ h0) hB)]
  exact h0

theorem bys_cell {w : World} {a : Option Addr} {len cap : Nat} {l : List UInt8} (h : Bys w (.slice a len cap) l) (i : Nat) (hi : i < l.length) : ∃ ad, a = some ad ∧ w.cell? (ad.add i) = some (bv (l.getD i 0)) := by
  rcases h with ⟨h1, rfl⟩ | ⟨ad, c, h1, hc⟩
  · simp at hi
  · simp at h1
    obtain ⟨rfl, rfl, rfl⟩ := h1
    refine ⟨ad, rfl, ?_⟩
    rw [hc i hi]
    simp [List.getD, hi]

/-- A byte on its way into a word. -/
theorem byte_num (c : UInt8) (s : Nat) (m : Int) (hm : m = 2 ^ s) (hs : s ≤ 24) : (c.toNat : Int) * m = rv (zx c <<< s) ∧ (c.toNat : Int) * m % 4294967296 = rv (zx c <<< s) ∧ rv (zx c <<< s) % 4294967296 = rv (zx c <<< s) := by
  have h1 := rv_shl_lit (zx c) s m hm
  rw [← rv_zx] at h1
  have hb := c.toNat_lt
  have hp : (2 : Int) ^ s ≤ 2 ^ 24 := by
    have := Nat.pow_le_pow_right (n := 2) (by omega) hs
    exact_mod_cast this
  have h0 : 0 < (2 : Int) ^ s := Int.pow_pos (by decide)
  have h2 : (c.toNat : Int) * m ≤ 255 * 16777216 := by
    rw [hm]
    exact Int.mul_le_mul (by omega) hp (by omega) (by omega)
  have h3 : 0 ≤ (c.toNat : Int) * m := by rw [hm]; exact Int.mul_nonneg (by omega) (by omega)
  have h4 : (c.toNat : Int) * m % 4294967296 = (c.toNat : Int) * m := by omega
  have hr := rv_bd (zx c <<< s)
  exact ⟨by rw [← h4]; exact h1, h1, by omega⟩

/-- The registers moved on by j places. -/
def shifted (V : List (BitVec 32)) : Nat → List (BitVec 32)
  | 0 => V
  | j + 1 => (shifted V j).set (7 - j) (at0 (shifted V j) (6 - j))
theorem shifted_length (V : List (BitVec 32)) (j : Nat) : (shifted V j).length = V.length := by
  induction j with
  | zero => rfl
  | succ j ih => rw [shifted, List.length_set, ih]
theorem shifted_all (q : Regs) : shifted q.list 7 = [q.a, q.a, q.b, q.c, q.d, q.e, q.f, q.g] := rfl

/-- k words are added. -/
def added (V U : List (BitVec 32)) : Nat → List (BitVec 32)
  | 0 => V
  | k + 1 => (added V U k).set k (at0 (added V U k) k + at0 U k)
theorem added_length (V U : List (BitVec 32)) (j : Nat) : (added V U j).length = V.length := by
  induction j with
  | zero => rfl
  | succ j ih => rw [added, List.length_set, ih]
theorem added_all (r q : Regs) : added r.list q.list 8 = (r.add q).list := rfl

/-- What stays while the registers turn. -/
def Rest (w : World) (r : Regs) (b : List UInt8) (wr : World) : Prop :=
  Blk wr (w.heap.size + 1 + 1) 124 (us (words b)) ∧ Blk wr w.heap.size 93 (us r.list) ∧ (∃ zs, Blk wr (w.heap.size + 1) 93 zs ∧ zs.size = 8) ∧ Below w.heap.size w wr
theorem Rest.drewN {w wr : World} {r : Regs} {b : List UInt8} (h : Rest w r b wr) (N : Nat) : Rest w r b (wr.drewN N) := by
  obtain ⟨h1, h2, ⟨zs, h3, h4⟩, h5⟩ := h
  exact ⟨h1, h2, ⟨zs, h3, h4⟩, ⟨h5.os, h5.tape, h5.output, h5.size, h5.block⟩⟩
theorem Rest.set {w wr : World} {r : Regs} {b : List UInt8} (h : Rest w r b wr) (g i : Nat) (v : Value) (hg : w.heap.size + 1 + 1 < g) : Rest w r b (wr.setCell ⟨g, i, none⟩ v) := by
  obtain ⟨h1, h2, ⟨zs, h3, h4⟩, h5⟩ := h
  exact ⟨h1.other _ _ (by simp; omega), h2.other _ _ (by simp; omega), ⟨zs, h3.other _ _ (by simp; omega), h4⟩, h5.setCell (by simp; omega) _⟩

def TurnAt (w : World) (g : Nat) (r : Regs) (b : List UInt8) (s11 : Value) (wr : World) : Prop :=
  ∃ (n : Nat) (q : Regs), n ≤ 64 ∧ q = rounds (words b) r n ∧ s11 = .int .i64 n ∧ Blk wr g 93 (us q.list) ∧ Rest w r b wr
def ShiftAt (w : World) (g : Nat) (r : Regs) (b : List UInt8) (q : Regs) (s16 : Value) (wr : World) : Prop :=
  ∃ j k : Nat, j + k = 7 ∧ s16 = .int .i64 k ∧ Blk wr g 93 (us (shifted q.list j)) ∧ Rest w r b wr
def AddAt (w : World) (g : Nat) (r : Regs) (q : Regs) (s17 : Value) (wr : World) : Prop :=
  ∃ k : Nat, k ≤ 8 ∧ s17 = .int .i64 k ∧ Blk wr w.heap.size 93 (us (added r.list q.list k)) ∧ Blk wr g 93 (us q.list) ∧ (∃ zs, Blk wr (w.heap.size + 1) 93 zs ∧ zs.size = 8) ∧ Below w.heap.size w wr

def LayAt (w : World) (r : Regs) (b : List UInt8) (s6 : Value) (wr : World) : Prop :=
  ∃ t : Nat, t ≤ 16 ∧ s6 = .int .i64 t ∧ Blk wr (w.heap.size + 1 + 1) 124 (us (laid b t)) ∧ Blk wr w.heap.size 93 (us r.list) ∧ (∃ zs, Blk wr (w.heap.size + 1) 93 zs ∧ zs.size = 8) ∧ Below w.heap.size w wr
def MoreAt (w : World) (r : Regs) (b : List UInt8) (s7 : Value) (wr : World) : Prop :=
  ∃ n t : Nat, t = 16 + n ∧ n ≤ 48 ∧ s7 = .int .i64 (t : Int) ∧ Blk wr (w.heap.size + 1 + 1) 124 (us (grown (laid b 16) n)) ∧ Blk wr w.heap.size 93 (us r.list) ∧ (∃ zs, Blk wr (w.heap.size + 1) 93 zs ∧ zs.size = 8) ∧ Below w.heap.size w wr

set_option maxHeartbeats 1000000 in
set_option maxRecDepth 100000 in
theorem refblock_any (r : Regs) (b : List UInt8) (a : Option Addr) (cap : Nat) (w : World) (hv : Bys w (.slice a 64 cap) b) (hb : b.length = 64) (ht : Consts w) :
    Calls Tryd.prog 93 #[.agg (us r.list), .slice a 64 cap] w fun e w' => e = .returned (.agg (us (comp r b).list)) ∧ Below w.heap.size w w' := by
  have HV := Lib.hid hv
  have HL := Lib.hid hb
  have HT := Lib.hid ht
  clear hv hb ht
  go_enter Tryd.func93, Tryd.ntmps93
  go_upto_region 2 with fail
  refine world_cut (fun W => Blk W (w.heap.size + 1 + 1) 124 (us (laid b 0)) ∧ Blk W w.heap.size 93 (us r.list) ∧ (∃ zs, Blk W (w.heap.size + 1) 93 zs ∧ zs.size = 8) ∧ Below w.heap.size w W) ?_ ?_
  · exact ⟨Blk.newAt _ _ _ _ _ (by simp) (by kernel_rfl), ((Blk.new _ _ _).alloc _).alloc _, ⟨_, (Blk.newAt _ _ _ _ _ (by simp) rfl).alloc _, rfl⟩, (((Below.refl _ _).alloc (Nat.le_refl _) _).alloc (by simp) _).alloc (by simp; omega) _⟩
  rintro W1 hW1
  have HW1 := Lib.hid hW1
  clear hW1
  go_wp2
  go_loopw [6] (fun s6 wr => LayAt w r b s6 wr) (fun s6 _ => 16 - (intOf s6).toNat)
  case atStart => exact ⟨0, by omega, rfl, HW1.out⟩
  case round =>
    obtain ⟨t, ht, rfl, hw, hr, hz, hbel⟩ := hrel
    have hsz := hbel.size
    by_cases hlt : t < 16
    · have hvr := HV.out.below (Nat.le_refl _) hbel
      obtain ⟨ad, rfl, d0⟩ := bys_cell hvr (4 * t) (by rw [HL.out]; omega)
      obtain ⟨_, e1, d1⟩ := bys_cell hvr (4 * t + 1) (by rw [HL.out]; omega)
      cases e1
      obtain ⟨_, e1, d2⟩ := bys_cell hvr (4 * t + 2) (by rw [HL.out]; omega)
      cases e1
      obtain ⟨_, e1, d3⟩ := bys_cell hvr (4 * t + 3) (by rw [HL.out]; omega)
      cases e1
      have da : ∀ j, ad.add (4 * t + (j + 1)) = ⟨ad.block, ad.off + (4 * t + (j + 1)), none⟩ := fun j => by simp [Addr.add]
      rw [da 0] at d1
      rw [da 1] at d2
      rw [da 2] at d3
      clear da
      obtain ⟨c0, hc0⟩ : ∃ c, c = b.getD (4 * t) 0 := ⟨_, rfl⟩
      obtain ⟨c1, hc1⟩ : ∃ c, c = b.getD (4 * t + 1) 0 := ⟨_, rfl⟩
      obtain ⟨c2, hc2⟩ : ∃ c, c = b.getD (4 * t + 2) 0 := ⟨_, rfl⟩
      obtain ⟨c3, hc3⟩ : ∃ c, c = b.getD (4 * t + 3) 0 := ⟨_, rfl⟩
      rw [← hc0, bv] at d0
      rw [← hc1, bv] at d1
      rw [← hc2, bv] at d2
      rw [← hc3, bv] at d3
      obtain ⟨x0, hx0⟩ : ∃ x, x = zx c0 <<< 24 := ⟨_, rfl⟩
      obtain ⟨x1, hx1⟩ : ∃ x, x = zx c1 <<< 16 := ⟨_, rfl⟩
      obtain ⟨x2, hx2⟩ : ∃ x, x = zx c2 <<< 8 := ⟨_, rfl⟩
      obtain ⟨x3, hx3⟩ : ∃ x, x = zx c3 := ⟨_, rfl⟩
      obtain ⟨p0, p0', p0''⟩ := byte_num c0 24 16777216 (by decide) (by omega)
      obtain ⟨p1, p1', p1''⟩ := byte_num c1 16 65536 (by decide) (by omega)
      obtain ⟨p2, p2', p2''⟩ := byte_num c2 8 256 (by decide) (by omega)
      rw [← hx0] at p0 p0' p0''
      rw [← hx1] at p1 p1' p1''
      rw [← hx2] at p2 p2' p2''
      have p3 : (c3.toNat : Int) = rv x3 := by rw [hx3, rv_zx]
      obtain ⟨o1, ho1⟩ : ∃ x, x = x0 ||| x1 := ⟨_, rfl⟩
      obtain ⟨o2, ho2⟩ : ∃ x, x = o1 ||| x2 := ⟨_, rfl⟩
      obtain ⟨o3, ho3⟩ : ∃ x, x = o2 ||| x3 := ⟨_, rfl⟩
      have hw3 : o3 = word c0 c1 c2 c3 := by rw [ho3, ho2, ho1, hx0, hx1, hx2, hx3, word]
      obtain ⟨k0, hk0⟩ : ∃ k : Nat, k = c0.toNat := ⟨_, rfl⟩
      obtain ⟨k1, hk1⟩ : ∃ k : Nat, k = c1.toNat := ⟨_, rfl⟩
      obtain ⟨k2, hk2⟩ : ∃ k : Nat, k = c2.toNat := ⟨_, rfl⟩
      obtain ⟨k3, hk3⟩ : ∃ k : Nat, k = c3.toNat := ⟨_, rfl⟩
      have b0 := (u8_bd c0).2
      have b1 := (u8_bd c1).2
      have b2 := (u8_bd c2).2
      have b3 := (u8_bd c3).2
      rw [← hk0] at d0 p0 p0' b0
      rw [← hk1] at d1 p1 p1' b1
      rw [← hk2] at d2 p2 p2' b2
      rw [← hk3] at d3 p3 b3
      have q1 : bits .or .u32 (rv x0) (rv x1) = rv o1 := by rw [rv_or, ho1]
      have q2 : bits .or .u32 (rv o1) (rv x2) = rv o2 := by rw [rv_or, ho2]
      have q3 : bits .or .u32 (rv o2) (rv x3) = rv o3 := by rw [rv_or, ho3]
      have hset := hw.set t (ru o3)
      rw [us_set, hw3, hc0, hc1, hc2, hc3] at hset
      have hct := hw.cell t
      rw [us_at _ _ (by rw [laid_length]; omega), ru] at hct
      have hft := hw.frozen t
      have HW3 := Lib.hid (And.intro hw3 (And.intro hc0 (And.intro hc1 (And.intro hc2 hc3))))
      have HW := Lib.hid hw
      have HR := Lib.hid hr
      have HZ := Lib.hid hz
      have HB := Lib.hid hbel
      have hvb : ad.block < w.heap.size := by
        have := World.block_lt_of_cell? w _ (bys_cell HV.out 0 (by rw [HL.out]; omega)).choose_spec.2
        rw [add_block] at this
        obtain ⟨ad', h1, h2⟩ := bys_cell HV.out 0 (by rw [HL.out]; omega)
        cases h1
        have := World.block_lt_of_cell? w _ h2
        rwa [add_block] at this
      clear hvr hc0 hc1 hc2 hc3 hx0 hx1 hx2 hx3 ho1 ho2 ho3 hw3 hk0 hk1 hk2 hk3 hset hw hr hz hbel
      have i0 : (0 : Int) ≤ 4 * (t : Int) := by omega
      have i1 : 4 * (t : Int) + 3 < 64 := by omega
      go_wp2_with fail
      refine region_tail 35 (by kernel_rfl) (by kernel_rfl) (fun W => W.cell? (ad.add (4 * t)) = some (.int .u8 (k0 : Int)) ∧ W.cell? ⟨ad.block, ad.off + (4 * t + 1), none⟩ = some (.int .u8 (k1 : Int)) ∧ W.cell? ⟨ad.block, ad.off + (4 * t + 2), none⟩ = some (.int .u8 (k2 : Int)) ∧ W.cell? ⟨ad.block, ad.off + (4 * t + 3), none⟩ = some (.int .u8 (k3 : Int)) ∧ W.cell? ⟨w.heap.size + 1 + 1, t, none⟩ = some (.int .u32 (rv (at0 (laid b t) t))) ∧ W.frozen? ⟨w.heap.size + 1 + 1, t, none⟩ = false ∧ Blk W (w.heap.size + 1 + 1) 124 (us (laid b t)) ∧ Blk W w.heap.size 93 (us r.list) ∧ (∃ zs, Blk W (w.heap.size + 1) 93 zs ∧ zs.size = 8) ∧ Below w.heap.size w W) ?_ ?_
      · exact ⟨by simpa using d0, by simpa using d1, by simpa using d2, by simpa using d3, by simpa using hct, by simpa using hft, HW.out, HR.out, HZ.out, ⟨HB.out.os, HB.out.tape, HB.out.output, HB.out.size, HB.out.block⟩⟩
      clear d0 d1 d2 d3 hct hft HW HR HZ HB
      rintro W2 ⟨d0, d1, d2, d3, hct, hft, hw2, hr2, hz2, hb2⟩
      have HW := Lib.hid hw2
      have HR := Lib.hid hr2
      have HZ := Lib.hid hz2
      have HB := Lib.hid hb2
      clear hw2 hr2 hz2 hb2
      simp only [List.take_succ_cons, List.take_zero, List.drop_succ_cons, List.drop_zero]
      repeat (first | go_big_quiet_skip | (go_big_quiet_want; go_big_quiet_op; go_big_quiet_on))
      refine wpQuiet_nil ?_
      go_wp2
      go_roundw
      case rel =>
        have hset := HW.out.set t (ru o3)
        rw [us_set, HW3.out.1, HW3.out.2.1, HW3.out.2.2.1, HW3.out.2.2.2.1, HW3.out.2.2.2.2, ← laid] at hset
        rw [HW3.out.1, HW3.out.2.1, HW3.out.2.2.1, HW3.out.2.2.2.1, HW3.out.2.2.2.2]
        refine ⟨t + 1, by omega, by go_num, hset, HR.out.other _ _ (by simp; omega), ?_, HB.out.setCell (by simp; omega) _⟩
        obtain ⟨zs, h1, h2⟩ := HZ.out
        exact ⟨zs, h1.other _ _ (by simp), h2⟩
      case measure => simp [intOf]; omega
    · have ht16 : t = 16 := by omega
      rw [ht16] at hw
      have HW := Lib.hid hw
      have HR := Lib.hid hr
      have HZ := Lib.hid hz
      have HB := Lib.hid hbel
      clear hw hr hz hbel ht16 ht
      go_wp2
      clear hlt
      obtain ⟨wo, rfl⟩ : ∃ wo : World, wo = wr := ⟨_, rfl⟩
      clear hsz
      go_loopw [7] (fun s7 wr => MoreAt w r b s7 wr) (fun s7 _ => 64 - (intOf s7).toNat)
      case atStart => exact ⟨0, 16, rfl, by omega, rfl, HW.out, HR.out, HZ.out, HB.out⟩
      case round =>
        clear HW HR HZ HB
        obtain ⟨n, u, hu, hn, rfl, hw, hr, hz, hbel⟩ := hrel
        have HU := Lib.hid hu
        have hsz := hbel.size
        by_cases hlt : u < 64
        · have h16 : 16 ≤ u := by omega
          have hl : (grown (laid b 16) n).length = 64 := by rw [grown_length, laid_length]
          obtain ⟨L, hL⟩ : ∃ L, L = grown (laid b 16) n := ⟨_, rfl⟩
          rw [← hL] at hw hl
          have c2 := hw.cell (u - 2)
          have c7 := hw.cell (u - 7)
          have c15 := hw.cell (u - 15)
          have c16 := hw.cell (u - 16)
          rw [us_at _ _ (by rw [hl]; omega), ru] at c2 c7 c15 c16
          have hf := hw.frozen u
          have ct := hw.cell u
          rw [us_at _ _ (by rw [hl]; omega), ru] at ct
          obtain ⟨x, hx⟩ : ∃ x, x = at0 L (u - 15) := ⟨_, rfl⟩
          obtain ⟨y, hy⟩ : ∃ x, x = at0 L (u - 2) := ⟨_, rfl⟩
          obtain ⟨x7, hx7⟩ : ∃ x, x = at0 L (u - 7) := ⟨_, rfl⟩
          obtain ⟨x16, hx16⟩ : ∃ x, x = at0 L (u - 16) := ⟨_, rfl⟩
          rw [← hx] at c15
          rw [← hy] at c2
          rw [← hx7] at c7
          rw [← hx16] at c16
          have HLg := Lib.hid hL
          have HWr := Lib.hid hw
          have HRr := Lib.hid hr
          have HZr := Lib.hid hz
          have HBr := Lib.hid hbel
          have HX := Lib.hid (And.intro hx (And.intro hy (And.intro hx7 hx16)))
          have b0 := (rv_bd x).1
          have b1 := (rv_bd x).2
          have b2 := (rv_bd y).1
          have b3 := (rv_bd y).2
          clear hL hw hr hz hbel hl hu hx hy hx7 hx16
          obtain ⟨r7, hr7⟩ : ∃ r, r = ror x 7 := ⟨_, rfl⟩
          obtain ⟨r18, hr18⟩ : ∃ r, r = ror x 18 := ⟨_, rfl⟩
          obtain ⟨r17, hr17⟩ : ∃ r, r = ror y 17 := ⟨_, rfl⟩
          obtain ⟨r19, hr19⟩ : ∃ r, r = ror y 19 := ⟨_, rfl⟩
          obtain ⟨xa, hxa⟩ : ∃ r, r = r7 ^^^ r18 := ⟨_, rfl⟩
          obtain ⟨x3, hx3⟩ : ∃ r, r = x >>> 3 := ⟨_, rfl⟩
          obtain ⟨sx, hsx⟩ : ∃ r, r = xa ^^^ x3 := ⟨_, rfl⟩
          obtain ⟨ya, hya⟩ : ∃ r, r = r17 ^^^ r19 := ⟨_, rfl⟩
          obtain ⟨y10, hy10⟩ : ∃ r, r = y >>> 10 := ⟨_, rfl⟩
          obtain ⟨sy, hsy⟩ : ∃ r, r = ya ^^^ y10 := ⟨_, rfl⟩
          have q7 : Hid (∀ W, Calls Tryd.prog 101 #[.int .u32 (rv x), .int .u64 7] W fun e w' => e = .returned (.int .u32 (rv r7)) ∧ w' = W) := Lib.hid fun W => by rw [hr7]; exact (rot_any x 7 W (by omega) (by omega)).mono fun e w' h => ⟨h.1, h.2.symm⟩
          have q18 : Hid (∀ W, Calls Tryd.prog 101 #[.int .u32 (rv x), .int .u64 18] W fun e w' => e = .returned (.int .u32 (rv r18)) ∧ w' = W) := Lib.hid fun W => by rw [hr18]; exact (rot_any x 18 W (by omega) (by omega)).mono fun e w' h => ⟨h.1, h.2.symm⟩
          have q17 : Hid (∀ W, Calls Tryd.prog 101 #[.int .u32 (rv y), .int .u64 17] W fun e w' => e = .returned (.int .u32 (rv r17)) ∧ w' = W) := Lib.hid fun W => by rw [hr17]; exact (rot_any y 17 W (by omega) (by omega)).mono fun e w' h => ⟨h.1, h.2.symm⟩
          have q19 : Hid (∀ W, Calls Tryd.prog 101 #[.int .u32 (rv y), .int .u64 19] W fun e w' => e = .returned (.int .u32 (rv r19)) ∧ w' = W) := Lib.hid fun W => by rw [hr19]; exact (rot_any y 19 W (by omega) (by omega)).mono fun e w' h => ⟨h.1, h.2.symm⟩
          have g1 : bits .xor .u32 (rv r7) (rv r18) = rv xa := by rw [rv_xor, hxa]
          have g2 : rv x / 8 = rv x3 := by rw [hx3]; exact rv_shr_lit x 3 8 (by decide)
          have g3 : bits .xor .u32 (rv xa) (rv x3) = rv sx := by rw [rv_xor, hsx]
          have g4 : bits .xor .u32 (rv r17) (rv r19) = rv ya := by rw [rv_xor, hya]
          have g5 : rv y / 1024 = rv y10 := by rw [hy10]; exact rv_shr_lit y 10 1024 (by decide)
          have g6 : bits .xor .u32 (rv ya) (rv y10) = rv sy := by rw [rv_xor, hsy]
          obtain ⟨z1, hz1⟩ : ∃ r, r = sy + x7 := ⟨_, rfl⟩
          obtain ⟨z2, hz2⟩ : ∃ r, r = z1 + sx := ⟨_, rfl⟩
          obtain ⟨z, hz⟩ : ∃ r, r = z2 + x16 := ⟨_, rfl⟩
          have e1 : (rv sy + rv x7) % 4294967296 = rv z1 := by rw [rv_add_mod, hz1]
          have e2 : (rv z1 + rv sx) % 4294967296 = rv z2 := by rw [rv_add_mod, hz2]
          have e3 : (rv z2 + rv x16) % 4294967296 = rv z := by rw [rv_add_mod, hz]
          have e1' : IntKind.u32.wrap (rv sy + rv x7) = rv z1 := by rw [rv_add, hz1]
          have e2' : IntKind.u32.wrap (rv z1 + rv sx) = rv z2 := by rw [rv_add, hz2]
          have e3' : IntKind.u32.wrap (rv z2 + rv x16) = rv z := by rw [rv_add, hz]
          have HZZ : Hid (z = nextW L u) := Lib.hid (by rw [hz, hz2, hz1, hsy, hsx, hxa, hya, hx3, hy10, hr7, hr18, hr17, hr19, nextW, HX.out.1, HX.out.2.1, HX.out.2.2.1, HX.out.2.2.2]; rfl)
          clear hr7 hr18 hr17 hr19 hxa hx3 hsx hya hy10 hsy hz1 hz2 hz
          have i1 : (0 : Int) ≤ (u : Int) - 15 := by omega
          have i2 : (u : Int) - 15 < 64 := by omega
          have i3 : (0 : Int) ≤ (u : Int) - 2 := by omega
          have i4 : (u : Int) - 2 < 64 := by omega
          have i5 : (0 : Int) ≤ (u : Int) - 7 := by omega
          have i6 : (u : Int) - 7 < 64 := by omega
          have i7 : (0 : Int) ≤ (u : Int) - 16 := by omega
          have i8 : (u : Int) - 16 < 64 := by omega
          go_wp2_with fail
          refine region_tail 29 (by kernel_rfl) (by kernel_rfl) (fun W => W.cell? ⟨w.heap.size + 1 + 1, u - 7, none⟩ = some (.int .u32 (rv x7)) ∧ W.cell? ⟨w.heap.size + 1 + 1, u - 16, none⟩ = some (.int .u32 (rv x16)) ∧ W.cell? ⟨w.heap.size + 1 + 1, u, none⟩ = some (.int .u32 (rv (at0 L u))) ∧ W.frozen? ⟨w.heap.size + 1 + 1, u, none⟩ = false ∧ Blk W (w.heap.size + 1 + 1) 124 (us L) ∧ Blk W w.heap.size 93 (us r.list) ∧ (∃ zs, Blk W (w.heap.size + 1) 93 zs ∧ zs.size = 8) ∧ Below w.heap.size w W) ?_ ?_
          · exact ⟨by simpa using c7, by simpa using c16, by simpa using ct, by simpa using hf, HWr.out, HRr.out, HZr.out, ⟨HBr.out.os, HBr.out.tape, HBr.out.output, HBr.out.size, HBr.out.block⟩⟩
          clear c7 c16 c2 c15 ct hf HWr HRr HZr HBr
          rintro W2 ⟨d7, d16, dt, df, hw2, hr2, hz2, hb2⟩
          have HW2 := Lib.hid hw2
          have HR2 := Lib.hid hr2
          have HZ2 := Lib.hid hz2
          have HB2 := Lib.hid hb2
          clear hw2 hr2 hz2 hb2
          simp only [List.take_succ_cons, List.take_zero, List.drop_succ_cons, List.drop_zero]
          repeat (first | go_big_quiet_skip | (go_big_quiet_want; go_big_quiet_op; first | go_big_quiet_on | ((with_reducible first | refine ⟨_, q7.out _, ?_⟩ | refine ⟨_, q18.out _, ?_⟩ | refine ⟨_, q17.out _, ?_⟩ | refine ⟨_, q19.out _, ?_⟩); go_big_quiet_on)))
          refine wpQuiet_nil ?_
          go_wp2
          go_roundw
          case rel =>
            have hset := HW2.out.set u (ru z)
            rw [us_set] at hset
            have hfe : L.set u z = grown (laid b 16) (n + 1) := by rw [HZZ.out, grown, ← HLg.out, ← HU.out]
            rw [hfe] at hset
            refine ⟨n + 1, u + 1, by have := HU.out; omega, by have := HU.out; omega, by go_num, hset, HR2.out.other _ _ (by simp; omega), ?_, HB2.out.setCell (by simp; omega) _⟩
            obtain ⟨zs, h1, h2⟩ := HZ2.out
            exact ⟨zs, h1.other _ _ (by simp), h2⟩
          case measure => simp [intOf]; omega
        · have h48 : n = 48 := by omega
          rw [h48] at hw
          have HW := Lib.hid (And.intro hw (And.intro hr (And.intro hz hbel)))
          have hgl := hw.lt
          have HRr := Lib.hid hr
          have HLr : Hid ((us r.list).size = 8) := Lib.hid rfl
          have HSz : Hid ((Tryd.prog.info? 93).map (·.size) = some (us r.list).size) := Lib.hid (by kernel_rfl)
          have HOne := Lib.hid (us_one r.list)
          obtain ⟨cs, hcs⟩ : ∃ cs, cs = us r.list := ⟨_, rfl⟩
          rw [← hcs] at HRr HLr HSz HOne
          have HCs := Lib.hid hcs
          clear hw hr hz hbel hu hn h48 hcs
          go_upto_region 13 with (first
            | (refine wpList_load_row rfl 93 (.tmp 2) rfl w.heap.size rfl _ cs _ _ HRr.out Tryd.underlying93 rfl HSz.out ?_)
            | (refine wpList_store_row rfl 93 (.tmp 10) (.tmp 98) rfl wr.heap.size cs rfl rfl _ _ (heap_alloc_new wr _) HSz.out (by rw [HLr.out]; rfl) HOne.out ?_))
          obtain ⟨g, hgg⟩ : ∃ g, g = wr.heap.size := ⟨_, rfl⟩
          rw [← hgg]
          refine world_cut (fun W => Blk W g 93 (us r.list) ∧ Rest w r b W) ?_ ?_
          · obtain ⟨h1, h2, ⟨zs, h3, h4⟩, h5⟩ := HW.out
            rw [hgg, ← HCs.out]
            refine ⟨Blk.row (heap_alloc_new wr _) cs, ?_, ?_, ⟨zs, (h3.alloc _).rowOther _ (by omega), h4⟩, below_setRow (h5.alloc (by omega) _) _ _ (by omega)⟩
            · exact (h1.alloc _).rowOther _ (by omega)
            · exact (h2.alloc _).rowOther _ (by omega)
          have hg2 : w.heap.size + 1 + 1 < g := by omega
          clear HW HRr HLr HSz HOne HCs hgg hgl hsz
          rintro W3 ⟨h31, h32⟩
          have H31 := Lib.hid h31
          have H32 := Lib.hid h32
          clear h31 h32
          go_wp2
          clear hlt
          go_loopw [11] (fun s11 wr => TurnAt w g r b s11 wr) (fun s11 _ => 64 - (intOf s11).toNat)
          case atStart => exact ⟨0, r, by omega, rfl, rfl, H31.out, H32.out⟩
          case round =>
            obtain ⟨m, q, hm, hq, rfl, hv, hrest⟩ := hrel
            by_cases hlt : m < 64
            · obtain ⟨qa, qb, qc, qd, qe, qf, qg, qh⟩ := q
              have c0 := hv.cell 0
              have c1 := hv.cell 1
              have c2 := hv.cell 2
              have c3 := hv.cell 3
              have c4 := hv.cell 4
              have c5 := hv.cell 5
              have c6 := hv.cell 6
              have c7 := hv.cell 7
              rw [us_at _ _ (by simp [Regs.list]), ru] at c0 c1 c2 c3 c4 c5 c6 c7
              simp only [at0, Regs.list, List.getD_cons_zero, List.getD_cons_succ] at c0 c1 c2 c3 c4 c5 c6 c7
              have hK := HT.out.below (Nat.le_refl _) hrest.2.2.2 m hlt
              have hc := hrest.1.cell m
              rw [us_at _ _ (by rw [words_length]; exact hlt)] at hc
              rw [ru] at hK hc
              obtain ⟨kk, hkk⟩ : ∃ x, x = at0 K m := ⟨_, rfl⟩
              obtain ⟨ww, hww⟩ : ∃ x, x = at0 (words b) m := ⟨_, rfl⟩
              rw [← hkk] at hK
              rw [← hww] at hc
              obtain ⟨r6, r11, r25, x1, x2, y1, ef, ne, ng, cc, y2, y3, t1, h6, h11, h25, a1, a2, a3, a3', a4, a5, a5', a6, a7, a8, a8', a9, a9', a10, a10', ht1⟩ := t1_num qe qf qg qh kk ww
              obtain ⟨r2, r13, r22, z1, z2, ab, ac, m1, bc, mm, t2, h2, h13, h22, b1, b2, b3, b4, b5, b6, b7, b8, b8', ht2⟩ := t2_num qa qb qc
              have q6 : Hid (∀ N, Calls Tryd.prog 101 #[.int .u32 (rv qe), .int .u64 6] (wr.drewN N) fun e w' => e = .returned (.int .u32 (rv r6)) ∧ ∃ m, w' = wr.drewN m) := Lib.hid fun N => by rw [h6]; exact (rot_any qe 6 _ (by omega) (by omega)).mono fun e w' h => ⟨h.1, N, h.2.symm⟩
              have q11 : Hid (∀ N, Calls Tryd.prog 101 #[.int .u32 (rv qe), .int .u64 11] (wr.drewN N) fun e w' => e = .returned (.int .u32 (rv r11)) ∧ ∃ m, w' = wr.drewN m) := Lib.hid fun N => by rw [h11]; exact (rot_any qe 11 _ (by omega) (by omega)).mono fun e w' h => ⟨h.1, N, h.2.symm⟩
              have q25 : Hid (∀ N, Calls Tryd.prog 101 #[.int .u32 (rv qe), .int .u64 25] (wr.drewN N) fun e w' => e = .returned (.int .u32 (rv r25)) ∧ ∃ m, w' = wr.drewN m) := Lib.hid fun N => by rw [h25]; exact (rot_any qe 25 _ (by omega) (by omega)).mono fun e w' h => ⟨h.1, N, h.2.symm⟩
              have g2 : Hid (r2 = ror qa 2) := Lib.hid h2
              have g13 : Hid (r13 = ror qa 13) := Lib.hid h13
              have g22 : Hid (r22 = ror qa 22) := Lib.hid h22
              obtain ⟨da, hda⟩ : ∃ x, x = qd + t1 := ⟨_, rfl⟩
              obtain ⟨aa, haa⟩ : ∃ x, x = t1 + t2 := ⟨_, rfl⟩
              have d1 : (rv qd + rv t1) % 4294967296 = rv da := by rw [rv_add_mod, hda]
              have d2 : (rv t1 + rv t2) % 4294967296 = rv aa := by rw [rv_add_mod, haa]
              have hst : Hid ((⟨aa, qa, qb, qc, da, qe, qf, qg⟩ : Regs) = rounds (words b) r (m + 1)) := Lib.hid (by rw [rounds, ← hq, haa, hda, ht1, ht2, hkk, hww]; rfl)
              have HVv := Lib.hid hv
              have HRe := Lib.hid hrest
              clear hq hv hrest hkk hww h6 h11 h25 h2 h13 h22 ht1 ht2 hda haa
              go_wp2_with fail
              go_quiet (first | with_reducible exact q6.out _ | with_reducible exact q11.out _ | with_reducible exact q25.out _)
              go_wp2_with fail
              refine world_cut (fun W => W.cell? ⟨g, 1, none⟩ = some (.int .u32 (rv qb)) ∧ W.cell? ⟨g, 2, none⟩ = some (.int .u32 (rv qc)) ∧ Blk W g 93 (us (Regs.list ⟨qa, qb, qc, qd, qe, qf, qg, qh⟩)) ∧ Rest w r b W) ?_ ?_
              · exact ⟨by simpa using c1, by simpa using c2, HVv.out, HRe.out.drewN _⟩
              clear c0 c1 c2 c3 c4 c5 c6 c7 hK hc HVv HRe q6 q11 q25
              rintro W4 ⟨c1, c2, hv4, hre4⟩
              have q2 : Hid (∀ N, Calls Tryd.prog 101 #[.int .u32 (rv qa), .int .u64 2] (W4.drewN N) fun e w' => e = .returned (.int .u32 (rv r2)) ∧ ∃ m, w' = W4.drewN m) := Lib.hid fun N => by rw [g2.out]; exact (rot_any qa 2 _ (by omega) (by omega)).mono fun e w' h => ⟨h.1, N, h.2.symm⟩
              have q13 : Hid (∀ N, Calls Tryd.prog 101 #[.int .u32 (rv qa), .int .u64 13] (W4.drewN N) fun e w' => e = .returned (.int .u32 (rv r13)) ∧ ∃ m, w' = W4.drewN m) := Lib.hid fun N => by rw [g13.out]; exact (rot_any qa 13 _ (by omega) (by omega)).mono fun e w' h => ⟨h.1, N, h.2.symm⟩
              have q22 : Hid (∀ N, Calls Tryd.prog 101 #[.int .u32 (rv qa), .int .u64 22] (W4.drewN N) fun e w' => e = .returned (.int .u32 (rv r22)) ∧ ∃ m, w' = W4.drewN m) := Lib.hid fun N => by rw [g22.out]; exact (rot_any qa 22 _ (by omega) (by omega)).mono fun e w' h => ⟨h.1, N, h.2.symm⟩
              have HVv := Lib.hid hv4
              have HRe := Lib.hid hre4
              clear hv4 hre4
              go_quiet (first | with_reducible exact q2.out _ | with_reducible exact q13.out _ | with_reducible exact q22.out _)
              go_wp2
              clear c1 c2 q2 q13 q22
              obtain ⟨q, hq⟩ : ∃ q : Regs, q = ⟨qa, qb, qc, qd, qe, qf, qg, qh⟩ := ⟨_, rfl⟩
              rw [← hq] at HVv
              go_loopw [16] (fun s16 wr => ShiftAt w g r b q s16 wr) (fun s16 _ => (intOf s16).toNat)
              case atStart => exact ⟨0, 7, rfl, rfl, HVv.out, HRe.out.drewN _⟩
              case round =>
                obtain ⟨j, k, hjk, rfl, hv, hrest⟩ := hrel
                have hsl : (shifted q.list j).length = 8 := by rw [shifted_length]; rfl
                by_cases hpos : 0 < k
                · have ck := hv.cell (k - 1)
                  have ck2 := hv.cell k
                  have fk := hv.frozen k
                  rw [us_at _ _ (by rw [hsl]; omega), ru] at ck ck2
                  have hset := hv.set k (ru (at0 (shifted q.list j) (k - 1)))
                  rw [us_set] at hset
                  have hfe : (shifted q.list j).set k (at0 (shifted q.list j) (k - 1)) = shifted q.list (j + 1) := by rw [shifted, show 7 - j = k by omega, show 6 - j = k - 1 by omega]
                  rw [hfe, ru] at hset
                  obtain ⟨x, hx⟩ : ∃ x, x = at0 (shifted q.list j) (k - 1) := ⟨_, rfl⟩
                  rw [← hx] at ck hset
                  have hre2 := hrest.set g k (.int .u32 (rv x)) hg2
                  have HSe := Lib.hid hset
                  have HRe2 := Lib.hid hre2
                  have hk7 : k ≤ 7 := by omega
                  clear hv hrest hset hfe hx hre2 hsl
                  go_wp2
                  go_roundw
                  case rel => exact ⟨j + 1, k - 1, by omega, by go_num, HSe.out, HRe2.out⟩
                  case measure => simp [intOf]; omega
                · have hk0 : k = 0 := by omega
                  have hj7 : j = 7 := by omega
                  rw [hj7, shifted_all] at hv
                  have e4 := hv.cell 4
                  have e0 := hv.cell 0
                  have f4 := hv.frozen 4
                  have f0 := hv.frozen 0
                  rw [us_at _ _ (by simp), ru] at e4 e0
                  simp only [at0, List.getD_cons_zero, List.getD_cons_succ] at e4 e0
                  rw [show q.d = qd by rw [hq]] at e4
                  have hs4 := hv.set 4 (ru da)
                  rw [us_set] at hs4
                  have hs0 := hs4.set 0 (ru aa)
                  rw [us_set] at hs0
                  have hfe : (([q.a, q.a, q.b, q.c, q.d, q.e, q.f, q.g] : List (BitVec 32)).set 4 da).set 0 aa = Regs.list ⟨aa, qa, qb, qc, da, qe, qf, qg⟩ := by rw [hq]; rfl
                  rw [hfe, ru, ru] at hs0
                  have hre2 := (hrest.set g 4 (.int .u32 (rv da)) hg2).set g 0 (.int .u32 (rv aa)) hg2
                  have HS0 := Lib.hid hs0
                  have HRe2 := Lib.hid hre2
                  have HQ := Lib.hid hq
                  clear hv hrest hs4 hs0 hfe hre2 hsl hjk hj7 hq
                  go_wp2
                  go_roundw
                  case rel => exact ⟨m + 1, _, by omega, hst.out, by go_num, by first | exact HS0.out | (rw [d1, d2]; exact HS0.out) | (rw [d2]; exact HS0.out) | (rw [d1]; exact HS0.out), by first | exact HRe2.out | (rw [d1, d2]; exact HRe2.out) | (rw [d2]; exact HRe2.out) | (rw [d1]; exact HRe2.out)⟩
                  case measure => simp [intOf]; omega
            · have hm64 : m = 64 := by omega
              rw [hm64] at hq
              have HQ := Lib.hid hq
              have HVv := Lib.hid hv
              have HRe := Lib.hid hrest
              clear hq hv hrest hm64 hm
              go_wp2
              clear hlt
              obtain ⟨wo2, rfl⟩ : ∃ wo2 : World, wo2 = wr := ⟨_, rfl⟩
              go_loopw [17] (fun s17 wr => AddAt w g r q s17 wr) (fun s17 _ => 8 - (intOf s17).toNat)
              case atStart => exact ⟨0, by omega, rfl, HRe.out.2.1, HVv.out, HRe.out.2.2⟩
              case round =>
                obtain ⟨k, hk, rfl, hh, hv, hz, hbel⟩ := hrel
                have hsz := hbel.size
                by_cases hlt : k < 8
                · have hal : (added r.list q.list k).length = 8 := by rw [added_length]; rfl
                  have ch := hh.cell k
                  have fh := hh.frozen k
                  have cv := hv.cell k
                  rw [us_at _ _ (by rw [hal]; exact hlt), ru] at ch
                  rw [us_at _ _ (by simp [Regs.list]; omega), ru] at cv
                  obtain ⟨x, hx⟩ : ∃ x, x = at0 (added r.list q.list k) k := ⟨_, rfl⟩
                  obtain ⟨y, hy⟩ : ∃ x, x = at0 q.list k := ⟨_, rfl⟩
                  obtain ⟨z, hz0⟩ : ∃ z, z = x + y := ⟨_, rfl⟩
                  rw [← hx] at ch
                  rw [← hy] at cv
                  have e1 : (rv x + rv y) % 4294967296 = rv z := by rw [rv_add_mod, hz0]
                  have e1' : IntKind.u32.wrap (rv x + rv y) = rv z := by rw [rv_add, hz0]
                  have hset := hh.set k (ru z)
                  rw [us_set] at hset
                  have hfe : (added r.list q.list k).set k z = added r.list q.list (k + 1) := by rw [hz0, hx, hy]; rfl
                  have hfe2 := Lib.hid hfe
                  rw [hfe, ru] at hset
                  have HSe := Lib.hid hset
                  have HHh := Lib.hid hh
                  have HV2 := Lib.hid hv
                  have HZ := Lib.hid hz
                  have HBl := Lib.hid hbel
                  clear hh hv hz hbel hset hfe hx hy hz0 hal
                  go_wp2_with fail
                  refine region_tail 8 (by kernel_rfl) (by kernel_rfl) (fun W => W.cell? ⟨w.heap.size, k, none⟩ = some (.int .u32 (rv x)) ∧ W.frozen? ⟨w.heap.size, k, none⟩ = false ∧ W.cell? ⟨g, k, none⟩ = some (.int .u32 (rv y)) ∧ Blk W w.heap.size 93 (us (added r.list q.list k)) ∧ Blk W g 93 (us q.list) ∧ (∃ zs, Blk W (w.heap.size + 1) 93 zs ∧ zs.size = 8) ∧ Below w.heap.size w W) ?_ ?_
                  · exact ⟨by simpa using ch, by simpa using fh, by simpa using cv, HHh.out, HV2.out, HZ.out, ⟨HBl.out.os, HBl.out.tape, HBl.out.output, HBl.out.size, HBl.out.block⟩⟩
                  clear ch fh cv HSe HHh HV2 HZ HBl
                  rintro W5 ⟨ch, fh, cv, hh5, hv5, hz5, hb5⟩
                  have hset := hh5.set k (ru z)
                  rw [us_set] at hset
                  have HH5 := Lib.hid hset
                  have HV5 := Lib.hid hv5
                  have HZ5 := Lib.hid hz5
                  have HB5 := Lib.hid hb5
                  clear hset hh5 hv5 hz5 hb5
                  simp only [List.take_succ_cons, List.take_zero, List.drop_succ_cons, List.drop_zero]
                  repeat (first | go_big_quiet_skip | (go_big_quiet_want; go_big_quiet_op; go_big_quiet_on))
                  refine wpQuiet_nil ?_
                  go_wp2
                  go_roundw
                  case rel =>
                    have hset := HH5.out
                    rw [hfe2.out, ru] at hset
                    refine ⟨k + 1, by omega, by go_num, hset, HV5.out.other _ _ (by simp; omega), ?_, HB5.out.setCell (by simp) _⟩
                    obtain ⟨zs, h1, h2⟩ := HZ5.out
                    exact ⟨zs, h1.other _ _ (by simp), h2⟩
                  case measure => simp [intOf]; omega
                · have hk8 : k = 8 := by omega
                  rw [hk8, added_all] at hh
                  obtain ⟨zs, hz1, hz2⟩ := hz
                  obtain ⟨cs, hcs⟩ : ∃ cs, cs = us (r.add q).list := ⟨_, rfl⟩
                  have hcl : cs.size = 8 := by rw [hcs]; rfl
                  have hone : cs.all (·.oneCell') = true := by rw [hcs]; exact us_one _
                  have hszc : (Tryd.prog.info? 93).map (·.size) = some cs.size := by rw [hcl]; kernel_rfl
                  rw [← hcs] at hh
                  have HH := Lib.hid hh
                  have HZ1 := Lib.hid hz1
                  have HSz := Lib.hid (hz2.trans hcl.symm)
                  have HSz2 := Lib.hid hszc
                  have HOne := Lib.hid hone
                  have HCs := Lib.hid hcs
                  have HBl := Lib.hid hbel
                  clear hh hv hz1 hz2 hbel hcl hone hszc hcs hk8 hk
                  go_wp2_with (first
                    | (refine wpList_load_row rfl 93 (.tmp 2) rfl w.heap.size rfl _ cs _ _ HH.out Tryd.underlying93 rfl HSz2.out ?_)
                    | (refine wpList_store_row rfl 93 (.tmp 4) (.tmp 192) rfl (w.heap.size + 1) cs rfl rfl _ _ HZ1.out HSz2.out HSz.out HOne.out ?_))
                  refine bodyPost_ret (v := .agg cs) (results_cell_row rfl _ _ (w.heap.size + 1) _ cs _ _ rfl (HZ1.out.row cs) Tryd.underlying93 rfl HSz2.out) rfl ⟨?_, below_setRow HBl.out _ _ (by omega)⟩
                  rw [HCs.out, comp, ← HQ.out]
end Go.Proofs.YtdhfabjkpffhnaaDoor

/- The reference's hash of a text. -/
namespace Go.Proofs.YtdhfabjkpffhnaaDoor
set_option maxRecDepth 20000
open Go.RowKit ShaMath Reg

def HashVar (w : World) (wr : World) : Prop := (∃ zs, Blk wr w.heap.size 24 zs ∧ zs.size = 32) ∧ Below w.heap.size w wr
theorem HashVar.keep {w W W' : World} (h : HashVar w W) (hb : Below W.heap.size W W') : HashVar w W' := by
  obtain ⟨⟨zs, h1, h2⟩, h3⟩ := h
  exact ⟨⟨zs, h1.keep hb, h2⟩, h3.trans (hb.mono h3.size)⟩
theorem HashVar.grown {w W W' : World} {v : Value} {l : List UInt8} {B : Nat} (h : HashVar w W) (hg : W.grownBy W' v.ownBlock) (hr : Row W B v l) (hB : w.heap.size + 1 ≤ B) : HashVar w W' := by
  obtain ⟨⟨zs, h1, h2⟩, h3⟩ := h
  have hlt := h1.lt
  have hb : Below (w.heap.size + 1) W W' := (Below.refl _ _).grown hg (by omega) (fun k hk => by have := (World.ownsRow.lt hr k hk).1; omega)
  exact ⟨⟨zs, h1.below (by omega) hb, h2⟩, h3.trans (hb.mono (by omega))⟩
theorem HashVar.set {w W : World} (h : HashVar w W) (g i : Nat) (v : Value) (hg : w.heap.size < g) : HashVar w (W.setCell ⟨g, i, none⟩ v) := by
  obtain ⟨⟨zs, h1, h2⟩, h3⟩ := h
  exact ⟨⟨zs, h1.other _ _ (by simp; omega), h2⟩, h3.setCell (by simp; omega) _⟩

/-- append of one byte, and what stays. -/
theorem grow_hash {w wr : World} {v : Value} {l : List UInt8} (z : Int) (c : UInt8) (hz : Value.int .u8 z = bv c) (h : Row wr (w.heap.size + 1) v l) (hlen : l.length ≤ 140737488355320) (hw : HashVar w wr) :
    ∃ v' w', (Builtin.append_ #[22, 22] 22 #[v, .slice (some ⟨wr.heap.size, 0, none⟩) 1 1]).run Tryd.prog (wr.alloc (.cells #[.int .u8 z] 5)) = .ok v' w' ∧ (Row w' (w.heap.size + 1) v' (l ++ [c]) ∧ HashVar w w') := by
  rw [hz]
  have hb : Below wr.heap.size wr (wr.alloc (.cells #[bv c] 5)) := (Below.refl _ _).alloc (Nat.le_refl _) _
  have hr := h.below hb
  have hv := hw.keep hb
  have hsz : w.heap.size + 1 ≤ (wr.alloc (.cells #[bv c] 5)).heap.size := by
    obtain ⟨⟨zs, h1, _⟩, _⟩ := hv
    exact h1.lt
  obtain ⟨v', w', h1, h2, h3⟩ := append_bys hsz hr (byte_bys wr c) (by simp; omega)
  exact ⟨v', w', h1, h2, hv.grown h3 hr (Nat.le_refl _)⟩

def RGapAt (l : List UInt8) (w : World) (s3 : Value) (wr : World) : Prop :=
  ∃ k, k ≤ gap l.length ∧ Row wr (w.heap.size + 1) s3 (l ++ 128 :: List.replicate k 0) ∧ HashVar w wr
def RLenAt (l : List UInt8) (w : World) (s3 s5 : Value) (wr : World) : Prop :=
  ∃ j : Nat, j ≤ 8 ∧ s5 = .int .i64 (7 - (j : Int)) ∧ Row wr (w.heap.size + 1) s3 (l ++ 128 :: (List.replicate (gap l.length) 0 ++ (lenB l.length).take j)) ∧ HashVar w wr
def RBlockAt (l : List UInt8) (w wp : World) (g : Nat) (s7 : Value) (wr : World) : Prop :=
  ∃ c t : Nat, t = 64 * c ∧ t ≤ (pad l).length ∧ s7 = .int .i64 t ∧ Blk wr g 93 (us (chain (pad l) c).list) ∧ Below g wp wr ∧ HashVar w wr
def RByteAt (w : World) (g g4 : Nat) (r : Regs) (s9 : Value) (wr : World) : Prop :=
  ∃ i : Nat, i ≤ 32 ∧ s9 = .int .i64 i ∧ Blk wr g 93 (us r.list) ∧ Blk wr g4 24 (bs (laidB r i)) ∧ HashVar w wr

theorem pad_length (l : List UInt8) : (pad l).length % 64 = 0 := by
  have := tail_length l.length
  rw [pad, List.length_append]
  exact this
theorem pad_le (l : List UInt8) : (pad l).length ≤ l.length + 72 := by
  unfold pad tail gap lenB
  simp
  omega

set_option maxHeartbeats 1000000 in
set_option maxRecDepth 100000 in
theorem refsum_any (l : List UInt8) (a : Option Addr) (len cap : Nat) (w : World) (hv : Bys w (.slice a len cap) l) (hll : l.length = len) (hl : len ≤ 140737488355200) (ht : Consts w) :
    Calls Tryd.prog 74 #[.slice a len cap] w fun e w' => e = .returned (.agg (bs (hash l))) ∧ Below w.heap.size w w' := by
  have HV := Lib.hid hv
  have HLL := Lib.hid hll
  have HT := Lib.hid ht
  clear hv hll ht
  go_enter Tryd.func74, Tryd.ntmps74
  go_upto_region 1 with fail
  refine world_cut (fun W => HashVar w W) ⟨⟨_, Blk.newAt _ _ _ _ _ rfl rfl, rfl⟩, (Below.refl _ _).alloc (Nat.le_refl _) _⟩ ?_
  intro W1 hW1
  have hs1 : w.heap.size + 1 ≤ W1.heap.size := by
    obtain ⟨⟨zs, h1, _⟩, _⟩ := hW1
    exact h1.lt
  have hb0 : Below W1.heap.size W1 (W1.alloc (.cells #[] 5)) := (Below.refl _ _).alloc (Nat.le_refl _) _
  have A1 := Lib.hid (append_lit (B := w.heap.size + 1) (g := W1.heap.size) (w := W1.alloc (.cells #[] 5)) hs1 (heap_alloc_new W1 _) ((HV.out.below (Nat.le_refl _) hW1.2).below (Nat.le_refl _) hb0) (by rw [HLL.out]; omega))
  have HW1 := Lib.hid hW1
  have HB0 := Lib.hid hb0
  clear hb0 hW1
  go_wp2_with (first
    | (at_builtin; refine wpList_append_by rfl (.tmp 10) (.tmp 11) 22 rfl _ _ rfl rfl _ A1.out ?_; rintro v12 w2 ⟨hr12, hb2⟩; (have HR12 := Lib.hid hr12); (have HB2 := Lib.hid hb2); clear hr12 hb2; (have A2 := Lib.hid (grow_hash (w := w) 128 128 rfl HR12.out (by rw [HLL.out]; omega) ((HW1.out.keep HB0.out).keep HB2.out))))
    | (at_builtin; refine wpList_append_by rfl (.tmp 12) (.tmp 13) 22 rfl _ _ rfl rfl _ A2.out ?_; rintro v14 w3 ⟨hr14, hb3⟩; (have HR14 := Lib.hid hr14); (have HB3 := Lib.hid hb3); clear hr14 hb3))
  clear A1 HW1 HB0
  go_loopw [3] (fun s3 wr => RGapAt l w s3 wr) (fun s3 _ => len + 200 - sl s3)
  case atStart => exact ⟨0, Nat.zero_le _, HR14.out, HB3.out⟩
  case round =>
    obtain ⟨k, hk, hrow, hvar⟩ := hrel
    obtain ⟨a3, cap3, rfl⟩ := slice_of_row hrow
    obtain ⟨m, hm⟩ : ∃ m, m = (l ++ 128 :: List.replicate k (0 : UInt8)).length := ⟨_, rfl⟩
    have hm1 : m = len + (k + 1) := by rw [hm, List.length_append, HLL.out]; simp
    rw [← hm] at hrow ⊢
    have hk64 : gap l.length < 64 := by unfold gap; omega
    have hmb : m ≤ len + 64 := by omega
    have HM := Lib.hid hm1
    have HMl := Lib.hid hm
    have HR := Lib.hid hrow
    have HVr := Lib.hid hvar
    clear hm hrow hvar
    by_cases hlt : k < gap l.length
    · have hc : ((m : Int) % 64 != 56) = true := by
        have := gap_more l.length k hlt
        rw [HLL.out] at this
        rw [hm1]
        simp
        omega
      clear hm1
      have HA := Lib.hid (grow_hash (w := w) 0 0 rfl HR.out (by rw [← HMl.out]; omega) HVr.out)
      go_wp2_with (at_builtin; refine wpList_append_by rfl (.tmp 19) (.tmp 20) 22 rfl _ _ rfl rfl _ HA.out ?_; rintro v' w4 ⟨hr4, hb4⟩; (have HR4 := Lib.hid hr4); (have HB4 := Lib.hid hb4); clear hr4 hb4)
      go_roundw
      case rel =>
        refine ⟨k + 1, hlt, ?_, HB4.out⟩
        have h := HR4.out
        rwa [List.append_assoc, List.cons_append, ← List.replicate_succ'] at h
      case measure =>
        obtain ⟨a2, cap2, e⟩ := slice_of_row HR4.out
        have h := HM.out
        have h2 := HMl.out
        subst e
        simp only [sl]
        rw [List.length_append, ← h2]
        simp
        omega
    · have hc : ((m : Int) % 64 != 56) = false := by
        have := gap_end l.length
        rw [HLL.out] at this
        have hkg : k = gap len := by have : k = gap l.length := by omega
                                     rw [this, HLL.out]
        rw [hm1, hkg]
        simp
        omega
      have hkg : k = gap l.length := by omega
      have HKG := Lib.hid hkg
      clear hm1 hkg hlt hk
      go_wp2
      clear hc
      obtain ⟨wo, rfl⟩ : ∃ wo : World, wo = wr := ⟨_, rfl⟩
      go_loopw [3, 5] (fun s3 s5 wr => RLenAt l w s3 s5 wr) (fun s3 _ _ => len + 300 - sl s3)
      case atStart => exact ⟨0, by omega, rfl, by rw [← HKG.out]; simpa using HR.out, HVr.out⟩
      case round =>
        obtain ⟨j, hj, rfl, hrow, hvar⟩ := hrel
        obtain ⟨a1, cap1, rfl⟩ := slice_of_row hrow
        obtain ⟨m1, hm1⟩ : ∃ m, m = (l ++ 128 :: (List.replicate (gap l.length) (0 : UInt8) ++ (lenB l.length).take j)).length := ⟨_, rfl⟩
        have hll8 : (lenB l.length).length = 8 := rfl
        have hm2 : m1 = len + (gap l.length + 1 + j) := by rw [hm1, List.length_append, List.length_cons, List.length_append, List.length_replicate, List.length_take, hll8, HLL.out]; omega
        rw [← hm1] at hrow ⊢
        have hmb1 : m1 ≤ len + 80 := by omega
        have HM1 := Lib.hid hm2
        have HM1l := Lib.hid hm1
        have HR1 := Lib.hid hrow
        have HV1 := Lib.hid hvar
        clear hm1 hm2 hrow hvar hll8
        by_cases hlt : j < 8
        · obtain ⟨i5, hi5⟩ : ∃ t : Nat, (t : Int) = 7 - (j : Int) := ⟨7 - j, by omega⟩
          rw [← hi5]
          obtain ⟨t, ht⟩ : ∃ t : Nat, t = 56 - 8 * j := ⟨_, rfl⟩
          have ht5 : 8 * (i5 : Int) = (t : Int) := by omega
          have ht56 : t ≤ 56 := by omega
          have hi7 : i5 ≤ 7 := by omega
          obtain ⟨c, hcc⟩ : ∃ c, c = UInt8.ofNat (8 * l.length % 18446744073709551616 / 2 ^ (56 - 8 * j)) := ⟨_, rfl⟩
          obtain ⟨q, hq⟩ : ∃ q : Nat, q = 8 * len / 2 ^ t := ⟨_, rfl⟩
          have f1 : (len : Int) * 8 / 2 ^ t = (q : Int) := by rw [hq, Int.mul_comm]; simp
          have hz : Value.int .u8 ((q : Int) % 256) = bv c := by
            rw [hcc, hq, ← ht, HLL.out, Nat.mod_eq_of_lt (by omega), bv_of]
            simp
          have HA := Lib.hid (grow_hash (w := w) ((q : Int) % 256) c hz HR1.out (by rw [← HM1l.out]; omega) HV1.out)
          have HC := Lib.hid hcc
          have HI5 := Lib.hid hi5
          clear hcc hq hz ht hi5
          go_wp2_with (at_builtin; refine wpList_append_by rfl (.tmp 30) (.tmp 37) 22 rfl _ _ rfl rfl _ HA.out ?_; rintro v' w4 ⟨hr4, hb4⟩; (have HR4 := Lib.hid hr4); (have HB4 := Lib.hid hb4); clear hr4 hb4)
          refine ⟨⟨j + 1, by omega, ?_, ?_, HB4.out⟩, ?_⟩
          · have := HI5.out
            have e : (i5 : Int) - 1 = 7 - ((j + 1 : Nat) : Int) := by omega
            rw [e]
          · have h := HR4.out
            rw [lenB_step l.length j hlt, ← HC.out]
            simpa using h
          · obtain ⟨a2, cap2, e⟩ := slice_of_row HR4.out
            have h2 := HM1l.out
            subst e
            simp only [sl]
            rw [List.length_append, ← h2]
            simp
            omega
        · have hj8 : j = 8 := by omega
          have hneg : ¬ (0 : Int) ≤ 7 - (j : Int) := by omega
          have HJ := Lib.hid hj8
          clear hj8 hlt hj 
          have hp : l ++ 128 :: (List.replicate (gap l.length) 0 ++ (lenB l.length).take j) = pad l := by
            rw [HJ.out, List.take_of_length_le (by show 8 ≤ 8; omega)]
            rfl
          have hr1 := HR1.out
          rw [hp] at hr1
          have hml : m1 = (pad l).length := by rw [HM1l.out, hp]
          have hpl := pad_length l
          have hpb := pad_le l
          rw [HLL.out] at hpb
          rw [hml] at hr1 ⊢
          have hcap : (pad l).length ≤ cap1 := by
            obtain ⟨g, c2, e, _, _, h1, _⟩ := hr1.shape (by unfold pad tail; simp)
            cases e
            exact h1
          have HPm := Lib.hid hpl
          have HRp := Lib.hid hr1
          clear hp hr1 hml hpl
          obtain ⟨pl, hpl⟩ : ∃ pl, pl = (pad l).length := ⟨_, rfl⟩
          rw [← hpl] at HRp HPm hpb hcap ⊢
          have HPl := Lib.hid hpl
          clear hpl HR1 HM1 HM1l hmb1
          have hsz1 : w.heap.size + 1 ≤ wr.heap.size := by
            obtain ⟨⟨zs, h1, _⟩, _⟩ := HV1.out
            exact h1.lt
          go_upto_region 10 with (refine wpList_store_row rfl 93 (.tmp 6) (.tmp 39) rfl wr.heap.size (us ShaMath.start.list) rfl rfl _ _ (heap_alloc_new wr _) (by kernel_rfl) (by kernel_rfl) (us_one _) ?_)
          refine world_cut (fun W => Blk W wr.heap.size 93 (us ShaMath.start.list) ∧ Below wr.heap.size wr W ∧ HashVar w W) ?_ ?_
          · have hb : Below wr.heap.size wr ((wr.alloc (.cells #[.int .u32 0, .int .u32 0, .int .u32 0, .int .u32 0, .int .u32 0, .int .u32 0, .int .u32 0, .int .u32 0] 93)).setRow wr.heap.size (us ShaMath.start.list)) := below_setRow ((Below.refl _ _).alloc (Nat.le_refl _) _) _ _ (Nat.le_refl _)
            exact ⟨Blk.row (heap_alloc_new wr _) _, hb, HV1.out.keep hb⟩
          obtain ⟨wp, hwp⟩ : ∃ wp, wp = wr := ⟨_, rfl⟩
          rw [← hwp] at hsz1 HRp HV1 ⊢
          have HBp := Lib.hid HRp.out.bys
          clear hwp
          rintro W5 ⟨h51, h52, h53⟩
          obtain ⟨g, hg⟩ : ∃ g, g = wp.heap.size := ⟨_, rfl⟩
          rw [← hg] at hsz1 h51 h52 ⊢
          have HGg := Lib.hid hg
          refine frame_cut 71 rfl rfl ?_
          intro us0 hus
          have f0 : us0 0 = .slice a len cap := hus 0
          have f2 : us0 2 = .pointer (some ⟨w.heap.size, 0, none⟩) := hus 2
          have f3 : us0 3 = .slice a1 pl cap1 := hus 3
          have f6 : us0 6 = .pointer (some ⟨g, 0, none⟩) := hus 6
          clear hus
          have el : ((List.range 71).map us0).toArray = #[us0 0, us0 1, us0 2, us0 3, us0 4, us0 5, us0 6, us0 7, us0 8, us0 9, us0 10, us0 11, us0 12, us0 13, us0 14, us0 15, us0 16, us0 17, us0 18, us0 19, us0 20, us0 21, us0 22, us0 23, us0 24, us0 25, us0 26, us0 27, us0 28, us0 29, us0 30, us0 31, us0 32, us0 33, us0 34, us0 35, us0 36, us0 37, us0 38, us0 39, us0 40, us0 41, us0 42, us0 43, us0 44, us0 45, us0 46, us0 47, us0 48, us0 49, us0 50, us0 51, us0 52, us0 53, us0 54, us0 55, us0 56, us0 57, us0 58, us0 59, us0 60, us0 61, us0 62, us0 63, us0 64, us0 65, us0 66, us0 67, us0 68, us0 69, us0 70] := rfl
          rw [el, f0, f2, f3, f6]
          clear el f0 f2 f3 f6 hg HRp HV1 wr
          have H51 := Lib.hid h51
          have H52 := Lib.hid h52
          have H53 := Lib.hid h53
          clear h51 h52 h53
          go_wp2
          go_loopw [7] (fun s7 wr => RBlockAt l w wp g s7 wr) (fun s7 _ => pl + 64 - (intOf s7).toNat)
          case atStart => exact ⟨0, 0, rfl, Nat.zero_le _, rfl, H51.out, H52.out, H53.out⟩
          case round =>
            obtain ⟨c, t, htc, htl, rfl, hh, hbw, hvar⟩ := hrel
            rw [← HPl.out] at htl
            have hbs : Bys wr (.slice a1 pl cap1) (pad l) := HBp.out.below (by rw [HGg.out]; exact Nat.le_refl _) hbw
            have HTC := Lib.hid htc
            have hpm := HPm.out
            by_cases hlt : t < pl
            · have ht64 : t + 64 ≤ pl := by omega
              obtain ⟨a5, hsl, hb5⟩ := bys_mid a1 pl cap1 t (t + 64) (pad l) wr hbs (by omega) ht64 hcap
              rw [show t + 64 - t = 64 by omega] at hsl hb5
              have hpc : ((pad l).take (t + 64)).drop t = ((pad l).drop (64 * c)).take 64 := by rw [List.drop_take, htc, show 64 * c + 64 - 64 * c = 64 by omega]
              rw [hpc] at hb5
              obtain ⟨p, hp⟩ : ∃ p, p = ((pad l).drop (64 * c)).take 64 := ⟨_, rfl⟩
              have hpl64 : p.length = 64 := by rw [hp, List.length_take, List.length_drop, ← HPl.out]; omega
              obtain ⟨R, hR⟩ : ∃ R, R = chain (pad l) c := ⟨_, rfl⟩
              obtain ⟨R2, hR2⟩ : ∃ R2, R2 = comp R p := ⟨_, rfl⟩
              have hR3 : R2 = chain (pad l) (c + 1) := by rw [hR2, hR, hp]; rfl
              rw [← hp] at hb5
              rw [← hR] at hh
              have hht : HT.out = HT.out := rfl
              have hct : ∀ W, Below wr.heap.size wr W → Consts W := fun W hW => (HT.out.below (Nat.le_refl _) hvar.2).below (Nat.le_refl _) hW
              have HH := Lib.hid hh
              have HBw := Lib.hid hbw
              have HVr := Lib.hid hvar
              have HR3 := Lib.hid hR3
              have HB5 := Lib.hid hb5
              have HSl := Lib.hid hsl
              clear hh hbs hbw hvar hR3 hb5 hsl hp hpc hR htc hht hpm
              go_wp2_with fail
              have hG : ∀ W W' : World, Below wr.heap.size wr W → Below W.heap.size W W' → Below wr.heap.size wr W' := fun W W' h h' => h.trans (h'.mono h.size)
              refine region_tail_by 7 _ [(46, .is (.agg (us R.list))), (47, .is (.slice a1 pl cap1)), (48, .is (.int .i64 (t : Int))), (49, .is (.int .i64 (t : Int))), (50, .is (.int .i64 ((t : Int) + 64))), (51, .is (.slice a5 64 (cap1 - t))), (52, .is (.agg (us R2.list)))] [0, 1, 2, 3, 4, 5, 6, 7, 8, 9, 10, 11, 12, 13, 14, 15, 16, 17, 18, 19, 20, 21, 22, 23, 24, 25, 26, 27, 28, 29, 30, 31, 32, 33, 34, 35, 36, 37, 38, 39, 52, 53, 54, 55, 56, 57, 58, 59, 60, 61, 62, 63, 64, 65, 66, 67, 68, 69, 70]
                (fun W => Below wr.heap.size wr W) (by kernel_rfl) (by kernel_rfl) (by kernel_rfl) (by kernel_rfl) (by kernel_rfl) rfl rfl rfl rfl (by kernel_rfl) (Below.refl _ _).drew ?_ ?_
              · refine ⟨?a0, ?a1, ?a2, ?a3, ?a4, ?a5, ?a6, trivial⟩
                case a0 => exact ask_load (guard_none rfl) 93 (.tmp 6) (.pointer (some ⟨g, 0, none⟩)) (.agg (us R.list)) rfl rfl (by intro k hk; cases hk; rfl) (fun W hW => (HH.out.keep hW).loads _ _ Tryd.underlying93 rfl (by rw [us_size]; kernel_rfl))
                case a1 => exact ask_copy (guard_none rfl) (.tmp 3) (.inl rfl) (by intro k hk; cases hk; rfl)
                case a2 => exact ask_copy (guard_none rfl) (.tmp 7) (.inl rfl) (by intro k hk; cases hk; rfl)
                case a3 => exact ask_copy (guard_none rfl) (.tmp 7) (.inl rfl) (by intro k hk; cases hk; rfl)
                case a4 => exact ask_bin (guard_none rfl) _ _ _ _ _ _ _ _ rfl rfl rfl (by intro k hk; cases hk; rfl) (fun W => by simp [eqGuard, go_sem]; exact IntWalk.i64_in _ ⟨by omega, by omega⟩)
                case a5 => exact ask_slice (guard_none rfl) _ _ _ _ _ (.slice a1 pl cap1) _ (some (.int .i64 (t : Int))) (some (.int .i64 ((t : Int) + 64))) none rfl rfl rfl rfl rfl (by intro k hk; cases hk; rfl) (fun W => HSl.out W)
                case a6 => exact ask_call hG (guard_none rfl) _ _ _ #[.agg (us R.list), .slice a5 64 (cap1 - t)] (.is (.agg (us R2.list))) rfl (by kernel_rfl) rfl rfl (by intro k hk; cases hk; rfl) (fun W hW => (refblock_any R p a5 (cap1 - t) W (HB5.out.below (Nat.le_refl _) hW) hpl64 (hct W hW)).mono fun e w' hh => ⟨_, hh.1, by show _ = _; rw [hR2], hh.2⟩)
              intro a' W6 hW6 hd6 hs6 hf6
              have t0 : a'.tmps.getD 0 undef = .slice a len cap := hf6 0 rfl
              have t1 : a'.tmps.getD 1 undef = us0 1 := hf6 1 rfl
              have t2 : a'.tmps.getD 2 undef = .pointer (some ⟨w.heap.size, 0, none⟩) := hf6 2 rfl
              have t3 : a'.tmps.getD 3 undef = .slice a1 pl cap1 := hf6 3 rfl
              have t4 : a'.tmps.getD 4 undef = us0 4 := hf6 4 rfl
              have t5 : a'.tmps.getD 5 undef = us0 5 := hf6 5 rfl
              have t6 : a'.tmps.getD 6 undef = .pointer (some ⟨g, 0, none⟩) := hf6 6 rfl
              have t7 : a'.tmps.getD 7 undef = .int .i64 (t : Int) := hf6 7 rfl
              have t8 : a'.tmps.getD 8 undef = us0 8 := hf6 8 rfl
              have t9 : a'.tmps.getD 9 undef = us0 9 := hf6 9 rfl
              have t10 : a'.tmps.getD 10 undef = us0 10 := hf6 10 rfl
              have t11 : a'.tmps.getD 11 undef = us0 11 := hf6 11 rfl
              have t12 : a'.tmps.getD 12 undef = us0 12 := hf6 12 rfl
              have t13 : a'.tmps.getD 13 undef = us0 13 := hf6 13 rfl
              have t14 : a'.tmps.getD 14 undef = us0 14 := hf6 14 rfl
              have t15 : a'.tmps.getD 15 undef = us0 15 := hf6 15 rfl
              have t16 : a'.tmps.getD 16 undef = us0 16 := hf6 16 rfl
              have t17 : a'.tmps.getD 17 undef = us0 17 := hf6 17 rfl
              have t18 : a'.tmps.getD 18 undef = us0 18 := hf6 18 rfl
              have t19 : a'.tmps.getD 19 undef = us0 19 := hf6 19 rfl
              have t20 : a'.tmps.getD 20 undef = us0 20 := hf6 20 rfl
              have t21 : a'.tmps.getD 21 undef = us0 21 := hf6 21 rfl
              have t22 : a'.tmps.getD 22 undef = us0 22 := hf6 22 rfl
              have t23 : a'.tmps.getD 23 undef = us0 23 := hf6 23 rfl
              have t24 : a'.tmps.getD 24 undef = us0 24 := hf6 24 rfl
              have t25 : a'.tmps.getD 25 undef = us0 25 := hf6 25 rfl
              have t26 : a'.tmps.getD 26 undef = us0 26 := hf6 26 rfl
              have t27 : a'.tmps.getD 27 undef = us0 27 := hf6 27 rfl
              have t28 : a'.tmps.getD 28 undef = us0 28 := hf6 28 rfl
              have t29 : a'.tmps.getD 29 undef = us0 29 := hf6 29 rfl
              have t30 : a'.tmps.getD 30 undef = us0 30 := hf6 30 rfl
              have t31 : a'.tmps.getD 31 undef = us0 31 := hf6 31 rfl
              have t32 : a'.tmps.getD 32 undef = us0 32 := hf6 32 rfl
              have t33 : a'.tmps.getD 33 undef = us0 33 := hf6 33 rfl
              have t34 : a'.tmps.getD 34 undef = us0 34 := hf6 34 rfl
              have t35 : a'.tmps.getD 35 undef = us0 35 := hf6 35 rfl
              have t36 : a'.tmps.getD 36 undef = us0 36 := hf6 36 rfl
              have t37 : a'.tmps.getD 37 undef = us0 37 := hf6 37 rfl
              have t38 : a'.tmps.getD 38 undef = us0 38 := hf6 38 rfl
              have t39 : a'.tmps.getD 39 undef = us0 39 := hf6 39 rfl
              have t52 : a'.tmps.getD 52 undef = .agg (us R2.list) := hf6 52 rfl
              have t53 : a'.tmps.getD 53 undef = us0 53 := hf6 53 rfl
              have t54 : a'.tmps.getD 54 undef = us0 54 := hf6 54 rfl
              have t55 : a'.tmps.getD 55 undef = us0 55 := hf6 55 rfl
              have t56 : a'.tmps.getD 56 undef = us0 56 := hf6 56 rfl
              have t57 : a'.tmps.getD 57 undef = us0 57 := hf6 57 rfl
              have t58 : a'.tmps.getD 58 undef = us0 58 := hf6 58 rfl
              have t59 : a'.tmps.getD 59 undef = us0 59 := hf6 59 rfl
              have t60 : a'.tmps.getD 60 undef = us0 60 := hf6 60 rfl
              have t61 : a'.tmps.getD 61 undef = us0 61 := hf6 61 rfl
              have t62 : a'.tmps.getD 62 undef = us0 62 := hf6 62 rfl
              have t63 : a'.tmps.getD 63 undef = us0 63 := hf6 63 rfl
              have t64 : a'.tmps.getD 64 undef = us0 64 := hf6 64 rfl
              have t65 : a'.tmps.getD 65 undef = us0 65 := hf6 65 rfl
              have t66 : a'.tmps.getD 66 undef = us0 66 := hf6 66 rfl
              have t67 : a'.tmps.getD 67 undef = us0 67 := hf6 67 rfl
              have t68 : a'.tmps.getD 68 undef = us0 68 := hf6 68 rfl
              have t69 : a'.tmps.getD 69 undef = us0 69 := hf6 69 rfl
              have t70 : a'.tmps.getD 70 undef = us0 70 := hf6 70 rfl
              obtain ⟨us', hus, ha'⟩ := act_open 71 a' hs6 hd6
              rw [← hus] at t0 t1 t2 t3 t4 t5 t6 t7 t8 t9 t10 t11 t12 t13 t14 t15 t16 t17 t18 t19 t20 t21 t22 t23 t24 t25 t26 t27 t28 t29 t30 t31 t32 t33 t34 t35 t36 t37 t38 t39 t52 t53 t54 t55 t56 t57 t58 t59 t60 t61 t62 t63 t64 t65 t66 t67 t68 t69 t70
              have el : ((List.range 71).map us').toArray = #[us' 0, us' 1, us' 2, us' 3, us' 4, us' 5, us' 6, us' 7, us' 8, us' 9, us' 10, us' 11, us' 12, us' 13, us' 14, us' 15, us' 16, us' 17, us' 18, us' 19, us' 20, us' 21, us' 22, us' 23, us' 24, us' 25, us' 26, us' 27, us' 28, us' 29, us' 30, us' 31, us' 32, us' 33, us' 34, us' 35, us' 36, us' 37, us' 38, us' 39, us' 40, us' 41, us' 42, us' 43, us' 44, us' 45, us' 46, us' 47, us' 48, us' 49, us' 50, us' 51, us' 52, us' 53, us' 54, us' 55, us' 56, us' 57, us' 58, us' 59, us' 60, us' 61, us' 62, us' 63, us' 64, us' 65, us' 66, us' 67, us' 68, us' 69, us' 70] := rfl
              rw [el] at ha'
              subst ha'
              rw [t0, t1, t2, t3, t4, t5, t6, t7, t8, t9, t10, t11, t12, t13, t14, t15, t16, t17, t18, t19, t20, t21, t22, t23, t24, t25, t26, t27, t28, t29, t30, t31, t32, t33, t34, t35, t36, t37, t38, t39, t52, t53, t54, t55, t56, t57, t58, t59, t60, t61, t62, t63, t64, t65, t66, t67, t68, t69, t70]
              clear hus t0 t1 t2 t3 t4 t5 t6 t7 t8 t9 t10 t11 t12 t13 t14 t15 t16 t17 t18 t19 t20 t21 t22 t23 t24 t25 t26 t27 t28 t29 t30 t31 t32 t33 t34 t35 t36 t37 t38 t39 t52 t53 t54 t55 t56 t57 t58 t59 t60 t61 t62 t63 t64 t65 t66 t67 t68 t69 t70 el hf6 hs6 hd6 hG hct
              have hb6 := HH.out.keep hW6
              have hsto := hb6.stores (P := Tryd.prog) 93 (us R2.list) (by rw [us_size]; kernel_rfl) (by rw [us_size, us_size]; rfl) (us_one _)
              have HSto := Lib.hid hsto
              refine wpList_store_by rfl 93 (.tmp 6) (.tmp 52) rfl (.pointer (some ⟨g, 0, none⟩)) (.agg (us R2.list)) rfl rfl (W6.setRow g (us R2.list)) HSto.out ?_
              go_upto_region 12 with fail
              refine world_cut (fun W => Blk W g 93 (us R2.list) ∧ Below g wp W ∧ HashVar w W) ?_ ?_
              · refine ⟨hb6.row _, below_setRow (HBw.out.trans (hW6.mono (Nat.le_of_lt HH.out.lt))) _ _ (Nat.le_refl _), ?_⟩
                obtain ⟨⟨zs, h1, h2⟩, h3⟩ := HVr.out.keep hW6
                exact ⟨⟨zs, h1.rowOther _ (by omega), h2⟩, below_setRow h3 _ _ (by omega)⟩
              rintro W7 ⟨h71, h72, h73⟩
              have H71 := Lib.hid h71
              have H72 := Lib.hid h72
              have H73 := Lib.hid h73
              clear h71 h72 h73 hb6 hsto HSto
              go_wp2
              go_roundw
              case rel => exact ⟨c + 1, t + 64, by have := HTC.out; omega, by rw [← HPl.out]; exact ht64, by go_num, by rw [← HR3.out]; exact H71.out, H72.out, H73.out⟩
              case measure => simp [intOf]; omega
            · have hend : chain (pad l) c = chain (pad l) ((pad l).length / 64) := by
                congr 1
                rw [← HPl.out]
                omega
              obtain ⟨R, hR⟩ : ∃ R, R = chain (pad l) ((pad l).length / 64) := ⟨_, rfl⟩
              rw [hend, ← hR] at hh
              have HH := Lib.hid hh
              have HVr := Lib.hid hvar
              have HR := Lib.hid hR
              have hlt4 := hh.lt
              clear hh hbs hbw hvar htc hend hR hpm
              go_upto_region 15 with fail
              refine world_cut (fun W => Blk W g 93 (us R.list) ∧ Blk W wr.heap.size 24 (bs (laidB R 0)) ∧ HashVar w W) ?_ ?_
              · exact ⟨HH.out.alloc _, Blk.newAt _ _ _ _ _ rfl (by rw [laidB_zero]; kernel_rfl), HVr.out.keep ((Below.refl _ _).alloc (Nat.le_refl _) _)⟩
              obtain ⟨g4, hg4⟩ : ∃ g4, g4 = wr.heap.size := ⟨_, rfl⟩
              rw [← hg4] at hlt4 ⊢
              clear hg4 HH HVr
              rintro W5 ⟨h51, h52, h53⟩
              have H51 := Lib.hid h51
              have H52 := Lib.hid h52
              have H53 := Lib.hid h53
              clear h51 h52 h53
              go_wp2
              clear hlt
              go_loopw [9] (fun s9 wr => RByteAt w g g4 R s9 wr) (fun s9 _ => 32 - (intOf s9).toNat)
              case atStart => exact ⟨0, by omega, rfl, H51.out, H52.out, H53.out⟩
              case round =>
                obtain ⟨i, hi, rfl, hw, hh, hvar⟩ := hrel
                by_cases hlt : i < 32
                · have hc := hw.cell (i / 4)
                  rw [us_at _ _ (by simp [Regs.list]; omega), ru] at hc
                  obtain ⟨x, hx⟩ : ∃ x, x = at0 R.list (i / 4) := ⟨_, rfl⟩
                  rw [← hx] at hc
                  have hc4 := hh.cell i
                  rw [bs_at _ _ (by rw [laidB_length R i hi]; exact hlt)] at hc4
                  have hf4 := hh.frozen i
                  obtain ⟨c4, hc4e⟩ : ∃ c, c = bv ((laidB R i).getD i 0) := ⟨_, rfl⟩
                  rw [← hc4e] at hc4
                  obtain ⟨t9, ht9⟩ : ∃ t, t = 24 - i % 4 * 8 := ⟨_, rfl⟩
                  have hti : (24 : Int) - 8 * ((i : Int) % 4) = (t9 : Int) := by omega
                  have ht24 : t9 ≤ 24 := by omega
                  obtain ⟨y, hy⟩ : ∃ y, y = x >>> t9 := ⟨_, rfl⟩
                  have f9 : rv x / 2 ^ t9 = rv y := by rw [rv_shr, hy]
                  have hval : Value.int .u8 (rv y % 256) = bv (byteAt R.list i) := by
                    rw [hy, byte_value, byteAt, ← hx, ← ht9]
                  have hset := hh.set i (bv (byteAt R.list i))
                  rw [bs_set, laidB_step R i hlt, ← hval] at hset
                  have hw2 := hw.other ⟨g4, i, none⟩ (.int .u8 (rv y % 256)) (by simp; omega)
                  have hv2 := hvar.set g4 i (.int .u8 (rv y % 256)) (by omega)
                  have HSet := Lib.hid hset
                  have HW2 := Lib.hid hw2
                  have HV2 := Lib.hid hv2
                  have b0 := (rv_bd x).1
                  have b1 := (rv_bd x).2
                  have b2 := (rv_bd y).1
                  have b3 := (rv_bd y).2
                  clear hw hh hvar hx hc4e ht9 hy hval hset hw2 hv2
                  go_wp2
                  go_roundw
                  case rel => exact ⟨i + 1, by omega, by go_num, HW2.out, HSet.out, HV2.out⟩
                  case measure => simp [intOf]; omega
                · have hi32 : i = 32 := by omega
                  rw [hi32, laidB_all] at hh
                  obtain ⟨⟨zs, hz1, hz2⟩, hbel⟩ := hvar
                  obtain ⟨bb, hbb⟩ : ∃ bb, bb = bs (ShaMath.bytes R) := ⟨_, rfl⟩
                  have hbl : bb.size = 32 := by rw [hbb, bs_size, bytes_length]
                  have hone : bb.all (·.oneCell') = true := by rw [hbb]; exact bs_one _
                  have hsz2 : (Tryd.prog.info? 24).map (·.size) = some bb.size := by rw [hbl]; kernel_rfl
                  rw [← hbb] at hh
                  have HH := Lib.hid hh
                  have HZ1 := Lib.hid hz1
                  have HSz := Lib.hid (hz2.trans hbl.symm)
                  have HSz2 := Lib.hid hsz2
                  have HOne := Lib.hid hone
                  have HBb := Lib.hid hbb
                  have HBel := Lib.hid hbel
                  clear hw hh hz1 hz2 hbel hbb hbl hone hsz2 hi32 hi
                  go_wp2_with (first
                    | (refine wpList_load_row rfl 24 (.tmp 8) rfl g4 rfl _ bb _ _ HH.out Tryd.underlying24 rfl HSz2.out ?_)
                    | (refine wpList_store_row rfl 24 (.tmp 2) (.tmp 70) rfl w.heap.size bb rfl rfl _ _ HZ1.out HSz2.out HSz.out HOne.out ?_))
                  refine bodyPost_ret (v := .agg bb) (results_cell_row rfl _ _ w.heap.size _ bb _ _ rfl (HZ1.out.row bb) Tryd.underlying24 rfl HSz2.out) rfl ⟨?_, below_setRow HBel.out _ _ (Nat.le_refl _)⟩
                  rw [HBb.out, HR.out]
                  rfl
end Go.Proofs.YtdhfabjkpffhnaaDoor

/- Hashes held against each other. -/
namespace Go.Proofs.YtdhfabjkpffhnaaDoor
set_option maxRecDepth 20000
open Go.RowKit ShaMath

theorem eq_hash (W : World) (xs ys : List UInt8) (hx : xs.length = 32) (hy : ys.length = 32) : (Op.equalIn 10000 24 (.agg (bs xs)) (.agg (bs ys))).run Tryd.prog W = .ok (xs == ys) W :=
  run_equalIn_bytes W 9998 24 5 32 Tryd.underlying24 Tryd.underlying5 (fun w => size_byte w) xs ys hx hy
theorem eq_same (W : World) (xs : List UInt8) (hx : xs.length = 32) : (Op.equalIn 10000 24 (.agg (bs xs)) (.agg (bs xs))).run Tryd.prog W = .ok true W := by
  rw [eq_hash W xs xs hx hx]
  simp
theorem neq_hash (s t : Operand) (X : List UInt8) (hX : X.length = 32) (W : World) : (do eqGuard .neq 24 s t (.agg (bs X)) (.agg (bs X)); binOp .neq 24 (.agg (bs X)) (.agg (bs X)) : Sem Value).run Tryd.prog W = .ok (.bool false) W := by
  rw [Sem.run_bind, run_eqGuard_agg W .neq 24 s t _ _ (by kernel_rfl), Result.andThen_ok, run_neq_struct, eq_same W X hX]
  rfl
theorem eql_hash (s t : Operand) (X : List UInt8) (hX : X.length = 32) (W : World) : (do eqGuard .eql 24 s t (.agg (bs X)) (.agg (bs X)); binOp .eql 24 (.agg (bs X)) (.agg (bs X)) : Sem Value).run Tryd.prog W = .ok (.bool true) W := by
  rw [Sem.run_bind, run_eqGuard_agg W .eql 24 s t _ _ (by kernel_rfl), Result.andThen_ok, run_eql_struct, eq_same W X hX]
  rfl
end Go.Proofs.YtdhfabjkpffhnaaDoor

/- Narrow: the program's, the reference's. -/
namespace Go.Proofs.YtdhfabjkpffhnaaDoor
set_option maxRecDepth 20000
open Go.RowKit ShaMath

theorem u8_and_bv (x y : UInt8) : bits .and .u8 (x.toNat : Int) (y.toNat : Int) = ((x &&& y).toNat : Int) := by
  rw [u8_and_nat _ _ x.toNat_lt y.toNat_lt, UInt8.toNat_and]
theorem u8_or_bv (x y : UInt8) : bits .or .u8 (x.toNat : Int) (y.toNat : Int) = ((x ||| y).toNat : Int) := by
  rw [u8_or_nat _ _ x.toNat_lt y.toNat_lt, UInt8.toNat_or]
theorem u8_andNot_bv (x : UInt8) (k : Nat) (hk : k < 256) : bits .andNot .u8 (x.toNat : Int) (k : Int) = ((x &&& UInt8.ofNat (255 - k)).toNat : Int) := by
  rw [u8_andNot_nat _ _ x.toNat_lt hk, UInt8.toNat_and]
  congr 2
  simp
  omega

/-- 'x[:n]' of a hash. -/
theorem slice_hash (g n : Nat) (hn : n ≤ 32) (W : World) : (Instr.sliceAt 24 (.pointer (some ⟨g, 0, none⟩)) none (some (.int .i64 (n : Int))) none).run Tryd.prog W = .ok (.slice (some ⟨g, 0, none⟩) n 32) W := by
  have hal : Tryd.prog.arrayLen 24 = 32 := by kernel_rfl
  have hel : Tryd.prog.elem 24 = 5 := by kernel_rfl
  rw [run_sliceAt_array_h W 24 _ (by rw [hal, hel]; exact Tryd.underlying24) .i64 (n : Int) (by omega) (by rw [hal]; omega), hal, hel, size_byte]
  simp only [Result.andThen_ok, slicedAt, Int.toNat_natCast, Nat.zero_mul, addr_add]
  simp

/-- 'copy(x[:n], h[:n])', x as it was made. -/
theorem copy_hash {W : World} {g k : Nat} {h : List UInt8} (hg : Blk W g 24 (bs (List.replicate 32 0))) (hk : Blk W k 24 (bs h)) (hl : h.length = 32) (n : Nat) (hn : n ≤ 32) :
    (Builtin.copy_ #[22, 22] 3 #[.slice (some ⟨g, 0, none⟩) n 32, .slice (some ⟨k, 0, none⟩) n 32]).run Tryd.prog W = .ok (.int .i64 (n : Int)) (W.setRow g (bs (h.take n ++ List.replicate (32 - n) 0))) := by
  have htl : (h.take n).length = n := by rw [List.length_take]; omega
  have h1 := run_copy_row (P := Tryd.prog) W 22 22 3 5 g 0 n 32 ⟨k, 0, none⟩ n 32 (bs (List.replicate 32 0)) 24 ((h.take n).map bv) Tryd.underlying22 (by kernel_rfl) hg
    (by rw [List.length_map, htl]; exact (Nat.min_self n).symm) (cells_bys fun i hi => by
      rw [htl] at hi
      rw [addr_add, Nat.zero_add, hk.cell, bs_at _ _ (by omega)]
      simp [List.getD, show i < h.length by omega]) (by rw [List.length_map, htl, bs_size]; simp; omega) (one_bv _)
  rw [h1, List.length_map, htl]
  congr 2
  unfold bs
  congr 1
  show [] ++ (h.take n).map bv ++ ((List.replicate 32 (0 : UInt8)).map bv).drop (0 + n) = _
  rw [List.nil_append, List.map_replicate, List.drop_replicate, Nat.zero_add, List.map_append, List.map_replicate]

set_option maxRecDepth 100000 in
theorem narrow_any (h : List UInt8) (b : Int) (w : World) (hl : h.length = 32) (hb : -9223372036854775808 ≤ b ∧ b ≤ 9223372036854775807) :
    Calls Tryd.prog 31 #[.agg (bs h), .int .i64 b] w fun e w' => e = .returned (.agg (bs (narrowL h b))) ∧ Below w.heap.size w w' := by
  obtain ⟨b0, b1⟩ := hb
  have HL := Lib.hid hl
  by_cases hbig : 256 ≤ b
  · have hres := narrow_full h b hl hbig
    obtain ⟨cs, hcs⟩ : ∃ cs, cs = bs h := ⟨_, rfl⟩
    have hcl : cs.size = 32 := by rw [hcs, bs_size, hl]
    have hone : cs.all (·.oneCell') = true := by rw [hcs]; exact bs_one _
    have hsz : (Tryd.prog.info? 24).map (·.size) = some cs.size := by rw [hcl]; kernel_rfl
    rw [hres, ← hcs]
    have HSz := Lib.hid hsz
    have HOne := Lib.hid hone
    have HCl := Lib.hid hcl
    clear hl hres hcs hcl hone hsz
    go_enter Tryd.func31, Tryd.ntmps31
    go_wp2_with (first
      | (refine wpList_load_row rfl 24 (.tmp 2) rfl w.heap.size rfl 24 cs (0, 0) _ ((Blk.newAt _ _ _ _ _ rfl rfl).alloc _) Tryd.underlying24 rfl HSz.out ?_)
      | (refine wpList_store_row rfl 24 (.tmp 4) (.tmp 10) rfl (w.heap.size + 1) cs rfl rfl 24 _ (Blk.newAt _ _ _ _ _ (by simp) rfl) HSz.out (by rw [HCl.out]; rfl) HOne.out ?_))
    exact bodyPost_ret (v := .agg cs) (results_cell_row rfl _ _ (w.heap.size + 1) 24 cs (0, 0) _ rfl (Blk.row (Blk.newAt _ _ _ _ _ (by simp) rfl) cs) Tryd.underlying24 rfl HSz.out) rfl ⟨rfl, below_setRow (((Below.refl _ _).alloc (Nat.le_refl _) _).alloc (by simp) _) _ _ (by omega)⟩
  · by_cases hsmall : b ≤ 0
    · have hres := narrow_none h b hsmall
      rw [hres]
      clear hl hres
      obtain ⟨cs, hcs⟩ : ∃ cs, cs = bs (List.replicate 32 0) := ⟨_, rfl⟩
      have hcl : cs.size = 32 := by rw [hcs]; rfl
      have hone : cs.all (·.oneCell') = true := by rw [hcs]; exact bs_one _
      have hsz : (Tryd.prog.info? 24).map (·.size) = some cs.size := by rw [hcl]; kernel_rfl
      rw [← hcs]
      have HSz := Lib.hid hsz
      have HOne := Lib.hid hone
      have HCl := Lib.hid hcl
      have HCs := Lib.hid hcs
      clear hcs hcl hone hsz
      go_enter Tryd.func31, Tryd.ntmps31
      go_upto_region 5 with fail
      refine world_cut (fun W => Blk W (w.heap.size + 1 + 1) 24 cs ∧ (∃ zs, Blk W (w.heap.size + 1) 24 zs ∧ zs.size = 32) ∧ Below w.heap.size w W) ?_ ?_
      · exact ⟨Blk.newAt _ _ _ _ _ (by simp) (by rw [HCs.out]; kernel_rfl), ⟨_, (Blk.newAt _ _ _ _ _ (by simp) rfl).alloc _, rfl⟩, (((Below.refl _ _).alloc (Nat.le_refl _) _).alloc (by simp) _).alloc (by simp; omega) _⟩
      rintro W ⟨h1, ⟨zs, h2, h3⟩, h4⟩
      have H1 := Lib.hid h1
      have H2 := Lib.hid h2
      have H3 := Lib.hid (h3.trans HCl.out.symm)
      have H4 := Lib.hid h4
      clear h1 h2 h3 h4
      go_wp2_with (first
        | (refine wpList_load_row rfl 24 (.tmp 5) rfl (w.heap.size + 1 + 1) rfl 24 cs (0, 0) _ H1.out Tryd.underlying24 rfl HSz.out ?_)
        | (refine wpList_store_row rfl 24 (.tmp 4) (.tmp 13) rfl (w.heap.size + 1) cs rfl rfl 24 _ H2.out HSz.out H3.out HOne.out ?_))
      exact bodyPost_ret (v := .agg cs) (results_cell_row rfl _ _ (w.heap.size + 1) 24 cs (0, 0) _ rfl (H2.out.row cs) Tryd.underlying24 rfl HSz.out) rfl ⟨rfl, below_setRow H4.out _ _ (by omega)⟩
    · obtain ⟨B, rfl⟩ : ∃ B : Nat, b = B := ⟨b.toNat, by omega⟩
      obtain ⟨n, hn⟩ : ∃ n, n = B / 8 := ⟨_, rfl⟩
      obtain ⟨p, hp⟩ : ∃ p, p = B % 8 := ⟨_, rfl⟩
      have hn32 : n < 32 := by omega
      have hp8 : p < 8 := by omega
      have hB : B = 8 * n + p := by omega
      have e1 : (B : Int) / 8 = (n : Int) := by omega
      have e2 : (B : Int) % 8 = (p : Int) := by omega
      have hlt256 : (B : Int) < 256 := by omega
      have hpos : (0 : Int) < (B : Int) := by omega
      have hres := narrow_whole h n p hl hn32 hp8
      rw [← hB] at hres
      have HRes := Lib.hid hres
      clear hres hl hn hp hB
      go_enter Tryd.func31, Tryd.ntmps31
      go_upto_region 6 with fail
      refine world_cut (fun W => Blk W w.heap.size 24 (bs h) ∧ Blk W (w.heap.size + 1 + 1) 24 (bs (List.replicate 32 0)) ∧ (∃ zs, Blk W (w.heap.size + 1) 24 zs ∧ zs.size = 32) ∧ Below w.heap.size w W) ?_ ?_
      · exact ⟨((Blk.new _ _ _).alloc _).alloc _, Blk.newAt _ _ _ _ _ (by simp) (by kernel_rfl), ⟨_, (Blk.newAt _ _ _ _ _ (by simp) rfl).alloc _, rfl⟩, (((Below.refl _ _).alloc (Nat.le_refl _) _).alloc (by simp) _).alloc (by simp; omega) _⟩
      rintro W0 hW0
      have HW0 := Lib.hid hW0
      clear hW0
      go_wp2
      clear e1 e2
      refine region_tail 4 (by kernel_rfl) (by kernel_rfl) (fun W => Blk W w.heap.size 24 (bs h) ∧ Blk W (w.heap.size + 1 + 1) 24 (bs (List.replicate 32 0)) ∧ (∃ zs, Blk W (w.heap.size + 1) 24 zs ∧ zs.size = 32) ∧ Below w.heap.size w W) ?_ ?_
      · obtain ⟨h1, h2, h3, h4⟩ := HW0.out
        exact ⟨h1, h2, h3, ⟨h4.os, h4.tape, h4.output, h4.size, h4.block⟩⟩
      clear HW0
      rintro W1 ⟨h1, h2, h3, h4⟩
      have hs2 := slice_hash w.heap.size n (by omega)
      have hs5 := slice_hash (w.heap.size + 1 + 1) n (by omega)
      have HCp := Lib.hid (copy_hash h2 h1 HL.out n (by omega))
      have H1 := Lib.hid h1
      have H2 := Lib.hid h2
      have H3 := Lib.hid h3
      have H4 := Lib.hid h4
      clear h1 h2 h3 h4
      simp only [List.take_succ_cons, List.take_zero, List.drop_succ_cons, List.drop_zero]
      repeat (first | go_big_quiet_skip | (go_big_quiet_want; go_big_quiet_op; go_big_quiet_on))
      refine wpQuiet_nil ?_
      clear hs2 hs5
      go_upto_region 8 with (refine wpList_copy_by rfl (.tmp 19) (.tmp 21) 22 rfl (.slice (some ⟨w.heap.size + 1 + 1, 0, none⟩) n 32) (.slice (some ⟨w.heap.size, 0, none⟩) n 32) (.int .i64 (n : Int)) (W1.setRow (w.heap.size + 1 + 1) (bs (h.take n ++ List.replicate (32 - n) 0))) rfl rfl HCp.out ?_)
      refine world_cut (fun W => Blk W w.heap.size 24 (bs h) ∧ Blk W (w.heap.size + 1 + 1) 24 (bs (h.take n ++ List.replicate (32 - n) 0)) ∧ (∃ zs, Blk W (w.heap.size + 1) 24 zs ∧ zs.size = 32) ∧ Below w.heap.size w W) ?_ ?_
      · obtain ⟨zs, h3, h4⟩ := H3.out
        exact ⟨H1.out.rowOther _ (by omega), H2.out.row _, ⟨zs, h3.rowOther _ (by omega), h4⟩, below_setRow H4.out _ _ (by omega)⟩
      clear H1 H2 H3 H4 HCp
      rintro W2 ⟨h1, h2, h3, h4⟩
      obtain ⟨x, hx⟩ : ∃ x, x = h.getD n 0 := ⟨_, rfl⟩
      obtain ⟨k, hk⟩ : ∃ k : Nat, k = x.toNat := ⟨_, rfl⟩
      obtain ⟨m, hm⟩ : ∃ m : Nat, m = 255 / 2 ^ p := ⟨_, rfl⟩
      have hm255 : m ≤ 255 := by rw [hm]; exact Nat.div_le_self _ _
      obtain ⟨y, hy⟩ : ∃ y, y = x &&& UInt8.ofNat (255 - m) := ⟨_, rfl⟩
      obtain ⟨ky, hky⟩ : ∃ k : Nat, k = y.toNat := ⟨_, rfl⟩
      have k1 : (k : Int) ≤ 255 := by rw [hk]; exact (u8_bd x).2
      have k2 : (ky : Int) ≤ 255 := by rw [hky]; exact (u8_bd y).2
      have f1 : (255 : Int) / 2 ^ p = (m : Int) := by rw [hm]; simp
      have f2 : bits .andNot .u8 (k : Int) (m : Int) = (ky : Int) := by rw [hk, u8_andNot_bv x m (by omega), ← hy, hky]
      have c1 := h1.cell n
      rw [bs_at _ _ (by rw [HL.out]; exact hn32), ← hx, bv, ← hk] at c1
      have hl2 : (h.take n ++ List.replicate (32 - n) (0 : UInt8)).length = 32 := by rw [List.length_append, List.length_take, List.length_replicate, HL.out]; omega
      have c2 := h2.cell n
      rw [bs_at _ _ (by rw [hl2]; exact hn32)] at c2
      have ff := h2.frozen n
      obtain ⟨v2, hv2⟩ : ∃ v, v = bv ((h.take n ++ List.replicate (32 - n) (0 : UInt8)).getD n 0) := ⟨_, rfl⟩
      rw [← hv2] at c2
      have hset := h2.set n (bv y)
      rw [bs_set, hy, hx, hm, HRes.out, bv, ← hm, ← hx, ← hy, ← hky] at hset
      have hbe : Blk (W2.setCell ⟨w.heap.size + 1 + 1, n, none⟩ (.int .u8 (ky : Int))) (w.heap.size + 1 + 1) 24 (bs (narrowL h B)) := hset
      refine frame_cut 32 rfl rfl ?_
      intro us0 hus
      have f2' : us0 2 = .pointer (some ⟨w.heap.size, 0, none⟩) := hus 2
      have f4' : us0 4 = .pointer (some ⟨w.heap.size + 1, 0, none⟩) := hus 4
      have f5' : us0 5 = .pointer (some ⟨w.heap.size + 1 + 1, 0, none⟩) := hus 5
      have f6' : us0 6 = .int .i64 (n : Int) := hus 6
      have f7' : us0 7 = .int .i64 (p : Int) := hus 7
      clear hus
      have el : ((List.range 32).map us0).toArray = #[us0 0, us0 1, us0 2, us0 3, us0 4, us0 5, us0 6, us0 7, us0 8, us0 9, us0 10, us0 11, us0 12, us0 13, us0 14, us0 15, us0 16, us0 17, us0 18, us0 19, us0 20, us0 21, us0 22, us0 23, us0 24, us0 25, us0 26, us0 27, us0 28, us0 29, us0 30, us0 31] := rfl
      rw [el, f2', f4', f5', f6', f7']
      clear el f2' f4' f5' f6' f7'
      clear hx hk hm hy hky hv2
      refine region_tail 8 (by kernel_rfl) (by kernel_rfl) (fun W => W.cell? ⟨w.heap.size, n, none⟩ = some (.int .u8 (k : Int)) ∧ W.cell? ⟨w.heap.size + 1 + 1, n, none⟩ = some v2 ∧ W.frozen? ⟨w.heap.size + 1 + 1, n, none⟩ = false ∧ Blk (W.setCell ⟨w.heap.size + 1 + 1, n, none⟩ (.int .u8 (ky : Int))) (w.heap.size + 1 + 1) 24 (bs (narrowL h B)) ∧ (∃ zs, Blk W (w.heap.size + 1) 24 zs ∧ zs.size = 32) ∧ Below w.heap.size w W) ?_ ?_
      · exact ⟨by simpa using c1, by simpa using c2, by simpa using ff, hbe, h3, ⟨h4.os, h4.tape, h4.output, h4.size, h4.block⟩⟩
      clear h1 h2 h3 h4 c1 c2 ff hset hbe
      rintro W3 ⟨c1, c2, ff, h2, h3, h4⟩
      have H2 := Lib.hid h2
      have H3 := Lib.hid h3
      have H4 := Lib.hid h4
      clear h2 h3 h4
      simp only [List.take_succ_cons, List.take_zero, List.drop_succ_cons, List.drop_zero]
      repeat (first | go_big_quiet_skip | (go_big_quiet_want; go_big_quiet_op; go_big_quiet_on))
      refine wpQuiet_nil ?_
      go_upto_region 9 with fail
      obtain ⟨cs, hcs⟩ : ∃ cs, cs = bs (narrowL h B) := ⟨_, rfl⟩
      have hcl : cs.size = 32 := by rw [hcs, bs_size, narrowL_length]
      have hone : cs.all (·.oneCell') = true := by rw [hcs]; exact bs_one _
      have hsz : (Tryd.prog.info? 24).map (·.size) = some cs.size := by rw [hcl]; kernel_rfl
      have HSz := Lib.hid hsz
      have HOne := Lib.hid hone
      refine world_cut (fun W => Blk W (w.heap.size + 1 + 1) 24 cs ∧ (∃ zs, Blk W (w.heap.size + 1) 24 zs ∧ zs.size = cs.size) ∧ Below w.heap.size w W) ?_ ?_
      · obtain ⟨zs, h3, h4⟩ := H3.out
        exact ⟨by rw [hcs]; exact H2.out, ⟨zs, h3.other _ _ (by simp), h4.trans hcl.symm⟩, H4.out.setCell (by simp; omega) _⟩
      have HCs := Lib.hid hcs
      clear H2 H3 H4 c1 c2 ff hcs hcl hone hsz
      rintro W4 ⟨h1, ⟨zs, h2, h3⟩, h4⟩
      have H1 := Lib.hid h1
      have H2 := Lib.hid h2
      have H3 := Lib.hid h3
      have H4 := Lib.hid h4
      clear h1 h2 h3 h4
      go_wp2_with (first
        | (refine wpList_load_row rfl 24 (.tmp 5) rfl (w.heap.size + 1 + 1) rfl 24 cs (0, 0) _ H1.out Tryd.underlying24 rfl HSz.out ?_)
        | (refine wpList_store_row rfl 24 (.tmp 4) (.tmp 31) rfl (w.heap.size + 1) cs rfl rfl 24 _ H2.out HSz.out H3.out HOne.out ?_))
      exact bodyPost_ret (v := .agg cs) (results_cell_row rfl _ _ (w.heap.size + 1) 24 cs (0, 0) _ rfl (H2.out.row cs) Tryd.underlying24 rfl HSz.out) rfl ⟨by rw [HCs.out], below_setRow H4.out _ _ (by omega)⟩

def RNarAt (w : World) (h : List UInt8) (b : Int) (s6 : Value) (wr : World) : Prop :=
  ∃ i : Nat, i ≤ 256 ∧ ((i : Int) ≤ b ∨ i = 0) ∧ s6 = .int .i64 i ∧ Blk wr (w.heap.size + 1 + 1) 24 (bs (narrowL h i)) ∧ Blk wr w.heap.size 24 (bs h) ∧ (∃ zs, Blk wr (w.heap.size + 1) 24 zs ∧ zs.size = 32) ∧ Below w.heap.size w wr

set_option maxRecDepth 100000 in
theorem refnarrow_any (h : List UInt8) (b : Int) (w : World) (hl : h.length = 32) (hb : -9223372036854775808 ≤ b ∧ b ≤ 9223372036854775807) :
    Calls Tryd.prog 73 #[.agg (bs h), .int .i64 b] w fun e w' => e = .returned (.agg (bs (narrowL h b))) ∧ Below w.heap.size w w' := by
  obtain ⟨b0, b1⟩ := hb
  have HL := Lib.hid hl
  clear hl
  go_enter Tryd.func73, Tryd.ntmps73
  go_upto_region 2 with fail
  refine world_cut (fun W => Blk W w.heap.size 24 (bs h) ∧ Blk W (w.heap.size + 1 + 1) 24 (bs (List.replicate 32 0)) ∧ (∃ zs, Blk W (w.heap.size + 1) 24 zs ∧ zs.size = 32) ∧ Below w.heap.size w W) ?_ ?_
  · exact ⟨((Blk.new _ _ _).alloc _).alloc _, Blk.newAt _ _ _ _ _ (by simp) (by kernel_rfl), ⟨_, (Blk.newAt _ _ _ _ _ (by simp) rfl).alloc _, rfl⟩, (((Below.refl _ _).alloc (Nat.le_refl _) _).alloc (by simp) _).alloc (by simp; omega) _⟩
  rintro W0 hW0
  have HW0 := Lib.hid hW0
  clear hW0
  go_wp2
  go_loopw [6] (fun s6 wr => RNarAt w h b s6 wr) (fun s6 _ => 256 - (intOf s6).toNat)
  case atStart =>
    obtain ⟨h1, h2, h3, h4⟩ := HW0.out
    exact ⟨0, by omega, .inr rfl, rfl, by rw [narrow_none h _ (by simp)]; exact h2, h1, h3, h4⟩
  case round =>
    obtain ⟨i, hi, hib, rfl, ho, hh, hz, hbel⟩ := hrel
    have hend : ¬ ((i : Int) < 256 ∧ (i : Int) < b) → narrowL h i = narrowL h b := fun hn => by
      by_cases h1 : (256 : Int) ≤ b
      · have hi256 : i = 256 := by omega
        rw [narrow_full h b HL.out h1, narrow_full h i HL.out (by omega)]
      · by_cases h2 : b ≤ 0
        · rw [narrow_none h b h2, narrow_none h i (by omega)]
        · rw [show (i : Int) = b by omega]
    have HEnd := Lib.hid hend
    have HO := Lib.hid ho
    have HH := Lib.hid hh
    have HZ := Lib.hid hz
    have HB := Lib.hid hbel
    have hsz := hbel.size
    by_cases h1 : (i : Int) < 256
    · by_cases h2 : (i : Int) < b
      · obtain ⟨n, hn⟩ : ∃ n, n = i / 8 := ⟨_, rfl⟩
        obtain ⟨r, hr⟩ : ∃ r, r = i % 8 := ⟨_, rfl⟩
        have hn32 : n < 32 := by omega
        have e1 : (i : Int) / 8 = (n : Int) := by omega
        have e2 : (i : Int) % 8 = (r : Int) := by omega
        have hr8 : r < 8 := by omega
        obtain ⟨x, hx⟩ : ∃ x, x = (narrowL h i).getD n 0 := ⟨_, rfl⟩
        obtain ⟨y, hy⟩ : ∃ y, y = h.getD n 0 := ⟨_, rfl⟩
        obtain ⟨m, hm⟩ : ∃ m, m = UInt8.ofNat (128 / 2 ^ r) := ⟨_, rfl⟩
        obtain ⟨z1, hz1⟩ : ∃ z, z = y &&& m := ⟨_, rfl⟩
        obtain ⟨z2, hz2⟩ : ∃ z, z = x ||| z1 := ⟨_, rfl⟩
        have hres : (narrowL h i).set n z2 = narrowL h ((i + 1 : Nat) : Int) := by
          have := narrow_bit h i
          rw [← hn, ← hr, ← hx, ← hy, ← hm, ← hz1, ← hz2] at this
          exact this
        obtain ⟨kx, hkx⟩ : ∃ k : Nat, k = x.toNat := ⟨_, rfl⟩
        obtain ⟨ky, hky⟩ : ∃ k : Nat, k = y.toNat := ⟨_, rfl⟩
        obtain ⟨km, hkm⟩ : ∃ k : Nat, k = m.toNat := ⟨_, rfl⟩
        obtain ⟨k1, hk1⟩ : ∃ k : Nat, k = z1.toNat := ⟨_, rfl⟩
        obtain ⟨k2, hk2⟩ : ∃ k : Nat, k = z2.toNat := ⟨_, rfl⟩
        have q1 : (kx : Int) ≤ 255 := by rw [hkx]; exact (u8_bd x).2
        have q2 : (ky : Int) ≤ 255 := by rw [hky]; exact (u8_bd y).2
        have q3 : (km : Int) ≤ 255 := by rw [hkm]; exact (u8_bd m).2
        have q4 : (k1 : Int) ≤ 255 := by rw [hk1]; exact (u8_bd z1).2
        have q5 : (k2 : Int) ≤ 255 := by rw [hk2]; exact (u8_bd z2).2
        have hmn : m.toNat = 128 / 2 ^ r := by
          rw [hm]
          have : 128 / 2 ^ r ≤ 128 := Nat.div_le_self _ _
          simp
          omega
        have f1 : (128 : Int) / 2 ^ r = (km : Int) := by rw [hkm, hmn]; simp
        have f2 : bits .and .u8 (ky : Int) (km : Int) = (k1 : Int) := by rw [hky, hkm, u8_and_bv, ← hz1, hk1]
        have f3 : bits .or .u8 (kx : Int) (k1 : Int) = (k2 : Int) := by rw [hkx, hk1, u8_or_bv, ← hz2, hk2]
        have c5 := ho.cell n
        rw [bs_at _ _ (by rw [narrowL_length]; exact hn32), ← hx, bv, ← hkx] at c5
        have f5 := ho.frozen n
        have c2 := hh.cell n
        rw [bs_at _ _ (by rw [HL.out]; exact hn32), ← hy, bv, ← hky] at c2
        have hset := ho.set n (bv z2)
        rw [bs_set, hres, bv, ← hk2] at hset
        clear hend ho hh hz hbel hx hy hm hz1 hz2 hkx hky hkm hk1 hk2 hmn hres hib hn hr
        have HSet := Lib.hid hset
        clear hset
        go_wp2_with fail
        refine region_tail 15 (by kernel_rfl) (by kernel_rfl) (fun W => W.cell? ⟨w.heap.size + 1 + 1, n, none⟩ = some (.int .u8 (kx : Int)) ∧ W.frozen? ⟨w.heap.size + 1 + 1, n, none⟩ = false ∧ W.cell? ⟨w.heap.size, n, none⟩ = some (.int .u8 (ky : Int)) ∧ Blk (W.setCell ⟨w.heap.size + 1 + 1, n, none⟩ (.int .u8 (k2 : Int))) (w.heap.size + 1 + 1) 24 (bs (narrowL h ((i + 1 : Nat) : Int))) ∧ Blk W w.heap.size 24 (bs h) ∧ (∃ zs, Blk W (w.heap.size + 1) 24 zs ∧ zs.size = 32) ∧ Below w.heap.size w W) ?_ ?_
        · exact ⟨by simpa using c5, by simpa using f5, by simpa using c2, HSet.out, HH.out, HZ.out, ⟨HB.out.os, HB.out.tape, HB.out.output, HB.out.size, HB.out.block⟩⟩
        clear c5 f5 c2 HSet HO HH HZ HB
        rintro W2 ⟨c5, f5, c2, hset, hh2, hz2, hb2⟩
        have HSet := Lib.hid hset
        have HH := Lib.hid hh2
        have HZ := Lib.hid hz2
        have HB := Lib.hid hb2
        clear hset hh2 hz2 hb2
        simp only [List.take_succ_cons, List.take_zero, List.drop_succ_cons, List.drop_zero]
        repeat (first | go_big_quiet_skip | (go_big_quiet_want; go_big_quiet_op; go_big_quiet_on))
        refine wpQuiet_nil ?_
        go_wp2
        go_roundw
        case rel =>
          refine ⟨i + 1, by omega, .inl (by omega), by go_num, HSet.out, HH.out.other _ _ (by simp; omega), ?_, HB.out.setCell (by simp; omega) _⟩
          obtain ⟨zs, h3, h4⟩ := HZ.out
          exact ⟨zs, h3.other _ _ (by simp), h4⟩
        case measure => simp [intOf]; omega
      · have hd2 : decide ((i : Int) < b) = false := by simpa using h2
        have hnn := HEnd.out (by omega)
        obtain ⟨zs, hz1, hz2⟩ := HZ.out
        obtain ⟨cs, hcs⟩ : ∃ cs, cs = bs (narrowL h b) := ⟨_, rfl⟩
        have hcl : cs.size = 32 := by rw [hcs, bs_size, narrowL_length]
        have hone : cs.all (·.oneCell') = true := by rw [hcs]; exact bs_one _
        have hsz2 : (Tryd.prog.info? 24).map (·.size) = some cs.size := by rw [hcl]; kernel_rfl
        rw [hnn, ← hcs] at ho
        have H1 := Lib.hid ho
        have H2 := Lib.hid hz1
        have H3 := Lib.hid (hz2.trans hcl.symm)
        have HSz := Lib.hid hsz2
        have HOne := Lib.hid hone
        have HCs := Lib.hid hcs
        clear hend ho hh hz hbel hnn hz1 hz2 hcs hcl hone hsz2 hib
        go_wp2_with (first
          | (refine wpList_load_row rfl 24 (.tmp 5) rfl (w.heap.size + 1 + 1) rfl 24 cs (0, 0) _ H1.out Tryd.underlying24 rfl HSz.out ?_)
          | (refine wpList_store_row rfl 24 (.tmp 4) (.tmp 31) rfl (w.heap.size + 1) cs rfl rfl 24 _ H2.out HSz.out H3.out HOne.out ?_))
        exact bodyPost_ret (v := .agg cs) (results_cell_row rfl _ _ (w.heap.size + 1) 24 cs (0, 0) _ rfl (H2.out.row cs) Tryd.underlying24 rfl HSz.out) rfl ⟨by rw [HCs.out], below_setRow HB.out _ _ (by omega)⟩
    · have hd1 : decide ((i : Int) < 256) = false := by simpa using h1
      have hnn := HEnd.out (by omega)
      obtain ⟨zs, hz1, hz2⟩ := HZ.out
      obtain ⟨cs, hcs⟩ : ∃ cs, cs = bs (narrowL h b) := ⟨_, rfl⟩
      have hcl : cs.size = 32 := by rw [hcs, bs_size, narrowL_length]
      have hone : cs.all (·.oneCell') = true := by rw [hcs]; exact bs_one _
      have hsz2 : (Tryd.prog.info? 24).map (·.size) = some cs.size := by rw [hcl]; kernel_rfl
      rw [hnn, ← hcs] at ho
      have H1 := Lib.hid ho
      have H2 := Lib.hid hz1
      have H3 := Lib.hid (hz2.trans hcl.symm)
      have HSz := Lib.hid hsz2
      have HOne := Lib.hid hone
      have HCs := Lib.hid hcs
      clear hend ho hh hz hbel hnn hz1 hz2 hcs hcl hone hsz2 hib
      go_wp2_with (first
        | (refine wpList_load_row rfl 24 (.tmp 5) rfl (w.heap.size + 1 + 1) rfl 24 cs (0, 0) _ H1.out Tryd.underlying24 rfl HSz.out ?_)
        | (refine wpList_store_row rfl 24 (.tmp 4) (.tmp 31) rfl (w.heap.size + 1) cs rfl rfl 24 _ H2.out HSz.out H3.out HOne.out ?_))
      exact bodyPost_ret (v := .agg cs) (results_cell_row rfl _ _ (w.heap.size + 1) 24 cs (0, 0) _ rfl (H2.out.row cs) Tryd.underlying24 rfl HSz.out) rfl ⟨by rw [HCs.out], below_setRow HB.out _ _ (by omega)⟩
end Go.Proofs.YtdhfabjkpffhnaaDoor

