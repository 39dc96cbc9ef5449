/- One block worked in: the reference's. -/
import Derived.Test.YtdhfabjkpffhnaaDoorKS
import Derived.Test.YtdhfabjkpffhnaaDoorArmsJ
namespace Go.Proofs.YtdhfabjkpffhnaaDoor
set_option maxRecDepth 20000
open Go.RowKit ShaMath

/-- The reference's table. -/
def Consts (w : World) : Prop := ∀ j, j < 64 → w.cell? ⟨1, j, none⟩ = some (ru (at0 K j))
theorem Consts.below {w w' : World} {B : Nat} (h : Consts w) (hB : w.heap.size ≤ B) (hb : Below B w w') : Consts w' := fun j hj => by
  have h0 := h j hj
  rw [hb.cell (p := ⟨1, j, none⟩) (Nat.lt_of_lt_of_le (World.block_lt_of_cell? w _ h0) hB)]
  exact h0

theorem bys_cell {w : World} {a : Option Addr} {len cap : Nat} {l : List UInt8} (h : Bys w (.slice a len cap) l) (i : Nat) (hi : i < l.length) : ∃ ad, a = some ad ∧ w.cell? (ad.add i) = some (bv (l.getD i 0)) := by
  rcases h with ⟨h1, rfl⟩ | ⟨ad, c, h1, hc⟩
  · simp at hi
  · simp at h1
    obtain ⟨rfl, rfl, rfl⟩ := h1
    refine ⟨ad, rfl, ?_⟩
    rw [hc i hi]
    simp [List.getD, hi]

/-- A byte on its way into a word. -/
theorem byte_num (c : UInt8) (s : Nat) (m : Int) (hm : m = 2 ^ s) (hs : s ≤ 24) : (c.toNat : Int) * m = rv (zx c <<< s) ∧ (c.toNat : Int) * m % 4294967296 = rv (zx c <<< s) ∧ rv (zx c <<< s) % 4294967296 = rv (zx c <<< s) := by
  have h1 := rv_shl_lit (zx c) s m hm
  rw [← rv_zx] at h1
  have hb := c.toNat_lt
  have hp : (2 : Int) ^ s ≤ 2 ^ 24 := by
    have := Nat.pow_le_pow_right (n := 2) (by omega) hs
    exact_mod_cast this
  have h0 : 0 < (2 : Int) ^ s := Int.pow_pos (by decide)
  have h2 : (c.toNat : Int) * m ≤ 255 * 16777216 := by
    rw [hm]
    exact Int.mul_le_mul (by omega) hp (by omega) (by omega)
  have h3 : 0 ≤ (c.toNat : Int) * m := by rw [hm]; exact Int.mul_nonneg (by omega) (by omega)
  have h4 : (c.toNat : Int) * m % 4294967296 = (c.toNat : Int) * m := by omega
  have hr := rv_bd (zx c <<< s)
  exact ⟨by rw [← h4]; exact h1, h1, by omega⟩

/-- The registers moved on by j places. -/
def shifted (V : List (BitVec 32)) : Nat → List (BitVec 32)
  | 0 => V
  | j + 1 => (shifted V j).set (7 - j) (at0 (shifted V j) (6 - j))
theorem shifted_length (V : List (BitVec 32)) (j : Nat) : (shifted V j).length = V.length := by
  induction j with
  | zero => rfl
  | succ j ih => rw [shifted, List.length_set, ih]
theorem shifted_all (q : Regs) : shifted q.list 7 = [q.a, q.a, q.b, q.c, q.d, q.e, q.f, q.g] := rfl

/-- k words are added. -/
def added (V U : List (BitVec 32)) : Nat → List (BitVec 32)
  | 0 => V
  | k + 1 => (added V U k).set k (at0 (added V U k) k + at0 U k)
theorem added_length (V U : List (BitVec 32)) (j : Nat) : (added V U j).length = V.length := by
  induction j with
  | zero => rfl
  | succ j ih => rw [added, List.length_set, ih]
theorem added_all (r q : Regs) : added r.list q.list 8 = (r.add q).list := rfl

/-- What stays while the registers turn. -/
def Rest (w : World) (r : Regs) (b : List UInt8) (wr : World) : Prop :=
  Blk wr (w.heap.size + 1 + 1) 124 (us (words b)) ∧ Blk wr w.heap.size 93 (us r.list) ∧ (∃ zs, Blk wr (w.heap.size + 1) 93 zs ∧ zs.size = 8) ∧ Below w.heap.size w wr
theorem Rest.drewN {w wr : World} {r : Regs} {b : List UInt8} (h : Rest w r b wr) (N : Nat) : Rest w r b (wr.drewN N) := by
  obtain ⟨h1, h2, ⟨zs, h3, h4⟩, h5⟩ := h
  exact ⟨h1, h2, ⟨zs, h3, h4⟩, ⟨h5.os, h5.tape, h5.output, h5.size, h5.block⟩⟩
theorem Rest.set {w wr : World} {r : Regs} {b : List UInt8} (h : Rest w r b wr) (g i : Nat) (v : Value) (hg : w.heap.size + 1 + 1 < g) : Rest w r b (wr.setCell ⟨g, i, none⟩ v) := by
  obtain ⟨h1, h2, ⟨zs, h3, h4⟩, h5⟩ := h
  exact ⟨h1.other _ _ (by simp; omega), h2.other _ _ (by simp; omega), ⟨zs, h3.other _ _ (by simp; omega), h4⟩, h5.setCell (by simp; omega) _⟩

def TurnAt (w : World) (g : Nat) (r : Regs) (b : List UInt8) (s11 : Value) (wr : World) : Prop :=
  ∃ (n : Nat) (q : Regs), n ≤ 64 ∧ q = rounds (words b) r n ∧ s11 = .int .i64 n ∧ Blk wr g 93 (us q.list) ∧ Rest w r b wr
def ShiftAt (w : World) (g : Nat) (r : Regs) (b : List UInt8) (q : Regs) (s16 : Value) (wr : World) : Prop :=
  ∃ j k : Nat, j + k = 7 ∧ s16 = .int .i64 k ∧ Blk wr g 93 (us (shifted q.list j)) ∧ Rest w r b wr
def AddAt (w : World) (g : Nat) (r : Regs) (q : Regs) (s17 : Value) (wr : World) : Prop :=
  ∃ k : Nat, k ≤ 8 ∧ s17 = .int .i64 k ∧ Blk wr w.heap.size 93 (us (added r.list q.list k)) ∧ Blk wr g 93 (us q.list) ∧ (∃ zs, Blk wr (w.heap.size + 1) 93 zs ∧ zs.size = 8) ∧ Below w.heap.size w wr

def LayAt (w : World) (r : Regs) (b : List UInt8) (s6 : Value) (wr : World) : Prop :=
  ∃ t : Nat, t ≤ 16 ∧ s6 = .int .i64 t ∧ Blk wr (w.heap.size + 1 + 1) 124 (us (laid b t)) ∧ Blk wr w.heap.size 93 (us r.list) ∧ (∃ zs, Blk wr (w.heap.size + 1) 93 zs ∧ zs.size = 8) ∧ Below w.heap.size w wr
def MoreAt (w : World) (r : Regs) (b : List UInt8) (s7 : Value) (wr : World) : Prop :=
  ∃ n t : Nat, t = 16 + n ∧ n ≤ 48 ∧ s7 = .int .i64 (t : Int) ∧ Blk wr (w.heap.size + 1 + 1) 124 (us (grown (laid b 16) n)) ∧ Blk wr w.heap.size 93 (us r.list) ∧ (∃ zs, Blk wr (w.heap.size + 1) 93 zs ∧ zs.size = 8) ∧ Below w.heap.size w wr

set_option maxHeartbeats 1000000 in
set_option maxRecDepth 100000 in
theorem refblock_any (r : Regs) (b : List UInt8) (a : Option Addr) (cap : Nat) (w : World) (hv : Bys w (.slice a 64 cap) b) (hb : b.length = 64) (ht : Consts w) :
    Calls Tryd.prog 93 #[.agg (us r.list), .slice a 64 cap] w fun e w' => e = .returned (.agg (us (comp r b).list)) ∧ Below w.heap.size w w' := by
  have HV := Lib.hid hv
  have HL := Lib.hid hb
  have HT := Lib.hid ht
  clear hv hb ht
  go_enter Tryd.func93, Tryd.ntmps93
  go_upto_region 2 with fail
  refine world_cut (fun W => Blk W (w.heap.size + 1 + 1) 124 (us (laid b 0)) ∧ Blk W w.heap.size 93 (us r.list) ∧ (∃ zs, Blk W (w.heap.size + 1) 93 zs ∧ zs.size = 8) ∧ Below w.heap.size w W) ?_ ?_
  · exact ⟨Blk.newAt _ _ _ _ _ (by simp) (by kernel_rfl), ((Blk.new _ _ _).alloc _).alloc _, ⟨_, (Blk.newAt _ _ _ _ _ (by simp) rfl).alloc _, rfl⟩, (((Below.refl _ _).alloc (Nat.le_refl _) _).alloc (by simp) _).alloc (by simp; omega) _⟩
  rintro W1 hW1
  have HW1 := Lib.hid hW1
  clear hW1
  go_wp2
  go_loopw [6] (fun s6 wr => LayAt w r b s6 wr) (fun s6 _ => 16 - (intOf s6).toNat)
  case atStart => exact ⟨0, by omega, rfl, HW1.out⟩
  case round =>
    obtain ⟨t, ht, rfl, hw, hr, hz, hbel⟩ := hrel
    have hsz := hbel.size
    by_cases hlt : t < 16
    · have hvr := HV.out.below (Nat.le_refl _) hbel
      obtain ⟨ad, rfl, d0⟩ := bys_cell hvr (4 * t) (by rw [HL.out]; omega)
      obtain ⟨_, e1, d1⟩ := bys_cell hvr (4 * t + 1) (by rw [HL.out]; omega)
      cases e1
      obtain ⟨_, e1, d2⟩ := bys_cell hvr (4 * t + 2) (by rw [HL.out]; omega)
      cases e1
      obtain ⟨_, e1, d3⟩ := bys_cell hvr (4 * t + 3) (by rw [HL.out]; omega)
      cases e1
      have da : ∀ j, ad.add (4 * t + (j + 1)) = ⟨ad.block, ad.off + (4 * t + (j + 1)), none⟩ := fun j => by simp [Addr.add]
      rw [da 0] at d1
      rw [da 1] at d2
      rw [da 2] at d3
      clear da
      obtain ⟨c0, hc0⟩ : ∃ c, c = b.getD (4 * t) 0 := ⟨_, rfl⟩
      obtain ⟨c1, hc1⟩ : ∃ c, c = b.getD (4 * t + 1) 0 := ⟨_, rfl⟩
      obtain ⟨c2, hc2⟩ : ∃ c, c = b.getD (4 * t + 2) 0 := ⟨_, rfl⟩
      obtain ⟨c3, hc3⟩ : ∃ c, c = b.getD (4 * t + 3) 0 := ⟨_, rfl⟩
      rw [← hc0, bv] at d0
      rw [← hc1, bv] at d1
      rw [← hc2, bv] at d2
      rw [← hc3, bv] at d3
      obtain ⟨x0, hx0⟩ : ∃ x, x = zx c0 <<< 24 := ⟨_, rfl⟩
      obtain ⟨x1, hx1⟩ : ∃ x, x = zx c1 <<< 16 := ⟨_, rfl⟩
      obtain ⟨x2, hx2⟩ : ∃ x, x = zx c2 <<< 8 := ⟨_, rfl⟩
      obtain ⟨x3, hx3⟩ : ∃ x, x = zx c3 := ⟨_, rfl⟩
      obtain ⟨p0, p0', p0''⟩ := byte_num c0 24 16777216 (by decide) (by omega)
      obtain ⟨p1, p1', p1''⟩ := byte_num c1 16 65536 (by decide) (by omega)
      obtain ⟨p2, p2', p2''⟩ := byte_num c2 8 256 (by decide) (by omega)
      rw [← hx0] at p0 p0' p0''
      rw [← hx1] at p1 p1' p1''
      rw [← hx2] at p2 p2' p2''
      have p3 : (c3.toNat : Int) = rv x3 := by rw [hx3, rv_zx]
      obtain ⟨o1, ho1⟩ : ∃ x, x = x0 ||| x1 := ⟨_, rfl⟩
      obtain ⟨o2, ho2⟩ : ∃ x, x = o1 ||| x2 := ⟨_, rfl⟩
      obtain ⟨o3, ho3⟩ : ∃ x, x = o2 ||| x3 := ⟨_, rfl⟩
      have hw3 : o3 = word c0 c1 c2 c3 := by rw [ho3, ho2, ho1, hx0, hx1, hx2, hx3, word]
      obtain ⟨k0, hk0⟩ : ∃ k : Nat, k = c0.toNat := ⟨_, rfl⟩
      obtain ⟨k1, hk1⟩ : ∃ k : Nat, k = c1.toNat := ⟨_, rfl⟩
      obtain ⟨k2, hk2⟩ : ∃ k : Nat, k = c2.toNat := ⟨_, rfl⟩
      obtain ⟨k3, hk3⟩ : ∃ k : Nat, k = c3.toNat := ⟨_, rfl⟩
      have b0 := (u8_bd c0).2
      have b1 := (u8_bd c1).2
      have b2 := (u8_bd c2).2
      have b3 := (u8_bd c3).2
      rw [← hk0] at d0 p0 p0' b0
      rw [← hk1] at d1 p1 p1' b1
      rw [← hk2] at d2 p2 p2' b2
      rw [← hk3] at d3 p3 b3
      have q1 : bits .or .u32 (rv x0) (rv x1) = rv o1 := by rw [rv_or, ho1]
      have q2 : bits .or .u32 (rv o1) (rv x2) = rv o2 := by rw [rv_or, ho2]
      have q3 : bits .or .u32 (rv o2) (rv x3) = rv o3 := by rw [rv_or, ho3]
      have hset := hw.set t (ru o3)
      rw [us_set, hw3, hc0, hc1, hc2, hc3] at hset
      have hct := hw.cell t
      rw [us_at _ _ (by rw [laid_length]; omega), ru] at hct
      have hft := hw.frozen t
      have HW3 := Lib.hid (And.intro hw3 (And.intro hc0 (And.intro hc1 (And.intro hc2 hc3))))
      have HW := Lib.hid hw
      have HR := Lib.hid hr
      have HZ := Lib.hid hz
      have HB := Lib.hid hbel
      have hvb : ad.block < w.heap.size := by
        have := World.block_lt_of_cell? w _ (bys_cell HV.out 0 (by rw [HL.out]; omega)).choose_spec.2
        rw [add_block] at this
        obtain ⟨ad', h1, h2⟩ := bys_cell HV.out 0 (by rw [HL.out]; omega)
        cases h1
        have := World.block_lt_of_cell? w _ h2
        rwa [add_block] at this
      clear hvr hc0 hc1 hc2 hc3 hx0 hx1 hx2 hx3 ho1 ho2 ho3 hw3 hk0 hk1 hk2 hk3 hset hw hr hz hbel
      have i0 : (0 : Int) ≤ 4 * (t : Int) := by omega
      have i1 : 4 * (t : Int) + 3 < 64 := by omega
      go_wp2_with fail
      refine region_tail 35 (by kernel_rfl) (by kernel_rfl) (fun W => W.cell? (ad.add (4 * t)) = some (.int .u8 (k0 : Int)) ∧ W.cell? ⟨ad.block, ad.off + (4 * t + 1), none⟩ = some (.int .u8 (k1 : Int)) ∧ W.cell? ⟨ad.block, ad.off + (4 * t + 2), none⟩ = some (.int .u8 (k2 : Int)) ∧ W.cell? ⟨ad.block, ad.off + (4 * t + 3), none⟩ = some (.int .u8 (k3 : Int)) ∧ W.cell? ⟨w.heap.size + 1 + 1, t, none⟩ = some (.int .u32 (rv (at0 (laid b t) t))) ∧ W.frozen? ⟨w.heap.size + 1 + 1, t, none⟩ = false ∧ Blk W (w.heap.size + 1 + 1) 124 (us (laid b t)) ∧ Blk W w.heap.size 93 (us r.list) ∧ (∃ zs, Blk W (w.heap.size + 1) 93 zs ∧ zs.size = 8) ∧ Below w.heap.size w W) ?_ ?_
      · exact ⟨by simpa using d0, by simpa using d1, by simpa using d2, by simpa using d3, by simpa using hct, by simpa using hft, HW.out, HR.out, HZ.out, ⟨HB.out.os, HB.out.tape, HB.out.output, HB.out.size, HB.out.block⟩⟩
      clear d0 d1 d2 d3 hct hft HW HR HZ HB
      rintro W2 ⟨d0, d1, d2, d3, hct, hft, hw2, hr2, hz2, hb2⟩
      have HW := Lib.hid hw2
      have HR := Lib.hid hr2
      have HZ := Lib.hid hz2
      have HB := Lib.hid hb2
      clear hw2 hr2 hz2 hb2
      simp only [List.take_succ_cons, List.take_zero, List.drop_succ_cons, List.drop_zero]
      repeat (first | go_big_quiet_skip | (go_big_quiet_want; go_big_quiet_op; go_big_quiet_on))
      refine wpQuiet_nil ?_
      go_wp2
      go_roundw
      case rel =>
        have hset := HW.out.set t (ru o3)
        rw [us_set, HW3.out.1, HW3.out.2.1, HW3.out.2.2.1, HW3.out.2.2.2.1, HW3.out.2.2.2.2, ← laid] at hset
        rw [HW3.out.1, HW3.out.2.1, HW3.out.2.2.1, HW3.out.2.2.2.1, HW3.out.2.2.2.2]
        refine ⟨t + 1, by omega, by go_num, hset, HR.out.other _ _ (by simp; omega), ?_, HB.out.setCell (by simp; omega) _⟩
        obtain ⟨zs, h1, h2⟩ := HZ.out
        exact ⟨zs, h1.other _ _ (by simp), h2⟩
      case measure => simp [intOf]; omega
    · have ht16 : t = 16 := by omega
      rw [ht16] at hw
      have HW := Lib.hid hw
      have HR := Lib.hid hr
      have HZ := Lib.hid hz
      have HB := Lib.hid hbel
      clear hw hr hz hbel ht16 ht
      go_wp2
      clear hlt
      obtain ⟨wo, rfl⟩ : ∃ wo : World, wo = wr := ⟨_, rfl⟩
      clear hsz
      go_loopw [7] (fun s7 wr => MoreAt w r b s7 wr) (fun s7 _ => 64 - (intOf s7).toNat)
      case atStart => exact ⟨0, 16, rfl, by omega, rfl, HW.out, HR.out, HZ.out, HB.out⟩
      case round =>
        clear HW HR HZ HB
        obtain ⟨n, u, hu, hn, rfl, hw, hr, hz, hbel⟩ := hrel
        have HU := Lib.hid hu
        have hsz := hbel.size
        by_cases hlt : u < 64
        · have h16 : 16 ≤ u := by omega
          have hl : (grown (laid b 16) n).length = 64 := by rw [grown_length, laid_length]
          obtain ⟨L, hL⟩ : ∃ L, L = grown (laid b 16) n := ⟨_, rfl⟩
          rw [← hL] at hw hl
          have c2 := hw.cell (u - 2)
          have c7 := hw.cell (u - 7)
          have c15 := hw.cell (u - 15)
          have c16 := hw.cell (u - 16)
          rw [us_at _ _ (by rw [hl]; omega), ru] at c2 c7 c15 c16
          have hf := hw.frozen u
          have ct := hw.cell u
          rw [us_at _ _ (by rw [hl]; omega), ru] at ct
          obtain ⟨x, hx⟩ : ∃ x, x = at0 L (u - 15) := ⟨_, rfl⟩
          obtain ⟨y, hy⟩ : ∃ x, x = at0 L (u - 2) := ⟨_, rfl⟩
          obtain ⟨x7, hx7⟩ : ∃ x, x = at0 L (u - 7) := ⟨_, rfl⟩
          obtain ⟨x16, hx16⟩ : ∃ x, x = at0 L (u - 16) := ⟨_, rfl⟩
          rw [← hx] at c15
          rw [← hy] at c2
          rw [← hx7] at c7
          rw [← hx16] at c16
          have HLg := Lib.hid hL
          have HWr := Lib.hid hw
          have HRr := Lib.hid hr
          have HZr := Lib.hid hz
          have HBr := Lib.hid hbel
          have HX := Lib.hid (And.intro hx (And.intro hy (And.intro hx7 hx16)))
          have b0 := (rv_bd x).1
          have b1 := (rv_bd x).2
          have b2 := (rv_bd y).1
          have b3 := (rv_bd y).2
          clear hL hw hr hz hbel hl hu hx hy hx7 hx16
          obtain ⟨r7, hr7⟩ : ∃ r, r = ror x 7 := ⟨_, rfl⟩
          obtain ⟨r18, hr18⟩ : ∃ r, r = ror x 18 := ⟨_, rfl⟩
          obtain ⟨r17, hr17⟩ : ∃ r, r = ror y 17 := ⟨_, rfl⟩
          obtain ⟨r19, hr19⟩ : ∃ r, r = ror y 19 := ⟨_, rfl⟩
          obtain ⟨xa, hxa⟩ : ∃ r, r = r7 ^^^ r18 := ⟨_, rfl⟩
          obtain ⟨x3, hx3⟩ : ∃ r, r = x >>> 3 := ⟨_, rfl⟩
          obtain ⟨sx, hsx⟩ : ∃ r, r = xa ^^^ x3 := ⟨_, rfl⟩
          obtain ⟨ya, hya⟩ : ∃ r, r = r17 ^^^ r19 := ⟨_, rfl⟩
          obtain ⟨y10, hy10⟩ : ∃ r, r = y >>> 10 := ⟨_, rfl⟩
          obtain ⟨sy, hsy⟩ : ∃ r, r = ya ^^^ y10 := ⟨_, rfl⟩
          have q7 : Hid (∀ W, Calls Tryd.prog 101 #[.int .u32 (rv x), .int .u64 7] W fun e w' => e = .returned (.int .u32 (rv r7)) ∧ w' = W) := Lib.hid fun W => by rw [hr7]; exact (rot_any x 7 W (by omega) (by omega)).mono fun e w' h => ⟨h.1, h.2.symm⟩
          have q18 : Hid (∀ W, Calls Tryd.prog 101 #[.int .u32 (rv x), .int .u64 18] W fun e w' => e = .returned (.int .u32 (rv r18)) ∧ w' = W) := Lib.hid fun W => by rw [hr18]; exact (rot_any x 18 W (by omega) (by omega)).mono fun e w' h => ⟨h.1, h.2.symm⟩
          have q17 : Hid (∀ W, Calls Tryd.prog 101 #[.int .u32 (rv y), .int .u64 17] W fun e w' => e = .returned (.int .u32 (rv r17)) ∧ w' = W) := Lib.hid fun W => by rw [hr17]; exact (rot_any y 17 W (by omega) (by omega)).mono fun e w' h => ⟨h.1, h.2.symm⟩
          have q19 : Hid (∀ W, Calls Tryd.prog 101 #[.int .u32 (rv y), .int .u64 19] W fun e w' => e = .returned (.int .u32 (rv r19)) ∧ w' = W) := Lib.hid fun W => by rw [hr19]; exact (rot_any y 19 W (by omega) (by omega)).mono fun e w' h => ⟨h.1, h.2.symm⟩
          have g1 : bits .xor .u32 (rv r7) (rv r18) = rv xa := by rw [rv_xor, hxa]
          have g2 : rv x / 8 = rv x3 := by rw [hx3]; exact rv_shr_lit x 3 8 (by decide)
          have g3 : bits .xor .u32 (rv xa) (rv x3) = rv sx := by rw [rv_xor, hsx]
          have g4 : bits .xor .u32 (rv r17) (rv r19) = rv ya := by rw [rv_xor, hya]
          have g5 : rv y / 1024 = rv y10 := by rw [hy10]; exact rv_shr_lit y 10 1024 (by decide)
          have g6 : bits .xor .u32 (rv ya) (rv y10) = rv sy := by rw [rv_xor, hsy]
          obtain ⟨z1, hz1⟩ : ∃ r, r = sy + x7 := ⟨_, rfl⟩
          obtain ⟨z2, hz2⟩ : ∃ r, r = z1 + sx := ⟨_, rfl⟩
          obtain ⟨z, hz⟩ : ∃ r, r = z2 + x16 := ⟨_, rfl⟩
          have e1 : (rv sy + rv x7) % 4294967296 = rv z1 := by rw [rv_add_mod, hz1]
          have e2 : (rv z1 + rv sx) % 4294967296 = rv z2 := by rw [rv_add_mod, hz2]
          have e3 : (rv z2 + rv x16) % 4294967296 = rv z := by rw [rv_add_mod, hz]
          have e1' : IntKind.u32.wrap (rv sy + rv x7) = rv z1 := by rw [rv_add, hz1]
          have e2' : IntKind.u32.wrap (rv z1 + rv sx) = rv z2 := by rw [rv_add, hz2]
          have e3' : IntKind.u32.wrap (rv z2 + rv x16) = rv z := by rw [rv_add, hz]
          have HZZ : Hid (z = nextW L u) := Lib.hid (by rw [hz, hz2, hz1, hsy, hsx, hxa, hya, hx3, hy10, hr7, hr18, hr17, hr19, nextW, HX.out.1, HX.out.2.1, HX.out.2.2.1, HX.out.2.2.2]; rfl)
          clear hr7 hr18 hr17 hr19 hxa hx3 hsx hya hy10 hsy hz1 hz2 hz
          have i1 : (0 : Int) ≤ (u : Int) - 15 := by omega
          have i2 : (u : Int) - 15 < 64 := by omega
          have i3 : (0 : Int) ≤ (u : Int) - 2 := by omega
          have i4 : (u : Int) - 2 < 64 := by omega
          have i5 : (0 : Int) ≤ (u : Int) - 7 := by omega
          have i6 : (u : Int) - 7 < 64 := by omega
          have i7 : (0 : Int) ≤ (u : Int) - 16 := by omega
          have i8 : (u : Int) - 16 < 64 := by omega
          go_wp2_with fail
          refine region_tail 29 (by kernel_rfl) (by kernel_rfl) (fun W => W.cell? ⟨w.heap.size + 1 + 1, u - 7, none⟩ = some (.int .u32 (rv x7)) ∧ W.cell? ⟨w.heap.size + 1 + 1, u - 16, none⟩ = some (.int .u32 (rv x16)) ∧ W.cell? ⟨w.heap.size + 1 + 1, u, none⟩ = some (.int .u32 (rv (at0 L u))) ∧ W.frozen? ⟨w.heap.size + 1 + 1, u, none⟩ = false ∧ Blk W (w.heap.size + 1 + 1) 124 (us L) ∧ Blk W w.heap.size 93 (us r.list) ∧ (∃ zs, Blk W (w.heap.size + 1) 93 zs ∧ zs.size = 8) ∧ Below w.heap.size w W) ?_ ?_
          · exact ⟨by simpa using c7, by simpa using c16, by simpa using ct, by simpa using hf, HWr.out, HRr.out, HZr.out, ⟨HBr.out.os, HBr.out.tape, HBr.out.output, HBr.out.size, HBr.out.block⟩⟩
          clear c7 c16 c2 c15 ct hf HWr HRr HZr HBr
          rintro W2 ⟨d7, d16, dt, df, hw2, hr2, hz2, hb2⟩
          have HW2 := Lib.hid hw2
          have HR2 := Lib.hid hr2
          have HZ2 := Lib.hid hz2
          have HB2 := Lib.hid hb2
          clear hw2 hr2 hz2 hb2
          simp only [List.take_succ_cons, List.take_zero, List.drop_succ_cons, List.drop_zero]
          repeat (first | go_big_quiet_skip | (go_big_quiet_want; go_big_quiet_op; first | go_big_quiet_on | ((with_reducible first | refine ⟨_, q7.out _, ?_⟩ | refine ⟨_, q18.out _, ?_⟩ | refine ⟨_, q17.out _, ?_⟩ | refine ⟨_, q19.out _, ?_⟩); go_big_quiet_on)))
          refine wpQuiet_nil ?_
          go_wp2
          go_roundw
          case rel =>
            have hset := HW2.out.set u (ru z)
            rw [us_set] at hset
            have hfe : L.set u z = grown (laid b 16) (n + 1) := by rw [HZZ.out, grown, ← HLg.out, ← HU.out]
            rw [hfe] at hset
            refine ⟨n + 1, u + 1, by have := HU.out; omega, by have := HU.out; omega, by go_num, hset, HR2.out.other _ _ (by simp; omega), ?_, HB2.out.setCell (by simp; omega) _⟩
            obtain ⟨zs, h1, h2⟩ := HZ2.out
            exact ⟨zs, h1.other _ _ (by simp), h2⟩
          case measure => simp [intOf]; omega
        · have h48 : n = 48 := by omega
          rw [h48] at hw
          have HW := Lib.hid (And.intro hw (And.intro hr (And.intro hz hbel)))
          have hgl := hw.lt
          have HRr := Lib.hid hr
          have HLr : Hid ((us r.list).size = 8) := Lib.hid rfl
          have HSz : Hid ((Tryd.prog.info? 93).map (·.size) = some (us r.list).size) := Lib.hid (by kernel_rfl)
          have HOne := Lib.hid (us_one r.list)
          obtain ⟨cs, hcs⟩ : ∃ cs, cs = us r.list := ⟨_, rfl⟩
          rw [← hcs] at HRr HLr HSz HOne
          have HCs := Lib.hid hcs
          clear hw hr hz hbel hu hn h48 hcs
          go_upto_region 13 with (first
            | (refine wpList_load_row rfl 93 (.tmp 2) rfl w.heap.size rfl _ cs _ _ HRr.out Tryd.underlying93 rfl HSz.out ?_)
            | (refine wpList_store_row rfl 93 (.tmp 10) (.tmp 98) rfl wr.heap.size cs rfl rfl _ _ (heap_alloc_new wr _) HSz.out (by rw [HLr.out]; rfl) HOne.out ?_))
          obtain ⟨g, hgg⟩ : ∃ g, g = wr.heap.size := ⟨_, rfl⟩
          rw [← hgg]
          refine world_cut (fun W => Blk W g 93 (us r.list) ∧ Rest w r b W) ?_ ?_
          · obtain ⟨h1, h2, ⟨zs, h3, h4⟩, h5⟩ := HW.out
            rw [hgg, ← HCs.out]
            refine ⟨Blk.row (heap_alloc_new wr _) cs, ?_, ?_, ⟨zs, (h3.alloc _).rowOther _ (by omega), h4⟩, below_setRow (h5.alloc (by omega) _) _ _ (by omega)⟩
            · exact (h1.alloc _).rowOther _ (by omega)
            · exact (h2.alloc _).rowOther _ (by omega)
          have hg2 : w.heap.size + 1 + 1 < g := by omega
          clear HW HRr HLr HSz HOne HCs hgg hgl hsz
          rintro W3 ⟨h31, h32⟩
          have H31 := Lib.hid h31
          have H32 := Lib.hid h32
          clear h31 h32
          go_wp2
          clear hlt
          go_loopw [11] (fun s11 wr => TurnAt w g r b s11 wr) (fun s11 _ => 64 - (intOf s11).toNat)
          case atStart => exact ⟨0, r, by omega, rfl, rfl, H31.out, H32.out⟩
          case round =>
            obtain ⟨m, q, hm, hq, rfl, hv, hrest⟩ := hrel
            by_cases hlt : m < 64
            · obtain ⟨qa, qb, qc, qd, qe, qf, qg, qh⟩ := q
              have c0 := hv.cell 0
              have c1 := hv.cell 1
              have c2 := hv.cell 2
              have c3 := hv.cell 3
              have c4 := hv.cell 4
              have c5 := hv.cell 5
              have c6 := hv.cell 6
              have c7 := hv.cell 7
              rw [us_at _ _ (by simp [Regs.list]), ru] at c0 c1 c2 c3 c4 c5 c6 c7
              simp only [at0, Regs.list, List.getD_cons_zero, List.getD_cons_succ] at c0 c1 c2 c3 c4 c5 c6 c7
              have hK := HT.out.below (Nat.le_refl _) hrest.2.2.2 m hlt
              have hc := hrest.1.cell m
              rw [us_at _ _ (by rw [words_length]; exact hlt)] at hc
              rw [ru] at hK hc
              obtain ⟨kk, hkk⟩ : ∃ x, x = at0 K m := ⟨_, rfl⟩
              obtain ⟨ww, hww⟩ : ∃ x, x = at0 (words b) m := ⟨_, rfl⟩
              rw [← hkk] at hK
              rw [← hww] at hc
              obtain ⟨r6, r11, r25, x1, x2, y1, ef, ne, ng, cc, y2, y3, t1, h6, h11, h25, a1, a2, a3, a3', a4, a5, a5', a6, a7, a8, a8', a9, a9', a10, a10', ht1⟩ := t1_num qe qf qg qh kk ww
              obtain ⟨r2, r13, r22, z1, z2, ab, ac, m1, bc, mm, t2, h2, h13, h22, b1, b2, b3, b4, b5, b6, b7, b8, b8', ht2⟩ := t2_num qa qb qc
              have q6 : Hid (∀ N, Calls Tryd.prog 101 #[.int .u32 (rv qe), .int .u64 6] (wr.drewN N) fun e w' => e = .returned (.int .u32 (rv r6)) ∧ ∃ m, w' = wr.drewN m) := Lib.hid fun N => by rw [h6]; exact (rot_any qe 6 _ (by omega) (by omega)).mono fun e w' h => ⟨h.1, N, h.2.symm⟩
              have q11 : Hid (∀ N, Calls Tryd.prog 101 #[.int .u32 (rv qe), .int .u64 11] (wr.drewN N) fun e w' => e = .returned (.int .u32 (rv r11)) ∧ ∃ m, w' = wr.drewN m) := Lib.hid fun N => by rw [h11]; exact (rot_any qe 11 _ (by omega) (by omega)).mono fun e w' h => ⟨h.1, N, h.2.symm⟩
              have q25 : Hid (∀ N, Calls Tryd.prog 101 #[.int .u32 (rv qe), .int .u64 25] (wr.drewN N) fun e w' => e = .returned (.int .u32 (rv r25)) ∧ ∃ m, w' = wr.drewN m) := Lib.hid fun N => by rw [h25]; exact (rot_any qe 25 _ (by omega) (by omega)).mono fun e w' h => ⟨h.1, N, h.2.symm⟩
              have g2 : Hid (r2 = ror qa 2) := Lib.hid h2
              have g13 : Hid (r13 = ror qa 13) := Lib.hid h13
              have g22 : Hid (r22 = ror qa 22) := Lib.hid h22
              obtain ⟨da, hda⟩ : ∃ x, x = qd + t1 := ⟨_, rfl⟩
              obtain ⟨aa, haa⟩ : ∃ x, x = t1 + t2 := ⟨_, rfl⟩
              have d1 : (rv qd + rv t1) % 4294967296 = rv da := by rw [rv_add_mod, hda]
              have d2 : (rv t1 + rv t2) % 4294967296 = rv aa := by rw [rv_add_mod, haa]
              have hst : Hid ((⟨aa, qa, qb, qc, da, qe, qf, qg⟩ : Regs) = rounds (words b) r (m + 1)) := Lib.hid (by rw [rounds, ← hq, haa, hda, ht1, ht2, hkk, hww]; rfl)
              have HVv := Lib.hid hv
              have HRe := Lib.hid hrest
              clear hq hv hrest hkk hww h6 h11 h25 h2 h13 h22 ht1 ht2 hda haa
              go_wp2_with fail
              go_quiet (first | with_reducible exact q6.out _ | with_reducible exact q11.out _ | with_reducible exact q25.out _)
              go_wp2_with fail
              refine world_cut (fun W => W.cell? ⟨g, 1, none⟩ = some (.int .u32 (rv qb)) ∧ W.cell? ⟨g, 2, none⟩ = some (.int .u32 (rv qc)) ∧ Blk W g 93 (us (Regs.list ⟨qa, qb, qc, qd, qe, qf, qg, qh⟩)) ∧ Rest w r b W) ?_ ?_
              · exact ⟨by simpa using c1, by simpa using c2, HVv.out, HRe.out.drewN _⟩
              clear c0 c1 c2 c3 c4 c5 c6 c7 hK hc HVv HRe q6 q11 q25
              rintro W4 ⟨c1, c2, hv4, hre4⟩
              have q2 : Hid (∀ N, Calls Tryd.prog 101 #[.int .u32 (rv qa), .int .u64 2] (W4.drewN N) fun e w' => e = .returned (.int .u32 (rv r2)) ∧ ∃ m, w' = W4.drewN m) := Lib.hid fun N => by rw [g2.out]; exact (rot_any qa 2 _ (by omega) (by omega)).mono fun e w' h => ⟨h.1, N, h.2.symm⟩
              have q13 : Hid (∀ N, Calls Tryd.prog 101 #[.int .u32 (rv qa), .int .u64 13] (W4.drewN N) fun e w' => e = .returned (.int .u32 (rv r13)) ∧ ∃ m, w' = W4.drewN m) := Lib.hid fun N => by rw [g13.out]; exact (rot_any qa 13 _ (by omega) (by omega)).mono fun e w' h => ⟨h.1, N, h.2.symm⟩
              have q22 : Hid (∀ N, Calls Tryd.prog 101 #[.int .u32 (rv qa), .int .u64 22] (W4.drewN N) fun e w' => e = .returned (.int .u32 (rv r22)) ∧ ∃ m, w' = W4.drewN m) := Lib.hid fun N => by rw [g22.out]; exact (rot_any qa 22 _ (by omega) (by omega)).mono fun e w' h => ⟨h.1, N, h.2.symm⟩
              have HVv := Lib.hid hv4
              have HRe := Lib.hid hre4
              clear hv4 hre4
              go_quiet (first | with_reducible exact q2.out _ | with_reducible exact q13.out _ | with_reducible exact q22.out _)
              go_wp2
              clear c1 c2 q2 q13 q22
              obtain ⟨q, hq⟩ : ∃ q : Regs, q = ⟨qa, qb, qc, qd, qe, qf, qg, qh⟩ := ⟨_, rfl⟩
              rw [← hq] at HVv
              go_loopw [16] (fun s16 wr => ShiftAt w g r b q s16 wr) (fun s16 _ => (intOf s16).toNat)
              case atStart => exact ⟨0, 7, rfl, rfl, HVv.out, HRe.out.drewN _⟩
              case round =>
                obtain ⟨j, k, hjk, rfl, hv, hrest⟩ := hrel
                have hsl : (shifted q.list j).length = 8 := by rw [shifted_length]; rfl
                by_cases hpos : 0 < k
                · have ck := hv.cell (k - 1)
                  have ck2 := hv.cell k
                  have fk := hv.frozen k
                  rw [us_at _ _ (by rw [hsl]; omega), ru] at ck ck2
                  have hset := hv.set k (ru (at0 (shifted q.list j) (k - 1)))
                  rw [us_set] at hset
                  have hfe : (shifted q.list j).set k (at0 (shifted q.list j) (k - 1)) = shifted q.list (j + 1) := by rw [shifted, show 7 - j = k by omega, show 6 - j = k - 1 by omega]
                  rw [hfe, ru] at hset
                  obtain ⟨x, hx⟩ : ∃ x, x = at0 (shifted q.list j) (k - 1) := ⟨_, rfl⟩
                  rw [← hx] at ck hset
                  have hre2 := hrest.set g k (.int .u32 (rv x)) hg2
                  have HSe := Lib.hid hset
                  have HRe2 := Lib.hid hre2
                  have hk7 : k ≤ 7 := by omega
                  clear hv hrest hset hfe hx hre2 hsl
                  go_wp2
                  go_roundw
                  case rel => exact ⟨j + 1, k - 1, by omega, by go_num, HSe.out, HRe2.out⟩
                  case measure => simp [intOf]; omega
                · have hk0 : k = 0 := by omega
                  have hj7 : j = 7 := by omega
                  rw [hj7, shifted_all] at hv
                  have e4 := hv.cell 4
                  have e0 := hv.cell 0
                  have f4 := hv.frozen 4
                  have f0 := hv.frozen 0
                  rw [us_at _ _ (by simp), ru] at e4 e0
                  simp only [at0, List.getD_cons_zero, List.getD_cons_succ] at e4 e0
                  rw [show q.d = qd by rw [hq]] at e4
                  have hs4 := hv.set 4 (ru da)
                  rw [us_set] at hs4
                  have hs0 := hs4.set 0 (ru aa)
                  rw [us_set] at hs0
                  have hfe : (([q.a, q.a, q.b, q.c, q.d, q.e, q.f, q.g] : List (BitVec 32)).set 4 da).set 0 aa = Regs.list ⟨aa, qa, qb, qc, da, qe, qf, qg⟩ := by rw [hq]; rfl
                  rw [hfe, ru, ru] at hs0
                  have hre2 := (hrest.set g 4 (.int .u32 (rv da)) hg2).set g 0 (.int .u32 (rv aa)) hg2
                  have HS0 := Lib.hid hs0
                  have HRe2 := Lib.hid hre2
                  have HQ := Lib.hid hq
                  clear hv hrest hs4 hs0 hfe hre2 hsl hjk hj7 hq
                  go_wp2
                  go_roundw
                  case rel => exact ⟨m + 1, _, by omega, hst.out, by go_num, by first | exact HS0.out | (rw [d1, d2]; exact HS0.out) | (rw [d2]; exact HS0.out) | (rw [d1]; exact HS0.out), by first | exact HRe2.out | (rw [d1, d2]; exact HRe2.out) | (rw [d2]; exact HRe2.out) | (rw [d1]; exact HRe2.out)⟩
                  case measure => simp [intOf]; omega
            · have hm64 : m = 64 := by omega
              rw [hm64] at hq
              have HQ := Lib.hid hq
              have HVv := Lib.hid hv
              have HRe := Lib.hid hrest
              clear hq hv hrest hm64 hm
              go_wp2
              clear hlt
              obtain ⟨wo2, rfl⟩ : ∃ wo2 : World, wo2 = wr := ⟨_, rfl⟩
              go_loopw [17] (fun s17 wr => AddAt w g r q s17 wr) (fun s17 _ => 8 - (intOf s17).toNat)
              case atStart => exact ⟨0, by omega, rfl, HRe.out.2.1, HVv.out, HRe.out.2.2⟩
              case round =>
                obtain ⟨k, hk, rfl, hh, hv, hz, hbel⟩ := hrel
                have hsz := hbel.size
                by_cases hlt : k < 8
                · have hal : (added r.list q.list k).length = 8 := by rw [added_length]; rfl
                  have ch := hh.cell k
                  have fh := hh.frozen k
                  have cv := hv.cell k
                  rw [us_at _ _ (by rw [hal]; exact hlt), ru] at ch
                  rw [us_at _ _ (by simp [Regs.list]; omega), ru] at cv
                  obtain ⟨x, hx⟩ : ∃ x, x = at0 (added r.list q.list k) k := ⟨_, rfl⟩
                  obtain ⟨y, hy⟩ : ∃ x, x = at0 q.list k := ⟨_, rfl⟩
                  obtain ⟨z, hz0⟩ : ∃ z, z = x + y := ⟨_, rfl⟩
                  rw [← hx] at ch
                  rw [← hy] at cv
                  have e1 : (rv x + rv y) % 4294967296 = rv z := by rw [rv_add_mod, hz0]
                  have e1' : IntKind.u32.wrap (rv x + rv y) = rv z := by rw [rv_add, hz0]
                  have hset := hh.set k (ru z)
                  rw [us_set] at hset
                  have hfe : (added r.list q.list k).set k z = added r.list q.list (k + 1) := by rw [hz0, hx, hy]; rfl
                  have hfe2 := Lib.hid hfe
                  rw [hfe, ru] at hset
                  have HSe := Lib.hid hset
                  have HHh := Lib.hid hh
                  have HV2 := Lib.hid hv
                  have HZ := Lib.hid hz
                  have HBl := Lib.hid hbel
                  clear hh hv hz hbel hset hfe hx hy hz0 hal
                  go_wp2_with fail
                  refine region_tail 8 (by kernel_rfl) (by kernel_rfl) (fun W => W.cell? ⟨w.heap.size, k, none⟩ = some (.int .u32 (rv x)) ∧ W.frozen? ⟨w.heap.size, k, none⟩ = false ∧ W.cell? ⟨g, k, none⟩ = some (.int .u32 (rv y)) ∧ Blk W w.heap.size 93 (us (added r.list q.list k)) ∧ Blk W g 93 (us q.list) ∧ (∃ zs, Blk W (w.heap.size + 1) 93 zs ∧ zs.size = 8) ∧ Below w.heap.size w W) ?_ ?_
                  · exact ⟨by simpa using ch, by simpa using fh, by simpa using cv, HHh.out, HV2.out, HZ.out, ⟨HBl.out.os, HBl.out.tape, HBl.out.output, HBl.out.size, HBl.out.block⟩⟩
                  clear ch fh cv HSe HHh HV2 HZ HBl
                  rintro W5 ⟨ch, fh, cv, hh5, hv5, hz5, hb5⟩
                  have hset := hh5.set k (ru z)
                  rw [us_set] at hset
                  have HH5 := Lib.hid hset
                  have HV5 := Lib.hid hv5
                  have HZ5 := Lib.hid hz5
                  have HB5 := Lib.hid hb5
                  clear hset hh5 hv5 hz5 hb5
                  simp only [List.take_succ_cons, List.take_zero, List.drop_succ_cons, List.drop_zero]
                  repeat (first | go_big_quiet_skip | (go_big_quiet_want; go_big_quiet_op; go_big_quiet_on))
                  refine wpQuiet_nil ?_
                  go_wp2
                  go_roundw
                  case rel =>
                    have hset := HH5.out
                    rw [hfe2.out, ru] at hset
                    refine ⟨k + 1, by omega, by go_num, hset, HV5.out.other _ _ (by simp; omega), ?_, HB5.out.setCell (by simp) _⟩
                    obtain ⟨zs, h1, h2⟩ := HZ5.out
                    exact ⟨zs, h1.other _ _ (by simp), h2⟩
                  case measure => simp [intOf]; omega
                · have hk8 : k = 8 := by omega
                  rw [hk8, added_all] at hh
                  obtain ⟨zs, hz1, hz2⟩ := hz
                  obtain ⟨cs, hcs⟩ : ∃ cs, cs = us (r.add q).list := ⟨_, rfl⟩
                  have hcl : cs.size = 8 := by rw [hcs]; rfl
                  have hone : cs.all (·.oneCell') = true := by rw [hcs]; exact us_one _
                  have hszc : (Tryd.prog.info? 93).map (·.size) = some cs.size := by rw [hcl]; kernel_rfl
                  rw [← hcs] at hh
                  have HH := Lib.hid hh
                  have HZ1 := Lib.hid hz1
                  have HSz := Lib.hid (hz2.trans hcl.symm)
                  have HSz2 := Lib.hid hszc
                  have HOne := Lib.hid hone
                  have HCs := Lib.hid hcs
                  have HBl := Lib.hid hbel
                  clear hh hv hz1 hz2 hbel hcl hone hszc hcs hk8 hk
                  go_wp2_with (first
                    | (refine wpList_load_row rfl 93 (.tmp 2) rfl w.heap.size rfl _ cs _ _ HH.out Tryd.underlying93 rfl HSz2.out ?_)
                    | (refine wpList_store_row rfl 93 (.tmp 4) (.tmp 192) rfl (w.heap.size + 1) cs rfl rfl _ _ HZ1.out HSz2.out HSz.out HOne.out ?_))
                  refine bodyPost_ret (v := .agg cs) (results_cell_row rfl _ _ (w.heap.size + 1) _ cs _ _ rfl (HZ1.out.row cs) Tryd.underlying93 rfl HSz2.out) rfl ⟨?_, below_setRow HBl.out _ _ (by omega)⟩
                  rw [HCs.out, comp, ← HQ.out]
end Go.Proofs.YtdhfabjkpffhnaaDoor

