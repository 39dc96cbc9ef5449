/- How many bits of a number are 1; whether a range is right; the greatest power of 2 below a number: the program's. -/
import Derived.Test.YtbabpbdenebagaaDoorLeafBitMath
import Derived.Test.YtbabpbdenebagaaDoorLeafNode
import Derived.Test.YtbabpbdenebagaaDoorBinLen
namespace Go.Proofs.YtbabpbdenebagaaDoor
set_option maxRecDepth 20000
open Go.RowKit ShaMath LeafMath Reg

theorem u64_of (x : Nat) (h : x < 18446744073709551616) (z : Int) (hz : z = x) : IntKind.u64.wrap z = (x : Int) := by
  rw [hz, IntKind.wrap_u64]
  omega

theorem onesCount_any (x : Nat) (w : World) (hx : x < 18446744073709551616) :
    Calls Tryd.prog 38 #[.int .u64 (x : Int)] w fun e w' => e = .returned (.int .i64 (ones x : Int)) ∧ w' = w := by
  obtain ⟨p0, p1, p2, p3, p4, p5, p6, p7, h0, h1, h2, h3, h4, h5, h6, h7, ho, hy⟩ := three_steps x hx
  obtain ⟨y1, hy1⟩ : ∃ y, y = s1 8 x := ⟨_, rfl⟩
  rw [← hy1] at hy
  obtain ⟨y2, hy2⟩ : ∃ y, y = s2 8 y1 := ⟨_, rfl⟩
  rw [← hy2] at hy
  obtain ⟨y3, hy3⟩ : ∃ y, y = s3 8 y2 := ⟨_, rfl⟩
  rw [← hy3] at hy
  obtain ⟨y4, y5, y6, e4, e5, e6, b3, b4, b5, b6, hr⟩ := last_steps y3 p0 p1 p2 p3 p4 p5 p6 p7 h0 h1 h2 h3 h4 h5 h6 h7 hy
  rw [← ho] at hr
  clear h0 h1 h2 h3 h4 h5 h6 h7 ho hy
  have m1 : ∀ a : Nat, a &&& rep 85 8 ≤ 6148914691236517205 := fun a => Nat.and_le_right
  have m2 : ∀ a : Nat, a &&& rep 51 8 ≤ 3689348814741910323 := fun a => Nat.and_le_right
  have b1 : y1 < 18446744073709551616 := by
    have := m1 (x / 2); have := m1 x
    rw [hy1, s1]; omega
  have b2 : y2 ≤ 7378697629483820646 := by
    have := m2 (y1 / 4); have := m2 y1
    rw [hy2, s2]; omega
  have k1 : IntKind.u64.wrap (bits BinOp.and IntKind.u64 ((x : Int) / 2) 6148914691236517205 + bits BinOp.and IntKind.u64 (x : Int) 6148914691236517205) = (y1 : Int) := by
    refine u64_of y1 b1 _ ?_
    rw [show ((x : Int) / 2) = ((x / 2 : Nat) : Int) by omega, show (6148914691236517205 : Int) = ((6148914691236517205 : Nat) : Int) from rfl, bits_and_u64_nat _ _ (by omega) (by decide), bits_and_u64_nat _ _ hx (by decide), hy1, s1]
    exact (Int.natCast_add _ _).symm
  have k2 : IntKind.u64.wrap (bits BinOp.and IntKind.u64 ((y1 : Int) / 4) 3689348814741910323 + bits BinOp.and IntKind.u64 (y1 : Int) 3689348814741910323) = (y2 : Int) := by
    refine u64_of y2 (by omega) _ ?_
    rw [show ((y1 : Int) / 4) = ((y1 / 4 : Nat) : Int) by omega, show (3689348814741910323 : Int) = ((3689348814741910323 : Nat) : Int) from rfl, bits_and_u64_nat _ _ (by omega) (by decide), bits_and_u64_nat _ _ b1 (by decide), hy2, s2]
    exact (Int.natCast_add _ _).symm
  have k3 : bits BinOp.and IntKind.u64 (IntKind.u64.wrap ((y2 : Int) / 16 + y2)) 1085102592571150095 = (y3 : Int) := by
    rw [u64_of (y2 / 16 + y2) (by omega) _ (by omega), show (1085102592571150095 : Int) = ((1085102592571150095 : Nat) : Int) from rfl, bits_and_u64_nat _ _ (by omega) (by decide), hy3, s3]
    rfl
  have k4 : IntKind.u64.wrap ((y3 : Int) + (y3 : Int) / 256) = (y4 : Int) := u64_of y4 (by omega) _ (by omega)
  have k5 : IntKind.u64.wrap ((y4 : Int) + (y4 : Int) / 65536) = (y5 : Int) := u64_of y5 (by omega) _ (by omega)
  have k6 : IntKind.u64.wrap ((y5 : Int) + (y5 : Int) / 4294967296) = (y6 : Int) := u64_of y6 (by omega) _ (by omega)
  have k7 : bits BinOp.and IntKind.i64 (wrap64 (y6 : Int)) 127 = (ones x : Int) := by
    rw [i64_and127, show wrap64 (y6 : Int) = (y6 : Int) by unfold wrap64; omega]
    omega
  have K1 := Lib.hid k1
  have K2 := Lib.hid k2
  have K3 := Lib.hid k3
  have K4 := Lib.hid k4
  have K5 := Lib.hid k5
  have K6 := Lib.hid k6
  have K7 := Lib.hid k7
  clear k1 k2 k3 k4 k5 k6 k7 hy1 hy2 hy3 e4 e5 e6 b1 b2 b3 b4 b5 b6 m1 m2 hr hx
  go_enter Tryd.func38, Tryd.ntmps38
  go_upto_region 2 with fail
  rw [K1.out]
  go_upto_region 3 with fail
  rw [K2.out]
  go_upto_region 4 with fail
  rw [K3.out]
  go_upto_region 5 with fail
  rw [K4.out]
  go_upto_region 6 with fail
  rw [K5.out]
  go_upto_region 7 with fail
  rw [K6.out]
  go_wp2
  rw [K7.out]
  go_ret
  exact ⟨rfl, rfl⟩

theorem len_any (x : Nat) (w : World) (h1 : x < 18446744073709551616) :
    Calls Tryd.prog 45 #[.int .u64 (x : Int)] w fun e w' => e = .returned (.int .i64 (Lib.bitLen x)) ∧ w' = w := by
  have H := Lib.hid (len64_any (x : Int) w (by omega) (by omega))
  rw [Int.toNat_natCast] at H
  go_enter Tryd.func45, Tryd.ntmps45
  go_wp2_with fail
  refine H.out.mono ?_
  rintro e w1 ⟨rfl, rfl⟩
  go_wp2
  go_ret
  exact ⟨rfl, rfl⟩

theorem powerBelow_any (n : Nat) (w : World) (h1 : 2 ≤ n) (h2 : n < 4611686018427387904) :
    Calls Tryd.prog 33 #[.int .i64 (n : Int)] w fun e w' => e = .returned (.int .i64 (splitN n : Int)) ∧ w' = w := by
  obtain ⟨k, hk⟩ : ∃ k, k = Nat.log2 (n - 1) := ⟨_, rfl⟩
  have hb := bitLen_split n h1 (by omega)
  have hk2 : 2 ^ k ≤ n - 1 := by rw [hk]; exact Nat.log2_self_le (by omega)
  have hk62 : k < 62 := by
    refine Decidable.byContradiction fun h => ?_
    have := Nat.pow_le_pow_right (n := 2) (by decide) (show 62 ≤ k by omega)
    omega
  have HL := Lib.hid (len_any (n - 1) w (by omega))
  rw [hb, ← hk] at HL
  have hs : splitN n = 2 ^ k := by rw [hk]; rfl
  rw [hs]
  obtain ⟨m, hm⟩ : ∃ m, m = n - 1 := ⟨_, rfl⟩
  rw [← hm] at HL
  have f1 : wrap64 ((n : Int) - 1) = (m : Int) := by unfold wrap64; omega
  have f2 : IntKind.u64.wrap (m : Int) = (m : Int) := by rw [IntKind.wrap_u64]; omega
  obtain ⟨k1, hk1⟩ : ∃ k1, k1 = k + 1 := ⟨_, rfl⟩
  rw [← hk1] at HL
  have f3 : wrap64 ((k1 : Int) - 1) = (k : Int) := by unfold wrap64; omega
  have f4 : wrap64 ((2 : Int) ^ k) = ((2 ^ k : Nat) : Int) := by
    have h3 := Nat.pow_le_pow_right (n := 2) (by decide) (show k ≤ 61 by omega)
    rw [show ((2 : Int) ^ k) = ((2 ^ k : Nat) : Int) by simp]
    generalize 2 ^ k = p at *
    unfold wrap64
    omega
  have F4 := Lib.hid f4
  have F1 := Lib.hid f1
  have F2 := Lib.hid f2
  have F3 := Lib.hid f3
  clear hb hk hk1 hk2 hs hm f1 f2 f3 f4 h1 h2
  go_enter Tryd.func33, Tryd.ntmps33
  go_wp2_with fail
  rw [F1.out, F2.out]
  refine HL.out.mono ?_
  rintro e w1 ⟨rfl, rfl⟩
  have f3 := F3.out
  go_wp2
  rw [F4.out]
  go_ret
  exact ⟨rfl, rfl⟩

theorem load_u64b (W : World) (p : Addr) (v : Value) (h : W.cell? p = some v) : (Instr.loadAt 34 (.pointer (some p))).run Tryd.prog W = .ok v W := by
  have hagg : (isAgg 34).run Tryd.prog W = .ok false W := by kernel_rfl
  simp [Instr.loadAt, Instr.sureAddr, loadVar, Sem.run_bind, hagg, h]
theorem eql_nat (t : TypeId) (s u : Operand) (n k : Nat) (W : World) : (do eqGuard .eql t s u (.int .i64 (n : Int)) (.int .i64 (k : Int)); binOp .eql t (.int .i64 (n : Int)) (.int .i64 (k : Int)) : Sem Value).run Tryd.prog W = .ok (.bool (decide (n = k))) W := by
  by_cases h : n = k
  · subst h
    simp [eqGuard, binOp, go_sem]
  · simp [eqGuard, binOp, go_sem, h]
    omega

set_option maxRecDepth 100000 in
theorem leafRight_any (s n c : Nat) (a : Option Addr) (w : World) (hs : s < 18446744073709551616) :
    Calls Tryd.prog 23 #[.agg (rngC s (.slice a n c))] w fun e w' => e = .returned (.bool (decide (n = ones s))) ∧ Below w.heap.size w w' := by
  have HC := Lib.hid (fun W => onesCount_any s W hs)
  obtain ⟨k, hk⟩ : ∃ k, k = ones s := ⟨_, rfl⟩
  rw [← hk] at HC ⊢
  obtain ⟨b, hb⟩ : ∃ b, b = decide (n = k) := ⟨_, rfl⟩
  have HE := Lib.hid (fun t s u W => eql_nat t s u n k W)
  rw [← hb] at HE ⊢
  clear hk hs hb
  go_enter Tryd.func23, Tryd.ntmps23
  go_upto_region 1 with fail
  refine world_cut (fun W => Blk W w.heap.size 36 (rngC s (.slice a n c)) ∧ Below w.heap.size w W) ⟨Blk.new _ _ _, (Below.refl _ _).alloc (Nat.le_refl _) _⟩ ?_
  intro W1 hW1
  have hG : ∀ W W' : World, (Blk W w.heap.size 36 (rngC s (.slice a n c)) ∧ Below w.heap.size w W) → Below W.heap.size W W' → (Blk W' w.heap.size 36 (rngC s (.slice a n c)) ∧ Below w.heap.size w W') := fun W W' h h' => ⟨h.1.keep h', h.2.trans (h'.mono h.2.size)⟩
  refine region_by [(3, .is (.pointer (some ⟨w.heap.size, 1, none⟩))), (4, .is (.slice a n c)), (5, .is (.int .i64 (n : Int))), (6, .is (.pointer (some ⟨w.heap.size, 0, none⟩))), (7, .is (.int .u64 (s : Int))), (8, .is (.int .i64 (k : Int))), (9, .is (.bool b)), (2, .is (.bool b))] [2]
    (fun W => Blk W w.heap.size 36 (rngC s (.slice a n c)) ∧ Below w.heap.size w W) (by kernel_rfl) (by kernel_rfl) (by kernel_rfl) (by kernel_rfl) (by kernel_rfl) (hG _ _ hW1 (Below.refl _ _).drew) ?_ ?_
  · refine ⟨?c0, ?c1, ?c2, ?c3, ?c4, ?c5, ?c6, ?c7, trivial⟩
    case c0 => exact ask_field (guard_none rfl) _ (.tmp 1) 1 (.pointer (some ⟨w.heap.size, 0, none⟩)) (.pointer (some ⟨w.heap.size, 1, none⟩)) rfl rfl (by intro k hk; cases hk; rfl) (fun W => by kernel_rfl)
    case c1 => exact ask_load (guard_none rfl) _ (.tmp 3) (.pointer (some ⟨w.heap.size, 1, none⟩)) (.slice a n c) rfl rfl (by intro k hk; cases hk; rfl) (fun W hW => load_hl W _ _ (by rw [hW.1.cell]; rfl))
    case c2 => exact ask_len (guard_none rfl) (.tmp 4) _ a n c rfl (by kernel_rfl) rfl (by intro k hk; cases hk; rfl)
    case c3 => exact ask_field (guard_none rfl) _ (.tmp 1) 0 (.pointer (some ⟨w.heap.size, 0, none⟩)) (.pointer (some ⟨w.heap.size, 0, none⟩)) rfl rfl (by intro k hk; cases hk; rfl) (fun W => by kernel_rfl)
    case c4 => exact ask_load (guard_none rfl) _ (.tmp 6) (.pointer (some ⟨w.heap.size, 0, none⟩)) (.int .u64 (s : Int)) rfl rfl (by intro k hk; cases hk; rfl) (fun W hW => load_u64b W _ _ (by rw [hW.1.cell]; rfl))
    case c5 => exact ask_call hG (guard_none rfl) _ _ _ #[.int .u64 (s : Int)] (.is (.int .i64 (k : Int))) rfl (by kernel_rfl) rfl rfl (by intro k hk; cases hk; rfl) (fun W hW => (HC.out W).mono fun e w' h => ⟨_, h.1, rfl, by rw [h.2]; exact Below.refl _ _⟩)
    case c6 => exact ask_bin (guard_none rfl) .eql _ _ (.tmp 5) (.tmp 8) (.int .i64 (n : Int)) (.int .i64 (k : Int)) (.bool b) rfl rfl rfl (by intro k hk; cases hk; rfl) (HE.out _ _ _)
    case c7 => exact ask_copy (guard_none rfl) (.tmp 9) (.inr rfl) (by intro k hk; cases hk; rfl)
  intro a' W hW hd' hs' hf'
  have t2 : a'.tmps.getD 2 undef = .bool b := hf' 2 rfl
  have HB := Lib.hid hW.2
  obtain ⟨us', hus, ha'⟩ := act_open 10 a' hs' hd'
  rw [← hus] at t2
  have el : ((List.range 10).map us').toArray = #[us' 0, us' 1, .bool b, us' 3, us' 4, us' 5, us' 6, us' 7, us' 8, us' 9] := by
    show #[us' 0, us' 1, us' 2, us' 3, us' 4, us' 5, us' 6, us' 7, us' 8, us' 9] = _
    rw [t2]
  rw [el] at ha'
  subst ha'
  clear hus t2 el hf' hs' hd' hG hW hW1
  go_wp2
  go_ret
  exact ⟨rfl, HB.out⟩
end Go.Proofs.YtbabpbdenebagaaDoor
