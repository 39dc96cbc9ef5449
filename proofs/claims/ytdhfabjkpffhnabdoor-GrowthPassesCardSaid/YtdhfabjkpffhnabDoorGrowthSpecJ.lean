/- What the program's functions of layer 16 are to answer; the fixed answers that its laws begin with. -/
import Derived.Test.YtdhfabjkpffhnabDoorKI
import Derived.Test.YtdhfabjkpffhnabDoorLeafSpecJ
import Derived.Test.YtdhfabjkpffhnabDoorLeafAskJ
namespace Go.Proofs.YtdhfabjkpffhnabDoor
set_option maxRecDepth 20000
open Go.RowKit ShaMath LeafMath PathMath GrowthMath Reg

structure GrowthProg : Prop where
  prove : ∀ (n : Int) (hs : List Hs) (m N : Int) (v : Value) (w : World), I64 n → I64 m → I64 N → hs.length ≤ 1000000 → Hss w v hs → Tabs w →
    Calls Tryd.prog 25 #[.int .i64 n, v, .int .i64 m, .int .i64 N] w fun e w' => ∃ u, e = .returned (.tuple #[u, .int .i64 ((growR n hs m N).2 : Int)]) ∧ Hss w' u (growR n hs m N).1 ∧ Below w.heap.size w w'
  climb : ∀ (n : Int) (h : Hs) (m N : Nat) (ps : List Hs) (v : Value) (w : World), I64 n → h.length = 32 → m < 18446744073709551616 → N < 18446744073709551616 → Hss w v ps → ps.length ≤ 4398046511104 → Tabs w →
    Calls Tryd.prog 27 #[.int .i64 n, .int .u64 (m : Int), .int .u64 (N : Int), .agg (bs h), v] w fun e w' => e = .returned (.tuple #[.agg (bs (climbGR n h m N ps).1.1), .agg (bs (climbGR n h m N ps).1.2), .int .i64 ((climbGR n h m N ps).2 : Int)]) ∧ Below w.heap.size w w'
  check : ∀ (n : Int) (h : Hs) (m N : Nat) (r : Hs) (ps : List Hs) (v : Value) (w : World), I64 n → h.length = 32 → r.length = 32 → m < 18446744073709551616 → N < 18446744073709551616 → Hss w v ps → ps.length ≤ 4398046511104 → Tabs w →
    Calls Tryd.prog 31 #[.int .i64 n, .int .u64 (m : Int), .int .u64 (N : Int), .agg (bs h), .agg (bs r), v] w fun e w' => e = .returned (.bool (checkGR n h m N r ps)) ∧ Below w.heap.size w w'
  size : ∀ (m N : Nat) (w : World), m < 18446744073709551616 → N < 18446744073709551616 →
    Calls Tryd.prog 29 #[.int .u64 (m : Int), .int .u64 (N : Int)] w fun e w' => e = .returned (.int .i64 (growS m N : Int)) ∧ Below w.heap.size w w'

/-! ### The fixed answers -/

theorem build_hash4 (W : World) (x y z q4 : Hs) (hx : x.length = 32) (hy : y.length = 32) (hz : z.length = 32) (hq4 : q4.length = 32) : ∃ W', (Instr.buildSlice 22 4 #[(0, .agg (bs x)), (1, .agg (bs y)), (2, .agg (bs z)), (3, .agg (bs q4))]).run Tryd.prog W = .ok (.slice (some ⟨W.heap.size, 0, none⟩) 4 4) W' ∧ Hss W' (.slice (some ⟨W.heap.size, 0, none⟩) 4 4) [x, y, z, q4] ∧ Below W.heap.size W W' := by
  obtain ⟨i, hi, hz0, hz1, hz2⟩ := info_parts info_hash
  have h32x : (bs x).size = 32 := by rw [bs_size, hx]
  have h32y : (bs y).size = 32 := by rw [bs_size, hy]
  have h32z : (bs z).size = 32 := by rw [bs_size, hz]
  have h32q : (bs q4).size = 32 := by rw [bs_size, hq4]
  have hc : (hcells [x, y, z, q4]).toArray.size = 128 := by simp [hcells, hcs, hx, hy, hz, hq4]
  refine ⟨W.alloc (.cells (hcells [x, y, z, q4]).toArray 30), ?_, ⟨fun q hq => ?_, .inr ⟨_, 4, rfl, Nat.le_refl _, fun j u hj => ?_⟩⟩, (Below.refl _ _).alloc (Nat.le_refl _) _⟩
  · refine run_buildSlice W _ _ 4 _ (hcells [x, y, z, q4]).toArray i _ Tryd.underlying22 hi hz0 (by rw [hz1]; decide) (by rw [hz1]; decide) ?_
    rw [hz1]
    have := Go.Great.fill_whole (s := 32) (by decide) [.agg (bs x), .agg (bs y), .agg (bs z), .agg (bs q4)] ((Array.range (4 * 32)).map ((Value.agg (bs (List.replicate 32 0))).cells[· % (Value.agg (bs (List.replicate 32 0))).cells.size]!)) (by simp [Value.cells, h32x, h32y, h32z, h32q]) (by simp)
    simpa [Value.cells, hcells, hcs, bs] using this
  · simp at hq
    rcases hq with rfl | rfl | rfl | rfl
    · exact hx
    · exact hy
    · exact hz
    · exact hq4
  · rw [addr_add, Nat.zero_add, (Blk.new W 30 (hcells [x, y, z, q4]).toArray).cell]
    simpa using hj

theorem wpList_build_hash4 {w : World} {ops : Array Oper} {rest : List Oper} {o : Oper} {a : Act} {Q : Exit → Act → World → Prop} (hgd : o.guard = none) (s t u p4 : Operand) (ho : o.op = .buildSlice 22 4 #[(0, s), (1, t), (2, u), (3, p4)])
    (x y z q4 : Hs) (hx : a.eval s = .agg (bs x)) (hy : a.eval t = .agg (bs y)) (hz : a.eval u = .agg (bs z)) (hq : a.eval p4 = .agg (bs q4)) (hx32 : x.length = 32) (hy32 : y.length = 32) (hz32 : z.length = 32) (hq32 : q4.length = 32)
    (h : ∀ W', Hss W' (.slice (some ⟨w.heap.size, 0, none⟩) 4 4) [x, y, z, q4] → Below w.heap.size w W' → wpList Tryd.prog ops Q rest (a.put o.dst (.slice (some ⟨w.heap.size, 0, none⟩) 4 4)) W') : wpList Tryd.prog ops Q (o :: rest) a w := by
  obtain ⟨W', h1, h2, h3⟩ := build_hash4 w x y z q4 hx32 hy32 hz32 hq32
  refine wpList_plain hgd fun K hK => ?_
  unfold Oper.wp execOp
  simp only [ho, Sem.run_bind, List.map_toArray, List.map_cons, List.map_nil, hx, hy, hz, hq, h1, Result.andThen_ok]
  exact hK _ _ (h W' h2 h3)

def lit16 (b : UInt8) : Hs := b :: List.replicate 31 0

theorem wake16 : growR 256 [lit16 1, lit16 2, lit16 3, lit16 4] 3 4 = ([lit16 3, lit16 4, nodeH 256 (lit16 1) (lit16 2)], 0) ∧ growS 2 3 = 1 := by
  have e4 : splitN 4 = 2 := by decide +kernel
  have e3 : splitN 3 = 2 := by decide +kernel
  have e2 : splitN 2 = 1 := by decide +kernel
  constructor
  · rw [growR, if_neg (by simp), if_neg (by decide)]
    rw [show [lit16 1, lit16 2, lit16 3, lit16 4].take (4 : Int).toNat = [lit16 1, lit16 2, lit16 3, lit16 4] from rfl, show (3 : Int).toNat = 3 from rfl]
    rw [partG_right 256 _ 3 true (by decide) (by decide) (by rw [show [lit16 1, lit16 2, lit16 3, lit16 4].length = 4 from rfl, e4]; decide), show [lit16 1, lit16 2, lit16 3, lit16 4].length = 4 from rfl, e4]
    rw [show [lit16 1, lit16 2, lit16 3, lit16 4].drop 2 = [lit16 3, lit16 4] from rfl, show [lit16 1, lit16 2, lit16 3, lit16 4].take 2 = [lit16 1, lit16 2] from rfl]
    rw [partG_left 256 [lit16 3, lit16 4] (3 - 2) false (by decide) (by decide) (by rw [show [lit16 3, lit16 4].length = 2 from rfl, e2]; decide), show [lit16 3, lit16 4].length = 2 from rfl, e2]
    rw [show [lit16 3, lit16 4].take 1 = [lit16 3] from rfl, show [lit16 3, lit16 4].drop 1 = [lit16 4] from rfl]
    rw [partG_all 256 [lit16 3] (3 - 2) false (by decide), if_neg (by decide), rootH_one, rootH_one]
    rw [rootH_more 256 [lit16 1, lit16 2] (by decide), show [lit16 1, lit16 2].length = 2 from rfl, e2]
    rw [show [lit16 1, lit16 2].take 1 = [lit16 1] from rfl, show [lit16 1, lit16 2].drop 1 = [lit16 2] from rfl, rootH_one, rootH_one]
    rfl
  · rw [growS, if_neg (by decide), sizeG_left true (by decide) (by decide) (by rw [e3]; decide), e3, sizeG_all, if_pos rfl]

set_option maxHeartbeats 1000000 in
set_option maxRecDepth 100000 in
theorem awake16_any (hp : GrowthProg) (hq : LeafProg) (w : World) (ht : Tabs w) : Calls Tryd.prog 24 #[] w fun e w' => e = .returned (.bool true) ∧ Below w.heap.size w w' := by
  obtain ⟨M, hM, hM32⟩ : ∃ M, M = nodeH 256 (lit16 1) (lit16 2) ∧ M.length = 32 := ⟨_, rfl, nodeH_length _ _ _⟩
  have HWk := Lib.hid wake16.1
  rw [← hM] at HWk
  have HP := Lib.hid hp
  have HQ := Lib.hid hq
  have HT := Lib.hid ht
  have HMe := Lib.hid hM
  have HM := Lib.hid hM32
  have HSz2 := Lib.hid wake16.2
  clear hp hq ht hM hM32
  go_enter Tryd.func24, Tryd.ntmps24
  go_wp2_with (first
    | (refine wpList_build_hash4 rfl (.tmp 4) (.tmp 5) (.tmp 6) (.tmp 7) rfl (lit16 1) (lit16 2) (lit16 3) (lit16 4) rfl rfl rfl rfl rfl rfl rfl rfl ?_; intro W1 hv1 hb1; (have HV1 := Lib.hid hv1); (have HB1 := Lib.hid hb1); clear hv1 hb1))
  refine (HP.out.prove 256 _ 3 4 _ W1 i256 (by unfold I64; omega) (by unfold I64; omega) (by decide) HV1.out (HT.out.below (Nat.le_refl _) HB1.out)).mono ?_
  rintro e W2 ⟨u, he, hu, hb⟩
  rw [HWk.out] at he hu
  subst he
  obtain ⟨a, c, rfl, hc⟩ := hu.form
  obtain ⟨pad, rfl, hcx⟩ := hu.load (i := 2) (x := M) rfl
  have HB2 := Lib.hid (HB1.out.trans (hb.mono HB1.out.size))
  have HLd := Lib.hid (fun (W : World) (hW : Below W2.heap.size W2 W) => load_hash W (pad.add (2 * 32)) M HM.out fun j u hj => by
    obtain ⟨ad2, e, h⟩ := (hu.below (Nat.le_refl _) hW).load (i := 2) (x := M) rfl
    cases e
    exact h j u hj)
  have HNode := Lib.hid (fun (W : World) (hW : Below W2.heap.size W2 W) => HQ.out.node 256 (lit16 1) (lit16 2) W i256 rfl rfl ((HT.out.below (Nat.le_refl _) HB2.out).below (Nat.le_refl _) hW))
  rw [← HMe.out] at HNode
  have HSize := Lib.hid (fun (W : World) => HP.out.size 2 3 W (by decide) (by decide))
  rw [HSz2.out] at HSize
  clear hu hb hcx HV1 HB1 HWk HSz2
  go_upto_region 2 with fail
  have hG : ∀ W W' : World, Below W2.heap.size W2 W → Below W.heap.size W W' → Below W2.heap.size W2 W' := fun W W' h h' => h.trans (h'.mono h.size)
  refine region_by [(12, .is (.int .i64 0)), (13, .is (.bool true)), (14, .is (.bool true)), (15, .is (.slice (some pad) 3 c)), (16, .is (.int .i64 (3 : Int))), (17, .is (.bool true)), (18, .is (.bool true)), (19, .is (.bool true)), (20, .is (.slice (some pad) 3 c)), (21, .is (.pointer (some (pad.add (2 * 32))))), (22, .is (.agg (bs M))), (23, .is (.agg (bs (lit16 1)))), (24, .is (.agg (bs (lit16 2)))), (25, .is (.agg (bs M))), (26, .is (.bool true)), (27, .is (.bool true)), (28, .is (.bool true)), (29, .is (.int .i64 ((1 : Nat) : Int))), (30, .is (.bool true)), (31, .is (.bool true)), (0, .is (.bool true))] [0] (fun W => Below W2.heap.size W2 W) (by kernel_rfl) (by kernel_rfl) (by kernel_rfl) (by kernel_rfl) (by kernel_rfl) ((Below.refl _ _).drew) ?_ ?_
  · refine ⟨?c0, ?c1, ?c2, ?c3, ?c4, ?c5, ?c6, ?c7, ?c8, ?c9, ?c10, ?c11, ?c12, ?c13, ?c14, ?c15, ?c16, ?c17, ?c18, ?c19, ?c20, trivial⟩
    case c0 => exact ask_copy (guard_none rfl) (.tmp 2) (.inl rfl) (by intro k hk; cases hk; rfl)
    case c1 => exact ask_bin (guard_none rfl) .eql _ _ (.tmp 12) (.const (.int .i64 0)) (.int .i64 0) (.int .i64 0) (.bool true) rfl rfl rfl (by intro k hk; cases hk; rfl) (eql_int _ _ _ _ _)
    case c2 => exact ask_copy (guard_none rfl) (.tmp 13) (.inl rfl) (by intro k hk; cases hk; rfl)
    case c3 => exact ask_copy (guard_some rfl rfl rfl) (.tmp 1) (.inl rfl) (by intro k hk; cases hk; rfl)
    case c4 => exact ask_len (guard_some rfl rfl rfl) (.tmp 15) _ (some pad) 3 c rfl (by kernel_rfl) rfl (by intro k hk; cases hk; rfl)
    case c5 => exact ask_bin (guard_some rfl rfl rfl) .eql _ _ (.tmp 16) (.const (.int .i64 3)) (.int .i64 (3 : Int)) (.int .i64 3) (.bool true) rfl rfl rfl (by intro k hk; cases hk; rfl) (eql_int _ _ _ _ _)
    case c6 => exact ask_pick (guard_none rfl) (.tmp 14) (.tmp 17) (.const (.bool false)) true rfl rfl (by intro k hk; cases hk; rfl)
    case c7 => exact ask_copy (guard_none rfl) (.tmp 18) (.inl rfl) (by intro k hk; cases hk; rfl)
    case c8 => exact ask_copy (guard_some rfl rfl rfl) (.tmp 1) (.inl rfl) (by intro k hk; cases hk; rfl)
    case c9 => exact ask_idx (guard_some rfl rfl rfl) _ (.tmp 20) (.const (.int .i64 2)) (.slice (some pad) 3 c) (.int .i64 2) (.pointer (some (pad.add (2 * 32)))) rfl rfl rfl (by intro k hk; cases hk; rfl) (fun W => hss_index W pad 3 c 2 (by decide))
    case c10 => exact ask_load (guard_some rfl rfl rfl) _ (.tmp 21) (.pointer (some (pad.add (2 * 32)))) (.agg (bs M)) rfl rfl (by intro k hk; cases hk; rfl) (fun W hW => HLd.out W hW)
    case c11 => exact ask_exec (guard_some rfl rfl rfl) (.agg (bs (lit16 1))) rfl rfl (by intro k hk; cases hk; rfl) (fun W hW => by kernel_rfl)
    case c12 => exact ask_exec (guard_some rfl rfl rfl) (.agg (bs (lit16 2))) rfl rfl (by intro k hk; cases hk; rfl) (fun W hW => by kernel_rfl)
    case c13 => exact ask_call hG (guard_some rfl rfl rfl) _ _ _ #[.int .i64 256, .agg (bs (lit16 1)), .agg (bs (lit16 2))] (.is (.agg (bs M))) rfl (by kernel_rfl) rfl rfl (by intro k hk; cases hk; rfl) (fun W hW => (HNode.out W hW).mono fun e w' h => ⟨_, h.1, rfl, h.2⟩)
    case c14 => exact ask_bin (guard_some rfl rfl rfl) .eql _ _ (.tmp 22) (.tmp 25) (.agg (bs M)) (.agg (bs M)) (.bool true) rfl rfl rfl (by intro k hk; cases hk; rfl) (eql_hash _ _ M HM.out)
    case c15 => exact ask_pick (guard_none rfl) (.tmp 19) (.tmp 26) (.const (.bool false)) true rfl rfl (by intro k hk; cases hk; rfl)
    case c16 => exact ask_copy (guard_none rfl) (.tmp 27) (.inl rfl) (by intro k hk; cases hk; rfl)
    case c17 => exact ask_call hG (guard_some rfl rfl rfl) _ _ _ #[.int .u64 2, .int .u64 3] (.is (.int .i64 ((1 : Nat) : Int))) rfl (by kernel_rfl) rfl rfl (by intro k hk; cases hk; rfl) (fun W hW => (HSize.out W).mono fun e w' h => ⟨_, h.1, rfl, h.2⟩)
    case c18 => exact ask_bin (guard_some rfl rfl rfl) .eql _ _ (.tmp 29) (.const (.int .i64 1)) (.int .i64 ((1 : Nat) : Int)) (.int .i64 1) (.bool true) rfl rfl rfl (by intro k hk; cases hk; rfl) (eql_int _ _ _ _ _)
    case c19 => exact ask_pick (guard_none rfl) (.tmp 28) (.tmp 30) (.const (.bool false)) true rfl rfl (by intro k hk; cases hk; rfl)
    case c20 => exact ask_copy (guard_none rfl) (.tmp 31) (.inr rfl) (by intro k hk; cases hk; rfl)
  · intro a' W hW hd' hs' hf'
    have t0 : a'.tmps.getD 0 undef = .bool true := hf' 0 rfl
    obtain ⟨us', hus, ha'⟩ := act_open 32 a' hs' hd'
    rw [← hus] at t0
    have el : ((List.range 32).map us').toArray = #[.bool true, us' 1, us' 2, us' 3, us' 4, us' 5, us' 6, us' 7, us' 8, us' 9, us' 10, us' 11, us' 12, us' 13, us' 14, us' 15, us' 16, us' 17, us' 18, us' 19, us' 20, us' 21, us' 22, us' 23, us' 24, us' 25, us' 26, us' 27, us' 28, us' 29, us' 30, us' 31] := by
      show #[us' 0, us' 1, us' 2, us' 3, us' 4, us' 5, us' 6, us' 7, us' 8, us' 9, us' 10, us' 11, us' 12, us' 13, us' 14, us' 15, us' 16, us' 17, us' 18, us' 19, us' 20, us' 21, us' 22, us' 23, us' 24, us' 25, us' 26, us' 27, us' 28, us' 29, us' 30, us' 31] = _
      rw [t0]
    rw [el] at ha'
    subst ha'
    clear hus t0 el hf' hs' hd'
    go_wp2
    go_ret
    exact ⟨rfl, HB2.out.trans (hW.mono HB2.out.size)⟩
end Go.Proofs.YtdhfabjkpffhnabDoor

