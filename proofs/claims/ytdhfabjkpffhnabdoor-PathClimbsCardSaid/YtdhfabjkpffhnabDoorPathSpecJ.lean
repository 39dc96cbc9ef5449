/- What the program's functions of layer 15 are to answer; the fixed answers that its laws begin with. -/
import Derived.Test.YtdhfabjkpffhnabDoorKA
import Derived.Test.YtdhfabjkpffhnabDoorLeafSpecJ
import Derived.Test.YtdhfabjkpffhnabDoorLeafAskJ
namespace Go.Proofs.YtdhfabjkpffhnabDoor
set_option maxRecDepth 20000
open Go.RowKit ShaMath LeafMath PathMath Reg

structure PathProg : Prop where
  prove : ∀ (n : Int) (hs : List Hs) (i N : Int) (v : Value) (w : World), I64 n → I64 i → I64 N → hs.length ≤ 1000000 → Hss w v hs → Tabs w →
    Calls Tryd.prog 14 #[.int .i64 n, v, .int .i64 i, .int .i64 N] w fun e w' => ∃ u, e = .returned (.tuple #[u, .int .i64 ((proveR n hs i N).2 : Int)]) ∧ Hss w' u (proveR n hs i N).1 ∧ Below w.heap.size w w'
  climb : ∀ (n : Int) (h : Hs) (i m : Nat) (ps : List Hs) (v : Value) (w : World), I64 n → h.length = 32 → i < 18446744073709551616 → m < 18446744073709551616 → Hss w v ps → ps.length ≤ 4398046511104 → Tabs w →
    Calls Tryd.prog 17 #[.int .i64 n, .agg (bs h), .int .u64 (i : Int), .int .u64 (m : Int), v] w fun e w' => e = .returned (.tuple #[.agg (bs (climbR n h i m ps).1), .int .i64 ((climbR n h i m ps).2 : Int)]) ∧ Below w.heap.size w w'
  check : ∀ (n : Int) (h : Hs) (i m : Nat) (ps : List Hs) (v : Value) (r : Hs) (w : World), I64 n → h.length = 32 → r.length = 32 → i < 18446744073709551616 → m < 18446744073709551616 → Hss w v ps → ps.length ≤ 4398046511104 → Tabs w →
    Calls Tryd.prog 21 #[.int .i64 n, .agg (bs h), .int .u64 (i : Int), .int .u64 (m : Int), v, .agg (bs r)] w fun e w' => e = .returned (.bool (decide ((climbR n h i m ps).2 = 0 ∧ (climbR n h i m ps).1 = r))) ∧ Below w.heap.size w w'
  size : ∀ (i m : Nat) (w : World), i < 18446744073709551616 → m < 18446744073709551616 →
    Calls Tryd.prog 19 #[.int .u64 (i : Int), .int .u64 (m : Int)] w fun e w' => e = .returned (.int .i64 (sizeP i m : Int)) ∧ Below w.heap.size w w'

/-! ### The fixed answers -/

theorem build_hash3 (W : World) (x y z : Hs) (hx : x.length = 32) (hy : y.length = 32) (hz : z.length = 32) : ∃ W', (Instr.buildSlice 22 3 #[(0, .agg (bs x)), (1, .agg (bs y)), (2, .agg (bs z))]).run Tryd.prog W = .ok (.slice (some ⟨W.heap.size, 0, none⟩) 3 3) W' ∧ Hss W' (.slice (some ⟨W.heap.size, 0, none⟩) 3 3) [x, y, z] ∧ Below W.heap.size W W' := by
  obtain ⟨i, hi, hz0, hz1, hz2⟩ := info_parts info_hash
  have h32x : (bs x).size = 32 := by rw [bs_size, hx]
  have h32y : (bs y).size = 32 := by rw [bs_size, hy]
  have h32z : (bs z).size = 32 := by rw [bs_size, hz]
  have hc : (hcells [x, y, z]).toArray.size = 96 := by simp [hcells, hcs, hx, hy, hz]
  refine ⟨W.alloc (.cells (hcells [x, y, z]).toArray 30), ?_, ⟨fun q hq => ?_, .inr ⟨_, 3, rfl, Nat.le_refl _, fun j u hj => ?_⟩⟩, (Below.refl _ _).alloc (Nat.le_refl _) _⟩
  · refine run_buildSlice W _ _ 3 _ (hcells [x, y, z]).toArray i _ Tryd.underlying22 hi hz0 (by rw [hz1]; decide) (by rw [hz1]; decide) ?_
    rw [hz1]
    have := Go.Great.fill_whole (s := 32) (by decide) [.agg (bs x), .agg (bs y), .agg (bs z)] ((Array.range (3 * 32)).map ((Value.agg (bs (List.replicate 32 0))).cells[· % (Value.agg (bs (List.replicate 32 0))).cells.size]!)) (by simp [Value.cells, h32x, h32y, h32z]) (by simp)
    simpa [Value.cells, hcells, hcs, bs] using this
  · simp at hq
    rcases hq with rfl | rfl | rfl
    · exact hx
    · exact hy
    · exact hz
  · rw [addr_add, Nat.zero_add, (Blk.new W 30 (hcells [x, y, z]).toArray).cell]
    simpa using hj

theorem wpList_build_hash3 {w : World} {ops : Array Oper} {rest : List Oper} {o : Oper} {a : Act} {Q : Exit → Act → World → Prop} (hgd : o.guard = none) (s t u : Operand) (ho : o.op = .buildSlice 22 3 #[(0, s), (1, t), (2, u)])
    (x y z : Hs) (hx : a.eval s = .agg (bs x)) (hy : a.eval t = .agg (bs y)) (hz : a.eval u = .agg (bs z)) (hx32 : x.length = 32) (hy32 : y.length = 32) (hz32 : z.length = 32)
    (h : ∀ W', Hss W' (.slice (some ⟨w.heap.size, 0, none⟩) 3 3) [x, y, z] → Below w.heap.size w W' → wpList Tryd.prog ops Q rest (a.put o.dst (.slice (some ⟨w.heap.size, 0, none⟩) 3 3)) W') : wpList Tryd.prog ops Q (o :: rest) a w := by
  obtain ⟨W', h1, h2, h3⟩ := build_hash3 w x y z hx32 hy32 hz32
  refine wpList_plain hgd fun K hK => ?_
  unfold Oper.wp execOp
  simp only [ho, Sem.run_bind, List.map_toArray, List.map_cons, List.map_nil, hx, hy, hz, h1, Result.andThen_ok]
  exact hK _ _ (h W' h2 h3)

def lit1 (b : UInt8) : Hs := b :: List.replicate 31 0

theorem wake15 : proveP 256 [lit1 1, lit1 2, lit1 3] 2 = [nodeH 256 (lit1 1) (lit1 2)] ∧ sizeP 0 3 = 2 := by
  have e3 : splitN 3 = 2 := by decide +kernel
  have e2 : splitN 2 = 1 := by decide +kernel
  constructor
  · rw [proveP_right 256 _ 2 (by decide) (by rw [show [lit1 1, lit1 2, lit1 3].length = 3 from rfl, e3]; decide), show [lit1 1, lit1 2, lit1 3].length = 3 from rfl, e3]
    rw [proveP_one _ _ _ (by decide), List.nil_append, show [lit1 1, lit1 2, lit1 3].take 2 = [lit1 1, lit1 2] from rfl, rootH_more 256 [lit1 1, lit1 2] (by decide), show [lit1 1, lit1 2].length = 2 from rfl, e2]
    rw [show [lit1 1, lit1 2].take 1 = [lit1 1] from rfl, show [lit1 1, lit1 2].drop 1 = [lit1 2] from rfl, rootH_one, rootH_one]
  · rw [sizeP_left (by decide) (by rw [e3]; decide), e3, sizeP_left (by decide) (by rw [e2]; decide), e2, sizeP_one]

theorem wake15R : proveR 256 [lit1 1, lit1 2, lit1 3] 2 3 = ([nodeH 256 (lit1 1) (lit1 2)], 0) := by
  rw [proveR, if_neg (by simp)]
  exact congrArg (·, 0) wake15.1

set_option maxHeartbeats 1000000 in
set_option maxRecDepth 100000 in
theorem awake15_any (hp : PathProg) (hq : LeafProg) (w : World) (ht : Tabs w) : Calls Tryd.prog 13 #[] w fun e w' => e = .returned (.bool true) ∧ Below w.heap.size w w' := by
  obtain ⟨M, hM, hM32⟩ : ∃ M, M = nodeH 256 (lit1 1) (lit1 2) ∧ M.length = 32 := ⟨_, rfl, nodeH_length _ _ _⟩
  have HWk := Lib.hid wake15R
  rw [← hM] at HWk
  have HP := Lib.hid hp
  have HQ := Lib.hid hq
  have HT := Lib.hid ht
  have HMe := Lib.hid hM
  have HM := Lib.hid hM32
  have HSz2 := Lib.hid wake15.2
  clear hp hq ht hM hM32
  go_enter Tryd.func13, Tryd.ntmps13
  go_wp2_with (first
    | (refine wpList_build_hash3 rfl (.tmp 4) (.tmp 5) (.tmp 6) rfl (lit1 1) (lit1 2) (lit1 3) rfl rfl rfl rfl rfl rfl ?_; intro W1 hv1 hb1; (have HV1 := Lib.hid hv1); (have HB1 := Lib.hid hb1); clear hv1 hb1))
  refine (HP.out.prove 256 _ 2 3 _ W1 i256 (by unfold I64; omega) (by unfold I64; omega) (by decide) HV1.out (HT.out.below (Nat.le_refl _) HB1.out)).mono ?_
  rintro e W2 ⟨u, he, hu, hb⟩
  rw [HWk.out] at he hu
  subst he
  obtain ⟨a, c, rfl, hc⟩ := hu.form
  obtain ⟨pad, rfl, hcx⟩ := hu.load (i := 0) (x := M) rfl
  have HB2 := Lib.hid (HB1.out.trans (hb.mono HB1.out.size))
  have HLd := Lib.hid (fun (W : World) (hW : Below W2.heap.size W2 W) => load_hash W (pad.add (0 * 32)) M HM.out fun j u hj => by
    obtain ⟨ad2, e, h⟩ := (hu.below (Nat.le_refl _) hW).load (i := 0) (x := M) rfl
    cases e
    exact h j u hj)
  have HNode := Lib.hid (fun (W : World) (hW : Below W2.heap.size W2 W) => HQ.out.node 256 (lit1 1) (lit1 2) W i256 rfl rfl ((HT.out.below (Nat.le_refl _) HB2.out).below (Nat.le_refl _) hW))
  rw [← HMe.out] at HNode
  have HSize := Lib.hid (fun (W : World) => HP.out.size 0 3 W (by decide) (by decide))
  rw [HSz2.out] at HSize
  clear hu hb hcx HV1 HB1 HWk HSz2
  go_upto_region 2 with fail
  have hG : ∀ W W' : World, Below W2.heap.size W2 W → Below W.heap.size W W' → Below W2.heap.size W2 W' := fun W W' h h' => h.trans (h'.mono h.size)
  refine region_by [(11, .is (.int .i64 0)), (12, .is (.bool true)), (13, .is (.bool true)), (14, .is (.slice (some pad) 1 c)), (15, .is (.int .i64 (1 : Int))), (16, .is (.bool true)), (17, .is (.bool true)), (18, .is (.bool true)), (19, .is (.slice (some pad) 1 c)), (20, .is (.pointer (some (pad.add (0 * 32))))), (21, .is (.agg (bs M))), (22, .is (.agg (bs (lit1 1)))), (23, .is (.agg (bs (lit1 2)))), (24, .is (.agg (bs M))), (25, .is (.bool true)), (26, .is (.bool true)), (27, .is (.bool true)), (28, .is (.int .i64 ((2 : Nat) : Int))), (29, .is (.bool true)), (30, .is (.bool true)), (0, .is (.bool true))] [0] (fun W => Below W2.heap.size W2 W) (by kernel_rfl) (by kernel_rfl) (by kernel_rfl) (by kernel_rfl) (by kernel_rfl) ((Below.refl _ _).drew) ?_ ?_
  · refine ⟨?c0, ?c1, ?c2, ?c3, ?c4, ?c5, ?c6, ?c7, ?c8, ?c9, ?c10, ?c11, ?c12, ?c13, ?c14, ?c15, ?c16, ?c17, ?c18, ?c19, ?c20, trivial⟩
    case c0 => exact ask_copy (guard_none rfl) (.tmp 2) (.inl rfl) (by intro k hk; cases hk; rfl)
    case c1 => exact ask_bin (guard_none rfl) .eql _ _ (.tmp 11) (.const (.int .i64 0)) (.int .i64 0) (.int .i64 0) (.bool true) rfl rfl rfl (by intro k hk; cases hk; rfl) (eql_int _ _ _ _ _)
    case c2 => exact ask_copy (guard_none rfl) (.tmp 12) (.inl rfl) (by intro k hk; cases hk; rfl)
    case c3 => exact ask_copy (guard_some rfl rfl rfl) (.tmp 1) (.inl rfl) (by intro k hk; cases hk; rfl)
    case c4 => exact ask_len (guard_some rfl rfl rfl) (.tmp 14) _ (some pad) 1 c rfl (by kernel_rfl) rfl (by intro k hk; cases hk; rfl)
    case c5 => exact ask_bin (guard_some rfl rfl rfl) .eql _ _ (.tmp 15) (.const (.int .i64 1)) (.int .i64 (1 : Int)) (.int .i64 1) (.bool true) rfl rfl rfl (by intro k hk; cases hk; rfl) (eql_int _ _ _ _ _)
    case c6 => exact ask_pick (guard_none rfl) (.tmp 13) (.tmp 16) (.const (.bool false)) true rfl rfl (by intro k hk; cases hk; rfl)
    case c7 => exact ask_copy (guard_none rfl) (.tmp 17) (.inl rfl) (by intro k hk; cases hk; rfl)
    case c8 => exact ask_copy (guard_some rfl rfl rfl) (.tmp 1) (.inl rfl) (by intro k hk; cases hk; rfl)
    case c9 => exact ask_idx (guard_some rfl rfl rfl) _ (.tmp 19) (.const (.int .i64 0)) (.slice (some pad) 1 c) (.int .i64 0) (.pointer (some (pad.add (0 * 32)))) rfl rfl rfl (by intro k hk; cases hk; rfl) (fun W => hss_index W pad 1 c 0 (by decide))
    case c10 => exact ask_load (guard_some rfl rfl rfl) _ (.tmp 20) (.pointer (some (pad.add (0 * 32)))) (.agg (bs M)) rfl rfl (by intro k hk; cases hk; rfl) (fun W hW => HLd.out W hW)
    case c11 => exact ask_exec (guard_some rfl rfl rfl) (.agg (bs (lit1 1))) rfl rfl (by intro k hk; cases hk; rfl) (fun W hW => by kernel_rfl)
    case c12 => exact ask_exec (guard_some rfl rfl rfl) (.agg (bs (lit1 2))) rfl rfl (by intro k hk; cases hk; rfl) (fun W hW => by kernel_rfl)
    case c13 => exact ask_call hG (guard_some rfl rfl rfl) _ _ _ #[.int .i64 256, .agg (bs (lit1 1)), .agg (bs (lit1 2))] (.is (.agg (bs M))) rfl (by kernel_rfl) rfl rfl (by intro k hk; cases hk; rfl) (fun W hW => (HNode.out W hW).mono fun e w' h => ⟨_, h.1, rfl, h.2⟩)
    case c14 => exact ask_bin (guard_some rfl rfl rfl) .eql _ _ (.tmp 21) (.tmp 24) (.agg (bs M)) (.agg (bs M)) (.bool true) rfl rfl rfl (by intro k hk; cases hk; rfl) (eql_hash _ _ M HM.out)
    case c15 => exact ask_pick (guard_none rfl) (.tmp 18) (.tmp 25) (.const (.bool false)) true rfl rfl (by intro k hk; cases hk; rfl)
    case c16 => exact ask_copy (guard_none rfl) (.tmp 26) (.inl rfl) (by intro k hk; cases hk; rfl)
    case c17 => exact ask_call hG (guard_some rfl rfl rfl) _ _ _ #[.int .u64 0, .int .u64 3] (.is (.int .i64 ((2 : Nat) : Int))) rfl (by kernel_rfl) rfl rfl (by intro k hk; cases hk; rfl) (fun W hW => (HSize.out W).mono fun e w' h => ⟨_, h.1, rfl, h.2⟩)
    case c18 => exact ask_bin (guard_some rfl rfl rfl) .eql _ _ (.tmp 28) (.const (.int .i64 2)) (.int .i64 ((2 : Nat) : Int)) (.int .i64 2) (.bool true) rfl rfl rfl (by intro k hk; cases hk; rfl) (eql_int _ _ _ _ _)
    case c19 => exact ask_pick (guard_none rfl) (.tmp 27) (.tmp 29) (.const (.bool false)) true rfl rfl (by intro k hk; cases hk; rfl)
    case c20 => exact ask_copy (guard_none rfl) (.tmp 30) (.inr rfl) (by intro k hk; cases hk; rfl)
  · intro a' W hW hd' hs' hf'
    have t0 : a'.tmps.getD 0 undef = .bool true := hf' 0 rfl
    obtain ⟨us', hus, ha'⟩ := act_open 31 a' hs' hd'
    rw [← hus] at t0
    have el : ((List.range 31).map us').toArray = #[.bool true, us' 1, us' 2, us' 3, us' 4, us' 5, us' 6, us' 7, us' 8, us' 9, us' 10, us' 11, us' 12, us' 13, us' 14, us' 15, us' 16, us' 17, us' 18, us' 19, us' 20, us' 21, us' 22, us' 23, us' 24, us' 25, us' 26, us' 27, us' 28, us' 29, us' 30] := by
      show #[us' 0, us' 1, us' 2, us' 3, us' 4, us' 5, us' 6, us' 7, us' 8, us' 9, us' 10, us' 11, us' 12, us' 13, us' 14, us' 15, us' 16, us' 17, us' 18, us' 19, us' 20, us' 21, us' 22, us' 23, us' 24, us' 25, us' 26, us' 27, us' 28, us' 29, us' 30] = _
      rw [t0]
    rw [el] at ha'
    subst ha'
    clear hus t0 el hf' hs' hd'
    go_wp2
    go_ret
    exact ⟨rfl, HB2.out.trans (hW.mono HB2.out.size)⟩
end Go.Proofs.YtdhfabjkpffhnabDoor

