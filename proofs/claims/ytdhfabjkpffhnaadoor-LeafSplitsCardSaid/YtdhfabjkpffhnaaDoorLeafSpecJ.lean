/- What the program's functions of layer 14 are to answer; the fixed answers that its laws begin with. -/
import Derived.Test.YtdhfabjkpffhnaaDoorKN
import Derived.Test.YtdhfabjkpffhnaaDoorKS
namespace Go.Proofs.YtdhfabjkpffhnaaDoor
set_option maxRecDepth 20000
open Go.RowKit ShaMath LeafMath Reg

structure LeafProg : Prop where
  empty : ∀ (n : Int) (w : World), I64 n → Tabs w → Calls Tryd.prog 15 #[.int .i64 n] w fun e w' => e = .returned (.agg (bs (emptyH n))) ∧ Below w.heap.size w w'
  node : ∀ (n : Int) (l r : List UInt8) (w : World), I64 n → l.length = 32 → r.length = 32 → Tabs w →
    Calls Tryd.prog 19 #[.int .i64 n, .agg (bs l), .agg (bs r)] w fun e w' => e = .returned (.agg (bs (nodeH n l r))) ∧ Below w.heap.size w w'
  root : ∀ (n : Int) (hs : List Hs) (v : Value) (w : World), I64 n → Hss w v hs → hs.length ≤ 1000000 → Tabs w →
    Calls Tryd.prog 21 #[.int .i64 n, v] w fun e w' => e = .returned (.agg (bs (rootH n hs))) ∧ Below w.heap.size w w'

/-- Leaves. -/
structure DataProg : Prop where
  leaf : ∀ (n : Int) (l : List UInt8) (v : Value) (w : World), I64 n → Bys w v l → (∃ a len cap, v = .slice a len cap ∧ len ≤ cap) → l.length ≤ 140737488352000 → Tabs w →
    Calls Tryd.prog 17 #[.int .i64 n, v] w fun e w' => e = .returned (.agg (bs (leafH n l))) ∧ Below w.heap.size w w'

/-! ### The fixed answers -/

theorem index_hash (cs : Array Value) (i : Nat) (hi : i < 32) (v : Value) (h : cs[i]? = some v) (W : World) : (Instr.index 24 (.agg cs) (.int .i64 (i : Int))).run Tryd.prog W = .ok v W := by
  have hagg : (isAgg 5).run Tryd.prog W = .ok false W := by kernel_rfl
  simp [Instr.index, run_underlying Tryd.underlying24, asIntOf, Result.andThen, part, hagg, h]
  omega

theorem wpList_index_guarded {P : Program} {w : World} {ops : Array Oper} {rest : List Oper} {o : Oper} {a : Act} {Q : Exit → Act → World → Prop} (hgd : Region.wanted o (yielded ops a.tmps) = true) (ty : TypeId) (x y : Operand) (ho : o.op = .index ty x y)
    (p q v : Value) (hx : a.eval x = p) (hy : a.eval y = q) (hr : (Instr.index ty p q).run P w = .ok v w) (h : wpList P ops Q rest (a.put o.dst v) w) : wpList P ops Q (o :: rest) a w := by
  refine wpList_step fun K hK => ?_
  rw [if_pos hgd]
  unfold Oper.wp
  simp only [execOp, ho, hx, hy, Sem.run_bind, hr, Result.andThen_ok]
  exact hK _ _ h

theorem wake0 : (leafH 256 []).getD 0 0 = 110 ∧ (leafH 256 []).getD 1 0 = 52 := by decide +kernel
theorem wake1 : (emptyH 256).getD 0 0 = 227 := by decide +kernel
theorem wake2 (l r : Hs) : (nodeH 8 l r).getD 1 0 = 0 := by
  unfold nodeH hashW
  rw [narrowL_getD _ _ _ (by decide), show ShaMath.part 8 1 = 0 by decide +kernel, and_none]

theorem i256 : I64 256 := by unfold I64; omega
theorem i8 : I64 8 := by unfold I64; omega

set_option maxRecDepth 100000 in
theorem awake14_any (hp : LeafProg) (hdp : DataProg) (w : World) (ht : Tabs w) : Calls Tryd.prog 14 #[] w fun e w' => e = .returned (.bool true) ∧ Below w.heap.size w w' := by
  obtain ⟨X, hX, hX32, x0, x1⟩ : ∃ X, X = leafH 256 [] ∧ X.length = 32 ∧ X.getD 0 0 = 110 ∧ X.getD 1 0 = 52 := ⟨_, rfl, leafH_length _ _, wake0.1, wake0.2⟩
  obtain ⟨E, hE, hE32, e0⟩ : ∃ E, E = emptyH 256 ∧ E.length = 32 ∧ E.getD 0 0 = 227 := ⟨_, rfl, emptyH_length _, wake1⟩
  obtain ⟨M, hM, hM32, m1⟩ : ∃ M, M = nodeH 8 X X ∧ M.length = 32 ∧ M.getD 1 0 = 0 := ⟨_, rfl, nodeH_length _ _ _, wake2 _ _⟩
  have H1 := Lib.hid (hdp.leaf 256 [] (.slice none 0 0) w i256 (.inl ⟨rfl, rfl⟩) ⟨_, _, _, rfl, Nat.le_refl _⟩ (by decide) ht)
  have H2 := Lib.hid (fun W (h : Below w.heap.size w W) => hp.empty 256 W i256 (ht.below (Nat.le_refl _) h))
  have H3 := Lib.hid (fun W (h : Below w.heap.size w W) => hp.node 8 X X W i8 hX32 hX32 (ht.below (Nat.le_refl _) h))
  rw [← hX] at H1
  rw [← hE] at H2
  rw [← hM] at H3
  obtain ⟨cx, hcx, hcx1, hone⟩ := hash_cells X hX32
  obtain ⟨ce, hce, hce1, _⟩ := hash_cells E hE32
  obtain ⟨cm, hcm, hcm1, _⟩ := hash_cells M hM32
  have k0 : cx[0]? = some (.int .u8 110) := by rw [hcx, bs_at _ _ (by omega), x0]; rfl
  have k1 : cx[1]? = some (.int .u8 52) := by rw [hcx, bs_at _ _ (by omega), x1]; rfl
  have k2 : ce[0]? = some (.int .u8 227) := by rw [hce, bs_at _ _ (by omega), e0]; rfl
  have k3 : cm[1]? = some (.int .u8 0) := by rw [hcm, bs_at _ _ (by omega), m1]; rfl
  rw [← hcx] at H1 H3
  rw [← hce] at H2
  rw [← hcm] at H3
  have HSz := Lib.hid (size_hash hcx1)
  have HOne := Lib.hid hone
  have HCl := Lib.hid hcx1
  have K0 := Lib.hid k0
  have K1 := Lib.hid k1
  have K2 := Lib.hid k2
  have K3 := Lib.hid k3
  clear hp hdp ht hX hX32 x0 x1 hE hE32 e0 hM hM32 m1 hcx hcx1 hone hce hce1 hcm hcm1 k0 k1 k2 k3
  go_enter Tryd.func14, Tryd.ntmps14
  go_wp2_with fail
  refine H1.out.mono ?_
  rintro e w1 ⟨rfl, hb1⟩
  have hs1 := hb1.size
  have HB1 := Lib.hid hb1
  clear hb1 H1
  go_upto_region 2 with (refine wpList_store_row rfl 24 (.tmp 1) (.tmp 2) rfl w1.heap.size cx rfl rfl 24 _ (Blk.new w1 _ _) HSz.out (by rw [HCl.out]; rfl) HOne.out ?_)
  refine world_cut (fun W => Blk W w1.heap.size 24 cx ∧ Below w.heap.size w W) ⟨Blk.row (Blk.new w1 _ _) cx, below_setRow (HB1.out.alloc hs1 _) _ _ hs1⟩ ?_
  rintro W ⟨h1, h2⟩
  have c0 := h1.cell 0
  have c1 := h1.cell 1
  rw [K0.out] at c0
  rw [K1.out] at c1
  have HBk := Lib.hid h1
  have HB2 := Lib.hid h2
  clear h1 h2 HB1
  go_wp2_with fail
  refine (H2.out _ HB2.out).mono ?_
  rintro e w3 ⟨rfl, hb3⟩
  have HB3 := Lib.hid (HB2.out.trans (hb3.mono HB2.out.size))
  have HBk3 := Lib.hid (HBk.out.keep hb3)
  clear hb3 HB2 H2 HBk c0 c1
  go_wp2_with (first
    | (refine wpList_index_guarded rfl 24 (.tmp 12) _ rfl (.agg ce) _ (.int .u8 227) rfl rfl (index_hash ce 0 (by decide) _ K2.out _) ?_)
    | (refine wpList_load_guarded rfl 24 (.tmp 1) rfl _ (.agg cx) rfl (HBk3.out.loads 24 _ Tryd.underlying24 rfl HSz.out) ?_))
  refine (H3.out _ HB3.out).mono ?_
  rintro e w4 ⟨rfl, hb4⟩
  have HB4 := Lib.hid (HB3.out.trans (hb4.mono HB3.out.size))
  clear hb4 HB3 H3 HBk3
  go_wp2_with (refine wpList_index_guarded rfl 24 (.tmp 19) _ rfl (.agg cm) _ (.int .u8 0) rfl rfl (index_hash cm 1 (by decide) _ K3.out _) ?_)
  go_ret
  exact ⟨rfl, HB4.out⟩
end Go.Proofs.YtdhfabjkpffhnaaDoor

