/- Joined: ClashLists, ClashPaths, ClashGrows, ClashNarrow, ClashTrust, ClashTrustAll. -/
import Derived.Test.YtdhfabjkpffhnaaDoorGTV
import Derived.Test.YtdhfabjkpffhnaaDoorGTW
import Derived.Test.YtdhfabjkpffhnaaDoorGrowthRefCheckT
/- ClashLists: the walk. -/
namespace Go.Proofs.YtdhfabjkpffhnaaDoor
set_option maxRecDepth 20000
open Go.RowKit ShaMath LeafMath PathMath GrowthMath ClashMath Reg

end Go.Proofs.YtdhfabjkpffhnaaDoor

/- ClashPaths: the walk. -/
namespace Go.Proofs.YtdhfabjkpffhnaaDoor
set_option maxRecDepth 20000
open Go.RowKit ShaMath LeafMath PathMath GrowthMath ClashMath Reg

end Go.Proofs.YtdhfabjkpffhnaaDoor

/- ClashGrows: the walk. -/
namespace Go.Proofs.YtdhfabjkpffhnaaDoor
set_option maxRecDepth 20000
open Go.RowKit ShaMath LeafMath PathMath GrowthMath ClashMath Reg

end Go.Proofs.YtdhfabjkpffhnaaDoor

/- ClashNarrow: the walk. -/
namespace Go.Proofs.YtdhfabjkpffhnaaDoor
set_option maxRecDepth 20000
open Go.RowKit ShaMath LeafMath PathMath GrowthMath ClashMath Reg

end Go.Proofs.YtdhfabjkpffhnaaDoor

/- ClashTrust: the walk, in nine cases. -/
namespace Go.Proofs.YtdhfabjkpffhnaaDoor
set_option maxRecDepth 20000
open Go.RowKit ShaMath LeafMath PathMath GrowthMath ClashMath Reg

/-- What path.Check is to answer. -/
def CheckProg : Prop := ∀ (n : Int) (h : Hs) (i m : Nat) (ps : List Hs) (v : Value) (r : Hs) (w : World), I64 n → h.length = 32 → r.length = 32 → i < 18446744073709551616 → m < 18446744073709551616 → Hss w v ps → ps.length ≤ 4398046511104 → Tabs w →
    Calls Tryd.prog 42 #[.int .i64 n, .agg (bs h), .int .u64 (i : Int), .int .u64 (m : Int), v, .agg (bs r)] w fun e w' => e = .returned (.bool (decide ((climbR n h i m ps).2 = 0 ∧ (climbR n h i m ps).1 = r))) ∧ Below w.heap.size w w'
/-- What growth.Check is to answer. -/
def Check16Prog : Prop := ∀ (n : Int) (h : Hs) (m N : Nat) (r : Hs) (ps : List Hs) (v : Value) (w : World), I64 n → h.length = 32 → r.length = 32 → m < 18446744073709551616 → N < 18446744073709551616 → Hss w v ps → ps.length ≤ 4398046511104 → Tabs w →
    Calls Tryd.prog 44 #[.int .i64 n, .int .u64 (m : Int), .int .u64 (N : Int), .agg (bs h), .agg (bs r), v] w fun e w' => e = .returned (.bool (checkGR n h m N r ps)) ∧ Below w.heap.size w w'

theorem checkGR_true {n : Int} {h : Hs} {m N : Nat} {r : Hs} {ps : List Hs} (h1 : 1 ≤ m) (h2 : m ≤ N) (hc : checkGR n h m N r ps = true) : (climbGR n h m N ps).2 = 0 ∧ (climbGR n h m N ps).1.1 = h ∧ (climbGR n h m N ps).1.2 = r := by
  rw [checkGR, if_neg (by omega), if_neg (by omega)] at hc
  simp only [Bool.and_eq_true, decide_eq_true_eq, beq_iff_eq] at hc
  exact ⟨hc.1.1, hc.1.2, hc.2⟩

theorem slice_hs_toV (a : Option Addr) (n c k : Nat) (hk : k ≤ c) (W : World) : (Instr.sliceAt 30 (.slice a n c) none (some (.int .u64 (k : Int))) none).run Tryd.prog W = .ok (.slice a k c) W := by
  have ht : Tryd.prog.underlying 30 = some (.slice (Tryd.prog.elem 30)) := by rw [elem_hss]; exact Tryd.underlying30
  rw [run_sliceAt_slice _ _ _ _ _ _ ht, run_slice_h _ _ _ _ _ ht .u64 (k : Int) (by omega) (by omega), elem_hss, size_hss]
  simp [Result.andThen]
  exact sliced_zero2 a k c
theorem add_u64d (x y z : Int) (hz : x + y = z) (hb : 0 ≤ z ∧ z < 18446744073709551616) (t : TypeId) (a b : Operand) (W : World) : (do eqGuard .add t a b (.int .u64 x) (.int .u64 y); binOp .add t (.int .u64 x) (.int .u64 y) : Sem Value).run Tryd.prog W = .ok (.int .u64 z) W := by
  have h : IntKind.u64.wrap (x + y) = z := by
    rw [IntKind.wrap_u64]
    omega
  simp [eqGuard, binOp, go_sem, h]

/-- An old root's box, leaves, a root's variable. -/
def TrW (w : World) (h : Hs) (vl : Value) (L : List Hs) (g : Nat) (r : Hs) (W : World) : Prop := Blk W w.heap.size 24 (bs h) ∧ Hss W vl L ∧ Blk W g 24 (bs r) ∧ Below w.heap.size w W
theorem TrW.keep {w W W' : World} {h : Hs} {vl : Value} {L : List Hs} {g : Nat} {r : Hs} (H : TrW w h vl L g r W) (hb : Below W.heap.size W W') : TrW w h vl L g r W' := ⟨H.1.keep hb, H.2.1.below (Nat.le_refl _) hb, H.2.2.1.keep hb, H.2.2.2.trans (hb.mono H.2.2.2.size)⟩

set_option maxHeartbeats 2000000 in
set_option maxRecDepth 100000 in
theorem clashTrust_F_F (hp : ClashProg) (hq : LeafProg) (hd : DataProg) (hpc : CheckProg) (hgc : Check16Prog) (n : Int) (hn : I64 n) (T : List Bs) (v : Value) (i : Nat) (x : Bs) (ax : Option Addr) (cx : Nat) (hcx : x.length ≤ cx) (h : Hs) (hh : h.length = 32) (ps : List Hs) (vp : Value) (w : World) (hvT : Txs w v T) (hlT : T.length ≤ 5864062014976) (hvx : Bys w (.slice ax x.length cx) x) (hvp : Hss w vp ps) (ht : Tabs w) (hk : Consts w)
    (hf1 : fewS T ≤ 4000) (hx4 : x.length ≤ 4000) (hp8 : ps.length ≤ 80) (hT1 : 1 ≤ T.length) (i1 : Nat) (hi1 : i1 = i % T.length) (hb : decide ((climbR n (leafH n x) i1 T.length ps).2 = 0 ∧ (climbR n (leafH n x) i1 T.length ps).1 = rootT n T) = false) (hc : checkGR n h (i1 + 1) T.length (rootT n T) ps = false) :
    Calls Tryd.prog 12 #[.int .i64 n, v, .int .u64 (i : Int), .slice ax x.length cx, .agg (bs h), vp] w fun e w' => e = .returned (.bool true) ∧ Below w.heap.size w w' := by
  have HAw := Lib.hid (fun (W : World) (hW : Below w.heap.size w W) => awake17_any hp W (ht.below (Nat.le_refl _) hW))
  have HF1 := Lib.hid (fun (W : World) (hW : Below w.heap.size w W) => few17_any T v W (hvT.below (Nat.le_refl _) hW) hlT)
  rw [decide_eq_true hf1] at HF1
  have hsT := fewS_shorts hf1
  have HSh := Lib.hid (size_hash (cs := bs h) (by rw [bs_size, hh]))
  obtain ⟨lx, hx⟩ : ∃ l, l = x.length := ⟨_, rfl⟩
  rw [← hx] at hvx hx4 hcx ⊢
  obtain ⟨pp, pc, rfl, _⟩ := hvp.form
  obtain ⟨p, hpp⟩ : ∃ p, p = ps.length := ⟨_, rfl⟩
  rw [← hpp] at hvp hp8 ⊢
  obtain ⟨pv, cv, rfl, hcv⟩ := hvT.form
  obtain ⟨m, hm⟩ : ∃ m, m = T.length := ⟨_, rfl⟩
  have hbT := hb
  have hcT := hc
  rw [← hm] at hvT hlT hcv HF1 hT1 hi1 hb hc ⊢
  have hm80 : m ≤ 80 := by rw [hm]; exact hsT.few
  have hi1m : i1 < m := by rw [hi1]; exact Nat.mod_lt _ (by omega)
  have hrem : (i : Int) % (m : Int) = (i1 : Int) := by rw [hi1]; simp
  have HRem := Lib.hid hrem
  have d1 : decide ((lx : Int) > 4000) = false := decide_eq_false (by omega)
  have d2 : decide ((p : Int) > 80) = false := decide_eq_false (by omega)
  have d3 : ((m : Int) == 0) = false := by simp; omega
  have hmw : IntKind.u64.wrap (m : Int) = (m : Int) := by rw [IntKind.wrap_u64]; omega
  obtain ⟨t, htt⟩ : ∃ t, T[i1]? = some t := ⟨T[i1]'(by omega), List.getElem?_eq_getElem _⟩
  obtain ⟨pa, at_, ct, rfl, htc, htb⟩ := hvT.at_ htt
  obtain ⟨lt, hlt⟩ : ∃ l, l = t.length := ⟨_, rfl⟩
  rw [← hlt] at htc htb
  have HTt := Lib.hid (fun (W : World) (hW : Below w.heap.size w W) => (⟨by rw [hW.cell (World.block_lt_of_cell? w _ htc)]; exact htc, htb.below (Nat.le_refl _) hW⟩ : W.cell? (pa.add i1) = some (.slice at_ lt ct) ∧ Bys W (.slice at_ lt ct) t))
  have HIx := Lib.hid (fun W => txs_indexU W pa m cv i1 hi1m)
  have HX := Lib.hid hvx
  obtain ⟨X, Y, hX, hY, hXY⟩ := strs_of x t
  have HXs := Lib.hid hX
  have HYs := Lib.hid hY
  obtain ⟨L, hL⟩ : ∃ L, L = T.map (leafH n) := ⟨_, rfl⟩
  have hLl : L.length = m := by rw [hL, List.length_map, hm]
  obtain ⟨ro, hro, hro32⟩ : ∃ r, r = rootT n T ∧ r.length = 32 := ⟨_, rfl, rootT_length _ _⟩
  obtain ⟨hxv, hhx, hhx32⟩ : ∃ r, r = leafH n x ∧ r.length = 32 := ⟨_, rfl, leafH_length _ _⟩
  obtain ⟨m1, hm1⟩ : ∃ m1, m1 = i1 + 1 := ⟨_, rfl⟩
  have HM1 := Lib.hid (show (i1 : Int) + 1 = (m1 : Int) by omega)
  have hm1m : m1 ≤ m := by omega
  have HSro := Lib.hid (size_hash (cs := bs ro) (by rw [bs_size, hro32]))
  have Hro32 := Lib.hid hro32
  have HLeaves := Lib.hid (fun (W : World) (hW : Below w.heap.size w W) => refleaves_any n hn T (.slice (some pa) m cv) W (hvT.below (Nat.le_refl _) hW) hsT (hk.below (Nat.le_refl _) hW))
  rw [← hL] at HLeaves
  have HRoot := Lib.hid (fun (W : World) (u : Value) (hW : Below w.heap.size w W) (hu : Hss W u L) => hq.root n L u W hn hu (by omega) (ht.below (Nat.le_refl _) hW))
  rw [show rootH n L = ro by rw [hL, hro]; rfl] at HRoot
  have HLeaf := Lib.hid (fun (W : World) (hW : Below w.heap.size w W) => hd.leaf n x (.slice ax lx cx) W hn (hvx.below (Nat.le_refl _) hW) ⟨_, _, _, rfl, hcx⟩ (by omega) (ht.below (Nat.le_refl _) hW))
  rw [← hhx] at HLeaf
  have HChk := Lib.hid (fun (W : World) (hW : Below w.heap.size w W) => hpc n hxv i1 m ps (.slice pp p pc) ro W hn hhx32 hro32 (by omega) (by omega) (hvp.below (Nat.le_refl _) hW) (by omega) (ht.below (Nat.le_refl _) hW))
  rw [← hhx, ← hro] at hb
  rw [hb] at HChk
  have HChk2 := Lib.hid (fun (W : World) (hW : Below w.heap.size w W) => hgc n h m1 m ro ps (.slice pp p pc) W hn hh hro32 (by omega) (by omega) (hvp.below (Nat.le_refl _) hW) (by omega) (ht.below (Nat.le_refl _) hW))
  rw [← hm1, ← hro] at hc
  rw [hc] at HChk2
  have HN := Lib.hid hn
  have HK := Lib.hid hk
  clear hp hq hd hpc hgc hn hvT hlT hvx hvp ht hk hf1 hsT hbT hcT hb hc hi1 hrem htt htc htb hlt hX hY hXY hL hro hro32 hhx hhx32 hm1 hx hpp hm hh
  go_enter Tryd.func12, Tryd.ntmps12
  go_upto_region 1 with fail
  refine world_cut (fun W => Blk W w.heap.size 24 (bs h) ∧ Below w.heap.size w W) ⟨Blk.new w _ _, (Below.refl _ _).alloc (Nat.le_refl _) _⟩ ?_
  rintro W0 ⟨hbx, hb0⟩
  have HBx0 := Lib.hid hbx
  have HB0 := Lib.hid hb0
  clear hbx hb0
  go_wp2_with fail
  refine (HAw.out _ HB0.out).mono ?_
  rintro e W1 ⟨rfl, hb1⟩
  have HB1 := Lib.hid (HB0.out.trans (hb1.mono HB0.out.size))
  have HBx1 := Lib.hid (HBx0.out.keep hb1)
  clear hb1 HB0 HBx0
  go_wp2_with fail
  refine (HF1.out _ HB1.out).mono ?_
  rintro e w2 ⟨rfl, rfl⟩
  clear HF1
  go_wp2_with fail
  refine (HLeaves.out _ HB1.out).mono ?_
  rintro e W2 ⟨u, rfl, ho2, hb2⟩
  have hu2 := ho2.hss
  obtain ⟨pl, cl, rfl, hlc⟩ := hu2.form
  rw [hLl] at hu2 hlc ⊢
  have HU2 := Lib.hid hu2
  have HBx2 := Lib.hid (HBx1.out.keep hb2)
  have HB2 := Lib.hid (HB1.out.trans (hb2.mono HB1.out.size))
  clear ho2 hu2 hb2 HLeaves HBx1 HB1
  go_wp2_with fail
  refine (HRoot.out _ _ HB2.out HU2.out).mono ?_
  rintro e W3 ⟨rfl, hb3⟩
  have HU3 := Lib.hid (HU2.out.below (Nat.le_refl _) hb3)
  have HBx3 := Lib.hid (HBx2.out.keep hb3)
  have HB3 := Lib.hid (HB2.out.trans (hb3.mono HB2.out.size))
  clear hb3 HRoot HU2 HBx2 HB2
  go_upto_region 6 with (refine wpList_store_row rfl 24 (.tmp 15) (.tmp 51) rfl W3.heap.size (bs ro) rfl rfl 24 _ (Blk.new W3 _ _) HSro.out (by simp [bs_size, Hro32.out]) (bs_one _) ?_)
  obtain ⟨g, hg⟩ : ∃ g, g = W3.heap.size := ⟨_, rfl⟩
  refine world_cut (fun W => TrW w h (.slice pl m cl) L g ro W) ⟨HBx3.out.keep (below_new W3 _ _ _), HU3.out.below (Nat.le_refl _) (below_new W3 _ _ _), by rw [hg]; exact Blk.row (Blk.new W3 _ _) _, HB3.out.trans ((below_new W3 _ _ _).mono HB3.out.size)⟩ ?_
  rw [← hg]
  clear hg HU3 HBx3 HB3
  intro W4 hW4
  have HTr := Lib.hid hW4
  clear hW4
  go_upto_region 7 with fail
  rw [HRem.out]
  have hG : ∀ W W' : World, Below W4.heap.size W4 W → Below W.heap.size W W' → Below W4.heap.size W4 W' := fun W W' h h' => h.trans (h'.mono h.size)
  refine region_skip [(55, .is (.int .i64 n)), (56, .is (.int .i64 n)), (57, .is (.slice ax lx cx)), (58, .is (.agg (bs hxv))), (59, .is (.int .u64 (i1 : Int))), (60, .is (.int .u64 (m : Int))), (61, .is (.slice pp p pc)), (62, .is (.agg (bs ro))), (63, .is (.bool false)), (64, .is (.bool false)), (65, .is undef), (66, .is undef), (67, .is undef), (68, .is undef), (69, .is undef), (70, .is undef), (71, .is undef), (72, .is undef), (73, .is (.bool false))] [0, 1, 2, 3, 5, 10, 12, 13, 14, 15, 73] (fun W => Below W4.heap.size W4 W) (by kernel_rfl) (by kernel_rfl) (by kernel_rfl) (by kernel_rfl) (by kernel_rfl) ((Below.refl _ _).drew) ?_ ?_
  · refine ⟨?c0, ?c1, ?c2, ?c3, ?c4, ?c5, ?c6, ?c7, ?c8, ?c9, ?c10, ?c11, ?c12, ?c13, ?c14, ?c15, ?c16, ?c17, ?c18, trivial⟩
    case c0 => exact runs (ask_copy (guard_none rfl) (.tmp 0) (.inl rfl) (by intro k hk; cases hk; rfl))
    case c1 => exact runs (ask_copy (guard_none rfl) (.tmp 0) (.inl rfl) (by intro k hk; cases hk; rfl))
    case c2 => exact runs (ask_copy (guard_none rfl) (.tmp 3) (.inl rfl) (by intro k hk; cases hk; rfl))
    case c3 => exact runs (ask_call hG (guard_none rfl) _ _ _ #[.int .i64 n, .slice ax lx cx] (.is (.agg (bs hxv))) rfl (by kernel_rfl) rfl rfl (by intro k hk; cases hk; rfl) (fun W hW => (HLeaf.out W (HTr.out.2.2.2.trans (hW.mono HTr.out.2.2.2.size))).mono fun e w' h => ⟨_, h.1, rfl, h.2⟩))
    case c4 => exact runs (ask_copy (guard_none rfl) (.tmp 2) (.inl rfl) (by intro k hk; cases hk; rfl))
    case c5 => exact runs (ask_copy (guard_none rfl) (.tmp 14) (.inl rfl) (by intro k hk; cases hk; rfl))
    case c6 => exact runs (ask_copy (guard_none rfl) (.tmp 5) (.inl rfl) (by intro k hk; cases hk; rfl))
    case c7 => exact runs (ask_load (guard_none rfl) _ (.tmp 15) (.pointer (some ⟨g, 0, none⟩)) (.agg (bs ro)) rfl rfl (by intro k hk; cases hk; rfl) (fun W hW => (HTr.out.2.2.1.keep hW).loads 24 _ Tryd.underlying24 rfl HSro.out))
    case c8 => exact runs (ask_call hG (guard_none rfl) _ _ _ #[.int .i64 n, .agg (bs hxv), .int .u64 (i1 : Int), .int .u64 (m : Int), .slice pp p pc, .agg (bs ro)] (.is (.bool false)) rfl (by kernel_rfl) rfl rfl (by intro k hk; cases hk; rfl) (fun W hW => (HChk.out W (HTr.out.2.2.2.trans (hW.mono HTr.out.2.2.2.size))).mono fun e w' h => ⟨_, h.1, rfl, h.2⟩))
    case c9 => exact runs (ask_copy (guard_none rfl) (.tmp 63) (.inl rfl) (by intro k hk; cases hk; rfl))
    case c10 => exact skips 9 true 64 (.bool false) rfl rfl rfl (by simp) (by intro k hk; cases hk; rfl)
    case c11 => exact skips 9 true 64 (.bool false) rfl rfl rfl (by simp) (by intro k hk; cases hk; rfl)
    case c12 => exact skips 9 true 64 (.bool false) rfl rfl rfl (by simp) (by intro k hk; cases hk; rfl)
    case c13 => exact skips 9 true 64 (.bool false) rfl rfl rfl (by simp) (by intro k hk; cases hk; rfl)
    case c14 => exact skips 9 true 64 (.bool false) rfl rfl rfl (by simp) (by intro k hk; cases hk; rfl)
    case c15 => exact skips 9 true 64 (.bool false) rfl rfl rfl (by simp) (by intro k hk; cases hk; rfl)
    case c16 => exact skips 9 true 64 (.bool false) rfl rfl rfl (by simp) (by intro k hk; cases hk; rfl)
    case c17 => exact skips 9 true 64 (.bool false) rfl rfl rfl (by simp) (by intro k hk; cases hk; rfl)
    case c18 => exact runs (ask_pick (guard_none rfl) (.tmp 64) (.tmp 72) (.const (.bool false)) false rfl rfl (by intro k hk; cases hk; rfl))
  · intro a' Wc hW hd' hs' hf'
    have t0 : a'.tmps.getD 0 undef = .int .i64 n := hf' 0 rfl
    have t1 : a'.tmps.getD 1 undef = .slice (some pa) m cv := hf' 1 rfl
    have t2 : a'.tmps.getD 2 undef = .int .u64 (i1 : Int) := hf' 2 rfl
    have t3 : a'.tmps.getD 3 undef = .slice ax lx cx := hf' 3 rfl
    have t5 : a'.tmps.getD 5 undef = .slice pp p pc := hf' 5 rfl
    have t10 : a'.tmps.getD 10 undef = .pointer (some ⟨w.heap.size, 0, none⟩) := hf' 10 rfl
    have t12 : a'.tmps.getD 12 undef = .bool false := hf' 12 rfl
    have t13 : a'.tmps.getD 13 undef = .slice pl m cl := hf' 13 rfl
    have t14 : a'.tmps.getD 14 undef = .int .u64 (m : Int) := hf' 14 rfl
    have t15 : a'.tmps.getD 15 undef = .pointer (some ⟨g, 0, none⟩) := hf' 15 rfl
    have t73 : a'.tmps.getD 73 undef = .bool false := hf' 73 rfl
    obtain ⟨us', hus, ha'⟩ := act_open 127 a' hs' hd'
    rw [← hus] at t0 t1 t2 t3 t5 t10 t12 t13 t14 t15 t73
    have el : ((List.range 127).map us').toArray = #[.int .i64 n, .slice (some pa) m cv, .int .u64 (i1 : Int), .slice ax lx cx, us' 4, .slice pp p pc, us' 6, us' 7, us' 8, us' 9, .pointer (some ⟨w.heap.size, 0, none⟩), us' 11, .bool false, .slice pl m cl, .int .u64 (m : Int), .pointer (some ⟨g, 0, none⟩), us' 16, us' 17, us' 18, us' 19, us' 20, us' 21, us' 22, us' 23, us' 24, us' 25, us' 26, us' 27, us' 28, us' 29, us' 30, us' 31, us' 32, us' 33, us' 34, us' 35, us' 36, us' 37, us' 38, us' 39, us' 40, us' 41, us' 42, us' 43, us' 44, us' 45, us' 46, us' 47, us' 48, us' 49, us' 50, us' 51, us' 52, us' 53, us' 54, us' 55, us' 56, us' 57, us' 58, us' 59, us' 60, us' 61, us' 62, us' 63, us' 64, us' 65, us' 66, us' 67, us' 68, us' 69, us' 70, us' 71, us' 72, .bool false, us' 74, us' 75, us' 76, us' 77, us' 78, us' 79, us' 80, us' 81, us' 82, us' 83, us' 84, us' 85, us' 86, us' 87, us' 88, us' 89, us' 90, us' 91, us' 92, us' 93, us' 94, us' 95, us' 96, us' 97, us' 98, us' 99, us' 100, us' 101, us' 102, us' 103, us' 104, us' 105, us' 106, us' 107, us' 108, us' 109, us' 110, us' 111, us' 112, us' 113, us' 114, us' 115, us' 116, us' 117, us' 118, us' 119, us' 120, us' 121, us' 122, us' 123, us' 124, us' 125, us' 126] := by
      show #[us' 0, us' 1, us' 2, us' 3, us' 4, us' 5, us' 6, us' 7, us' 8, us' 9, us' 10, us' 11, us' 12, us' 13, us' 14, us' 15, us' 16, us' 17, us' 18, us' 19, us' 20, us' 21, us' 22, us' 23, us' 24, us' 25, us' 26, us' 27, us' 28, us' 29, us' 30, us' 31, us' 32, us' 33, us' 34, us' 35, us' 36, us' 37, us' 38, us' 39, us' 40, us' 41, us' 42, us' 43, us' 44, us' 45, us' 46, us' 47, us' 48, us' 49, us' 50, us' 51, us' 52, us' 53, us' 54, us' 55, us' 56, us' 57, us' 58, us' 59, us' 60, us' 61, us' 62, us' 63, us' 64, us' 65, us' 66, us' 67, us' 68, us' 69, us' 70, us' 71, us' 72, us' 73, us' 74, us' 75, us' 76, us' 77, us' 78, us' 79, us' 80, us' 81, us' 82, us' 83, us' 84, us' 85, us' 86, us' 87, us' 88, us' 89, us' 90, us' 91, us' 92, us' 93, us' 94, us' 95, us' 96, us' 97, us' 98, us' 99, us' 100, us' 101, us' 102, us' 103, us' 104, us' 105, us' 106, us' 107, us' 108, us' 109, us' 110, us' 111, us' 112, us' 113, us' 114, us' 115, us' 116, us' 117, us' 118, us' 119, us' 120, us' 121, us' 122, us' 123, us' 124, us' 125, us' 126] = _
      rw [t0, t1, t2, t3, t5, t10, t12, t13, t14, t15, t73]
    rw [el] at ha'
    subst ha'
    clear hus t0 t1 t2 t3 t5 t10 t12 t13 t14 t15 t73 el hf' hs' hd'
    have HTr7 := Lib.hid (HTr.out.keep hW)
    clear hW hG HTr
    have HTr := Lib.hid HTr7.out
    clear HTr7
    go_upto_region 11 with fail
    have hG : ∀ W W' : World, Below Wc.heap.size Wc W → Below W.heap.size W W' → Below Wc.heap.size Wc W' := fun W W' h h' => h.trans (h'.mono h.size)
    refine region_skip [(91, .is (.int .i64 n)), (92, .is (.int .u64 (i1 : Int))), (93, .is (.int .u64 (m1 : Int))), (94, .is (.int .u64 (m : Int))), (95, .is (.agg (bs h))), (96, .is (.agg (bs ro))), (97, .is (.slice pp p pc)), (98, .is (.bool false)), (99, .is (.bool false)), (100, .is undef), (101, .is undef), (102, .is undef), (103, .is undef), (104, .is undef), (105, .is undef), (106, .is undef), (107, .is undef), (108, .is (.bool false))] [0, 1, 2, 5, 10, 12, 108] (fun W => Below Wc.heap.size Wc W) (by kernel_rfl) (by kernel_rfl) (by kernel_rfl) (by kernel_rfl) (by kernel_rfl) ((Below.refl _ _).drew) ?_ ?_
    · refine ⟨?c0, ?c1, ?c2, ?c3, ?c4, ?c5, ?c6, ?c7, ?c8, ?c9, ?c10, ?c11, ?c12, ?c13, ?c14, ?c15, ?c16, ?c17, trivial⟩
      case c0 => exact runs (ask_copy (guard_none rfl) (.tmp 0) (.inl rfl) (by intro k hk; cases hk; rfl))
      case c1 => exact runs (ask_copy (guard_none rfl) (.tmp 2) (.inl rfl) (by intro k hk; cases hk; rfl))
      case c2 => exact runs (ask_bin (guard_none rfl) .add _ _ (.tmp 92) (.const (.int .u64 1)) (.int .u64 (i1 : Int)) (.int .u64 1) (.int .u64 (m1 : Int)) rfl rfl rfl (by intro k hk; cases hk; rfl) (fun W => add_u64d _ _ _ HM1.out (by omega) _ _ _ W))
      case c3 => exact runs (ask_copy (guard_none rfl) (.tmp 14) (.inl rfl) (by intro k hk; cases hk; rfl))
      case c4 => exact runs (ask_load (guard_none rfl) _ (.tmp 10) (.pointer (some ⟨w.heap.size, 0, none⟩)) (.agg (bs h)) rfl rfl (by intro k hk; cases hk; rfl) (fun W hW => (HTr.out.1.keep hW).loads 24 _ Tryd.underlying24 rfl HSh.out))
      case c5 => exact runs (ask_load (guard_none rfl) _ (.tmp 15) (.pointer (some ⟨g, 0, none⟩)) (.agg (bs ro)) rfl rfl (by intro k hk; cases hk; rfl) (fun W hW => (HTr.out.2.2.1.keep hW).loads 24 _ Tryd.underlying24 rfl HSro.out))
      case c6 => exact runs (ask_copy (guard_none rfl) (.tmp 5) (.inl rfl) (by intro k hk; cases hk; rfl))
      case c7 => exact runs (ask_call hG (guard_none rfl) _ _ _ #[.int .i64 n, .int .u64 (m1 : Int), .int .u64 (m : Int), .agg (bs h), .agg (bs ro), .slice pp p pc] (.is (.bool false)) rfl (by kernel_rfl) rfl rfl (by intro k hk; cases hk; rfl) (fun W hW => (HChk2.out W (HTr.out.2.2.2.trans (hW.mono HTr.out.2.2.2.size))).mono fun e w' h => ⟨_, h.1, rfl, h.2⟩))
      case c8 => exact runs (ask_copy (guard_none rfl) (.tmp 98) (.inl rfl) (by intro k hk; cases hk; rfl))
      case c9 => exact skips 8 true 99 (.bool false) rfl rfl rfl (by simp) (by intro k hk; cases hk; rfl)
      case c10 => exact skips 8 true 99 (.bool false) rfl rfl rfl (by simp) (by intro k hk; cases hk; rfl)
      case c11 => exact skips 8 true 99 (.bool false) rfl rfl rfl (by simp) (by intro k hk; cases hk; rfl)
      case c12 => exact skips 8 true 99 (.bool false) rfl rfl rfl (by simp) (by intro k hk; cases hk; rfl)
      case c13 => exact skips 8 true 99 (.bool false) rfl rfl rfl (by simp) (by intro k hk; cases hk; rfl)
      case c14 => exact skips 8 true 99 (.bool false) rfl rfl rfl (by simp) (by intro k hk; cases hk; rfl)
      case c15 => exact skips 8 true 99 (.bool false) rfl rfl rfl (by simp) (by intro k hk; cases hk; rfl)
      case c16 => exact skips 8 true 99 (.bool false) rfl rfl rfl (by simp) (by intro k hk; cases hk; rfl)
      case c17 => exact runs (ask_pick (guard_none rfl) (.tmp 99) (.tmp 107) (.const (.bool false)) false rfl rfl (by intro k hk; cases hk; rfl))
    · intro a' Wd hW hd' hs' hf'
      have t0 : a'.tmps.getD 0 undef = .int .i64 n := hf' 0 rfl
      have t1 : a'.tmps.getD 1 undef = .slice (some pa) m cv := hf' 1 rfl
      have t2 : a'.tmps.getD 2 undef = .int .u64 (i1 : Int) := hf' 2 rfl
      have t5 : a'.tmps.getD 5 undef = .slice pp p pc := hf' 5 rfl
      have t10 : a'.tmps.getD 10 undef = .pointer (some ⟨w.heap.size, 0, none⟩) := hf' 10 rfl
      have t12 : a'.tmps.getD 12 undef = .bool false := hf' 12 rfl
      have t108 : a'.tmps.getD 108 undef = .bool false := hf' 108 rfl
      obtain ⟨vs', hus, ha'⟩ := act_open 127 a' hs' hd'
      rw [← hus] at t0 t1 t2 t5 t10 t12 t108
      have el : ((List.range 127).map vs').toArray = #[.int .i64 n, .slice (some pa) m cv, .int .u64 (i1 : Int), vs' 3, vs' 4, .slice pp p pc, vs' 6, vs' 7, vs' 8, vs' 9, .pointer (some ⟨w.heap.size, 0, none⟩), vs' 11, .bool false, vs' 13, vs' 14, vs' 15, vs' 16, vs' 17, vs' 18, vs' 19, vs' 20, vs' 21, vs' 22, vs' 23, vs' 24, vs' 25, vs' 26, vs' 27, vs' 28, vs' 29, vs' 30, vs' 31, vs' 32, vs' 33, vs' 34, vs' 35, vs' 36, vs' 37, vs' 38, vs' 39, vs' 40, vs' 41, vs' 42, vs' 43, vs' 44, vs' 45, vs' 46, vs' 47, vs' 48, vs' 49, vs' 50, vs' 51, vs' 52, vs' 53, vs' 54, vs' 55, vs' 56, vs' 57, vs' 58, vs' 59, vs' 60, vs' 61, vs' 62, vs' 63, vs' 64, vs' 65, vs' 66, vs' 67, vs' 68, vs' 69, vs' 70, vs' 71, vs' 72, vs' 73, vs' 74, vs' 75, vs' 76, vs' 77, vs' 78, vs' 79, vs' 80, vs' 81, vs' 82, vs' 83, vs' 84, vs' 85, vs' 86, vs' 87, vs' 88, vs' 89, vs' 90, vs' 91, vs' 92, vs' 93, vs' 94, vs' 95, vs' 96, vs' 97, vs' 98, vs' 99, vs' 100, vs' 101, vs' 102, vs' 103, vs' 104, vs' 105, vs' 106, vs' 107, .bool false, vs' 109, vs' 110, vs' 111, vs' 112, vs' 113, vs' 114, vs' 115, vs' 116, vs' 117, vs' 118, vs' 119, vs' 120, vs' 121, vs' 122, vs' 123, vs' 124, vs' 125, vs' 126] := by
        show #[vs' 0, vs' 1, vs' 2, vs' 3, vs' 4, vs' 5, vs' 6, vs' 7, vs' 8, vs' 9, vs' 10, vs' 11, vs' 12, vs' 13, vs' 14, vs' 15, vs' 16, vs' 17, vs' 18, vs' 19, vs' 20, vs' 21, vs' 22, vs' 23, vs' 24, vs' 25, vs' 26, vs' 27, vs' 28, vs' 29, vs' 30, vs' 31, vs' 32, vs' 33, vs' 34, vs' 35, vs' 36, vs' 37, vs' 38, vs' 39, vs' 40, vs' 41, vs' 42, vs' 43, vs' 44, vs' 45, vs' 46, vs' 47, vs' 48, vs' 49, vs' 50, vs' 51, vs' 52, vs' 53, vs' 54, vs' 55, vs' 56, vs' 57, vs' 58, vs' 59, vs' 60, vs' 61, vs' 62, vs' 63, vs' 64, vs' 65, vs' 66, vs' 67, vs' 68, vs' 69, vs' 70, vs' 71, vs' 72, vs' 73, vs' 74, vs' 75, vs' 76, vs' 77, vs' 78, vs' 79, vs' 80, vs' 81, vs' 82, vs' 83, vs' 84, vs' 85, vs' 86, vs' 87, vs' 88, vs' 89, vs' 90, vs' 91, vs' 92, vs' 93, vs' 94, vs' 95, vs' 96, vs' 97, vs' 98, vs' 99, vs' 100, vs' 101, vs' 102, vs' 103, vs' 104, vs' 105, vs' 106, vs' 107, vs' 108, vs' 109, vs' 110, vs' 111, vs' 112, vs' 113, vs' 114, vs' 115, vs' 116, vs' 117, vs' 118, vs' 119, vs' 120, vs' 121, vs' 122, vs' 123, vs' 124, vs' 125, vs' 126] = _
        rw [t0, t1, t2, t5, t10, t12, t108]
      rw [el] at ha'
      subst ha'
      clear hus t0 t1 t2 t5 t10 t12 t108 el hf' hs' hd'
      have HTrd := Lib.hid (HTr.out.keep hW)
      clear hW hG HTr
      go_wp2
      go_ret
      exact ⟨rfl, HTrd.out.2.2.2⟩

set_option maxHeartbeats 2000000 in
set_option maxRecDepth 100000 in
theorem clashTrust_F_TF (hp : ClashProg) (hq : LeafProg) (hd : DataProg) (hpc : CheckProg) (hgc : Check16Prog) (n : Int) (hn : I64 n) (T : List Bs) (v : Value) (i : Nat) (x : Bs) (ax : Option Addr) (cx : Nat) (hcx : x.length ≤ cx) (h : Hs) (hh : h.length = 32) (ps : List Hs) (vp : Value) (w : World) (hvT : Txs w v T) (hlT : T.length ≤ 5864062014976) (hvx : Bys w (.slice ax x.length cx) x) (hvp : Hss w vp ps) (ht : Tabs w) (hk : Consts w)
    (hf1 : fewS T ≤ 4000) (hx4 : x.length ≤ 4000) (hp8 : ps.length ≤ 80) (hT1 : 1 ≤ T.length) (i1 : Nat) (hi1 : i1 = i % T.length) (hb : decide ((climbR n (leafH n x) i1 T.length ps).2 = 0 ∧ (climbR n (leafH n x) i1 T.length ps).1 = rootT n T) = false) (hc : checkGR n h (i1 + 1) T.length (rootT n T) ps = true) (hhh : h = rootT n (T.take (i1 + 1))) :
    Calls Tryd.prog 12 #[.int .i64 n, v, .int .u64 (i : Int), .slice ax x.length cx, .agg (bs h), vp] w fun e w' => e = .returned (.bool true) ∧ Below w.heap.size w w' := by
  have HAw := Lib.hid (fun (W : World) (hW : Below w.heap.size w W) => awake17_any hp W (ht.below (Nat.le_refl _) hW))
  have HF1 := Lib.hid (fun (W : World) (hW : Below w.heap.size w W) => few17_any T v W (hvT.below (Nat.le_refl _) hW) hlT)
  rw [decide_eq_true hf1] at HF1
  have hsT := fewS_shorts hf1
  have HSh := Lib.hid (size_hash (cs := bs h) (by rw [bs_size, hh]))
  obtain ⟨lx, hx⟩ : ∃ l, l = x.length := ⟨_, rfl⟩
  rw [← hx] at hvx hx4 hcx ⊢
  obtain ⟨pp, pc, rfl, _⟩ := hvp.form
  obtain ⟨p, hpp⟩ : ∃ p, p = ps.length := ⟨_, rfl⟩
  rw [← hpp] at hvp hp8 ⊢
  obtain ⟨pv, cv, rfl, hcv⟩ := hvT.form
  obtain ⟨m, hm⟩ : ∃ m, m = T.length := ⟨_, rfl⟩
  have hbT := hb
  have hcT := hc
  rw [← hm] at hvT hlT hcv HF1 hT1 hi1 hb hc ⊢
  have hm80 : m ≤ 80 := by rw [hm]; exact hsT.few
  have hi1m : i1 < m := by rw [hi1]; exact Nat.mod_lt _ (by omega)
  have hrem : (i : Int) % (m : Int) = (i1 : Int) := by rw [hi1]; simp
  have HRem := Lib.hid hrem
  have d1 : decide ((lx : Int) > 4000) = false := decide_eq_false (by omega)
  have d2 : decide ((p : Int) > 80) = false := decide_eq_false (by omega)
  have d3 : ((m : Int) == 0) = false := by simp; omega
  have hmw : IntKind.u64.wrap (m : Int) = (m : Int) := by rw [IntKind.wrap_u64]; omega
  obtain ⟨t, htt⟩ : ∃ t, T[i1]? = some t := ⟨T[i1]'(by omega), List.getElem?_eq_getElem _⟩
  obtain ⟨pa, at_, ct, rfl, htc, htb⟩ := hvT.at_ htt
  obtain ⟨lt, hlt⟩ : ∃ l, l = t.length := ⟨_, rfl⟩
  rw [← hlt] at htc htb
  have HTt := Lib.hid (fun (W : World) (hW : Below w.heap.size w W) => (⟨by rw [hW.cell (World.block_lt_of_cell? w _ htc)]; exact htc, htb.below (Nat.le_refl _) hW⟩ : W.cell? (pa.add i1) = some (.slice at_ lt ct) ∧ Bys W (.slice at_ lt ct) t))
  have HIx := Lib.hid (fun W => txs_indexU W pa m cv i1 hi1m)
  have HX := Lib.hid hvx
  obtain ⟨X, Y, hX, hY, hXY⟩ := strs_of x t
  have HXs := Lib.hid hX
  have HYs := Lib.hid hY
  obtain ⟨L, hL⟩ : ∃ L, L = T.map (leafH n) := ⟨_, rfl⟩
  have hLl : L.length = m := by rw [hL, List.length_map, hm]
  obtain ⟨ro, hro, hro32⟩ : ∃ r, r = rootT n T ∧ r.length = 32 := ⟨_, rfl, rootT_length _ _⟩
  obtain ⟨hxv, hhx, hhx32⟩ : ∃ r, r = leafH n x ∧ r.length = 32 := ⟨_, rfl, leafH_length _ _⟩
  obtain ⟨m1, hm1⟩ : ∃ m1, m1 = i1 + 1 := ⟨_, rfl⟩
  have HM1 := Lib.hid (show (i1 : Int) + 1 = (m1 : Int) by omega)
  have hm1m : m1 ≤ m := by omega
  have HSro := Lib.hid (size_hash (cs := bs ro) (by rw [bs_size, hro32]))
  have Hro32 := Lib.hid hro32
  have HLeaves := Lib.hid (fun (W : World) (hW : Below w.heap.size w W) => refleaves_any n hn T (.slice (some pa) m cv) W (hvT.below (Nat.le_refl _) hW) hsT (hk.below (Nat.le_refl _) hW))
  rw [← hL] at HLeaves
  have HRoot := Lib.hid (fun (W : World) (u : Value) (hW : Below w.heap.size w W) (hu : Hss W u L) => hq.root n L u W hn hu (by omega) (ht.below (Nat.le_refl _) hW))
  rw [show rootH n L = ro by rw [hL, hro]; rfl] at HRoot
  have HLeaf := Lib.hid (fun (W : World) (hW : Below w.heap.size w W) => hd.leaf n x (.slice ax lx cx) W hn (hvx.below (Nat.le_refl _) hW) ⟨_, _, _, rfl, hcx⟩ (by omega) (ht.below (Nat.le_refl _) hW))
  rw [← hhx] at HLeaf
  have HChk := Lib.hid (fun (W : World) (hW : Below w.heap.size w W) => hpc n hxv i1 m ps (.slice pp p pc) ro W hn hhx32 hro32 (by omega) (by omega) (hvp.below (Nat.le_refl _) hW) (by omega) (ht.below (Nat.le_refl _) hW))
  rw [← hhx, ← hro] at hb
  rw [hb] at HChk
  have HChk2 := Lib.hid (fun (W : World) (hW : Below w.heap.size w W) => hgc n h m1 m ro ps (.slice pp p pc) W hn hh hro32 (by omega) (by omega) (hvp.below (Nat.le_refl _) hW) (by omega) (ht.below (Nat.le_refl _) hW))
  rw [← hm1, ← hro] at hc
  rw [hc] at HChk2
  have HN := Lib.hid hn
  have HK := Lib.hid hk
  obtain ⟨rm, hrm, hrm32⟩ : ∃ r, r = rootT n (T.take m1) ∧ r.length = 32 := ⟨_, rfl, rootT_length _ _⟩
  have HRm := Lib.hid (fun (pl : Option Addr) (cl : Nat) (W : World) (hu : Hss W (.slice pl m cl) L) (hW : Below w.heap.size w W) => by
    have h1 : Hss W (.slice pl m1 cl) (L.take m1) := by
      have := hu.sub 0 m1 (by omega) hm1m
      rw [sliced_zero2] at this
      simpa using this
    have h2 := hq.root n (L.take m1) (.slice pl m1 cl) W hn h1 (by rw [List.length_take]; omega) (ht.below (Nat.le_refl _) hW)
    rwa [show rootH n (L.take m1) = rm by rw [hrm, hL, ← List.map_take]; rfl] at h2)
  have hhrm : h = rm := by rw [hrm, hm1]; exact hhh
  subst hhrm
  have HNq := Lib.hid (fun s t W => neq_hash s t h hh W)
  clear hp hq hd hpc hgc hn hvT hlT hvx hvp ht hk hf1 hsT hbT hcT hb hc hi1 hrem htt htc htb hlt hX hY hXY hL hro hro32 hhx hhx32 hm1 hx hpp hm hh hrm hrm32 hhh
  go_enter Tryd.func12, Tryd.ntmps12
  go_upto_region 1 with fail
  refine world_cut (fun W => Blk W w.heap.size 24 (bs h) ∧ Below w.heap.size w W) ⟨Blk.new w _ _, (Below.refl _ _).alloc (Nat.le_refl _) _⟩ ?_
  rintro W0 ⟨hbx, hb0⟩
  have HBx0 := Lib.hid hbx
  have HB0 := Lib.hid hb0
  clear hbx hb0
  go_wp2_with fail
  refine (HAw.out _ HB0.out).mono ?_
  rintro e W1 ⟨rfl, hb1⟩
  have HB1 := Lib.hid (HB0.out.trans (hb1.mono HB0.out.size))
  have HBx1 := Lib.hid (HBx0.out.keep hb1)
  clear hb1 HB0 HBx0
  go_wp2_with fail
  refine (HF1.out _ HB1.out).mono ?_
  rintro e w2 ⟨rfl, rfl⟩
  clear HF1
  go_wp2_with fail
  refine (HLeaves.out _ HB1.out).mono ?_
  rintro e W2 ⟨u, rfl, ho2, hb2⟩
  have hu2 := ho2.hss
  obtain ⟨pl, cl, rfl, hlc⟩ := hu2.form
  rw [hLl] at hu2 hlc ⊢
  have HU2 := Lib.hid hu2
  have HBx2 := Lib.hid (HBx1.out.keep hb2)
  have HB2 := Lib.hid (HB1.out.trans (hb2.mono HB1.out.size))
  clear ho2 hu2 hb2 HLeaves HBx1 HB1
  go_wp2_with fail
  refine (HRoot.out _ _ HB2.out HU2.out).mono ?_
  rintro e W3 ⟨rfl, hb3⟩
  have HU3 := Lib.hid (HU2.out.below (Nat.le_refl _) hb3)
  have HBx3 := Lib.hid (HBx2.out.keep hb3)
  have HB3 := Lib.hid (HB2.out.trans (hb3.mono HB2.out.size))
  clear hb3 HRoot HU2 HBx2 HB2
  go_upto_region 6 with (refine wpList_store_row rfl 24 (.tmp 15) (.tmp 51) rfl W3.heap.size (bs ro) rfl rfl 24 _ (Blk.new W3 _ _) HSro.out (by simp [bs_size, Hro32.out]) (bs_one _) ?_)
  obtain ⟨g, hg⟩ : ∃ g, g = W3.heap.size := ⟨_, rfl⟩
  refine world_cut (fun W => TrW w h (.slice pl m cl) L g ro W) ⟨HBx3.out.keep (below_new W3 _ _ _), HU3.out.below (Nat.le_refl _) (below_new W3 _ _ _), by rw [hg]; exact Blk.row (Blk.new W3 _ _) _, HB3.out.trans ((below_new W3 _ _ _).mono HB3.out.size)⟩ ?_
  rw [← hg]
  clear hg HU3 HBx3 HB3
  intro W4 hW4
  have HTr := Lib.hid hW4
  clear hW4
  go_upto_region 7 with fail
  rw [HRem.out]
  have HSl := Lib.hid (fun (W : World) => slice_hs_toV pl m cl m1 (by omega) W)
  have HRm2 := Lib.hid (fun (W : World) => HRm.out pl cl W)
  clear HRm
  have HRm := HRm2
  clear HRm2
  have hG : ∀ W W' : World, Below W4.heap.size W4 W → Below W.heap.size W W' → Below W4.heap.size W4 W' := fun W W' h h' => h.trans (h'.mono h.size)
  refine region_skip [(55, .is (.int .i64 n)), (56, .is (.int .i64 n)), (57, .is (.slice ax lx cx)), (58, .is (.agg (bs hxv))), (59, .is (.int .u64 (i1 : Int))), (60, .is (.int .u64 (m : Int))), (61, .is (.slice pp p pc)), (62, .is (.agg (bs ro))), (63, .is (.bool false)), (64, .is (.bool false)), (65, .is undef), (66, .is undef), (67, .is undef), (68, .is undef), (69, .is undef), (70, .is undef), (71, .is undef), (72, .is undef), (73, .is (.bool false))] [0, 1, 2, 3, 5, 10, 12, 13, 14, 15, 73] (fun W => Below W4.heap.size W4 W) (by kernel_rfl) (by kernel_rfl) (by kernel_rfl) (by kernel_rfl) (by kernel_rfl) ((Below.refl _ _).drew) ?_ ?_
  · refine ⟨?c0, ?c1, ?c2, ?c3, ?c4, ?c5, ?c6, ?c7, ?c8, ?c9, ?c10, ?c11, ?c12, ?c13, ?c14, ?c15, ?c16, ?c17, ?c18, trivial⟩
    case c0 => exact runs (ask_copy (guard_none rfl) (.tmp 0) (.inl rfl) (by intro k hk; cases hk; rfl))
    case c1 => exact runs (ask_copy (guard_none rfl) (.tmp 0) (.inl rfl) (by intro k hk; cases hk; rfl))
    case c2 => exact runs (ask_copy (guard_none rfl) (.tmp 3) (.inl rfl) (by intro k hk; cases hk; rfl))
    case c3 => exact runs (ask_call hG (guard_none rfl) _ _ _ #[.int .i64 n, .slice ax lx cx] (.is (.agg (bs hxv))) rfl (by kernel_rfl) rfl rfl (by intro k hk; cases hk; rfl) (fun W hW => (HLeaf.out W (HTr.out.2.2.2.trans (hW.mono HTr.out.2.2.2.size))).mono fun e w' h => ⟨_, h.1, rfl, h.2⟩))
    case c4 => exact runs (ask_copy (guard_none rfl) (.tmp 2) (.inl rfl) (by intro k hk; cases hk; rfl))
    case c5 => exact runs (ask_copy (guard_none rfl) (.tmp 14) (.inl rfl) (by intro k hk; cases hk; rfl))
    case c6 => exact runs (ask_copy (guard_none rfl) (.tmp 5) (.inl rfl) (by intro k hk; cases hk; rfl))
    case c7 => exact runs (ask_load (guard_none rfl) _ (.tmp 15) (.pointer (some ⟨g, 0, none⟩)) (.agg (bs ro)) rfl rfl (by intro k hk; cases hk; rfl) (fun W hW => (HTr.out.2.2.1.keep hW).loads 24 _ Tryd.underlying24 rfl HSro.out))
    case c8 => exact runs (ask_call hG (guard_none rfl) _ _ _ #[.int .i64 n, .agg (bs hxv), .int .u64 (i1 : Int), .int .u64 (m : Int), .slice pp p pc, .agg (bs ro)] (.is (.bool false)) rfl (by kernel_rfl) rfl rfl (by intro k hk; cases hk; rfl) (fun W hW => (HChk.out W (HTr.out.2.2.2.trans (hW.mono HTr.out.2.2.2.size))).mono fun e w' h => ⟨_, h.1, rfl, h.2⟩))
    case c9 => exact runs (ask_copy (guard_none rfl) (.tmp 63) (.inl rfl) (by intro k hk; cases hk; rfl))
    case c10 => exact skips 9 true 64 (.bool false) rfl rfl rfl (by simp) (by intro k hk; cases hk; rfl)
    case c11 => exact skips 9 true 64 (.bool false) rfl rfl rfl (by simp) (by intro k hk; cases hk; rfl)
    case c12 => exact skips 9 true 64 (.bool false) rfl rfl rfl (by simp) (by intro k hk; cases hk; rfl)
    case c13 => exact skips 9 true 64 (.bool false) rfl rfl rfl (by simp) (by intro k hk; cases hk; rfl)
    case c14 => exact skips 9 true 64 (.bool false) rfl rfl rfl (by simp) (by intro k hk; cases hk; rfl)
    case c15 => exact skips 9 true 64 (.bool false) rfl rfl rfl (by simp) (by intro k hk; cases hk; rfl)
    case c16 => exact skips 9 true 64 (.bool false) rfl rfl rfl (by simp) (by intro k hk; cases hk; rfl)
    case c17 => exact skips 9 true 64 (.bool false) rfl rfl rfl (by simp) (by intro k hk; cases hk; rfl)
    case c18 => exact runs (ask_pick (guard_none rfl) (.tmp 64) (.tmp 72) (.const (.bool false)) false rfl rfl (by intro k hk; cases hk; rfl))
  · intro a' Wc hW hd' hs' hf'
    have t0 : a'.tmps.getD 0 undef = .int .i64 n := hf' 0 rfl
    have t1 : a'.tmps.getD 1 undef = .slice (some pa) m cv := hf' 1 rfl
    have t2 : a'.tmps.getD 2 undef = .int .u64 (i1 : Int) := hf' 2 rfl
    have t3 : a'.tmps.getD 3 undef = .slice ax lx cx := hf' 3 rfl
    have t5 : a'.tmps.getD 5 undef = .slice pp p pc := hf' 5 rfl
    have t10 : a'.tmps.getD 10 undef = .pointer (some ⟨w.heap.size, 0, none⟩) := hf' 10 rfl
    have t12 : a'.tmps.getD 12 undef = .bool false := hf' 12 rfl
    have t13 : a'.tmps.getD 13 undef = .slice pl m cl := hf' 13 rfl
    have t14 : a'.tmps.getD 14 undef = .int .u64 (m : Int) := hf' 14 rfl
    have t15 : a'.tmps.getD 15 undef = .pointer (some ⟨g, 0, none⟩) := hf' 15 rfl
    have t73 : a'.tmps.getD 73 undef = .bool false := hf' 73 rfl
    obtain ⟨us', hus, ha'⟩ := act_open 127 a' hs' hd'
    rw [← hus] at t0 t1 t2 t3 t5 t10 t12 t13 t14 t15 t73
    have el : ((List.range 127).map us').toArray = #[.int .i64 n, .slice (some pa) m cv, .int .u64 (i1 : Int), .slice ax lx cx, us' 4, .slice pp p pc, us' 6, us' 7, us' 8, us' 9, .pointer (some ⟨w.heap.size, 0, none⟩), us' 11, .bool false, .slice pl m cl, .int .u64 (m : Int), .pointer (some ⟨g, 0, none⟩), us' 16, us' 17, us' 18, us' 19, us' 20, us' 21, us' 22, us' 23, us' 24, us' 25, us' 26, us' 27, us' 28, us' 29, us' 30, us' 31, us' 32, us' 33, us' 34, us' 35, us' 36, us' 37, us' 38, us' 39, us' 40, us' 41, us' 42, us' 43, us' 44, us' 45, us' 46, us' 47, us' 48, us' 49, us' 50, us' 51, us' 52, us' 53, us' 54, us' 55, us' 56, us' 57, us' 58, us' 59, us' 60, us' 61, us' 62, us' 63, us' 64, us' 65, us' 66, us' 67, us' 68, us' 69, us' 70, us' 71, us' 72, .bool false, us' 74, us' 75, us' 76, us' 77, us' 78, us' 79, us' 80, us' 81, us' 82, us' 83, us' 84, us' 85, us' 86, us' 87, us' 88, us' 89, us' 90, us' 91, us' 92, us' 93, us' 94, us' 95, us' 96, us' 97, us' 98, us' 99, us' 100, us' 101, us' 102, us' 103, us' 104, us' 105, us' 106, us' 107, us' 108, us' 109, us' 110, us' 111, us' 112, us' 113, us' 114, us' 115, us' 116, us' 117, us' 118, us' 119, us' 120, us' 121, us' 122, us' 123, us' 124, us' 125, us' 126] := by
      show #[us' 0, us' 1, us' 2, us' 3, us' 4, us' 5, us' 6, us' 7, us' 8, us' 9, us' 10, us' 11, us' 12, us' 13, us' 14, us' 15, us' 16, us' 17, us' 18, us' 19, us' 20, us' 21, us' 22, us' 23, us' 24, us' 25, us' 26, us' 27, us' 28, us' 29, us' 30, us' 31, us' 32, us' 33, us' 34, us' 35, us' 36, us' 37, us' 38, us' 39, us' 40, us' 41, us' 42, us' 43, us' 44, us' 45, us' 46, us' 47, us' 48, us' 49, us' 50, us' 51, us' 52, us' 53, us' 54, us' 55, us' 56, us' 57, us' 58, us' 59, us' 60, us' 61, us' 62, us' 63, us' 64, us' 65, us' 66, us' 67, us' 68, us' 69, us' 70, us' 71, us' 72, us' 73, us' 74, us' 75, us' 76, us' 77, us' 78, us' 79, us' 80, us' 81, us' 82, us' 83, us' 84, us' 85, us' 86, us' 87, us' 88, us' 89, us' 90, us' 91, us' 92, us' 93, us' 94, us' 95, us' 96, us' 97, us' 98, us' 99, us' 100, us' 101, us' 102, us' 103, us' 104, us' 105, us' 106, us' 107, us' 108, us' 109, us' 110, us' 111, us' 112, us' 113, us' 114, us' 115, us' 116, us' 117, us' 118, us' 119, us' 120, us' 121, us' 122, us' 123, us' 124, us' 125, us' 126] = _
      rw [t0, t1, t2, t3, t5, t10, t12, t13, t14, t15, t73]
    rw [el] at ha'
    subst ha'
    clear hus t0 t1 t2 t3 t5 t10 t12 t13 t14 t15 t73 el hf' hs' hd'
    have HTr7 := Lib.hid (HTr.out.keep hW)
    clear hW hG HTr
    have HTr := Lib.hid HTr7.out
    clear HTr7
    go_upto_region 11 with fail
    have hG : ∀ W W' : World, Below Wc.heap.size Wc W → Below W.heap.size W W' → Below Wc.heap.size Wc W' := fun W W' h h' => h.trans (h'.mono h.size)
    refine region_skip [(91, .is (.int .i64 n)), (92, .is (.int .u64 (i1 : Int))), (93, .is (.int .u64 (m1 : Int))), (94, .is (.int .u64 (m : Int))), (95, .is (.agg (bs h))), (96, .is (.agg (bs ro))), (97, .is (.slice pp p pc)), (98, .is (.bool true)), (99, .is (.bool true)), (100, .is (.agg (bs h))), (101, .is (.int .i64 n)), (102, .is (.slice pl m cl)), (103, .is (.int .u64 (i1 : Int))), (104, .is (.int .u64 (m1 : Int))), (105, .is (.slice pl m1 cl)), (106, .is (.agg (bs h))), (107, .is (.bool false)), (108, .is (.bool false))] [0, 1, 2, 5, 10, 12, 108] (fun W => Below Wc.heap.size Wc W) (by kernel_rfl) (by kernel_rfl) (by kernel_rfl) (by kernel_rfl) (by kernel_rfl) ((Below.refl _ _).drew) ?_ ?_
    · refine ⟨?c0, ?c1, ?c2, ?c3, ?c4, ?c5, ?c6, ?c7, ?c8, ?c9, ?c10, ?c11, ?c12, ?c13, ?c14, ?c15, ?c16, ?c17, trivial⟩
      case c0 => exact runs (ask_copy (guard_none rfl) (.tmp 0) (.inl rfl) (by intro k hk; cases hk; rfl))
      case c1 => exact runs (ask_copy (guard_none rfl) (.tmp 2) (.inl rfl) (by intro k hk; cases hk; rfl))
      case c2 => exact runs (ask_bin (guard_none rfl) .add _ _ (.tmp 92) (.const (.int .u64 1)) (.int .u64 (i1 : Int)) (.int .u64 1) (.int .u64 (m1 : Int)) rfl rfl rfl (by intro k hk; cases hk; rfl) (fun W => add_u64d _ _ _ HM1.out (by omega) _ _ _ W))
      case c3 => exact runs (ask_copy (guard_none rfl) (.tmp 14) (.inl rfl) (by intro k hk; cases hk; rfl))
      case c4 => exact runs (ask_load (guard_none rfl) _ (.tmp 10) (.pointer (some ⟨w.heap.size, 0, none⟩)) (.agg (bs h)) rfl rfl (by intro k hk; cases hk; rfl) (fun W hW => (HTr.out.1.keep hW).loads 24 _ Tryd.underlying24 rfl HSh.out))
      case c5 => exact runs (ask_load (guard_none rfl) _ (.tmp 15) (.pointer (some ⟨g, 0, none⟩)) (.agg (bs ro)) rfl rfl (by intro k hk; cases hk; rfl) (fun W hW => (HTr.out.2.2.1.keep hW).loads 24 _ Tryd.underlying24 rfl HSro.out))
      case c6 => exact runs (ask_copy (guard_none rfl) (.tmp 5) (.inl rfl) (by intro k hk; cases hk; rfl))
      case c7 => exact runs (ask_call hG (guard_none rfl) _ _ _ #[.int .i64 n, .int .u64 (m1 : Int), .int .u64 (m : Int), .agg (bs h), .agg (bs ro), .slice pp p pc] (.is (.bool true)) rfl (by kernel_rfl) rfl rfl (by intro k hk; cases hk; rfl) (fun W hW => (HChk2.out W (HTr.out.2.2.2.trans (hW.mono HTr.out.2.2.2.size))).mono fun e w' h => ⟨_, h.1, rfl, h.2⟩))
      case c8 => exact runs (ask_copy (guard_none rfl) (.tmp 98) (.inl rfl) (by intro k hk; cases hk; rfl))
      case c9 => exact runs (ask_load (guard_some rfl rfl rfl) _ (.tmp 10) (.pointer (some ⟨w.heap.size, 0, none⟩)) (.agg (bs h)) rfl rfl (by intro k hk; cases hk; rfl) (fun W hW => (HTr.out.1.keep hW).loads 24 _ Tryd.underlying24 rfl HSh.out))
      case c10 => exact runs (ask_copy (guard_some rfl rfl rfl) (.tmp 0) (.inl rfl) (by intro k hk; cases hk; rfl))
      case c11 => exact runs (ask_copy (guard_some rfl rfl rfl) (.tmp 13) (.inl rfl) (by intro k hk; cases hk; rfl))
      case c12 => exact runs (ask_copy (guard_some rfl rfl rfl) (.tmp 2) (.inl rfl) (by intro k hk; cases hk; rfl))
      case c13 => exact runs (ask_bin (guard_some rfl rfl rfl) .add _ _ (.tmp 103) (.const (.int .u64 1)) (.int .u64 (i1 : Int)) (.int .u64 1) (.int .u64 (m1 : Int)) rfl rfl rfl (by intro k hk; cases hk; rfl) (fun W => add_u64d _ _ _ HM1.out (by omega) _ _ _ W))
      case c14 => exact runs (ask_slice (guard_some rfl rfl rfl) _ (.tmp 102) none (some (.tmp 104)) none (.slice pl m cl) (.slice pl m1 cl) none (some (.int .u64 (m1 : Int))) none rfl rfl rfl rfl rfl (by intro k hk; cases hk; rfl) HSl.out)
      case c15 => exact runs (ask_call hG (guard_some rfl rfl rfl) _ _ _ #[.int .i64 n, .slice pl m1 cl] (.is (.agg (bs h))) rfl (by kernel_rfl) rfl rfl (by intro k hk; cases hk; rfl) (fun W hW => (HRm.out W (HTr.out.2.1.below (Nat.le_refl _) hW) (HTr.out.2.2.2.trans (hW.mono HTr.out.2.2.2.size))).mono fun e w' h => ⟨_, h.1, rfl, h.2⟩))
      case c16 => exact runs (ask_bin (guard_some rfl rfl rfl) .neq _ _ (.tmp 100) (.tmp 106) (.agg (bs h)) (.agg (bs h)) (.bool false) rfl rfl rfl (by intro k hk; cases hk; rfl) (HNq.out _ _))
      case c17 => exact runs (ask_pick (guard_none rfl) (.tmp 99) (.tmp 107) (.const (.bool false)) true rfl rfl (by intro k hk; cases hk; rfl))
    · intro a' Wd hW hd' hs' hf'
      have t0 : a'.tmps.getD 0 undef = .int .i64 n := hf' 0 rfl
      have t1 : a'.tmps.getD 1 undef = .slice (some pa) m cv := hf' 1 rfl
      have t2 : a'.tmps.getD 2 undef = .int .u64 (i1 : Int) := hf' 2 rfl
      have t5 : a'.tmps.getD 5 undef = .slice pp p pc := hf' 5 rfl
      have t10 : a'.tmps.getD 10 undef = .pointer (some ⟨w.heap.size, 0, none⟩) := hf' 10 rfl
      have t12 : a'.tmps.getD 12 undef = .bool false := hf' 12 rfl
      have t108 : a'.tmps.getD 108 undef = .bool false := hf' 108 rfl
      obtain ⟨vs', hus, ha'⟩ := act_open 127 a' hs' hd'
      rw [← hus] at t0 t1 t2 t5 t10 t12 t108
      have el : ((List.range 127).map vs').toArray = #[.int .i64 n, .slice (some pa) m cv, .int .u64 (i1 : Int), vs' 3, vs' 4, .slice pp p pc, vs' 6, vs' 7, vs' 8, vs' 9, .pointer (some ⟨w.heap.size, 0, none⟩), vs' 11, .bool false, vs' 13, vs' 14, vs' 15, vs' 16, vs' 17, vs' 18, vs' 19, vs' 20, vs' 21, vs' 22, vs' 23, vs' 24, vs' 25, vs' 26, vs' 27, vs' 28, vs' 29, vs' 30, vs' 31, vs' 32, vs' 33, vs' 34, vs' 35, vs' 36, vs' 37, vs' 38, vs' 39, vs' 40, vs' 41, vs' 42, vs' 43, vs' 44, vs' 45, vs' 46, vs' 47, vs' 48, vs' 49, vs' 50, vs' 51, vs' 52, vs' 53, vs' 54, vs' 55, vs' 56, vs' 57, vs' 58, vs' 59, vs' 60, vs' 61, vs' 62, vs' 63, vs' 64, vs' 65, vs' 66, vs' 67, vs' 68, vs' 69, vs' 70, vs' 71, vs' 72, vs' 73, vs' 74, vs' 75, vs' 76, vs' 77, vs' 78, vs' 79, vs' 80, vs' 81, vs' 82, vs' 83, vs' 84, vs' 85, vs' 86, vs' 87, vs' 88, vs' 89, vs' 90, vs' 91, vs' 92, vs' 93, vs' 94, vs' 95, vs' 96, vs' 97, vs' 98, vs' 99, vs' 100, vs' 101, vs' 102, vs' 103, vs' 104, vs' 105, vs' 106, vs' 107, .bool false, vs' 109, vs' 110, vs' 111, vs' 112, vs' 113, vs' 114, vs' 115, vs' 116, vs' 117, vs' 118, vs' 119, vs' 120, vs' 121, vs' 122, vs' 123, vs' 124, vs' 125, vs' 126] := by
        show #[vs' 0, vs' 1, vs' 2, vs' 3, vs' 4, vs' 5, vs' 6, vs' 7, vs' 8, vs' 9, vs' 10, vs' 11, vs' 12, vs' 13, vs' 14, vs' 15, vs' 16, vs' 17, vs' 18, vs' 19, vs' 20, vs' 21, vs' 22, vs' 23, vs' 24, vs' 25, vs' 26, vs' 27, vs' 28, vs' 29, vs' 30, vs' 31, vs' 32, vs' 33, vs' 34, vs' 35, vs' 36, vs' 37, vs' 38, vs' 39, vs' 40, vs' 41, vs' 42, vs' 43, vs' 44, vs' 45, vs' 46, vs' 47, vs' 48, vs' 49, vs' 50, vs' 51, vs' 52, vs' 53, vs' 54, vs' 55, vs' 56, vs' 57, vs' 58, vs' 59, vs' 60, vs' 61, vs' 62, vs' 63, vs' 64, vs' 65, vs' 66, vs' 67, vs' 68, vs' 69, vs' 70, vs' 71, vs' 72, vs' 73, vs' 74, vs' 75, vs' 76, vs' 77, vs' 78, vs' 79, vs' 80, vs' 81, vs' 82, vs' 83, vs' 84, vs' 85, vs' 86, vs' 87, vs' 88, vs' 89, vs' 90, vs' 91, vs' 92, vs' 93, vs' 94, vs' 95, vs' 96, vs' 97, vs' 98, vs' 99, vs' 100, vs' 101, vs' 102, vs' 103, vs' 104, vs' 105, vs' 106, vs' 107, vs' 108, vs' 109, vs' 110, vs' 111, vs' 112, vs' 113, vs' 114, vs' 115, vs' 116, vs' 117, vs' 118, vs' 119, vs' 120, vs' 121, vs' 122, vs' 123, vs' 124, vs' 125, vs' 126] = _
        rw [t0, t1, t2, t5, t10, t12, t108]
      rw [el] at ha'
      subst ha'
      clear hus t0 t1 t2 t5 t10 t12 t108 el hf' hs' hd'
      have HTrd := Lib.hid (HTr.out.keep hW)
      clear hW hG HTr
      go_wp2
      go_ret
      exact ⟨rfl, HTrd.out.2.2.2⟩

set_option maxHeartbeats 2000000 in
set_option maxRecDepth 100000 in
theorem clashTrust_F_TT (hp : ClashProg) (hq : LeafProg) (hd : DataProg) (hpc : CheckProg) (hgc : Check16Prog) (n : Int) (hn : I64 n) (T : List Bs) (v : Value) (i : Nat) (x : Bs) (ax : Option Addr) (cx : Nat) (hcx : x.length ≤ cx) (h : Hs) (hh : h.length = 32) (ps : List Hs) (vp : Value) (w : World) (hvT : Txs w v T) (hlT : T.length ≤ 5864062014976) (hvx : Bys w (.slice ax x.length cx) x) (hvp : Hss w vp ps) (ht : Tabs w) (hk : Consts w)
    (hf1 : fewS T ≤ 4000) (hx4 : x.length ≤ 4000) (hp8 : ps.length ≤ 80) (hT1 : 1 ≤ T.length) (i1 : Nat) (hi1 : i1 = i % T.length) (hb : decide ((climbR n (leafH n x) i1 T.length ps).2 = 0 ∧ (climbR n (leafH n x) i1 T.length ps).1 = rootT n T) = false) (hc : checkGR n h (i1 + 1) T.length (rootT n T) ps = true) (hhh : h ≠ rootT n (T.take (i1 + 1))) :
    Calls Tryd.prog 12 #[.int .i64 n, v, .int .u64 (i : Int), .slice ax x.length cx, .agg (bs h), vp] w fun e w' => e = .returned (.bool true) ∧ Below w.heap.size w w' := by
  have HAw := Lib.hid (fun (W : World) (hW : Below w.heap.size w W) => awake17_any hp W (ht.below (Nat.le_refl _) hW))
  have HF1 := Lib.hid (fun (W : World) (hW : Below w.heap.size w W) => few17_any T v W (hvT.below (Nat.le_refl _) hW) hlT)
  rw [decide_eq_true hf1] at HF1
  have hsT := fewS_shorts hf1
  have HSh := Lib.hid (size_hash (cs := bs h) (by rw [bs_size, hh]))
  obtain ⟨lx, hx⟩ : ∃ l, l = x.length := ⟨_, rfl⟩
  rw [← hx] at hvx hx4 hcx ⊢
  obtain ⟨pp, pc, rfl, _⟩ := hvp.form
  obtain ⟨p, hpp⟩ : ∃ p, p = ps.length := ⟨_, rfl⟩
  rw [← hpp] at hvp hp8 ⊢
  obtain ⟨pv, cv, rfl, hcv⟩ := hvT.form
  obtain ⟨m, hm⟩ : ∃ m, m = T.length := ⟨_, rfl⟩
  have hbT := hb
  have hcT := hc
  rw [← hm] at hvT hlT hcv HF1 hT1 hi1 hb hc ⊢
  have hm80 : m ≤ 80 := by rw [hm]; exact hsT.few
  have hi1m : i1 < m := by rw [hi1]; exact Nat.mod_lt _ (by omega)
  have hrem : (i : Int) % (m : Int) = (i1 : Int) := by rw [hi1]; simp
  have HRem := Lib.hid hrem
  have d1 : decide ((lx : Int) > 4000) = false := decide_eq_false (by omega)
  have d2 : decide ((p : Int) > 80) = false := decide_eq_false (by omega)
  have d3 : ((m : Int) == 0) = false := by simp; omega
  have hmw : IntKind.u64.wrap (m : Int) = (m : Int) := by rw [IntKind.wrap_u64]; omega
  obtain ⟨t, htt⟩ : ∃ t, T[i1]? = some t := ⟨T[i1]'(by omega), List.getElem?_eq_getElem _⟩
  obtain ⟨pa, at_, ct, rfl, htc, htb⟩ := hvT.at_ htt
  obtain ⟨lt, hlt⟩ : ∃ l, l = t.length := ⟨_, rfl⟩
  rw [← hlt] at htc htb
  have HTt := Lib.hid (fun (W : World) (hW : Below w.heap.size w W) => (⟨by rw [hW.cell (World.block_lt_of_cell? w _ htc)]; exact htc, htb.below (Nat.le_refl _) hW⟩ : W.cell? (pa.add i1) = some (.slice at_ lt ct) ∧ Bys W (.slice at_ lt ct) t))
  have HIx := Lib.hid (fun W => txs_indexU W pa m cv i1 hi1m)
  have HX := Lib.hid hvx
  obtain ⟨X, Y, hX, hY, hXY⟩ := strs_of x t
  have HXs := Lib.hid hX
  have HYs := Lib.hid hY
  obtain ⟨L, hL⟩ : ∃ L, L = T.map (leafH n) := ⟨_, rfl⟩
  have hLl : L.length = m := by rw [hL, List.length_map, hm]
  obtain ⟨ro, hro, hro32⟩ : ∃ r, r = rootT n T ∧ r.length = 32 := ⟨_, rfl, rootT_length _ _⟩
  obtain ⟨hxv, hhx, hhx32⟩ : ∃ r, r = leafH n x ∧ r.length = 32 := ⟨_, rfl, leafH_length _ _⟩
  obtain ⟨m1, hm1⟩ : ∃ m1, m1 = i1 + 1 := ⟨_, rfl⟩
  have HM1 := Lib.hid (show (i1 : Int) + 1 = (m1 : Int) by omega)
  have hm1m : m1 ≤ m := by omega
  have HSro := Lib.hid (size_hash (cs := bs ro) (by rw [bs_size, hro32]))
  have Hro32 := Lib.hid hro32
  have HLeaves := Lib.hid (fun (W : World) (hW : Below w.heap.size w W) => refleaves_any n hn T (.slice (some pa) m cv) W (hvT.below (Nat.le_refl _) hW) hsT (hk.below (Nat.le_refl _) hW))
  rw [← hL] at HLeaves
  have HRoot := Lib.hid (fun (W : World) (u : Value) (hW : Below w.heap.size w W) (hu : Hss W u L) => hq.root n L u W hn hu (by omega) (ht.below (Nat.le_refl _) hW))
  rw [show rootH n L = ro by rw [hL, hro]; rfl] at HRoot
  have HLeaf := Lib.hid (fun (W : World) (hW : Below w.heap.size w W) => hd.leaf n x (.slice ax lx cx) W hn (hvx.below (Nat.le_refl _) hW) ⟨_, _, _, rfl, hcx⟩ (by omega) (ht.below (Nat.le_refl _) hW))
  rw [← hhx] at HLeaf
  have HChk := Lib.hid (fun (W : World) (hW : Below w.heap.size w W) => hpc n hxv i1 m ps (.slice pp p pc) ro W hn hhx32 hro32 (by omega) (by omega) (hvp.below (Nat.le_refl _) hW) (by omega) (ht.below (Nat.le_refl _) hW))
  rw [← hhx, ← hro] at hb
  rw [hb] at HChk
  have HChk2 := Lib.hid (fun (W : World) (hW : Below w.heap.size w W) => hgc n h m1 m ro ps (.slice pp p pc) W hn hh hro32 (by omega) (by omega) (hvp.below (Nat.le_refl _) hW) (by omega) (ht.below (Nat.le_refl _) hW))
  rw [← hm1, ← hro] at hc
  rw [hc] at HChk2
  have HN := Lib.hid hn
  have HK := Lib.hid hk
  obtain ⟨rm, hrm, hrm32⟩ : ∃ r, r = rootT n (T.take m1) ∧ r.length = 32 := ⟨_, rfl, rootT_length _ _⟩
  have HRm := Lib.hid (fun (pl : Option Addr) (cl : Nat) (W : World) (hu : Hss W (.slice pl m cl) L) (hW : Below w.heap.size w W) => by
    have h1 : Hss W (.slice pl m1 cl) (L.take m1) := by
      have := hu.sub 0 m1 (by omega) hm1m
      rw [sliced_zero2] at this
      simpa using this
    have h2 := hq.root n (L.take m1) (.slice pl m1 cl) W hn h1 (by rw [List.length_take]; omega) (ht.below (Nat.le_refl _) hW)
    rwa [show rootH n (L.take m1) = rm by rw [hrm, hL, ← List.map_take]; rfl] at h2)
  have HNq := Lib.hid (fun s t W => neq_hash_ne s t h rm hh hrm32 (by rw [hrm, hm1]; exact hhh) W)
  obtain ⟨k0, k1, k2⟩ := checkGR_true (by omega) (by omega) hcT
  obtain ⟨e0, e1⟩ := growC_found hh hvp.all k0 k1 k2 hhh
  have hlen := growC_len n (m := i1 + 1) (h := h) (p := ps) hsT hh hvp.all
  rw [← hm1] at e0 e1 hlen
  have HGr := Lib.hid (fun (W : World) (hW : Below w.heap.size w W) => hp.growth n T m1 h ps (.slice (some pa) m cv) (.slice pp p pc) W hn (hvT.below (Nat.le_refl _) hW) hsT (by omega) hh (hvp.below (Nat.le_refl _) hW) (by omega) (ht.below (Nat.le_refl _) hW))
  rw [e0] at HGr
  rw [show ((0 : Nat) : Int) = 0 from rfl] at HGr
  obtain ⟨PHGr, hPHGr⟩ : ∃ P, P = (growC n T m1 h ps).1 := ⟨_, rfl⟩
  rw [← hPHGr] at HGr e1 hlen
  have HClHGr := Lib.hid e1
  have HLHGr := Lib.hid hlen
  clear k0 k1 k2 e0 e1 hlen hPHGr
  clear hp hq hd hpc hgc hn hvT hlT hvx hvp ht hk hf1 hsT hbT hcT hb hc hi1 hrem htt htc htb hlt hX hY hXY hL hro hro32 hhx hhx32 hm1 hx hpp hm hh hrm hrm32 hhh
  go_enter Tryd.func12, Tryd.ntmps12
  go_upto_region 1 with fail
  refine world_cut (fun W => Blk W w.heap.size 24 (bs h) ∧ Below w.heap.size w W) ⟨Blk.new w _ _, (Below.refl _ _).alloc (Nat.le_refl _) _⟩ ?_
  rintro W0 ⟨hbx, hb0⟩
  have HBx0 := Lib.hid hbx
  have HB0 := Lib.hid hb0
  clear hbx hb0
  go_wp2_with fail
  refine (HAw.out _ HB0.out).mono ?_
  rintro e W1 ⟨rfl, hb1⟩
  have HB1 := Lib.hid (HB0.out.trans (hb1.mono HB0.out.size))
  have HBx1 := Lib.hid (HBx0.out.keep hb1)
  clear hb1 HB0 HBx0
  go_wp2_with fail
  refine (HF1.out _ HB1.out).mono ?_
  rintro e w2 ⟨rfl, rfl⟩
  clear HF1
  go_wp2_with fail
  refine (HLeaves.out _ HB1.out).mono ?_
  rintro e W2 ⟨u, rfl, ho2, hb2⟩
  have hu2 := ho2.hss
  obtain ⟨pl, cl, rfl, hlc⟩ := hu2.form
  rw [hLl] at hu2 hlc ⊢
  have HU2 := Lib.hid hu2
  have HBx2 := Lib.hid (HBx1.out.keep hb2)
  have HB2 := Lib.hid (HB1.out.trans (hb2.mono HB1.out.size))
  clear ho2 hu2 hb2 HLeaves HBx1 HB1
  go_wp2_with fail
  refine (HRoot.out _ _ HB2.out HU2.out).mono ?_
  rintro e W3 ⟨rfl, hb3⟩
  have HU3 := Lib.hid (HU2.out.below (Nat.le_refl _) hb3)
  have HBx3 := Lib.hid (HBx2.out.keep hb3)
  have HB3 := Lib.hid (HB2.out.trans (hb3.mono HB2.out.size))
  clear hb3 HRoot HU2 HBx2 HB2
  go_upto_region 6 with (refine wpList_store_row rfl 24 (.tmp 15) (.tmp 51) rfl W3.heap.size (bs ro) rfl rfl 24 _ (Blk.new W3 _ _) HSro.out (by simp [bs_size, Hro32.out]) (bs_one _) ?_)
  obtain ⟨g, hg⟩ : ∃ g, g = W3.heap.size := ⟨_, rfl⟩
  refine world_cut (fun W => TrW w h (.slice pl m cl) L g ro W) ⟨HBx3.out.keep (below_new W3 _ _ _), HU3.out.below (Nat.le_refl _) (below_new W3 _ _ _), by rw [hg]; exact Blk.row (Blk.new W3 _ _) _, HB3.out.trans ((below_new W3 _ _ _).mono HB3.out.size)⟩ ?_
  rw [← hg]
  clear hg HU3 HBx3 HB3
  intro W4 hW4
  have HTr := Lib.hid hW4
  clear hW4
  go_upto_region 7 with fail
  rw [HRem.out]
  have HSl := Lib.hid (fun (W : World) => slice_hs_toV pl m cl m1 (by omega) W)
  have HRm2 := Lib.hid (fun (W : World) => HRm.out pl cl W)
  clear HRm
  have HRm := HRm2
  clear HRm2
  have hG : ∀ W W' : World, Below W4.heap.size W4 W → Below W.heap.size W W' → Below W4.heap.size W4 W' := fun W W' h h' => h.trans (h'.mono h.size)
  refine region_skip [(55, .is (.int .i64 n)), (56, .is (.int .i64 n)), (57, .is (.slice ax lx cx)), (58, .is (.agg (bs hxv))), (59, .is (.int .u64 (i1 : Int))), (60, .is (.int .u64 (m : Int))), (61, .is (.slice pp p pc)), (62, .is (.agg (bs ro))), (63, .is (.bool false)), (64, .is (.bool false)), (65, .is undef), (66, .is undef), (67, .is undef), (68, .is undef), (69, .is undef), (70, .is undef), (71, .is undef), (72, .is undef), (73, .is (.bool false))] [0, 1, 2, 3, 5, 10, 12, 13, 14, 15, 73] (fun W => Below W4.heap.size W4 W) (by kernel_rfl) (by kernel_rfl) (by kernel_rfl) (by kernel_rfl) (by kernel_rfl) ((Below.refl _ _).drew) ?_ ?_
  · refine ⟨?c0, ?c1, ?c2, ?c3, ?c4, ?c5, ?c6, ?c7, ?c8, ?c9, ?c10, ?c11, ?c12, ?c13, ?c14, ?c15, ?c16, ?c17, ?c18, trivial⟩
    case c0 => exact runs (ask_copy (guard_none rfl) (.tmp 0) (.inl rfl) (by intro k hk; cases hk; rfl))
    case c1 => exact runs (ask_copy (guard_none rfl) (.tmp 0) (.inl rfl) (by intro k hk; cases hk; rfl))
    case c2 => exact runs (ask_copy (guard_none rfl) (.tmp 3) (.inl rfl) (by intro k hk; cases hk; rfl))
    case c3 => exact runs (ask_call hG (guard_none rfl) _ _ _ #[.int .i64 n, .slice ax lx cx] (.is (.agg (bs hxv))) rfl (by kernel_rfl) rfl rfl (by intro k hk; cases hk; rfl) (fun W hW => (HLeaf.out W (HTr.out.2.2.2.trans (hW.mono HTr.out.2.2.2.size))).mono fun e w' h => ⟨_, h.1, rfl, h.2⟩))
    case c4 => exact runs (ask_copy (guard_none rfl) (.tmp 2) (.inl rfl) (by intro k hk; cases hk; rfl))
    case c5 => exact runs (ask_copy (guard_none rfl) (.tmp 14) (.inl rfl) (by intro k hk; cases hk; rfl))
    case c6 => exact runs (ask_copy (guard_none rfl) (.tmp 5) (.inl rfl) (by intro k hk; cases hk; rfl))
    case c7 => exact runs (ask_load (guard_none rfl) _ (.tmp 15) (.pointer (some ⟨g, 0, none⟩)) (.agg (bs ro)) rfl rfl (by intro k hk; cases hk; rfl) (fun W hW => (HTr.out.2.2.1.keep hW).loads 24 _ Tryd.underlying24 rfl HSro.out))
    case c8 => exact runs (ask_call hG (guard_none rfl) _ _ _ #[.int .i64 n, .agg (bs hxv), .int .u64 (i1 : Int), .int .u64 (m : Int), .slice pp p pc, .agg (bs ro)] (.is (.bool false)) rfl (by kernel_rfl) rfl rfl (by intro k hk; cases hk; rfl) (fun W hW => (HChk.out W (HTr.out.2.2.2.trans (hW.mono HTr.out.2.2.2.size))).mono fun e w' h => ⟨_, h.1, rfl, h.2⟩))
    case c9 => exact runs (ask_copy (guard_none rfl) (.tmp 63) (.inl rfl) (by intro k hk; cases hk; rfl))
    case c10 => exact skips 9 true 64 (.bool false) rfl rfl rfl (by simp) (by intro k hk; cases hk; rfl)
    case c11 => exact skips 9 true 64 (.bool false) rfl rfl rfl (by simp) (by intro k hk; cases hk; rfl)
    case c12 => exact skips 9 true 64 (.bool false) rfl rfl rfl (by simp) (by intro k hk; cases hk; rfl)
    case c13 => exact skips 9 true 64 (.bool false) rfl rfl rfl (by simp) (by intro k hk; cases hk; rfl)
    case c14 => exact skips 9 true 64 (.bool false) rfl rfl rfl (by simp) (by intro k hk; cases hk; rfl)
    case c15 => exact skips 9 true 64 (.bool false) rfl rfl rfl (by simp) (by intro k hk; cases hk; rfl)
    case c16 => exact skips 9 true 64 (.bool false) rfl rfl rfl (by simp) (by intro k hk; cases hk; rfl)
    case c17 => exact skips 9 true 64 (.bool false) rfl rfl rfl (by simp) (by intro k hk; cases hk; rfl)
    case c18 => exact runs (ask_pick (guard_none rfl) (.tmp 64) (.tmp 72) (.const (.bool false)) false rfl rfl (by intro k hk; cases hk; rfl))
  · intro a' Wc hW hd' hs' hf'
    have t0 : a'.tmps.getD 0 undef = .int .i64 n := hf' 0 rfl
    have t1 : a'.tmps.getD 1 undef = .slice (some pa) m cv := hf' 1 rfl
    have t2 : a'.tmps.getD 2 undef = .int .u64 (i1 : Int) := hf' 2 rfl
    have t3 : a'.tmps.getD 3 undef = .slice ax lx cx := hf' 3 rfl
    have t5 : a'.tmps.getD 5 undef = .slice pp p pc := hf' 5 rfl
    have t10 : a'.tmps.getD 10 undef = .pointer (some ⟨w.heap.size, 0, none⟩) := hf' 10 rfl
    have t12 : a'.tmps.getD 12 undef = .bool false := hf' 12 rfl
    have t13 : a'.tmps.getD 13 undef = .slice pl m cl := hf' 13 rfl
    have t14 : a'.tmps.getD 14 undef = .int .u64 (m : Int) := hf' 14 rfl
    have t15 : a'.tmps.getD 15 undef = .pointer (some ⟨g, 0, none⟩) := hf' 15 rfl
    have t73 : a'.tmps.getD 73 undef = .bool false := hf' 73 rfl
    obtain ⟨us', hus, ha'⟩ := act_open 127 a' hs' hd'
    rw [← hus] at t0 t1 t2 t3 t5 t10 t12 t13 t14 t15 t73
    have el : ((List.range 127).map us').toArray = #[.int .i64 n, .slice (some pa) m cv, .int .u64 (i1 : Int), .slice ax lx cx, us' 4, .slice pp p pc, us' 6, us' 7, us' 8, us' 9, .pointer (some ⟨w.heap.size, 0, none⟩), us' 11, .bool false, .slice pl m cl, .int .u64 (m : Int), .pointer (some ⟨g, 0, none⟩), us' 16, us' 17, us' 18, us' 19, us' 20, us' 21, us' 22, us' 23, us' 24, us' 25, us' 26, us' 27, us' 28, us' 29, us' 30, us' 31, us' 32, us' 33, us' 34, us' 35, us' 36, us' 37, us' 38, us' 39, us' 40, us' 41, us' 42, us' 43, us' 44, us' 45, us' 46, us' 47, us' 48, us' 49, us' 50, us' 51, us' 52, us' 53, us' 54, us' 55, us' 56, us' 57, us' 58, us' 59, us' 60, us' 61, us' 62, us' 63, us' 64, us' 65, us' 66, us' 67, us' 68, us' 69, us' 70, us' 71, us' 72, .bool false, us' 74, us' 75, us' 76, us' 77, us' 78, us' 79, us' 80, us' 81, us' 82, us' 83, us' 84, us' 85, us' 86, us' 87, us' 88, us' 89, us' 90, us' 91, us' 92, us' 93, us' 94, us' 95, us' 96, us' 97, us' 98, us' 99, us' 100, us' 101, us' 102, us' 103, us' 104, us' 105, us' 106, us' 107, us' 108, us' 109, us' 110, us' 111, us' 112, us' 113, us' 114, us' 115, us' 116, us' 117, us' 118, us' 119, us' 120, us' 121, us' 122, us' 123, us' 124, us' 125, us' 126] := by
      show #[us' 0, us' 1, us' 2, us' 3, us' 4, us' 5, us' 6, us' 7, us' 8, us' 9, us' 10, us' 11, us' 12, us' 13, us' 14, us' 15, us' 16, us' 17, us' 18, us' 19, us' 20, us' 21, us' 22, us' 23, us' 24, us' 25, us' 26, us' 27, us' 28, us' 29, us' 30, us' 31, us' 32, us' 33, us' 34, us' 35, us' 36, us' 37, us' 38, us' 39, us' 40, us' 41, us' 42, us' 43, us' 44, us' 45, us' 46, us' 47, us' 48, us' 49, us' 50, us' 51, us' 52, us' 53, us' 54, us' 55, us' 56, us' 57, us' 58, us' 59, us' 60, us' 61, us' 62, us' 63, us' 64, us' 65, us' 66, us' 67, us' 68, us' 69, us' 70, us' 71, us' 72, us' 73, us' 74, us' 75, us' 76, us' 77, us' 78, us' 79, us' 80, us' 81, us' 82, us' 83, us' 84, us' 85, us' 86, us' 87, us' 88, us' 89, us' 90, us' 91, us' 92, us' 93, us' 94, us' 95, us' 96, us' 97, us' 98, us' 99, us' 100, us' 101, us' 102, us' 103, us' 104, us' 105, us' 106, us' 107, us' 108, us' 109, us' 110, us' 111, us' 112, us' 113, us' 114, us' 115, us' 116, us' 117, us' 118, us' 119, us' 120, us' 121, us' 122, us' 123, us' 124, us' 125, us' 126] = _
      rw [t0, t1, t2, t3, t5, t10, t12, t13, t14, t15, t73]
    rw [el] at ha'
    subst ha'
    clear hus t0 t1 t2 t3 t5 t10 t12 t13 t14 t15 t73 el hf' hs' hd'
    have HTr7 := Lib.hid (HTr.out.keep hW)
    clear hW hG HTr
    have HTr := Lib.hid HTr7.out
    clear HTr7
    go_upto_region 11 with fail
    have hG : ∀ W W' : World, Below Wc.heap.size Wc W → Below W.heap.size W W' → Below Wc.heap.size Wc W' := fun W W' h h' => h.trans (h'.mono h.size)
    refine region_skip [(91, .is (.int .i64 n)), (92, .is (.int .u64 (i1 : Int))), (93, .is (.int .u64 (m1 : Int))), (94, .is (.int .u64 (m : Int))), (95, .is (.agg (bs h))), (96, .is (.agg (bs ro))), (97, .is (.slice pp p pc)), (98, .is (.bool true)), (99, .is (.bool true)), (100, .is (.agg (bs h))), (101, .is (.int .i64 n)), (102, .is (.slice pl m cl)), (103, .is (.int .u64 (i1 : Int))), (104, .is (.int .u64 (m1 : Int))), (105, .is (.slice pl m1 cl)), (106, .is (.agg (bs rm))), (107, .is (.bool true)), (108, .is (.bool true))] [0, 1, 2, 5, 10, 12, 108] (fun W => Below Wc.heap.size Wc W) (by kernel_rfl) (by kernel_rfl) (by kernel_rfl) (by kernel_rfl) (by kernel_rfl) ((Below.refl _ _).drew) ?_ ?_
    · refine ⟨?c0, ?c1, ?c2, ?c3, ?c4, ?c5, ?c6, ?c7, ?c8, ?c9, ?c10, ?c11, ?c12, ?c13, ?c14, ?c15, ?c16, ?c17, trivial⟩
      case c0 => exact runs (ask_copy (guard_none rfl) (.tmp 0) (.inl rfl) (by intro k hk; cases hk; rfl))
      case c1 => exact runs (ask_copy (guard_none rfl) (.tmp 2) (.inl rfl) (by intro k hk; cases hk; rfl))
      case c2 => exact runs (ask_bin (guard_none rfl) .add _ _ (.tmp 92) (.const (.int .u64 1)) (.int .u64 (i1 : Int)) (.int .u64 1) (.int .u64 (m1 : Int)) rfl rfl rfl (by intro k hk; cases hk; rfl) (fun W => add_u64d _ _ _ HM1.out (by omega) _ _ _ W))
      case c3 => exact runs (ask_copy (guard_none rfl) (.tmp 14) (.inl rfl) (by intro k hk; cases hk; rfl))
      case c4 => exact runs (ask_load (guard_none rfl) _ (.tmp 10) (.pointer (some ⟨w.heap.size, 0, none⟩)) (.agg (bs h)) rfl rfl (by intro k hk; cases hk; rfl) (fun W hW => (HTr.out.1.keep hW).loads 24 _ Tryd.underlying24 rfl HSh.out))
      case c5 => exact runs (ask_load (guard_none rfl) _ (.tmp 15) (.pointer (some ⟨g, 0, none⟩)) (.agg (bs ro)) rfl rfl (by intro k hk; cases hk; rfl) (fun W hW => (HTr.out.2.2.1.keep hW).loads 24 _ Tryd.underlying24 rfl HSro.out))
      case c6 => exact runs (ask_copy (guard_none rfl) (.tmp 5) (.inl rfl) (by intro k hk; cases hk; rfl))
      case c7 => exact runs (ask_call hG (guard_none rfl) _ _ _ #[.int .i64 n, .int .u64 (m1 : Int), .int .u64 (m : Int), .agg (bs h), .agg (bs ro), .slice pp p pc] (.is (.bool true)) rfl (by kernel_rfl) rfl rfl (by intro k hk; cases hk; rfl) (fun W hW => (HChk2.out W (HTr.out.2.2.2.trans (hW.mono HTr.out.2.2.2.size))).mono fun e w' h => ⟨_, h.1, rfl, h.2⟩))
      case c8 => exact runs (ask_copy (guard_none rfl) (.tmp 98) (.inl rfl) (by intro k hk; cases hk; rfl))
      case c9 => exact runs (ask_load (guard_some rfl rfl rfl) _ (.tmp 10) (.pointer (some ⟨w.heap.size, 0, none⟩)) (.agg (bs h)) rfl rfl (by intro k hk; cases hk; rfl) (fun W hW => (HTr.out.1.keep hW).loads 24 _ Tryd.underlying24 rfl HSh.out))
      case c10 => exact runs (ask_copy (guard_some rfl rfl rfl) (.tmp 0) (.inl rfl) (by intro k hk; cases hk; rfl))
      case c11 => exact runs (ask_copy (guard_some rfl rfl rfl) (.tmp 13) (.inl rfl) (by intro k hk; cases hk; rfl))
      case c12 => exact runs (ask_copy (guard_some rfl rfl rfl) (.tmp 2) (.inl rfl) (by intro k hk; cases hk; rfl))
      case c13 => exact runs (ask_bin (guard_some rfl rfl rfl) .add _ _ (.tmp 103) (.const (.int .u64 1)) (.int .u64 (i1 : Int)) (.int .u64 1) (.int .u64 (m1 : Int)) rfl rfl rfl (by intro k hk; cases hk; rfl) (fun W => add_u64d _ _ _ HM1.out (by omega) _ _ _ W))
      case c14 => exact runs (ask_slice (guard_some rfl rfl rfl) _ (.tmp 102) none (some (.tmp 104)) none (.slice pl m cl) (.slice pl m1 cl) none (some (.int .u64 (m1 : Int))) none rfl rfl rfl rfl rfl (by intro k hk; cases hk; rfl) HSl.out)
      case c15 => exact runs (ask_call hG (guard_some rfl rfl rfl) _ _ _ #[.int .i64 n, .slice pl m1 cl] (.is (.agg (bs rm))) rfl (by kernel_rfl) rfl rfl (by intro k hk; cases hk; rfl) (fun W hW => (HRm.out W (HTr.out.2.1.below (Nat.le_refl _) hW) (HTr.out.2.2.2.trans (hW.mono HTr.out.2.2.2.size))).mono fun e w' h => ⟨_, h.1, rfl, h.2⟩))
      case c16 => exact runs (ask_bin (guard_some rfl rfl rfl) .neq _ _ (.tmp 100) (.tmp 106) (.agg (bs h)) (.agg (bs rm)) (.bool true) rfl rfl rfl (by intro k hk; cases hk; rfl) (HNq.out _ _))
      case c17 => exact runs (ask_pick (guard_none rfl) (.tmp 99) (.tmp 107) (.const (.bool false)) true rfl rfl (by intro k hk; cases hk; rfl))
    · intro a' Wd hW hd' hs' hf'
      have t0 : a'.tmps.getD 0 undef = .int .i64 n := hf' 0 rfl
      have t1 : a'.tmps.getD 1 undef = .slice (some pa) m cv := hf' 1 rfl
      have t2 : a'.tmps.getD 2 undef = .int .u64 (i1 : Int) := hf' 2 rfl
      have t5 : a'.tmps.getD 5 undef = .slice pp p pc := hf' 5 rfl
      have t10 : a'.tmps.getD 10 undef = .pointer (some ⟨w.heap.size, 0, none⟩) := hf' 10 rfl
      have t12 : a'.tmps.getD 12 undef = .bool false := hf' 12 rfl
      have t108 : a'.tmps.getD 108 undef = .bool true := hf' 108 rfl
      obtain ⟨vs', hus, ha'⟩ := act_open 127 a' hs' hd'
      rw [← hus] at t0 t1 t2 t5 t10 t12 t108
      have el : ((List.range 127).map vs').toArray = #[.int .i64 n, .slice (some pa) m cv, .int .u64 (i1 : Int), vs' 3, vs' 4, .slice pp p pc, vs' 6, vs' 7, vs' 8, vs' 9, .pointer (some ⟨w.heap.size, 0, none⟩), vs' 11, .bool false, vs' 13, vs' 14, vs' 15, vs' 16, vs' 17, vs' 18, vs' 19, vs' 20, vs' 21, vs' 22, vs' 23, vs' 24, vs' 25, vs' 26, vs' 27, vs' 28, vs' 29, vs' 30, vs' 31, vs' 32, vs' 33, vs' 34, vs' 35, vs' 36, vs' 37, vs' 38, vs' 39, vs' 40, vs' 41, vs' 42, vs' 43, vs' 44, vs' 45, vs' 46, vs' 47, vs' 48, vs' 49, vs' 50, vs' 51, vs' 52, vs' 53, vs' 54, vs' 55, vs' 56, vs' 57, vs' 58, vs' 59, vs' 60, vs' 61, vs' 62, vs' 63, vs' 64, vs' 65, vs' 66, vs' 67, vs' 68, vs' 69, vs' 70, vs' 71, vs' 72, vs' 73, vs' 74, vs' 75, vs' 76, vs' 77, vs' 78, vs' 79, vs' 80, vs' 81, vs' 82, vs' 83, vs' 84, vs' 85, vs' 86, vs' 87, vs' 88, vs' 89, vs' 90, vs' 91, vs' 92, vs' 93, vs' 94, vs' 95, vs' 96, vs' 97, vs' 98, vs' 99, vs' 100, vs' 101, vs' 102, vs' 103, vs' 104, vs' 105, vs' 106, vs' 107, .bool true, vs' 109, vs' 110, vs' 111, vs' 112, vs' 113, vs' 114, vs' 115, vs' 116, vs' 117, vs' 118, vs' 119, vs' 120, vs' 121, vs' 122, vs' 123, vs' 124, vs' 125, vs' 126] := by
        show #[vs' 0, vs' 1, vs' 2, vs' 3, vs' 4, vs' 5, vs' 6, vs' 7, vs' 8, vs' 9, vs' 10, vs' 11, vs' 12, vs' 13, vs' 14, vs' 15, vs' 16, vs' 17, vs' 18, vs' 19, vs' 20, vs' 21, vs' 22, vs' 23, vs' 24, vs' 25, vs' 26, vs' 27, vs' 28, vs' 29, vs' 30, vs' 31, vs' 32, vs' 33, vs' 34, vs' 35, vs' 36, vs' 37, vs' 38, vs' 39, vs' 40, vs' 41, vs' 42, vs' 43, vs' 44, vs' 45, vs' 46, vs' 47, vs' 48, vs' 49, vs' 50, vs' 51, vs' 52, vs' 53, vs' 54, vs' 55, vs' 56, vs' 57, vs' 58, vs' 59, vs' 60, vs' 61, vs' 62, vs' 63, vs' 64, vs' 65, vs' 66, vs' 67, vs' 68, vs' 69, vs' 70, vs' 71, vs' 72, vs' 73, vs' 74, vs' 75, vs' 76, vs' 77, vs' 78, vs' 79, vs' 80, vs' 81, vs' 82, vs' 83, vs' 84, vs' 85, vs' 86, vs' 87, vs' 88, vs' 89, vs' 90, vs' 91, vs' 92, vs' 93, vs' 94, vs' 95, vs' 96, vs' 97, vs' 98, vs' 99, vs' 100, vs' 101, vs' 102, vs' 103, vs' 104, vs' 105, vs' 106, vs' 107, vs' 108, vs' 109, vs' 110, vs' 111, vs' 112, vs' 113, vs' 114, vs' 115, vs' 116, vs' 117, vs' 118, vs' 119, vs' 120, vs' 121, vs' 122, vs' 123, vs' 124, vs' 125, vs' 126] = _
        rw [t0, t1, t2, t5, t10, t12, t108]
      rw [el] at ha'
      subst ha'
      clear hus t0 t1 t2 t5 t10 t12 t108 el hf' hs' hd'
      have HTrd := Lib.hid (HTr.out.keep hW)
      clear hW hG HTr
      have HTr := Lib.hid HTrd.out
      clear HTrd
      have hm1 := HM1.out
      go_wp2_with (refine wpList_load_row rfl 24 (.tmp 10) rfl w.heap.size rfl 24 (bs h) (0, 0) _ HTr.out.1 Tryd.underlying24 rfl HSh.out ?_)
      refine (HGr.out _ HTr.out.2.2.2).mono ?_
      rintro e V2 ⟨u, rfl, hp2, hb2⟩
      obtain ⟨a1, c1, a2, c2, rfl, hy1, hy2⟩ := hp2
      have HTr2 := Lib.hid (HTr.out.keep hb2)
      have HY1 := Lib.hid hy1
      have HY2 := Lib.hid hy2
      clear hy1 hy2 hb2 HTr
      go_upto_region 13 with (refine wpList_store_row rfl 51 (.tmp 18) (.tmp 117) rfl V2.heap.size (prC a1 PHGr.1.length c1 a2 PHGr.2.length c2) rfl rfl 51 _ (Blk.new V2 _ _) (size_pair _ _ _ _ _ _) rfl (pair_one _ _ _ _ _ _) ?_)
      refine world_cut (fun W => TrW w h (.slice pl m cl) L g ro W ∧ Blk W V2.heap.size 51 (prC a1 PHGr.1.length c1 a2 PHGr.2.length c2) ∧ PairB W (.agg (prC a1 PHGr.1.length c1 a2 PHGr.2.length c2)) PHGr) ⟨HTr2.out.keep (below_new V2 _ _ _), Blk.row (Blk.new V2 _ _) _, ⟨a1, c1, a2, c2, rfl, HY1.out.below (Nat.le_refl _) (below_new V2 _ _ _), HY2.out.below (Nat.le_refl _) (below_new V2 _ _ _)⟩⟩ ?_
      obtain ⟨gp, hgp⟩ : ∃ g, g = V2.heap.size := ⟨_, rfl⟩
      rw [← hgp]
      clear HTr2 HY1 HY2 hgp
      rintro V3 ⟨htr, hk, hq⟩
      have HTr3 := Lib.hid htr
      have HKp := Lib.hid hk
      have HS := Lib.hid (refclash_any n HN.out _ PHGr V3 hq HLHGr.out.1 HLHGr.out.2 (HK.out.below (Nat.le_refl _) HTr3.out.2.2.2))
      rw [HClHGr.out] at HS
      clear htr hk hq
      go_wp2_with (refine wpList_load_guarded rfl 51 (.tmp 18) rfl _ (.agg (prC a1 PHGr.1.length c1 a2 PHGr.2.length c2)) rfl (HKp.out.loads 51 _ Tryd.underlying51 rfl (size_pair _ _ _ _ _ _)) ?_)
      refine HS.out.mono ?_
      rintro e We ⟨rfl, hb7⟩
      have HTr := Lib.hid (HTr3.out.keep hb7)
      clear hb7 HS HTr3 HKp
      go_wp2
      go_ret
      exact ⟨rfl, HTr.out.2.2.2⟩

set_option maxHeartbeats 2000000 in
set_option maxRecDepth 100000 in
theorem clashTrust_TF_F (hp : ClashProg) (hq : LeafProg) (hd : DataProg) (hpc : CheckProg) (hgc : Check16Prog) (n : Int) (hn : I64 n) (T : List Bs) (v : Value) (i : Nat) (x : Bs) (ax : Option Addr) (cx : Nat) (hcx : x.length ≤ cx) (h : Hs) (hh : h.length = 32) (ps : List Hs) (vp : Value) (w : World) (hvT : Txs w v T) (hlT : T.length ≤ 5864062014976) (hvx : Bys w (.slice ax x.length cx) x) (hvp : Hss w vp ps) (ht : Tabs w) (hk : Consts w)
    (hf1 : fewS T ≤ 4000) (hx4 : x.length ≤ 4000) (hp8 : ps.length ≤ 80) (hT1 : 1 ≤ T.length) (i1 : Nat) (hi1 : i1 = i % T.length) (hb : decide ((climbR n (leafH n x) i1 T.length ps).2 = 0 ∧ (climbR n (leafH n x) i1 T.length ps).1 = rootT n T) = true) (hxx : T[i1]? = some x) (hc : checkGR n h (i1 + 1) T.length (rootT n T) ps = false) :
    Calls Tryd.prog 12 #[.int .i64 n, v, .int .u64 (i : Int), .slice ax x.length cx, .agg (bs h), vp] w fun e w' => e = .returned (.bool true) ∧ Below w.heap.size w w' := by
  have HAw := Lib.hid (fun (W : World) (hW : Below w.heap.size w W) => awake17_any hp W (ht.below (Nat.le_refl _) hW))
  have HF1 := Lib.hid (fun (W : World) (hW : Below w.heap.size w W) => few17_any T v W (hvT.below (Nat.le_refl _) hW) hlT)
  rw [decide_eq_true hf1] at HF1
  have hsT := fewS_shorts hf1
  have HSh := Lib.hid (size_hash (cs := bs h) (by rw [bs_size, hh]))
  obtain ⟨lx, hx⟩ : ∃ l, l = x.length := ⟨_, rfl⟩
  rw [← hx] at hvx hx4 hcx ⊢
  obtain ⟨pp, pc, rfl, _⟩ := hvp.form
  obtain ⟨p, hpp⟩ : ∃ p, p = ps.length := ⟨_, rfl⟩
  rw [← hpp] at hvp hp8 ⊢
  obtain ⟨pv, cv, rfl, hcv⟩ := hvT.form
  obtain ⟨m, hm⟩ : ∃ m, m = T.length := ⟨_, rfl⟩
  have hbT := hb
  have hcT := hc
  rw [← hm] at hvT hlT hcv HF1 hT1 hi1 hb hc ⊢
  have hm80 : m ≤ 80 := by rw [hm]; exact hsT.few
  have hi1m : i1 < m := by rw [hi1]; exact Nat.mod_lt _ (by omega)
  have hrem : (i : Int) % (m : Int) = (i1 : Int) := by rw [hi1]; simp
  have HRem := Lib.hid hrem
  have d1 : decide ((lx : Int) > 4000) = false := decide_eq_false (by omega)
  have d2 : decide ((p : Int) > 80) = false := decide_eq_false (by omega)
  have d3 : ((m : Int) == 0) = false := by simp; omega
  have hmw : IntKind.u64.wrap (m : Int) = (m : Int) := by rw [IntKind.wrap_u64]; omega
  obtain ⟨t, htt⟩ : ∃ t, T[i1]? = some t := ⟨T[i1]'(by omega), List.getElem?_eq_getElem _⟩
  obtain ⟨pa, at_, ct, rfl, htc, htb⟩ := hvT.at_ htt
  obtain ⟨lt, hlt⟩ : ∃ l, l = t.length := ⟨_, rfl⟩
  rw [← hlt] at htc htb
  have HTt := Lib.hid (fun (W : World) (hW : Below w.heap.size w W) => (⟨by rw [hW.cell (World.block_lt_of_cell? w _ htc)]; exact htc, htb.below (Nat.le_refl _) hW⟩ : W.cell? (pa.add i1) = some (.slice at_ lt ct) ∧ Bys W (.slice at_ lt ct) t))
  have HIx := Lib.hid (fun W => txs_indexU W pa m cv i1 hi1m)
  have HX := Lib.hid hvx
  obtain ⟨X, Y, hX, hY, hXY⟩ := strs_of x t
  have HXs := Lib.hid hX
  have HYs := Lib.hid hY
  obtain ⟨L, hL⟩ : ∃ L, L = T.map (leafH n) := ⟨_, rfl⟩
  have hLl : L.length = m := by rw [hL, List.length_map, hm]
  obtain ⟨ro, hro, hro32⟩ : ∃ r, r = rootT n T ∧ r.length = 32 := ⟨_, rfl, rootT_length _ _⟩
  obtain ⟨hxv, hhx, hhx32⟩ : ∃ r, r = leafH n x ∧ r.length = 32 := ⟨_, rfl, leafH_length _ _⟩
  obtain ⟨m1, hm1⟩ : ∃ m1, m1 = i1 + 1 := ⟨_, rfl⟩
  have HM1 := Lib.hid (show (i1 : Int) + 1 = (m1 : Int) by omega)
  have hm1m : m1 ≤ m := by omega
  have HSro := Lib.hid (size_hash (cs := bs ro) (by rw [bs_size, hro32]))
  have Hro32 := Lib.hid hro32
  have HLeaves := Lib.hid (fun (W : World) (hW : Below w.heap.size w W) => refleaves_any n hn T (.slice (some pa) m cv) W (hvT.below (Nat.le_refl _) hW) hsT (hk.below (Nat.le_refl _) hW))
  rw [← hL] at HLeaves
  have HRoot := Lib.hid (fun (W : World) (u : Value) (hW : Below w.heap.size w W) (hu : Hss W u L) => hq.root n L u W hn hu (by omega) (ht.below (Nat.le_refl _) hW))
  rw [show rootH n L = ro by rw [hL, hro]; rfl] at HRoot
  have HLeaf := Lib.hid (fun (W : World) (hW : Below w.heap.size w W) => hd.leaf n x (.slice ax lx cx) W hn (hvx.below (Nat.le_refl _) hW) ⟨_, _, _, rfl, hcx⟩ (by omega) (ht.below (Nat.le_refl _) hW))
  rw [← hhx] at HLeaf
  have HChk := Lib.hid (fun (W : World) (hW : Below w.heap.size w W) => hpc n hxv i1 m ps (.slice pp p pc) ro W hn hhx32 hro32 (by omega) (by omega) (hvp.below (Nat.le_refl _) hW) (by omega) (ht.below (Nat.le_refl _) hW))
  rw [← hhx, ← hro] at hb
  rw [hb] at HChk
  have HChk2 := Lib.hid (fun (W : World) (hW : Below w.heap.size w W) => hgc n h m1 m ro ps (.slice pp p pc) W hn hh hro32 (by omega) (by omega) (hvp.below (Nat.le_refl _) hW) (by omega) (ht.below (Nat.le_refl _) hW))
  rw [← hm1, ← hro] at hc
  rw [hc] at HChk2
  have HN := Lib.hid hn
  have HK := Lib.hid hk
  have HXY := Lib.hid (show (X.toList == Y.toList) = !false by rw [hXY]; refine decide_eq_true ?_; rw [htt] at hxx; exact (Option.some.inj hxx).symm)
  clear hp hq hd hpc hgc hn hvT hlT hvx hvp ht hk hf1 hsT hbT hcT hb hc hi1 hrem htt htc htb hlt hX hY hXY hL hro hro32 hhx hhx32 hm1 hx hpp hm hh hxx
  go_enter Tryd.func12, Tryd.ntmps12
  go_upto_region 1 with fail
  refine world_cut (fun W => Blk W w.heap.size 24 (bs h) ∧ Below w.heap.size w W) ⟨Blk.new w _ _, (Below.refl _ _).alloc (Nat.le_refl _) _⟩ ?_
  rintro W0 ⟨hbx, hb0⟩
  have HBx0 := Lib.hid hbx
  have HB0 := Lib.hid hb0
  clear hbx hb0
  go_wp2_with fail
  refine (HAw.out _ HB0.out).mono ?_
  rintro e W1 ⟨rfl, hb1⟩
  have HB1 := Lib.hid (HB0.out.trans (hb1.mono HB0.out.size))
  have HBx1 := Lib.hid (HBx0.out.keep hb1)
  clear hb1 HB0 HBx0
  go_wp2_with fail
  refine (HF1.out _ HB1.out).mono ?_
  rintro e w2 ⟨rfl, rfl⟩
  clear HF1
  go_wp2_with fail
  refine (HLeaves.out _ HB1.out).mono ?_
  rintro e W2 ⟨u, rfl, ho2, hb2⟩
  have hu2 := ho2.hss
  obtain ⟨pl, cl, rfl, hlc⟩ := hu2.form
  rw [hLl] at hu2 hlc ⊢
  have HU2 := Lib.hid hu2
  have HBx2 := Lib.hid (HBx1.out.keep hb2)
  have HB2 := Lib.hid (HB1.out.trans (hb2.mono HB1.out.size))
  clear ho2 hu2 hb2 HLeaves HBx1 HB1
  go_wp2_with fail
  refine (HRoot.out _ _ HB2.out HU2.out).mono ?_
  rintro e W3 ⟨rfl, hb3⟩
  have HU3 := Lib.hid (HU2.out.below (Nat.le_refl _) hb3)
  have HBx3 := Lib.hid (HBx2.out.keep hb3)
  have HB3 := Lib.hid (HB2.out.trans (hb3.mono HB2.out.size))
  clear hb3 HRoot HU2 HBx2 HB2
  go_upto_region 6 with (refine wpList_store_row rfl 24 (.tmp 15) (.tmp 51) rfl W3.heap.size (bs ro) rfl rfl 24 _ (Blk.new W3 _ _) HSro.out (by simp [bs_size, Hro32.out]) (bs_one _) ?_)
  obtain ⟨g, hg⟩ : ∃ g, g = W3.heap.size := ⟨_, rfl⟩
  refine world_cut (fun W => TrW w h (.slice pl m cl) L g ro W) ⟨HBx3.out.keep (below_new W3 _ _ _), HU3.out.below (Nat.le_refl _) (below_new W3 _ _ _), by rw [hg]; exact Blk.row (Blk.new W3 _ _) _, HB3.out.trans ((below_new W3 _ _ _).mono HB3.out.size)⟩ ?_
  rw [← hg]
  clear hg HU3 HBx3 HB3
  intro W4 hW4
  have HTr := Lib.hid hW4
  clear hW4
  go_upto_region 7 with fail
  rw [HRem.out]
  have hG : ∀ W W' : World, Below W4.heap.size W4 W → Below W.heap.size W W' → Below W4.heap.size W4 W' := fun W W' h h' => h.trans (h'.mono h.size)
  refine region_skip [(55, .is (.int .i64 n)), (56, .is (.int .i64 n)), (57, .is (.slice ax lx cx)), (58, .is (.agg (bs hxv))), (59, .is (.int .u64 (i1 : Int))), (60, .is (.int .u64 (m : Int))), (61, .is (.slice pp p pc)), (62, .is (.agg (bs ro))), (63, .is (.bool true)), (64, .is (.bool true)), (65, .is (.slice ax lx cx)), (66, .is (.string X)), (67, .is (.slice (some pa) m cv)), (68, .is (.int .u64 (i1 : Int))), (69, .is (.pointer (some (pa.add i1)))), (70, .is (.slice at_ lt ct)), (71, .is (.string Y)), (72, .is (.bool false)), (73, .is (.bool false))] [0, 1, 2, 3, 5, 10, 12, 13, 14, 15, 73] (fun W => Below W4.heap.size W4 W) (by kernel_rfl) (by kernel_rfl) (by kernel_rfl) (by kernel_rfl) (by kernel_rfl) ((Below.refl _ _).drew) ?_ ?_
  · refine ⟨?c0, ?c1, ?c2, ?c3, ?c4, ?c5, ?c6, ?c7, ?c8, ?c9, ?c10, ?c11, ?c12, ?c13, ?c14, ?c15, ?c16, ?c17, ?c18, trivial⟩
    case c0 => exact runs (ask_copy (guard_none rfl) (.tmp 0) (.inl rfl) (by intro k hk; cases hk; rfl))
    case c1 => exact runs (ask_copy (guard_none rfl) (.tmp 0) (.inl rfl) (by intro k hk; cases hk; rfl))
    case c2 => exact runs (ask_copy (guard_none rfl) (.tmp 3) (.inl rfl) (by intro k hk; cases hk; rfl))
    case c3 => exact runs (ask_call hG (guard_none rfl) _ _ _ #[.int .i64 n, .slice ax lx cx] (.is (.agg (bs hxv))) rfl (by kernel_rfl) rfl rfl (by intro k hk; cases hk; rfl) (fun W hW => (HLeaf.out W (HTr.out.2.2.2.trans (hW.mono HTr.out.2.2.2.size))).mono fun e w' h => ⟨_, h.1, rfl, h.2⟩))
    case c4 => exact runs (ask_copy (guard_none rfl) (.tmp 2) (.inl rfl) (by intro k hk; cases hk; rfl))
    case c5 => exact runs (ask_copy (guard_none rfl) (.tmp 14) (.inl rfl) (by intro k hk; cases hk; rfl))
    case c6 => exact runs (ask_copy (guard_none rfl) (.tmp 5) (.inl rfl) (by intro k hk; cases hk; rfl))
    case c7 => exact runs (ask_load (guard_none rfl) _ (.tmp 15) (.pointer (some ⟨g, 0, none⟩)) (.agg (bs ro)) rfl rfl (by intro k hk; cases hk; rfl) (fun W hW => (HTr.out.2.2.1.keep hW).loads 24 _ Tryd.underlying24 rfl HSro.out))
    case c8 => exact runs (ask_call hG (guard_none rfl) _ _ _ #[.int .i64 n, .agg (bs hxv), .int .u64 (i1 : Int), .int .u64 (m : Int), .slice pp p pc, .agg (bs ro)] (.is (.bool true)) rfl (by kernel_rfl) rfl rfl (by intro k hk; cases hk; rfl) (fun W hW => (HChk.out W (HTr.out.2.2.2.trans (hW.mono HTr.out.2.2.2.size))).mono fun e w' h => ⟨_, h.1, rfl, h.2⟩))
    case c9 => exact runs (ask_copy (guard_none rfl) (.tmp 63) (.inl rfl) (by intro k hk; cases hk; rfl))
    case c10 => exact runs (ask_copy (guard_some rfl rfl rfl) (.tmp 3) (.inl rfl) (by intro k hk; cases hk; rfl))
    case c11 => exact runs (ask_conv_bys (guard_some rfl rfl rfl) (.tmp 65) x X HXs.out rfl (fun y W hW hk => by
      have e : y 65 = (.slice ax lx cx) := hk 65 rfl
      show Bys W (y 65) x
      rw [e]
      exact HX.out.below (Nat.le_refl _) (HTr.out.2.2.2.trans (hW.mono HTr.out.2.2.2.size))) (by intro k hk; cases hk; rfl))
    case c12 => exact runs (ask_copy (guard_some rfl rfl rfl) (.tmp 1) (.inl rfl) (by intro k hk; cases hk; rfl))
    case c13 => exact runs (ask_copy (guard_some rfl rfl rfl) (.tmp 2) (.inl rfl) (by intro k hk; cases hk; rfl))
    case c14 => exact runs (ask_idx (guard_some rfl rfl rfl) _ (.tmp 67) (.tmp 68) (.slice (some pa) m cv) (.int .u64 (i1 : Int)) (.pointer (some (pa.add i1))) rfl rfl rfl (by intro k hk; cases hk; rfl) HIx.out)
    case c15 => exact runs (ask_load (guard_some rfl rfl rfl) _ (.tmp 69) (.pointer (some (pa.add i1))) (.slice at_ lt ct) rfl rfl (by intro k hk; cases hk; rfl) (fun W hW => load_txt W _ _ (HTt.out W (HTr.out.2.2.2.trans (hW.mono HTr.out.2.2.2.size))).1))
    case c16 => exact runs (ask_conv_bys (guard_some rfl rfl rfl) (.tmp 70) t Y HYs.out rfl (fun y W hW hk => by
      have e : y 70 = .slice at_ lt ct := hk 70 rfl
      show Bys W (y 70) t
      rw [e]
      exact (HTt.out W (HTr.out.2.2.2.trans (hW.mono HTr.out.2.2.2.size))).2) (by intro k hk; cases hk; rfl))
    case c17 => exact runs (ask_bin (guard_some rfl rfl rfl) .neq _ _ (.tmp 66) (.tmp 71) (.string X) (.string Y) (.bool false) rfl rfl rfl (by intro k hk; cases hk; rfl) (neq_strs _ _ _ X Y false HXY.out))
    case c18 => exact runs (ask_pick (guard_none rfl) (.tmp 64) (.tmp 72) (.const (.bool false)) true rfl rfl (by intro k hk; cases hk; rfl))
  · intro a' Wc hW hd' hs' hf'
    have t0 : a'.tmps.getD 0 undef = .int .i64 n := hf' 0 rfl
    have t1 : a'.tmps.getD 1 undef = .slice (some pa) m cv := hf' 1 rfl
    have t2 : a'.tmps.getD 2 undef = .int .u64 (i1 : Int) := hf' 2 rfl
    have t3 : a'.tmps.getD 3 undef = .slice ax lx cx := hf' 3 rfl
    have t5 : a'.tmps.getD 5 undef = .slice pp p pc := hf' 5 rfl
    have t10 : a'.tmps.getD 10 undef = .pointer (some ⟨w.heap.size, 0, none⟩) := hf' 10 rfl
    have t12 : a'.tmps.getD 12 undef = .bool false := hf' 12 rfl
    have t13 : a'.tmps.getD 13 undef = .slice pl m cl := hf' 13 rfl
    have t14 : a'.tmps.getD 14 undef = .int .u64 (m : Int) := hf' 14 rfl
    have t15 : a'.tmps.getD 15 undef = .pointer (some ⟨g, 0, none⟩) := hf' 15 rfl
    have t73 : a'.tmps.getD 73 undef = .bool false := hf' 73 rfl
    obtain ⟨us', hus, ha'⟩ := act_open 127 a' hs' hd'
    rw [← hus] at t0 t1 t2 t3 t5 t10 t12 t13 t14 t15 t73
    have el : ((List.range 127).map us').toArray = #[.int .i64 n, .slice (some pa) m cv, .int .u64 (i1 : Int), .slice ax lx cx, us' 4, .slice pp p pc, us' 6, us' 7, us' 8, us' 9, .pointer (some ⟨w.heap.size, 0, none⟩), us' 11, .bool false, .slice pl m cl, .int .u64 (m : Int), .pointer (some ⟨g, 0, none⟩), us' 16, us' 17, us' 18, us' 19, us' 20, us' 21, us' 22, us' 23, us' 24, us' 25, us' 26, us' 27, us' 28, us' 29, us' 30, us' 31, us' 32, us' 33, us' 34, us' 35, us' 36, us' 37, us' 38, us' 39, us' 40, us' 41, us' 42, us' 43, us' 44, us' 45, us' 46, us' 47, us' 48, us' 49, us' 50, us' 51, us' 52, us' 53, us' 54, us' 55, us' 56, us' 57, us' 58, us' 59, us' 60, us' 61, us' 62, us' 63, us' 64, us' 65, us' 66, us' 67, us' 68, us' 69, us' 70, us' 71, us' 72, .bool false, us' 74, us' 75, us' 76, us' 77, us' 78, us' 79, us' 80, us' 81, us' 82, us' 83, us' 84, us' 85, us' 86, us' 87, us' 88, us' 89, us' 90, us' 91, us' 92, us' 93, us' 94, us' 95, us' 96, us' 97, us' 98, us' 99, us' 100, us' 101, us' 102, us' 103, us' 104, us' 105, us' 106, us' 107, us' 108, us' 109, us' 110, us' 111, us' 112, us' 113, us' 114, us' 115, us' 116, us' 117, us' 118, us' 119, us' 120, us' 121, us' 122, us' 123, us' 124, us' 125, us' 126] := by
      show #[us' 0, us' 1, us' 2, us' 3, us' 4, us' 5, us' 6, us' 7, us' 8, us' 9, us' 10, us' 11, us' 12, us' 13, us' 14, us' 15, us' 16, us' 17, us' 18, us' 19, us' 20, us' 21, us' 22, us' 23, us' 24, us' 25, us' 26, us' 27, us' 28, us' 29, us' 30, us' 31, us' 32, us' 33, us' 34, us' 35, us' 36, us' 37, us' 38, us' 39, us' 40, us' 41, us' 42, us' 43, us' 44, us' 45, us' 46, us' 47, us' 48, us' 49, us' 50, us' 51, us' 52, us' 53, us' 54, us' 55, us' 56, us' 57, us' 58, us' 59, us' 60, us' 61, us' 62, us' 63, us' 64, us' 65, us' 66, us' 67, us' 68, us' 69, us' 70, us' 71, us' 72, us' 73, us' 74, us' 75, us' 76, us' 77, us' 78, us' 79, us' 80, us' 81, us' 82, us' 83, us' 84, us' 85, us' 86, us' 87, us' 88, us' 89, us' 90, us' 91, us' 92, us' 93, us' 94, us' 95, us' 96, us' 97, us' 98, us' 99, us' 100, us' 101, us' 102, us' 103, us' 104, us' 105, us' 106, us' 107, us' 108, us' 109, us' 110, us' 111, us' 112, us' 113, us' 114, us' 115, us' 116, us' 117, us' 118, us' 119, us' 120, us' 121, us' 122, us' 123, us' 124, us' 125, us' 126] = _
      rw [t0, t1, t2, t3, t5, t10, t12, t13, t14, t15, t73]
    rw [el] at ha'
    subst ha'
    clear hus t0 t1 t2 t3 t5 t10 t12 t13 t14 t15 t73 el hf' hs' hd'
    have HTr7 := Lib.hid (HTr.out.keep hW)
    clear hW hG HTr
    have HTr := Lib.hid HTr7.out
    clear HTr7
    go_upto_region 11 with fail
    have hG : ∀ W W' : World, Below Wc.heap.size Wc W → Below W.heap.size W W' → Below Wc.heap.size Wc W' := fun W W' h h' => h.trans (h'.mono h.size)
    refine region_skip [(91, .is (.int .i64 n)), (92, .is (.int .u64 (i1 : Int))), (93, .is (.int .u64 (m1 : Int))), (94, .is (.int .u64 (m : Int))), (95, .is (.agg (bs h))), (96, .is (.agg (bs ro))), (97, .is (.slice pp p pc)), (98, .is (.bool false)), (99, .is (.bool false)), (100, .is undef), (101, .is undef), (102, .is undef), (103, .is undef), (104, .is undef), (105, .is undef), (106, .is undef), (107, .is undef), (108, .is (.bool false))] [0, 1, 2, 5, 10, 12, 108] (fun W => Below Wc.heap.size Wc W) (by kernel_rfl) (by kernel_rfl) (by kernel_rfl) (by kernel_rfl) (by kernel_rfl) ((Below.refl _ _).drew) ?_ ?_
    · refine ⟨?c0, ?c1, ?c2, ?c3, ?c4, ?c5, ?c6, ?c7, ?c8, ?c9, ?c10, ?c11, ?c12, ?c13, ?c14, ?c15, ?c16, ?c17, trivial⟩
      case c0 => exact runs (ask_copy (guard_none rfl) (.tmp 0) (.inl rfl) (by intro k hk; cases hk; rfl))
      case c1 => exact runs (ask_copy (guard_none rfl) (.tmp 2) (.inl rfl) (by intro k hk; cases hk; rfl))
      case c2 => exact runs (ask_bin (guard_none rfl) .add _ _ (.tmp 92) (.const (.int .u64 1)) (.int .u64 (i1 : Int)) (.int .u64 1) (.int .u64 (m1 : Int)) rfl rfl rfl (by intro k hk; cases hk; rfl) (fun W => add_u64d _ _ _ HM1.out (by omega) _ _ _ W))
      case c3 => exact runs (ask_copy (guard_none rfl) (.tmp 14) (.inl rfl) (by intro k hk; cases hk; rfl))
      case c4 => exact runs (ask_load (guard_none rfl) _ (.tmp 10) (.pointer (some ⟨w.heap.size, 0, none⟩)) (.agg (bs h)) rfl rfl (by intro k hk; cases hk; rfl) (fun W hW => (HTr.out.1.keep hW).loads 24 _ Tryd.underlying24 rfl HSh.out))
      case c5 => exact runs (ask_load (guard_none rfl) _ (.tmp 15) (.pointer (some ⟨g, 0, none⟩)) (.agg (bs ro)) rfl rfl (by intro k hk; cases hk; rfl) (fun W hW => (HTr.out.2.2.1.keep hW).loads 24 _ Tryd.underlying24 rfl HSro.out))
      case c6 => exact runs (ask_copy (guard_none rfl) (.tmp 5) (.inl rfl) (by intro k hk; cases hk; rfl))
      case c7 => exact runs (ask_call hG (guard_none rfl) _ _ _ #[.int .i64 n, .int .u64 (m1 : Int), .int .u64 (m : Int), .agg (bs h), .agg (bs ro), .slice pp p pc] (.is (.bool false)) rfl (by kernel_rfl) rfl rfl (by intro k hk; cases hk; rfl) (fun W hW => (HChk2.out W (HTr.out.2.2.2.trans (hW.mono HTr.out.2.2.2.size))).mono fun e w' h => ⟨_, h.1, rfl, h.2⟩))
      case c8 => exact runs (ask_copy (guard_none rfl) (.tmp 98) (.inl rfl) (by intro k hk; cases hk; rfl))
      case c9 => exact skips 8 true 99 (.bool false) rfl rfl rfl (by simp) (by intro k hk; cases hk; rfl)
      case c10 => exact skips 8 true 99 (.bool false) rfl rfl rfl (by simp) (by intro k hk; cases hk; rfl)
      case c11 => exact skips 8 true 99 (.bool false) rfl rfl rfl (by simp) (by intro k hk; cases hk; rfl)
      case c12 => exact skips 8 true 99 (.bool false) rfl rfl rfl (by simp) (by intro k hk; cases hk; rfl)
      case c13 => exact skips 8 true 99 (.bool false) rfl rfl rfl (by simp) (by intro k hk; cases hk; rfl)
      case c14 => exact skips 8 true 99 (.bool false) rfl rfl rfl (by simp) (by intro k hk; cases hk; rfl)
      case c15 => exact skips 8 true 99 (.bool false) rfl rfl rfl (by simp) (by intro k hk; cases hk; rfl)
      case c16 => exact skips 8 true 99 (.bool false) rfl rfl rfl (by simp) (by intro k hk; cases hk; rfl)
      case c17 => exact runs (ask_pick (guard_none rfl) (.tmp 99) (.tmp 107) (.const (.bool false)) false rfl rfl (by intro k hk; cases hk; rfl))
    · intro a' Wd hW hd' hs' hf'
      have t0 : a'.tmps.getD 0 undef = .int .i64 n := hf' 0 rfl
      have t1 : a'.tmps.getD 1 undef = .slice (some pa) m cv := hf' 1 rfl
      have t2 : a'.tmps.getD 2 undef = .int .u64 (i1 : Int) := hf' 2 rfl
      have t5 : a'.tmps.getD 5 undef = .slice pp p pc := hf' 5 rfl
      have t10 : a'.tmps.getD 10 undef = .pointer (some ⟨w.heap.size, 0, none⟩) := hf' 10 rfl
      have t12 : a'.tmps.getD 12 undef = .bool false := hf' 12 rfl
      have t108 : a'.tmps.getD 108 undef = .bool false := hf' 108 rfl
      obtain ⟨vs', hus, ha'⟩ := act_open 127 a' hs' hd'
      rw [← hus] at t0 t1 t2 t5 t10 t12 t108
      have el : ((List.range 127).map vs').toArray = #[.int .i64 n, .slice (some pa) m cv, .int .u64 (i1 : Int), vs' 3, vs' 4, .slice pp p pc, vs' 6, vs' 7, vs' 8, vs' 9, .pointer (some ⟨w.heap.size, 0, none⟩), vs' 11, .bool false, vs' 13, vs' 14, vs' 15, vs' 16, vs' 17, vs' 18, vs' 19, vs' 20, vs' 21, vs' 22, vs' 23, vs' 24, vs' 25, vs' 26, vs' 27, vs' 28, vs' 29, vs' 30, vs' 31, vs' 32, vs' 33, vs' 34, vs' 35, vs' 36, vs' 37, vs' 38, vs' 39, vs' 40, vs' 41, vs' 42, vs' 43, vs' 44, vs' 45, vs' 46, vs' 47, vs' 48, vs' 49, vs' 50, vs' 51, vs' 52, vs' 53, vs' 54, vs' 55, vs' 56, vs' 57, vs' 58, vs' 59, vs' 60, vs' 61, vs' 62, vs' 63, vs' 64, vs' 65, vs' 66, vs' 67, vs' 68, vs' 69, vs' 70, vs' 71, vs' 72, vs' 73, vs' 74, vs' 75, vs' 76, vs' 77, vs' 78, vs' 79, vs' 80, vs' 81, vs' 82, vs' 83, vs' 84, vs' 85, vs' 86, vs' 87, vs' 88, vs' 89, vs' 90, vs' 91, vs' 92, vs' 93, vs' 94, vs' 95, vs' 96, vs' 97, vs' 98, vs' 99, vs' 100, vs' 101, vs' 102, vs' 103, vs' 104, vs' 105, vs' 106, vs' 107, .bool false, vs' 109, vs' 110, vs' 111, vs' 112, vs' 113, vs' 114, vs' 115, vs' 116, vs' 117, vs' 118, vs' 119, vs' 120, vs' 121, vs' 122, vs' 123, vs' 124, vs' 125, vs' 126] := by
        show #[vs' 0, vs' 1, vs' 2, vs' 3, vs' 4, vs' 5, vs' 6, vs' 7, vs' 8, vs' 9, vs' 10, vs' 11, vs' 12, vs' 13, vs' 14, vs' 15, vs' 16, vs' 17, vs' 18, vs' 19, vs' 20, vs' 21, vs' 22, vs' 23, vs' 24, vs' 25, vs' 26, vs' 27, vs' 28, vs' 29, vs' 30, vs' 31, vs' 32, vs' 33, vs' 34, vs' 35, vs' 36, vs' 37, vs' 38, vs' 39, vs' 40, vs' 41, vs' 42, vs' 43, vs' 44, vs' 45, vs' 46, vs' 47, vs' 48, vs' 49, vs' 50, vs' 51, vs' 52, vs' 53, vs' 54, vs' 55, vs' 56, vs' 57, vs' 58, vs' 59, vs' 60, vs' 61, vs' 62, vs' 63, vs' 64, vs' 65, vs' 66, vs' 67, vs' 68, vs' 69, vs' 70, vs' 71, vs' 72, vs' 73, vs' 74, vs' 75, vs' 76, vs' 77, vs' 78, vs' 79, vs' 80, vs' 81, vs' 82, vs' 83, vs' 84, vs' 85, vs' 86, vs' 87, vs' 88, vs' 89, vs' 90, vs' 91, vs' 92, vs' 93, vs' 94, vs' 95, vs' 96, vs' 97, vs' 98, vs' 99, vs' 100, vs' 101, vs' 102, vs' 103, vs' 104, vs' 105, vs' 106, vs' 107, vs' 108, vs' 109, vs' 110, vs' 111, vs' 112, vs' 113, vs' 114, vs' 115, vs' 116, vs' 117, vs' 118, vs' 119, vs' 120, vs' 121, vs' 122, vs' 123, vs' 124, vs' 125, vs' 126] = _
        rw [t0, t1, t2, t5, t10, t12, t108]
      rw [el] at ha'
      subst ha'
      clear hus t0 t1 t2 t5 t10 t12 t108 el hf' hs' hd'
      have HTrd := Lib.hid (HTr.out.keep hW)
      clear hW hG HTr
      go_wp2
      go_ret
      exact ⟨rfl, HTrd.out.2.2.2⟩

set_option maxHeartbeats 2000000 in
set_option maxRecDepth 100000 in
theorem clashTrust_TF_TF (hp : ClashProg) (hq : LeafProg) (hd : DataProg) (hpc : CheckProg) (hgc : Check16Prog) (n : Int) (hn : I64 n) (T : List Bs) (v : Value) (i : Nat) (x : Bs) (ax : Option Addr) (cx : Nat) (hcx : x.length ≤ cx) (h : Hs) (hh : h.length = 32) (ps : List Hs) (vp : Value) (w : World) (hvT : Txs w v T) (hlT : T.length ≤ 5864062014976) (hvx : Bys w (.slice ax x.length cx) x) (hvp : Hss w vp ps) (ht : Tabs w) (hk : Consts w)
    (hf1 : fewS T ≤ 4000) (hx4 : x.length ≤ 4000) (hp8 : ps.length ≤ 80) (hT1 : 1 ≤ T.length) (i1 : Nat) (hi1 : i1 = i % T.length) (hb : decide ((climbR n (leafH n x) i1 T.length ps).2 = 0 ∧ (climbR n (leafH n x) i1 T.length ps).1 = rootT n T) = true) (hxx : T[i1]? = some x) (hc : checkGR n h (i1 + 1) T.length (rootT n T) ps = true) (hhh : h = rootT n (T.take (i1 + 1))) :
    Calls Tryd.prog 12 #[.int .i64 n, v, .int .u64 (i : Int), .slice ax x.length cx, .agg (bs h), vp] w fun e w' => e = .returned (.bool true) ∧ Below w.heap.size w w' := by
  have HAw := Lib.hid (fun (W : World) (hW : Below w.heap.size w W) => awake17_any hp W (ht.below (Nat.le_refl _) hW))
  have HF1 := Lib.hid (fun (W : World) (hW : Below w.heap.size w W) => few17_any T v W (hvT.below (Nat.le_refl _) hW) hlT)
  rw [decide_eq_true hf1] at HF1
  have hsT := fewS_shorts hf1
  have HSh := Lib.hid (size_hash (cs := bs h) (by rw [bs_size, hh]))
  obtain ⟨lx, hx⟩ : ∃ l, l = x.length := ⟨_, rfl⟩
  rw [← hx] at hvx hx4 hcx ⊢
  obtain ⟨pp, pc, rfl, _⟩ := hvp.form
  obtain ⟨p, hpp⟩ : ∃ p, p = ps.length := ⟨_, rfl⟩
  rw [← hpp] at hvp hp8 ⊢
  obtain ⟨pv, cv, rfl, hcv⟩ := hvT.form
  obtain ⟨m, hm⟩ : ∃ m, m = T.length := ⟨_, rfl⟩
  have hbT := hb
  have hcT := hc
  rw [← hm] at hvT hlT hcv HF1 hT1 hi1 hb hc ⊢
  have hm80 : m ≤ 80 := by rw [hm]; exact hsT.few
  have hi1m : i1 < m := by rw [hi1]; exact Nat.mod_lt _ (by omega)
  have hrem : (i : Int) % (m : Int) = (i1 : Int) := by rw [hi1]; simp
  have HRem := Lib.hid hrem
  have d1 : decide ((lx : Int) > 4000) = false := decide_eq_false (by omega)
  have d2 : decide ((p : Int) > 80) = false := decide_eq_false (by omega)
  have d3 : ((m : Int) == 0) = false := by simp; omega
  have hmw : IntKind.u64.wrap (m : Int) = (m : Int) := by rw [IntKind.wrap_u64]; omega
  obtain ⟨t, htt⟩ : ∃ t, T[i1]? = some t := ⟨T[i1]'(by omega), List.getElem?_eq_getElem _⟩
  obtain ⟨pa, at_, ct, rfl, htc, htb⟩ := hvT.at_ htt
  obtain ⟨lt, hlt⟩ : ∃ l, l = t.length := ⟨_, rfl⟩
  rw [← hlt] at htc htb
  have HTt := Lib.hid (fun (W : World) (hW : Below w.heap.size w W) => (⟨by rw [hW.cell (World.block_lt_of_cell? w _ htc)]; exact htc, htb.below (Nat.le_refl _) hW⟩ : W.cell? (pa.add i1) = some (.slice at_ lt ct) ∧ Bys W (.slice at_ lt ct) t))
  have HIx := Lib.hid (fun W => txs_indexU W pa m cv i1 hi1m)
  have HX := Lib.hid hvx
  obtain ⟨X, Y, hX, hY, hXY⟩ := strs_of x t
  have HXs := Lib.hid hX
  have HYs := Lib.hid hY
  obtain ⟨L, hL⟩ : ∃ L, L = T.map (leafH n) := ⟨_, rfl⟩
  have hLl : L.length = m := by rw [hL, List.length_map, hm]
  obtain ⟨ro, hro, hro32⟩ : ∃ r, r = rootT n T ∧ r.length = 32 := ⟨_, rfl, rootT_length _ _⟩
  obtain ⟨hxv, hhx, hhx32⟩ : ∃ r, r = leafH n x ∧ r.length = 32 := ⟨_, rfl, leafH_length _ _⟩
  obtain ⟨m1, hm1⟩ : ∃ m1, m1 = i1 + 1 := ⟨_, rfl⟩
  have HM1 := Lib.hid (show (i1 : Int) + 1 = (m1 : Int) by omega)
  have hm1m : m1 ≤ m := by omega
  have HSro := Lib.hid (size_hash (cs := bs ro) (by rw [bs_size, hro32]))
  have Hro32 := Lib.hid hro32
  have HLeaves := Lib.hid (fun (W : World) (hW : Below w.heap.size w W) => refleaves_any n hn T (.slice (some pa) m cv) W (hvT.below (Nat.le_refl _) hW) hsT (hk.below (Nat.le_refl _) hW))
  rw [← hL] at HLeaves
  have HRoot := Lib.hid (fun (W : World) (u : Value) (hW : Below w.heap.size w W) (hu : Hss W u L) => hq.root n L u W hn hu (by omega) (ht.below (Nat.le_refl _) hW))
  rw [show rootH n L = ro by rw [hL, hro]; rfl] at HRoot
  have HLeaf := Lib.hid (fun (W : World) (hW : Below w.heap.size w W) => hd.leaf n x (.slice ax lx cx) W hn (hvx.below (Nat.le_refl _) hW) ⟨_, _, _, rfl, hcx⟩ (by omega) (ht.below (Nat.le_refl _) hW))
  rw [← hhx] at HLeaf
  have HChk := Lib.hid (fun (W : World) (hW : Below w.heap.size w W) => hpc n hxv i1 m ps (.slice pp p pc) ro W hn hhx32 hro32 (by omega) (by omega) (hvp.below (Nat.le_refl _) hW) (by omega) (ht.below (Nat.le_refl _) hW))
  rw [← hhx, ← hro] at hb
  rw [hb] at HChk
  have HChk2 := Lib.hid (fun (W : World) (hW : Below w.heap.size w W) => hgc n h m1 m ro ps (.slice pp p pc) W hn hh hro32 (by omega) (by omega) (hvp.below (Nat.le_refl _) hW) (by omega) (ht.below (Nat.le_refl _) hW))
  rw [← hm1, ← hro] at hc
  rw [hc] at HChk2
  have HN := Lib.hid hn
  have HK := Lib.hid hk
  have HXY := Lib.hid (show (X.toList == Y.toList) = !false by rw [hXY]; refine decide_eq_true ?_; rw [htt] at hxx; exact (Option.some.inj hxx).symm)
  obtain ⟨rm, hrm, hrm32⟩ : ∃ r, r = rootT n (T.take m1) ∧ r.length = 32 := ⟨_, rfl, rootT_length _ _⟩
  have HRm := Lib.hid (fun (pl : Option Addr) (cl : Nat) (W : World) (hu : Hss W (.slice pl m cl) L) (hW : Below w.heap.size w W) => by
    have h1 : Hss W (.slice pl m1 cl) (L.take m1) := by
      have := hu.sub 0 m1 (by omega) hm1m
      rw [sliced_zero2] at this
      simpa using this
    have h2 := hq.root n (L.take m1) (.slice pl m1 cl) W hn h1 (by rw [List.length_take]; omega) (ht.below (Nat.le_refl _) hW)
    rwa [show rootH n (L.take m1) = rm by rw [hrm, hL, ← List.map_take]; rfl] at h2)
  have hhrm : h = rm := by rw [hrm, hm1]; exact hhh
  subst hhrm
  have HNq := Lib.hid (fun s t W => neq_hash s t h hh W)
  clear hp hq hd hpc hgc hn hvT hlT hvx hvp ht hk hf1 hsT hbT hcT hb hc hi1 hrem htt htc htb hlt hX hY hXY hL hro hro32 hhx hhx32 hm1 hx hpp hm hh hxx hrm hrm32 hhh
  go_enter Tryd.func12, Tryd.ntmps12
  go_upto_region 1 with fail
  refine world_cut (fun W => Blk W w.heap.size 24 (bs h) ∧ Below w.heap.size w W) ⟨Blk.new w _ _, (Below.refl _ _).alloc (Nat.le_refl _) _⟩ ?_
  rintro W0 ⟨hbx, hb0⟩
  have HBx0 := Lib.hid hbx
  have HB0 := Lib.hid hb0
  clear hbx hb0
  go_wp2_with fail
  refine (HAw.out _ HB0.out).mono ?_
  rintro e W1 ⟨rfl, hb1⟩
  have HB1 := Lib.hid (HB0.out.trans (hb1.mono HB0.out.size))
  have HBx1 := Lib.hid (HBx0.out.keep hb1)
  clear hb1 HB0 HBx0
  go_wp2_with fail
  refine (HF1.out _ HB1.out).mono ?_
  rintro e w2 ⟨rfl, rfl⟩
  clear HF1
  go_wp2_with fail
  refine (HLeaves.out _ HB1.out).mono ?_
  rintro e W2 ⟨u, rfl, ho2, hb2⟩
  have hu2 := ho2.hss
  obtain ⟨pl, cl, rfl, hlc⟩ := hu2.form
  rw [hLl] at hu2 hlc ⊢
  have HU2 := Lib.hid hu2
  have HBx2 := Lib.hid (HBx1.out.keep hb2)
  have HB2 := Lib.hid (HB1.out.trans (hb2.mono HB1.out.size))
  clear ho2 hu2 hb2 HLeaves HBx1 HB1
  go_wp2_with fail
  refine (HRoot.out _ _ HB2.out HU2.out).mono ?_
  rintro e W3 ⟨rfl, hb3⟩
  have HU3 := Lib.hid (HU2.out.below (Nat.le_refl _) hb3)
  have HBx3 := Lib.hid (HBx2.out.keep hb3)
  have HB3 := Lib.hid (HB2.out.trans (hb3.mono HB2.out.size))
  clear hb3 HRoot HU2 HBx2 HB2
  go_upto_region 6 with (refine wpList_store_row rfl 24 (.tmp 15) (.tmp 51) rfl W3.heap.size (bs ro) rfl rfl 24 _ (Blk.new W3 _ _) HSro.out (by simp [bs_size, Hro32.out]) (bs_one _) ?_)
  obtain ⟨g, hg⟩ : ∃ g, g = W3.heap.size := ⟨_, rfl⟩
  refine world_cut (fun W => TrW w h (.slice pl m cl) L g ro W) ⟨HBx3.out.keep (below_new W3 _ _ _), HU3.out.below (Nat.le_refl _) (below_new W3 _ _ _), by rw [hg]; exact Blk.row (Blk.new W3 _ _) _, HB3.out.trans ((below_new W3 _ _ _).mono HB3.out.size)⟩ ?_
  rw [← hg]
  clear hg HU3 HBx3 HB3
  intro W4 hW4
  have HTr := Lib.hid hW4
  clear hW4
  go_upto_region 7 with fail
  rw [HRem.out]
  have HSl := Lib.hid (fun (W : World) => slice_hs_toV pl m cl m1 (by omega) W)
  have HRm2 := Lib.hid (fun (W : World) => HRm.out pl cl W)
  clear HRm
  have HRm := HRm2
  clear HRm2
  have hG : ∀ W W' : World, Below W4.heap.size W4 W → Below W.heap.size W W' → Below W4.heap.size W4 W' := fun W W' h h' => h.trans (h'.mono h.size)
  refine region_skip [(55, .is (.int .i64 n)), (56, .is (.int .i64 n)), (57, .is (.slice ax lx cx)), (58, .is (.agg (bs hxv))), (59, .is (.int .u64 (i1 : Int))), (60, .is (.int .u64 (m : Int))), (61, .is (.slice pp p pc)), (62, .is (.agg (bs ro))), (63, .is (.bool true)), (64, .is (.bool true)), (65, .is (.slice ax lx cx)), (66, .is (.string X)), (67, .is (.slice (some pa) m cv)), (68, .is (.int .u64 (i1 : Int))), (69, .is (.pointer (some (pa.add i1)))), (70, .is (.slice at_ lt ct)), (71, .is (.string Y)), (72, .is (.bool false)), (73, .is (.bool false))] [0, 1, 2, 3, 5, 10, 12, 13, 14, 15, 73] (fun W => Below W4.heap.size W4 W) (by kernel_rfl) (by kernel_rfl) (by kernel_rfl) (by kernel_rfl) (by kernel_rfl) ((Below.refl _ _).drew) ?_ ?_
  · refine ⟨?c0, ?c1, ?c2, ?c3, ?c4, ?c5, ?c6, ?c7, ?c8, ?c9, ?c10, ?c11, ?c12, ?c13, ?c14, ?c15, ?c16, ?c17, ?c18, trivial⟩
    case c0 => exact runs (ask_copy (guard_none rfl) (.tmp 0) (.inl rfl) (by intro k hk; cases hk; rfl))
    case c1 => exact runs (ask_copy (guard_none rfl) (.tmp 0) (.inl rfl) (by intro k hk; cases hk; rfl))
    case c2 => exact runs (ask_copy (guard_none rfl) (.tmp 3) (.inl rfl) (by intro k hk; cases hk; rfl))
    case c3 => exact runs (ask_call hG (guard_none rfl) _ _ _ #[.int .i64 n, .slice ax lx cx] (.is (.agg (bs hxv))) rfl (by kernel_rfl) rfl rfl (by intro k hk; cases hk; rfl) (fun W hW => (HLeaf.out W (HTr.out.2.2.2.trans (hW.mono HTr.out.2.2.2.size))).mono fun e w' h => ⟨_, h.1, rfl, h.2⟩))
    case c4 => exact runs (ask_copy (guard_none rfl) (.tmp 2) (.inl rfl) (by intro k hk; cases hk; rfl))
    case c5 => exact runs (ask_copy (guard_none rfl) (.tmp 14) (.inl rfl) (by intro k hk; cases hk; rfl))
    case c6 => exact runs (ask_copy (guard_none rfl) (.tmp 5) (.inl rfl) (by intro k hk; cases hk; rfl))
    case c7 => exact runs (ask_load (guard_none rfl) _ (.tmp 15) (.pointer (some ⟨g, 0, none⟩)) (.agg (bs ro)) rfl rfl (by intro k hk; cases hk; rfl) (fun W hW => (HTr.out.2.2.1.keep hW).loads 24 _ Tryd.underlying24 rfl HSro.out))
    case c8 => exact runs (ask_call hG (guard_none rfl) _ _ _ #[.int .i64 n, .agg (bs hxv), .int .u64 (i1 : Int), .int .u64 (m : Int), .slice pp p pc, .agg (bs ro)] (.is (.bool true)) rfl (by kernel_rfl) rfl rfl (by intro k hk; cases hk; rfl) (fun W hW => (HChk.out W (HTr.out.2.2.2.trans (hW.mono HTr.out.2.2.2.size))).mono fun e w' h => ⟨_, h.1, rfl, h.2⟩))
    case c9 => exact runs (ask_copy (guard_none rfl) (.tmp 63) (.inl rfl) (by intro k hk; cases hk; rfl))
    case c10 => exact runs (ask_copy (guard_some rfl rfl rfl) (.tmp 3) (.inl rfl) (by intro k hk; cases hk; rfl))
    case c11 => exact runs (ask_conv_bys (guard_some rfl rfl rfl) (.tmp 65) x X HXs.out rfl (fun y W hW hk => by
      have e : y 65 = (.slice ax lx cx) := hk 65 rfl
      show Bys W (y 65) x
      rw [e]
      exact HX.out.below (Nat.le_refl _) (HTr.out.2.2.2.trans (hW.mono HTr.out.2.2.2.size))) (by intro k hk; cases hk; rfl))
    case c12 => exact runs (ask_copy (guard_some rfl rfl rfl) (.tmp 1) (.inl rfl) (by intro k hk; cases hk; rfl))
    case c13 => exact runs (ask_copy (guard_some rfl rfl rfl) (.tmp 2) (.inl rfl) (by intro k hk; cases hk; rfl))
    case c14 => exact runs (ask_idx (guard_some rfl rfl rfl) _ (.tmp 67) (.tmp 68) (.slice (some pa) m cv) (.int .u64 (i1 : Int)) (.pointer (some (pa.add i1))) rfl rfl rfl (by intro k hk; cases hk; rfl) HIx.out)
    case c15 => exact runs (ask_load (guard_some rfl rfl rfl) _ (.tmp 69) (.pointer (some (pa.add i1))) (.slice at_ lt ct) rfl rfl (by intro k hk; cases hk; rfl) (fun W hW => load_txt W _ _ (HTt.out W (HTr.out.2.2.2.trans (hW.mono HTr.out.2.2.2.size))).1))
    case c16 => exact runs (ask_conv_bys (guard_some rfl rfl rfl) (.tmp 70) t Y HYs.out rfl (fun y W hW hk => by
      have e : y 70 = .slice at_ lt ct := hk 70 rfl
      show Bys W (y 70) t
      rw [e]
      exact (HTt.out W (HTr.out.2.2.2.trans (hW.mono HTr.out.2.2.2.size))).2) (by intro k hk; cases hk; rfl))
    case c17 => exact runs (ask_bin (guard_some rfl rfl rfl) .neq _ _ (.tmp 66) (.tmp 71) (.string X) (.string Y) (.bool false) rfl rfl rfl (by intro k hk; cases hk; rfl) (neq_strs _ _ _ X Y false HXY.out))
    case c18 => exact runs (ask_pick (guard_none rfl) (.tmp 64) (.tmp 72) (.const (.bool false)) true rfl rfl (by intro k hk; cases hk; rfl))
  · intro a' Wc hW hd' hs' hf'
    have t0 : a'.tmps.getD 0 undef = .int .i64 n := hf' 0 rfl
    have t1 : a'.tmps.getD 1 undef = .slice (some pa) m cv := hf' 1 rfl
    have t2 : a'.tmps.getD 2 undef = .int .u64 (i1 : Int) := hf' 2 rfl
    have t3 : a'.tmps.getD 3 undef = .slice ax lx cx := hf' 3 rfl
    have t5 : a'.tmps.getD 5 undef = .slice pp p pc := hf' 5 rfl
    have t10 : a'.tmps.getD 10 undef = .pointer (some ⟨w.heap.size, 0, none⟩) := hf' 10 rfl
    have t12 : a'.tmps.getD 12 undef = .bool false := hf' 12 rfl
    have t13 : a'.tmps.getD 13 undef = .slice pl m cl := hf' 13 rfl
    have t14 : a'.tmps.getD 14 undef = .int .u64 (m : Int) := hf' 14 rfl
    have t15 : a'.tmps.getD 15 undef = .pointer (some ⟨g, 0, none⟩) := hf' 15 rfl
    have t73 : a'.tmps.getD 73 undef = .bool false := hf' 73 rfl
    obtain ⟨us', hus, ha'⟩ := act_open 127 a' hs' hd'
    rw [← hus] at t0 t1 t2 t3 t5 t10 t12 t13 t14 t15 t73
    have el : ((List.range 127).map us').toArray = #[.int .i64 n, .slice (some pa) m cv, .int .u64 (i1 : Int), .slice ax lx cx, us' 4, .slice pp p pc, us' 6, us' 7, us' 8, us' 9, .pointer (some ⟨w.heap.size, 0, none⟩), us' 11, .bool false, .slice pl m cl, .int .u64 (m : Int), .pointer (some ⟨g, 0, none⟩), us' 16, us' 17, us' 18, us' 19, us' 20, us' 21, us' 22, us' 23, us' 24, us' 25, us' 26, us' 27, us' 28, us' 29, us' 30, us' 31, us' 32, us' 33, us' 34, us' 35, us' 36, us' 37, us' 38, us' 39, us' 40, us' 41, us' 42, us' 43, us' 44, us' 45, us' 46, us' 47, us' 48, us' 49, us' 50, us' 51, us' 52, us' 53, us' 54, us' 55, us' 56, us' 57, us' 58, us' 59, us' 60, us' 61, us' 62, us' 63, us' 64, us' 65, us' 66, us' 67, us' 68, us' 69, us' 70, us' 71, us' 72, .bool false, us' 74, us' 75, us' 76, us' 77, us' 78, us' 79, us' 80, us' 81, us' 82, us' 83, us' 84, us' 85, us' 86, us' 87, us' 88, us' 89, us' 90, us' 91, us' 92, us' 93, us' 94, us' 95, us' 96, us' 97, us' 98, us' 99, us' 100, us' 101, us' 102, us' 103, us' 104, us' 105, us' 106, us' 107, us' 108, us' 109, us' 110, us' 111, us' 112, us' 113, us' 114, us' 115, us' 116, us' 117, us' 118, us' 119, us' 120, us' 121, us' 122, us' 123, us' 124, us' 125, us' 126] := by
      show #[us' 0, us' 1, us' 2, us' 3, us' 4, us' 5, us' 6, us' 7, us' 8, us' 9, us' 10, us' 11, us' 12, us' 13, us' 14, us' 15, us' 16, us' 17, us' 18, us' 19, us' 20, us' 21, us' 22, us' 23, us' 24, us' 25, us' 26, us' 27, us' 28, us' 29, us' 30, us' 31, us' 32, us' 33, us' 34, us' 35, us' 36, us' 37, us' 38, us' 39, us' 40, us' 41, us' 42, us' 43, us' 44, us' 45, us' 46, us' 47, us' 48, us' 49, us' 50, us' 51, us' 52, us' 53, us' 54, us' 55, us' 56, us' 57, us' 58, us' 59, us' 60, us' 61, us' 62, us' 63, us' 64, us' 65, us' 66, us' 67, us' 68, us' 69, us' 70, us' 71, us' 72, us' 73, us' 74, us' 75, us' 76, us' 77, us' 78, us' 79, us' 80, us' 81, us' 82, us' 83, us' 84, us' 85, us' 86, us' 87, us' 88, us' 89, us' 90, us' 91, us' 92, us' 93, us' 94, us' 95, us' 96, us' 97, us' 98, us' 99, us' 100, us' 101, us' 102, us' 103, us' 104, us' 105, us' 106, us' 107, us' 108, us' 109, us' 110, us' 111, us' 112, us' 113, us' 114, us' 115, us' 116, us' 117, us' 118, us' 119, us' 120, us' 121, us' 122, us' 123, us' 124, us' 125, us' 126] = _
      rw [t0, t1, t2, t3, t5, t10, t12, t13, t14, t15, t73]
    rw [el] at ha'
    subst ha'
    clear hus t0 t1 t2 t3 t5 t10 t12 t13 t14 t15 t73 el hf' hs' hd'
    have HTr7 := Lib.hid (HTr.out.keep hW)
    clear hW hG HTr
    have HTr := Lib.hid HTr7.out
    clear HTr7
    go_upto_region 11 with fail
    have hG : ∀ W W' : World, Below Wc.heap.size Wc W → Below W.heap.size W W' → Below Wc.heap.size Wc W' := fun W W' h h' => h.trans (h'.mono h.size)
    refine region_skip [(91, .is (.int .i64 n)), (92, .is (.int .u64 (i1 : Int))), (93, .is (.int .u64 (m1 : Int))), (94, .is (.int .u64 (m : Int))), (95, .is (.agg (bs h))), (96, .is (.agg (bs ro))), (97, .is (.slice pp p pc)), (98, .is (.bool true)), (99, .is (.bool true)), (100, .is (.agg (bs h))), (101, .is (.int .i64 n)), (102, .is (.slice pl m cl)), (103, .is (.int .u64 (i1 : Int))), (104, .is (.int .u64 (m1 : Int))), (105, .is (.slice pl m1 cl)), (106, .is (.agg (bs h))), (107, .is (.bool false)), (108, .is (.bool false))] [0, 1, 2, 5, 10, 12, 108] (fun W => Below Wc.heap.size Wc W) (by kernel_rfl) (by kernel_rfl) (by kernel_rfl) (by kernel_rfl) (by kernel_rfl) ((Below.refl _ _).drew) ?_ ?_
    · refine ⟨?c0, ?c1, ?c2, ?c3, ?c4, ?c5, ?c6, ?c7, ?c8, ?c9, ?c10, ?c11, ?c12, ?c13, ?c14, ?c15, ?c16, ?c17, trivial⟩
      case c0 => exact runs (ask_copy (guard_none rfl) (.tmp 0) (.inl rfl) (by intro k hk; cases hk; rfl))
      case c1 => exact runs (ask_copy (guard_none rfl) (.tmp 2) (.inl rfl) (by intro k hk; cases hk; rfl))
      case c2 => exact runs (ask_bin (guard_none rfl) .add _ _ (.tmp 92) (.const (.int .u64 1)) (.int .u64 (i1 : Int)) (.int .u64 1) (.int .u64 (m1 : Int)) rfl rfl rfl (by intro k hk; cases hk; rfl) (fun W => add_u64d _ _ _ HM1.out (by omega) _ _ _ W))
      case c3 => exact runs (ask_copy (guard_none rfl) (.tmp 14) (.inl rfl) (by intro k hk; cases hk; rfl))
      case c4 => exact runs (ask_load (guard_none rfl) _ (.tmp 10) (.pointer (some ⟨w.heap.size, 0, none⟩)) (.agg (bs h)) rfl rfl (by intro k hk; cases hk; rfl) (fun W hW => (HTr.out.1.keep hW).loads 24 _ Tryd.underlying24 rfl HSh.out))
      case c5 => exact runs (ask_load (guard_none rfl) _ (.tmp 15) (.pointer (some ⟨g, 0, none⟩)) (.agg (bs ro)) rfl rfl (by intro k hk; cases hk; rfl) (fun W hW => (HTr.out.2.2.1.keep hW).loads 24 _ Tryd.underlying24 rfl HSro.out))
      case c6 => exact runs (ask_copy (guard_none rfl) (.tmp 5) (.inl rfl) (by intro k hk; cases hk; rfl))
      case c7 => exact runs (ask_call hG (guard_none rfl) _ _ _ #[.int .i64 n, .int .u64 (m1 : Int), .int .u64 (m : Int), .agg (bs h), .agg (bs ro), .slice pp p pc] (.is (.bool true)) rfl (by kernel_rfl) rfl rfl (by intro k hk; cases hk; rfl) (fun W hW => (HChk2.out W (HTr.out.2.2.2.trans (hW.mono HTr.out.2.2.2.size))).mono fun e w' h => ⟨_, h.1, rfl, h.2⟩))
      case c8 => exact runs (ask_copy (guard_none rfl) (.tmp 98) (.inl rfl) (by intro k hk; cases hk; rfl))
      case c9 => exact runs (ask_load (guard_some rfl rfl rfl) _ (.tmp 10) (.pointer (some ⟨w.heap.size, 0, none⟩)) (.agg (bs h)) rfl rfl (by intro k hk; cases hk; rfl) (fun W hW => (HTr.out.1.keep hW).loads 24 _ Tryd.underlying24 rfl HSh.out))
      case c10 => exact runs (ask_copy (guard_some rfl rfl rfl) (.tmp 0) (.inl rfl) (by intro k hk; cases hk; rfl))
      case c11 => exact runs (ask_copy (guard_some rfl rfl rfl) (.tmp 13) (.inl rfl) (by intro k hk; cases hk; rfl))
      case c12 => exact runs (ask_copy (guard_some rfl rfl rfl) (.tmp 2) (.inl rfl) (by intro k hk; cases hk; rfl))
      case c13 => exact runs (ask_bin (guard_some rfl rfl rfl) .add _ _ (.tmp 103) (.const (.int .u64 1)) (.int .u64 (i1 : Int)) (.int .u64 1) (.int .u64 (m1 : Int)) rfl rfl rfl (by intro k hk; cases hk; rfl) (fun W => add_u64d _ _ _ HM1.out (by omega) _ _ _ W))
      case c14 => exact runs (ask_slice (guard_some rfl rfl rfl) _ (.tmp 102) none (some (.tmp 104)) none (.slice pl m cl) (.slice pl m1 cl) none (some (.int .u64 (m1 : Int))) none rfl rfl rfl rfl rfl (by intro k hk; cases hk; rfl) HSl.out)
      case c15 => exact runs (ask_call hG (guard_some rfl rfl rfl) _ _ _ #[.int .i64 n, .slice pl m1 cl] (.is (.agg (bs h))) rfl (by kernel_rfl) rfl rfl (by intro k hk; cases hk; rfl) (fun W hW => (HRm.out W (HTr.out.2.1.below (Nat.le_refl _) hW) (HTr.out.2.2.2.trans (hW.mono HTr.out.2.2.2.size))).mono fun e w' h => ⟨_, h.1, rfl, h.2⟩))
      case c16 => exact runs (ask_bin (guard_some rfl rfl rfl) .neq _ _ (.tmp 100) (.tmp 106) (.agg (bs h)) (.agg (bs h)) (.bool false) rfl rfl rfl (by intro k hk; cases hk; rfl) (HNq.out _ _))
      case c17 => exact runs (ask_pick (guard_none rfl) (.tmp 99) (.tmp 107) (.const (.bool false)) true rfl rfl (by intro k hk; cases hk; rfl))
    · intro a' Wd hW hd' hs' hf'
      have t0 : a'.tmps.getD 0 undef = .int .i64 n := hf' 0 rfl
      have t1 : a'.tmps.getD 1 undef = .slice (some pa) m cv := hf' 1 rfl
      have t2 : a'.tmps.getD 2 undef = .int .u64 (i1 : Int) := hf' 2 rfl
      have t5 : a'.tmps.getD 5 undef = .slice pp p pc := hf' 5 rfl
      have t10 : a'.tmps.getD 10 undef = .pointer (some ⟨w.heap.size, 0, none⟩) := hf' 10 rfl
      have t12 : a'.tmps.getD 12 undef = .bool false := hf' 12 rfl
      have t108 : a'.tmps.getD 108 undef = .bool false := hf' 108 rfl
      obtain ⟨vs', hus, ha'⟩ := act_open 127 a' hs' hd'
      rw [← hus] at t0 t1 t2 t5 t10 t12 t108
      have el : ((List.range 127).map vs').toArray = #[.int .i64 n, .slice (some pa) m cv, .int .u64 (i1 : Int), vs' 3, vs' 4, .slice pp p pc, vs' 6, vs' 7, vs' 8, vs' 9, .pointer (some ⟨w.heap.size, 0, none⟩), vs' 11, .bool false, vs' 13, vs' 14, vs' 15, vs' 16, vs' 17, vs' 18, vs' 19, vs' 20, vs' 21, vs' 22, vs' 23, vs' 24, vs' 25, vs' 26, vs' 27, vs' 28, vs' 29, vs' 30, vs' 31, vs' 32, vs' 33, vs' 34, vs' 35, vs' 36, vs' 37, vs' 38, vs' 39, vs' 40, vs' 41, vs' 42, vs' 43, vs' 44, vs' 45, vs' 46, vs' 47, vs' 48, vs' 49, vs' 50, vs' 51, vs' 52, vs' 53, vs' 54, vs' 55, vs' 56, vs' 57, vs' 58, vs' 59, vs' 60, vs' 61, vs' 62, vs' 63, vs' 64, vs' 65, vs' 66, vs' 67, vs' 68, vs' 69, vs' 70, vs' 71, vs' 72, vs' 73, vs' 74, vs' 75, vs' 76, vs' 77, vs' 78, vs' 79, vs' 80, vs' 81, vs' 82, vs' 83, vs' 84, vs' 85, vs' 86, vs' 87, vs' 88, vs' 89, vs' 90, vs' 91, vs' 92, vs' 93, vs' 94, vs' 95, vs' 96, vs' 97, vs' 98, vs' 99, vs' 100, vs' 101, vs' 102, vs' 103, vs' 104, vs' 105, vs' 106, vs' 107, .bool false, vs' 109, vs' 110, vs' 111, vs' 112, vs' 113, vs' 114, vs' 115, vs' 116, vs' 117, vs' 118, vs' 119, vs' 120, vs' 121, vs' 122, vs' 123, vs' 124, vs' 125, vs' 126] := by
        show #[vs' 0, vs' 1, vs' 2, vs' 3, vs' 4, vs' 5, vs' 6, vs' 7, vs' 8, vs' 9, vs' 10, vs' 11, vs' 12, vs' 13, vs' 14, vs' 15, vs' 16, vs' 17, vs' 18, vs' 19, vs' 20, vs' 21, vs' 22, vs' 23, vs' 24, vs' 25, vs' 26, vs' 27, vs' 28, vs' 29, vs' 30, vs' 31, vs' 32, vs' 33, vs' 34, vs' 35, vs' 36, vs' 37, vs' 38, vs' 39, vs' 40, vs' 41, vs' 42, vs' 43, vs' 44, vs' 45, vs' 46, vs' 47, vs' 48, vs' 49, vs' 50, vs' 51, vs' 52, vs' 53, vs' 54, vs' 55, vs' 56, vs' 57, vs' 58, vs' 59, vs' 60, vs' 61, vs' 62, vs' 63, vs' 64, vs' 65, vs' 66, vs' 67, vs' 68, vs' 69, vs' 70, vs' 71, vs' 72, vs' 73, vs' 74, vs' 75, vs' 76, vs' 77, vs' 78, vs' 79, vs' 80, vs' 81, vs' 82, vs' 83, vs' 84, vs' 85, vs' 86, vs' 87, vs' 88, vs' 89, vs' 90, vs' 91, vs' 92, vs' 93, vs' 94, vs' 95, vs' 96, vs' 97, vs' 98, vs' 99, vs' 100, vs' 101, vs' 102, vs' 103, vs' 104, vs' 105, vs' 106, vs' 107, vs' 108, vs' 109, vs' 110, vs' 111, vs' 112, vs' 113, vs' 114, vs' 115, vs' 116, vs' 117, vs' 118, vs' 119, vs' 120, vs' 121, vs' 122, vs' 123, vs' 124, vs' 125, vs' 126] = _
        rw [t0, t1, t2, t5, t10, t12, t108]
      rw [el] at ha'
      subst ha'
      clear hus t0 t1 t2 t5 t10 t12 t108 el hf' hs' hd'
      have HTrd := Lib.hid (HTr.out.keep hW)
      clear hW hG HTr
      go_wp2
      go_ret
      exact ⟨rfl, HTrd.out.2.2.2⟩

set_option maxHeartbeats 2000000 in
set_option maxRecDepth 100000 in
theorem clashTrust_TF_TT (hp : ClashProg) (hq : LeafProg) (hd : DataProg) (hpc : CheckProg) (hgc : Check16Prog) (n : Int) (hn : I64 n) (T : List Bs) (v : Value) (i : Nat) (x : Bs) (ax : Option Addr) (cx : Nat) (hcx : x.length ≤ cx) (h : Hs) (hh : h.length = 32) (ps : List Hs) (vp : Value) (w : World) (hvT : Txs w v T) (hlT : T.length ≤ 5864062014976) (hvx : Bys w (.slice ax x.length cx) x) (hvp : Hss w vp ps) (ht : Tabs w) (hk : Consts w)
    (hf1 : fewS T ≤ 4000) (hx4 : x.length ≤ 4000) (hp8 : ps.length ≤ 80) (hT1 : 1 ≤ T.length) (i1 : Nat) (hi1 : i1 = i % T.length) (hb : decide ((climbR n (leafH n x) i1 T.length ps).2 = 0 ∧ (climbR n (leafH n x) i1 T.length ps).1 = rootT n T) = true) (hxx : T[i1]? = some x) (hc : checkGR n h (i1 + 1) T.length (rootT n T) ps = true) (hhh : h ≠ rootT n (T.take (i1 + 1))) :
    Calls Tryd.prog 12 #[.int .i64 n, v, .int .u64 (i : Int), .slice ax x.length cx, .agg (bs h), vp] w fun e w' => e = .returned (.bool true) ∧ Below w.heap.size w w' := by
  have HAw := Lib.hid (fun (W : World) (hW : Below w.heap.size w W) => awake17_any hp W (ht.below (Nat.le_refl _) hW))
  have HF1 := Lib.hid (fun (W : World) (hW : Below w.heap.size w W) => few17_any T v W (hvT.below (Nat.le_refl _) hW) hlT)
  rw [decide_eq_true hf1] at HF1
  have hsT := fewS_shorts hf1
  have HSh := Lib.hid (size_hash (cs := bs h) (by rw [bs_size, hh]))
  obtain ⟨lx, hx⟩ : ∃ l, l = x.length := ⟨_, rfl⟩
  rw [← hx] at hvx hx4 hcx ⊢
  obtain ⟨pp, pc, rfl, _⟩ := hvp.form
  obtain ⟨p, hpp⟩ : ∃ p, p = ps.length := ⟨_, rfl⟩
  rw [← hpp] at hvp hp8 ⊢
  obtain ⟨pv, cv, rfl, hcv⟩ := hvT.form
  obtain ⟨m, hm⟩ : ∃ m, m = T.length := ⟨_, rfl⟩
  have hbT := hb
  have hcT := hc
  rw [← hm] at hvT hlT hcv HF1 hT1 hi1 hb hc ⊢
  have hm80 : m ≤ 80 := by rw [hm]; exact hsT.few
  have hi1m : i1 < m := by rw [hi1]; exact Nat.mod_lt _ (by omega)
  have hrem : (i : Int) % (m : Int) = (i1 : Int) := by rw [hi1]; simp
  have HRem := Lib.hid hrem
  have d1 : decide ((lx : Int) > 4000) = false := decide_eq_false (by omega)
  have d2 : decide ((p : Int) > 80) = false := decide_eq_false (by omega)
  have d3 : ((m : Int) == 0) = false := by simp; omega
  have hmw : IntKind.u64.wrap (m : Int) = (m : Int) := by rw [IntKind.wrap_u64]; omega
  obtain ⟨t, htt⟩ : ∃ t, T[i1]? = some t := ⟨T[i1]'(by omega), List.getElem?_eq_getElem _⟩
  obtain ⟨pa, at_, ct, rfl, htc, htb⟩ := hvT.at_ htt
  obtain ⟨lt, hlt⟩ : ∃ l, l = t.length := ⟨_, rfl⟩
  rw [← hlt] at htc htb
  have HTt := Lib.hid (fun (W : World) (hW : Below w.heap.size w W) => (⟨by rw [hW.cell (World.block_lt_of_cell? w _ htc)]; exact htc, htb.below (Nat.le_refl _) hW⟩ : W.cell? (pa.add i1) = some (.slice at_ lt ct) ∧ Bys W (.slice at_ lt ct) t))
  have HIx := Lib.hid (fun W => txs_indexU W pa m cv i1 hi1m)
  have HX := Lib.hid hvx
  obtain ⟨X, Y, hX, hY, hXY⟩ := strs_of x t
  have HXs := Lib.hid hX
  have HYs := Lib.hid hY
  obtain ⟨L, hL⟩ : ∃ L, L = T.map (leafH n) := ⟨_, rfl⟩
  have hLl : L.length = m := by rw [hL, List.length_map, hm]
  obtain ⟨ro, hro, hro32⟩ : ∃ r, r = rootT n T ∧ r.length = 32 := ⟨_, rfl, rootT_length _ _⟩
  obtain ⟨hxv, hhx, hhx32⟩ : ∃ r, r = leafH n x ∧ r.length = 32 := ⟨_, rfl, leafH_length _ _⟩
  obtain ⟨m1, hm1⟩ : ∃ m1, m1 = i1 + 1 := ⟨_, rfl⟩
  have HM1 := Lib.hid (show (i1 : Int) + 1 = (m1 : Int) by omega)
  have hm1m : m1 ≤ m := by omega
  have HSro := Lib.hid (size_hash (cs := bs ro) (by rw [bs_size, hro32]))
  have Hro32 := Lib.hid hro32
  have HLeaves := Lib.hid (fun (W : World) (hW : Below w.heap.size w W) => refleaves_any n hn T (.slice (some pa) m cv) W (hvT.below (Nat.le_refl _) hW) hsT (hk.below (Nat.le_refl _) hW))
  rw [← hL] at HLeaves
  have HRoot := Lib.hid (fun (W : World) (u : Value) (hW : Below w.heap.size w W) (hu : Hss W u L) => hq.root n L u W hn hu (by omega) (ht.below (Nat.le_refl _) hW))
  rw [show rootH n L = ro by rw [hL, hro]; rfl] at HRoot
  have HLeaf := Lib.hid (fun (W : World) (hW : Below w.heap.size w W) => hd.leaf n x (.slice ax lx cx) W hn (hvx.below (Nat.le_refl _) hW) ⟨_, _, _, rfl, hcx⟩ (by omega) (ht.below (Nat.le_refl _) hW))
  rw [← hhx] at HLeaf
  have HChk := Lib.hid (fun (W : World) (hW : Below w.heap.size w W) => hpc n hxv i1 m ps (.slice pp p pc) ro W hn hhx32 hro32 (by omega) (by omega) (hvp.below (Nat.le_refl _) hW) (by omega) (ht.below (Nat.le_refl _) hW))
  rw [← hhx, ← hro] at hb
  rw [hb] at HChk
  have HChk2 := Lib.hid (fun (W : World) (hW : Below w.heap.size w W) => hgc n h m1 m ro ps (.slice pp p pc) W hn hh hro32 (by omega) (by omega) (hvp.below (Nat.le_refl _) hW) (by omega) (ht.below (Nat.le_refl _) hW))
  rw [← hm1, ← hro] at hc
  rw [hc] at HChk2
  have HN := Lib.hid hn
  have HK := Lib.hid hk
  have HXY := Lib.hid (show (X.toList == Y.toList) = !false by rw [hXY]; refine decide_eq_true ?_; rw [htt] at hxx; exact (Option.some.inj hxx).symm)
  obtain ⟨rm, hrm, hrm32⟩ : ∃ r, r = rootT n (T.take m1) ∧ r.length = 32 := ⟨_, rfl, rootT_length _ _⟩
  have HRm := Lib.hid (fun (pl : Option Addr) (cl : Nat) (W : World) (hu : Hss W (.slice pl m cl) L) (hW : Below w.heap.size w W) => by
    have h1 : Hss W (.slice pl m1 cl) (L.take m1) := by
      have := hu.sub 0 m1 (by omega) hm1m
      rw [sliced_zero2] at this
      simpa using this
    have h2 := hq.root n (L.take m1) (.slice pl m1 cl) W hn h1 (by rw [List.length_take]; omega) (ht.below (Nat.le_refl _) hW)
    rwa [show rootH n (L.take m1) = rm by rw [hrm, hL, ← List.map_take]; rfl] at h2)
  have HNq := Lib.hid (fun s t W => neq_hash_ne s t h rm hh hrm32 (by rw [hrm, hm1]; exact hhh) W)
  obtain ⟨k0, k1, k2⟩ := checkGR_true (by omega) (by omega) hcT
  obtain ⟨e0, e1⟩ := growC_found hh hvp.all k0 k1 k2 hhh
  have hlen := growC_len n (m := i1 + 1) (h := h) (p := ps) hsT hh hvp.all
  rw [← hm1] at e0 e1 hlen
  have HGr := Lib.hid (fun (W : World) (hW : Below w.heap.size w W) => hp.growth n T m1 h ps (.slice (some pa) m cv) (.slice pp p pc) W hn (hvT.below (Nat.le_refl _) hW) hsT (by omega) hh (hvp.below (Nat.le_refl _) hW) (by omega) (ht.below (Nat.le_refl _) hW))
  rw [e0] at HGr
  rw [show ((0 : Nat) : Int) = 0 from rfl] at HGr
  obtain ⟨PHGr, hPHGr⟩ : ∃ P, P = (growC n T m1 h ps).1 := ⟨_, rfl⟩
  rw [← hPHGr] at HGr e1 hlen
  have HClHGr := Lib.hid e1
  have HLHGr := Lib.hid hlen
  clear k0 k1 k2 e0 e1 hlen hPHGr
  clear hp hq hd hpc hgc hn hvT hlT hvx hvp ht hk hf1 hsT hbT hcT hb hc hi1 hrem htt htc htb hlt hX hY hXY hL hro hro32 hhx hhx32 hm1 hx hpp hm hh hxx hrm hrm32 hhh
  go_enter Tryd.func12, Tryd.ntmps12
  go_upto_region 1 with fail
  refine world_cut (fun W => Blk W w.heap.size 24 (bs h) ∧ Below w.heap.size w W) ⟨Blk.new w _ _, (Below.refl _ _).alloc (Nat.le_refl _) _⟩ ?_
  rintro W0 ⟨hbx, hb0⟩
  have HBx0 := Lib.hid hbx
  have HB0 := Lib.hid hb0
  clear hbx hb0
  go_wp2_with fail
  refine (HAw.out _ HB0.out).mono ?_
  rintro e W1 ⟨rfl, hb1⟩
  have HB1 := Lib.hid (HB0.out.trans (hb1.mono HB0.out.size))
  have HBx1 := Lib.hid (HBx0.out.keep hb1)
  clear hb1 HB0 HBx0
  go_wp2_with fail
  refine (HF1.out _ HB1.out).mono ?_
  rintro e w2 ⟨rfl, rfl⟩
  clear HF1
  go_wp2_with fail
  refine (HLeaves.out _ HB1.out).mono ?_
  rintro e W2 ⟨u, rfl, ho2, hb2⟩
  have hu2 := ho2.hss
  obtain ⟨pl, cl, rfl, hlc⟩ := hu2.form
  rw [hLl] at hu2 hlc ⊢
  have HU2 := Lib.hid hu2
  have HBx2 := Lib.hid (HBx1.out.keep hb2)
  have HB2 := Lib.hid (HB1.out.trans (hb2.mono HB1.out.size))
  clear ho2 hu2 hb2 HLeaves HBx1 HB1
  go_wp2_with fail
  refine (HRoot.out _ _ HB2.out HU2.out).mono ?_
  rintro e W3 ⟨rfl, hb3⟩
  have HU3 := Lib.hid (HU2.out.below (Nat.le_refl _) hb3)
  have HBx3 := Lib.hid (HBx2.out.keep hb3)
  have HB3 := Lib.hid (HB2.out.trans (hb3.mono HB2.out.size))
  clear hb3 HRoot HU2 HBx2 HB2
  go_upto_region 6 with (refine wpList_store_row rfl 24 (.tmp 15) (.tmp 51) rfl W3.heap.size (bs ro) rfl rfl 24 _ (Blk.new W3 _ _) HSro.out (by simp [bs_size, Hro32.out]) (bs_one _) ?_)
  obtain ⟨g, hg⟩ : ∃ g, g = W3.heap.size := ⟨_, rfl⟩
  refine world_cut (fun W => TrW w h (.slice pl m cl) L g ro W) ⟨HBx3.out.keep (below_new W3 _ _ _), HU3.out.below (Nat.le_refl _) (below_new W3 _ _ _), by rw [hg]; exact Blk.row (Blk.new W3 _ _) _, HB3.out.trans ((below_new W3 _ _ _).mono HB3.out.size)⟩ ?_
  rw [← hg]
  clear hg HU3 HBx3 HB3
  intro W4 hW4
  have HTr := Lib.hid hW4
  clear hW4
  go_upto_region 7 with fail
  rw [HRem.out]
  have HSl := Lib.hid (fun (W : World) => slice_hs_toV pl m cl m1 (by omega) W)
  have HRm2 := Lib.hid (fun (W : World) => HRm.out pl cl W)
  clear HRm
  have HRm := HRm2
  clear HRm2
  have hG : ∀ W W' : World, Below W4.heap.size W4 W → Below W.heap.size W W' → Below W4.heap.size W4 W' := fun W W' h h' => h.trans (h'.mono h.size)
  refine region_skip [(55, .is (.int .i64 n)), (56, .is (.int .i64 n)), (57, .is (.slice ax lx cx)), (58, .is (.agg (bs hxv))), (59, .is (.int .u64 (i1 : Int))), (60, .is (.int .u64 (m : Int))), (61, .is (.slice pp p pc)), (62, .is (.agg (bs ro))), (63, .is (.bool true)), (64, .is (.bool true)), (65, .is (.slice ax lx cx)), (66, .is (.string X)), (67, .is (.slice (some pa) m cv)), (68, .is (.int .u64 (i1 : Int))), (69, .is (.pointer (some (pa.add i1)))), (70, .is (.slice at_ lt ct)), (71, .is (.string Y)), (72, .is (.bool false)), (73, .is (.bool false))] [0, 1, 2, 3, 5, 10, 12, 13, 14, 15, 73] (fun W => Below W4.heap.size W4 W) (by kernel_rfl) (by kernel_rfl) (by kernel_rfl) (by kernel_rfl) (by kernel_rfl) ((Below.refl _ _).drew) ?_ ?_
  · refine ⟨?c0, ?c1, ?c2, ?c3, ?c4, ?c5, ?c6, ?c7, ?c8, ?c9, ?c10, ?c11, ?c12, ?c13, ?c14, ?c15, ?c16, ?c17, ?c18, trivial⟩
    case c0 => exact runs (ask_copy (guard_none rfl) (.tmp 0) (.inl rfl) (by intro k hk; cases hk; rfl))
    case c1 => exact runs (ask_copy (guard_none rfl) (.tmp 0) (.inl rfl) (by intro k hk; cases hk; rfl))
    case c2 => exact runs (ask_copy (guard_none rfl) (.tmp 3) (.inl rfl) (by intro k hk; cases hk; rfl))
    case c3 => exact runs (ask_call hG (guard_none rfl) _ _ _ #[.int .i64 n, .slice ax lx cx] (.is (.agg (bs hxv))) rfl (by kernel_rfl) rfl rfl (by intro k hk; cases hk; rfl) (fun W hW => (HLeaf.out W (HTr.out.2.2.2.trans (hW.mono HTr.out.2.2.2.size))).mono fun e w' h => ⟨_, h.1, rfl, h.2⟩))
    case c4 => exact runs (ask_copy (guard_none rfl) (.tmp 2) (.inl rfl) (by intro k hk; cases hk; rfl))
    case c5 => exact runs (ask_copy (guard_none rfl) (.tmp 14) (.inl rfl) (by intro k hk; cases hk; rfl))
    case c6 => exact runs (ask_copy (guard_none rfl) (.tmp 5) (.inl rfl) (by intro k hk; cases hk; rfl))
    case c7 => exact runs (ask_load (guard_none rfl) _ (.tmp 15) (.pointer (some ⟨g, 0, none⟩)) (.agg (bs ro)) rfl rfl (by intro k hk; cases hk; rfl) (fun W hW => (HTr.out.2.2.1.keep hW).loads 24 _ Tryd.underlying24 rfl HSro.out))
    case c8 => exact runs (ask_call hG (guard_none rfl) _ _ _ #[.int .i64 n, .agg (bs hxv), .int .u64 (i1 : Int), .int .u64 (m : Int), .slice pp p pc, .agg (bs ro)] (.is (.bool true)) rfl (by kernel_rfl) rfl rfl (by intro k hk; cases hk; rfl) (fun W hW => (HChk.out W (HTr.out.2.2.2.trans (hW.mono HTr.out.2.2.2.size))).mono fun e w' h => ⟨_, h.1, rfl, h.2⟩))
    case c9 => exact runs (ask_copy (guard_none rfl) (.tmp 63) (.inl rfl) (by intro k hk; cases hk; rfl))
    case c10 => exact runs (ask_copy (guard_some rfl rfl rfl) (.tmp 3) (.inl rfl) (by intro k hk; cases hk; rfl))
    case c11 => exact runs (ask_conv_bys (guard_some rfl rfl rfl) (.tmp 65) x X HXs.out rfl (fun y W hW hk => by
      have e : y 65 = (.slice ax lx cx) := hk 65 rfl
      show Bys W (y 65) x
      rw [e]
      exact HX.out.below (Nat.le_refl _) (HTr.out.2.2.2.trans (hW.mono HTr.out.2.2.2.size))) (by intro k hk; cases hk; rfl))
    case c12 => exact runs (ask_copy (guard_some rfl rfl rfl) (.tmp 1) (.inl rfl) (by intro k hk; cases hk; rfl))
    case c13 => exact runs (ask_copy (guard_some rfl rfl rfl) (.tmp 2) (.inl rfl) (by intro k hk; cases hk; rfl))
    case c14 => exact runs (ask_idx (guard_some rfl rfl rfl) _ (.tmp 67) (.tmp 68) (.slice (some pa) m cv) (.int .u64 (i1 : Int)) (.pointer (some (pa.add i1))) rfl rfl rfl (by intro k hk; cases hk; rfl) HIx.out)
    case c15 => exact runs (ask_load (guard_some rfl rfl rfl) _ (.tmp 69) (.pointer (some (pa.add i1))) (.slice at_ lt ct) rfl rfl (by intro k hk; cases hk; rfl) (fun W hW => load_txt W _ _ (HTt.out W (HTr.out.2.2.2.trans (hW.mono HTr.out.2.2.2.size))).1))
    case c16 => exact runs (ask_conv_bys (guard_some rfl rfl rfl) (.tmp 70) t Y HYs.out rfl (fun y W hW hk => by
      have e : y 70 = .slice at_ lt ct := hk 70 rfl
      show Bys W (y 70) t
      rw [e]
      exact (HTt.out W (HTr.out.2.2.2.trans (hW.mono HTr.out.2.2.2.size))).2) (by intro k hk; cases hk; rfl))
    case c17 => exact runs (ask_bin (guard_some rfl rfl rfl) .neq _ _ (.tmp 66) (.tmp 71) (.string X) (.string Y) (.bool false) rfl rfl rfl (by intro k hk; cases hk; rfl) (neq_strs _ _ _ X Y false HXY.out))
    case c18 => exact runs (ask_pick (guard_none rfl) (.tmp 64) (.tmp 72) (.const (.bool false)) true rfl rfl (by intro k hk; cases hk; rfl))
  · intro a' Wc hW hd' hs' hf'
    have t0 : a'.tmps.getD 0 undef = .int .i64 n := hf' 0 rfl
    have t1 : a'.tmps.getD 1 undef = .slice (some pa) m cv := hf' 1 rfl
    have t2 : a'.tmps.getD 2 undef = .int .u64 (i1 : Int) := hf' 2 rfl
    have t3 : a'.tmps.getD 3 undef = .slice ax lx cx := hf' 3 rfl
    have t5 : a'.tmps.getD 5 undef = .slice pp p pc := hf' 5 rfl
    have t10 : a'.tmps.getD 10 undef = .pointer (some ⟨w.heap.size, 0, none⟩) := hf' 10 rfl
    have t12 : a'.tmps.getD 12 undef = .bool false := hf' 12 rfl
    have t13 : a'.tmps.getD 13 undef = .slice pl m cl := hf' 13 rfl
    have t14 : a'.tmps.getD 14 undef = .int .u64 (m : Int) := hf' 14 rfl
    have t15 : a'.tmps.getD 15 undef = .pointer (some ⟨g, 0, none⟩) := hf' 15 rfl
    have t73 : a'.tmps.getD 73 undef = .bool false := hf' 73 rfl
    obtain ⟨us', hus, ha'⟩ := act_open 127 a' hs' hd'
    rw [← hus] at t0 t1 t2 t3 t5 t10 t12 t13 t14 t15 t73
    have el : ((List.range 127).map us').toArray = #[.int .i64 n, .slice (some pa) m cv, .int .u64 (i1 : Int), .slice ax lx cx, us' 4, .slice pp p pc, us' 6, us' 7, us' 8, us' 9, .pointer (some ⟨w.heap.size, 0, none⟩), us' 11, .bool false, .slice pl m cl, .int .u64 (m : Int), .pointer (some ⟨g, 0, none⟩), us' 16, us' 17, us' 18, us' 19, us' 20, us' 21, us' 22, us' 23, us' 24, us' 25, us' 26, us' 27, us' 28, us' 29, us' 30, us' 31, us' 32, us' 33, us' 34, us' 35, us' 36, us' 37, us' 38, us' 39, us' 40, us' 41, us' 42, us' 43, us' 44, us' 45, us' 46, us' 47, us' 48, us' 49, us' 50, us' 51, us' 52, us' 53, us' 54, us' 55, us' 56, us' 57, us' 58, us' 59, us' 60, us' 61, us' 62, us' 63, us' 64, us' 65, us' 66, us' 67, us' 68, us' 69, us' 70, us' 71, us' 72, .bool false, us' 74, us' 75, us' 76, us' 77, us' 78, us' 79, us' 80, us' 81, us' 82, us' 83, us' 84, us' 85, us' 86, us' 87, us' 88, us' 89, us' 90, us' 91, us' 92, us' 93, us' 94, us' 95, us' 96, us' 97, us' 98, us' 99, us' 100, us' 101, us' 102, us' 103, us' 104, us' 105, us' 106, us' 107, us' 108, us' 109, us' 110, us' 111, us' 112, us' 113, us' 114, us' 115, us' 116, us' 117, us' 118, us' 119, us' 120, us' 121, us' 122, us' 123, us' 124, us' 125, us' 126] := by
      show #[us' 0, us' 1, us' 2, us' 3, us' 4, us' 5, us' 6, us' 7, us' 8, us' 9, us' 10, us' 11, us' 12, us' 13, us' 14, us' 15, us' 16, us' 17, us' 18, us' 19, us' 20, us' 21, us' 22, us' 23, us' 24, us' 25, us' 26, us' 27, us' 28, us' 29, us' 30, us' 31, us' 32, us' 33, us' 34, us' 35, us' 36, us' 37, us' 38, us' 39, us' 40, us' 41, us' 42, us' 43, us' 44, us' 45, us' 46, us' 47, us' 48, us' 49, us' 50, us' 51, us' 52, us' 53, us' 54, us' 55, us' 56, us' 57, us' 58, us' 59, us' 60, us' 61, us' 62, us' 63, us' 64, us' 65, us' 66, us' 67, us' 68, us' 69, us' 70, us' 71, us' 72, us' 73, us' 74, us' 75, us' 76, us' 77, us' 78, us' 79, us' 80, us' 81, us' 82, us' 83, us' 84, us' 85, us' 86, us' 87, us' 88, us' 89, us' 90, us' 91, us' 92, us' 93, us' 94, us' 95, us' 96, us' 97, us' 98, us' 99, us' 100, us' 101, us' 102, us' 103, us' 104, us' 105, us' 106, us' 107, us' 108, us' 109, us' 110, us' 111, us' 112, us' 113, us' 114, us' 115, us' 116, us' 117, us' 118, us' 119, us' 120, us' 121, us' 122, us' 123, us' 124, us' 125, us' 126] = _
      rw [t0, t1, t2, t3, t5, t10, t12, t13, t14, t15, t73]
    rw [el] at ha'
    subst ha'
    clear hus t0 t1 t2 t3 t5 t10 t12 t13 t14 t15 t73 el hf' hs' hd'
    have HTr7 := Lib.hid (HTr.out.keep hW)
    clear hW hG HTr
    have HTr := Lib.hid HTr7.out
    clear HTr7
    go_upto_region 11 with fail
    have hG : ∀ W W' : World, Below Wc.heap.size Wc W → Below W.heap.size W W' → Below Wc.heap.size Wc W' := fun W W' h h' => h.trans (h'.mono h.size)
    refine region_skip [(91, .is (.int .i64 n)), (92, .is (.int .u64 (i1 : Int))), (93, .is (.int .u64 (m1 : Int))), (94, .is (.int .u64 (m : Int))), (95, .is (.agg (bs h))), (96, .is (.agg (bs ro))), (97, .is (.slice pp p pc)), (98, .is (.bool true)), (99, .is (.bool true)), (100, .is (.agg (bs h))), (101, .is (.int .i64 n)), (102, .is (.slice pl m cl)), (103, .is (.int .u64 (i1 : Int))), (104, .is (.int .u64 (m1 : Int))), (105, .is (.slice pl m1 cl)), (106, .is (.agg (bs rm))), (107, .is (.bool true)), (108, .is (.bool true))] [0, 1, 2, 5, 10, 12, 108] (fun W => Below Wc.heap.size Wc W) (by kernel_rfl) (by kernel_rfl) (by kernel_rfl) (by kernel_rfl) (by kernel_rfl) ((Below.refl _ _).drew) ?_ ?_
    · refine ⟨?c0, ?c1, ?c2, ?c3, ?c4, ?c5, ?c6, ?c7, ?c8, ?c9, ?c10, ?c11, ?c12, ?c13, ?c14, ?c15, ?c16, ?c17, trivial⟩
      case c0 => exact runs (ask_copy (guard_none rfl) (.tmp 0) (.inl rfl) (by intro k hk; cases hk; rfl))
      case c1 => exact runs (ask_copy (guard_none rfl) (.tmp 2) (.inl rfl) (by intro k hk; cases hk; rfl))
      case c2 => exact runs (ask_bin (guard_none rfl) .add _ _ (.tmp 92) (.const (.int .u64 1)) (.int .u64 (i1 : Int)) (.int .u64 1) (.int .u64 (m1 : Int)) rfl rfl rfl (by intro k hk; cases hk; rfl) (fun W => add_u64d _ _ _ HM1.out (by omega) _ _ _ W))
      case c3 => exact runs (ask_copy (guard_none rfl) (.tmp 14) (.inl rfl) (by intro k hk; cases hk; rfl))
      case c4 => exact runs (ask_load (guard_none rfl) _ (.tmp 10) (.pointer (some ⟨w.heap.size, 0, none⟩)) (.agg (bs h)) rfl rfl (by intro k hk; cases hk; rfl) (fun W hW => (HTr.out.1.keep hW).loads 24 _ Tryd.underlying24 rfl HSh.out))
      case c5 => exact runs (ask_load (guard_none rfl) _ (.tmp 15) (.pointer (some ⟨g, 0, none⟩)) (.agg (bs ro)) rfl rfl (by intro k hk; cases hk; rfl) (fun W hW => (HTr.out.2.2.1.keep hW).loads 24 _ Tryd.underlying24 rfl HSro.out))
      case c6 => exact runs (ask_copy (guard_none rfl) (.tmp 5) (.inl rfl) (by intro k hk; cases hk; rfl))
      case c7 => exact runs (ask_call hG (guard_none rfl) _ _ _ #[.int .i64 n, .int .u64 (m1 : Int), .int .u64 (m : Int), .agg (bs h), .agg (bs ro), .slice pp p pc] (.is (.bool true)) rfl (by kernel_rfl) rfl rfl (by intro k hk; cases hk; rfl) (fun W hW => (HChk2.out W (HTr.out.2.2.2.trans (hW.mono HTr.out.2.2.2.size))).mono fun e w' h => ⟨_, h.1, rfl, h.2⟩))
      case c8 => exact runs (ask_copy (guard_none rfl) (.tmp 98) (.inl rfl) (by intro k hk; cases hk; rfl))
      case c9 => exact runs (ask_load (guard_some rfl rfl rfl) _ (.tmp 10) (.pointer (some ⟨w.heap.size, 0, none⟩)) (.agg (bs h)) rfl rfl (by intro k hk; cases hk; rfl) (fun W hW => (HTr.out.1.keep hW).loads 24 _ Tryd.underlying24 rfl HSh.out))
      case c10 => exact runs (ask_copy (guard_some rfl rfl rfl) (.tmp 0) (.inl rfl) (by intro k hk; cases hk; rfl))
      case c11 => exact runs (ask_copy (guard_some rfl rfl rfl) (.tmp 13) (.inl rfl) (by intro k hk; cases hk; rfl))
      case c12 => exact runs (ask_copy (guard_some rfl rfl rfl) (.tmp 2) (.inl rfl) (by intro k hk; cases hk; rfl))
      case c13 => exact runs (ask_bin (guard_some rfl rfl rfl) .add _ _ (.tmp 103) (.const (.int .u64 1)) (.int .u64 (i1 : Int)) (.int .u64 1) (.int .u64 (m1 : Int)) rfl rfl rfl (by intro k hk; cases hk; rfl) (fun W => add_u64d _ _ _ HM1.out (by omega) _ _ _ W))
      case c14 => exact runs (ask_slice (guard_some rfl rfl rfl) _ (.tmp 102) none (some (.tmp 104)) none (.slice pl m cl) (.slice pl m1 cl) none (some (.int .u64 (m1 : Int))) none rfl rfl rfl rfl rfl (by intro k hk; cases hk; rfl) HSl.out)
      case c15 => exact runs (ask_call hG (guard_some rfl rfl rfl) _ _ _ #[.int .i64 n, .slice pl m1 cl] (.is (.agg (bs rm))) rfl (by kernel_rfl) rfl rfl (by intro k hk; cases hk; rfl) (fun W hW => (HRm.out W (HTr.out.2.1.below (Nat.le_refl _) hW) (HTr.out.2.2.2.trans (hW.mono HTr.out.2.2.2.size))).mono fun e w' h => ⟨_, h.1, rfl, h.2⟩))
      case c16 => exact runs (ask_bin (guard_some rfl rfl rfl) .neq _ _ (.tmp 100) (.tmp 106) (.agg (bs h)) (.agg (bs rm)) (.bool true) rfl rfl rfl (by intro k hk; cases hk; rfl) (HNq.out _ _))
      case c17 => exact runs (ask_pick (guard_none rfl) (.tmp 99) (.tmp 107) (.const (.bool false)) true rfl rfl (by intro k hk; cases hk; rfl))
    · intro a' Wd hW hd' hs' hf'
      have t0 : a'.tmps.getD 0 undef = .int .i64 n := hf' 0 rfl
      have t1 : a'.tmps.getD 1 undef = .slice (some pa) m cv := hf' 1 rfl
      have t2 : a'.tmps.getD 2 undef = .int .u64 (i1 : Int) := hf' 2 rfl
      have t5 : a'.tmps.getD 5 undef = .slice pp p pc := hf' 5 rfl
      have t10 : a'.tmps.getD 10 undef = .pointer (some ⟨w.heap.size, 0, none⟩) := hf' 10 rfl
      have t12 : a'.tmps.getD 12 undef = .bool false := hf' 12 rfl
      have t108 : a'.tmps.getD 108 undef = .bool true := hf' 108 rfl
      obtain ⟨vs', hus, ha'⟩ := act_open 127 a' hs' hd'
      rw [← hus] at t0 t1 t2 t5 t10 t12 t108
      have el : ((List.range 127).map vs').toArray = #[.int .i64 n, .slice (some pa) m cv, .int .u64 (i1 : Int), vs' 3, vs' 4, .slice pp p pc, vs' 6, vs' 7, vs' 8, vs' 9, .pointer (some ⟨w.heap.size, 0, none⟩), vs' 11, .bool false, vs' 13, vs' 14, vs' 15, vs' 16, vs' 17, vs' 18, vs' 19, vs' 20, vs' 21, vs' 22, vs' 23, vs' 24, vs' 25, vs' 26, vs' 27, vs' 28, vs' 29, vs' 30, vs' 31, vs' 32, vs' 33, vs' 34, vs' 35, vs' 36, vs' 37, vs' 38, vs' 39, vs' 40, vs' 41, vs' 42, vs' 43, vs' 44, vs' 45, vs' 46, vs' 47, vs' 48, vs' 49, vs' 50, vs' 51, vs' 52, vs' 53, vs' 54, vs' 55, vs' 56, vs' 57, vs' 58, vs' 59, vs' 60, vs' 61, vs' 62, vs' 63, vs' 64, vs' 65, vs' 66, vs' 67, vs' 68, vs' 69, vs' 70, vs' 71, vs' 72, vs' 73, vs' 74, vs' 75, vs' 76, vs' 77, vs' 78, vs' 79, vs' 80, vs' 81, vs' 82, vs' 83, vs' 84, vs' 85, vs' 86, vs' 87, vs' 88, vs' 89, vs' 90, vs' 91, vs' 92, vs' 93, vs' 94, vs' 95, vs' 96, vs' 97, vs' 98, vs' 99, vs' 100, vs' 101, vs' 102, vs' 103, vs' 104, vs' 105, vs' 106, vs' 107, .bool true, vs' 109, vs' 110, vs' 111, vs' 112, vs' 113, vs' 114, vs' 115, vs' 116, vs' 117, vs' 118, vs' 119, vs' 120, vs' 121, vs' 122, vs' 123, vs' 124, vs' 125, vs' 126] := by
        show #[vs' 0, vs' 1, vs' 2, vs' 3, vs' 4, vs' 5, vs' 6, vs' 7, vs' 8, vs' 9, vs' 10, vs' 11, vs' 12, vs' 13, vs' 14, vs' 15, vs' 16, vs' 17, vs' 18, vs' 19, vs' 20, vs' 21, vs' 22, vs' 23, vs' 24, vs' 25, vs' 26, vs' 27, vs' 28, vs' 29, vs' 30, vs' 31, vs' 32, vs' 33, vs' 34, vs' 35, vs' 36, vs' 37, vs' 38, vs' 39, vs' 40, vs' 41, vs' 42, vs' 43, vs' 44, vs' 45, vs' 46, vs' 47, vs' 48, vs' 49, vs' 50, vs' 51, vs' 52, vs' 53, vs' 54, vs' 55, vs' 56, vs' 57, vs' 58, vs' 59, vs' 60, vs' 61, vs' 62, vs' 63, vs' 64, vs' 65, vs' 66, vs' 67, vs' 68, vs' 69, vs' 70, vs' 71, vs' 72, vs' 73, vs' 74, vs' 75, vs' 76, vs' 77, vs' 78, vs' 79, vs' 80, vs' 81, vs' 82, vs' 83, vs' 84, vs' 85, vs' 86, vs' 87, vs' 88, vs' 89, vs' 90, vs' 91, vs' 92, vs' 93, vs' 94, vs' 95, vs' 96, vs' 97, vs' 98, vs' 99, vs' 100, vs' 101, vs' 102, vs' 103, vs' 104, vs' 105, vs' 106, vs' 107, vs' 108, vs' 109, vs' 110, vs' 111, vs' 112, vs' 113, vs' 114, vs' 115, vs' 116, vs' 117, vs' 118, vs' 119, vs' 120, vs' 121, vs' 122, vs' 123, vs' 124, vs' 125, vs' 126] = _
        rw [t0, t1, t2, t5, t10, t12, t108]
      rw [el] at ha'
      subst ha'
      clear hus t0 t1 t2 t5 t10 t12 t108 el hf' hs' hd'
      have HTrd := Lib.hid (HTr.out.keep hW)
      clear hW hG HTr
      have HTr := Lib.hid HTrd.out
      clear HTrd
      have hm1 := HM1.out
      go_wp2_with (refine wpList_load_row rfl 24 (.tmp 10) rfl w.heap.size rfl 24 (bs h) (0, 0) _ HTr.out.1 Tryd.underlying24 rfl HSh.out ?_)
      refine (HGr.out _ HTr.out.2.2.2).mono ?_
      rintro e V2 ⟨u, rfl, hp2, hb2⟩
      obtain ⟨a1, c1, a2, c2, rfl, hy1, hy2⟩ := hp2
      have HTr2 := Lib.hid (HTr.out.keep hb2)
      have HY1 := Lib.hid hy1
      have HY2 := Lib.hid hy2
      clear hy1 hy2 hb2 HTr
      go_upto_region 13 with (refine wpList_store_row rfl 51 (.tmp 18) (.tmp 117) rfl V2.heap.size (prC a1 PHGr.1.length c1 a2 PHGr.2.length c2) rfl rfl 51 _ (Blk.new V2 _ _) (size_pair _ _ _ _ _ _) rfl (pair_one _ _ _ _ _ _) ?_)
      refine world_cut (fun W => TrW w h (.slice pl m cl) L g ro W ∧ Blk W V2.heap.size 51 (prC a1 PHGr.1.length c1 a2 PHGr.2.length c2) ∧ PairB W (.agg (prC a1 PHGr.1.length c1 a2 PHGr.2.length c2)) PHGr) ⟨HTr2.out.keep (below_new V2 _ _ _), Blk.row (Blk.new V2 _ _) _, ⟨a1, c1, a2, c2, rfl, HY1.out.below (Nat.le_refl _) (below_new V2 _ _ _), HY2.out.below (Nat.le_refl _) (below_new V2 _ _ _)⟩⟩ ?_
      obtain ⟨gp, hgp⟩ : ∃ g, g = V2.heap.size := ⟨_, rfl⟩
      rw [← hgp]
      clear HTr2 HY1 HY2 hgp
      rintro V3 ⟨htr, hk, hq⟩
      have HTr3 := Lib.hid htr
      have HKp := Lib.hid hk
      have HS := Lib.hid (refclash_any n HN.out _ PHGr V3 hq HLHGr.out.1 HLHGr.out.2 (HK.out.below (Nat.le_refl _) HTr3.out.2.2.2))
      rw [HClHGr.out] at HS
      clear htr hk hq
      go_wp2_with (refine wpList_load_guarded rfl 51 (.tmp 18) rfl _ (.agg (prC a1 PHGr.1.length c1 a2 PHGr.2.length c2)) rfl (HKp.out.loads 51 _ Tryd.underlying51 rfl (size_pair _ _ _ _ _ _)) ?_)
      refine HS.out.mono ?_
      rintro e We ⟨rfl, hb7⟩
      have HTr := Lib.hid (HTr3.out.keep hb7)
      clear hb7 HS HTr3 HKp
      go_wp2
      go_ret
      exact ⟨rfl, HTr.out.2.2.2⟩

set_option maxHeartbeats 2000000 in
set_option maxRecDepth 100000 in
theorem clashTrust_TT_F (hp : ClashProg) (hq : LeafProg) (hd : DataProg) (hpc : CheckProg) (hgc : Check16Prog) (n : Int) (hn : I64 n) (T : List Bs) (v : Value) (i : Nat) (x : Bs) (ax : Option Addr) (cx : Nat) (hcx : x.length ≤ cx) (h : Hs) (hh : h.length = 32) (ps : List Hs) (vp : Value) (w : World) (hvT : Txs w v T) (hlT : T.length ≤ 5864062014976) (hvx : Bys w (.slice ax x.length cx) x) (hvp : Hss w vp ps) (ht : Tabs w) (hk : Consts w)
    (hf1 : fewS T ≤ 4000) (hx4 : x.length ≤ 4000) (hp8 : ps.length ≤ 80) (hT1 : 1 ≤ T.length) (i1 : Nat) (hi1 : i1 = i % T.length) (hb : decide ((climbR n (leafH n x) i1 T.length ps).2 = 0 ∧ (climbR n (leafH n x) i1 T.length ps).1 = rootT n T) = true) (hxx : T[i1]? ≠ some x) (hc : checkGR n h (i1 + 1) T.length (rootT n T) ps = false) :
    Calls Tryd.prog 12 #[.int .i64 n, v, .int .u64 (i : Int), .slice ax x.length cx, .agg (bs h), vp] w fun e w' => e = .returned (.bool true) ∧ Below w.heap.size w w' := by
  have HAw := Lib.hid (fun (W : World) (hW : Below w.heap.size w W) => awake17_any hp W (ht.below (Nat.le_refl _) hW))
  have HF1 := Lib.hid (fun (W : World) (hW : Below w.heap.size w W) => few17_any T v W (hvT.below (Nat.le_refl _) hW) hlT)
  rw [decide_eq_true hf1] at HF1
  have hsT := fewS_shorts hf1
  have HSh := Lib.hid (size_hash (cs := bs h) (by rw [bs_size, hh]))
  obtain ⟨lx, hx⟩ : ∃ l, l = x.length := ⟨_, rfl⟩
  rw [← hx] at hvx hx4 hcx ⊢
  obtain ⟨pp, pc, rfl, _⟩ := hvp.form
  obtain ⟨p, hpp⟩ : ∃ p, p = ps.length := ⟨_, rfl⟩
  rw [← hpp] at hvp hp8 ⊢
  obtain ⟨pv, cv, rfl, hcv⟩ := hvT.form
  obtain ⟨m, hm⟩ : ∃ m, m = T.length := ⟨_, rfl⟩
  have hbT := hb
  have hcT := hc
  rw [← hm] at hvT hlT hcv HF1 hT1 hi1 hb hc ⊢
  have hm80 : m ≤ 80 := by rw [hm]; exact hsT.few
  have hi1m : i1 < m := by rw [hi1]; exact Nat.mod_lt _ (by omega)
  have hrem : (i : Int) % (m : Int) = (i1 : Int) := by rw [hi1]; simp
  have HRem := Lib.hid hrem
  have d1 : decide ((lx : Int) > 4000) = false := decide_eq_false (by omega)
  have d2 : decide ((p : Int) > 80) = false := decide_eq_false (by omega)
  have d3 : ((m : Int) == 0) = false := by simp; omega
  have hmw : IntKind.u64.wrap (m : Int) = (m : Int) := by rw [IntKind.wrap_u64]; omega
  obtain ⟨t, htt⟩ : ∃ t, T[i1]? = some t := ⟨T[i1]'(by omega), List.getElem?_eq_getElem _⟩
  obtain ⟨pa, at_, ct, rfl, htc, htb⟩ := hvT.at_ htt
  obtain ⟨lt, hlt⟩ : ∃ l, l = t.length := ⟨_, rfl⟩
  rw [← hlt] at htc htb
  have HTt := Lib.hid (fun (W : World) (hW : Below w.heap.size w W) => (⟨by rw [hW.cell (World.block_lt_of_cell? w _ htc)]; exact htc, htb.below (Nat.le_refl _) hW⟩ : W.cell? (pa.add i1) = some (.slice at_ lt ct) ∧ Bys W (.slice at_ lt ct) t))
  have HIx := Lib.hid (fun W => txs_indexU W pa m cv i1 hi1m)
  have HX := Lib.hid hvx
  obtain ⟨X, Y, hX, hY, hXY⟩ := strs_of x t
  have HXs := Lib.hid hX
  have HYs := Lib.hid hY
  obtain ⟨L, hL⟩ : ∃ L, L = T.map (leafH n) := ⟨_, rfl⟩
  have hLl : L.length = m := by rw [hL, List.length_map, hm]
  obtain ⟨ro, hro, hro32⟩ : ∃ r, r = rootT n T ∧ r.length = 32 := ⟨_, rfl, rootT_length _ _⟩
  obtain ⟨hxv, hhx, hhx32⟩ : ∃ r, r = leafH n x ∧ r.length = 32 := ⟨_, rfl, leafH_length _ _⟩
  obtain ⟨m1, hm1⟩ : ∃ m1, m1 = i1 + 1 := ⟨_, rfl⟩
  have HM1 := Lib.hid (show (i1 : Int) + 1 = (m1 : Int) by omega)
  have hm1m : m1 ≤ m := by omega
  have HSro := Lib.hid (size_hash (cs := bs ro) (by rw [bs_size, hro32]))
  have Hro32 := Lib.hid hro32
  have HLeaves := Lib.hid (fun (W : World) (hW : Below w.heap.size w W) => refleaves_any n hn T (.slice (some pa) m cv) W (hvT.below (Nat.le_refl _) hW) hsT (hk.below (Nat.le_refl _) hW))
  rw [← hL] at HLeaves
  have HRoot := Lib.hid (fun (W : World) (u : Value) (hW : Below w.heap.size w W) (hu : Hss W u L) => hq.root n L u W hn hu (by omega) (ht.below (Nat.le_refl _) hW))
  rw [show rootH n L = ro by rw [hL, hro]; rfl] at HRoot
  have HLeaf := Lib.hid (fun (W : World) (hW : Below w.heap.size w W) => hd.leaf n x (.slice ax lx cx) W hn (hvx.below (Nat.le_refl _) hW) ⟨_, _, _, rfl, hcx⟩ (by omega) (ht.below (Nat.le_refl _) hW))
  rw [← hhx] at HLeaf
  have HChk := Lib.hid (fun (W : World) (hW : Below w.heap.size w W) => hpc n hxv i1 m ps (.slice pp p pc) ro W hn hhx32 hro32 (by omega) (by omega) (hvp.below (Nat.le_refl _) hW) (by omega) (ht.below (Nat.le_refl _) hW))
  rw [← hhx, ← hro] at hb
  rw [hb] at HChk
  have HChk2 := Lib.hid (fun (W : World) (hW : Below w.heap.size w W) => hgc n h m1 m ro ps (.slice pp p pc) W hn hh hro32 (by omega) (by omega) (hvp.below (Nat.le_refl _) hW) (by omega) (ht.below (Nat.le_refl _) hW))
  rw [← hm1, ← hro] at hc
  rw [hc] at HChk2
  have HN := Lib.hid hn
  have HK := Lib.hid hk
  have HXY := Lib.hid (show (X.toList == Y.toList) = !true by rw [hXY]; refine decide_eq_false fun e => hxx ?_; rw [htt, e])
  obtain ⟨hb1, hb2⟩ := of_decide_eq_true hbT
  obtain ⟨e0, e1⟩ := pathC_found hvp.all hb1 hb2 hxx
  have hlen := pathC_len n (i := i1) (x := x) (p := ps) hsT (by omega) hvp.all
  have HPa := Lib.hid (fun (W : World) (hW : Below w.heap.size w W) => hp.path n T i1 x ps (.slice (some pa) m cv) (.slice ax lx cx) (.slice pp p pc) W hn (hvT.below (Nat.le_refl _) hW) hsT (by omega) (hvx.below (Nat.le_refl _) hW) (by omega) (hvp.below (Nat.le_refl _) hW) (by omega) (ht.below (Nat.le_refl _) hW))
  rw [e0] at HPa
  rw [show ((0 : Nat) : Int) = 0 from rfl] at HPa
  obtain ⟨PHPa, hPHPa⟩ : ∃ P, P = (pathC n T i1 x ps).1 := ⟨_, rfl⟩
  rw [← hPHPa] at HPa e1 hlen
  have HClHPa := Lib.hid e1
  have HLHPa := Lib.hid hlen
  clear hb1 hb2 e0 e1 hlen hPHPa
  clear hp hq hd hpc hgc hn hvT hlT hvx hvp ht hk hf1 hsT hbT hcT hb hc hi1 hrem htt htc htb hlt hX hY hXY hL hro hro32 hhx hhx32 hm1 hx hpp hm hh hxx
  go_enter Tryd.func12, Tryd.ntmps12
  go_upto_region 1 with fail
  refine world_cut (fun W => Blk W w.heap.size 24 (bs h) ∧ Below w.heap.size w W) ⟨Blk.new w _ _, (Below.refl _ _).alloc (Nat.le_refl _) _⟩ ?_
  rintro W0 ⟨hbx, hb0⟩
  have HBx0 := Lib.hid hbx
  have HB0 := Lib.hid hb0
  clear hbx hb0
  go_wp2_with fail
  refine (HAw.out _ HB0.out).mono ?_
  rintro e W1 ⟨rfl, hb1⟩
  have HB1 := Lib.hid (HB0.out.trans (hb1.mono HB0.out.size))
  have HBx1 := Lib.hid (HBx0.out.keep hb1)
  clear hb1 HB0 HBx0
  go_wp2_with fail
  refine (HF1.out _ HB1.out).mono ?_
  rintro e w2 ⟨rfl, rfl⟩
  clear HF1
  go_wp2_with fail
  refine (HLeaves.out _ HB1.out).mono ?_
  rintro e W2 ⟨u, rfl, ho2, hb2⟩
  have hu2 := ho2.hss
  obtain ⟨pl, cl, rfl, hlc⟩ := hu2.form
  rw [hLl] at hu2 hlc ⊢
  have HU2 := Lib.hid hu2
  have HBx2 := Lib.hid (HBx1.out.keep hb2)
  have HB2 := Lib.hid (HB1.out.trans (hb2.mono HB1.out.size))
  clear ho2 hu2 hb2 HLeaves HBx1 HB1
  go_wp2_with fail
  refine (HRoot.out _ _ HB2.out HU2.out).mono ?_
  rintro e W3 ⟨rfl, hb3⟩
  have HU3 := Lib.hid (HU2.out.below (Nat.le_refl _) hb3)
  have HBx3 := Lib.hid (HBx2.out.keep hb3)
  have HB3 := Lib.hid (HB2.out.trans (hb3.mono HB2.out.size))
  clear hb3 HRoot HU2 HBx2 HB2
  go_upto_region 6 with (refine wpList_store_row rfl 24 (.tmp 15) (.tmp 51) rfl W3.heap.size (bs ro) rfl rfl 24 _ (Blk.new W3 _ _) HSro.out (by simp [bs_size, Hro32.out]) (bs_one _) ?_)
  obtain ⟨g, hg⟩ : ∃ g, g = W3.heap.size := ⟨_, rfl⟩
  refine world_cut (fun W => TrW w h (.slice pl m cl) L g ro W) ⟨HBx3.out.keep (below_new W3 _ _ _), HU3.out.below (Nat.le_refl _) (below_new W3 _ _ _), by rw [hg]; exact Blk.row (Blk.new W3 _ _) _, HB3.out.trans ((below_new W3 _ _ _).mono HB3.out.size)⟩ ?_
  rw [← hg]
  clear hg HU3 HBx3 HB3
  intro W4 hW4
  have HTr := Lib.hid hW4
  clear hW4
  go_upto_region 7 with fail
  rw [HRem.out]
  have hG : ∀ W W' : World, Below W4.heap.size W4 W → Below W.heap.size W W' → Below W4.heap.size W4 W' := fun W W' h h' => h.trans (h'.mono h.size)
  refine region_skip [(55, .is (.int .i64 n)), (56, .is (.int .i64 n)), (57, .is (.slice ax lx cx)), (58, .is (.agg (bs hxv))), (59, .is (.int .u64 (i1 : Int))), (60, .is (.int .u64 (m : Int))), (61, .is (.slice pp p pc)), (62, .is (.agg (bs ro))), (63, .is (.bool true)), (64, .is (.bool true)), (65, .is (.slice ax lx cx)), (66, .is (.string X)), (67, .is (.slice (some pa) m cv)), (68, .is (.int .u64 (i1 : Int))), (69, .is (.pointer (some (pa.add i1)))), (70, .is (.slice at_ lt ct)), (71, .is (.string Y)), (72, .is (.bool true)), (73, .is (.bool true))] [0, 1, 2, 3, 5, 10, 12, 13, 14, 15, 73] (fun W => Below W4.heap.size W4 W) (by kernel_rfl) (by kernel_rfl) (by kernel_rfl) (by kernel_rfl) (by kernel_rfl) ((Below.refl _ _).drew) ?_ ?_
  · refine ⟨?c0, ?c1, ?c2, ?c3, ?c4, ?c5, ?c6, ?c7, ?c8, ?c9, ?c10, ?c11, ?c12, ?c13, ?c14, ?c15, ?c16, ?c17, ?c18, trivial⟩
    case c0 => exact runs (ask_copy (guard_none rfl) (.tmp 0) (.inl rfl) (by intro k hk; cases hk; rfl))
    case c1 => exact runs (ask_copy (guard_none rfl) (.tmp 0) (.inl rfl) (by intro k hk; cases hk; rfl))
    case c2 => exact runs (ask_copy (guard_none rfl) (.tmp 3) (.inl rfl) (by intro k hk; cases hk; rfl))
    case c3 => exact runs (ask_call hG (guard_none rfl) _ _ _ #[.int .i64 n, .slice ax lx cx] (.is (.agg (bs hxv))) rfl (by kernel_rfl) rfl rfl (by intro k hk; cases hk; rfl) (fun W hW => (HLeaf.out W (HTr.out.2.2.2.trans (hW.mono HTr.out.2.2.2.size))).mono fun e w' h => ⟨_, h.1, rfl, h.2⟩))
    case c4 => exact runs (ask_copy (guard_none rfl) (.tmp 2) (.inl rfl) (by intro k hk; cases hk; rfl))
    case c5 => exact runs (ask_copy (guard_none rfl) (.tmp 14) (.inl rfl) (by intro k hk; cases hk; rfl))
    case c6 => exact runs (ask_copy (guard_none rfl) (.tmp 5) (.inl rfl) (by intro k hk; cases hk; rfl))
    case c7 => exact runs (ask_load (guard_none rfl) _ (.tmp 15) (.pointer (some ⟨g, 0, none⟩)) (.agg (bs ro)) rfl rfl (by intro k hk; cases hk; rfl) (fun W hW => (HTr.out.2.2.1.keep hW).loads 24 _ Tryd.underlying24 rfl HSro.out))
    case c8 => exact runs (ask_call hG (guard_none rfl) _ _ _ #[.int .i64 n, .agg (bs hxv), .int .u64 (i1 : Int), .int .u64 (m : Int), .slice pp p pc, .agg (bs ro)] (.is (.bool true)) rfl (by kernel_rfl) rfl rfl (by intro k hk; cases hk; rfl) (fun W hW => (HChk.out W (HTr.out.2.2.2.trans (hW.mono HTr.out.2.2.2.size))).mono fun e w' h => ⟨_, h.1, rfl, h.2⟩))
    case c9 => exact runs (ask_copy (guard_none rfl) (.tmp 63) (.inl rfl) (by intro k hk; cases hk; rfl))
    case c10 => exact runs (ask_copy (guard_some rfl rfl rfl) (.tmp 3) (.inl rfl) (by intro k hk; cases hk; rfl))
    case c11 => exact runs (ask_conv_bys (guard_some rfl rfl rfl) (.tmp 65) x X HXs.out rfl (fun y W hW hk => by
      have e : y 65 = (.slice ax lx cx) := hk 65 rfl
      show Bys W (y 65) x
      rw [e]
      exact HX.out.below (Nat.le_refl _) (HTr.out.2.2.2.trans (hW.mono HTr.out.2.2.2.size))) (by intro k hk; cases hk; rfl))
    case c12 => exact runs (ask_copy (guard_some rfl rfl rfl) (.tmp 1) (.inl rfl) (by intro k hk; cases hk; rfl))
    case c13 => exact runs (ask_copy (guard_some rfl rfl rfl) (.tmp 2) (.inl rfl) (by intro k hk; cases hk; rfl))
    case c14 => exact runs (ask_idx (guard_some rfl rfl rfl) _ (.tmp 67) (.tmp 68) (.slice (some pa) m cv) (.int .u64 (i1 : Int)) (.pointer (some (pa.add i1))) rfl rfl rfl (by intro k hk; cases hk; rfl) HIx.out)
    case c15 => exact runs (ask_load (guard_some rfl rfl rfl) _ (.tmp 69) (.pointer (some (pa.add i1))) (.slice at_ lt ct) rfl rfl (by intro k hk; cases hk; rfl) (fun W hW => load_txt W _ _ (HTt.out W (HTr.out.2.2.2.trans (hW.mono HTr.out.2.2.2.size))).1))
    case c16 => exact runs (ask_conv_bys (guard_some rfl rfl rfl) (.tmp 70) t Y HYs.out rfl (fun y W hW hk => by
      have e : y 70 = .slice at_ lt ct := hk 70 rfl
      show Bys W (y 70) t
      rw [e]
      exact (HTt.out W (HTr.out.2.2.2.trans (hW.mono HTr.out.2.2.2.size))).2) (by intro k hk; cases hk; rfl))
    case c17 => exact runs (ask_bin (guard_some rfl rfl rfl) .neq _ _ (.tmp 66) (.tmp 71) (.string X) (.string Y) (.bool true) rfl rfl rfl (by intro k hk; cases hk; rfl) (neq_strs _ _ _ X Y true HXY.out))
    case c18 => exact runs (ask_pick (guard_none rfl) (.tmp 64) (.tmp 72) (.const (.bool false)) true rfl rfl (by intro k hk; cases hk; rfl))
  · intro a' W7 hW hd' hs' hf'
    have t0 : a'.tmps.getD 0 undef = .int .i64 n := hf' 0 rfl
    have t1 : a'.tmps.getD 1 undef = .slice (some pa) m cv := hf' 1 rfl
    have t2 : a'.tmps.getD 2 undef = .int .u64 (i1 : Int) := hf' 2 rfl
    have t3 : a'.tmps.getD 3 undef = .slice ax lx cx := hf' 3 rfl
    have t5 : a'.tmps.getD 5 undef = .slice pp p pc := hf' 5 rfl
    have t10 : a'.tmps.getD 10 undef = .pointer (some ⟨w.heap.size, 0, none⟩) := hf' 10 rfl
    have t12 : a'.tmps.getD 12 undef = .bool false := hf' 12 rfl
    have t13 : a'.tmps.getD 13 undef = .slice pl m cl := hf' 13 rfl
    have t14 : a'.tmps.getD 14 undef = .int .u64 (m : Int) := hf' 14 rfl
    have t15 : a'.tmps.getD 15 undef = .pointer (some ⟨g, 0, none⟩) := hf' 15 rfl
    have t73 : a'.tmps.getD 73 undef = .bool true := hf' 73 rfl
    obtain ⟨us', hus, ha'⟩ := act_open 127 a' hs' hd'
    rw [← hus] at t0 t1 t2 t3 t5 t10 t12 t13 t14 t15 t73
    have el : ((List.range 127).map us').toArray = #[.int .i64 n, .slice (some pa) m cv, .int .u64 (i1 : Int), .slice ax lx cx, us' 4, .slice pp p pc, us' 6, us' 7, us' 8, us' 9, .pointer (some ⟨w.heap.size, 0, none⟩), us' 11, .bool false, .slice pl m cl, .int .u64 (m : Int), .pointer (some ⟨g, 0, none⟩), us' 16, us' 17, us' 18, us' 19, us' 20, us' 21, us' 22, us' 23, us' 24, us' 25, us' 26, us' 27, us' 28, us' 29, us' 30, us' 31, us' 32, us' 33, us' 34, us' 35, us' 36, us' 37, us' 38, us' 39, us' 40, us' 41, us' 42, us' 43, us' 44, us' 45, us' 46, us' 47, us' 48, us' 49, us' 50, us' 51, us' 52, us' 53, us' 54, us' 55, us' 56, us' 57, us' 58, us' 59, us' 60, us' 61, us' 62, us' 63, us' 64, us' 65, us' 66, us' 67, us' 68, us' 69, us' 70, us' 71, us' 72, .bool true, us' 74, us' 75, us' 76, us' 77, us' 78, us' 79, us' 80, us' 81, us' 82, us' 83, us' 84, us' 85, us' 86, us' 87, us' 88, us' 89, us' 90, us' 91, us' 92, us' 93, us' 94, us' 95, us' 96, us' 97, us' 98, us' 99, us' 100, us' 101, us' 102, us' 103, us' 104, us' 105, us' 106, us' 107, us' 108, us' 109, us' 110, us' 111, us' 112, us' 113, us' 114, us' 115, us' 116, us' 117, us' 118, us' 119, us' 120, us' 121, us' 122, us' 123, us' 124, us' 125, us' 126] := by
      show #[us' 0, us' 1, us' 2, us' 3, us' 4, us' 5, us' 6, us' 7, us' 8, us' 9, us' 10, us' 11, us' 12, us' 13, us' 14, us' 15, us' 16, us' 17, us' 18, us' 19, us' 20, us' 21, us' 22, us' 23, us' 24, us' 25, us' 26, us' 27, us' 28, us' 29, us' 30, us' 31, us' 32, us' 33, us' 34, us' 35, us' 36, us' 37, us' 38, us' 39, us' 40, us' 41, us' 42, us' 43, us' 44, us' 45, us' 46, us' 47, us' 48, us' 49, us' 50, us' 51, us' 52, us' 53, us' 54, us' 55, us' 56, us' 57, us' 58, us' 59, us' 60, us' 61, us' 62, us' 63, us' 64, us' 65, us' 66, us' 67, us' 68, us' 69, us' 70, us' 71, us' 72, us' 73, us' 74, us' 75, us' 76, us' 77, us' 78, us' 79, us' 80, us' 81, us' 82, us' 83, us' 84, us' 85, us' 86, us' 87, us' 88, us' 89, us' 90, us' 91, us' 92, us' 93, us' 94, us' 95, us' 96, us' 97, us' 98, us' 99, us' 100, us' 101, us' 102, us' 103, us' 104, us' 105, us' 106, us' 107, us' 108, us' 109, us' 110, us' 111, us' 112, us' 113, us' 114, us' 115, us' 116, us' 117, us' 118, us' 119, us' 120, us' 121, us' 122, us' 123, us' 124, us' 125, us' 126] = _
      rw [t0, t1, t2, t3, t5, t10, t12, t13, t14, t15, t73]
    rw [el] at ha'
    subst ha'
    clear hus t0 t1 t2 t3 t5 t10 t12 t13 t14 t15 t73 el hf' hs' hd'
    have HTr7 := Lib.hid (HTr.out.keep hW)
    clear hW hG HTr
    have HTr := Lib.hid HTr7.out
    clear HTr7
    go_wp2_with (fail)
    refine (HPa.out _ HTr.out.2.2.2).mono ?_
    rintro e V2 ⟨u, rfl, hp2, hb2⟩
    obtain ⟨a1, c1, a2, c2, rfl, hy1, hy2⟩ := hp2
    have HTr2 := Lib.hid (HTr.out.keep hb2)
    have HY1 := Lib.hid hy1
    have HY2 := Lib.hid hy2
    clear hy1 hy2 hb2 HTr
    go_upto_region 9 with (refine wpList_store_row rfl 51 (.tmp 16) (.tmp 81) rfl V2.heap.size (prC a1 PHPa.1.length c1 a2 PHPa.2.length c2) rfl rfl 51 _ (Blk.new V2 _ _) (size_pair _ _ _ _ _ _) rfl (pair_one _ _ _ _ _ _) ?_)
    refine world_cut (fun W => TrW w h (.slice pl m cl) L g ro W ∧ Blk W V2.heap.size 51 (prC a1 PHPa.1.length c1 a2 PHPa.2.length c2) ∧ PairB W (.agg (prC a1 PHPa.1.length c1 a2 PHPa.2.length c2)) PHPa) ⟨HTr2.out.keep (below_new V2 _ _ _), Blk.row (Blk.new V2 _ _) _, ⟨a1, c1, a2, c2, rfl, HY1.out.below (Nat.le_refl _) (below_new V2 _ _ _), HY2.out.below (Nat.le_refl _) (below_new V2 _ _ _)⟩⟩ ?_
    obtain ⟨gp, hgp⟩ : ∃ g, g = V2.heap.size := ⟨_, rfl⟩
    rw [← hgp]
    clear HTr2 HY1 HY2 hgp
    rintro V3 ⟨htr, hk, hq⟩
    have HTr3 := Lib.hid htr
    have HKp := Lib.hid hk
    have HS := Lib.hid (refclash_any n HN.out _ PHPa V3 hq HLHPa.out.1 HLHPa.out.2 (HK.out.below (Nat.le_refl _) HTr3.out.2.2.2))
    rw [HClHPa.out] at HS
    clear htr hk hq
    go_wp2_with (refine wpList_load_guarded rfl 51 (.tmp 16) rfl _ (.agg (prC a1 PHPa.1.length c1 a2 PHPa.2.length c2)) rfl (HKp.out.loads 51 _ Tryd.underlying51 rfl (size_pair _ _ _ _ _ _)) ?_)
    refine HS.out.mono ?_
    rintro e Wc ⟨rfl, hb7⟩
    have HTr := Lib.hid (HTr3.out.keep hb7)
    clear hb7 HS HTr3 HKp
    go_upto_region 11 with fail
    have hG : ∀ W W' : World, Below Wc.heap.size Wc W → Below W.heap.size W W' → Below Wc.heap.size Wc W' := fun W W' h h' => h.trans (h'.mono h.size)
    refine region_skip [(91, .is (.int .i64 n)), (92, .is (.int .u64 (i1 : Int))), (93, .is (.int .u64 (m1 : Int))), (94, .is (.int .u64 (m : Int))), (95, .is (.agg (bs h))), (96, .is (.agg (bs ro))), (97, .is (.slice pp p pc)), (98, .is (.bool false)), (99, .is (.bool false)), (100, .is undef), (101, .is undef), (102, .is undef), (103, .is undef), (104, .is undef), (105, .is undef), (106, .is undef), (107, .is undef), (108, .is (.bool false))] [0, 1, 2, 5, 10, 12, 108] (fun W => Below Wc.heap.size Wc W) (by kernel_rfl) (by kernel_rfl) (by kernel_rfl) (by kernel_rfl) (by kernel_rfl) ((Below.refl _ _).drew) ?_ ?_
    · refine ⟨?c0, ?c1, ?c2, ?c3, ?c4, ?c5, ?c6, ?c7, ?c8, ?c9, ?c10, ?c11, ?c12, ?c13, ?c14, ?c15, ?c16, ?c17, trivial⟩
      case c0 => exact runs (ask_copy (guard_none rfl) (.tmp 0) (.inl rfl) (by intro k hk; cases hk; rfl))
      case c1 => exact runs (ask_copy (guard_none rfl) (.tmp 2) (.inl rfl) (by intro k hk; cases hk; rfl))
      case c2 => exact runs (ask_bin (guard_none rfl) .add _ _ (.tmp 92) (.const (.int .u64 1)) (.int .u64 (i1 : Int)) (.int .u64 1) (.int .u64 (m1 : Int)) rfl rfl rfl (by intro k hk; cases hk; rfl) (fun W => add_u64d _ _ _ HM1.out (by omega) _ _ _ W))
      case c3 => exact runs (ask_copy (guard_none rfl) (.tmp 14) (.inl rfl) (by intro k hk; cases hk; rfl))
      case c4 => exact runs (ask_load (guard_none rfl) _ (.tmp 10) (.pointer (some ⟨w.heap.size, 0, none⟩)) (.agg (bs h)) rfl rfl (by intro k hk; cases hk; rfl) (fun W hW => (HTr.out.1.keep hW).loads 24 _ Tryd.underlying24 rfl HSh.out))
      case c5 => exact runs (ask_load (guard_none rfl) _ (.tmp 15) (.pointer (some ⟨g, 0, none⟩)) (.agg (bs ro)) rfl rfl (by intro k hk; cases hk; rfl) (fun W hW => (HTr.out.2.2.1.keep hW).loads 24 _ Tryd.underlying24 rfl HSro.out))
      case c6 => exact runs (ask_copy (guard_none rfl) (.tmp 5) (.inl rfl) (by intro k hk; cases hk; rfl))
      case c7 => exact runs (ask_call hG (guard_none rfl) _ _ _ #[.int .i64 n, .int .u64 (m1 : Int), .int .u64 (m : Int), .agg (bs h), .agg (bs ro), .slice pp p pc] (.is (.bool false)) rfl (by kernel_rfl) rfl rfl (by intro k hk; cases hk; rfl) (fun W hW => (HChk2.out W (HTr.out.2.2.2.trans (hW.mono HTr.out.2.2.2.size))).mono fun e w' h => ⟨_, h.1, rfl, h.2⟩))
      case c8 => exact runs (ask_copy (guard_none rfl) (.tmp 98) (.inl rfl) (by intro k hk; cases hk; rfl))
      case c9 => exact skips 8 true 99 (.bool false) rfl rfl rfl (by simp) (by intro k hk; cases hk; rfl)
      case c10 => exact skips 8 true 99 (.bool false) rfl rfl rfl (by simp) (by intro k hk; cases hk; rfl)
      case c11 => exact skips 8 true 99 (.bool false) rfl rfl rfl (by simp) (by intro k hk; cases hk; rfl)
      case c12 => exact skips 8 true 99 (.bool false) rfl rfl rfl (by simp) (by intro k hk; cases hk; rfl)
      case c13 => exact skips 8 true 99 (.bool false) rfl rfl rfl (by simp) (by intro k hk; cases hk; rfl)
      case c14 => exact skips 8 true 99 (.bool false) rfl rfl rfl (by simp) (by intro k hk; cases hk; rfl)
      case c15 => exact skips 8 true 99 (.bool false) rfl rfl rfl (by simp) (by intro k hk; cases hk; rfl)
      case c16 => exact skips 8 true 99 (.bool false) rfl rfl rfl (by simp) (by intro k hk; cases hk; rfl)
      case c17 => exact runs (ask_pick (guard_none rfl) (.tmp 99) (.tmp 107) (.const (.bool false)) false rfl rfl (by intro k hk; cases hk; rfl))
    · intro a' Wd hW hd' hs' hf'
      have t0 : a'.tmps.getD 0 undef = .int .i64 n := hf' 0 rfl
      have t1 : a'.tmps.getD 1 undef = .slice (some pa) m cv := hf' 1 rfl
      have t2 : a'.tmps.getD 2 undef = .int .u64 (i1 : Int) := hf' 2 rfl
      have t5 : a'.tmps.getD 5 undef = .slice pp p pc := hf' 5 rfl
      have t10 : a'.tmps.getD 10 undef = .pointer (some ⟨w.heap.size, 0, none⟩) := hf' 10 rfl
      have t12 : a'.tmps.getD 12 undef = .bool false := hf' 12 rfl
      have t108 : a'.tmps.getD 108 undef = .bool false := hf' 108 rfl
      obtain ⟨vs', hus, ha'⟩ := act_open 127 a' hs' hd'
      rw [← hus] at t0 t1 t2 t5 t10 t12 t108
      have el : ((List.range 127).map vs').toArray = #[.int .i64 n, .slice (some pa) m cv, .int .u64 (i1 : Int), vs' 3, vs' 4, .slice pp p pc, vs' 6, vs' 7, vs' 8, vs' 9, .pointer (some ⟨w.heap.size, 0, none⟩), vs' 11, .bool false, vs' 13, vs' 14, vs' 15, vs' 16, vs' 17, vs' 18, vs' 19, vs' 20, vs' 21, vs' 22, vs' 23, vs' 24, vs' 25, vs' 26, vs' 27, vs' 28, vs' 29, vs' 30, vs' 31, vs' 32, vs' 33, vs' 34, vs' 35, vs' 36, vs' 37, vs' 38, vs' 39, vs' 40, vs' 41, vs' 42, vs' 43, vs' 44, vs' 45, vs' 46, vs' 47, vs' 48, vs' 49, vs' 50, vs' 51, vs' 52, vs' 53, vs' 54, vs' 55, vs' 56, vs' 57, vs' 58, vs' 59, vs' 60, vs' 61, vs' 62, vs' 63, vs' 64, vs' 65, vs' 66, vs' 67, vs' 68, vs' 69, vs' 70, vs' 71, vs' 72, vs' 73, vs' 74, vs' 75, vs' 76, vs' 77, vs' 78, vs' 79, vs' 80, vs' 81, vs' 82, vs' 83, vs' 84, vs' 85, vs' 86, vs' 87, vs' 88, vs' 89, vs' 90, vs' 91, vs' 92, vs' 93, vs' 94, vs' 95, vs' 96, vs' 97, vs' 98, vs' 99, vs' 100, vs' 101, vs' 102, vs' 103, vs' 104, vs' 105, vs' 106, vs' 107, .bool false, vs' 109, vs' 110, vs' 111, vs' 112, vs' 113, vs' 114, vs' 115, vs' 116, vs' 117, vs' 118, vs' 119, vs' 120, vs' 121, vs' 122, vs' 123, vs' 124, vs' 125, vs' 126] := by
        show #[vs' 0, vs' 1, vs' 2, vs' 3, vs' 4, vs' 5, vs' 6, vs' 7, vs' 8, vs' 9, vs' 10, vs' 11, vs' 12, vs' 13, vs' 14, vs' 15, vs' 16, vs' 17, vs' 18, vs' 19, vs' 20, vs' 21, vs' 22, vs' 23, vs' 24, vs' 25, vs' 26, vs' 27, vs' 28, vs' 29, vs' 30, vs' 31, vs' 32, vs' 33, vs' 34, vs' 35, vs' 36, vs' 37, vs' 38, vs' 39, vs' 40, vs' 41, vs' 42, vs' 43, vs' 44, vs' 45, vs' 46, vs' 47, vs' 48, vs' 49, vs' 50, vs' 51, vs' 52, vs' 53, vs' 54, vs' 55, vs' 56, vs' 57, vs' 58, vs' 59, vs' 60, vs' 61, vs' 62, vs' 63, vs' 64, vs' 65, vs' 66, vs' 67, vs' 68, vs' 69, vs' 70, vs' 71, vs' 72, vs' 73, vs' 74, vs' 75, vs' 76, vs' 77, vs' 78, vs' 79, vs' 80, vs' 81, vs' 82, vs' 83, vs' 84, vs' 85, vs' 86, vs' 87, vs' 88, vs' 89, vs' 90, vs' 91, vs' 92, vs' 93, vs' 94, vs' 95, vs' 96, vs' 97, vs' 98, vs' 99, vs' 100, vs' 101, vs' 102, vs' 103, vs' 104, vs' 105, vs' 106, vs' 107, vs' 108, vs' 109, vs' 110, vs' 111, vs' 112, vs' 113, vs' 114, vs' 115, vs' 116, vs' 117, vs' 118, vs' 119, vs' 120, vs' 121, vs' 122, vs' 123, vs' 124, vs' 125, vs' 126] = _
        rw [t0, t1, t2, t5, t10, t12, t108]
      rw [el] at ha'
      subst ha'
      clear hus t0 t1 t2 t5 t10 t12 t108 el hf' hs' hd'
      have HTrd := Lib.hid (HTr.out.keep hW)
      clear hW hG HTr
      go_wp2
      go_ret
      exact ⟨rfl, HTrd.out.2.2.2⟩

set_option maxHeartbeats 2000000 in
set_option maxRecDepth 100000 in
theorem clashTrust_TT_TF (hp : ClashProg) (hq : LeafProg) (hd : DataProg) (hpc : CheckProg) (hgc : Check16Prog) (n : Int) (hn : I64 n) (T : List Bs) (v : Value) (i : Nat) (x : Bs) (ax : Option Addr) (cx : Nat) (hcx : x.length ≤ cx) (h : Hs) (hh : h.length = 32) (ps : List Hs) (vp : Value) (w : World) (hvT : Txs w v T) (hlT : T.length ≤ 5864062014976) (hvx : Bys w (.slice ax x.length cx) x) (hvp : Hss w vp ps) (ht : Tabs w) (hk : Consts w)
    (hf1 : fewS T ≤ 4000) (hx4 : x.length ≤ 4000) (hp8 : ps.length ≤ 80) (hT1 : 1 ≤ T.length) (i1 : Nat) (hi1 : i1 = i % T.length) (hb : decide ((climbR n (leafH n x) i1 T.length ps).2 = 0 ∧ (climbR n (leafH n x) i1 T.length ps).1 = rootT n T) = true) (hxx : T[i1]? ≠ some x) (hc : checkGR n h (i1 + 1) T.length (rootT n T) ps = true) (hhh : h = rootT n (T.take (i1 + 1))) :
    Calls Tryd.prog 12 #[.int .i64 n, v, .int .u64 (i : Int), .slice ax x.length cx, .agg (bs h), vp] w fun e w' => e = .returned (.bool true) ∧ Below w.heap.size w w' := by
  have HAw := Lib.hid (fun (W : World) (hW : Below w.heap.size w W) => awake17_any hp W (ht.below (Nat.le_refl _) hW))
  have HF1 := Lib.hid (fun (W : World) (hW : Below w.heap.size w W) => few17_any T v W (hvT.below (Nat.le_refl _) hW) hlT)
  rw [decide_eq_true hf1] at HF1
  have hsT := fewS_shorts hf1
  have HSh := Lib.hid (size_hash (cs := bs h) (by rw [bs_size, hh]))
  obtain ⟨lx, hx⟩ : ∃ l, l = x.length := ⟨_, rfl⟩
  rw [← hx] at hvx hx4 hcx ⊢
  obtain ⟨pp, pc, rfl, _⟩ := hvp.form
  obtain ⟨p, hpp⟩ : ∃ p, p = ps.length := ⟨_, rfl⟩
  rw [← hpp] at hvp hp8 ⊢
  obtain ⟨pv, cv, rfl, hcv⟩ := hvT.form
  obtain ⟨m, hm⟩ : ∃ m, m = T.length := ⟨_, rfl⟩
  have hbT := hb
  have hcT := hc
  rw [← hm] at hvT hlT hcv HF1 hT1 hi1 hb hc ⊢
  have hm80 : m ≤ 80 := by rw [hm]; exact hsT.few
  have hi1m : i1 < m := by rw [hi1]; exact Nat.mod_lt _ (by omega)
  have hrem : (i : Int) % (m : Int) = (i1 : Int) := by rw [hi1]; simp
  have HRem := Lib.hid hrem
  have d1 : decide ((lx : Int) > 4000) = false := decide_eq_false (by omega)
  have d2 : decide ((p : Int) > 80) = false := decide_eq_false (by omega)
  have d3 : ((m : Int) == 0) = false := by simp; omega
  have hmw : IntKind.u64.wrap (m : Int) = (m : Int) := by rw [IntKind.wrap_u64]; omega
  obtain ⟨t, htt⟩ : ∃ t, T[i1]? = some t := ⟨T[i1]'(by omega), List.getElem?_eq_getElem _⟩
  obtain ⟨pa, at_, ct, rfl, htc, htb⟩ := hvT.at_ htt
  obtain ⟨lt, hlt⟩ : ∃ l, l = t.length := ⟨_, rfl⟩
  rw [← hlt] at htc htb
  have HTt := Lib.hid (fun (W : World) (hW : Below w.heap.size w W) => (⟨by rw [hW.cell (World.block_lt_of_cell? w _ htc)]; exact htc, htb.below (Nat.le_refl _) hW⟩ : W.cell? (pa.add i1) = some (.slice at_ lt ct) ∧ Bys W (.slice at_ lt ct) t))
  have HIx := Lib.hid (fun W => txs_indexU W pa m cv i1 hi1m)
  have HX := Lib.hid hvx
  obtain ⟨X, Y, hX, hY, hXY⟩ := strs_of x t
  have HXs := Lib.hid hX
  have HYs := Lib.hid hY
  obtain ⟨L, hL⟩ : ∃ L, L = T.map (leafH n) := ⟨_, rfl⟩
  have hLl : L.length = m := by rw [hL, List.length_map, hm]
  obtain ⟨ro, hro, hro32⟩ : ∃ r, r = rootT n T ∧ r.length = 32 := ⟨_, rfl, rootT_length _ _⟩
  obtain ⟨hxv, hhx, hhx32⟩ : ∃ r, r = leafH n x ∧ r.length = 32 := ⟨_, rfl, leafH_length _ _⟩
  obtain ⟨m1, hm1⟩ : ∃ m1, m1 = i1 + 1 := ⟨_, rfl⟩
  have HM1 := Lib.hid (show (i1 : Int) + 1 = (m1 : Int) by omega)
  have hm1m : m1 ≤ m := by omega
  have HSro := Lib.hid (size_hash (cs := bs ro) (by rw [bs_size, hro32]))
  have Hro32 := Lib.hid hro32
  have HLeaves := Lib.hid (fun (W : World) (hW : Below w.heap.size w W) => refleaves_any n hn T (.slice (some pa) m cv) W (hvT.below (Nat.le_refl _) hW) hsT (hk.below (Nat.le_refl _) hW))
  rw [← hL] at HLeaves
  have HRoot := Lib.hid (fun (W : World) (u : Value) (hW : Below w.heap.size w W) (hu : Hss W u L) => hq.root n L u W hn hu (by omega) (ht.below (Nat.le_refl _) hW))
  rw [show rootH n L = ro by rw [hL, hro]; rfl] at HRoot
  have HLeaf := Lib.hid (fun (W : World) (hW : Below w.heap.size w W) => hd.leaf n x (.slice ax lx cx) W hn (hvx.below (Nat.le_refl _) hW) ⟨_, _, _, rfl, hcx⟩ (by omega) (ht.below (Nat.le_refl _) hW))
  rw [← hhx] at HLeaf
  have HChk := Lib.hid (fun (W : World) (hW : Below w.heap.size w W) => hpc n hxv i1 m ps (.slice pp p pc) ro W hn hhx32 hro32 (by omega) (by omega) (hvp.below (Nat.le_refl _) hW) (by omega) (ht.below (Nat.le_refl _) hW))
  rw [← hhx, ← hro] at hb
  rw [hb] at HChk
  have HChk2 := Lib.hid (fun (W : World) (hW : Below w.heap.size w W) => hgc n h m1 m ro ps (.slice pp p pc) W hn hh hro32 (by omega) (by omega) (hvp.below (Nat.le_refl _) hW) (by omega) (ht.below (Nat.le_refl _) hW))
  rw [← hm1, ← hro] at hc
  rw [hc] at HChk2
  have HN := Lib.hid hn
  have HK := Lib.hid hk
  have HXY := Lib.hid (show (X.toList == Y.toList) = !true by rw [hXY]; refine decide_eq_false fun e => hxx ?_; rw [htt, e])
  obtain ⟨hb1, hb2⟩ := of_decide_eq_true hbT
  obtain ⟨e0, e1⟩ := pathC_found hvp.all hb1 hb2 hxx
  have hlen := pathC_len n (i := i1) (x := x) (p := ps) hsT (by omega) hvp.all
  have HPa := Lib.hid (fun (W : World) (hW : Below w.heap.size w W) => hp.path n T i1 x ps (.slice (some pa) m cv) (.slice ax lx cx) (.slice pp p pc) W hn (hvT.below (Nat.le_refl _) hW) hsT (by omega) (hvx.below (Nat.le_refl _) hW) (by omega) (hvp.below (Nat.le_refl _) hW) (by omega) (ht.below (Nat.le_refl _) hW))
  rw [e0] at HPa
  rw [show ((0 : Nat) : Int) = 0 from rfl] at HPa
  obtain ⟨PHPa, hPHPa⟩ : ∃ P, P = (pathC n T i1 x ps).1 := ⟨_, rfl⟩
  rw [← hPHPa] at HPa e1 hlen
  have HClHPa := Lib.hid e1
  have HLHPa := Lib.hid hlen
  clear hb1 hb2 e0 e1 hlen hPHPa
  obtain ⟨rm, hrm, hrm32⟩ : ∃ r, r = rootT n (T.take m1) ∧ r.length = 32 := ⟨_, rfl, rootT_length _ _⟩
  have HRm := Lib.hid (fun (pl : Option Addr) (cl : Nat) (W : World) (hu : Hss W (.slice pl m cl) L) (hW : Below w.heap.size w W) => by
    have h1 : Hss W (.slice pl m1 cl) (L.take m1) := by
      have := hu.sub 0 m1 (by omega) hm1m
      rw [sliced_zero2] at this
      simpa using this
    have h2 := hq.root n (L.take m1) (.slice pl m1 cl) W hn h1 (by rw [List.length_take]; omega) (ht.below (Nat.le_refl _) hW)
    rwa [show rootH n (L.take m1) = rm by rw [hrm, hL, ← List.map_take]; rfl] at h2)
  have hhrm : h = rm := by rw [hrm, hm1]; exact hhh
  subst hhrm
  have HNq := Lib.hid (fun s t W => neq_hash s t h hh W)
  clear hp hq hd hpc hgc hn hvT hlT hvx hvp ht hk hf1 hsT hbT hcT hb hc hi1 hrem htt htc htb hlt hX hY hXY hL hro hro32 hhx hhx32 hm1 hx hpp hm hh hxx hrm hrm32 hhh
  go_enter Tryd.func12, Tryd.ntmps12
  go_upto_region 1 with fail
  refine world_cut (fun W => Blk W w.heap.size 24 (bs h) ∧ Below w.heap.size w W) ⟨Blk.new w _ _, (Below.refl _ _).alloc (Nat.le_refl _) _⟩ ?_
  rintro W0 ⟨hbx, hb0⟩
  have HBx0 := Lib.hid hbx
  have HB0 := Lib.hid hb0
  clear hbx hb0
  go_wp2_with fail
  refine (HAw.out _ HB0.out).mono ?_
  rintro e W1 ⟨rfl, hb1⟩
  have HB1 := Lib.hid (HB0.out.trans (hb1.mono HB0.out.size))
  have HBx1 := Lib.hid (HBx0.out.keep hb1)
  clear hb1 HB0 HBx0
  go_wp2_with fail
  refine (HF1.out _ HB1.out).mono ?_
  rintro e w2 ⟨rfl, rfl⟩
  clear HF1
  go_wp2_with fail
  refine (HLeaves.out _ HB1.out).mono ?_
  rintro e W2 ⟨u, rfl, ho2, hb2⟩
  have hu2 := ho2.hss
  obtain ⟨pl, cl, rfl, hlc⟩ := hu2.form
  rw [hLl] at hu2 hlc ⊢
  have HU2 := Lib.hid hu2
  have HBx2 := Lib.hid (HBx1.out.keep hb2)
  have HB2 := Lib.hid (HB1.out.trans (hb2.mono HB1.out.size))
  clear ho2 hu2 hb2 HLeaves HBx1 HB1
  go_wp2_with fail
  refine (HRoot.out _ _ HB2.out HU2.out).mono ?_
  rintro e W3 ⟨rfl, hb3⟩
  have HU3 := Lib.hid (HU2.out.below (Nat.le_refl _) hb3)
  have HBx3 := Lib.hid (HBx2.out.keep hb3)
  have HB3 := Lib.hid (HB2.out.trans (hb3.mono HB2.out.size))
  clear hb3 HRoot HU2 HBx2 HB2
  go_upto_region 6 with (refine wpList_store_row rfl 24 (.tmp 15) (.tmp 51) rfl W3.heap.size (bs ro) rfl rfl 24 _ (Blk.new W3 _ _) HSro.out (by simp [bs_size, Hro32.out]) (bs_one _) ?_)
  obtain ⟨g, hg⟩ : ∃ g, g = W3.heap.size := ⟨_, rfl⟩
  refine world_cut (fun W => TrW w h (.slice pl m cl) L g ro W) ⟨HBx3.out.keep (below_new W3 _ _ _), HU3.out.below (Nat.le_refl _) (below_new W3 _ _ _), by rw [hg]; exact Blk.row (Blk.new W3 _ _) _, HB3.out.trans ((below_new W3 _ _ _).mono HB3.out.size)⟩ ?_
  rw [← hg]
  clear hg HU3 HBx3 HB3
  intro W4 hW4
  have HTr := Lib.hid hW4
  clear hW4
  go_upto_region 7 with fail
  rw [HRem.out]
  have HSl := Lib.hid (fun (W : World) => slice_hs_toV pl m cl m1 (by omega) W)
  have HRm2 := Lib.hid (fun (W : World) => HRm.out pl cl W)
  clear HRm
  have HRm := HRm2
  clear HRm2
  have hG : ∀ W W' : World, Below W4.heap.size W4 W → Below W.heap.size W W' → Below W4.heap.size W4 W' := fun W W' h h' => h.trans (h'.mono h.size)
  refine region_skip [(55, .is (.int .i64 n)), (56, .is (.int .i64 n)), (57, .is (.slice ax lx cx)), (58, .is (.agg (bs hxv))), (59, .is (.int .u64 (i1 : Int))), (60, .is (.int .u64 (m : Int))), (61, .is (.slice pp p pc)), (62, .is (.agg (bs ro))), (63, .is (.bool true)), (64, .is (.bool true)), (65, .is (.slice ax lx cx)), (66, .is (.string X)), (67, .is (.slice (some pa) m cv)), (68, .is (.int .u64 (i1 : Int))), (69, .is (.pointer (some (pa.add i1)))), (70, .is (.slice at_ lt ct)), (71, .is (.string Y)), (72, .is (.bool true)), (73, .is (.bool true))] [0, 1, 2, 3, 5, 10, 12, 13, 14, 15, 73] (fun W => Below W4.heap.size W4 W) (by kernel_rfl) (by kernel_rfl) (by kernel_rfl) (by kernel_rfl) (by kernel_rfl) ((Below.refl _ _).drew) ?_ ?_
  · refine ⟨?c0, ?c1, ?c2, ?c3, ?c4, ?c5, ?c6, ?c7, ?c8, ?c9, ?c10, ?c11, ?c12, ?c13, ?c14, ?c15, ?c16, ?c17, ?c18, trivial⟩
    case c0 => exact runs (ask_copy (guard_none rfl) (.tmp 0) (.inl rfl) (by intro k hk; cases hk; rfl))
    case c1 => exact runs (ask_copy (guard_none rfl) (.tmp 0) (.inl rfl) (by intro k hk; cases hk; rfl))
    case c2 => exact runs (ask_copy (guard_none rfl) (.tmp 3) (.inl rfl) (by intro k hk; cases hk; rfl))
    case c3 => exact runs (ask_call hG (guard_none rfl) _ _ _ #[.int .i64 n, .slice ax lx cx] (.is (.agg (bs hxv))) rfl (by kernel_rfl) rfl rfl (by intro k hk; cases hk; rfl) (fun W hW => (HLeaf.out W (HTr.out.2.2.2.trans (hW.mono HTr.out.2.2.2.size))).mono fun e w' h => ⟨_, h.1, rfl, h.2⟩))
    case c4 => exact runs (ask_copy (guard_none rfl) (.tmp 2) (.inl rfl) (by intro k hk; cases hk; rfl))
    case c5 => exact runs (ask_copy (guard_none rfl) (.tmp 14) (.inl rfl) (by intro k hk; cases hk; rfl))
    case c6 => exact runs (ask_copy (guard_none rfl) (.tmp 5) (.inl rfl) (by intro k hk; cases hk; rfl))
    case c7 => exact runs (ask_load (guard_none rfl) _ (.tmp 15) (.pointer (some ⟨g, 0, none⟩)) (.agg (bs ro)) rfl rfl (by intro k hk; cases hk; rfl) (fun W hW => (HTr.out.2.2.1.keep hW).loads 24 _ Tryd.underlying24 rfl HSro.out))
    case c8 => exact runs (ask_call hG (guard_none rfl) _ _ _ #[.int .i64 n, .agg (bs hxv), .int .u64 (i1 : Int), .int .u64 (m : Int), .slice pp p pc, .agg (bs ro)] (.is (.bool true)) rfl (by kernel_rfl) rfl rfl (by intro k hk; cases hk; rfl) (fun W hW => (HChk.out W (HTr.out.2.2.2.trans (hW.mono HTr.out.2.2.2.size))).mono fun e w' h => ⟨_, h.1, rfl, h.2⟩))
    case c9 => exact runs (ask_copy (guard_none rfl) (.tmp 63) (.inl rfl) (by intro k hk; cases hk; rfl))
    case c10 => exact runs (ask_copy (guard_some rfl rfl rfl) (.tmp 3) (.inl rfl) (by intro k hk; cases hk; rfl))
    case c11 => exact runs (ask_conv_bys (guard_some rfl rfl rfl) (.tmp 65) x X HXs.out rfl (fun y W hW hk => by
      have e : y 65 = (.slice ax lx cx) := hk 65 rfl
      show Bys W (y 65) x
      rw [e]
      exact HX.out.below (Nat.le_refl _) (HTr.out.2.2.2.trans (hW.mono HTr.out.2.2.2.size))) (by intro k hk; cases hk; rfl))
    case c12 => exact runs (ask_copy (guard_some rfl rfl rfl) (.tmp 1) (.inl rfl) (by intro k hk; cases hk; rfl))
    case c13 => exact runs (ask_copy (guard_some rfl rfl rfl) (.tmp 2) (.inl rfl) (by intro k hk; cases hk; rfl))
    case c14 => exact runs (ask_idx (guard_some rfl rfl rfl) _ (.tmp 67) (.tmp 68) (.slice (some pa) m cv) (.int .u64 (i1 : Int)) (.pointer (some (pa.add i1))) rfl rfl rfl (by intro k hk; cases hk; rfl) HIx.out)
    case c15 => exact runs (ask_load (guard_some rfl rfl rfl) _ (.tmp 69) (.pointer (some (pa.add i1))) (.slice at_ lt ct) rfl rfl (by intro k hk; cases hk; rfl) (fun W hW => load_txt W _ _ (HTt.out W (HTr.out.2.2.2.trans (hW.mono HTr.out.2.2.2.size))).1))
    case c16 => exact runs (ask_conv_bys (guard_some rfl rfl rfl) (.tmp 70) t Y HYs.out rfl (fun y W hW hk => by
      have e : y 70 = .slice at_ lt ct := hk 70 rfl
      show Bys W (y 70) t
      rw [e]
      exact (HTt.out W (HTr.out.2.2.2.trans (hW.mono HTr.out.2.2.2.size))).2) (by intro k hk; cases hk; rfl))
    case c17 => exact runs (ask_bin (guard_some rfl rfl rfl) .neq _ _ (.tmp 66) (.tmp 71) (.string X) (.string Y) (.bool true) rfl rfl rfl (by intro k hk; cases hk; rfl) (neq_strs _ _ _ X Y true HXY.out))
    case c18 => exact runs (ask_pick (guard_none rfl) (.tmp 64) (.tmp 72) (.const (.bool false)) true rfl rfl (by intro k hk; cases hk; rfl))
  · intro a' W7 hW hd' hs' hf'
    have t0 : a'.tmps.getD 0 undef = .int .i64 n := hf' 0 rfl
    have t1 : a'.tmps.getD 1 undef = .slice (some pa) m cv := hf' 1 rfl
    have t2 : a'.tmps.getD 2 undef = .int .u64 (i1 : Int) := hf' 2 rfl
    have t3 : a'.tmps.getD 3 undef = .slice ax lx cx := hf' 3 rfl
    have t5 : a'.tmps.getD 5 undef = .slice pp p pc := hf' 5 rfl
    have t10 : a'.tmps.getD 10 undef = .pointer (some ⟨w.heap.size, 0, none⟩) := hf' 10 rfl
    have t12 : a'.tmps.getD 12 undef = .bool false := hf' 12 rfl
    have t13 : a'.tmps.getD 13 undef = .slice pl m cl := hf' 13 rfl
    have t14 : a'.tmps.getD 14 undef = .int .u64 (m : Int) := hf' 14 rfl
    have t15 : a'.tmps.getD 15 undef = .pointer (some ⟨g, 0, none⟩) := hf' 15 rfl
    have t73 : a'.tmps.getD 73 undef = .bool true := hf' 73 rfl
    obtain ⟨us', hus, ha'⟩ := act_open 127 a' hs' hd'
    rw [← hus] at t0 t1 t2 t3 t5 t10 t12 t13 t14 t15 t73
    have el : ((List.range 127).map us').toArray = #[.int .i64 n, .slice (some pa) m cv, .int .u64 (i1 : Int), .slice ax lx cx, us' 4, .slice pp p pc, us' 6, us' 7, us' 8, us' 9, .pointer (some ⟨w.heap.size, 0, none⟩), us' 11, .bool false, .slice pl m cl, .int .u64 (m : Int), .pointer (some ⟨g, 0, none⟩), us' 16, us' 17, us' 18, us' 19, us' 20, us' 21, us' 22, us' 23, us' 24, us' 25, us' 26, us' 27, us' 28, us' 29, us' 30, us' 31, us' 32, us' 33, us' 34, us' 35, us' 36, us' 37, us' 38, us' 39, us' 40, us' 41, us' 42, us' 43, us' 44, us' 45, us' 46, us' 47, us' 48, us' 49, us' 50, us' 51, us' 52, us' 53, us' 54, us' 55, us' 56, us' 57, us' 58, us' 59, us' 60, us' 61, us' 62, us' 63, us' 64, us' 65, us' 66, us' 67, us' 68, us' 69, us' 70, us' 71, us' 72, .bool true, us' 74, us' 75, us' 76, us' 77, us' 78, us' 79, us' 80, us' 81, us' 82, us' 83, us' 84, us' 85, us' 86, us' 87, us' 88, us' 89, us' 90, us' 91, us' 92, us' 93, us' 94, us' 95, us' 96, us' 97, us' 98, us' 99, us' 100, us' 101, us' 102, us' 103, us' 104, us' 105, us' 106, us' 107, us' 108, us' 109, us' 110, us' 111, us' 112, us' 113, us' 114, us' 115, us' 116, us' 117, us' 118, us' 119, us' 120, us' 121, us' 122, us' 123, us' 124, us' 125, us' 126] := by
      show #[us' 0, us' 1, us' 2, us' 3, us' 4, us' 5, us' 6, us' 7, us' 8, us' 9, us' 10, us' 11, us' 12, us' 13, us' 14, us' 15, us' 16, us' 17, us' 18, us' 19, us' 20, us' 21, us' 22, us' 23, us' 24, us' 25, us' 26, us' 27, us' 28, us' 29, us' 30, us' 31, us' 32, us' 33, us' 34, us' 35, us' 36, us' 37, us' 38, us' 39, us' 40, us' 41, us' 42, us' 43, us' 44, us' 45, us' 46, us' 47, us' 48, us' 49, us' 50, us' 51, us' 52, us' 53, us' 54, us' 55, us' 56, us' 57, us' 58, us' 59, us' 60, us' 61, us' 62, us' 63, us' 64, us' 65, us' 66, us' 67, us' 68, us' 69, us' 70, us' 71, us' 72, us' 73, us' 74, us' 75, us' 76, us' 77, us' 78, us' 79, us' 80, us' 81, us' 82, us' 83, us' 84, us' 85, us' 86, us' 87, us' 88, us' 89, us' 90, us' 91, us' 92, us' 93, us' 94, us' 95, us' 96, us' 97, us' 98, us' 99, us' 100, us' 101, us' 102, us' 103, us' 104, us' 105, us' 106, us' 107, us' 108, us' 109, us' 110, us' 111, us' 112, us' 113, us' 114, us' 115, us' 116, us' 117, us' 118, us' 119, us' 120, us' 121, us' 122, us' 123, us' 124, us' 125, us' 126] = _
      rw [t0, t1, t2, t3, t5, t10, t12, t13, t14, t15, t73]
    rw [el] at ha'
    subst ha'
    clear hus t0 t1 t2 t3 t5 t10 t12 t13 t14 t15 t73 el hf' hs' hd'
    have HTr7 := Lib.hid (HTr.out.keep hW)
    clear hW hG HTr
    have HTr := Lib.hid HTr7.out
    clear HTr7
    go_wp2_with (fail)
    refine (HPa.out _ HTr.out.2.2.2).mono ?_
    rintro e V2 ⟨u, rfl, hp2, hb2⟩
    obtain ⟨a1, c1, a2, c2, rfl, hy1, hy2⟩ := hp2
    have HTr2 := Lib.hid (HTr.out.keep hb2)
    have HY1 := Lib.hid hy1
    have HY2 := Lib.hid hy2
    clear hy1 hy2 hb2 HTr
    go_upto_region 9 with (refine wpList_store_row rfl 51 (.tmp 16) (.tmp 81) rfl V2.heap.size (prC a1 PHPa.1.length c1 a2 PHPa.2.length c2) rfl rfl 51 _ (Blk.new V2 _ _) (size_pair _ _ _ _ _ _) rfl (pair_one _ _ _ _ _ _) ?_)
    refine world_cut (fun W => TrW w h (.slice pl m cl) L g ro W ∧ Blk W V2.heap.size 51 (prC a1 PHPa.1.length c1 a2 PHPa.2.length c2) ∧ PairB W (.agg (prC a1 PHPa.1.length c1 a2 PHPa.2.length c2)) PHPa) ⟨HTr2.out.keep (below_new V2 _ _ _), Blk.row (Blk.new V2 _ _) _, ⟨a1, c1, a2, c2, rfl, HY1.out.below (Nat.le_refl _) (below_new V2 _ _ _), HY2.out.below (Nat.le_refl _) (below_new V2 _ _ _)⟩⟩ ?_
    obtain ⟨gp, hgp⟩ : ∃ g, g = V2.heap.size := ⟨_, rfl⟩
    rw [← hgp]
    clear HTr2 HY1 HY2 hgp
    rintro V3 ⟨htr, hk, hq⟩
    have HTr3 := Lib.hid htr
    have HKp := Lib.hid hk
    have HS := Lib.hid (refclash_any n HN.out _ PHPa V3 hq HLHPa.out.1 HLHPa.out.2 (HK.out.below (Nat.le_refl _) HTr3.out.2.2.2))
    rw [HClHPa.out] at HS
    clear htr hk hq
    go_wp2_with (refine wpList_load_guarded rfl 51 (.tmp 16) rfl _ (.agg (prC a1 PHPa.1.length c1 a2 PHPa.2.length c2)) rfl (HKp.out.loads 51 _ Tryd.underlying51 rfl (size_pair _ _ _ _ _ _)) ?_)
    refine HS.out.mono ?_
    rintro e Wc ⟨rfl, hb7⟩
    have HTr := Lib.hid (HTr3.out.keep hb7)
    clear hb7 HS HTr3 HKp
    go_upto_region 11 with fail
    have hG : ∀ W W' : World, Below Wc.heap.size Wc W → Below W.heap.size W W' → Below Wc.heap.size Wc W' := fun W W' h h' => h.trans (h'.mono h.size)
    refine region_skip [(91, .is (.int .i64 n)), (92, .is (.int .u64 (i1 : Int))), (93, .is (.int .u64 (m1 : Int))), (94, .is (.int .u64 (m : Int))), (95, .is (.agg (bs h))), (96, .is (.agg (bs ro))), (97, .is (.slice pp p pc)), (98, .is (.bool true)), (99, .is (.bool true)), (100, .is (.agg (bs h))), (101, .is (.int .i64 n)), (102, .is (.slice pl m cl)), (103, .is (.int .u64 (i1 : Int))), (104, .is (.int .u64 (m1 : Int))), (105, .is (.slice pl m1 cl)), (106, .is (.agg (bs h))), (107, .is (.bool false)), (108, .is (.bool false))] [0, 1, 2, 5, 10, 12, 108] (fun W => Below Wc.heap.size Wc W) (by kernel_rfl) (by kernel_rfl) (by kernel_rfl) (by kernel_rfl) (by kernel_rfl) ((Below.refl _ _).drew) ?_ ?_
    · refine ⟨?c0, ?c1, ?c2, ?c3, ?c4, ?c5, ?c6, ?c7, ?c8, ?c9, ?c10, ?c11, ?c12, ?c13, ?c14, ?c15, ?c16, ?c17, trivial⟩
      case c0 => exact runs (ask_copy (guard_none rfl) (.tmp 0) (.inl rfl) (by intro k hk; cases hk; rfl))
      case c1 => exact runs (ask_copy (guard_none rfl) (.tmp 2) (.inl rfl) (by intro k hk; cases hk; rfl))
      case c2 => exact runs (ask_bin (guard_none rfl) .add _ _ (.tmp 92) (.const (.int .u64 1)) (.int .u64 (i1 : Int)) (.int .u64 1) (.int .u64 (m1 : Int)) rfl rfl rfl (by intro k hk; cases hk; rfl) (fun W => add_u64d _ _ _ HM1.out (by omega) _ _ _ W))
      case c3 => exact runs (ask_copy (guard_none rfl) (.tmp 14) (.inl rfl) (by intro k hk; cases hk; rfl))
      case c4 => exact runs (ask_load (guard_none rfl) _ (.tmp 10) (.pointer (some ⟨w.heap.size, 0, none⟩)) (.agg (bs h)) rfl rfl (by intro k hk; cases hk; rfl) (fun W hW => (HTr.out.1.keep hW).loads 24 _ Tryd.underlying24 rfl HSh.out))
      case c5 => exact runs (ask_load (guard_none rfl) _ (.tmp 15) (.pointer (some ⟨g, 0, none⟩)) (.agg (bs ro)) rfl rfl (by intro k hk; cases hk; rfl) (fun W hW => (HTr.out.2.2.1.keep hW).loads 24 _ Tryd.underlying24 rfl HSro.out))
      case c6 => exact runs (ask_copy (guard_none rfl) (.tmp 5) (.inl rfl) (by intro k hk; cases hk; rfl))
      case c7 => exact runs (ask_call hG (guard_none rfl) _ _ _ #[.int .i64 n, .int .u64 (m1 : Int), .int .u64 (m : Int), .agg (bs h), .agg (bs ro), .slice pp p pc] (.is (.bool true)) rfl (by kernel_rfl) rfl rfl (by intro k hk; cases hk; rfl) (fun W hW => (HChk2.out W (HTr.out.2.2.2.trans (hW.mono HTr.out.2.2.2.size))).mono fun e w' h => ⟨_, h.1, rfl, h.2⟩))
      case c8 => exact runs (ask_copy (guard_none rfl) (.tmp 98) (.inl rfl) (by intro k hk; cases hk; rfl))
      case c9 => exact runs (ask_load (guard_some rfl rfl rfl) _ (.tmp 10) (.pointer (some ⟨w.heap.size, 0, none⟩)) (.agg (bs h)) rfl rfl (by intro k hk; cases hk; rfl) (fun W hW => (HTr.out.1.keep hW).loads 24 _ Tryd.underlying24 rfl HSh.out))
      case c10 => exact runs (ask_copy (guard_some rfl rfl rfl) (.tmp 0) (.inl rfl) (by intro k hk; cases hk; rfl))
      case c11 => exact runs (ask_copy (guard_some rfl rfl rfl) (.tmp 13) (.inl rfl) (by intro k hk; cases hk; rfl))
      case c12 => exact runs (ask_copy (guard_some rfl rfl rfl) (.tmp 2) (.inl rfl) (by intro k hk; cases hk; rfl))
      case c13 => exact runs (ask_bin (guard_some rfl rfl rfl) .add _ _ (.tmp 103) (.const (.int .u64 1)) (.int .u64 (i1 : Int)) (.int .u64 1) (.int .u64 (m1 : Int)) rfl rfl rfl (by intro k hk; cases hk; rfl) (fun W => add_u64d _ _ _ HM1.out (by omega) _ _ _ W))
      case c14 => exact runs (ask_slice (guard_some rfl rfl rfl) _ (.tmp 102) none (some (.tmp 104)) none (.slice pl m cl) (.slice pl m1 cl) none (some (.int .u64 (m1 : Int))) none rfl rfl rfl rfl rfl (by intro k hk; cases hk; rfl) HSl.out)
      case c15 => exact runs (ask_call hG (guard_some rfl rfl rfl) _ _ _ #[.int .i64 n, .slice pl m1 cl] (.is (.agg (bs h))) rfl (by kernel_rfl) rfl rfl (by intro k hk; cases hk; rfl) (fun W hW => (HRm.out W (HTr.out.2.1.below (Nat.le_refl _) hW) (HTr.out.2.2.2.trans (hW.mono HTr.out.2.2.2.size))).mono fun e w' h => ⟨_, h.1, rfl, h.2⟩))
      case c16 => exact runs (ask_bin (guard_some rfl rfl rfl) .neq _ _ (.tmp 100) (.tmp 106) (.agg (bs h)) (.agg (bs h)) (.bool false) rfl rfl rfl (by intro k hk; cases hk; rfl) (HNq.out _ _))
      case c17 => exact runs (ask_pick (guard_none rfl) (.tmp 99) (.tmp 107) (.const (.bool false)) true rfl rfl (by intro k hk; cases hk; rfl))
    · intro a' Wd hW hd' hs' hf'
      have t0 : a'.tmps.getD 0 undef = .int .i64 n := hf' 0 rfl
      have t1 : a'.tmps.getD 1 undef = .slice (some pa) m cv := hf' 1 rfl
      have t2 : a'.tmps.getD 2 undef = .int .u64 (i1 : Int) := hf' 2 rfl
      have t5 : a'.tmps.getD 5 undef = .slice pp p pc := hf' 5 rfl
      have t10 : a'.tmps.getD 10 undef = .pointer (some ⟨w.heap.size, 0, none⟩) := hf' 10 rfl
      have t12 : a'.tmps.getD 12 undef = .bool false := hf' 12 rfl
      have t108 : a'.tmps.getD 108 undef = .bool false := hf' 108 rfl
      obtain ⟨vs', hus, ha'⟩ := act_open 127 a' hs' hd'
      rw [← hus] at t0 t1 t2 t5 t10 t12 t108
      have el : ((List.range 127).map vs').toArray = #[.int .i64 n, .slice (some pa) m cv, .int .u64 (i1 : Int), vs' 3, vs' 4, .slice pp p pc, vs' 6, vs' 7, vs' 8, vs' 9, .pointer (some ⟨w.heap.size, 0, none⟩), vs' 11, .bool false, vs' 13, vs' 14, vs' 15, vs' 16, vs' 17, vs' 18, vs' 19, vs' 20, vs' 21, vs' 22, vs' 23, vs' 24, vs' 25, vs' 26, vs' 27, vs' 28, vs' 29, vs' 30, vs' 31, vs' 32, vs' 33, vs' 34, vs' 35, vs' 36, vs' 37, vs' 38, vs' 39, vs' 40, vs' 41, vs' 42, vs' 43, vs' 44, vs' 45, vs' 46, vs' 47, vs' 48, vs' 49, vs' 50, vs' 51, vs' 52, vs' 53, vs' 54, vs' 55, vs' 56, vs' 57, vs' 58, vs' 59, vs' 60, vs' 61, vs' 62, vs' 63, vs' 64, vs' 65, vs' 66, vs' 67, vs' 68, vs' 69, vs' 70, vs' 71, vs' 72, vs' 73, vs' 74, vs' 75, vs' 76, vs' 77, vs' 78, vs' 79, vs' 80, vs' 81, vs' 82, vs' 83, vs' 84, vs' 85, vs' 86, vs' 87, vs' 88, vs' 89, vs' 90, vs' 91, vs' 92, vs' 93, vs' 94, vs' 95, vs' 96, vs' 97, vs' 98, vs' 99, vs' 100, vs' 101, vs' 102, vs' 103, vs' 104, vs' 105, vs' 106, vs' 107, .bool false, vs' 109, vs' 110, vs' 111, vs' 112, vs' 113, vs' 114, vs' 115, vs' 116, vs' 117, vs' 118, vs' 119, vs' 120, vs' 121, vs' 122, vs' 123, vs' 124, vs' 125, vs' 126] := by
        show #[vs' 0, vs' 1, vs' 2, vs' 3, vs' 4, vs' 5, vs' 6, vs' 7, vs' 8, vs' 9, vs' 10, vs' 11, vs' 12, vs' 13, vs' 14, vs' 15, vs' 16, vs' 17, vs' 18, vs' 19, vs' 20, vs' 21, vs' 22, vs' 23, vs' 24, vs' 25, vs' 26, vs' 27, vs' 28, vs' 29, vs' 30, vs' 31, vs' 32, vs' 33, vs' 34, vs' 35, vs' 36, vs' 37, vs' 38, vs' 39, vs' 40, vs' 41, vs' 42, vs' 43, vs' 44, vs' 45, vs' 46, vs' 47, vs' 48, vs' 49, vs' 50, vs' 51, vs' 52, vs' 53, vs' 54, vs' 55, vs' 56, vs' 57, vs' 58, vs' 59, vs' 60, vs' 61, vs' 62, vs' 63, vs' 64, vs' 65, vs' 66, vs' 67, vs' 68, vs' 69, vs' 70, vs' 71, vs' 72, vs' 73, vs' 74, vs' 75, vs' 76, vs' 77, vs' 78, vs' 79, vs' 80, vs' 81, vs' 82, vs' 83, vs' 84, vs' 85, vs' 86, vs' 87, vs' 88, vs' 89, vs' 90, vs' 91, vs' 92, vs' 93, vs' 94, vs' 95, vs' 96, vs' 97, vs' 98, vs' 99, vs' 100, vs' 101, vs' 102, vs' 103, vs' 104, vs' 105, vs' 106, vs' 107, vs' 108, vs' 109, vs' 110, vs' 111, vs' 112, vs' 113, vs' 114, vs' 115, vs' 116, vs' 117, vs' 118, vs' 119, vs' 120, vs' 121, vs' 122, vs' 123, vs' 124, vs' 125, vs' 126] = _
        rw [t0, t1, t2, t5, t10, t12, t108]
      rw [el] at ha'
      subst ha'
      clear hus t0 t1 t2 t5 t10 t12 t108 el hf' hs' hd'
      have HTrd := Lib.hid (HTr.out.keep hW)
      clear hW hG HTr
      go_wp2
      go_ret
      exact ⟨rfl, HTrd.out.2.2.2⟩

set_option maxHeartbeats 2000000 in
set_option maxRecDepth 100000 in
theorem clashTrust_TT_TT (hp : ClashProg) (hq : LeafProg) (hd : DataProg) (hpc : CheckProg) (hgc : Check16Prog) (n : Int) (hn : I64 n) (T : List Bs) (v : Value) (i : Nat) (x : Bs) (ax : Option Addr) (cx : Nat) (hcx : x.length ≤ cx) (h : Hs) (hh : h.length = 32) (ps : List Hs) (vp : Value) (w : World) (hvT : Txs w v T) (hlT : T.length ≤ 5864062014976) (hvx : Bys w (.slice ax x.length cx) x) (hvp : Hss w vp ps) (ht : Tabs w) (hk : Consts w)
    (hf1 : fewS T ≤ 4000) (hx4 : x.length ≤ 4000) (hp8 : ps.length ≤ 80) (hT1 : 1 ≤ T.length) (i1 : Nat) (hi1 : i1 = i % T.length) (hb : decide ((climbR n (leafH n x) i1 T.length ps).2 = 0 ∧ (climbR n (leafH n x) i1 T.length ps).1 = rootT n T) = true) (hxx : T[i1]? ≠ some x) (hc : checkGR n h (i1 + 1) T.length (rootT n T) ps = true) (hhh : h ≠ rootT n (T.take (i1 + 1))) :
    Calls Tryd.prog 12 #[.int .i64 n, v, .int .u64 (i : Int), .slice ax x.length cx, .agg (bs h), vp] w fun e w' => e = .returned (.bool true) ∧ Below w.heap.size w w' := by
  have HAw := Lib.hid (fun (W : World) (hW : Below w.heap.size w W) => awake17_any hp W (ht.below (Nat.le_refl _) hW))
  have HF1 := Lib.hid (fun (W : World) (hW : Below w.heap.size w W) => few17_any T v W (hvT.below (Nat.le_refl _) hW) hlT)
  rw [decide_eq_true hf1] at HF1
  have hsT := fewS_shorts hf1
  have HSh := Lib.hid (size_hash (cs := bs h) (by rw [bs_size, hh]))
  obtain ⟨lx, hx⟩ : ∃ l, l = x.length := ⟨_, rfl⟩
  rw [← hx] at hvx hx4 hcx ⊢
  obtain ⟨pp, pc, rfl, _⟩ := hvp.form
  obtain ⟨p, hpp⟩ : ∃ p, p = ps.length := ⟨_, rfl⟩
  rw [← hpp] at hvp hp8 ⊢
  obtain ⟨pv, cv, rfl, hcv⟩ := hvT.form
  obtain ⟨m, hm⟩ : ∃ m, m = T.length := ⟨_, rfl⟩
  have hbT := hb
  have hcT := hc
  rw [← hm] at hvT hlT hcv HF1 hT1 hi1 hb hc ⊢
  have hm80 : m ≤ 80 := by rw [hm]; exact hsT.few
  have hi1m : i1 < m := by rw [hi1]; exact Nat.mod_lt _ (by omega)
  have hrem : (i : Int) % (m : Int) = (i1 : Int) := by rw [hi1]; simp
  have HRem := Lib.hid hrem
  have d1 : decide ((lx : Int) > 4000) = false := decide_eq_false (by omega)
  have d2 : decide ((p : Int) > 80) = false := decide_eq_false (by omega)
  have d3 : ((m : Int) == 0) = false := by simp; omega
  have hmw : IntKind.u64.wrap (m : Int) = (m : Int) := by rw [IntKind.wrap_u64]; omega
  obtain ⟨t, htt⟩ : ∃ t, T[i1]? = some t := ⟨T[i1]'(by omega), List.getElem?_eq_getElem _⟩
  obtain ⟨pa, at_, ct, rfl, htc, htb⟩ := hvT.at_ htt
  obtain ⟨lt, hlt⟩ : ∃ l, l = t.length := ⟨_, rfl⟩
  rw [← hlt] at htc htb
  have HTt := Lib.hid (fun (W : World) (hW : Below w.heap.size w W) => (⟨by rw [hW.cell (World.block_lt_of_cell? w _ htc)]; exact htc, htb.below (Nat.le_refl _) hW⟩ : W.cell? (pa.add i1) = some (.slice at_ lt ct) ∧ Bys W (.slice at_ lt ct) t))
  have HIx := Lib.hid (fun W => txs_indexU W pa m cv i1 hi1m)
  have HX := Lib.hid hvx
  obtain ⟨X, Y, hX, hY, hXY⟩ := strs_of x t
  have HXs := Lib.hid hX
  have HYs := Lib.hid hY
  obtain ⟨L, hL⟩ : ∃ L, L = T.map (leafH n) := ⟨_, rfl⟩
  have hLl : L.length = m := by rw [hL, List.length_map, hm]
  obtain ⟨ro, hro, hro32⟩ : ∃ r, r = rootT n T ∧ r.length = 32 := ⟨_, rfl, rootT_length _ _⟩
  obtain ⟨hxv, hhx, hhx32⟩ : ∃ r, r = leafH n x ∧ r.length = 32 := ⟨_, rfl, leafH_length _ _⟩
  obtain ⟨m1, hm1⟩ : ∃ m1, m1 = i1 + 1 := ⟨_, rfl⟩
  have HM1 := Lib.hid (show (i1 : Int) + 1 = (m1 : Int) by omega)
  have hm1m : m1 ≤ m := by omega
  have HSro := Lib.hid (size_hash (cs := bs ro) (by rw [bs_size, hro32]))
  have Hro32 := Lib.hid hro32
  have HLeaves := Lib.hid (fun (W : World) (hW : Below w.heap.size w W) => refleaves_any n hn T (.slice (some pa) m cv) W (hvT.below (Nat.le_refl _) hW) hsT (hk.below (Nat.le_refl _) hW))
  rw [← hL] at HLeaves
  have HRoot := Lib.hid (fun (W : World) (u : Value) (hW : Below w.heap.size w W) (hu : Hss W u L) => hq.root n L u W hn hu (by omega) (ht.below (Nat.le_refl _) hW))
  rw [show rootH n L = ro by rw [hL, hro]; rfl] at HRoot
  have HLeaf := Lib.hid (fun (W : World) (hW : Below w.heap.size w W) => hd.leaf n x (.slice ax lx cx) W hn (hvx.below (Nat.le_refl _) hW) ⟨_, _, _, rfl, hcx⟩ (by omega) (ht.below (Nat.le_refl _) hW))
  rw [← hhx] at HLeaf
  have HChk := Lib.hid (fun (W : World) (hW : Below w.heap.size w W) => hpc n hxv i1 m ps (.slice pp p pc) ro W hn hhx32 hro32 (by omega) (by omega) (hvp.below (Nat.le_refl _) hW) (by omega) (ht.below (Nat.le_refl _) hW))
  rw [← hhx, ← hro] at hb
  rw [hb] at HChk
  have HChk2 := Lib.hid (fun (W : World) (hW : Below w.heap.size w W) => hgc n h m1 m ro ps (.slice pp p pc) W hn hh hro32 (by omega) (by omega) (hvp.below (Nat.le_refl _) hW) (by omega) (ht.below (Nat.le_refl _) hW))
  rw [← hm1, ← hro] at hc
  rw [hc] at HChk2
  have HN := Lib.hid hn
  have HK := Lib.hid hk
  have HXY := Lib.hid (show (X.toList == Y.toList) = !true by rw [hXY]; refine decide_eq_false fun e => hxx ?_; rw [htt, e])
  obtain ⟨hb1, hb2⟩ := of_decide_eq_true hbT
  obtain ⟨e0, e1⟩ := pathC_found hvp.all hb1 hb2 hxx
  have hlen := pathC_len n (i := i1) (x := x) (p := ps) hsT (by omega) hvp.all
  have HPa := Lib.hid (fun (W : World) (hW : Below w.heap.size w W) => hp.path n T i1 x ps (.slice (some pa) m cv) (.slice ax lx cx) (.slice pp p pc) W hn (hvT.below (Nat.le_refl _) hW) hsT (by omega) (hvx.below (Nat.le_refl _) hW) (by omega) (hvp.below (Nat.le_refl _) hW) (by omega) (ht.below (Nat.le_refl _) hW))
  rw [e0] at HPa
  rw [show ((0 : Nat) : Int) = 0 from rfl] at HPa
  obtain ⟨PHPa, hPHPa⟩ : ∃ P, P = (pathC n T i1 x ps).1 := ⟨_, rfl⟩
  rw [← hPHPa] at HPa e1 hlen
  have HClHPa := Lib.hid e1
  have HLHPa := Lib.hid hlen
  clear hb1 hb2 e0 e1 hlen hPHPa
  obtain ⟨rm, hrm, hrm32⟩ : ∃ r, r = rootT n (T.take m1) ∧ r.length = 32 := ⟨_, rfl, rootT_length _ _⟩
  have HRm := Lib.hid (fun (pl : Option Addr) (cl : Nat) (W : World) (hu : Hss W (.slice pl m cl) L) (hW : Below w.heap.size w W) => by
    have h1 : Hss W (.slice pl m1 cl) (L.take m1) := by
      have := hu.sub 0 m1 (by omega) hm1m
      rw [sliced_zero2] at this
      simpa using this
    have h2 := hq.root n (L.take m1) (.slice pl m1 cl) W hn h1 (by rw [List.length_take]; omega) (ht.below (Nat.le_refl _) hW)
    rwa [show rootH n (L.take m1) = rm by rw [hrm, hL, ← List.map_take]; rfl] at h2)
  have HNq := Lib.hid (fun s t W => neq_hash_ne s t h rm hh hrm32 (by rw [hrm, hm1]; exact hhh) W)
  obtain ⟨k0, k1, k2⟩ := checkGR_true (by omega) (by omega) hcT
  obtain ⟨e0, e1⟩ := growC_found hh hvp.all k0 k1 k2 hhh
  have hlen := growC_len n (m := i1 + 1) (h := h) (p := ps) hsT hh hvp.all
  rw [← hm1] at e0 e1 hlen
  have HGr := Lib.hid (fun (W : World) (hW : Below w.heap.size w W) => hp.growth n T m1 h ps (.slice (some pa) m cv) (.slice pp p pc) W hn (hvT.below (Nat.le_refl _) hW) hsT (by omega) hh (hvp.below (Nat.le_refl _) hW) (by omega) (ht.below (Nat.le_refl _) hW))
  rw [e0] at HGr
  rw [show ((0 : Nat) : Int) = 0 from rfl] at HGr
  obtain ⟨PHGr, hPHGr⟩ : ∃ P, P = (growC n T m1 h ps).1 := ⟨_, rfl⟩
  rw [← hPHGr] at HGr e1 hlen
  have HClHGr := Lib.hid e1
  have HLHGr := Lib.hid hlen
  clear k0 k1 k2 e0 e1 hlen hPHGr
  clear hp hq hd hpc hgc hn hvT hlT hvx hvp ht hk hf1 hsT hbT hcT hb hc hi1 hrem htt htc htb hlt hX hY hXY hL hro hro32 hhx hhx32 hm1 hx hpp hm hh hxx hrm hrm32 hhh
  go_enter Tryd.func12, Tryd.ntmps12
  go_upto_region 1 with fail
  refine world_cut (fun W => Blk W w.heap.size 24 (bs h) ∧ Below w.heap.size w W) ⟨Blk.new w _ _, (Below.refl _ _).alloc (Nat.le_refl _) _⟩ ?_
  rintro W0 ⟨hbx, hb0⟩
  have HBx0 := Lib.hid hbx
  have HB0 := Lib.hid hb0
  clear hbx hb0
  go_wp2_with fail
  refine (HAw.out _ HB0.out).mono ?_
  rintro e W1 ⟨rfl, hb1⟩
  have HB1 := Lib.hid (HB0.out.trans (hb1.mono HB0.out.size))
  have HBx1 := Lib.hid (HBx0.out.keep hb1)
  clear hb1 HB0 HBx0
  go_wp2_with fail
  refine (HF1.out _ HB1.out).mono ?_
  rintro e w2 ⟨rfl, rfl⟩
  clear HF1
  go_wp2_with fail
  refine (HLeaves.out _ HB1.out).mono ?_
  rintro e W2 ⟨u, rfl, ho2, hb2⟩
  have hu2 := ho2.hss
  obtain ⟨pl, cl, rfl, hlc⟩ := hu2.form
  rw [hLl] at hu2 hlc ⊢
  have HU2 := Lib.hid hu2
  have HBx2 := Lib.hid (HBx1.out.keep hb2)
  have HB2 := Lib.hid (HB1.out.trans (hb2.mono HB1.out.size))
  clear ho2 hu2 hb2 HLeaves HBx1 HB1
  go_wp2_with fail
  refine (HRoot.out _ _ HB2.out HU2.out).mono ?_
  rintro e W3 ⟨rfl, hb3⟩
  have HU3 := Lib.hid (HU2.out.below (Nat.le_refl _) hb3)
  have HBx3 := Lib.hid (HBx2.out.keep hb3)
  have HB3 := Lib.hid (HB2.out.trans (hb3.mono HB2.out.size))
  clear hb3 HRoot HU2 HBx2 HB2
  go_upto_region 6 with (refine wpList_store_row rfl 24 (.tmp 15) (.tmp 51) rfl W3.heap.size (bs ro) rfl rfl 24 _ (Blk.new W3 _ _) HSro.out (by simp [bs_size, Hro32.out]) (bs_one _) ?_)
  obtain ⟨g, hg⟩ : ∃ g, g = W3.heap.size := ⟨_, rfl⟩
  refine world_cut (fun W => TrW w h (.slice pl m cl) L g ro W) ⟨HBx3.out.keep (below_new W3 _ _ _), HU3.out.below (Nat.le_refl _) (below_new W3 _ _ _), by rw [hg]; exact Blk.row (Blk.new W3 _ _) _, HB3.out.trans ((below_new W3 _ _ _).mono HB3.out.size)⟩ ?_
  rw [← hg]
  clear hg HU3 HBx3 HB3
  intro W4 hW4
  have HTr := Lib.hid hW4
  clear hW4
  go_upto_region 7 with fail
  rw [HRem.out]
  have HSl := Lib.hid (fun (W : World) => slice_hs_toV pl m cl m1 (by omega) W)
  have HRm2 := Lib.hid (fun (W : World) => HRm.out pl cl W)
  clear HRm
  have HRm := HRm2
  clear HRm2
  have hG : ∀ W W' : World, Below W4.heap.size W4 W → Below W.heap.size W W' → Below W4.heap.size W4 W' := fun W W' h h' => h.trans (h'.mono h.size)
  refine region_skip [(55, .is (.int .i64 n)), (56, .is (.int .i64 n)), (57, .is (.slice ax lx cx)), (58, .is (.agg (bs hxv))), (59, .is (.int .u64 (i1 : Int))), (60, .is (.int .u64 (m : Int))), (61, .is (.slice pp p pc)), (62, .is (.agg (bs ro))), (63, .is (.bool true)), (64, .is (.bool true)), (65, .is (.slice ax lx cx)), (66, .is (.string X)), (67, .is (.slice (some pa) m cv)), (68, .is (.int .u64 (i1 : Int))), (69, .is (.pointer (some (pa.add i1)))), (70, .is (.slice at_ lt ct)), (71, .is (.string Y)), (72, .is (.bool true)), (73, .is (.bool true))] [0, 1, 2, 3, 5, 10, 12, 13, 14, 15, 73] (fun W => Below W4.heap.size W4 W) (by kernel_rfl) (by kernel_rfl) (by kernel_rfl) (by kernel_rfl) (by kernel_rfl) ((Below.refl _ _).drew) ?_ ?_
  · refine ⟨?c0, ?c1, ?c2, ?c3, ?c4, ?c5, ?c6, ?c7, ?c8, ?c9, ?c10, ?c11, ?c12, ?c13, ?c14, ?c15, ?c16, ?c17, ?c18, trivial⟩
    case c0 => exact runs (ask_copy (guard_none rfl) (.tmp 0) (.inl rfl) (by intro k hk; cases hk; rfl))
    case c1 => exact runs (ask_copy (guard_none rfl) (.tmp 0) (.inl rfl) (by intro k hk; cases hk; rfl))
    case c2 => exact runs (ask_copy (guard_none rfl) (.tmp 3) (.inl rfl) (by intro k hk; cases hk; rfl))
    case c3 => exact runs (ask_call hG (guard_none rfl) _ _ _ #[.int .i64 n, .slice ax lx cx] (.is (.agg (bs hxv))) rfl (by kernel_rfl) rfl rfl (by intro k hk; cases hk; rfl) (fun W hW => (HLeaf.out W (HTr.out.2.2.2.trans (hW.mono HTr.out.2.2.2.size))).mono fun e w' h => ⟨_, h.1, rfl, h.2⟩))
    case c4 => exact runs (ask_copy (guard_none rfl) (.tmp 2) (.inl rfl) (by intro k hk; cases hk; rfl))
    case c5 => exact runs (ask_copy (guard_none rfl) (.tmp 14) (.inl rfl) (by intro k hk; cases hk; rfl))
    case c6 => exact runs (ask_copy (guard_none rfl) (.tmp 5) (.inl rfl) (by intro k hk; cases hk; rfl))
    case c7 => exact runs (ask_load (guard_none rfl) _ (.tmp 15) (.pointer (some ⟨g, 0, none⟩)) (.agg (bs ro)) rfl rfl (by intro k hk; cases hk; rfl) (fun W hW => (HTr.out.2.2.1.keep hW).loads 24 _ Tryd.underlying24 rfl HSro.out))
    case c8 => exact runs (ask_call hG (guard_none rfl) _ _ _ #[.int .i64 n, .agg (bs hxv), .int .u64 (i1 : Int), .int .u64 (m : Int), .slice pp p pc, .agg (bs ro)] (.is (.bool true)) rfl (by kernel_rfl) rfl rfl (by intro k hk; cases hk; rfl) (fun W hW => (HChk.out W (HTr.out.2.2.2.trans (hW.mono HTr.out.2.2.2.size))).mono fun e w' h => ⟨_, h.1, rfl, h.2⟩))
    case c9 => exact runs (ask_copy (guard_none rfl) (.tmp 63) (.inl rfl) (by intro k hk; cases hk; rfl))
    case c10 => exact runs (ask_copy (guard_some rfl rfl rfl) (.tmp 3) (.inl rfl) (by intro k hk; cases hk; rfl))
    case c11 => exact runs (ask_conv_bys (guard_some rfl rfl rfl) (.tmp 65) x X HXs.out rfl (fun y W hW hk => by
      have e : y 65 = (.slice ax lx cx) := hk 65 rfl
      show Bys W (y 65) x
      rw [e]
      exact HX.out.below (Nat.le_refl _) (HTr.out.2.2.2.trans (hW.mono HTr.out.2.2.2.size))) (by intro k hk; cases hk; rfl))
    case c12 => exact runs (ask_copy (guard_some rfl rfl rfl) (.tmp 1) (.inl rfl) (by intro k hk; cases hk; rfl))
    case c13 => exact runs (ask_copy (guard_some rfl rfl rfl) (.tmp 2) (.inl rfl) (by intro k hk; cases hk; rfl))
    case c14 => exact runs (ask_idx (guard_some rfl rfl rfl) _ (.tmp 67) (.tmp 68) (.slice (some pa) m cv) (.int .u64 (i1 : Int)) (.pointer (some (pa.add i1))) rfl rfl rfl (by intro k hk; cases hk; rfl) HIx.out)
    case c15 => exact runs (ask_load (guard_some rfl rfl rfl) _ (.tmp 69) (.pointer (some (pa.add i1))) (.slice at_ lt ct) rfl rfl (by intro k hk; cases hk; rfl) (fun W hW => load_txt W _ _ (HTt.out W (HTr.out.2.2.2.trans (hW.mono HTr.out.2.2.2.size))).1))
    case c16 => exact runs (ask_conv_bys (guard_some rfl rfl rfl) (.tmp 70) t Y HYs.out rfl (fun y W hW hk => by
      have e : y 70 = .slice at_ lt ct := hk 70 rfl
      show Bys W (y 70) t
      rw [e]
      exact (HTt.out W (HTr.out.2.2.2.trans (hW.mono HTr.out.2.2.2.size))).2) (by intro k hk; cases hk; rfl))
    case c17 => exact runs (ask_bin (guard_some rfl rfl rfl) .neq _ _ (.tmp 66) (.tmp 71) (.string X) (.string Y) (.bool true) rfl rfl rfl (by intro k hk; cases hk; rfl) (neq_strs _ _ _ X Y true HXY.out))
    case c18 => exact runs (ask_pick (guard_none rfl) (.tmp 64) (.tmp 72) (.const (.bool false)) true rfl rfl (by intro k hk; cases hk; rfl))
  · intro a' W7 hW hd' hs' hf'
    have t0 : a'.tmps.getD 0 undef = .int .i64 n := hf' 0 rfl
    have t1 : a'.tmps.getD 1 undef = .slice (some pa) m cv := hf' 1 rfl
    have t2 : a'.tmps.getD 2 undef = .int .u64 (i1 : Int) := hf' 2 rfl
    have t3 : a'.tmps.getD 3 undef = .slice ax lx cx := hf' 3 rfl
    have t5 : a'.tmps.getD 5 undef = .slice pp p pc := hf' 5 rfl
    have t10 : a'.tmps.getD 10 undef = .pointer (some ⟨w.heap.size, 0, none⟩) := hf' 10 rfl
    have t12 : a'.tmps.getD 12 undef = .bool false := hf' 12 rfl
    have t13 : a'.tmps.getD 13 undef = .slice pl m cl := hf' 13 rfl
    have t14 : a'.tmps.getD 14 undef = .int .u64 (m : Int) := hf' 14 rfl
    have t15 : a'.tmps.getD 15 undef = .pointer (some ⟨g, 0, none⟩) := hf' 15 rfl
    have t73 : a'.tmps.getD 73 undef = .bool true := hf' 73 rfl
    obtain ⟨us', hus, ha'⟩ := act_open 127 a' hs' hd'
    rw [← hus] at t0 t1 t2 t3 t5 t10 t12 t13 t14 t15 t73
    have el : ((List.range 127).map us').toArray = #[.int .i64 n, .slice (some pa) m cv, .int .u64 (i1 : Int), .slice ax lx cx, us' 4, .slice pp p pc, us' 6, us' 7, us' 8, us' 9, .pointer (some ⟨w.heap.size, 0, none⟩), us' 11, .bool false, .slice pl m cl, .int .u64 (m : Int), .pointer (some ⟨g, 0, none⟩), us' 16, us' 17, us' 18, us' 19, us' 20, us' 21, us' 22, us' 23, us' 24, us' 25, us' 26, us' 27, us' 28, us' 29, us' 30, us' 31, us' 32, us' 33, us' 34, us' 35, us' 36, us' 37, us' 38, us' 39, us' 40, us' 41, us' 42, us' 43, us' 44, us' 45, us' 46, us' 47, us' 48, us' 49, us' 50, us' 51, us' 52, us' 53, us' 54, us' 55, us' 56, us' 57, us' 58, us' 59, us' 60, us' 61, us' 62, us' 63, us' 64, us' 65, us' 66, us' 67, us' 68, us' 69, us' 70, us' 71, us' 72, .bool true, us' 74, us' 75, us' 76, us' 77, us' 78, us' 79, us' 80, us' 81, us' 82, us' 83, us' 84, us' 85, us' 86, us' 87, us' 88, us' 89, us' 90, us' 91, us' 92, us' 93, us' 94, us' 95, us' 96, us' 97, us' 98, us' 99, us' 100, us' 101, us' 102, us' 103, us' 104, us' 105, us' 106, us' 107, us' 108, us' 109, us' 110, us' 111, us' 112, us' 113, us' 114, us' 115, us' 116, us' 117, us' 118, us' 119, us' 120, us' 121, us' 122, us' 123, us' 124, us' 125, us' 126] := by
      show #[us' 0, us' 1, us' 2, us' 3, us' 4, us' 5, us' 6, us' 7, us' 8, us' 9, us' 10, us' 11, us' 12, us' 13, us' 14, us' 15, us' 16, us' 17, us' 18, us' 19, us' 20, us' 21, us' 22, us' 23, us' 24, us' 25, us' 26, us' 27, us' 28, us' 29, us' 30, us' 31, us' 32, us' 33, us' 34, us' 35, us' 36, us' 37, us' 38, us' 39, us' 40, us' 41, us' 42, us' 43, us' 44, us' 45, us' 46, us' 47, us' 48, us' 49, us' 50, us' 51, us' 52, us' 53, us' 54, us' 55, us' 56, us' 57, us' 58, us' 59, us' 60, us' 61, us' 62, us' 63, us' 64, us' 65, us' 66, us' 67, us' 68, us' 69, us' 70, us' 71, us' 72, us' 73, us' 74, us' 75, us' 76, us' 77, us' 78, us' 79, us' 80, us' 81, us' 82, us' 83, us' 84, us' 85, us' 86, us' 87, us' 88, us' 89, us' 90, us' 91, us' 92, us' 93, us' 94, us' 95, us' 96, us' 97, us' 98, us' 99, us' 100, us' 101, us' 102, us' 103, us' 104, us' 105, us' 106, us' 107, us' 108, us' 109, us' 110, us' 111, us' 112, us' 113, us' 114, us' 115, us' 116, us' 117, us' 118, us' 119, us' 120, us' 121, us' 122, us' 123, us' 124, us' 125, us' 126] = _
      rw [t0, t1, t2, t3, t5, t10, t12, t13, t14, t15, t73]
    rw [el] at ha'
    subst ha'
    clear hus t0 t1 t2 t3 t5 t10 t12 t13 t14 t15 t73 el hf' hs' hd'
    have HTr7 := Lib.hid (HTr.out.keep hW)
    clear hW hG HTr
    have HTr := Lib.hid HTr7.out
    clear HTr7
    go_wp2_with (fail)
    refine (HPa.out _ HTr.out.2.2.2).mono ?_
    rintro e V2 ⟨u, rfl, hp2, hb2⟩
    obtain ⟨a1, c1, a2, c2, rfl, hy1, hy2⟩ := hp2
    have HTr2 := Lib.hid (HTr.out.keep hb2)
    have HY1 := Lib.hid hy1
    have HY2 := Lib.hid hy2
    clear hy1 hy2 hb2 HTr
    go_upto_region 9 with (refine wpList_store_row rfl 51 (.tmp 16) (.tmp 81) rfl V2.heap.size (prC a1 PHPa.1.length c1 a2 PHPa.2.length c2) rfl rfl 51 _ (Blk.new V2 _ _) (size_pair _ _ _ _ _ _) rfl (pair_one _ _ _ _ _ _) ?_)
    refine world_cut (fun W => TrW w h (.slice pl m cl) L g ro W ∧ Blk W V2.heap.size 51 (prC a1 PHPa.1.length c1 a2 PHPa.2.length c2) ∧ PairB W (.agg (prC a1 PHPa.1.length c1 a2 PHPa.2.length c2)) PHPa) ⟨HTr2.out.keep (below_new V2 _ _ _), Blk.row (Blk.new V2 _ _) _, ⟨a1, c1, a2, c2, rfl, HY1.out.below (Nat.le_refl _) (below_new V2 _ _ _), HY2.out.below (Nat.le_refl _) (below_new V2 _ _ _)⟩⟩ ?_
    obtain ⟨gp, hgp⟩ : ∃ g, g = V2.heap.size := ⟨_, rfl⟩
    rw [← hgp]
    clear HTr2 HY1 HY2 hgp
    rintro V3 ⟨htr, hk, hq⟩
    have HTr3 := Lib.hid htr
    have HKp := Lib.hid hk
    have HS := Lib.hid (refclash_any n HN.out _ PHPa V3 hq HLHPa.out.1 HLHPa.out.2 (HK.out.below (Nat.le_refl _) HTr3.out.2.2.2))
    rw [HClHPa.out] at HS
    clear htr hk hq
    go_wp2_with (refine wpList_load_guarded rfl 51 (.tmp 16) rfl _ (.agg (prC a1 PHPa.1.length c1 a2 PHPa.2.length c2)) rfl (HKp.out.loads 51 _ Tryd.underlying51 rfl (size_pair _ _ _ _ _ _)) ?_)
    refine HS.out.mono ?_
    rintro e Wc ⟨rfl, hb7⟩
    have HTr := Lib.hid (HTr3.out.keep hb7)
    clear hb7 HS HTr3 HKp
    go_upto_region 11 with fail
    have hG : ∀ W W' : World, Below Wc.heap.size Wc W → Below W.heap.size W W' → Below Wc.heap.size Wc W' := fun W W' h h' => h.trans (h'.mono h.size)
    refine region_skip [(91, .is (.int .i64 n)), (92, .is (.int .u64 (i1 : Int))), (93, .is (.int .u64 (m1 : Int))), (94, .is (.int .u64 (m : Int))), (95, .is (.agg (bs h))), (96, .is (.agg (bs ro))), (97, .is (.slice pp p pc)), (98, .is (.bool true)), (99, .is (.bool true)), (100, .is (.agg (bs h))), (101, .is (.int .i64 n)), (102, .is (.slice pl m cl)), (103, .is (.int .u64 (i1 : Int))), (104, .is (.int .u64 (m1 : Int))), (105, .is (.slice pl m1 cl)), (106, .is (.agg (bs rm))), (107, .is (.bool true)), (108, .is (.bool true))] [0, 1, 2, 5, 10, 12, 108] (fun W => Below Wc.heap.size Wc W) (by kernel_rfl) (by kernel_rfl) (by kernel_rfl) (by kernel_rfl) (by kernel_rfl) ((Below.refl _ _).drew) ?_ ?_
    · refine ⟨?c0, ?c1, ?c2, ?c3, ?c4, ?c5, ?c6, ?c7, ?c8, ?c9, ?c10, ?c11, ?c12, ?c13, ?c14, ?c15, ?c16, ?c17, trivial⟩
      case c0 => exact runs (ask_copy (guard_none rfl) (.tmp 0) (.inl rfl) (by intro k hk; cases hk; rfl))
      case c1 => exact runs (ask_copy (guard_none rfl) (.tmp 2) (.inl rfl) (by intro k hk; cases hk; rfl))
      case c2 => exact runs (ask_bin (guard_none rfl) .add _ _ (.tmp 92) (.const (.int .u64 1)) (.int .u64 (i1 : Int)) (.int .u64 1) (.int .u64 (m1 : Int)) rfl rfl rfl (by intro k hk; cases hk; rfl) (fun W => add_u64d _ _ _ HM1.out (by omega) _ _ _ W))
      case c3 => exact runs (ask_copy (guard_none rfl) (.tmp 14) (.inl rfl) (by intro k hk; cases hk; rfl))
      case c4 => exact runs (ask_load (guard_none rfl) _ (.tmp 10) (.pointer (some ⟨w.heap.size, 0, none⟩)) (.agg (bs h)) rfl rfl (by intro k hk; cases hk; rfl) (fun W hW => (HTr.out.1.keep hW).loads 24 _ Tryd.underlying24 rfl HSh.out))
      case c5 => exact runs (ask_load (guard_none rfl) _ (.tmp 15) (.pointer (some ⟨g, 0, none⟩)) (.agg (bs ro)) rfl rfl (by intro k hk; cases hk; rfl) (fun W hW => (HTr.out.2.2.1.keep hW).loads 24 _ Tryd.underlying24 rfl HSro.out))
      case c6 => exact runs (ask_copy (guard_none rfl) (.tmp 5) (.inl rfl) (by intro k hk; cases hk; rfl))
      case c7 => exact runs (ask_call hG (guard_none rfl) _ _ _ #[.int .i64 n, .int .u64 (m1 : Int), .int .u64 (m : Int), .agg (bs h), .agg (bs ro), .slice pp p pc] (.is (.bool true)) rfl (by kernel_rfl) rfl rfl (by intro k hk; cases hk; rfl) (fun W hW => (HChk2.out W (HTr.out.2.2.2.trans (hW.mono HTr.out.2.2.2.size))).mono fun e w' h => ⟨_, h.1, rfl, h.2⟩))
      case c8 => exact runs (ask_copy (guard_none rfl) (.tmp 98) (.inl rfl) (by intro k hk; cases hk; rfl))
      case c9 => exact runs (ask_load (guard_some rfl rfl rfl) _ (.tmp 10) (.pointer (some ⟨w.heap.size, 0, none⟩)) (.agg (bs h)) rfl rfl (by intro k hk; cases hk; rfl) (fun W hW => (HTr.out.1.keep hW).loads 24 _ Tryd.underlying24 rfl HSh.out))
      case c10 => exact runs (ask_copy (guard_some rfl rfl rfl) (.tmp 0) (.inl rfl) (by intro k hk; cases hk; rfl))
      case c11 => exact runs (ask_copy (guard_some rfl rfl rfl) (.tmp 13) (.inl rfl) (by intro k hk; cases hk; rfl))
      case c12 => exact runs (ask_copy (guard_some rfl rfl rfl) (.tmp 2) (.inl rfl) (by intro k hk; cases hk; rfl))
      case c13 => exact runs (ask_bin (guard_some rfl rfl rfl) .add _ _ (.tmp 103) (.const (.int .u64 1)) (.int .u64 (i1 : Int)) (.int .u64 1) (.int .u64 (m1 : Int)) rfl rfl rfl (by intro k hk; cases hk; rfl) (fun W => add_u64d _ _ _ HM1.out (by omega) _ _ _ W))
      case c14 => exact runs (ask_slice (guard_some rfl rfl rfl) _ (.tmp 102) none (some (.tmp 104)) none (.slice pl m cl) (.slice pl m1 cl) none (some (.int .u64 (m1 : Int))) none rfl rfl rfl rfl rfl (by intro k hk; cases hk; rfl) HSl.out)
      case c15 => exact runs (ask_call hG (guard_some rfl rfl rfl) _ _ _ #[.int .i64 n, .slice pl m1 cl] (.is (.agg (bs rm))) rfl (by kernel_rfl) rfl rfl (by intro k hk; cases hk; rfl) (fun W hW => (HRm.out W (HTr.out.2.1.below (Nat.le_refl _) hW) (HTr.out.2.2.2.trans (hW.mono HTr.out.2.2.2.size))).mono fun e w' h => ⟨_, h.1, rfl, h.2⟩))
      case c16 => exact runs (ask_bin (guard_some rfl rfl rfl) .neq _ _ (.tmp 100) (.tmp 106) (.agg (bs h)) (.agg (bs rm)) (.bool true) rfl rfl rfl (by intro k hk; cases hk; rfl) (HNq.out _ _))
      case c17 => exact runs (ask_pick (guard_none rfl) (.tmp 99) (.tmp 107) (.const (.bool false)) true rfl rfl (by intro k hk; cases hk; rfl))
    · intro a' Wd hW hd' hs' hf'
      have t0 : a'.tmps.getD 0 undef = .int .i64 n := hf' 0 rfl
      have t1 : a'.tmps.getD 1 undef = .slice (some pa) m cv := hf' 1 rfl
      have t2 : a'.tmps.getD 2 undef = .int .u64 (i1 : Int) := hf' 2 rfl
      have t5 : a'.tmps.getD 5 undef = .slice pp p pc := hf' 5 rfl
      have t10 : a'.tmps.getD 10 undef = .pointer (some ⟨w.heap.size, 0, none⟩) := hf' 10 rfl
      have t12 : a'.tmps.getD 12 undef = .bool false := hf' 12 rfl
      have t108 : a'.tmps.getD 108 undef = .bool true := hf' 108 rfl
      obtain ⟨vs', hus, ha'⟩ := act_open 127 a' hs' hd'
      rw [← hus] at t0 t1 t2 t5 t10 t12 t108
      have el : ((List.range 127).map vs').toArray = #[.int .i64 n, .slice (some pa) m cv, .int .u64 (i1 : Int), vs' 3, vs' 4, .slice pp p pc, vs' 6, vs' 7, vs' 8, vs' 9, .pointer (some ⟨w.heap.size, 0, none⟩), vs' 11, .bool false, vs' 13, vs' 14, vs' 15, vs' 16, vs' 17, vs' 18, vs' 19, vs' 20, vs' 21, vs' 22, vs' 23, vs' 24, vs' 25, vs' 26, vs' 27, vs' 28, vs' 29, vs' 30, vs' 31, vs' 32, vs' 33, vs' 34, vs' 35, vs' 36, vs' 37, vs' 38, vs' 39, vs' 40, vs' 41, vs' 42, vs' 43, vs' 44, vs' 45, vs' 46, vs' 47, vs' 48, vs' 49, vs' 50, vs' 51, vs' 52, vs' 53, vs' 54, vs' 55, vs' 56, vs' 57, vs' 58, vs' 59, vs' 60, vs' 61, vs' 62, vs' 63, vs' 64, vs' 65, vs' 66, vs' 67, vs' 68, vs' 69, vs' 70, vs' 71, vs' 72, vs' 73, vs' 74, vs' 75, vs' 76, vs' 77, vs' 78, vs' 79, vs' 80, vs' 81, vs' 82, vs' 83, vs' 84, vs' 85, vs' 86, vs' 87, vs' 88, vs' 89, vs' 90, vs' 91, vs' 92, vs' 93, vs' 94, vs' 95, vs' 96, vs' 97, vs' 98, vs' 99, vs' 100, vs' 101, vs' 102, vs' 103, vs' 104, vs' 105, vs' 106, vs' 107, .bool true, vs' 109, vs' 110, vs' 111, vs' 112, vs' 113, vs' 114, vs' 115, vs' 116, vs' 117, vs' 118, vs' 119, vs' 120, vs' 121, vs' 122, vs' 123, vs' 124, vs' 125, vs' 126] := by
        show #[vs' 0, vs' 1, vs' 2, vs' 3, vs' 4, vs' 5, vs' 6, vs' 7, vs' 8, vs' 9, vs' 10, vs' 11, vs' 12, vs' 13, vs' 14, vs' 15, vs' 16, vs' 17, vs' 18, vs' 19, vs' 20, vs' 21, vs' 22, vs' 23, vs' 24, vs' 25, vs' 26, vs' 27, vs' 28, vs' 29, vs' 30, vs' 31, vs' 32, vs' 33, vs' 34, vs' 35, vs' 36, vs' 37, vs' 38, vs' 39, vs' 40, vs' 41, vs' 42, vs' 43, vs' 44, vs' 45, vs' 46, vs' 47, vs' 48, vs' 49, vs' 50, vs' 51, vs' 52, vs' 53, vs' 54, vs' 55, vs' 56, vs' 57, vs' 58, vs' 59, vs' 60, vs' 61, vs' 62, vs' 63, vs' 64, vs' 65, vs' 66, vs' 67, vs' 68, vs' 69, vs' 70, vs' 71, vs' 72, vs' 73, vs' 74, vs' 75, vs' 76, vs' 77, vs' 78, vs' 79, vs' 80, vs' 81, vs' 82, vs' 83, vs' 84, vs' 85, vs' 86, vs' 87, vs' 88, vs' 89, vs' 90, vs' 91, vs' 92, vs' 93, vs' 94, vs' 95, vs' 96, vs' 97, vs' 98, vs' 99, vs' 100, vs' 101, vs' 102, vs' 103, vs' 104, vs' 105, vs' 106, vs' 107, vs' 108, vs' 109, vs' 110, vs' 111, vs' 112, vs' 113, vs' 114, vs' 115, vs' 116, vs' 117, vs' 118, vs' 119, vs' 120, vs' 121, vs' 122, vs' 123, vs' 124, vs' 125, vs' 126] = _
        rw [t0, t1, t2, t5, t10, t12, t108]
      rw [el] at ha'
      subst ha'
      clear hus t0 t1 t2 t5 t10 t12 t108 el hf' hs' hd'
      have HTrd := Lib.hid (HTr.out.keep hW)
      clear hW hG HTr
      have HTr := Lib.hid HTrd.out
      clear HTrd
      have hm1 := HM1.out
      go_wp2_with (refine wpList_load_row rfl 24 (.tmp 10) rfl w.heap.size rfl 24 (bs h) (0, 0) _ HTr.out.1 Tryd.underlying24 rfl HSh.out ?_)
      refine (HGr.out _ HTr.out.2.2.2).mono ?_
      rintro e V2 ⟨u, rfl, hp2, hb2⟩
      obtain ⟨a1, c1, a2, c2, rfl, hy1, hy2⟩ := hp2
      have HTr2 := Lib.hid (HTr.out.keep hb2)
      have HY1 := Lib.hid hy1
      have HY2 := Lib.hid hy2
      clear hy1 hy2 hb2 HTr
      go_upto_region 13 with (refine wpList_store_row rfl 51 (.tmp 18) (.tmp 117) rfl V2.heap.size (prC a1 PHGr.1.length c1 a2 PHGr.2.length c2) rfl rfl 51 _ (Blk.new V2 _ _) (size_pair _ _ _ _ _ _) rfl (pair_one _ _ _ _ _ _) ?_)
      refine world_cut (fun W => TrW w h (.slice pl m cl) L g ro W ∧ Blk W V2.heap.size 51 (prC a1 PHGr.1.length c1 a2 PHGr.2.length c2) ∧ PairB W (.agg (prC a1 PHGr.1.length c1 a2 PHGr.2.length c2)) PHGr) ⟨HTr2.out.keep (below_new V2 _ _ _), Blk.row (Blk.new V2 _ _) _, ⟨a1, c1, a2, c2, rfl, HY1.out.below (Nat.le_refl _) (below_new V2 _ _ _), HY2.out.below (Nat.le_refl _) (below_new V2 _ _ _)⟩⟩ ?_
      obtain ⟨gp, hgp⟩ : ∃ g, g = V2.heap.size := ⟨_, rfl⟩
      rw [← hgp]
      clear HTr2 HY1 HY2 hgp
      rintro V3 ⟨htr, hk, hq⟩
      have HTr3 := Lib.hid htr
      have HKp := Lib.hid hk
      have HS := Lib.hid (refclash_any n HN.out _ PHGr V3 hq HLHGr.out.1 HLHGr.out.2 (HK.out.below (Nat.le_refl _) HTr3.out.2.2.2))
      rw [HClHGr.out] at HS
      clear htr hk hq
      go_wp2_with (refine wpList_load_guarded rfl 51 (.tmp 18) rfl _ (.agg (prC a1 PHGr.1.length c1 a2 PHGr.2.length c2)) rfl (HKp.out.loads 51 _ Tryd.underlying51 rfl (size_pair _ _ _ _ _ _)) ?_)
      refine HS.out.mono ?_
      rintro e We ⟨rfl, hb7⟩
      have HTr := Lib.hid (HTr3.out.keep hb7)
      clear hb7 HS HTr3 HKp
      go_wp2
      go_ret
      exact ⟨rfl, HTr.out.2.2.2⟩
end Go.Proofs.YtdhfabjkpffhnaaDoor

/- ClashTrust: the walk. -/
namespace Go.Proofs.YtdhfabjkpffhnaaDoor
set_option maxRecDepth 20000
open Go.RowKit ShaMath LeafMath PathMath GrowthMath ClashMath Reg

set_option maxHeartbeats 2000000 in
set_option maxRecDepth 100000 in
theorem clashTrust_walk (hp : ClashProg) (hq : LeafProg) (hd : DataProg) (hpc : CheckProg) (hgc : Check16Prog) (n : Int) (hn : I64 n) (T : List Bs) (v : Value) (i : Nat) (x : Bs) (ax : Option Addr) (cx : Nat) (hcx : x.length ≤ cx) (hlx : x.length ≤ 140737488355328) (h : Hs) (hh : h.length = 32) (ps : List Hs) (vp : Value) (hlp : ps.length ≤ 4398046511104) (w : World) (hvT : Txs w v T) (hlT : T.length ≤ 5864062014976) (hvx : Bys w (.slice ax x.length cx) x) (hvp : Hss w vp ps) (ht : Tabs w) (hk : Consts w) :
    Calls Tryd.prog 12 #[.int .i64 n, v, .int .u64 (i : Int), .slice ax x.length cx, .agg (bs h), vp] w fun e w' => e = .returned (.bool true) ∧ Below w.heap.size w w' := by
  obtain ⟨pv, cv, rfl, hcv⟩ := hvT.form
  obtain ⟨pp, pc, rfl, _⟩ := hvp.form
  by_cases hall : fewS T ≤ 4000 ∧ x.length ≤ 4000 ∧ ps.length ≤ 80 ∧ 1 ≤ T.length
  · obtain ⟨hf1, hx4, hp8, hT1⟩ := hall
    by_cases hb : (climbR n (leafH n x) (i % T.length) T.length ps).2 = 0 ∧ (climbR n (leafH n x) (i % T.length) T.length ps).1 = rootT n T
    · by_cases hxx : T[i % T.length]? = some x
      · cases hc : checkGR n h (i % T.length + 1) T.length (rootT n T) ps with
        | false => exact clashTrust_TF_F hp hq hd hpc hgc n hn T (.slice pv T.length cv) i x ax cx hcx h hh ps (.slice pp ps.length pc) w hvT hlT hvx hvp ht hk hf1 hx4 hp8 hT1 (i % T.length) rfl (decide_eq_true hb) hxx hc
        | true =>
          by_cases hhh : h = rootT n (T.take (i % T.length + 1))
          · exact clashTrust_TF_TF hp hq hd hpc hgc n hn T (.slice pv T.length cv) i x ax cx hcx h hh ps (.slice pp ps.length pc) w hvT hlT hvx hvp ht hk hf1 hx4 hp8 hT1 (i % T.length) rfl (decide_eq_true hb) hxx hc hhh
          · exact clashTrust_TF_TT hp hq hd hpc hgc n hn T (.slice pv T.length cv) i x ax cx hcx h hh ps (.slice pp ps.length pc) w hvT hlT hvx hvp ht hk hf1 hx4 hp8 hT1 (i % T.length) rfl (decide_eq_true hb) hxx hc hhh
      · cases hc : checkGR n h (i % T.length + 1) T.length (rootT n T) ps with
        | false => exact clashTrust_TT_F hp hq hd hpc hgc n hn T (.slice pv T.length cv) i x ax cx hcx h hh ps (.slice pp ps.length pc) w hvT hlT hvx hvp ht hk hf1 hx4 hp8 hT1 (i % T.length) rfl (decide_eq_true hb) hxx hc
        | true =>
          by_cases hhh : h = rootT n (T.take (i % T.length + 1))
          · exact clashTrust_TT_TF hp hq hd hpc hgc n hn T (.slice pv T.length cv) i x ax cx hcx h hh ps (.slice pp ps.length pc) w hvT hlT hvx hvp ht hk hf1 hx4 hp8 hT1 (i % T.length) rfl (decide_eq_true hb) hxx hc hhh
          · exact clashTrust_TT_TT hp hq hd hpc hgc n hn T (.slice pv T.length cv) i x ax cx hcx h hh ps (.slice pp ps.length pc) w hvT hlT hvx hvp ht hk hf1 hx4 hp8 hT1 (i % T.length) rfl (decide_eq_true hb) hxx hc hhh
    · cases hc : checkGR n h (i % T.length + 1) T.length (rootT n T) ps with
      | false => exact clashTrust_F_F hp hq hd hpc hgc n hn T (.slice pv T.length cv) i x ax cx hcx h hh ps (.slice pp ps.length pc) w hvT hlT hvx hvp ht hk hf1 hx4 hp8 hT1 (i % T.length) rfl (decide_eq_false hb) hc
      | true =>
        by_cases hhh : h = rootT n (T.take (i % T.length + 1))
        · exact clashTrust_F_TF hp hq hd hpc hgc n hn T (.slice pv T.length cv) i x ax cx hcx h hh ps (.slice pp ps.length pc) w hvT hlT hvx hvp ht hk hf1 hx4 hp8 hT1 (i % T.length) rfl (decide_eq_false hb) hc hhh
        · exact clashTrust_F_TT hp hq hd hpc hgc n hn T (.slice pv T.length cv) i x ax cx hcx h hh ps (.slice pp ps.length pc) w hvT hlT hvx hvp ht hk hf1 hx4 hp8 hT1 (i % T.length) rfl (decide_eq_false hb) hc hhh
  · have HAw := Lib.hid (fun (W : World) (hW : Below w.heap.size w W) => awake17_any hp W (ht.below (Nat.le_refl _) hW))
    have HF1 := Lib.hid (fun (W : World) (hW : Below w.heap.size w W) => few17_any T (.slice pv T.length cv) W (hvT.below (Nat.le_refl _) hW) hlT)
    obtain ⟨lx, hx⟩ : ∃ l, l = x.length := ⟨_, rfl⟩
    rw [← hx] at hvx hcx hlx hall ⊢
    obtain ⟨p, hpp⟩ : ∃ p, p = ps.length := ⟨_, rfl⟩
    rw [← hpp] at hvp hlp hall ⊢
    obtain ⟨m, hm⟩ : ∃ m, m = T.length := ⟨_, rfl⟩
    rw [← hm] at hvT hlT HF1 hall ⊢
    by_cases hf1 : fewS T ≤ 4000
    · rw [decide_eq_true hf1] at HF1
      by_cases hx4 : lx ≤ 4000
      · have d1 : decide ((lx : Int) > 4000) = false := decide_eq_false (by omega)
        by_cases hp8 : p ≤ 80
        · have d2 : decide ((p : Int) > 80) = false := decide_eq_false (by omega)
          obtain rfl : m = 0 := by omega
          have d3 : ((0 : Int) == 0) = true := rfl
          clear hall
          clear hvT hlT hvx hvp ht hk hp hq hd hpc hgc hn hf1 hx hpp hm hh hcx hlx hlp
          go_enter Tryd.func12, Tryd.ntmps12
          go_upto_region 1 with fail
          refine world_cut (fun W => Blk W w.heap.size 24 (bs h) ∧ Below w.heap.size w W) ⟨Blk.new w _ _, (Below.refl _ _).alloc (Nat.le_refl _) _⟩ ?_
          rintro W0 ⟨hbx, hb0⟩
          have HBx0 := Lib.hid hbx
          have HB0 := Lib.hid hb0
          clear hbx hb0
          go_wp2_with fail
          refine (HAw.out _ HB0.out).mono ?_
          rintro e W1 ⟨rfl, hb1⟩
          have HB1 := Lib.hid (HB0.out.trans (hb1.mono HB0.out.size))
          have HBx1 := Lib.hid (HBx0.out.keep hb1)
          clear hb1 HB0 HBx0
          go_wp2_with fail
          refine (HF1.out _ HB1.out).mono ?_
          rintro e w2 ⟨rfl, rfl⟩
          clear HF1
          go_wp2_with fail
          refine (HAw.out _ HB1.out).mono ?_
          rintro e W2 ⟨rfl, hb2⟩
          have HB2 := Lib.hid (HB1.out.trans (hb2.mono HB1.out.size))
          clear hb2
          go_wp2
          go_ret
          exact ⟨rfl, HB2.out⟩
        · have d2 : decide ((p : Int) > 80) = true := decide_eq_true (by omega)
          clear hall
          clear hvT hlT hvx hvp ht hk hp hq hd hpc hgc hn hf1 hx hpp hm hh hcx hlx hlp
          go_enter Tryd.func12, Tryd.ntmps12
          go_upto_region 1 with fail
          refine world_cut (fun W => Blk W w.heap.size 24 (bs h) ∧ Below w.heap.size w W) ⟨Blk.new w _ _, (Below.refl _ _).alloc (Nat.le_refl _) _⟩ ?_
          rintro W0 ⟨hbx, hb0⟩
          have HBx0 := Lib.hid hbx
          have HB0 := Lib.hid hb0
          clear hbx hb0
          go_wp2_with fail
          refine (HAw.out _ HB0.out).mono ?_
          rintro e W1 ⟨rfl, hb1⟩
          have HB1 := Lib.hid (HB0.out.trans (hb1.mono HB0.out.size))
          have HBx1 := Lib.hid (HBx0.out.keep hb1)
          clear hb1 HB0 HBx0
          go_wp2_with fail
          refine (HF1.out _ HB1.out).mono ?_
          rintro e w2 ⟨rfl, rfl⟩
          clear HF1
          go_wp2_with fail
          refine (HAw.out _ HB1.out).mono ?_
          rintro e W2 ⟨rfl, hb2⟩
          have HB2 := Lib.hid (HB1.out.trans (hb2.mono HB1.out.size))
          clear hb2
          go_wp2
          go_ret
          exact ⟨rfl, HB2.out⟩
      · have d1 : decide ((lx : Int) > 4000) = true := decide_eq_true (by omega)
        clear hall
        clear hvT hlT hvx hvp ht hk hp hq hd hpc hgc hn hf1 hx hpp hm hh hcx hlx hlp
        go_enter Tryd.func12, Tryd.ntmps12
        go_upto_region 1 with fail
        refine world_cut (fun W => Blk W w.heap.size 24 (bs h) ∧ Below w.heap.size w W) ⟨Blk.new w _ _, (Below.refl _ _).alloc (Nat.le_refl _) _⟩ ?_
        rintro W0 ⟨hbx, hb0⟩
        have HBx0 := Lib.hid hbx
        have HB0 := Lib.hid hb0
        clear hbx hb0
        go_wp2_with fail
        refine (HAw.out _ HB0.out).mono ?_
        rintro e W1 ⟨rfl, hb1⟩
        have HB1 := Lib.hid (HB0.out.trans (hb1.mono HB0.out.size))
        have HBx1 := Lib.hid (HBx0.out.keep hb1)
        clear hb1 HB0 HBx0
        go_wp2_with fail
        refine (HF1.out _ HB1.out).mono ?_
        rintro e w2 ⟨rfl, rfl⟩
        clear HF1
        go_wp2_with fail
        refine (HAw.out _ HB1.out).mono ?_
        rintro e W2 ⟨rfl, hb2⟩
        have HB2 := Lib.hid (HB1.out.trans (hb2.mono HB1.out.size))
        clear hb2
        go_wp2
        go_ret
        exact ⟨rfl, HB2.out⟩
    · rw [decide_eq_false hf1] at HF1
      clear hall
      clear hvT hlT hvx hvp ht hk hp hq hd hpc hgc hn hf1 hx hpp hm hh hcx hlx hlp
      go_enter Tryd.func12, Tryd.ntmps12
      go_upto_region 1 with fail
      refine world_cut (fun W => Blk W w.heap.size 24 (bs h) ∧ Below w.heap.size w W) ⟨Blk.new w _ _, (Below.refl _ _).alloc (Nat.le_refl _) _⟩ ?_
      rintro W0 ⟨hbx, hb0⟩
      have HBx0 := Lib.hid hbx
      have HB0 := Lib.hid hb0
      clear hbx hb0
      go_wp2_with fail
      refine (HAw.out _ HB0.out).mono ?_
      rintro e W1 ⟨rfl, hb1⟩
      have HB1 := Lib.hid (HB0.out.trans (hb1.mono HB0.out.size))
      have HBx1 := Lib.hid (HBx0.out.keep hb1)
      clear hb1 HB0 HBx0
      go_wp2_with fail
      refine (HF1.out _ HB1.out).mono ?_
      rintro e w2 ⟨rfl, rfl⟩
      clear HF1
      go_wp2_with fail
      refine (HAw.out _ HB1.out).mono ?_
      rintro e W2 ⟨rfl, hb2⟩
      have HB2 := Lib.hid (HB1.out.trans (hb2.mono HB1.out.size))
      clear hb2
      go_wp2
      go_ret
      exact ⟨rfl, HB2.out⟩
end Go.Proofs.YtdhfabjkpffhnaaDoor

