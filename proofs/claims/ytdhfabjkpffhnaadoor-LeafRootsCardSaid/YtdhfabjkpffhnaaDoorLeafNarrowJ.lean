/- LeafNarrow: the walk. -/
import Derived.Test.YtdhfabjkpffhnaaDoorLeafSpecJ
namespace Go.Proofs.YtdhfabjkpffhnaaDoor
set_option maxRecDepth 20000
open Go.RowKit ShaMath LeafMath Reg

theorem i999 : I64 999 := by unfold I64; omega

/-- A row of two hashes. -/
theorem build_hash2 (W : World) (x y : Hs) (hx : x.length = 32) (hy : y.length = 32) : ∃ W', (Instr.buildSlice 30 2 #[(0, .agg (bs x)), (1, .agg (bs y))]).run Tryd.prog W = .ok (.slice (some ⟨W.heap.size, 0, none⟩) 2 2) W' ∧ Hss W' (.slice (some ⟨W.heap.size, 0, none⟩) 2 2) [x, y] ∧ Below W.heap.size W W' := by
  obtain ⟨i, hi, hz0, hz1, hz2⟩ := info_parts info_hash
  have h32x : (bs x).size = 32 := by rw [bs_size, hx]
  have h32y : (bs y).size = 32 := by rw [bs_size, hy]
  have hc : (hcells [x, y]).toArray.size = 64 := by simp [hcells, hcs, hx, hy]
  refine ⟨W.alloc (.cells (hcells [x, y]).toArray 24), ?_, ⟨fun z hz => ?_, .inr ⟨_, 2, rfl, Nat.le_refl _, fun j u hj => ?_⟩⟩, (Below.refl _ _).alloc (Nat.le_refl _) _⟩
  · refine run_buildSlice W _ _ 2 _ (hcells [x, y]).toArray i _ Tryd.underlying30 hi hz0 (by rw [hz1]; decide) (by rw [hz1]; decide) ?_
    rw [hz1]
    have := Go.Great.fill_whole (s := 32) (by decide) [.agg (bs x), .agg (bs y)] ((Array.range (2 * 32)).map ((Value.agg (bs (List.replicate 32 0))).cells[· % (Value.agg (bs (List.replicate 32 0))).cells.size]!)) (by simp [Value.cells, h32x, h32y]) (by simp)
    simpa [Value.cells, hcells, hcs, bs] using this
  · simp at hz
    rcases hz with rfl | rfl
    · exact hx
    · exact hy
  · rw [addr_add, Nat.zero_add, (Blk.new W 24 (hcells [x, y]).toArray).cell]
    simpa using hj

theorem wpList_build_hash2 {w : World} {ops : Array Oper} {rest : List Oper} {o : Oper} {a : Act} {Q : Exit → Act → World → Prop} (hgd : o.guard = none) (s t : Operand) (ho : o.op = .buildSlice 30 2 #[(0, s), (1, t)])
    (x y : Hs) (hx : a.eval s = .agg (bs x)) (hy : a.eval t = .agg (bs y)) (hx32 : x.length = 32) (hy32 : y.length = 32)
    (h : ∀ W', Hss W' (.slice (some ⟨w.heap.size, 0, none⟩) 2 2) [x, y] → Below w.heap.size w W' → wpList Tryd.prog ops Q rest (a.put o.dst (.slice (some ⟨w.heap.size, 0, none⟩) 2 2)) W') : wpList Tryd.prog ops Q (o :: rest) a w := by
  obtain ⟨W', h1, h2, h3⟩ := build_hash2 w x y hx32 hy32
  refine wpList_plain hgd fun K hK => ?_
  unfold Oper.wp execOp
  simp only [ho, Sem.run_bind, List.map_toArray, List.map_cons, List.map_nil, hx, hy, h1, Result.andThen_ok]
  exact hK _ _ (h W' h2 h3)

/-- The blocks that LeafNarrow lays. -/
def Nar1 (w : World) (g : Nat) (x : Hs) (W : World) : Prop := Blk W g 24 (bs x) ∧ Below w.heap.size w W

set_option maxHeartbeats 1000000 in
set_option maxRecDepth 100000 in
theorem leafNarrow_walk (hp : LeafProg) (hdp : DataProg) (n : Int) (hn : I64 n) (d e : List UInt8) (a b : Option Addr) (la ca lb cb : Nat) (w : World) (hd : Bys w (.slice a la ca) d) (hdl : d.length = la) (hdc : la ≤ ca) (hda : la ≤ 140737488351232)
    (he : Bys w (.slice b lb cb) e) (hel : e.length = lb) (hec : lb ≤ cb) (heb : lb ≤ 140737488351232) (ht : Tabs w) :
    Calls Tryd.prog 8 #[.int .i64 n, .slice a la ca, .slice b lb cb] w fun e w' => e = .returned (.bool true) ∧ Below w.heap.size w w' := by
  obtain ⟨x, hx, hx32⟩ : ∃ x, x = leafH n d ∧ x.length = 32 := ⟨_, rfl, leafH_length _ _⟩
  obtain ⟨y, hy, hy32⟩ : ∃ x, x = leafH n e ∧ x.length = 32 := ⟨_, rfl, leafH_length _ _⟩
  obtain ⟨h, hh, hh32⟩ : ∃ h, h = nodeH n x y ∧ h.length = 32 := ⟨_, rfl, nodeH_length _ _ _⟩
  obtain ⟨xw, hxw, hxw32⟩ : ∃ x, x = leafH 256 d ∧ x.length = 32 := ⟨_, rfl, leafH_length _ _⟩
  obtain ⟨hw, hhw, hhw32⟩ : ∃ h, h = nodeH 256 x y ∧ h.length = 32 := ⟨_, rfl, nodeH_length _ _ _⟩
  obtain ⟨E, hE, hE32⟩ : ∃ E, E = emptyH n ∧ E.length = 32 := ⟨_, rfl, emptyH_length _⟩
  obtain ⟨Ew, hEw, hEw32⟩ : ∃ E, E = emptyH 999 ∧ E.length = 32 := ⟨_, rfl, emptyH_length _⟩
  have nx : narrowL xw n = x := by rw [hxw, hx]; exact hashW_wide n 256 (by omega) _
  have nh : narrowL h n = h := by rw [hh]; exact hashW_again n _
  have nw : narrowL hw n = h := by rw [hhw, hh]; exact hashW_wide n 256 (by omega) _
  have ne : narrowL Ew n = E := by rw [hEw, hE]; exact hashW_wide n 999 (by omega) _
  have PX := Lib.hid (fun (W : World) (hW : Below w.heap.size w W) => hdp.leaf n d (.slice a la ca) W hn (hd.below (Nat.le_refl _) hW) ⟨_, _, _, rfl, hdc⟩ (by omega) (ht.below (Nat.le_refl _) hW))
  have PY := Lib.hid (fun (W : World) (hW : Below w.heap.size w W) => hdp.leaf n e (.slice b lb cb) W hn (he.below (Nat.le_refl _) hW) ⟨_, _, _, rfl, hec⟩ (by omega) (ht.below (Nat.le_refl _) hW))
  have PXw0 := Lib.hid (fun (W : World) (hW : Below w.heap.size w W) => hdp.leaf 256 d (.slice a la ca) W i256 (hd.below (Nat.le_refl _) hW) ⟨_, _, _, rfl, hdc⟩ (by omega) (ht.below (Nat.le_refl _) hW))
  have PHw0 := Lib.hid (fun (W : World) (hW : Below w.heap.size w W) => hp.node 256 x y W i256 hx32 hy32 (ht.below (Nat.le_refl _) hW))
  have PE0 := Lib.hid (fun (W : World) (hW : Below w.heap.size w W) => hp.empty n W hn (ht.below (Nat.le_refl _) hW))
  have PEw0 := Lib.hid (fun (W : World) (hW : Below w.heap.size w W) => hp.empty 999 W i999 (ht.below (Nat.le_refl _) hW))
  have NX0 := Lib.hid (fun (W : World) => narrow_any xw n W hxw32 hn)
  have NH0 := Lib.hid (fun (W : World) => narrow_any h n W hh32 hn)
  have NW0 := Lib.hid (fun (W : World) => narrow_any hw n W hhw32 hn)
  have NE0 := Lib.hid (fun (W : World) => narrow_any Ew n W hEw32 hn)
  have PR := Lib.hid (fun (W : World) (v : Value) (hv : Hss W v [x, y]) (hW : Below w.heap.size w W) => hp.root n [x, y] v W hn hv (by simp) (ht.below (Nat.le_refl _) hW))
  have hr : rootH n [x, y] = h := by
    rw [rootH_more n [x, y] (by simp), hh]
    have e : splitN ([x, y] : List Hs).length = 1 := show splitN 2 = 1 by decide +kernel
    rw [e]
    show nodeH n (rootH n [x]) (rootH n [y]) = _
    rw [rootH_one, rootH_one]
  rw [hr] at PR
  rw [← hx] at PX
  rw [← hy] at PY
  rw [← hxw] at PXw0
  rw [← hhw] at PHw0
  rw [← hE] at PE0
  rw [← hEw] at PEw0
  rw [nx] at NX0
  rw [nh] at NH0
  rw [nw] at NW0
  rw [ne] at NE0
  have Hx := Lib.hid hx32
  have Hy := Lib.hid hy32
  have Hh := Lib.hid hh32
  have Hxw := Lib.hid hxw32
  have Hhw := Lib.hid hhw32
  have HE := Lib.hid hE32
  have HEw := Lib.hid hEw32
  have HSx := Lib.hid (size_hash (cs := bs x) (by rw [bs_size, hx32]))
  have HSy := Lib.hid (size_hash (cs := bs y) (by rw [bs_size, hy32]))
  have HSh := Lib.hid (size_hash (cs := bs h) (by rw [bs_size, hh32]))
  have HP := Lib.hid hp
  have HDt := Lib.hid hdp
  have HT := Lib.hid ht
  clear hx hy hh hxw hhw hE hEw hx32 hy32 hh32 hxw32 hhw32 hE32 hEw32 nx nh nw ne hd he ht hp hdp hn hr hdl hel
  have hb0 : Below w.heap.size w w := Below.refl _ _
  have HB0 := Lib.hid hb0
  clear hb0
  go_enter Tryd.func8, Tryd.ntmps8
  go_wp2_with fail
  refine (awake14_any HP.out HDt.out _ HT.out).mono ?_
  rintro e W1 ⟨rfl, hb1⟩
  have HB1 := Lib.hid hb1
  clear hb1 HB0
  go_wp2_with fail
  refine (PX.out _ HB1.out).mono ?_
  rintro e W2 ⟨rfl, hb2⟩
  have HB2 := Lib.hid (HB1.out.trans (hb2.mono HB1.out.size))
  clear hb2 PX HB1
  go_upto_region 4 with (refine wpList_store_row rfl 24 (.tmp 7) (.tmp 14) rfl W2.heap.size (bs x) rfl rfl 24 _ (Blk.new W2 _ _) HSx.out (by rw [bs_size, Hx.out]; rfl) (bs_one _) ?_)
  obtain ⟨g7, hg7⟩ : ∃ g, g = W2.heap.size := ⟨_, rfl⟩
  have h2s := HB2.out.size
  refine world_cut (fun W => Blk W g7 24 (bs x) ∧ Below w.heap.size w W) ⟨by rw [hg7]; exact Blk.row (Blk.new W2 _ _) (bs x), below_setRow (HB2.out.alloc h2s _) _ _ h2s⟩ ?_
  rw [← hg7]
  clear hg7 h2s HB2
  rintro W3 ⟨hq3, hb3⟩
  have HQ3 := Lib.hid hq3
  have HB3 := Lib.hid hb3
  clear hq3 hb3
  go_wp2_with fail
  refine (PY.out _ HB3.out).mono ?_
  rintro e W4 ⟨rfl, hb4⟩
  have HB4 := Lib.hid (HB3.out.trans (hb4.mono HB3.out.size))
  have HQ4 := Lib.hid (HQ3.out.keep hb4)
  clear hb4 PY HB3 HQ3
  go_upto_region 5 with (refine wpList_store_row rfl 24 (.tmp 8) (.tmp 17) rfl W4.heap.size (bs y) rfl rfl 24 _ (Blk.new W4 _ _) HSy.out (by rw [bs_size, Hy.out]; rfl) (bs_one _) ?_)
  obtain ⟨g8, hg8⟩ : ∃ g, g = W4.heap.size := ⟨_, rfl⟩
  have h4s := HB4.out.size
  have h47 : ¬ g7 = W4.heap.size := by have := HQ4.out.lt; omega
  refine world_cut (fun W => Blk W g7 24 (bs x) ∧ Blk W g8 24 (bs y) ∧ Below w.heap.size w W) ⟨(HQ4.out.alloc _).rowOther _ h47, by rw [hg8]; exact Blk.row (Blk.new W4 _ _) (bs y), below_setRow (HB4.out.alloc h4s _) _ _ h4s⟩ ?_
  rw [← hg8]
  clear hg8 h4s h47 HB4 HQ4
  rintro W5 ⟨hq7, hq8, hb5⟩
  have HQ7 := Lib.hid hq7
  have HQ8 := Lib.hid hq8
  have HB5 := Lib.hid hb5
  clear hq7 hq8 hb5
  go_wp2_with (first
    | (refine wpList_load_row rfl 24 (.tmp 7) rfl g7 rfl 24 (bs x) (0, 0) _ HQ7.out Tryd.underlying24 rfl HSx.out ?_)
    | (refine wpList_load_row rfl 24 (.tmp 8) rfl g8 rfl 24 (bs y) (0, 0) _ HQ8.out Tryd.underlying24 rfl HSy.out ?_)
    | (refine wpList_build_hash2 rfl (.tmp 19) (.tmp 20) rfl x y rfl rfl Hx.out Hy.out ?_; intro W6 hv6 hb6; (have HV6 := Lib.hid hv6); (have HB6 := Lib.hid hb6); clear hv6 hb6))
  refine (PR.out _ _ HV6.out (HB5.out.trans (HB6.out.mono HB5.out.size))).mono ?_
  rintro e W7 ⟨rfl, hb7⟩
  have hb57 := HB6.out.trans (hb7.mono HB6.out.size)
  have HQ77 := Lib.hid (HQ7.out.keep hb57)
  have HQ87 := Lib.hid (HQ8.out.keep hb57)
  have HB7 := Lib.hid (HB5.out.trans (hb57.mono HB5.out.size))
  clear hb7 hb57 PR HB6 HV6 HQ7 HQ8 HB5
  go_upto_region 6 with (refine wpList_store_row rfl 24 (.tmp 9) (.tmp 22) rfl W7.heap.size (bs h) rfl rfl 24 _ (Blk.new W7 _ _) HSh.out (by rw [bs_size, Hh.out]; rfl) (bs_one _) ?_)
  obtain ⟨g9, hg9⟩ : ∃ g, g = W7.heap.size := ⟨_, rfl⟩
  have h7s := HB7.out.size
  have h77 : ¬ g7 = W7.heap.size := by have := HQ77.out.lt; omega
  have h87 : ¬ g8 = W7.heap.size := by have := HQ87.out.lt; omega
  refine world_cut (fun W => Blk W g7 24 (bs x) ∧ Blk W g8 24 (bs y) ∧ Blk W g9 24 (bs h) ∧ Below w.heap.size w W) ⟨(HQ77.out.alloc _).rowOther _ h77, (HQ87.out.alloc _).rowOther _ h87, by rw [hg9]; exact Blk.row (Blk.new W7 _ _) (bs h), below_setRow (HB7.out.alloc h7s _) _ _ h7s⟩ ?_
  rw [← hg9]
  clear hg9 h7s h77 h87 HB7 HQ77 HQ87
  rintro W0 ⟨hq7, hq8, hq9, hb⟩
  have HBx := Lib.hid hq7
  have HBy := Lib.hid hq8
  have HBh := Lib.hid hq9
  have HB := Lib.hid hb
  clear hq7 hq8 hq9 hb
  have hup : ∀ W, Below W0.heap.size W0 W → Below w.heap.size w W := fun W hW => HB.out.trans (hW.mono HB.out.size)
  have PXw := Lib.hid (fun (W : World) (hW : Below W0.heap.size W0 W) => PXw0.out W (hup W hW))
  have PHw := Lib.hid (fun (W : World) (hW : Below W0.heap.size W0 W) => PHw0.out W (hup W hW))
  have PE := Lib.hid (fun (W : World) (hW : Below W0.heap.size W0 W) => PE0.out W (hup W hW))
  have PEw := Lib.hid (fun (W : World) (hW : Below W0.heap.size W0 W) => PEw0.out W (hup W hW))
  have NX := Lib.hid (fun (W : World) (_ : Below W0.heap.size W0 W) => NX0.out W)
  have NH := Lib.hid (fun (W : World) (_ : Below W0.heap.size W0 W) => NH0.out W)
  have NW := Lib.hid (fun (W : World) (_ : Below W0.heap.size W0 W) => NW0.out W)
  have NE := Lib.hid (fun (W : World) (_ : Below W0.heap.size W0 W) => NE0.out W)
  have hG : ∀ W W' : World, Below W0.heap.size W0 W → Below W.heap.size W W' → Below W0.heap.size W0 W' := fun W W' h h' => h.trans (h'.mono h.size)
  clear PXw0 PHw0 PE0 PEw0 NX0 NH0 NW0 NE0 hup
  refine region_by [(23, .is (.agg (bs x))), (24, .is (.slice a la ca)), (25, .is (.agg (bs xw))), (26, .is (.int .i64 n)), (27, .is (.agg (bs x))), (28, .is (.bool true)), (29, .is (.bool true)), (30, .is (.agg (bs h))), (31, .is (.agg (bs h))), (32, .is (.int .i64 n)), (33, .is (.agg (bs h))), (34, .is (.bool true)), (35, .is (.bool true)), (36, .is (.bool true)), (37, .is (.agg (bs h))), (38, .is (.agg (bs x))), (39, .is (.agg (bs y))), (40, .is (.agg (bs hw))), (41, .is (.int .i64 n)), (42, .is (.agg (bs h))), (43, .is (.bool true)), (44, .is (.bool true)), (45, .is (.bool true)), (46, .is (.int .i64 n)), (47, .is (.agg (bs E))), (48, .is (.agg (bs Ew))), (49, .is (.int .i64 n)), (50, .is (.agg (bs E))), (51, .is (.bool true)), (52, .is (.bool true)), (6, .is (.bool true))] [6] (fun W => Below W0.heap.size W0 W) (by kernel_rfl) (by kernel_rfl) (by kernel_rfl) (by kernel_rfl) (by kernel_rfl) ((Below.refl _ _).drew) ?_ ?_
  · refine ⟨?c0, ?c1, ?c2, ?c3, ?c4, ?c5, ?c6, ?c7, ?c8, ?c9, ?c10, ?c11, ?c12, ?c13, ?c14, ?c15, ?c16, ?c17, ?c18, ?c19, ?c20, ?c21, ?c22, ?c23, ?c24, ?c25, ?c26, ?c27, ?c28, ?c29, ?c30, trivial⟩
    case c0 => exact ask_load (guard_none rfl) _ (.tmp 7) (.pointer (some ⟨g7, 0, none⟩)) (.agg (bs x)) rfl rfl (by intro k hk; cases hk; rfl) (fun W hW => (HBx.out.keep hW).loads 24 _ Tryd.underlying24 rfl HSx.out)
    case c1 => exact ask_copy (guard_none rfl) (.tmp 1) (.inl rfl) (by intro k hk; cases hk; rfl)
    case c2 => exact ask_call hG (guard_none rfl) _ _ _ #[.int .i64 256, .slice a la ca] (.is (.agg (bs xw))) rfl (by kernel_rfl) rfl rfl (by intro k hk; cases hk; rfl) (fun W hW => (PXw.out W hW).mono fun e w' h => ⟨_, h.1, rfl, h.2⟩)
    case c3 => exact ask_copy (guard_none rfl) (.tmp 0) (.inl rfl) (by intro k hk; cases hk; rfl)
    case c4 => exact ask_call hG (guard_none rfl) _ _ _ #[.agg (bs xw), .int .i64 n] (.is (.agg (bs x))) rfl (by kernel_rfl) rfl rfl (by intro k hk; cases hk; rfl) (fun W hW => (NX.out W hW).mono fun e w' h => ⟨_, h.1, rfl, h.2⟩)
    case c5 => exact ask_bin (guard_none rfl) .eql _ _ (.tmp 23) (.tmp 27) (.agg (bs x)) (.agg (bs x)) (.bool true) rfl rfl rfl (by intro k hk; cases hk; rfl) (eql_hash _ _ x Hx.out)
    case c6 => exact ask_copy (guard_none rfl) (.tmp 28) (.inl rfl) (by intro k hk; cases hk; rfl)
    case c7 => exact ask_load (guard_some rfl rfl rfl) _ (.tmp 9) (.pointer (some ⟨g9, 0, none⟩)) (.agg (bs h)) rfl rfl (by intro k hk; cases hk; rfl) (fun W hW => (HBh.out.keep hW).loads 24 _ Tryd.underlying24 rfl HSh.out)
    case c8 => exact ask_load (guard_some rfl rfl rfl) _ (.tmp 9) (.pointer (some ⟨g9, 0, none⟩)) (.agg (bs h)) rfl rfl (by intro k hk; cases hk; rfl) (fun W hW => (HBh.out.keep hW).loads 24 _ Tryd.underlying24 rfl HSh.out)
    case c9 => exact ask_copy (guard_some rfl rfl rfl) (.tmp 0) (.inl rfl) (by intro k hk; cases hk; rfl)
    case c10 => exact ask_call hG (guard_some rfl rfl rfl) _ _ _ #[.agg (bs h), .int .i64 n] (.is (.agg (bs h))) rfl (by kernel_rfl) rfl rfl (by intro k hk; cases hk; rfl) (fun W hW => (NH.out W hW).mono fun e w' h => ⟨_, h.1, rfl, h.2⟩)
    case c11 => exact ask_bin (guard_some rfl rfl rfl) .eql _ _ (.tmp 30) (.tmp 33) (.agg (bs h)) (.agg (bs h)) (.bool true) rfl rfl rfl (by intro k hk; cases hk; rfl) (eql_hash _ _ h Hh.out)
    case c12 => exact ask_pick (guard_none rfl) (.tmp 29) (.tmp 34) (.const (.bool false)) true rfl rfl (by intro k hk; cases hk; rfl)
    case c13 => exact ask_copy (guard_none rfl) (.tmp 35) (.inl rfl) (by intro k hk; cases hk; rfl)
    case c14 => exact ask_load (guard_some rfl rfl rfl) _ (.tmp 9) (.pointer (some ⟨g9, 0, none⟩)) (.agg (bs h)) rfl rfl (by intro k hk; cases hk; rfl) (fun W hW => (HBh.out.keep hW).loads 24 _ Tryd.underlying24 rfl HSh.out)
    case c15 => exact ask_load (guard_some rfl rfl rfl) _ (.tmp 7) (.pointer (some ⟨g7, 0, none⟩)) (.agg (bs x)) rfl rfl (by intro k hk; cases hk; rfl) (fun W hW => (HBx.out.keep hW).loads 24 _ Tryd.underlying24 rfl HSx.out)
    case c16 => exact ask_load (guard_some rfl rfl rfl) _ (.tmp 8) (.pointer (some ⟨g8, 0, none⟩)) (.agg (bs y)) rfl rfl (by intro k hk; cases hk; rfl) (fun W hW => (HBy.out.keep hW).loads 24 _ Tryd.underlying24 rfl HSy.out)
    case c17 => exact ask_call hG (guard_some rfl rfl rfl) _ _ _ #[.int .i64 256, .agg (bs x), .agg (bs y)] (.is (.agg (bs hw))) rfl (by kernel_rfl) rfl rfl (by intro k hk; cases hk; rfl) (fun W hW => (PHw.out W hW).mono fun e w' h => ⟨_, h.1, rfl, h.2⟩)
    case c18 => exact ask_copy (guard_some rfl rfl rfl) (.tmp 0) (.inl rfl) (by intro k hk; cases hk; rfl)
    case c19 => exact ask_call hG (guard_some rfl rfl rfl) _ _ _ #[.agg (bs hw), .int .i64 n] (.is (.agg (bs h))) rfl (by kernel_rfl) rfl rfl (by intro k hk; cases hk; rfl) (fun W hW => (NW.out W hW).mono fun e w' h => ⟨_, h.1, rfl, h.2⟩)
    case c20 => exact ask_bin (guard_some rfl rfl rfl) .eql _ _ (.tmp 37) (.tmp 42) (.agg (bs h)) (.agg (bs h)) (.bool true) rfl rfl rfl (by intro k hk; cases hk; rfl) (eql_hash _ _ h Hh.out)
    case c21 => exact ask_pick (guard_none rfl) (.tmp 36) (.tmp 43) (.const (.bool false)) true rfl rfl (by intro k hk; cases hk; rfl)
    case c22 => exact ask_copy (guard_none rfl) (.tmp 44) (.inl rfl) (by intro k hk; cases hk; rfl)
    case c23 => exact ask_copy (guard_some rfl rfl rfl) (.tmp 0) (.inl rfl) (by intro k hk; cases hk; rfl)
    case c24 => exact ask_call hG (guard_some rfl rfl rfl) _ _ _ #[.int .i64 n] (.is (.agg (bs E))) rfl (by kernel_rfl) rfl rfl (by intro k hk; cases hk; rfl) (fun W hW => (PE.out W hW).mono fun e w' h => ⟨_, h.1, rfl, h.2⟩)
    case c25 => exact ask_call hG (guard_some rfl rfl rfl) _ _ _ #[.int .i64 999] (.is (.agg (bs Ew))) rfl (by kernel_rfl) rfl rfl (by intro k hk; cases hk; rfl) (fun W hW => (PEw.out W hW).mono fun e w' h => ⟨_, h.1, rfl, h.2⟩)
    case c26 => exact ask_copy (guard_some rfl rfl rfl) (.tmp 0) (.inl rfl) (by intro k hk; cases hk; rfl)
    case c27 => exact ask_call hG (guard_some rfl rfl rfl) _ _ _ #[.agg (bs Ew), .int .i64 n] (.is (.agg (bs E))) rfl (by kernel_rfl) rfl rfl (by intro k hk; cases hk; rfl) (fun W hW => (NE.out W hW).mono fun e w' h => ⟨_, h.1, rfl, h.2⟩)
    case c28 => exact ask_bin (guard_some rfl rfl rfl) .eql _ _ (.tmp 47) (.tmp 50) (.agg (bs E)) (.agg (bs E)) (.bool true) rfl rfl rfl (by intro k hk; cases hk; rfl) (eql_hash _ _ E HE.out)
    case c29 => exact ask_pick (guard_none rfl) (.tmp 45) (.tmp 51) (.const (.bool false)) true rfl rfl (by intro k hk; cases hk; rfl)
    case c30 => exact ask_copy (guard_none rfl) (.tmp 52) (.inr rfl) (by intro k hk; cases hk; rfl)
  · intro a' W hW hd' hs' hf'
    have t6 : a'.tmps.getD 6 undef = .bool true := hf' 6 rfl
    obtain ⟨us', hus, ha'⟩ := act_open 53 a' hs' hd'
    rw [← hus] at t6
    have el : ((List.range 53).map us').toArray = #[us' 0, us' 1, us' 2, us' 3, us' 4, us' 5, .bool true, us' 7, us' 8, us' 9, us' 10, us' 11, us' 12, us' 13, us' 14, us' 15, us' 16, us' 17, us' 18, us' 19, us' 20, us' 21, us' 22, us' 23, us' 24, us' 25, us' 26, us' 27, us' 28, us' 29, us' 30, us' 31, us' 32, us' 33, us' 34, us' 35, us' 36, us' 37, us' 38, us' 39, us' 40, us' 41, us' 42, us' 43, us' 44, us' 45, us' 46, us' 47, us' 48, us' 49, us' 50, us' 51, us' 52] := by
      show #[us' 0, us' 1, us' 2, us' 3, us' 4, us' 5, us' 6, us' 7, us' 8, us' 9, us' 10, us' 11, us' 12, us' 13, us' 14, us' 15, us' 16, us' 17, us' 18, us' 19, us' 20, us' 21, us' 22, us' 23, us' 24, us' 25, us' 26, us' 27, us' 28, us' 29, us' 30, us' 31, us' 32, us' 33, us' 34, us' 35, us' 36, us' 37, us' 38, us' 39, us' 40, us' 41, us' 42, us' 43, us' 44, us' 45, us' 46, us' 47, us' 48, us' 49, us' 50, us' 51, us' 52] = _
      rw [t6]
    rw [el] at ha'
    subst ha'
    clear hus t6 el hf' hs' hd'
    have HW := Lib.hid hW
    clear hW hG
    go_wp2
    go_ret
    exact ⟨rfl, HB.out.trans (HW.out.mono HB.out.size)⟩
end Go.Proofs.YtdhfabjkpffhnaaDoor

