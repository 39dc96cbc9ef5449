/- The hash of a text, w wide; leaves and nodes: the reference's. -/
import Derived.Test.YtbnpgkhdhljjlaaDoorLeafMath
import Derived.Test.YtbnpgkhdhljjlaaDoorShaEq
import Derived.Test.YtbnpgkhdhljjlaaDoorShaNarrow
import Derived.Test.YtbnpgkhdhljjlaaDoorArms
import Derived.Test.YtbnpgkhdhljjlaaDoorLate
namespace Go.Proofs.YtbnpgkhdhljjlaaDoor
set_option maxRecDepth 20000
open Go.RowKit ShaMath LeafMath Reg

/-- An int. -/
abbrev I64 (n : Int) : Prop := -9223372036854775808 ≤ n ∧ n ≤ 9223372036854775807

theorem size_hash {cs : Array Value} (h : cs.size = 32) : (Tryd.prog.info? 25).map (·.size) = some cs.size := by rw [h]; kernel_rfl
theorem hash_cells (x : List UInt8) (h : x.length = 32) : ∃ cs, cs = bs x ∧ cs.size = 32 ∧ cs.all (·.oneCell') = true := ⟨_, rfl, by rw [bs_size, h], bs_one _⟩

set_option maxRecDepth 100000 in
theorem refhash_any (n : Int) (l : List UInt8) (a : Option Addr) (len cap : Nat) (w : World) (hv : Bys w (.slice a len cap) l) (hll : l.length = len) (hl : len ≤ 140737488355200) (hn : I64 n) (hk : Consts w) :
    Calls Tryd.prog 47 #[.int .i64 n, .slice a len cap] w fun e w' => e = .returned (.agg (bs (hashW n l))) ∧ Below w.heap.size w w' := by
  have hb0 : ∀ o, Below w.heap.size w (w.alloc o) := fun o => (Below.refl _ _).alloc (Nat.le_refl _) o
  obtain ⟨hs, hhs⟩ : ∃ hs, hs = ShaMath.hash l := ⟨_, rfl⟩
  obtain ⟨cs, hcs, hcl, hone⟩ := hash_cells (hashW n l) (hashW_length _ _)
  have HSum := Lib.hid (fun o => refsum_any l a len cap (w.alloc o) (hv.below (Nat.le_refl _) (hb0 o)) hll hl (hk.below (Nat.le_refl _) (hb0 o)))
  have HNar := Lib.hid (fun W => refnarrow_any hs n W (by rw [hhs]; exact hash_length l) hn)
  rw [show narrowL hs n = hashW n l by rw [hhs]; rfl, ← hcs] at HNar
  rw [← hhs] at HSum
  rw [← hcs]
  have HB0 := Lib.hid hb0
  have HSz := Lib.hid (size_hash hcl)
  have HOne := Lib.hid hone
  have HCl := Lib.hid hcl
  clear hv hll hk hn hhs hcs hcl hone hb0 hl
  go_enter Tryd.func47, Tryd.ntmps47
  go_wp2_with fail
  refine (HSum.out _).mono ?_
  rintro e w1 ⟨rfl, hb1⟩
  have HB1 := Lib.hid hb1
  clear hb1 HSum
  go_wp2_with fail
  refine (HNar.out _).mono ?_
  rintro e w2 ⟨rfl, hb2⟩
  have HB2 := Lib.hid (HB1.out.trans (hb2.mono HB1.out.size))
  clear hb2 HNar HB1
  go_wp2_with (refine wpList_store_row rfl 25 (.tmp 4) (.tmp 8) rfl w.heap.size cs rfl rfl 25 _ ((Blk.new w _ _).keep HB2.out) HSz.out (by rw [HCl.out]; rfl) HOne.out ?_)
  exact bodyPost_ret (v := .agg cs) (results_cell_row rfl _ _ w.heap.size 25 cs (0, 0) _ rfl (Blk.row ((Blk.new w _ _).keep HB2.out) cs) Tryd.underlying25 rfl HSz.out) rfl ⟨rfl, below_setRow ((HB0.out _).trans (HB2.out.mono (by simp))) _ _ (Nat.le_refl _)⟩

set_option maxRecDepth 100000 in
theorem refempty_any (n : Int) (w : World) (hn : I64 n) (hk : Consts w) :
    Calls Tryd.prog 32 #[.int .i64 n] w fun e w' => e = .returned (.agg (bs (emptyH n))) ∧ Below w.heap.size w w' := by
  have hb0 : ∀ o, Below w.heap.size w (w.alloc o) := fun o => (Below.refl _ _).alloc (Nat.le_refl _) o
  obtain ⟨cs, hcs, hcl, hone⟩ := hash_cells (emptyH n) (emptyH_length _)
  have HH := Lib.hid (fun o => refhash_any n [] none 0 0 (w.alloc o) (.inl ⟨rfl, rfl⟩) rfl (by decide) hn (hk.below (Nat.le_refl _) (hb0 o)))
  rw [show hashW n [] = emptyH n from rfl, ← hcs] at HH
  rw [← hcs]
  have HB0 := Lib.hid hb0
  have HSz := Lib.hid (size_hash hcl)
  have HOne := Lib.hid hone
  have HCl := Lib.hid hcl
  clear hk hn hcs hcl hone hb0
  go_enter Tryd.func32, Tryd.ntmps32
  go_wp2_with fail
  refine (HH.out _).mono ?_
  rintro e w2 ⟨rfl, hb2⟩
  have HB2 := Lib.hid hb2
  clear hb2 HH
  go_wp2_with (refine wpList_store_row rfl 25 (.tmp 2) (.tmp 4) rfl w.heap.size cs rfl rfl 25 _ ((Blk.new w _ _).keep HB2.out) HSz.out (by rw [HCl.out]; rfl) HOne.out ?_)
  exact bodyPost_ret (v := .agg cs) (results_cell_row rfl _ _ w.heap.size 25 cs (0, 0) _ rfl (Blk.row ((Blk.new w _ _).keep HB2.out) cs) Tryd.underlying25 rfl HSz.out) rfl ⟨rfl, below_setRow ((HB0.out _).trans (HB2.out.mono (by simp))) _ _ (Nat.le_refl _)⟩

/-- A text of one byte, in memory of the call's own. -/
theorem row_one (w : World) (B : Nat) (c : UInt8) (hB : B ≤ w.heap.size) : Row (w.alloc (.cells #[bv c] 5)) B (.slice (some ⟨w.heap.size, 0, none⟩) 1 1) [c] :=
  ⟨rfl, .inr ⟨w.heap.size, 1, #[bv c], rfl, hB, heap_alloc_new w _, Nat.le_refl _, by unfold maxLen; omega, rfl, rfl⟩⟩

theorem grown_below {w W W' : World} {v : Value} {l : List UInt8} {B : Nat} (hb : Below B w W) (hg : W.grownBy W' v.ownBlock) (hr : Row W B v l) (hB : B ≤ W.heap.size) : Below B w W' :=
  hb.trans (((Below.refl B W).grown hg hB (fun k hk => (World.ownsRow.lt hr k hk).1)).mono (Nat.le_refl _))

/-- Two hashes in blocks of the call's own. -/
def Two32 (w : World) (l r : List UInt8) (W : World) : Prop := Blk W w.heap.size 25 (bs l) ∧ Blk W (w.heap.size + 1) 25 (bs r) ∧ Below w.heap.size w W
theorem Two32.new (w : World) (l r : List UInt8) : Two32 w l r ((w.alloc (.cells (bs l) 25)).alloc (.cells (bs r) 25)) :=
  ⟨(Blk.new w _ _).alloc _, Blk.newAt _ _ _ _ _ (by simp) rfl, ((Below.refl _ _).alloc (Nat.le_refl _) _).alloc (by simp) _⟩
theorem Two32.keep {w W W' : World} {l r : List UInt8} (h : Two32 w l r W) (hb : Below W.heap.size W W') : Two32 w l r W' :=
  ⟨h.1.keep hb, h.2.1.keep hb, h.2.2.trans (hb.mono h.2.2.size)⟩
theorem Two32.drew {w W : World} {l r : List UInt8} (h : Two32 w l r W) : Two32 w l r W.drew :=
  h.keep ((Below.refl _ _).drew)

theorem ask_build_row {ops : Array Oper} {tab : List (List Nat)} {fin : List Tmp} {G : World → Prop} {f : Tmp → Fact} {i : Nat} {o : Oper} (hG : ∀ W W', G W → Below W.heap.size W W' → G W') (hg : guardOk ops f o) (s : Operand) (c : UInt8) (B : Nat) (hB : ∀ W, G W → B ≤ W.heap.size)
    (ho : o.op = .buildSlice 40 1 #[(0, s)]) (hs : opFact f s = .is (bv c)) (hd : ∀ k, o.dst = some k → f k = .row B [c]) : Asked Tryd.prog ops tab fin G f i o := by
  refine ask_grow hG hg fun x W hW hk => ?_
  have e := evalBy_opVal hk s (by rw [ho]; simp [Op.operands]) hs
  have hz : (zeroValue 5).run Tryd.prog W = .ok (.int .u8 0) W := by kernel_rfl
  have hr : (Instr.buildSlice 40 1 #[(0, bv c)]).run Tryd.prog W = .ok (.slice (some ⟨W.heap.size, 0, none⟩) 1 1) (W.alloc (.cells #[bv c] 5)) := by
    simp [Instr.buildSlice, run_underlying Tryd.underlying40, Result.andThen, hz, Instr.fill, newRow, bv, Value.cells, range_one]
  refine gives_value (v := .slice (some ⟨W.heap.size, 0, none⟩) 1 1) (w' := W.alloc (.cells #[bv c] 5)) ?_ ⟨(Below.refl _ _).alloc (Nat.le_refl _) _, fun k hk => by rw [hd k hk]; exact row_one W B c (hB W hW)⟩
  simp [execOp, ho, hr, e, Result.andThen]

theorem slice_h32 (g : Nat) (W : World) : (Instr.sliceAt 25 (.pointer (some ⟨g, 0, none⟩)) none none none).run Tryd.prog W = .ok (.slice (some ⟨g, 0, none⟩) 32 32) W := by
  have hal : Tryd.prog.arrayLen 25 = 32 := by kernel_rfl
  have hel : Tryd.prog.elem 25 = 5 := by kernel_rfl
  rw [run_sliceAt_array_all W 25 _ (by rw [hal, hel]; exact Tryd.underlying25), hal, hel, size_byte]
  simp [slicedAt, addr_add]

/-- Bytes that a block holds from its start on. -/
theorem blk_bys {W : World} {g : Nat} {t : TypeId} {l : List UInt8} (h : Blk W g t (bs l)) (hl : l.length = 32) : Bys W (.slice (some ⟨g, 0, none⟩) 32 32) l := by
  refine .inr ⟨_, _, by rw [hl], fun i hi => ?_⟩
  rw [addr_add, Nat.zero_add, h.cell, bs_at _ _ hi]
  simp [List.getD, hi]

theorem lookup_ops {l : List (Tmp × Fact)} {ops : Array Oper} (hl : (l.all fun p => ops.any fun o => o.dst == some p.1) = true) {k : Tmp} {fk : Fact} (hk : l.lookup k = some fk) : (ops.any fun o => o.dst == some k) = true := by
  have hmem : (k, fk) ∈ l := by
    clear hl
    induction l with
    | nil => simp at hk
    | cons p l ih =>
      obtain ⟨p1, p2⟩ := p
      rw [List.lookup_cons] at hk
      by_cases hkp : (k == p1) = true
      · rw [hkp] at hk
        simp at hk hkp
        subst hk hkp
        simp
      · simp only [hkp] at hk
        exact List.mem_cons_of_mem _ (ih hk)
  exact List.all_eq_true.1 hl _ hmem

theorem Row.lower {w : World} {B B' : Nat} {v : Value} {l : List UInt8} (h : Row w B v l) (hB : B' ≤ B) : Row w B' v l := by
  obtain ⟨h1, h2⟩ := h
  refine ⟨h1, ?_⟩
  rcases h2 with h2 | ⟨g, cap, cur, hv, hb, r⟩
  · exact .inl h2
  · exact .inr ⟨g, cap, cur, hv, by omega, r⟩

set_option maxRecDepth 100000 in
theorem refnodetext_any (l r : List UInt8) (w : World) (hl : l.length = 32) (hr : r.length = 32) :
    Calls Tryd.prog 48 #[.agg (bs l), .agg (bs r)] w fun e w' => ∃ v, e = .returned v ∧ Row w' w.heap.size v (1 :: (l ++ r)) ∧ Below w.heap.size w w' := by
  have h0 := Two32.new w l r
  obtain ⟨cl, hcl⟩ : ∃ cl, cl = bs l := ⟨_, rfl⟩
  obtain ⟨cr, hcr⟩ : ∃ cr, cr = bs r := ⟨_, rfl⟩
  rw [← hcl, ← hcr] at h0 ⊢
  have H0 := Lib.hid h0
  clear h0 hcl hcr
  go_enter Tryd.func48, Tryd.ntmps48
  go_upto_region 1 with fail
  refine world_cut (fun W => Two32 w l r W) H0.out ?_
  clear H0
  intro W1 hW1
  have hG : ∀ W W' : World, Two32 w l r W → Below W.heap.size W W' → Two32 w l r W' := fun W W' h h' => h.keep h'
  have hB : ∀ W, Two32 w l r W → w.heap.size + 2 ≤ W.heap.size := fun W h => h.2.1.lt
  have hgr : ∀ (W W' : World) (row : Option Nat), Two32 w l r W → W.grownBy W' row → (∀ k, row = some k → w.heap.size + 2 ≤ k) → Two32 w l r W' := fun W W' row hW hg hrow => by
    have hb : Below (w.heap.size + 2) W W' := (Below.refl _ _).grown hg (hB W hW) hrow
    exact ⟨hW.1.below (by omega) hb, hW.2.1.below (by omega) hb, hW.2.2.trans (hb.mono (by omega))⟩
  refine region_late_by 5 _ _ rfl [(5, .row (w.heap.size + 2) [1]), (6, .is (.slice (some ⟨w.heap.size, 0, none⟩) 32 32)), (7, .row (w.heap.size + 2) ([1] ++ l)), (8, .is (.slice (some ⟨w.heap.size + 1, 0, none⟩) 32 32)), (9, .row (w.heap.size + 2) ([1] ++ l ++ r))] [9]
    (fun W => Two32 w l r W) (by kernel_rfl) (by kernel_rfl) (by kernel_rfl) (by kernel_rfl) (fun k fk hk => .inl (lookup_ops (by kernel_rfl) hk)) rfl rfl rfl (by kernel_rfl) hW1.drew ?_ ?_
  · refine ⟨?a0, ?a1, ?a2, ?a3, ?a4, trivial⟩
    case a0 => exact Asked.late (ask_build_row hG (guard_none rfl) _ 1 _ hB rfl rfl (by intro k hk; cases hk; rfl))
    case a1 => exact Asked.late (ask_slice (guard_none rfl) 25 (.tmp 2) none none none (.pointer (some ⟨w.heap.size, 0, none⟩)) (.slice (some ⟨w.heap.size, 0, none⟩) 32 32) none none none rfl rfl rfl rfl rfl (by intro k hk; cases hk; rfl) (fun W => slice_h32 _ W))
    case a2 => exact ask_append_row2 (guard_none rfl) (by kernel_rfl) (.tmp 5) (.tmp 6) (w.heap.size + 2) [1] l rfl rfl rfl (fun x W hW hk => by
      have e : x 6 = .slice (some ⟨w.heap.size, 0, none⟩) 32 32 := hk 6 rfl
      show Bys W (x 6) l
      rw [e]
      exact blk_bys hW.1 hl) (by rw [hl]; decide) hB hgr (by intro k hk; cases hk; exact .inl rfl)
    case a3 => exact Asked.late (ask_slice (guard_none rfl) 25 (.tmp 3) none none none (.pointer (some ⟨w.heap.size + 1, 0, none⟩)) (.slice (some ⟨w.heap.size + 1, 0, none⟩) 32 32) none none none rfl rfl rfl rfl rfl (by intro k hk; cases hk; rfl) (fun W => slice_h32 _ W))
    case a4 => exact ask_append_row2 (guard_none rfl) (by kernel_rfl) (.tmp 7) (.tmp 8) (w.heap.size + 2) ([1] ++ l) r rfl rfl rfl (fun x W hW hk => by
      have e : x 8 = .slice (some ⟨w.heap.size + 1, 0, none⟩) 32 32 := hk 8 rfl
      show Bys W (x 8) r
      rw [e]
      exact blk_bys hW.2.1 hr) (by rw [List.length_append, hl, hr]; decide) hB hgr (by intro k hk; cases hk; exact .inl rfl)
  · intro a' W hW hd' hs' hf'
    have t9 : Row W (w.heap.size + 2) (a'.tmps.getD 9 undef) ([1] ++ l ++ r) := hf' 9 rfl
    obtain ⟨us', hus, ha'⟩ := act_open 10 a' hs' hd'
    rw [← hus] at t9
    have el : ((List.range 10).map us').toArray = #[us' 0, us' 1, us' 2, us' 3, us' 4, us' 5, us' 6, us' 7, us' 8, us' 9] := rfl
    rw [el] at ha'
    subst ha'
    have T9 := Lib.hid t9
    clear t9 hus hf' hs' hd' el
    go_wp2
    go_ret
    exact ⟨_, rfl, (show Row W (w.heap.size + 2) (us' 9) (1 :: (l ++ r)) from T9.out).lower (by omega), hW.2.2⟩

set_option maxRecDepth 100000 in
theorem refnode_any (n : Int) (l r : List UInt8) (w : World) (hl : l.length = 32) (hr : r.length = 32) (hn : I64 n) (hk : Consts w) :
    Calls Tryd.prog 34 #[.int .i64 n, .agg (bs l), .agg (bs r)] w fun e w' => e = .returned (.agg (bs (nodeH n l r))) ∧ Below w.heap.size w w' := by
  obtain ⟨cs, hcs, hcs1, hone⟩ := hash_cells (nodeH n l r) (nodeH_length _ _ _)
  have h0 := Two32.new w l r
  have HT := Lib.hid (fun W => refnodetext_any l r W hl hr)
  obtain ⟨m, hm⟩ : ∃ m, m = (1 :: (l ++ r)).length := ⟨_, rfl⟩
  have HM := Lib.hid hm
  have HH := Lib.hid (fun (W : World) (a : Option Addr) (cap : Nat) (h : Bys W (.slice a m cap) (1 :: (l ++ r))) (hc : Consts W) => refhash_any n (1 :: (l ++ r)) a m cap W h hm.symm (by rw [hm]; simp [hl, hr]) hn hc)
  rw [show hashW n (1 :: (l ++ r)) = nodeH n l r from rfl, ← hcs] at HH
  rw [← hcs]
  have HSz := Lib.hid (size_hash hcs1)
  have HOne := Lib.hid hone
  have HCl := Lib.hid hcs1
  have HK := Lib.hid hk
  obtain ⟨cl, hcl, hcl1, _⟩ := hash_cells l hl
  obtain ⟨cr, hcr, hcr1, _⟩ := hash_cells r hr
  rw [← hcl, ← hcr] at h0 HT ⊢
  have HSl := Lib.hid (size_hash hcl1)
  have HSr := Lib.hid (size_hash hcr1)
  have H0 := Lib.hid h0
  have HEl := Lib.hid hcl
  have HEr := Lib.hid hcr
  clear h0 hk hn hcs hcs1 hone hcl hcl1 hcr hcr1 hm hl hr
  go_enter Tryd.func34, Tryd.ntmps34
  go_upto_region 1 with fail
  have h1 : Two32 w l r (((w.alloc (.cells cl 25)).alloc (.cells cr 25)).alloc (.cells (bs (List.replicate 32 0)) 25)) := H0.out.keep ((Below.refl _ _).alloc (Nat.le_refl _) _)
  refine world_cut (fun W => Two32 w l r W ∧ ∃ zs, Blk W (w.heap.size + 2) 25 zs ∧ zs.size = 32) ⟨h1, _, Blk.newAt _ _ _ _ _ (by simp) rfl, rfl⟩ ?_
  clear h1 H0
  rintro W1 ⟨hW1, zs, hz, hzs⟩
  have b0 := hW1.1
  have b1 := hW1.2.1
  rw [← HEl.out] at b0
  rw [← HEr.out] at b1
  have HW1 := Lib.hid hW1
  have HZ := Lib.hid hz
  have HZs := Lib.hid hzs
  have B0 := Lib.hid b0
  have B1 := Lib.hid b1
  clear hW1 hz hzs b0 b1
  go_wp2_with (first
    | (refine wpList_load_row rfl 25 (.tmp 4) rfl w.heap.size rfl 25 cl (0, 0) _ B0.out Tryd.underlying25 rfl HSl.out ?_)
    | (refine wpList_load_row rfl 25 (.tmp 5) rfl (w.heap.size + 1) rfl 25 cr (0, 0) _ B1.out Tryd.underlying25 rfl HSr.out ?_))
  refine (HT.out _).mono ?_
  rintro e w1 ⟨v1, rfl, hr1, hb1⟩
  obtain ⟨a1, c1, rfl⟩ := slice_of_row hr1
  rw [← HM.out] at hr1 ⊢
  have HR1 := Lib.hid hr1.bys
  have HB1 := Lib.hid hb1
  clear hb1 hr1 HT
  go_wp2_with fail
  refine (HH.out _ _ _ HR1.out (HK.out.below (Nat.le_refl _) (HW1.out.2.2.trans (HB1.out.mono HW1.out.2.2.size)))).mono ?_
  rintro e w2 ⟨rfl, hb2⟩
  have HB2 := Lib.hid (HB1.out.trans (hb2.mono HB1.out.size))
  clear hb2 HH HB1 HR1
  go_wp2_with (refine wpList_store_row rfl 25 (.tmp 6) (.tmp 11) rfl (w.heap.size + 2) cs rfl rfl 25 _ (HZ.out.keep HB2.out) HSz.out (by rw [HCl.out, HZs.out]) HOne.out ?_)
  exact bodyPost_ret (v := .agg cs) (results_cell_row rfl _ _ (w.heap.size + 2) 25 cs (0, 0) _ rfl (Blk.row (HZ.out.keep HB2.out) cs) Tryd.underlying25 rfl HSz.out) rfl ⟨rfl, below_setRow (HW1.out.2.2.trans (HB2.out.mono HW1.out.2.2.size)) _ _ (by omega)⟩
end Go.Proofs.YtbnpgkhdhljjlaaDoor
