/- Joined: LeafHash, LeafKit, LeafRefRoot, LeafOps. -/
import Derived.Test.YtdhfabjkpffhnaaDoorLeafMath
import Derived.Test.YtdhfabjkpffhnaaDoorGCQ
import Derived.Test.YtdhfabjkpffhnaaDoorArmsC
import Derived.Test.YtdhfabjkpffhnaaDoorGCL
import Derived.IntWalk
import Derived.Great.BuildSlice
/- The hash of a text, w wide; leaves and nodes: the reference's. -/
namespace Go.Proofs.YtdhfabjkpffhnaaDoor
set_option maxRecDepth 20000
open Go.RowKit ShaMath LeafMath Reg

/-- An int. -/
abbrev I64 (n : Int) : Prop := -9223372036854775808 ≤ n ∧ n ≤ 9223372036854775807

theorem size_hash {cs : Array Value} (h : cs.size = 32) : (Tryd.prog.info? 24).map (·.size) = some cs.size := by rw [h]; kernel_rfl
theorem hash_cells (x : List UInt8) (h : x.length = 32) : ∃ cs, cs = bs x ∧ cs.size = 32 ∧ cs.all (·.oneCell') = true := ⟨_, rfl, by rw [bs_size, h], bs_one _⟩

set_option maxRecDepth 100000 in
theorem refhash_any (n : Int) (l : List UInt8) (a : Option Addr) (len cap : Nat) (w : World) (hv : Bys w (.slice a len cap) l) (hll : l.length = len) (hl : len ≤ 140737488355200) (hn : I64 n) (hk : Consts w) :
    Calls Tryd.prog 47 #[.int .i64 n, .slice a len cap] w fun e w' => e = .returned (.agg (bs (hashW n l))) ∧ Below w.heap.size w w' := by
  have hb0 : ∀ o, Below w.heap.size w (w.alloc o) := fun o => (Below.refl _ _).alloc (Nat.le_refl _) o
  obtain ⟨hs, hhs⟩ : ∃ hs, hs = ShaMath.hash l := ⟨_, rfl⟩
  obtain ⟨cs, hcs, hcl, hone⟩ := hash_cells (hashW n l) (hashW_length _ _)
  have HSum := Lib.hid (fun o => refsum_any l a len cap (w.alloc o) (hv.below (Nat.le_refl _) (hb0 o)) hll hl (hk.below (Nat.le_refl _) (hb0 o)))
  have HNar := Lib.hid (fun W => refnarrow_any hs n W (by rw [hhs]; exact hash_length l) hn)
  rw [show narrowL hs n = hashW n l by rw [hhs]; rfl, ← hcs] at HNar
  rw [← hhs] at HSum
  rw [← hcs]
  have HB0 := Lib.hid hb0
  have HSz := Lib.hid (size_hash hcl)
  have HOne := Lib.hid hone
  have HCl := Lib.hid hcl
  clear hv hll hk hn hhs hcs hcl hone hb0 hl
  go_enter Tryd.func47, Tryd.ntmps47
  go_wp2_with fail
  refine (HSum.out _).mono ?_
  rintro e w1 ⟨rfl, hb1⟩
  have HB1 := Lib.hid hb1
  clear hb1 HSum
  go_wp2_with fail
  refine (HNar.out _).mono ?_
  rintro e w2 ⟨rfl, hb2⟩
  have HB2 := Lib.hid (HB1.out.trans (hb2.mono HB1.out.size))
  clear hb2 HNar HB1
  go_wp2_with (refine wpList_store_row rfl 24 (.tmp 4) (.tmp 8) rfl w.heap.size cs rfl rfl 24 _ ((Blk.new w _ _).keep HB2.out) HSz.out (by rw [HCl.out]; rfl) HOne.out ?_)
  exact bodyPost_ret (v := .agg cs) (results_cell_row rfl _ _ w.heap.size 24 cs (0, 0) _ rfl (Blk.row ((Blk.new w _ _).keep HB2.out) cs) Tryd.underlying24 rfl HSz.out) rfl ⟨rfl, below_setRow ((HB0.out _).trans (HB2.out.mono (by simp))) _ _ (Nat.le_refl _)⟩

set_option maxRecDepth 100000 in
theorem refempty_any (n : Int) (w : World) (hn : I64 n) (hk : Consts w) :
    Calls Tryd.prog 16 #[.int .i64 n] w fun e w' => e = .returned (.agg (bs (emptyH n))) ∧ Below w.heap.size w w' := by
  have hb0 : ∀ o, Below w.heap.size w (w.alloc o) := fun o => (Below.refl _ _).alloc (Nat.le_refl _) o
  obtain ⟨cs, hcs, hcl, hone⟩ := hash_cells (emptyH n) (emptyH_length _)
  have HH := Lib.hid (fun o => refhash_any n [] none 0 0 (w.alloc o) (.inl ⟨rfl, rfl⟩) rfl (by decide) hn (hk.below (Nat.le_refl _) (hb0 o)))
  rw [show hashW n [] = emptyH n from rfl, ← hcs] at HH
  rw [← hcs]
  have HB0 := Lib.hid hb0
  have HSz := Lib.hid (size_hash hcl)
  have HOne := Lib.hid hone
  have HCl := Lib.hid hcl
  clear hk hn hcs hcl hone hb0
  go_enter Tryd.func16, Tryd.ntmps16
  go_wp2_with fail
  refine (HH.out _).mono ?_
  rintro e w2 ⟨rfl, hb2⟩
  have HB2 := Lib.hid hb2
  clear hb2 HH
  go_wp2_with (refine wpList_store_row rfl 24 (.tmp 2) (.tmp 4) rfl w.heap.size cs rfl rfl 24 _ ((Blk.new w _ _).keep HB2.out) HSz.out (by rw [HCl.out]; rfl) HOne.out ?_)
  exact bodyPost_ret (v := .agg cs) (results_cell_row rfl _ _ w.heap.size 24 cs (0, 0) _ rfl (Blk.row ((Blk.new w _ _).keep HB2.out) cs) Tryd.underlying24 rfl HSz.out) rfl ⟨rfl, below_setRow ((HB0.out _).trans (HB2.out.mono (by simp))) _ _ (Nat.le_refl _)⟩

/-- A text of one byte, in memory of the call's own. -/
theorem row_one (w : World) (B : Nat) (c : UInt8) (hB : B ≤ w.heap.size) : Row (w.alloc (.cells #[bv c] 5)) B (.slice (some ⟨w.heap.size, 0, none⟩) 1 1) [c] :=
  ⟨rfl, .inr ⟨w.heap.size, 1, #[bv c], rfl, hB, heap_alloc_new w _, Nat.le_refl _, by unfold maxLen; omega, rfl, rfl⟩⟩

theorem grown_below {w W W' : World} {v : Value} {l : List UInt8} {B : Nat} (hb : Below B w W) (hg : W.grownBy W' v.ownBlock) (hr : Row W B v l) (hB : B ≤ W.heap.size) : Below B w W' :=
  hb.trans (((Below.refl B W).grown hg hB (fun k hk => (World.ownsRow.lt hr k hk).1)).mono (Nat.le_refl _))

theorem refleaftext_any (l : List UInt8) (v : Value) (w : World) (hv : Bys w v l) (hl : l.length ≤ 140737488355200) :
    Calls Tryd.prog 49 #[v] w fun e w' => ∃ v', e = .returned v' ∧ Row w' w.heap.size v' (0 :: l) ∧ Below w.heap.size w w' := by
  have hb0 : ∀ o, Below w.heap.size w (w.alloc o) := fun o => (Below.refl _ _).alloc (Nat.le_refl _) o
  have HA := Lib.hid (append_bys (B := w.heap.size) (w := w.alloc (.cells #[bv 0] 5)) (by simp) (row_one w _ 0 (Nat.le_refl _)) (hv.below (Nat.le_refl _) (hb0 _)) (by simp; omega))
  have HB0 := Lib.hid (hb0 (.cells #[bv 0] 5))
  have HR0 := Lib.hid (row_one w _ 0 (Nat.le_refl _))
  clear hv hl hb0
  go_enter Tryd.func49, Tryd.ntmps49
  go_wp2_with (at_builtin; refine wpList_append_by rfl (.tmp 3) (.tmp 4) 22 rfl _ _ rfl rfl _ HA.out ?_; rintro v2 w2 ⟨hr2, hb2⟩; (have HR2 := Lib.hid hr2); (have HB2 := Lib.hid hb2); clear hr2 hb2)
  go_ret
  exact ⟨_, rfl, HR2.out, grown_below HB0.out HB2.out HR0.out (by simp)⟩

/-- Two hashes in blocks of the call's own. -/
def Two32 (w : World) (l r : List UInt8) (W : World) : Prop := Blk W w.heap.size 24 (bs l) ∧ Blk W (w.heap.size + 1) 24 (bs r) ∧ Below w.heap.size w W
theorem Two32.new (w : World) (l r : List UInt8) : Two32 w l r ((w.alloc (.cells (bs l) 24)).alloc (.cells (bs r) 24)) :=
  ⟨(Blk.new w _ _).alloc _, Blk.newAt _ _ _ _ _ (by simp) rfl, ((Below.refl _ _).alloc (Nat.le_refl _) _).alloc (by simp) _⟩
theorem Two32.keep {w W W' : World} {l r : List UInt8} (h : Two32 w l r W) (hb : Below W.heap.size W W') : Two32 w l r W' :=
  ⟨h.1.keep hb, h.2.1.keep hb, h.2.2.trans (hb.mono h.2.2.size)⟩
theorem Two32.drew {w W : World} {l r : List UInt8} (h : Two32 w l r W) : Two32 w l r W.drew :=
  h.keep ((Below.refl _ _).drew)

theorem ask_build_row {ops : Array Oper} {tab : List (List Nat)} {fin : List Tmp} {G : World → Prop} {f : Tmp → Fact} {i : Nat} {o : Oper} (hG : ∀ W W', G W → Below W.heap.size W W' → G W') (hg : guardOk ops f o) (s : Operand) (c : UInt8) (B : Nat) (hB : ∀ W, G W → B ≤ W.heap.size)
    (ho : o.op = .buildSlice 22 1 #[(0, s)]) (hs : opFact f s = .is (bv c)) (hd : ∀ k, o.dst = some k → f k = .row B [c]) : Asked Tryd.prog ops tab fin G f i o := by
  refine ask_grow hG hg fun x W hW hk => ?_
  have e := evalBy_opVal hk s (by rw [ho]; simp [Op.operands]) hs
  have hz : (zeroValue 5).run Tryd.prog W = .ok (.int .u8 0) W := by kernel_rfl
  have hr : (Instr.buildSlice 22 1 #[(0, bv c)]).run Tryd.prog W = .ok (.slice (some ⟨W.heap.size, 0, none⟩) 1 1) (W.alloc (.cells #[bv c] 5)) := by
    simp [Instr.buildSlice, run_underlying Tryd.underlying22, Result.andThen, hz, Instr.fill, newRow, bv, Value.cells, range_one]
  refine gives_value (v := .slice (some ⟨W.heap.size, 0, none⟩) 1 1) (w' := W.alloc (.cells #[bv c] 5)) ?_ ⟨(Below.refl _ _).alloc (Nat.le_refl _) _, fun k hk => by rw [hd k hk]; exact row_one W B c (hB W hW)⟩
  simp [execOp, ho, hr, e, Result.andThen]

theorem slice_h32 (g : Nat) (W : World) : (Instr.sliceAt 24 (.pointer (some ⟨g, 0, none⟩)) none none none).run Tryd.prog W = .ok (.slice (some ⟨g, 0, none⟩) 32 32) W := by
  have hal : Tryd.prog.arrayLen 24 = 32 := by kernel_rfl
  have hel : Tryd.prog.elem 24 = 5 := by kernel_rfl
  rw [run_sliceAt_array_all W 24 _ (by rw [hal, hel]; exact Tryd.underlying24), hal, hel, size_byte]
  simp [slicedAt, addr_add]

/-- Bytes that a block holds from its start on. -/
theorem blk_bys {W : World} {g : Nat} {t : TypeId} {l : List UInt8} (h : Blk W g t (bs l)) (hl : l.length = 32) : Bys W (.slice (some ⟨g, 0, none⟩) 32 32) l := by
  refine .inr ⟨_, _, by rw [hl], fun i hi => ?_⟩
  rw [addr_add, Nat.zero_add, h.cell, bs_at _ _ hi]
  simp [List.getD, hi]

theorem lookup_ops {l : List (Tmp × Fact)} {ops : Array Oper} (hl : (l.all fun p => ops.any fun o => o.dst == some p.1) = true) {k : Tmp} {fk : Fact} (hk : l.lookup k = some fk) : (ops.any fun o => o.dst == some k) = true := by
  have hmem : (k, fk) ∈ l := by
    clear hl
    induction l with
    | nil => simp at hk
    | cons p l ih =>
      obtain ⟨p1, p2⟩ := p
      rw [List.lookup_cons] at hk
      by_cases hkp : (k == p1) = true
      · rw [hkp] at hk
        simp at hk hkp
        subst hk hkp
        simp
      · simp only [hkp] at hk
        exact List.mem_cons_of_mem _ (ih hk)
  exact List.all_eq_true.1 hl _ hmem

theorem Row.lower {w : World} {B B' : Nat} {v : Value} {l : List UInt8} (h : Row w B v l) (hB : B' ≤ B) : Row w B' v l := by
  obtain ⟨h1, h2⟩ := h
  refine ⟨h1, ?_⟩
  rcases h2 with h2 | ⟨g, cap, cur, hv, hb, r⟩
  · exact .inl h2
  · exact .inr ⟨g, cap, cur, hv, by omega, r⟩

set_option maxRecDepth 100000 in
theorem refnodetext_any (l r : List UInt8) (w : World) (hl : l.length = 32) (hr : r.length = 32) :
    Calls Tryd.prog 51 #[.agg (bs l), .agg (bs r)] w fun e w' => ∃ v, e = .returned v ∧ Row w' w.heap.size v (1 :: (l ++ r)) ∧ Below w.heap.size w w' := by
  have h0 := Two32.new w l r
  obtain ⟨cl, hcl⟩ : ∃ cl, cl = bs l := ⟨_, rfl⟩
  obtain ⟨cr, hcr⟩ : ∃ cr, cr = bs r := ⟨_, rfl⟩
  rw [← hcl, ← hcr] at h0 ⊢
  have H0 := Lib.hid h0
  clear h0 hcl hcr
  go_enter Tryd.func51, Tryd.ntmps51
  go_upto_region 1 with fail
  refine world_cut (fun W => Two32 w l r W) H0.out ?_
  clear H0
  intro W1 hW1
  have hG : ∀ W W' : World, Two32 w l r W → Below W.heap.size W W' → Two32 w l r W' := fun W W' h h' => h.keep h'
  have hB : ∀ W, Two32 w l r W → w.heap.size + 2 ≤ W.heap.size := fun W h => h.2.1.lt
  have hgr : ∀ (W W' : World) (row : Option Nat), Two32 w l r W → W.grownBy W' row → (∀ k, row = some k → w.heap.size + 2 ≤ k) → Two32 w l r W' := fun W W' row hW hg hrow => by
    have hb : Below (w.heap.size + 2) W W' := (Below.refl _ _).grown hg (hB W hW) hrow
    exact ⟨hW.1.below (by omega) hb, hW.2.1.below (by omega) hb, hW.2.2.trans (hb.mono (by omega))⟩
  refine region_late_by 5 _ _ rfl [(5, .row (w.heap.size + 2) [1]), (6, .is (.slice (some ⟨w.heap.size, 0, none⟩) 32 32)), (7, .row (w.heap.size + 2) ([1] ++ l)), (8, .is (.slice (some ⟨w.heap.size + 1, 0, none⟩) 32 32)), (9, .row (w.heap.size + 2) ([1] ++ l ++ r))] [9]
    (fun W => Two32 w l r W) (by kernel_rfl) (by kernel_rfl) (by kernel_rfl) (by kernel_rfl) (fun k fk hk => .inl (lookup_ops (by kernel_rfl) hk)) rfl rfl rfl (by kernel_rfl) hW1.drew ?_ ?_
  · refine ⟨?a0, ?a1, ?a2, ?a3, ?a4, trivial⟩
    case a0 => exact Asked.late (ask_build_row hG (guard_none rfl) _ 1 _ hB rfl rfl (by intro k hk; cases hk; rfl))
    case a1 => exact Asked.late (ask_slice (guard_none rfl) 24 (.tmp 2) none none none (.pointer (some ⟨w.heap.size, 0, none⟩)) (.slice (some ⟨w.heap.size, 0, none⟩) 32 32) none none none rfl rfl rfl rfl rfl (by intro k hk; cases hk; rfl) (fun W => slice_h32 _ W))
    case a2 => exact ask_append_row2 (guard_none rfl) (by kernel_rfl) (.tmp 5) (.tmp 6) (w.heap.size + 2) [1] l rfl rfl rfl (fun x W hW hk => by
      have e : x 6 = .slice (some ⟨w.heap.size, 0, none⟩) 32 32 := hk 6 rfl
      show Bys W (x 6) l
      rw [e]
      exact blk_bys hW.1 hl) (by rw [hl]; decide) hB hgr (by intro k hk; cases hk; exact .inl rfl)
    case a3 => exact Asked.late (ask_slice (guard_none rfl) 24 (.tmp 3) none none none (.pointer (some ⟨w.heap.size + 1, 0, none⟩)) (.slice (some ⟨w.heap.size + 1, 0, none⟩) 32 32) none none none rfl rfl rfl rfl rfl (by intro k hk; cases hk; rfl) (fun W => slice_h32 _ W))
    case a4 => exact ask_append_row2 (guard_none rfl) (by kernel_rfl) (.tmp 7) (.tmp 8) (w.heap.size + 2) ([1] ++ l) r rfl rfl rfl (fun x W hW hk => by
      have e : x 8 = .slice (some ⟨w.heap.size + 1, 0, none⟩) 32 32 := hk 8 rfl
      show Bys W (x 8) r
      rw [e]
      exact blk_bys hW.2.1 hr) (by rw [List.length_append, hl, hr]; decide) hB hgr (by intro k hk; cases hk; exact .inl rfl)
  · intro a' W hW hd' hs' hf'
    have t9 : Row W (w.heap.size + 2) (a'.tmps.getD 9 undef) ([1] ++ l ++ r) := hf' 9 rfl
    obtain ⟨us', hus, ha'⟩ := act_open 10 a' hs' hd'
    rw [← hus] at t9
    have el : ((List.range 10).map us').toArray = #[us' 0, us' 1, us' 2, us' 3, us' 4, us' 5, us' 6, us' 7, us' 8, us' 9] := rfl
    rw [el] at ha'
    subst ha'
    have T9 := Lib.hid t9
    clear t9 hus hf' hs' hd' el
    go_wp2
    go_ret
    exact ⟨_, rfl, (show Row W (w.heap.size + 2) (us' 9) (1 :: (l ++ r)) from T9.out).lower (by omega), hW.2.2⟩

set_option maxRecDepth 100000 in
theorem refleaf_any (n : Int) (l : List UInt8) (v : Value) (w : World) (hv : Bys w v l) (hl : l.length ≤ 140737488355000) (hn : I64 n) (hk : Consts w) :
    Calls Tryd.prog 18 #[.int .i64 n, v] w fun e w' => e = .returned (.agg (bs (leafH n l))) ∧ Below w.heap.size w w' := by
  have hb0 : ∀ o, Below w.heap.size w (w.alloc o) := fun o => (Below.refl _ _).alloc (Nat.le_refl _) o
  obtain ⟨cs, hcs, hcl, hone⟩ := hash_cells (leafH n l) (leafH_length _ _)
  have HT := Lib.hid (fun o => refleaftext_any l v (w.alloc o) (hv.below (Nat.le_refl _) (hb0 o)) (by omega))
  have HH := Lib.hid (fun (W : World) (a : Option Addr) (cap : Nat) (h : Bys W (.slice a (l.length + 1) cap) (0 :: l)) (hc : Consts W) => refhash_any n (0 :: l) a (l.length + 1) cap W h rfl (by omega) hn hc)
  rw [show hashW n (0 :: l) = leafH n l from rfl, ← hcs] at HH
  rw [← hcs]
  have HB0 := Lib.hid hb0
  have HSz := Lib.hid (size_hash hcl)
  have HOne := Lib.hid hone
  have HCl := Lib.hid hcl
  have HK := Lib.hid hk
  clear hk hn hcs hcl hone hb0 hv hl
  go_enter Tryd.func18, Tryd.ntmps18
  go_wp2_with fail
  refine (HT.out _).mono ?_
  rintro e w1 ⟨v1, rfl, hr1, hb1⟩
  obtain ⟨a1, c1, rfl⟩ := slice_of_row hr1
  have HR1 := Lib.hid hr1.bys
  have HB1 := Lib.hid hb1
  clear hb1 hr1 HT
  go_wp2_with fail
  refine (HH.out _ _ _ HR1.out (HK.out.below (Nat.le_refl _) ((HB0.out _).trans (HB1.out.mono (by simp))))).mono ?_
  rintro e w2 ⟨rfl, hb2⟩
  have HB2 := Lib.hid (HB1.out.trans (hb2.mono HB1.out.size))
  clear hb2 HH HB1 HR1
  go_wp2_with (refine wpList_store_row rfl 24 (.tmp 4) (.tmp 8) rfl w.heap.size cs rfl rfl 24 _ ((Blk.new w _ _).keep HB2.out) HSz.out (by rw [HCl.out]; rfl) HOne.out ?_)
  exact bodyPost_ret (v := .agg cs) (results_cell_row rfl _ _ w.heap.size 24 cs (0, 0) _ rfl (Blk.row ((Blk.new w _ _).keep HB2.out) cs) Tryd.underlying24 rfl HSz.out) rfl ⟨rfl, below_setRow ((HB0.out _).trans (HB2.out.mono (by simp))) _ _ (Nat.le_refl _)⟩

set_option maxRecDepth 100000 in
theorem refnode_any (n : Int) (l r : List UInt8) (w : World) (hl : l.length = 32) (hr : r.length = 32) (hn : I64 n) (hk : Consts w) :
    Calls Tryd.prog 20 #[.int .i64 n, .agg (bs l), .agg (bs r)] w fun e w' => e = .returned (.agg (bs (nodeH n l r))) ∧ Below w.heap.size w w' := by
  obtain ⟨cs, hcs, hcs1, hone⟩ := hash_cells (nodeH n l r) (nodeH_length _ _ _)
  have h0 := Two32.new w l r
  have HT := Lib.hid (fun W => refnodetext_any l r W hl hr)
  obtain ⟨m, hm⟩ : ∃ m, m = (1 :: (l ++ r)).length := ⟨_, rfl⟩
  have HM := Lib.hid hm
  have HH := Lib.hid (fun (W : World) (a : Option Addr) (cap : Nat) (h : Bys W (.slice a m cap) (1 :: (l ++ r))) (hc : Consts W) => refhash_any n (1 :: (l ++ r)) a m cap W h hm.symm (by rw [hm]; simp [hl, hr]) hn hc)
  rw [show hashW n (1 :: (l ++ r)) = nodeH n l r from rfl, ← hcs] at HH
  rw [← hcs]
  have HSz := Lib.hid (size_hash hcs1)
  have HOne := Lib.hid hone
  have HCl := Lib.hid hcs1
  have HK := Lib.hid hk
  obtain ⟨cl, hcl, hcl1, _⟩ := hash_cells l hl
  obtain ⟨cr, hcr, hcr1, _⟩ := hash_cells r hr
  rw [← hcl, ← hcr] at h0 HT ⊢
  have HSl := Lib.hid (size_hash hcl1)
  have HSr := Lib.hid (size_hash hcr1)
  have H0 := Lib.hid h0
  have HEl := Lib.hid hcl
  have HEr := Lib.hid hcr
  clear h0 hk hn hcs hcs1 hone hcl hcl1 hcr hcr1 hm hl hr
  go_enter Tryd.func20, Tryd.ntmps20
  go_upto_region 1 with fail
  have h1 : Two32 w l r (((w.alloc (.cells cl 24)).alloc (.cells cr 24)).alloc (.cells (bs (List.replicate 32 0)) 24)) := H0.out.keep ((Below.refl _ _).alloc (Nat.le_refl _) _)
  refine world_cut (fun W => Two32 w l r W ∧ ∃ zs, Blk W (w.heap.size + 2) 24 zs ∧ zs.size = 32) ⟨h1, _, Blk.newAt _ _ _ _ _ (by simp) rfl, rfl⟩ ?_
  clear h1 H0
  rintro W1 ⟨hW1, zs, hz, hzs⟩
  have b0 := hW1.1
  have b1 := hW1.2.1
  rw [← HEl.out] at b0
  rw [← HEr.out] at b1
  have HW1 := Lib.hid hW1
  have HZ := Lib.hid hz
  have HZs := Lib.hid hzs
  have B0 := Lib.hid b0
  have B1 := Lib.hid b1
  clear hW1 hz hzs b0 b1
  go_wp2_with (first
    | (refine wpList_load_row rfl 24 (.tmp 4) rfl w.heap.size rfl 24 cl (0, 0) _ B0.out Tryd.underlying24 rfl HSl.out ?_)
    | (refine wpList_load_row rfl 24 (.tmp 5) rfl (w.heap.size + 1) rfl 24 cr (0, 0) _ B1.out Tryd.underlying24 rfl HSr.out ?_))
  refine (HT.out _).mono ?_
  rintro e w1 ⟨v1, rfl, hr1, hb1⟩
  obtain ⟨a1, c1, rfl⟩ := slice_of_row hr1
  rw [← HM.out] at hr1 ⊢
  have HR1 := Lib.hid hr1.bys
  have HB1 := Lib.hid hb1
  clear hb1 hr1 HT
  go_wp2_with fail
  refine (HH.out _ _ _ HR1.out (HK.out.below (Nat.le_refl _) (HW1.out.2.2.trans (HB1.out.mono HW1.out.2.2.size)))).mono ?_
  rintro e w2 ⟨rfl, hb2⟩
  have HB2 := Lib.hid (HB1.out.trans (hb2.mono HB1.out.size))
  clear hb2 HH HB1 HR1
  go_wp2_with (refine wpList_store_row rfl 24 (.tmp 6) (.tmp 11) rfl (w.heap.size + 2) cs rfl rfl 24 _ (HZ.out.keep HB2.out) HSz.out (by rw [HCl.out, HZs.out]) HOne.out ?_)
  exact bodyPost_ret (v := .agg cs) (results_cell_row rfl _ _ (w.heap.size + 2) 24 cs (0, 0) _ rfl (Blk.row (HZ.out.keep HB2.out) cs) Tryd.underlying24 rfl HSz.out) rfl ⟨rfl, below_setRow (HW1.out.2.2.trans (HB2.out.mono HW1.out.2.2.size)) _ _ (by omega)⟩
end Go.Proofs.YtdhfabjkpffhnaaDoor

/- Lists of hashes: wherever they lie, and of a call's own. -/
namespace Go.Proofs.YtdhfabjkpffhnaaDoor
set_option maxRecDepth 20000
open Go.RowKit ShaMath LeafMath Reg

def hcs (x : List UInt8) : List Value := x.map bv
def hcells (hs : List Hs) : List Value := hs.flatMap hcs
def All32 (hs : List Hs) : Prop := ∀ x ∈ hs, x.length = 32

theorem All32.take {hs : List Hs} (h : All32 hs) (i : Nat) : All32 (hs.take i) := fun x hx => h x (List.mem_of_mem_take hx)
theorem All32.drop {hs : List Hs} (h : All32 hs) (i : Nat) : All32 (hs.drop i) := fun x hx => h x (List.mem_of_mem_drop hx)
theorem All32.append {a b : List Hs} (h : All32 a) (h' : All32 b) : All32 (a ++ b) := fun x hx => (List.mem_append.1 hx).elim (h x) (h' x)
theorem All32.nil : All32 [] := fun x hx => by cases hx
theorem All32.one {x : Hs} (h : x.length = 32) : All32 [x] := fun y hy => by rw [List.mem_singleton.1 hy]; exact h
theorem All32.get {hs : List Hs} (h : All32 hs) {i : Nat} {x : Hs} (hi : hs[i]? = some x) : x.length = 32 := h x (List.mem_of_getElem? hi)

theorem hcs_len {x : Hs} (h : x.length = 32) : (hcs x).length = 32 := by simp [hcs, h]
theorem hcells_len {hs : List Hs} (h : All32 hs) : (hcells hs).length = hs.length * 32 := by
  induction hs with
  | nil => rfl
  | cons x hs ih =>
    have := ih fun y hy => h y (by simp [hy])
    unfold hcells at this ⊢
    rw [List.flatMap_cons, List.length_append, hcs_len (h x (by simp)), this, List.length_cons]
    omega
theorem hcells_one (hs : List Hs) : ∀ u ∈ hcells hs, u.oneCell' = true := by
  intro u hu
  obtain ⟨x, _, hx⟩ := List.mem_flatMap.1 hu
  exact one_bv x u hx
theorem hcells_take {hs : List Hs} (h : All32 hs) (i : Nat) : (hcells hs).take (i * 32) = hcells (hs.take i) := by
  induction hs generalizing i with
  | nil => simp [hcells]
  | cons x hs ih =>
    cases i with
    | zero => simp [hcells]
    | succ i =>
      have := ih (fun y hy => h y (by simp [hy])) i
      have hx := hcs_len (h x (by simp))
      unfold hcells at this ⊢
      rw [List.flatMap_cons, List.take_succ_cons, List.flatMap_cons, ← this, show (i + 1) * 32 = (hcs x).length + i * 32 by rw [hx]; omega, List.take_length_add_append]
theorem hcells_drop {hs : List Hs} (h : All32 hs) (i : Nat) : (hcells hs).drop (i * 32) = hcells (hs.drop i) := by
  induction hs generalizing i with
  | nil => simp [hcells]
  | cons x hs ih =>
    cases i with
    | zero => simp [hcells]
    | succ i =>
      have := ih (fun y hy => h y (by simp [hy])) i
      have hx := hcs_len (h x (by simp))
      unfold hcells at this ⊢
      rw [List.flatMap_cons, List.drop_succ_cons, ← this, show (i + 1) * 32 = (hcs x).length + i * 32 by rw [hx]; omega, List.drop_length_add_append]
theorem hcells_append (a b : List Hs) : hcells (a ++ b) = hcells a ++ hcells b := by simp [hcells]
theorem hcells_single (x : Hs) : hcells [x] = hcs x := by simp [hcells]

/-- A list of hashes, wherever it lies. -/
structure Hss (w : World) (v : Value) (hs : List Hs) : Prop where
  all : All32 hs
  at_ : (v = .slice none 0 0 ∧ hs = []) ∨
    ∃ ad cap, v = .slice (some ad) hs.length cap ∧ hs.length ≤ cap ∧ ∀ j u, (hcells hs)[j]? = some u → w.cell? (ad.add j) = some u

theorem Hss.below {w w' : World} {v : Value} {hs : List Hs} (h : Hss w v hs) {B : Nat} (hB : w.heap.size ≤ B) (hb : Below B w w') : Hss w' v hs := by
  refine ⟨h.all, ?_⟩
  rcases h.at_ with h | ⟨ad, cap, hv, hl, hc⟩
  · exact .inl h
  · exact .inr ⟨ad, cap, hv, hl, fun j u hj => by
      have h1 := hc j u hj
      rw [hb.cell (p := ad.add j) (Nat.lt_of_lt_of_le (World.block_lt_of_cell? w _ h1) hB)]
      exact h1⟩

theorem Hss.form {w : World} {v : Value} {hs : List Hs} (h : Hss w v hs) : ∃ a c, v = .slice a hs.length c ∧ hs.length ≤ c := by
  rcases h.at_ with ⟨rfl, rfl⟩ | ⟨ad, cap, rfl, hl, _⟩
  · exact ⟨_, _, rfl, Nat.le_refl _⟩
  · exact ⟨_, _, rfl, hl⟩

theorem Hss.none (w : World) : Hss w (.slice none 0 0) [] := ⟨All32.nil, .inl ⟨rfl, rfl⟩⟩

theorem add_add (ad : Addr) (i j : Nat) : (ad.add i).add j = ad.add (i + j) := by
  by_cases h4 : i = 0
  · by_cases h5 : j = 0
    · simp [Addr.add, h4, h5]
    · simp [Addr.add, h4, h5]
  · by_cases h5 : j = 0
    · simp [Addr.add, h4, h5]
    · simp [Addr.add, h4, h5, Nat.add_assoc]

/-- One of them. -/
theorem Hss.load {w : World} {a : Option Addr} {n c : Nat} {hs : List Hs} (h : Hss w (.slice a n c) hs) {i : Nat} {x : Hs} (hi : hs[i]? = some x) : ∃ ad : Addr, a = some ad ∧ ∀ j v, (hcs x)[j]? = some v → w.cell? ((ad.add (i * 32)).add j) = some v := by
  rcases h.at_ with ⟨_, rfl⟩ | ⟨ad, cap, h1, _, hc⟩
  · simp at hi
  · cases h1
    refine ⟨ad, rfl, fun j v hj => ?_⟩
    have hd := hcells_drop h.all i
    obtain ⟨hlt, hu⟩ := List.getElem?_eq_some_iff.1 hi
    unfold hcells at hd
    rw [List.drop_eq_getElem_cons hlt, List.flatMap_cons, hu] at hd
    have hj6 : j < (hcs x).length := (List.getElem?_eq_some_iff.1 hj).1
    have h2 : (hcells hs)[i * 32 + j]? = some v := by
      unfold hcells
      rw [← List.getElem?_drop, hd, List.getElem?_append_left hj6]
      exact hj
    rw [add_add]
    exact hc _ _ h2

theorem load_hash (W : World) (p : Addr) (x : Hs) (hx : x.length = 32) (h : ∀ j v, (hcs x)[j]? = some v → W.cell? (p.add j) = some v) : (Instr.loadAt 24 (.pointer (some p))).run Tryd.prog W = .ok (.agg (bs x)) W :=
  loads_cells p 24 _ (hcs x) Tryd.underlying24 rfl (by rw [hcs_len hx]; kernel_rfl) h

/-- 'v[lo:hi]'. -/
theorem Hss.sub {w : World} {a : Option Addr} {n c : Nat} {hs : List Hs} (h : Hss w (.slice a n c) hs) (lo hi : Nat) (h1 : lo ≤ hi) (h2 : hi ≤ n) : Hss w (sliced a lo hi c 32) ((hs.take hi).drop lo) := by
  have hall := (h.all.take hi).drop lo
  refine ⟨hall, ?_⟩
  rcases h.at_ with ⟨hv, rfl⟩ | ⟨ad, cap, hv, hl, hc⟩
  · cases hv
    obtain rfl : hi = 0 := by omega
    obtain rfl : lo = 0 := by omega
    exact .inl ⟨by simp [sliced], by simp⟩
  · cases hv
    have hlen : ((hs.take hi).drop lo).length = hi - lo := by rw [List.length_drop, List.length_take]; omega
    refine .inr ⟨if c = lo then ad else ad.add (lo * 32), c - lo, ?_, by rw [hlen]; omega, fun j u hj => ?_⟩
    · unfold sliced
      rw [hlen]
      by_cases e : c = lo
      · rw [if_pos e, if_pos e]
      · rw [if_neg e, if_neg e]
        rfl
    · have hj2 : j < (hi - lo) * 32 := by
        have := (List.getElem?_eq_some_iff.1 hj).1
        rw [hcells_len hall, hlen] at this
        exact this
      have hne : ¬ c = lo := by
        intro e
        have : hi - lo = 0 := by omega
        rw [this] at hj2
        omega
      rw [if_neg hne, add_add]
      rw [← hcells_drop (h.all.take hi), List.getElem?_drop, ← hcells_take h.all, List.getElem?_take] at hj
      split at hj
      · exact hc _ _ hj
      · cases hj

theorem elem_hss : Tryd.prog.elem 30 = 24 := by kernel_rfl
theorem size_hss (w : World) : (Go.sizeOf 24).run Tryd.prog w = .ok 32 w := by kernel_rfl

theorem slice_hs_to (a : Option Addr) (n c k : Nat) (hk : k ≤ c) (W : World) : (Instr.sliceAt 30 (.slice a n c) none (some (.int .i64 (k : Int))) none).run Tryd.prog W = .ok (sliced a 0 k c 32) W := by
  have ht : Tryd.prog.underlying 30 = some (.slice (Tryd.prog.elem 30)) := by rw [elem_hss]; exact Tryd.underlying30
  rw [run_sliceAt_slice _ _ _ _ _ _ ht, run_slice_h _ _ _ _ _ ht .i64 (k : Int) (by omega) (by omega), elem_hss, size_hss]
  simp [Result.andThen]
theorem slice_hs_from (a : Option Addr) (n c k : Nat) (hk : k ≤ n) (W : World) : (Instr.sliceAt 30 (.slice a n c) (some (.int .i64 (k : Int))) none none).run Tryd.prog W = .ok (sliced a k n c 32) W := by
  have ht : Tryd.prog.underlying 30 = some (.slice (Tryd.prog.elem 30)) := by rw [elem_hss]; exact Tryd.underlying30
  rw [run_sliceAt_slice _ _ _ _ _ _ ht, run_slice_l _ _ _ _ _ ht .i64 (k : Int) (by omega) (by omega), elem_hss, size_hss]
  simp [Result.andThen]
/-! ### Lists of a call's own -/

def OHs (w : World) (B : Nat) (v : Value) (hs : List Hs) : Prop := All32 hs ∧ w.ownsRow B 24 32 v hs.length (hcells hs)

theorem OHs.hss {w : World} {B : Nat} {v : Value} {hs : List Hs} (h : OHs w B v hs) : Hss w v hs := by
  obtain ⟨h0, h⟩ := h
  refine ⟨h0, ?_⟩
  rcases h.2 with ⟨rfl, hl⟩ | ⟨g, cap, cur, rfl, _, hg, hn, hm, hs', ht⟩
  · exact .inl ⟨rfl, List.eq_nil_of_length_eq_zero hl⟩
  · refine .inr ⟨⟨g, 0, Option.none⟩, cap, rfl, hn, fun j u hj => ?_⟩
    rw [addr_add, Nat.zero_add]
    have hc := World.ownsRow.cells h (g := g) rfl
    have := hc j u hj
    rwa [addr_add, Nat.zero_add] at this

theorem OHs.lower {w : World} {B B' : Nat} {v : Value} {hs : List Hs} (h : OHs w B v hs) (hB : B' ≤ B) : OHs w B' v hs := by
  obtain ⟨h0, h1, h2⟩ := h
  refine ⟨h0, h1, ?_⟩
  rcases h2 with h2 | ⟨g, cap, cur, hv, hb, r⟩
  · exact .inl h2
  · exact .inr ⟨g, cap, cur, hv, by omega, r⟩

theorem OHs.below {w w' : World} {B : Nat} {v : Value} {hs : List Hs} (h : OHs w B v hs) (hb : Below w.heap.size w w') : OHs w' B v hs := by
  obtain ⟨h0, h1, h2⟩ := h
  refine ⟨h0, h1, ?_⟩
  rcases h2 with h2 | ⟨g, cap, cur, hv, hB, hg, r⟩
  · exact .inl h2
  · exact .inr ⟨g, cap, cur, hv, hB, by rw [hb.block g (Array.getElem?_eq_some_iff.1 hg).1]; exact hg, r⟩

theorem OHs.none (w : World) (B : Nat) : OHs w B (.slice Option.none 0 0) [] := ⟨All32.nil, World.ownsRow_nil _ _ _ _⟩

theorem info_hash : (Tryd.prog.info? 24).map (fun i => (i.zero, i.size, i.bytes)) = some (some (.agg (bs (List.replicate 32 0))), 32, 32) := by kernel_rfl

/-- append(v, x...), v the call's own. -/
theorem append_hs {w : World} {B : Nat} {v x : Value} {hs hs' : List Hs} (hB : B ≤ w.heap.size) (h : OHs w B v hs) (hx : Hss w x hs') (hlen : hs.length + hs'.length ≤ 4398046511104) :
    ∃ v' w', (Builtin.append_ #[30, 30] 30 #[v, x]).run Tryd.prog w = .ok v' w' ∧ OHs w' B v' (hs ++ hs') ∧ w.grownBy w' v.ownBlock := by
  obtain ⟨i0, hi, hz0, hz1, hz2⟩ := info_parts info_hash
  rcases hx.at_ with ⟨rfl, rfl⟩ | ⟨ad, cap, rfl, hl, hc⟩
  · refine ⟨v, w, run_append_owned_none (P := Tryd.prog) (w := w) B _ _ _ i0 32 Tryd.underlying30 hi v hs.length (hcells hs) h.2, by simpa using h, ?_⟩
    exact ⟨rfl, rfl, rfl, Nat.le_refl _, fun _ _ _ => rfl⟩
  · obtain ⟨v', w', hr, h1, h2, h3⟩ := run_append_own (P := Tryd.prog) w B 30 30 24 i0 (.agg (bs (List.replicate 32 0))) 32 32 Tryd.underlying30 hi hz0 hz1 hz2 rfl (by decide) v hs.length (hcells hs) h.2 ad hs'.length cap (hcells hs') (hcells_len hx.all) hc (hcells_one hs') (by unfold maxLen; omega) (by omega) hB
    refine ⟨v', w', hr, ⟨h.1.append hx.all, ?_⟩, h2⟩
    rw [List.length_append, hcells_append]
    exact h1
end Go.Proofs.YtdhfabjkpffhnaaDoor

/- The reference's Split and Root. -/
namespace Go.Proofs.YtdhfabjkpffhnaaDoor
set_option maxRecDepth 20000
open Go.RowKit ShaMath LeafMath Reg

/-- The greatest power of 2 below n, on the way: k. -/
def SplitAt (n : Nat) (w : World) (s : Value) (wr : World) : Prop := ∃ k j : Nat, k = 2 ^ j ∧ k ≤ splitN n ∧ s = .int .i64 (k : Int) ∧ wr = w
theorem split_more {n k j : Nat} (hk : k = 2 ^ j) (h1 : 1 ≤ k) (h : k * 2 < n) : k * 2 = 2 ^ (j + 1) ∧ k * 2 ≤ splitN n := by
  refine ⟨by rw [Nat.pow_succ, hk], ?_⟩
  obtain ⟨i, hi⟩ := splitN_pow n
  have := splitN_ge (n := n) (by omega)
  by_cases hij : j + 1 ≤ i
  · have h2 := Nat.pow_le_pow_right (n := 2) (by decide) hij
    rw [Nat.pow_succ, ← hk] at h2
    rw [hi]
    exact h2
  · have h2 := Nat.pow_le_pow_right (n := 2) (by decide) (show i ≤ j by omega)
    rw [← hk, ← hi] at h2
    omega
theorem split_done {n k j : Nat} (hk : k = 2 ^ j) (h1 : k ≤ splitN n) (hn : 1 ≤ n) (h : n ≤ k * 2) : k = splitN n := by
  have hp : 0 < 2 ^ j := Nat.pow_pos (by decide)
  by_cases h2 : 2 ≤ n
  · have := splitN_lt h2
    rw [hk, splitN_is (n := n) (j := j) (by omega) (by omega)]
  · obtain rfl : n = 1 := by omega
    have : splitN 1 = 1 := by decide +kernel
    omega

theorem refsplit_any (n : Nat) (w : World) (h1 : 1 ≤ n) (hn : n ≤ 1152921504606846976) :
    Calls Tryd.prog 53 #[.int .i64 (n : Int)] w fun e w' => e = .returned (.int .i64 (splitN n : Int)) ∧ w' = w := by
  have hstart : SplitAt n w (.int .i64 1) w := ⟨1, 0, rfl, splitN_pos n, rfl, rfl⟩
  have HS := Lib.hid hstart
  clear hstart
  go_enter Tryd.func53, Tryd.ntmps53
  go_wp2
  go_loopw [3] (fun s3 wr => SplitAt n w s3 wr) (fun s3 _ => 2 * n - (intOf s3).toNat)
  case atStart => exact HS.out
  case round =>
    obtain ⟨k, j, hk, hle, rfl, rfl⟩ := hrel
    have hk1 : 1 ≤ k := by rw [hk]; exact Nat.pow_pos (by decide)
    have HK := Lib.hid hk
    have HLe := Lib.hid hle
    have hkn : k ≤ n := by
      by_cases h2 : 2 ≤ n
      · have := splitN_lt h2
        omega
      · obtain rfl : n = 1 := by omega
        have : splitN 1 = 1 := by decide +kernel
        omega
    clear hk hle HS
    by_cases hlt : k * 2 < n
    · obtain ⟨d, hd⟩ : ∃ d : Nat, (n : Int) - (k : Int) = (d : Int) := ⟨n - k, by omega⟩
      have hkd : (k : Int) < (d : Int) := by omega
      obtain ⟨m, hm⟩ : ∃ m : Nat, (k : Int) * 2 = (m : Int) := ⟨k * 2, by omega⟩
      have hm2 : m = k * 2 := by omega
      have hmn : m ≤ n := by omega
      have HM2 := Lib.hid hm2
      have HLt := Lib.hid hlt
      clear hm2 hlt
      go_wp2
      go_roundw
      case rel =>
        obtain ⟨a, b⟩ := split_more HK.out hk1 HLt.out
        exact ⟨m, j + 1, by rw [HM2.out]; exact a, by rw [HM2.out]; exact b, rfl, rfl⟩
      case measure =>
        have := HM2.out
        simp only [intOf, Int.toNat_natCast]
        omega
    · obtain ⟨d, hd⟩ : ∃ d : Nat, (n : Int) - (k : Int) = (d : Int) := ⟨n - k, by omega⟩
      have hkd : ¬ (k : Int) < (d : Int) := by omega
      have HLt := Lib.hid hlt
      clear hlt
      go_wp2
      go_ret
      exact ⟨by rw [← split_done HK.out HLe.out h1 (by have := HLt.out; omega)]; rfl, rfl⟩

/-- A result's block, and all that was there. -/
def Res32 (w W : World) : Prop := (∃ zs, Blk W w.heap.size 24 zs ∧ zs.size = 32) ∧ Below w.heap.size w W
theorem Res32.new (w : World) (cs : Array Value) (h : cs.size = 32) : Res32 w (w.alloc (.cells cs 24)) := ⟨⟨_, Blk.new w _ _, h⟩, (Below.refl _ _).alloc (Nat.le_refl _) _⟩
theorem Res32.keep {w W W' : World} (h : Res32 w W) (hb : Below W.heap.size W W') : Res32 w W' := by
  obtain ⟨⟨zs, h1, h2⟩, h3⟩ := h
  exact ⟨⟨zs, h1.keep hb, h2⟩, h3.trans (hb.mono h3.size)⟩
theorem Res32.drew {w W : World} (h : Res32 w W) : Res32 w W.drew := h.keep (Below.refl _ _).drew

set_option maxHeartbeats 1000000 in
set_option maxRecDepth 100000 in
theorem refroot_any (n : Int) (hn : I64 n) : ∀ (N : Nat) (hs : List Hs) (v : Value) (w : World), hs.length = N → Hss w v hs → N ≤ 1000000000 → Consts w →
    Calls Tryd.prog 22 #[.int .i64 n, v] w fun e w' => e = .returned (.agg (bs (rootH n hs))) ∧ Below w.heap.size w w' := by
  intro N
  induction N using Nat.strongRecOn with
  | ind N ih =>
    intro hs v w hN hv hle hk
    obtain ⟨a, c, rfl, hlc⟩ := hv.form
    rw [hN] at hv hlc ⊢
    obtain ⟨cs, hcs, hcl, hone⟩ := hash_cells (rootH n hs) (rootH_length _ _ hv.all)
    have HSz := Lib.hid (size_hash hcl)
    have HOne := Lib.hid hone
    have HCl := Lib.hid hcl
    have HK := Lib.hid hk
    have HV := Lib.hid hv
    have HN := Lib.hid hN
    have HI := Lib.hid hn
    have hb0 : ∀ o, Below w.heap.size w (w.alloc o) := fun o => (Below.refl _ _).alloc (Nat.le_refl _) o
    have HB0 := Lib.hid hb0
    clear hcl hone hb0
    by_cases h0 : N = 0
    · subst h0
      have he : rootH n hs = emptyH n := by rw [List.eq_nil_of_length_eq_zero hN, rootH_nil]
      rw [← hcs]
      rw [he] at hcs
      have HE := Lib.hid (fun o => refempty_any n (w.alloc o) hn (hk.below (Nat.le_refl _) (HB0.out o)))
      rw [← hcs] at HE
      clear hk hv hN hcs he ih hn
      go_enter Tryd.func22, Tryd.ntmps22
      go_wp2_with fail
      refine (HE.out _).mono ?_
      rintro e w2 ⟨rfl, hb2⟩
      have HB2 := Lib.hid hb2
      clear hb2 HE
      go_wp2_with (refine wpList_store_row rfl 24 (.tmp 4) (.tmp 12) rfl w.heap.size cs rfl rfl 24 _ ((Blk.new w _ _).keep HB2.out) HSz.out (by rw [HCl.out]; rfl) HOne.out ?_)
      exact bodyPost_ret (v := .agg cs) (results_cell_row rfl _ _ w.heap.size 24 cs (0, 0) _ rfl (Blk.row ((Blk.new w _ _).keep HB2.out) cs) Tryd.underlying24 rfl HSz.out) rfl ⟨rfl, below_setRow ((HB0.out _).trans (HB2.out.mono (by simp))) _ _ (Nat.le_refl _)⟩
    · by_cases h1 : N = 1
      · subst h1
        obtain ⟨x, rfl⟩ : ∃ x, hs = [x] := by
          match hs, hN with
          | [x], _ => exact ⟨x, rfl⟩
        obtain ⟨ad, rfl, hc⟩ := (hv.below (Nat.le_refl _) (HB0.out (.cells (bs (List.replicate 32 0)) 24))).load (i := 0) (x := x) rfl
        rw [rootH_one] at hcs ⊢
        have HLoad := Lib.hid (load_hash _ (ad.add (0 * 32)) x (hv.all x (by simp)) hc)
        rw [← hcs] at HLoad ⊢
        rw [show ad.add (0 * 32) = ad by simp [Addr.add]] at HLoad
        clear hk hv hN hcs ih hn hc
        go_enter Tryd.func22, Tryd.ntmps22
        go_wp2_with (first
          | (refine wpList_load_by rfl 24 (.tmp 16) rfl _ _ rfl HLoad.out ?_)
          | (refine wpList_store_row rfl 24 (.tmp 4) (.tmp 17) rfl w.heap.size cs rfl rfl 24 _ (Blk.new w _ _) HSz.out (by rw [HCl.out]; rfl) HOne.out ?_))
        exact bodyPost_ret (v := .agg cs) (results_cell_row rfl _ _ w.heap.size 24 cs (0, 0) _ rfl (Blk.row (Blk.new w _ _) cs) Tryd.underlying24 rfl HSz.out) rfl ⟨rfl, below_setRow (HB0.out _) _ _ (Nat.le_refl _)⟩
      · have h2 : 2 ≤ hs.length := by omega
        have hk1 := splitN_lt h2
        have hk0 := splitN_pos hs.length
        obtain ⟨k, hkk⟩ : ∃ k, k = splitN hs.length := ⟨_, rfl⟩
        obtain ⟨L, hL⟩ : ∃ L, L = rootH n (hs.take k) := ⟨_, rfl⟩
        obtain ⟨R, hR⟩ : ∃ R, R = rootH n (hs.drop k) := ⟨_, rfl⟩
        have hroot : rootH n hs = nodeH n L R := by rw [hL, hR, hkk]; exact rootH_more n hs h2
        have hL32 : L.length = 32 := by rw [hL]; exact rootH_length _ _ (hv.all.take k)
        have hR32 : R.length = 32 := by rw [hR]; exact rootH_length _ _ (hv.all.drop k)
        rw [← hcs]
        rw [hroot] at hcs
        rw [← hkk] at hk0 hk1
        have hkN : k < N := by omega
        have HSplit := Lib.hid (fun W => refsplit_any N W (by omega) (by omega))
        rw [← hN, ← hkk, hN] at HSplit
        obtain ⟨va, hva⟩ : ∃ va, va = sliced a 0 k c 32 := ⟨_, rfl⟩
        obtain ⟨vb, hvb⟩ : ∃ vb, vb = sliced a k N c 32 := ⟨_, rfl⟩
        have h1s : Hss w va (hs.take k) := by
          have := hv.sub 0 k (by omega) (by omega)
          rw [hva]
          simpa using this
        have h2s : Hss w vb (hs.drop k) := by
          have := hv.sub k N (by omega) (by omega)
          rw [hvb]
          rwa [List.take_of_length_le (by omega)] at this
        have hsa : ∀ W, (Instr.sliceAt 30 (.slice a N c) none (some (.int .i64 (k : Int))) none).run Tryd.prog W = .ok va W := fun W => by rw [hva]; exact slice_hs_to a N c k (by omega) W
        have hsb : ∀ W, (Instr.sliceAt 30 (.slice a N c) (some (.int .i64 (k : Int))) none none).run Tryd.prog W = .ok vb W := fun W => by rw [hvb]; exact slice_hs_from a N c k (by omega) W
        obtain ⟨cl, hcl, hcl1, _⟩ := hash_cells L hL32
        obtain ⟨cr, hcr, hcr1, _⟩ := hash_cells R hR32
        have HA := Lib.hid (fun (W : World) (hW : Below w.heap.size w W) => ih k hkN (hs.take k) va W (by rw [List.length_take]; omega) (h1s.below (Nat.le_refl _) hW) (by omega) (hk.below (Nat.le_refl _) hW))
        have HBb := Lib.hid (fun (W : World) (hW : Below w.heap.size w W) => ih (N - k) (by omega) (hs.drop k) vb W (by rw [List.length_drop]; omega) (h2s.below (Nat.le_refl _) hW) (by omega) (hk.below (Nat.le_refl _) hW))
        have HNode := Lib.hid (fun (W : World) (hW : Below w.heap.size w W) => refnode_any n L R W hL32 hR32 hn (hk.below (Nat.le_refl _) hW))
        rw [← hL, ← hcl] at HA
        rw [← hR, ← hcr] at HBb
        rw [← hcl, ← hcr, ← hcs] at HNode
        have HSa := Lib.hid hsa
        have HSb := Lib.hid hsb
        have HR0 := Lib.hid (Res32.new w (bs (List.replicate 32 0)) (by rw [bs_size]; rfl))
        clear hk hv hN hcs ih hn hcl hcr hcl1 hcr1 hsa hsb hva hvb h1s h2s hL hR hroot hL32 hR32 hkk hk1 h2
        have e0 : ¬ (N : Int) = 0 := by omega
        have e1 : ¬ (N : Int) = 1 := by omega
        go_enter Tryd.func22, Tryd.ntmps22
        go_wp2_with fail
        refine (HSplit.out _).mono ?_
        rintro e w2 ⟨rfl, rfl⟩
        go_upto_region 7 with fail
        refine world_cut (fun W => Res32 w W) HR0.out ?_
        clear HR0 HSplit
        intro W1 hW1
        have hG : ∀ W W' : World, Res32 w W → Below W.heap.size W W' → Res32 w W' := fun W W' h h' => h.keep h'
        refine region_tail_by 12 _ [(20, .is (.int .i64 n)), (21, .is (.int .i64 n)), (22, .is (.slice a N c)), (23, .is (.int .i64 (k : Int))), (24, .is va), (25, .is (.agg cl)), (26, .is (.int .i64 n)), (27, .is (.slice a N c)), (28, .is (.int .i64 (k : Int))), (29, .is vb), (30, .is (.agg cr)), (31, .is (.agg cs))] [4, 31]
          (fun W => Res32 w W) (by kernel_rfl) (by kernel_rfl) (by kernel_rfl) (by kernel_rfl) (by kernel_rfl) rfl rfl rfl rfl (by kernel_rfl) hW1.drew ?_ ?_
        · refine ⟨?a0, ?a1, ?a2, ?a3, ?a4, ?a5, ?a6, ?a7, ?a8, ?a9, ?a10, ?a11, trivial⟩
          case a0 => exact ask_copy (guard_none rfl) (.tmp 0) (.inl rfl) (by intro k hk; cases hk; rfl)
          case a1 => exact ask_copy (guard_none rfl) (.tmp 0) (.inl rfl) (by intro k hk; cases hk; rfl)
          case a2 => exact ask_copy (guard_none rfl) (.tmp 1) (.inl rfl) (by intro k hk; cases hk; rfl)
          case a3 => exact ask_copy (guard_none rfl) (.tmp 6) (.inl rfl) (by intro k hk; cases hk; rfl)
          case a4 => exact ask_slice (guard_none rfl) 30 (.tmp 22) none (some (.tmp 23)) none (.slice a N c) va none (some (.int .i64 (k : Int))) none rfl rfl rfl rfl rfl (by intro k hk; cases hk; rfl) HSa.out
          case a5 => exact ask_call hG (guard_none rfl) _ _ _ #[.int .i64 n, va] (.is (.agg cl)) rfl (by kernel_rfl) rfl rfl (by intro k hk; cases hk; rfl) (fun W hW => (HA.out W hW.2).mono fun e w' h => ⟨_, h.1, rfl, h.2⟩)
          case a6 => exact ask_copy (guard_none rfl) (.tmp 0) (.inl rfl) (by intro k hk; cases hk; rfl)
          case a7 => exact ask_copy (guard_none rfl) (.tmp 1) (.inl rfl) (by intro k hk; cases hk; rfl)
          case a8 => exact ask_copy (guard_none rfl) (.tmp 6) (.inl rfl) (by intro k hk; cases hk; rfl)
          case a9 => exact ask_slice (guard_none rfl) 30 (.tmp 27) (some (.tmp 28)) none none (.slice a N c) vb (some (.int .i64 (k : Int))) none none rfl rfl rfl rfl rfl (by intro k hk; cases hk; rfl) HSb.out
          case a10 => exact ask_call hG (guard_none rfl) _ _ _ #[.int .i64 n, vb] (.is (.agg cr)) rfl (by kernel_rfl) rfl rfl (by intro k hk; cases hk; rfl) (fun W hW => (HBb.out W hW.2).mono fun e w' h => ⟨_, h.1, rfl, h.2⟩)
          case a11 => exact ask_call hG (guard_none rfl) _ _ _ #[.int .i64 n, .agg cl, .agg cr] (.is (.agg cs)) rfl (by kernel_rfl) rfl rfl (by intro k hk; cases hk; rfl) (fun W hW => (HNode.out W hW.2).mono fun e w' h => ⟨_, h.1, rfl, h.2⟩)
        · intro a' W hW hd' hs' hf'
          have t4 : a'.tmps.getD 4 undef = .pointer (some ⟨w.heap.size, 0, none⟩) := hf' 4 rfl
          have t31 : a'.tmps.getD 31 undef = .agg cs := hf' 31 rfl
          obtain ⟨us', hus, ha'⟩ := act_open 32 a' hs' hd'
          rw [← hus] at t4 t31
          have el : ((List.range 32).map us').toArray = #[us' 0, us' 1, us' 2, us' 3, us' 4, us' 5, us' 6, us' 7, us' 8, us' 9, us' 10, us' 11, us' 12, us' 13, us' 14, us' 15, us' 16, us' 17, us' 18, us' 19, us' 20, us' 21, us' 22, us' 23, us' 24, us' 25, us' 26, us' 27, us' 28, us' 29, us' 30, us' 31] := rfl
          rw [el] at ha'
          subst ha'
          rw [t4, t31]
          clear hus t4 t31 el hf' hs' hd' hG hW1
          obtain ⟨⟨zs, hz1, hz2⟩, hB5⟩ := hW
          have HZ := Lib.hid hz1
          have HZs := Lib.hid hz2
          have HB5 := Lib.hid hB5
          clear hz1 hz2 hB5
          go_wp2_with (refine wpList_store_row rfl 24 (.tmp 4) (.tmp 31) rfl w.heap.size cs rfl rfl 24 _ HZ.out HSz.out (by rw [HCl.out, HZs.out]) HOne.out ?_)
          exact bodyPost_ret (v := .agg cs) (results_cell_row rfl _ _ w.heap.size 24 cs (0, 0) _ rfl (Blk.row HZ.out cs) Tryd.underlying24 rfl HSz.out) rfl ⟨rfl, below_setRow HB5.out _ _ (Nat.le_refl _)⟩
end Go.Proofs.YtdhfabjkpffhnaaDoor

/- Lists of hashes in drawn regions; hashes held against each other; ranges as values. -/
namespace Go.Proofs.YtdhfabjkpffhnaaDoor
set_option maxRecDepth 20000
open Go.RowKit ShaMath LeafMath Reg

theorem neq_hash2 (s t : Operand) (X Y : List UInt8) (hX : X.length = 32) (hY : Y.length = 32) (W : World) : (do eqGuard .neq 24 s t (.agg (bs X)) (.agg (bs Y)); binOp .neq 24 (.agg (bs X)) (.agg (bs Y)) : Sem Value).run Tryd.prog W = .ok (.bool (!(X == Y))) W := by
  rw [Sem.run_bind, run_eqGuard_agg W .neq 24 s t _ _ (by kernel_rfl), Result.andThen_ok, run_neq_struct, eq_hash W X Y hX hY]
  rfl
theorem eql_hash2 (s t : Operand) (X Y : List UInt8) (hX : X.length = 32) (hY : Y.length = 32) (W : World) : (do eqGuard .eql 24 s t (.agg (bs X)) (.agg (bs Y)); binOp .eql 24 (.agg (bs X)) (.agg (bs Y)) : Sem Value).run Tryd.prog W = .ok (.bool (X == Y)) W := by
  rw [Sem.run_bind, run_eqGuard_agg W .eql 24 s t _ _ (by kernel_rfl), Result.andThen_ok, run_eql_struct, eq_hash W X Y hX hY]
  rfl

theorem sub_i64 (x y z : Int) (t : TypeId) (a b : Operand) (hz : x - y = z) (hb : -4611686018427387904 ≤ z ∧ z ≤ 4611686018427387904) (W : World) : (do eqGuard .sub t a b (.int .i64 x) (.int .i64 y); binOp .sub t (.int .i64 x) (.int .i64 y) : Sem Value).run Tryd.prog W = .ok (.int .i64 z) W := by
  have h : IntKind.i64.wrap (x - y) = z := by
    rw [IntKind.wrap_i64]
    omega
  simp [eqGuard, binOp, go_sem, h]

/-- 'v[i]' of hashes. -/
theorem hss_index (W : World) (ad : Addr) (n c i : Nat) (hi : i < n) : (Instr.indexAt 30 (.slice (some ad) n c) (.int .i64 (i : Int))).run Tryd.prog W = .ok (.pointer (some (ad.add (i * 32)))) W := by
  have ht : Tryd.prog.underlying 30 = some (.slice (Tryd.prog.elem 30)) := by rw [elem_hss]; exact Tryd.underlying30
  rw [run_indexAt_slice (h := ht), if_pos (by omega), elem_hss, size_hss]
  simp [Result.andThen]

theorem build_hash (W : World) (cs : Array Value) (hc : cs.size = 32) : (Instr.buildSlice 30 1 #[(0, .agg cs)]).run Tryd.prog W = .ok (.slice (some ⟨W.heap.size, 0, none⟩) 1 1) (W.alloc (.cells cs 24)) := by
  obtain ⟨i, hi, hz0, hz1, hz2⟩ := info_parts info_hash
  refine run_buildSlice W _ _ 1 _ cs i _ Tryd.underlying30 hi hz0 (by rw [hz1]; decide) (by rw [hz1]; decide) ?_
  rw [hz1]
  have := Go.Great.fill_whole (s := 32) (by decide) [.agg cs] ((Array.range (1 * 32)).map ((Value.agg (bs (List.replicate 32 0))).cells[· % (Value.agg (bs (List.replicate 32 0))).cells.size]!)) (by simp [Value.cells, hc]) (by simp)
  simpa [Value.cells] using this

theorem hss_new (W : World) (x : Hs) (hx : x.length = 32) : Hss (W.alloc (.cells (bs x) 24)) (.slice (some ⟨W.heap.size, 0, none⟩) 1 1) [x] :=
  ⟨All32.one hx, .inr ⟨_, 1, rfl, Nat.le_refl _, fun j u hj => by
    rw [addr_add, Nat.zero_add, (Blk.new W 24 (bs x)).cell]
    rw [hcells_single] at hj
    simpa [bs, hcs] using hj⟩⟩

section
variable {ops : Array Oper} {tab : List (List Nat)} {fin : List Tmp} {G : World → Prop} {f : Tmp → Fact} {i : Nat} {o : Oper}

theorem ask_idx (hg : guardOk ops f o) (ty : TypeId) (s t : Operand) (v x c : Value) (ho : o.op = .indexAddr ty s t) (hs : opFact f s = .is v) (ht : opFact f t = .is x)
    (hd : ∀ k, o.dst = some k → f k = .is c) (hr : ∀ W, (Instr.indexAt ty v x).run Tryd.prog W = .ok c W) : Asked Tryd.prog ops tab fin G f i o := by
  refine ask_val hg c hd fun y W _ hk => ?_
  have e1 := evalBy_opVal hk s (by rw [ho]; simp [Op.operands]) hs
  have e2 := evalBy_opVal hk t (by rw [ho]; simp [Op.operands]) ht
  simp only [execOp, ho, e1, e2, Sem.run_bind, hr W, Result.andThen_ok, Sem.run_pure]

end

/-- A range as a value. -/
abbrev rngC (s : Nat) (v : Value) : Array Value := #[.int .u64 (s : Int), v]

theorem ret_hash {fn : Func} {p u : Tmp} (h : fn.results = #[.cell p 24, .tmp u]) (tmps : Array Value) (W : World) (g : Nat) (cs : Array Value) (c : Value) (hs : cs.size = 32) (hp : tmps.getD p undef = .pointer (some ⟨g, 0, none⟩)) (hc : tmps.getD u undef = c) (hb : Blk W g 24 cs) :
    (results fn tmps).run Tryd.prog W = .ok (.tuple #[.agg cs, c]) W := by
  have hl := run_loadVar_row (P := Tryd.prog) W g 24 24 cs (0, 0) _ hb Tryd.underlying24 rfl (size_hash hs)
  rw [results_cell_tmp h, hp, hc]
  simp [asAddr, Result.andThen, hl]
end Go.Proofs.YtdhfabjkpffhnaaDoor

