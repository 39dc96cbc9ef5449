/- The program's empty root, its leaves and its nodes. -/
import Derived.Test.YtbabpbdenebagaaDoorLeafHash
import Derived.Test.YtbabpbdenebagaaDoorShaTabs
namespace Go.Proofs.YtbabpbdenebagaaDoor
set_option maxRecDepth 20000
open Go.RowKit ShaMath LeafMath Reg

theorem IsState.cells {v : Value} {l : List UInt8} (h : IsState v l) : ∃ cs : Array Value, v = .agg cs ∧ cs.size = 73 ∧ cs.all (·.oneCell') = true := by
  obtain ⟨hh, r, rfl, hg⟩ := h
  exact ⟨_, rfl, stC_size _ hg.1 hg.2.1, stC_one _ _ _⟩
theorem size_state {cs : Array Value} (h : cs.size = 73) : (Tryd.prog.info? 53).map (·.size) = some cs.size := by rw [h]; kernel_rfl

set_option maxRecDepth 100000 in
theorem empty_any (n : Int) (w : World) (hn : I64 n) (ht : Tabs w) :
    Calls Tryd.prog 10 #[.int .i64 n] w fun e w' => e = .returned (.agg (bs (emptyH n))) ∧ Below w.heap.size w w' := by
  have hb0 : ∀ o, Below w.heap.size w (w.alloc o) := fun o => (Below.refl _ _).alloc (Nat.le_refl _) o
  obtain ⟨h0, hh0⟩ : ∃ h0, h0 = ShaMath.hash [] := ⟨_, rfl⟩
  obtain ⟨cs, hcs, hcl, hone⟩ := hash_cells (emptyH n) (emptyH_length _)
  have HSum := Lib.hid (fun o => sum_any [] none 0 0 (w.alloc o) (.inl ⟨rfl, rfl⟩) (Nat.le_refl _) (by decide) (ht.below (Nat.le_refl _) (hb0 o)).1 (ht.below (Nat.le_refl _) (hb0 o)).2)
  have HNar := Lib.hid (fun W => narrow_any h0 n W (by rw [hh0]; exact hash_length []) hn)
  rw [show narrowL h0 n = emptyH n by rw [hh0]; rfl, ← hcs] at HNar
  rw [← hh0] at HSum
  rw [← hcs]
  have HB0 := Lib.hid hb0
  have HSz := Lib.hid (size_hash hcl)
  have HOne := Lib.hid hone
  have HCl := Lib.hid hcl
  clear hn ht hh0 hcs hcl hone hb0
  go_enter Tryd.func10, Tryd.ntmps10
  go_wp2_with fail
  refine (HSum.out _).mono ?_
  rintro e w1 ⟨rfl, hb1⟩
  have HB1 := Lib.hid hb1
  clear hb1 HSum
  go_wp2_with fail
  refine (HNar.out _).mono ?_
  rintro e w2 ⟨rfl, hb2⟩
  have HB2 := Lib.hid (HB1.out.trans (hb2.mono HB1.out.size))
  clear hb2 HNar HB1
  go_wp2_with (refine wpList_store_row rfl 24 (.tmp 2) (.tmp 5) rfl w.heap.size cs rfl rfl 24 _ ((Blk.new w _ _).keep HB2.out) HSz.out (by rw [HCl.out]; rfl) HOne.out ?_)
  exact bodyPost_ret (v := .agg cs) (results_cell_row rfl _ _ w.heap.size 24 cs (0, 0) _ rfl (Blk.row ((Blk.new w _ _).keep HB2.out) cs) Tryd.underlying24 rfl HSz.out) rfl ⟨rfl, below_setRow ((HB0.out _).trans (HB2.out.mono (by simp))) _ _ (Nat.le_refl _)⟩

set_option maxRecDepth 100000 in
theorem leaf_any (n : Int) (l : List UInt8) (a : Option Addr) (len cap : Nat) (w : World) (hn : I64 n) (hv : Bys w (.slice a len cap) l) (hcap : len ≤ cap) (hl : l.length ≤ 140737488352000) (ht : Tabs w) :
    Calls Tryd.prog 12 #[.int .i64 n, .slice a len cap] w fun e w' => e = .returned (.agg (bs (leafH n l))) ∧ Below w.heap.size w w' := by
  obtain ⟨h0, hh0⟩ : ∃ h0, h0 = ShaMath.hash (0 :: l) := ⟨_, rfl⟩
  obtain ⟨cs, hcs, hcl, hone⟩ := hash_cells (leafH n l) (leafH_length _ _)
  have HNar := Lib.hid (fun W => narrow_any h0 n W (by rw [hh0]; exact hash_length _) hn)
  rw [show narrowL h0 n = leafH n l by rw [hh0]; rfl, ← hcs] at HNar
  have HW1 := Lib.hid (fun (z : Value) (W : World) (hz : IsState z []) (a1 : Option Addr) (h : Bys W (.slice a1 1 1) [0]) (hw : Tabs W) => write_any z [] [0] a1 1 1 W hz h (Nat.le_refl _) (by decide) hw.1 hw.2)
  have HW2 := Lib.hid (fun (v : Value) (W : World) (h : IsState v [0]) (hb : Below w.heap.size w W) => write_any v [0] l a len cap W h (hv.below (Nat.le_refl _) hb) hcap (by simp only [List.length_cons, List.length_nil]; omega) (ht.below (Nat.le_refl _) hb).1 (ht.below (Nat.le_refl _) hb).2)
  have HSm := Lib.hid (fun (v : Value) (W : World) (h : IsState v ([0] ++ l)) (hb : Below w.heap.size w W) => stateSum_any v ([0] ++ l) W h (by simp only [List.cons_append, List.nil_append, List.length_cons]; omega) (ht.below (Nat.le_refl _) hb).1 (ht.below (Nat.le_refl _) hb).2)
  rw [show ShaMath.hash ([0] ++ l) = h0 by rw [hh0]; rfl] at HSm
  rw [← hcs]
  have HSz := Lib.hid (size_hash hcl)
  have HOne := Lib.hid hone
  have HCl := Lib.hid hcl
  have HT := Lib.hid ht
  clear hn ht hh0 hcs hcl hone hv hl hcap
  obtain ⟨zc, hzc⟩ : ∃ zc, zc = zeroState := ⟨_, rfl⟩
  have hzs : ∀ W, (zeroValue 53).run Tryd.prog W = .ok (.agg zc) W := fun W => by rw [hzc]; kernel_rfl
  have HI : Hid (IsState (.agg zc) []) := Lib.hid ⟨List.replicate 8 0#32, List.replicate 64 0, by rw [hzc]; rfl, goodS_nil⟩
  have hz73 : zc.size = 73 := by rw [hzc]; kernel_rfl
  have HZ73 := Lib.hid hz73
  clear hzc hz73
  go_enter Tryd.func12, Tryd.ntmps12
  go_wp2_with fail
  have hb0 : Below w.heap.size w (w.alloc (.cells (bs (List.replicate 32 0)) 24)) := (Below.refl _ _).alloc (Nat.le_refl _) _
  have hb1 : Below w.heap.size w ((w.alloc (.cells (bs (List.replicate 32 0)) 24)).alloc (.cells #[bv 0] 5)) := hb0.alloc (by simp) _
  have hz0 : Blk ((w.alloc (.cells (bs (List.replicate 32 0)) 24)).alloc (.cells #[bv 0] 5)) w.heap.size 24 (bs (List.replicate 32 0)) := (Blk.new w _ _).alloc _
  have hby := (row_one (w.alloc (.cells (bs (List.replicate 32 0)) 24)) _ 0 (Nat.le_refl _)).bys
  rw [World.size_alloc] at hby
  refine (HW1.out _ _ HI.out _ hby (HT.out.below (Nat.le_refl _) hb1)).mono ?_
  rintro e w1 ⟨v1, rfl, hv1, hb⟩
  have HB1 := Lib.hid (hb1.trans (hb.mono hb1.size))
  have HZ1 := Lib.hid (hz0.keep hb)
  have HV1 := Lib.hid hv1
  clear hb0 hb1 hz0 hb hv1 hby HW1 HI
  go_wp2_with fail
  refine (HW2.out _ _ HV1.out HB1.out).mono ?_
  rintro e w2 ⟨v2, rfl, hv2, hb⟩
  obtain ⟨st, rfl, hst, hsone⟩ := hv2.cells
  have HB2 := Lib.hid (HB1.out.trans (hb.mono HB1.out.size))
  have HZ2 := Lib.hid (HZ1.out.keep hb)
  have HV2 := Lib.hid hv2
  have HSt := Lib.hid hst
  have HSs := Lib.hid (size_state hst)
  have HSo := Lib.hid hsone
  have hs2 := HZ2.out.lt
  clear hb hv2 hst hsone HB1 HZ1 HV1 HW2
  go_upto_region 2 with (refine wpList_store_row rfl 53 (.tmp 5) (.tmp 10) rfl w2.heap.size st rfl rfl 53 _ (Blk.new w2 _ _) HSs.out (by rw [HZ73.out, HSt.out]) HSo.out ?_)
  refine world_cut (fun W => Blk W w2.heap.size 53 st ∧ Blk W w.heap.size 24 (bs (List.replicate 32 0)) ∧ Below w.heap.size w W) ⟨Blk.row (Blk.new w2 _ _) _, (HZ2.out.alloc _).rowOther _ (by omega), below_setRow (HB2.out.alloc HB2.out.size _) _ _ HB2.out.size⟩ ?_
  rintro W ⟨k1, k2, k3⟩
  have K1 := Lib.hid k1
  have K2 := Lib.hid k2
  have K3 := Lib.hid k3
  clear k1 k2 k3 hzs HB2 HZ2
  go_wp2_with (refine wpList_load_row rfl 53 (.tmp 5) rfl w2.heap.size rfl _ _ _ _ K1.out Tryd.underlying53 rfl HSs.out ?_)
  refine (HSm.out _ _ HV2.out K3.out).mono ?_
  rintro e w3 ⟨rfl, hb⟩
  have HB3 := Lib.hid (K3.out.trans (hb.mono K3.out.size))
  have HZ3 := Lib.hid (K2.out.keep hb)
  clear hb K1 K2 K3
  go_wp2_with fail
  refine (HNar.out _).mono ?_
  rintro e w4 ⟨rfl, hb⟩
  have HB4 := Lib.hid (HB3.out.trans (hb.mono HB3.out.size))
  have HZ4 := Lib.hid (HZ3.out.keep hb)
  clear hb HB3 HZ3
  go_wp2_with (refine wpList_store_row rfl 24 (.tmp 4) (.tmp 14) rfl w.heap.size cs rfl rfl 24 _ HZ4.out HSz.out (by rw [HCl.out]; rfl) HOne.out ?_)
  exact bodyPost_ret (v := .agg cs) (results_cell_row rfl _ _ w.heap.size 24 cs (0, 0) _ rfl (Blk.row HZ4.out cs) Tryd.underlying24 rfl HSz.out) rfl ⟨rfl, below_setRow HB4.out _ _ (Nat.le_refl _)⟩
end Go.Proofs.YtbabpbdenebagaaDoor
