/- Bytes written to a marker. -/
import Derived.Test.YtlnhjllcgbdalaaDoorMacNew
namespace Go.Proofs.YtlnhjllcgbdalaaDoor
open Go.RowKit ShaMath MacMath Reg

theorem IsState.all_one {cs : Array Value} (h : ∀ u ∈ cs.toList, u.oneCell' = true) : cs.all (·.oneCell') = true := by
  rw [Array.all_eq_true_iff_forall_mem]
  exact fun v hv => h v (by simpa using hv)

theorem mwrite_any (v : Value) (k t m : List UInt8) (a : Option Addr) (len cap : Nat) (w : World) (hv : IsMarker v k t) (hm : Bys w (.slice a len cap) m) (hcap : len ≤ cap) (hl : t.length ≤ 1000000000000000) (hlm : m.length ≤ 1000000000000000) (ht : Tabs w) :
    Calls Tryd.prog 13 #[v, .slice a len cap] w fun e w' => ∃ v, e = .returned v ∧ IsMarker v k (t ++ m) ∧ Below w.heap.size w w' := by
  have hlen := bys_len hm
  have hv0 := hv
  obtain ⟨st, rfl, ek, es, e1, hst⟩ := hv
  have hmz := mkC_size ek es
  have hset := fun st' (h : st'.size = 73) => mkC_setInner (st := st) ek es st' h
  have hbeg := fun W hW => begun_any (.agg (mkC k st)) k t W hv0 (by omega) hW
  have hone := mkC_one (k := k) e1
  obtain ⟨mc, hmc⟩ : ∃ mc, mc = mkC k st := ⟨_, rfl⟩
  rw [← hmc] at hmz hset hbeg hv0 hone ⊢
  have hszm : (Tryd.prog.info? 37).map (·.size) = some mc.size := by rw [hmz]; kernel_rfl
  have HV := Lib.hid hm
  have HLen := Lib.hid hlen
  have HT := Lib.hid ht
  have HMz := Lib.hid hmz
  have HSet := Lib.hid hset
  have HBeg := Lib.hid hbeg
  have HV0 := Lib.hid hv0
  have HOne := Lib.hid hone
  have HSzm := Lib.hid hszm
  have HEk := Lib.hid ek
  clear hm hlen ht hmz hset hbeg hv0 hone hszm ek es e1 hst hmc
  obtain ⟨zm, hzv, hzs, -⟩ := zero_marker_run
  have HZs := Lib.hid hzs
  clear hzs
  go_enter Tryd.func13, Tryd.ntmps13
  go_upto_region 1 with fail
  refine world_cut (fun W => Blk W w.heap.size 37 mc ∧ (∃ zs, Blk W (w.heap.size + 1) 37 zs ∧ zs.size = 137) ∧ Below w.heap.size w W) ?_ ?_
  · exact ⟨(Blk.new _ _ _).alloc _, ⟨_, Blk.newAt _ _ _ _ _ (by simp) rfl, HZs.out⟩, ((Below.refl _ _).alloc (Nat.le_refl _) _).alloc (by simp) _⟩
  clear hzv HZs
  rintro W1 ⟨h1, h2, h3⟩
  have HM := Lib.hid h1
  have HZ := Lib.hid h2
  have HB := Lib.hid h3
  clear h1 h2 h3
  by_cases hpos : 0 < len
  · go_wp2_with (refine wpList_load_row rfl 37 (.tmp 2) rfl w.heap.size rfl _ _ _ _ HM.out Tryd.underlying37 rfl HSzm.out ?_)
    refine (HBeg.out W1 (HT.out.below (Nat.le_refl _) HB.out)).mono ?_
    rintro e w2 ⟨v2, rfl, hv2, hb2⟩
    have hB2 := HB.out.trans (hb2.mono HB.out.size)
    have HM2 := Lib.hid (HM.out.keep hb2)
    have HZ2 := Lib.hid (show ∃ zs, Blk w2 (w.heap.size + 1) 37 zs ∧ zs.size = 137 by
      obtain ⟨zs, h1, h2⟩ := HZ.out
      exact ⟨zs, h1.keep hb2, h2⟩)
    have hwr := write_any v2 (xr k 0x36 ++ t) m a len cap w2 hv2 (HV.out.below (Nat.le_refl _) hB2) hcap (by rw [List.length_append, xr_length, HEk.out]; omega) (HT.out.below (Nat.le_refl _) hB2).1 (HT.out.below (Nat.le_refl _) hB2).2
    have HWr := Lib.hid hwr
    have HB2 := Lib.hid hB2
    clear hv2 hb2 hB2 hwr HM HZ HB
    go_wp2_with fail
    refine HWr.out.mono ?_
    rintro e w3 ⟨v3, rfl, hv3, hb3⟩
    obtain ⟨cs, rfl, hcl, h1⟩ := hv3.form
    have hm3 := HM2.out.keep hb3
    have hB3 := HB2.out.trans (hb3.mono HB2.out.size)
    have hZ3 : ∃ zs, Blk w3 (w.heap.size + 1) 37 zs ∧ zs.size = 137 := by
      obtain ⟨zs, h1, h2⟩ := HZ2.out
      exact ⟨zs, h1.keep hb3, h2⟩
    have hsto := hm3.storesAt (P := Tryd.prog) 35 64 cs.toList (by rw [Array.length_toList, hcl]; kernel_rfl) (by rw [HMz.out, Array.length_toList, hcl]; decide) h1
    rw [HSet.out cs hcl] at hsto
    obtain ⟨m2, hm2⟩ : ∃ m2, m2 = mkC k cs := ⟨_, rfl⟩
    rw [← hm2] at hsto
    have hm2z : m2.size = 137 := by rw [hm2]; exact mkC_size HEk.out hcl
    have hm2o : m2.all (·.oneCell') = true := by rw [hm2]; exact mkC_one h1
    have HSto := Lib.hid hsto
    have HM3 := Lib.hid (hm3.row m2)
    obtain ⟨zs, hz1, hz2⟩ := hZ3
    have HZ1 := Lib.hid (hz1.rowOther (k := w.heap.size) m2 (by omega))
    have HB3 := Lib.hid (below_setRow hB3 w.heap.size m2 (Nat.le_refl _))
    have HV3 : Hid (IsMarker (.agg m2) k (t ++ m)) := Lib.hid ⟨cs, by rw [hm2], HEk.out, hcl, h1, by
      have hne : m ≠ [] := fun h => by have := HLen.out; rw [h] at this; simp at this; omega
      rw [inner_ne k (by simp [hne]), ← List.append_assoc]
      exact hv3⟩
    have hszm2 : (Tryd.prog.info? 37).map (·.size) = some m2.size := by rw [hm2z]; kernel_rfl
    have HSz := Lib.hid (hz2.trans hm2z.symm)
    have HSz2 := Lib.hid hszm2
    have HOne2 := Lib.hid hm2o
    clear hv3 hcl h1 hb3 hm3 hB3 hsto hm2 hm2z hm2o hz1 hz2 hszm2 HM2 HZ2 HWr
    go_upto_region 3 with (refine wpList_store_by rfl 35 (.tmp 12) (.tmp 11) rfl _ _ rfl rfl _ HSto.out ?_)
    go_wp2_with (first
      | (refine wpList_load_row rfl 37 (.tmp 2) rfl w.heap.size rfl _ _ _ _ HM3.out Tryd.underlying37 rfl HSz2.out ?_)
      | (refine wpList_store_row rfl 37 (.tmp 4) (.tmp 13) rfl (w.heap.size + 1) m2 rfl rfl _ _ HZ1.out HSz2.out HSz.out HOne2.out ?_))
    exact bodyPost_ret (v := .agg m2) (results_cell_row rfl _ _ (w.heap.size + 1) _ m2 _ _ rfl (HZ1.out.row m2) Tryd.underlying37 rfl HSz2.out) rfl ⟨_, rfl, HV3.out, below_setRow HB3.out _ _ (by omega)⟩
  · have hm0 : m = [] := List.eq_nil_of_length_eq_zero (by have := HLen.out; omega)
    obtain ⟨zs, hz1, hz2⟩ := HZ.out
    have HZ1 := Lib.hid hz1
    have HSz := Lib.hid (hz2.trans HMz.out.symm)
    have HM0 := Lib.hid hm0
    clear hz1 hz2 hm0
    go_wp2_with (first
      | (refine wpList_load_row rfl 37 (.tmp 2) rfl w.heap.size rfl _ _ _ _ HM.out Tryd.underlying37 rfl HSzm.out ?_)
      | (refine wpList_store_row rfl 37 (.tmp 4) (.tmp 13) rfl (w.heap.size + 1) mc rfl rfl _ _ HZ1.out HSzm.out HSz.out HOne.out ?_))
    exact bodyPost_ret (v := .agg mc) (results_cell_row rfl _ _ (w.heap.size + 1) _ mc _ _ rfl (HZ1.out.row mc) Tryd.underlying37 rfl HSzm.out) rfl ⟨_, rfl, by rw [HM0.out, List.append_nil]; exact HV0.out, below_setRow HB.out _ _ (by omega)⟩
end Go.Proofs.YtlnhjllcgbdalaaDoor
