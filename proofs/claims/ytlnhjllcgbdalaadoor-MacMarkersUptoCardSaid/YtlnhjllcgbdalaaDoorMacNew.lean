/- The program's markers: made, written to, marked. -/
import Derived.Test.YtlnhjllcgbdalaaDoorMacBehind
namespace Go.Proofs.YtlnhjllcgbdalaaDoor
open Go.RowKit ShaMath MacMath Reg

/-- 'copy(m.key[:], key)'. -/
theorem copy_key {W : World} {g : Nat} {st : Array Value} (hb : Blk W g 37 (mkC zero64 st)) (es : st.size = 73) (a : Option Addr) (n cap : Nat) (l : List UInt8) (hl : Bys W (.slice a n cap) l) (hlen : l.length = n) (h64 : n ≤ 64) :
    ∃ W', (Builtin.copy_ #[22, 22] 3 #[.slice (some ⟨g, 0, none⟩) 64 64, .slice a n cap]).run Tryd.prog W = .ok (.int .i64 (n : Int)) W' ∧ Blk W' g 37 (mkC (put zero64 0 l) st) ∧
      (∀ g' t cs, g' ≠ g → Blk W g' t cs → Blk W' g' t cs) ∧ (∀ w B, B ≤ g → Below B w W → Below B w W') := by
  rcases hl with ⟨e, rfl⟩ | ⟨ad, c, e, hc⟩
  · simp at e
    obtain ⟨rfl, rfl, rfl⟩ := e
    refine ⟨W, run_copy_none (P := Tryd.prog) W _ _ _ 5 _ _ 64 64 0 0 Tryd.underlying22 (by kernel_rfl) (by simp), ?_, fun _ _ _ _ h => h, fun _ _ _ h => h⟩
    simpa [put] using hb
  · simp at e
    obtain ⟨rfl, -, rfl⟩ := e
    have hm : Nat.min n 64 = n := Nat.min_eq_left h64
    have h1 := run_copy_row (P := Tryd.prog) W 22 22 3 5 g 0 64 64 ad n cap (mkC zero64 st) 37 (l.map bv) Tryd.underlying22 (by kernel_rfl) hb
      (by rw [List.length_map, hlen, hm]) (cells_bys hc) (by rw [List.length_map, hlen, mkC_size rfl es]; omega) (one_bv _)
    have h2 := mkC_setKey (k := zero64) (st := st) rfl l (by omega)
    unfold patch at h2
    rw [h2, List.length_map, hlen] at h1
    exact ⟨_, h1, hb.row _, fun g' t cs hne h => h.rowOther _ hne, fun w B hB h => below_setRow h _ _ hB⟩

theorem bys_len {W : World} {a : Option Addr} {n cap : Nat} {l : List UInt8} (h : Bys W (.slice a n cap) l) : l.length = n := by
  rcases h with ⟨e, rfl⟩ | ⟨ad, c, e, _⟩
  · simp at e
    rw [e.2.1]
    rfl
  · simp at e
    exact e.2.1.symm

theorem new_any (key : List UInt8) (a : Option Addr) (len cap : Nat) (w : World) (hv : Bys w (.slice a len cap) key) (hcap : len ≤ cap) (hl : len ≤ 1125899906842624) (ht : Tabs w) :
    Calls Tryd.prog 12 #[.slice a len cap] w fun e w' => ∃ v, e = .returned v ∧ IsMarker v (kb key) [] ∧ Below w.heap.size w w' := by
  have hlen := bys_len hv
  have HV := Lib.hid hv
  have HLen := Lib.hid hlen
  have HT := Lib.hid ht
  clear hv hlen ht
  obtain ⟨zm, hzv, hzs, hze⟩ := zero_marker_run
  have HZs := Lib.hid hzs
  have HZe := Lib.hid hze
  have HZl : Hid (zeroState.size = 73) := Lib.hid (by kernel_rfl)
  clear hzs hze
  go_enter Tryd.func12, Tryd.ntmps12
  go_upto_region 2 with fail
  refine world_cut (fun W => Blk W (w.heap.size + 1) 37 (mkC zero64 zeroState) ∧ (∃ zs, Blk W w.heap.size 37 zs ∧ zs.size = 137) ∧ Below w.heap.size w W ∧ w.heap.size + 2 ≤ W.heap.size) ?_ ?_
  · exact ⟨Blk.newAt _ _ _ _ _ (by simp) (by rw [HZe.out]; rfl), ⟨_, (Blk.new _ _ _).alloc _, HZs.out⟩, ((Below.refl _ _).alloc (Nat.le_refl _) _).alloc (by simp) _, by simp⟩
  clear hzv HZs HZe
  rintro W1 ⟨h1, h2, h3, h4⟩
  have HM := Lib.hid h1
  have HZ := Lib.hid h2
  have HB := Lib.hid h3
  clear h1 h2 h3
  by_cases hlong : 64 < len
  · have hkey : keyL key = ShaMath.hash key := by rw [keyL, if_pos (by rw [HLen.out]; exact hlong)]
    obtain ⟨hs, hhs⟩ : ∃ hs, hs = bs (ShaMath.hash key) := ⟨_, rfl⟩
    have hsum := sum_any key a len cap W1 (HV.out.below (Nat.le_refl _) HB.out) hcap (by rw [HLen.out]; exact hl) (HT.out.below (Nat.le_refl _) HB.out).1 (HT.out.below (Nat.le_refl _) HB.out).2
    rw [← hhs] at hsum
    have hsl32 : hs.size = 32 := by rw [hhs, bs_size, hash_length]
    have HKey := Lib.hid hkey
    have HHs := Lib.hid hhs
    have HSum := Lib.hid hsum
    have HS32 := Lib.hid hsl32
    have hone : hs.all (·.oneCell') = true := by rw [hhs]; exact bs_one _
    have HOneH := Lib.hid hone
    clear hkey hhs hsum hsl32 hone
    go_wp2_with fail
    refine HSum.out.mono ?_
    rintro e w2 ⟨rfl, hb2⟩
    have hs2 := hb2.size
    have HM2 := Lib.hid (HM.out.keep hb2)
    have HZ2 := Lib.hid (show ∃ zs, Blk w2 w.heap.size 37 zs ∧ zs.size = 137 by
      obtain ⟨zs, h1, h2⟩ := HZ.out
      exact ⟨zs, h1.keep hb2, h2⟩)
    have HB2 := Lib.hid (HB.out.trans (hb2.mono HB.out.size))
    clear hb2 HM HZ HB HSum
    have hsz : (Tryd.prog.info? 26).map (·.size) = some hs.size := by rw [HS32.out]; kernel_rfl
    have HSzH := Lib.hid hsz
    clear hsz
    go_upto_region 4 with (refine wpList_store_row rfl 26 (.tmp 4) (.tmp 9) rfl w2.heap.size hs rfl rfl 26 _ (heap_alloc_new w2 _) HSzH.out (by rw [HS32.out]; rfl) HOneH.out ?_)
    refine world_cut (fun W => Blk W (w.heap.size + 1) 37 (mkC zero64 zeroState) ∧ (∃ zs, Blk W w.heap.size 37 zs ∧ zs.size = 137) ∧ Below w.heap.size w W ∧ w.heap.size + 2 ≤ W.heap.size ∧ Blk W w2.heap.size 26 hs) ?_ ?_
    · refine ⟨(HM2.out.alloc _).rowOther _ (by omega), ?_, below_setRow (HB2.out.alloc (by omega) _) _ _ (by omega), by simp; omega, Blk.row (Blk.new w2 _ _) hs⟩
      obtain ⟨zs, h1, h2⟩ := HZ2.out
      exact ⟨zs, (h1.alloc _).rowOther _ (by omega), h2⟩
    obtain ⟨g4, hg4⟩ : ∃ g4, g4 = w2.heap.size := ⟨_, rfl⟩
    rw [← hg4]
    clear hg4 HM2 HZ2 HB2
    rintro W3 ⟨h1, h2, h3, h5, h6⟩
    have hby : Bys W3 (.slice (some ⟨g4, 0, none⟩) 32 32) (keyL key) := by
      rw [HHs.out] at h6
      rw [HKey.out]
      exact h6.bysOf 32 32 (hash_length _)
    have HM := Lib.hid h1
    have HZ := Lib.hid h2
    have HB := Lib.hid h3
    have HBy := Lib.hid hby
    have HKl : Hid ((keyL key).length = 32) := Lib.hid (by rw [HKey.out]; exact hash_length _)
    clear h1 h2 h3 h6 hby
    have hsl0 := slice_hash_all g4
    go_upto_region 5 with fail
    clear hsl0
    have hcp := copy_key (HM.out) HZl.out (some ⟨g4, 0, none⟩) 32 32 (keyL key) HBy.out HKl.out (by decide)
    obtain ⟨W5, hr5, hm5, ho5, hb5⟩ := hcp
    have HR5 := Lib.hid hr5
    have HM5 := Lib.hid hm5
    have HZ5 := Lib.hid (show ∃ zs, Blk W5 w.heap.size 37 zs ∧ zs.size = 137 by
      obtain ⟨zs, h1, h2⟩ := HZ.out
      exact ⟨zs, ho5 _ _ _ (by omega) h1, h2⟩)
    have HB5 := Lib.hid (hb5 w _ (by omega) HB.out)
    clear hr5 hm5 ho5 hb5
    have hsl := slice_key (w.heap.size + 1)
    go_upto_region 6 with (refine wpList_copy_by rfl (.tmp 12) (.tmp 13) 22 rfl (.slice (some ⟨w.heap.size + 1, 0, none⟩) 64 64) (.slice (some ⟨g4, 0, none⟩) 32 32) (.int .i64 ((32 : Nat) : Int)) W5 rfl rfl HR5.out ?_)
    clear hsl
    obtain ⟨zs, hz1, hz2⟩ := HZ5.out
    obtain ⟨mc, hmc⟩ : ∃ mc, mc = mkC (kb key) zeroState := ⟨_, rfl⟩
    have hM := HM5.out
    rw [kb_put, ← hmc] at hM
    have hcl : mc.size = 137 := by rw [hmc]; exact mkC_size (kb_length key) (by kernel_rfl)
    have hone : mc.all (·.oneCell') = true := by rw [hmc]; exact mkC_one fun u hu => stL_one _ _ _ u (by simpa [zeroState, stC] using hu)
    have hsz2 : (Tryd.prog.info? 37).map (·.size) = some mc.size := by rw [hcl]; kernel_rfl
    have HMc := Lib.hid hM
    have HZ1 := Lib.hid hz1
    have HSz := Lib.hid (hz2.trans hcl.symm)
    have HSz2 := Lib.hid hsz2
    have HOne := Lib.hid hone
    have HMK := Lib.hid hmc
    clear hM hz1 hz2 hcl hone hsz2 hmc
    go_wp2_with (first
      | (refine wpList_load_row rfl 37 (.tmp 3) rfl (w.heap.size + 1) rfl _ _ _ _ HMc.out Tryd.underlying37 rfl HSz2.out ?_)
      | (refine wpList_store_row rfl 37 (.tmp 2) (.tmp 15) rfl w.heap.size mc rfl rfl _ _ HZ1.out HSz2.out HSz.out HOne.out ?_))
    exact bodyPost_ret (v := .agg mc) (results_cell_row rfl _ _ w.heap.size _ mc _ _ rfl (HZ1.out.row mc) Tryd.underlying37 rfl HSz2.out) rfl ⟨_, rfl, ⟨zeroState, by rw [HMK.out], kb_length key, by kernel_rfl, fun u hu => stL_one _ _ _ u (by simpa [zeroState, stC] using hu), List.replicate 8 0#32, List.replicate 64 0, rfl, goodS_nil⟩, below_setRow HB5.out _ _ (Nat.le_refl _)⟩
  · have hkey : keyL key = key := by rw [keyL, if_neg (by rw [HLen.out]; exact hlong)]
    have hby : Bys W1 (.slice a len cap) (keyL key) := by
      rw [hkey]
      exact HV.out.below (Nat.le_refl _) HB.out
    have HBy := Lib.hid hby
    have HKl : Hid ((keyL key).length = len) := Lib.hid (by rw [hkey]; exact HLen.out)
    clear hby hkey
    go_upto_region 5 with fail
    have hcp := copy_key (HM.out) HZl.out a len cap (keyL key) HBy.out HKl.out (by omega)
    obtain ⟨W5, hr5, hm5, ho5, hb5⟩ := hcp
    have HR5 := Lib.hid hr5
    have HM5 := Lib.hid hm5
    have HZ5 := Lib.hid (show ∃ zs, Blk W5 w.heap.size 37 zs ∧ zs.size = 137 by
      obtain ⟨zs, h1, h2⟩ := HZ.out
      exact ⟨zs, ho5 _ _ _ (by omega) h1, h2⟩)
    have HB5 := Lib.hid (hb5 w _ (by omega) HB.out)
    clear hr5 hm5 ho5 hb5
    have hsl := slice_key (w.heap.size + 1)
    go_upto_region 6 with (refine wpList_copy_by rfl (.tmp 12) (.tmp 13) 22 rfl (.slice (some ⟨w.heap.size + 1, 0, none⟩) 64 64) (.slice a len cap) (.int .i64 ((len : Nat) : Int)) W5 rfl rfl HR5.out ?_)
    clear hsl
    obtain ⟨zs, hz1, hz2⟩ := HZ5.out
    obtain ⟨mc, hmc⟩ : ∃ mc, mc = mkC (kb key) zeroState := ⟨_, rfl⟩
    have hM := HM5.out
    rw [kb_put, ← hmc] at hM
    have hcl : mc.size = 137 := by rw [hmc]; exact mkC_size (kb_length key) (by kernel_rfl)
    have hone : mc.all (·.oneCell') = true := by rw [hmc]; exact mkC_one fun u hu => stL_one _ _ _ u (by simpa [zeroState, stC] using hu)
    have hsz2 : (Tryd.prog.info? 37).map (·.size) = some mc.size := by rw [hcl]; kernel_rfl
    have HMc := Lib.hid hM
    have HZ1 := Lib.hid hz1
    have HSz := Lib.hid (hz2.trans hcl.symm)
    have HSz2 := Lib.hid hsz2
    have HOne := Lib.hid hone
    have HMK := Lib.hid hmc
    clear hM hz1 hz2 hcl hone hsz2 hmc
    go_wp2_with (first
      | (refine wpList_load_row rfl 37 (.tmp 3) rfl (w.heap.size + 1) rfl _ _ _ _ HMc.out Tryd.underlying37 rfl HSz2.out ?_)
      | (refine wpList_store_row rfl 37 (.tmp 2) (.tmp 15) rfl w.heap.size mc rfl rfl _ _ HZ1.out HSz2.out HSz.out HOne.out ?_))
    exact bodyPost_ret (v := .agg mc) (results_cell_row rfl _ _ w.heap.size _ mc _ _ rfl (HZ1.out.row mc) Tryd.underlying37 rfl HSz2.out) rfl ⟨_, rfl, ⟨zeroState, by rw [HMK.out], kb_length key, by kernel_rfl, fun u hu => stL_one _ _ _ u (by simpa [zeroState, stC] using hu), List.replicate 8 0#32, List.replicate 64 0, rfl, goodS_nil⟩, below_setRow HB5.out _ _ (Nat.le_refl _)⟩
end Go.Proofs.YtlnhjllcgbdalaaDoor
