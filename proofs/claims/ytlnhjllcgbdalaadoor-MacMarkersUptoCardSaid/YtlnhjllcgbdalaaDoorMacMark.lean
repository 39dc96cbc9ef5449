/- The program's marks. -/
import Derived.Test.YtlnhjllcgbdalaaDoorMacWrite
namespace Go.Proofs.YtlnhjllcgbdalaaDoor
open Go.RowKit ShaMath MacMath Reg

set_option maxRecDepth 100000 in
theorem mmark_any (v : Value) (k t : List UInt8) (w : World) (hv : IsMarker v k t) (hl : t.length ≤ 1000000000000000) (ht : Tabs w) :
    Calls Tryd.prog 14 #[v] w fun e w' => e = .returned (.agg (bs (mark0 k t))) ∧ Below w.heap.size w w' := by
  have hv0 := hv
  obtain ⟨st, rfl, ek, es, e1, hst⟩ := hv
  have hmz := mkC_size ek es
  have hbeg := fun W hW => begun_any (.agg (mkC k st)) k t W hv0 (by omega) hW
  have hbh := fun W hW => behind_any k st 0x5c W ek es hW
  obtain ⟨mc, hmc⟩ : ∃ mc, mc = mkC k st := ⟨_, rfl⟩
  rw [← hmc] at hmz hbeg hbh ⊢
  have hszm : (Tryd.prog.info? 37).map (·.size) = some mc.size := by rw [hmz]; kernel_rfl
  obtain ⟨M, hM⟩ : ∃ M, M = mark0 k t := ⟨_, rfl⟩
  rw [← hM]
  have hMl : M.length = 32 := by rw [hM]; exact mark0_length k t
  have HMl := Lib.hid hMl
  have HMe := Lib.hid hM
  clear hM hMl
  have HT := Lib.hid ht
  have HBeg := Lib.hid hbeg
  have HBh := Lib.hid hbh
  have HSzm := Lib.hid hszm
  have HEk := Lib.hid ek
  clear ht hmz hbeg hbh hszm ek es e1 hst hmc hv0
  go_enter Tryd.func14, Tryd.ntmps14
  go_upto_region 1 with fail
  refine world_cut (fun W => Blk W w.heap.size 37 mc ∧ (∃ zs, Blk W (w.heap.size + 1) 26 zs ∧ zs.size = 32) ∧ Below w.heap.size w W) ?_ ?_
  · exact ⟨(Blk.new _ _ _).alloc _, ⟨_, Blk.newAt _ _ _ _ _ (by simp) rfl, rfl⟩, ((Below.refl _ _).alloc (Nat.le_refl _) _).alloc (by simp) _⟩
  rintro W1 ⟨h1, h2, h3⟩
  have HM := Lib.hid h1
  have HZ := Lib.hid h2
  have HB := Lib.hid h3
  clear h1 h2 h3
  go_wp2_with (refine wpList_load_row rfl 37 (.tmp 1) rfl w.heap.size rfl _ _ _ _ HM.out Tryd.underlying37 rfl HSzm.out ?_)
  refine (HBeg.out W1 (HT.out.below (Nat.le_refl _) HB.out)).mono ?_
  rintro e w2 ⟨v2, rfl, hv2, hb2⟩
  have hB2 := HB.out.trans (hb2.mono HB.out.size)
  obtain ⟨h1, hh1⟩ : ∃ h1, h1 = ShaMath.hash (xr k 0x36 ++ t) := ⟨_, rfl⟩
  have hh32 : h1.length = 32 := by rw [hh1, hash_length]
  have hmk : M = ShaMath.hash (xr k 0x5c ++ h1) := by rw [HMe.out, hh1]; rfl
  obtain ⟨hs, hhs⟩ : ∃ hs, hs = bs h1 := ⟨_, rfl⟩
  have hsm := stateSum_any v2 (xr k 0x36 ++ t) w2 hv2 (by rw [List.length_append, xr_length, HEk.out]; omega) (HT.out.below (Nat.le_refl _) hB2).1 (HT.out.below (Nat.le_refl _) hB2).2
  rw [← hh1, ← hhs] at hsm
  have hs32 : hs.size = 32 := by rw [hhs, bs_size, hh32]
  have hsone : hs.all (·.oneCell') = true := by rw [hhs]; exact bs_one _
  have hszh : (Tryd.prog.info? 26).map (·.size) = some hs.size := by rw [hs32]; kernel_rfl
  have HM2 := Lib.hid (HM.out.keep hb2)
  have HZ2 := Lib.hid (show ∃ zs, Blk w2 (w.heap.size + 1) 26 zs ∧ zs.size = 32 by
    obtain ⟨zs, h1, h2⟩ := HZ.out
    exact ⟨zs, h1.keep hb2, h2⟩)
  have HB2 := Lib.hid hB2
  have HSm := Lib.hid hsm
  have HHs := Lib.hid hhs
  have HH32 := Lib.hid hh32
  have HMk := Lib.hid hmk
  have HS32 := Lib.hid hs32
  have HSone := Lib.hid hsone
  have HSzh := Lib.hid hszh
  clear hv2 hb2 hB2 hsm hhs hh32 hmk hs32 hsone hszh hh1 HM HZ HB
  go_wp2_with fail
  refine HSm.out.mono ?_
  rintro e w3 ⟨rfl, hb3⟩
  have hs3 := hb3.size
  have HM3 := Lib.hid (HM2.out.keep hb3)
  have HZ3 := Lib.hid (show ∃ zs, Blk w3 (w.heap.size + 1) 26 zs ∧ zs.size = 32 by
    obtain ⟨zs, h1, h2⟩ := HZ2.out
    exact ⟨zs, h1.keep hb3, h2⟩)
  have HB3 := Lib.hid (HB2.out.trans (hb3.mono HB2.out.size))
  have hsw : w.heap.size + 2 ≤ w3.heap.size := by
    obtain ⟨zs, h1, _⟩ := HZ3.out
    have := h1.lt
    omega
  clear hb3 HM2 HZ2 HB2 HSm
  go_upto_region 2 with (refine wpList_store_row rfl 26 (.tmp 3) (.tmp 6) rfl w3.heap.size hs rfl rfl 26 _ (heap_alloc_new w3 _) HSzh.out (by rw [HS32.out]; rfl) HSone.out ?_)
  obtain ⟨g3, hg3⟩ : ∃ g3, g3 = w3.heap.size := ⟨_, rfl⟩
  have hG : ∀ W W' : World, (Blk W w.heap.size 37 mc ∧ Blk W g3 26 hs ∧ (∃ zs, Blk W (w.heap.size + 1) 26 zs ∧ zs.size = 32) ∧ Below w.heap.size w W) → Below W.heap.size W W' → (Blk W' w.heap.size 37 mc ∧ Blk W' g3 26 hs ∧ (∃ zs, Blk W' (w.heap.size + 1) 26 zs ∧ zs.size = 32) ∧ Below w.heap.size w W') := fun W W' hW hb => by
    obtain ⟨h1, h2, ⟨zs, h3, h4⟩, h5⟩ := hW
    exact ⟨h1.keep hb, h2.keep hb, ⟨zs, h3.keep hb, h4⟩, h5.trans (hb.mono h5.size)⟩
  refine world_cut (fun W => Blk W w.heap.size 37 mc ∧ Blk W g3 26 hs ∧ (∃ zs, Blk W (w.heap.size + 1) 26 zs ∧ zs.size = 32) ∧ Below w.heap.size w W) ?_ ?_
  · refine ⟨(HM3.out.alloc _).rowOther _ (by omega), by rw [hg3]; exact Blk.row (Blk.new w3 _ _) hs, ?_, below_setRow (HB3.out.alloc (by omega) _) _ _ (by omega)⟩
    obtain ⟨zs, h1, h2⟩ := HZ3.out
    exact ⟨zs, (h1.alloc _).rowOther _ (by omega), h2⟩
  have hg30 : w.heap.size + 2 ≤ g3 := by omega
  rw [← hg3]
  clear hg3 HM3 HZ3 HB3 hsw
  intro W4 hW4
  refine region_tail_by 5 _ [(7, .is (.agg mc)), (8, .sat (fun v _ => IsState v (xr k 0x5c)) (fun _ _ _ h _ => h)), (9, .is (.slice (some ⟨g3, 0, none⟩) 32 32)), (10, .sat (fun v _ => IsState v (xr k 0x5c ++ h1)) (fun _ _ _ h _ => h)), (11, .is (.agg (bs M)))] [0, 1, 2, 3, 11]
    (fun W => Blk W w.heap.size 37 mc ∧ Blk W g3 26 hs ∧ (∃ zs, Blk W (w.heap.size + 1) 26 zs ∧ zs.size = 32) ∧ Below w.heap.size w W) (by kernel_rfl) (by kernel_rfl) (by kernel_rfl) (by kernel_rfl) (by kernel_rfl) rfl rfl rfl rfl (by kernel_rfl) ?_ ?_ ?_
  · obtain ⟨h1, h2, h3, h4⟩ := hW4
    exact ⟨h1, h2, h3, ⟨h4.os, h4.tape, h4.output, h4.size, h4.block⟩⟩
  · refine ⟨?a0, ?a1, ?a2, ?a3, ?a4, trivial⟩
    case a0 => exact ask_load (guard_none rfl) 37 (.tmp 1) (.pointer (some ⟨w.heap.size, 0, none⟩)) (.agg mc) rfl rfl (by intro k hk; cases hk; rfl) (fun W hW => hW.1.loads _ _ Tryd.underlying37 rfl HSzm.out)
    case a1 => exact ask_call hG (guard_none rfl) _ _ _ #[.agg mc, .int .u8 92] (.sat (fun v _ => IsState v (xr k 0x5c)) (fun _ _ _ h _ => h)) rfl (by kernel_rfl) rfl rfl (by intro k hk; cases hk; rfl) (fun W hW => (HBh.out W (HT.out.below (Nat.le_refl _) hW.2.2.2)).mono fun e w' h => by
      obtain ⟨v, h1, h2, h3⟩ := h
      exact ⟨v, h1, h2, h3⟩)
    case a2 => exact ask_slice (guard_none rfl) 26 (.tmp 3) none none none (.pointer (some ⟨g3, 0, none⟩)) (.slice (some ⟨g3, 0, none⟩) 32 32) none none none rfl rfl rfl rfl rfl (by intro k hk; cases hk; rfl) (fun W => slice_hash_all g3 W)
    case a3 => exact ask_call_by hG (guard_none rfl) _ _ _ (.sat (fun v _ => IsState v (xr k 0x5c ++ h1)) (fun _ _ _ h _ => h)) rfl (by kernel_rfl) (by intro k hk; cases hk; rfl) (fun x W hW hk => by
      have e8 : IsState (x 8) (xr k 0x5c) := hk 8 rfl
      have e9 : x 9 = .slice (some ⟨g3, 0, none⟩) 32 32 := hk 9 rfl
      show Calls _ _ #[x 8, x 9] W _
      rw [e9]
      have hby : Bys W (.slice (some ⟨g3, 0, none⟩) 32 32) h1 := by
        have := hW.2.1
        rw [HHs.out] at this
        exact this.bysOf 32 32 HH32.out
      refine (write_any (x 8) (xr k 0x5c) h1 _ 32 32 W e8 hby (by omega) (by rw [xr_length, HEk.out, HH32.out]; decide) (HT.out.below (Nat.le_refl _) hW.2.2.2).1 (HT.out.below (Nat.le_refl _) hW.2.2.2).2).mono ?_
      rintro e w' ⟨v, h1, h2, h3⟩
      exact ⟨v, h1, h2, h3⟩)
    case a4 => exact ask_call_by hG (guard_none rfl) _ _ _ (.is (.agg (bs M))) rfl (by kernel_rfl) (by intro k hk; cases hk; rfl) (fun x W hW hk => by
      have e10 : IsState (x 10) (xr k 0x5c ++ h1) := hk 10 rfl
      show Calls _ _ #[x 10] W _
      refine (stateSum_any (x 10) (xr k 0x5c ++ h1) W e10 (by rw [List.length_append, xr_length, HEk.out, HH32.out]; decide) (HT.out.below (Nat.le_refl _) hW.2.2.2).1 (HT.out.below (Nat.le_refl _) hW.2.2.2).2).mono fun e w' h => ⟨_, h.1, ?_, h.2⟩
      show _ = _
      rw [HMk.out])
  intro a' W5 hW5 hd5 hs5 hf5
  have t0 : a'.tmps.getD 0 undef = .agg mc := hf5 0 rfl
  have t1 : a'.tmps.getD 1 undef = .pointer (some ⟨w.heap.size, 0, none⟩) := hf5 1 rfl
  have t2 : a'.tmps.getD 2 undef = .pointer (some ⟨w.heap.size + 1, 0, none⟩) := hf5 2 rfl
  have t3 : a'.tmps.getD 3 undef = .pointer (some ⟨g3, 0, none⟩) := hf5 3 rfl
  have t11 : a'.tmps.getD 11 undef = .agg (bs M) := hf5 11 rfl
  obtain ⟨us', hus, ha'⟩ := act_open 12 a' hs5 hd5
  rw [← hus] at t0 t1 t2 t3 t11
  have el : ((List.range 12).map us').toArray = #[us' 0, us' 1, us' 2, us' 3, us' 4, us' 5, us' 6, us' 7, us' 8, us' 9, us' 10, us' 11] := rfl
  rw [el] at ha'
  subst ha'
  rw [t0, t1, t2, t3, t11]
  clear hus t0 t1 t2 t3 t11 el hf5 hs5 hd5 hG hW4
  obtain ⟨-, -, ⟨zs, hz1, hz2⟩, hB5⟩ := hW5
  obtain ⟨bb, hbb⟩ : ∃ bb, bb = bs M := ⟨_, rfl⟩
  rw [← hbb]
  have hbl : bb.size = 32 := by rw [hbb, bs_size, HMl.out]
  have hone : bb.all (·.oneCell') = true := by rw [hbb]; exact bs_one _
  have hsz2 : (Tryd.prog.info? 26).map (·.size) = some bb.size := by rw [hbl]; kernel_rfl
  refine wpList_store_row rfl 26 (.tmp 2) (.tmp 11) rfl (w.heap.size + 1) bb rfl rfl _ _ hz1 hsz2 (hz2.trans hbl.symm) hone ?_
  have HSz2 := Lib.hid hsz2
  have HZ1 := Lib.hid (hz1.row bb)
  have HB5 := Lib.hid (below_setRow hB5 (w.heap.size + 1) bb (by omega))
  have HBb := Lib.hid hbb
  clear hbb hbl hone hsz2 hz1 hz2 hB5
  go_wp2
  exact bodyPost_ret (v := .agg bb) (results_cell_row rfl _ _ (w.heap.size + 1) _ bb _ _ rfl HZ1.out Tryd.underlying26 rfl HSz2.out) rfl ⟨by rw [HBb.out], HB5.out⟩

theorem mark_any (key text : List UInt8) (a b : Option Addr) (na ca nb cb : Nat) (w : World) (hk : Bys w (.slice a na ca) key) (hca : na ≤ ca) (hx : Bys w (.slice b nb cb) text) (hcb : nb ≤ cb) (hlk : na ≤ 1000000000000000) (hlx : nb ≤ 1000000000000000) (ht : Tabs w) :
    Calls Tryd.prog 8 #[.slice a na ca, .slice b nb cb] w fun e w' => e = .returned (.agg (bs (hmac key text))) ∧ Below w.heap.size w w' := by
  have hlen := bys_len hx
  have HK := Lib.hid hk
  have HX := Lib.hid hx
  have HLen := Lib.hid hlen
  have HT := Lib.hid ht
  clear hk hx ht hlen
  go_enter Tryd.func8, Tryd.ntmps8
  go_wp2_with fail
  have hb0 : ∀ o : Obj, Below w.heap.size w (w.alloc o) := fun o => (Below.refl _ _).alloc (Nat.le_refl _) o
  refine (new_any key a na ca _ (HK.out.below (Nat.le_refl _) (hb0 _)) hca (by omega) (HT.out.below (Nat.le_refl _) (hb0 _))).mono ?_
  rintro e w1 ⟨v1, rfl, hv1, hb1⟩
  have hB1 : Below w.heap.size w w1 := (hb0 _).trans (hb1.mono (by simp))
  have hz1 : ∃ zs, Blk w1 w.heap.size 26 zs ∧ zs.size = 32 := ⟨_, (Blk.newAt _ _ _ _ _ rfl rfl).keep hb1, rfl⟩
  have HV1 := Lib.hid hv1
  have HB1 := Lib.hid hB1
  have HZ1 := Lib.hid hz1
  clear hb0 hv1 hb1 hB1 hz1
  go_wp2_with fail
  refine (mwrite_any v1 (kb key) [] text b nb cb w1 HV1.out (HX.out.below (Nat.le_refl _) HB1.out) hcb (by simp) (by rw [HLen.out]; exact hlx) (HT.out.below (Nat.le_refl _) HB1.out)).mono ?_
  rintro e w2 ⟨v2, rfl, hv2, hb2⟩
  rw [List.nil_append] at hv2
  have HV2 := Lib.hid hv2
  have HB2 := Lib.hid (HB1.out.trans (hb2.mono HB1.out.size))
  have HZ2 := Lib.hid (show ∃ zs, Blk w2 w.heap.size 26 zs ∧ zs.size = 32 by
    obtain ⟨zs, h1, h2⟩ := HZ1.out
    exact ⟨zs, h1.keep hb2, h2⟩)
  clear hv2 hb2 HZ1 HB1
  go_wp2_with fail
  refine (mmark_any v2 (kb key) text w2 HV2.out (by rw [HLen.out]; exact hlx) (HT.out.below (Nat.le_refl _) HB2.out)).mono ?_
  rintro e w3 ⟨rfl, hb3⟩
  obtain ⟨zs, hz2, hz3⟩ := HZ2.out
  obtain ⟨M, hM⟩ : ∃ M, M = mark0 (kb key) text := ⟨_, rfl⟩
  obtain ⟨bb, hbb⟩ : ∃ bb, bb = bs M := ⟨_, rfl⟩
  rw [← hM, ← hbb]
  have hbl : bb.size = 32 := by rw [hbb, bs_size, hM, mark0_length]
  have hone : bb.all (·.oneCell') = true := by rw [hbb]; exact bs_one _
  have hsz2 : (Tryd.prog.info? 26).map (·.size) = some bb.size := by rw [hbl]; kernel_rfl
  have HZ3 := Lib.hid (hz2.keep hb3)
  have HSz := Lib.hid (hz3.trans hbl.symm)
  have HSz2 := Lib.hid hsz2
  have HOne := Lib.hid hone
  have HB3 := Lib.hid (HB2.out.trans (hb3.mono HB2.out.size))
  have HBb : Hid (bb = bs (hmac key text)) := Lib.hid (by rw [hbb, hM]; rfl)
  clear hz2 hz3 hbl hone hsz2 hb3 hbb hM
  go_wp2_with (refine wpList_store_row rfl 26 (.tmp 4) (.tmp 9) rfl w.heap.size bb rfl rfl _ _ HZ3.out HSz2.out HSz.out HOne.out ?_)
  exact bodyPost_ret (v := .agg bb) (results_cell_row rfl _ _ w.heap.size _ bb _ _ rfl (HZ3.out.row bb) Tryd.underlying26 rfl HSz2.out) rfl ⟨by rw [HBb.out], below_setRow HB3.out _ _ (Nat.le_refl _)⟩
end Go.Proofs.YtlnhjllcgbdalaaDoor
