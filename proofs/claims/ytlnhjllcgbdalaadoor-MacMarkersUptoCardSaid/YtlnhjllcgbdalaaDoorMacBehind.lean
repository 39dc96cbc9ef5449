/- A key's bytes turned, and written to a state; a marker's hash under way. -/
import Derived.Test.YtlnhjllcgbdalaaDoorMacKit
import Derived.Deep.DeepCutAuto
namespace Go.Proofs.YtlnhjllcgbdalaaDoor
open Go.RowKit ShaMath MacMath Reg

theorem u8_xor_bv (a b : UInt8) : bits .xor .u8 (a.toNat : Int) (b.toNat : Int) = ((a ^^^ b).toNat : Int) := by
  rw [u8_xor_nat _ _ a.toNat_lt b.toNat_lt, UInt8.toNat_xor]

/-- Between two rounds: i bytes of the key are turned. -/
def KeyTurnAt (w : World) (k : List UInt8) (x : UInt8) (st : Array Value) (s6 : Value) (wr : World) : Prop :=
  ∃ i : Nat, i ≤ 64 ∧ s6 = .int .i64 i ∧ Blk wr w.heap.size 37 (mkC (turned k x i) st) ∧ (∃ zs, Blk wr (w.heap.size + 1) 35 zs ∧ zs.size = 73) ∧ Below w.heap.size w wr

set_option maxRecDepth 100000 in
theorem behind_any (k : List UInt8) (st : Array Value) (x : UInt8) (w : World) (ek : k.length = 64) (es : st.size = 73) (ht : Tabs w) :
    Calls Tryd.prog 23 #[.agg (mkC k st), bv x] w fun e w' => ∃ v, e = .returned v ∧ IsState v (xr k x) ∧ Below w.heap.size w w' := by
  have HEk := Lib.hid ek
  have HEs := Lib.hid es
  have HT := Lib.hid ht
  obtain ⟨cs0, hcs0⟩ : ∃ cs, cs = mkC k st := ⟨_, rfl⟩
  rw [← hcs0]
  have HCS := Lib.hid hcs0
  obtain ⟨kx, hkx⟩ : ∃ kx : Nat, kx = x.toNat := ⟨_, rfl⟩
  have hbx : bv x = .int .u8 (kx : Int) := by rw [bv, hkx]
  rw [hbx]
  have hkx1 : kx < 256 := by rw [hkx]; exact x.toNat_lt
  have HKx := Lib.hid hkx
  clear ht ek es hcs0 hbx hkx
  obtain ⟨zs, hzv, hzs⟩ := zero_state
  have HZ0 := Lib.hid hzs
  obtain ⟨zc, hzc⟩ : ∃ zc, zc = zeroState := ⟨_, rfl⟩
  have HI : Hid (IsState (.agg zc) []) := Lib.hid ⟨List.replicate 8 0#32, List.replicate 64 0, by rw [hzc]; rfl, goodS_nil⟩
  clear hzs
  go_enter Tryd.func23, Tryd.ntmps23
  go_wp2_with fail
  clear hzv
  go_loopw [5, 6] (fun _ s6 wr => KeyTurnAt w k x st s6 wr) (fun _ s6 _ => 64 - (intOf s6).toNat)
  case atStart =>
    refine ⟨0, by omega, rfl, ?_, ⟨_, Blk.newAt _ _ _ _ _ (by simp) rfl, HZ0.out⟩, ((Below.refl _ _).alloc (Nat.le_refl _) _).alloc (by simp) _⟩
    rw [turned_zero, ← HCS.out]
    exact (Blk.new _ _ _).alloc _
  case round =>
    obtain ⟨i, hi, rfl, hm, hz, hbel⟩ := hrel
    by_cases hlt : i < 64
    · have hc := hm.cell i
      rw [mkC_at i (by rw [turned_length, HEk.out]; exact hlt), turned_at k x i (by rw [HEk.out]; exact hlt)] at hc
      have hf := hm.frozen i
      have hset := hm.set i (bv (k.getD i 0 ^^^ x))
      rw [mkC_set _ _ (by rw [turned_length, HEk.out]; exact hlt), turned_step k x i (by rw [HEk.out]; exact hlt)] at hset
      obtain ⟨y, hy⟩ : ∃ y, y = k.getD i 0 := ⟨_, rfl⟩
      rw [← hy] at hc hset
      obtain ⟨z, hz'⟩ : ∃ z, z = (y ^^^ x) := ⟨_, rfl⟩
      rw [← hz'] at hset
      obtain ⟨ky, hky⟩ : ∃ ky : Nat, ky = y.toNat := ⟨_, rfl⟩
      obtain ⟨kz, hkz⟩ : ∃ kz : Nat, kz = z.toNat := ⟨_, rfl⟩
      have f1 : bits .xor .u8 (ky : Int) (kx : Int) = (kz : Int) := by rw [hky, HKx.out, u8_xor_bv, hkz, hz']
      rw [bv, ← hky] at hc
      have hbz : bv z = .int .u8 (kz : Int) := by rw [bv, hkz]
      rw [hbz] at hset
      have hz2 : ∃ zs, Blk (wr.setCell ⟨w.heap.size, i, none⟩ (.int .u8 (kz : Int))) (w.heap.size + 1) 35 zs ∧ zs.size = 73 := by
        obtain ⟨zs, h1, h2⟩ := hz
        exact ⟨zs, h1.other _ _ (by simp), h2⟩
      have hb2 := hbel.setCell (p := ⟨w.heap.size, i, none⟩) (by simp) (.int .u8 (kz : Int))
      have hky1 : ky < 256 := by rw [hky]; exact y.toNat_lt
      have hkz1 : kz < 256 := by rw [hkz]; exact z.toNat_lt
      have HSet := Lib.hid hset
      have HZ2 := Lib.hid hz2
      have HB2 := Lib.hid hb2
      clear hm hz hbel hset hy hz' hky hkz hbz hz2 hb2
      go_wp2
      clear hc hf f1
      go_roundw
      case rel => exact ⟨i + 1, by omega, by go_num, HSet.out, HZ2.out, HB2.out⟩
      case measure => simp [intOf]; omega
    · have hi64 : i = 64 := by omega
      rw [hi64, turned_all k x 64 (by rw [HEk.out]; omega)] at hm
      have hby : Bys wr (.slice (some ⟨w.heap.size, 0, none⟩) 64 64) (xr k x) := hm.bysAt _ 64 64 (by rw [xr_length, HEk.out]) mkC_key
      have HBy := Lib.hid hby
      have HZ := Lib.hid hz
      have HBel := Lib.hid hbel
      have hsl := slice_key w.heap.size
      have hzr : ∀ W, (zeroValue 35).run Tryd.prog W = .ok (.agg zc) W := fun W => by rw [hzc]; kernel_rfl
      clear hm hz hbel hi64 hi hby hzc
      go_wp2_with fail
      clear hzr hsl
      refine (write_any (.agg zc) [] (xr k x) _ 64 64 wr HI.out HBy.out (by omega) (by rw [xr_length, HEk.out]; decide) (HT.out.below (Nat.le_refl _) HBel.out).1 (HT.out.below (Nat.le_refl _) HBel.out).2).mono ?_
      rintro e w1 ⟨v1, rfl, hv1, hb1⟩
      rw [List.nil_append] at hv1
      obtain ⟨cs, rfl, hcl, hone⟩ := hv1.form
      have hone2 : cs.all (·.oneCell') = true := by
        rw [Array.all_eq_true_iff_forall_mem]
        exact fun v hv => hone v (by simpa using hv)
      have hsz2 : (Tryd.prog.info? 35).map (·.size) = some cs.size := by rw [hcl]; kernel_rfl
      obtain ⟨zs, hz1, hz2⟩ := HZ.out
      have HZ1 := Lib.hid (hz1.keep hb1)
      have HSz := Lib.hid (hz2.trans hcl.symm)
      have HSz2 := Lib.hid hsz2
      have HOne := Lib.hid hone2
      have HV1 := Lib.hid hv1
      have HB1 := Lib.hid (HBel.out.trans (hb1.mono HBel.out.size))
      clear hv1 hcl hone hone2 hsz2 hz1 hz2 hb1
      go_wp2_with (refine wpList_store_row rfl 35 (.tmp 4) (.tmp 21) rfl (w.heap.size + 1) cs rfl rfl _ _ HZ1.out HSz2.out HSz.out HOne.out ?_)
      exact bodyPost_ret (v := .agg cs) (results_cell_row rfl _ _ (w.heap.size + 1) _ cs _ _ rfl (HZ1.out.row cs) Tryd.underlying35 rfl HSz2.out) rfl ⟨_, rfl, HV1.out, below_setRow HB1.out _ _ (by omega)⟩

theorem begun_any (v : Value) (k t : List UInt8) (w : World) (hv : IsMarker v k t) (hl : t.length ≤ 1125899906842624) (ht : Tabs w) :
    Calls Tryd.prog 22 #[v] w fun e w' => ∃ v, e = .returned v ∧ IsState v (xr k 0x36 ++ t) ∧ Below w.heap.size w w' := by
  obtain ⟨st, rfl, ek, es, e1, hst⟩ := hv
  obtain ⟨N, hN⟩ : ∃ N, N = (inner k t).length := ⟨_, rfl⟩
  have hsz0 := mkC_size ek es
  have hin := mkC_inner (st := st) ek
  have hNb : N ≤ 2251799813685248 := by
    rw [hN, inner]
    split
    · simp
    · rw [List.length_append, xr_length, ek]; omega
  have hbk := fun W hT => behind_any k st 0x36 W ek es hT
  have hsame : (t ≠ [] → xr k 0x36 ++ t = inner k t) ∧ (t = [] ↔ N = 0) := by
    refine ⟨fun h => (inner_ne k h).symm, ⟨fun h => by rw [hN, h]; rfl, fun h => ?_⟩⟩
    rw [hN] at h
    by_cases ht : t = []
    · exact ht
    · rw [inner_ne k ht, List.length_append, xr_length, ek] at h
      omega
  obtain ⟨mc, hmc⟩ : ∃ mc, mc = mkC k st := ⟨_, rfl⟩
  rw [← hmc] at hsz0 hin hbk ⊢
  have hszm : (Tryd.prog.info? 37).map (·.size) = some mc.size := by rw [hsz0]; kernel_rfl
  have hszs : (Tryd.prog.info? 35).map (·.size) = some st.toList.length := by rw [Array.length_toList, es]; kernel_rfl
  have hszs2 : (Tryd.prog.info? 35).map (·.size) = some st.size := by rw [es]; kernel_rfl
  have hlen := fun W => len_of hst W
  rw [← hN] at hlen
  have hone : st.all (·.oneCell') = true := by
    rw [Array.all_eq_true_iff_forall_mem]
    exact fun v hv => e1 v (by simpa using hv)
  have HT := Lib.hid ht
  have HIn := Lib.hid hin
  have HBk := Lib.hid hbk
  have HSame := Lib.hid hsame
  have HSzm := Lib.hid hszm
  have HSzs := Lib.hid hszs
  have HSzs2 := Lib.hid hszs2
  have HLen := Lib.hid hlen
  have HOne := Lib.hid hone
  have HSt := Lib.hid hst
  have HEs := Lib.hid es
  clear ht hin hbk hsame hszm hszs hszs2 hlen hone hst e1 ek es hN hmc hsz0
  obtain ⟨zs, hzv, hzs⟩ := zero_state
  have HZ0 := Lib.hid hzs
  clear hzs
  go_enter Tryd.func22, Tryd.ntmps22
  go_upto_region 1 with fail
  refine world_cut (fun W => Blk W w.heap.size 37 mc ∧ (∃ zs, Blk W (w.heap.size + 1) 35 zs ∧ zs.size = 73) ∧ Below w.heap.size w W) ?_ ?_
  · exact ⟨(Blk.new _ _ _).alloc _, ⟨_, Blk.newAt _ _ _ _ _ (by simp) rfl, HZ0.out⟩, ((Below.refl _ _).alloc (Nat.le_refl _) _).alloc (by simp) _⟩
  clear hzv HZ0
  rintro W1 ⟨h1, h2, h3⟩
  have hld := h1.loadsAt (P := Tryd.prog) 35 _ 64 64 st.toList Tryd.underlying35 rfl HSzs.out (fun j u hj => HIn.out j u hj) rfl
  have HLd := Lib.hid hld
  have H1 := Lib.hid h1
  have H2 := Lib.hid h2
  have H3 := Lib.hid h3
  clear h1 h2 h3 hld
  go_wp2_with (refine wpList_load_by rfl 35 (.tmp 3) rfl _ _ rfl HLd.out ?_)
  refine (HLen.out W1).mono ?_
  rintro e w2 ⟨rfl, hb2⟩
  have HB2 := Lib.hid (H3.out.trans (hb2.mono H3.out.size))
  have HM2 := Lib.hid (H1.out.keep hb2)
  obtain ⟨zs2, hz1, hz2⟩ := H2.out
  have HZ1 := Lib.hid (hz1.keep hb2)
  have HZs := Lib.hid hz2
  clear hb2 hz1 hz2 H1 H2 H3 HLd
  have hT2 := HT.out.below (Nat.le_refl _) HB2.out
  have HT2 := Lib.hid hT2
  clear hT2
  by_cases h0 : N = 0
  · have ht0 : t = [] := HSame.out.2.2 h0
    subst h0
    go_upto_region 2 with fail
    go_wp2_with (refine wpList_load_row rfl 37 (.tmp 1) rfl w.heap.size rfl _ _ _ _ HM2.out Tryd.underlying37 rfl HSzm.out ?_)
    refine (HBk.out w2 HT2.out).mono ?_
    rintro e w3 ⟨v3, rfl, hv3, hb3⟩
    obtain ⟨cs, rfl, hcl, hone⟩ := hv3.form
    have hone2 : cs.all (·.oneCell') = true := by
      rw [Array.all_eq_true_iff_forall_mem]
      exact fun v hv => hone v (by simpa using hv)
    have hsz2 : (Tryd.prog.info? 35).map (·.size) = some cs.size := by rw [hcl]; kernel_rfl
    have HZ3 := Lib.hid (HZ1.out.keep hb3)
    have HSz := Lib.hid (HZs.out.trans hcl.symm)
    have HSz2 := Lib.hid hsz2
    have HOne2 := Lib.hid hone2
    have HV3 := Lib.hid hv3
    have HB3 := Lib.hid (HB2.out.trans (hb3.mono HB2.out.size))
    clear hv3 hcl hone hone2 hsz2 hb3
    go_wp2_with (refine wpList_store_row rfl 35 (.tmp 2) (.tmp 8) rfl (w.heap.size + 1) cs rfl rfl _ _ HZ3.out HSz2.out HSz.out HOne2.out ?_)
    exact bodyPost_ret (v := .agg cs) (results_cell_row rfl _ _ (w.heap.size + 1) _ cs _ _ rfl (HZ3.out.row cs) Tryd.underlying35 rfl HSz2.out) rfl ⟨_, rfl, by rw [ht0, List.append_nil]; exact HV3.out, below_setRow HB3.out _ _ (by omega)⟩
  · have hne : t ≠ [] := fun h => h0 (HSame.out.2.1 h)
    have HNe := Lib.hid hne
    have hld := HM2.out.loadsAt (P := Tryd.prog) 35 _ 64 64 st.toList Tryd.underlying35 rfl HSzs.out (fun j u hj => HIn.out j u hj) rfl
    have HLd := Lib.hid hld
    have HSz := Lib.hid (HZs.out.trans HEs.out.symm)
    clear hld hne
    go_upto_region 3 with fail
    go_wp2_with (first
      | (refine wpList_load_by rfl 35 (.tmp 9) rfl _ _ rfl HLd.out ?_)
      | (refine wpList_store_row rfl 35 (.tmp 2) (.tmp 10) rfl (w.heap.size + 1) st rfl rfl _ _ HZ1.out HSzs2.out HSz.out HOne.out ?_))
    exact bodyPost_ret (v := .agg st) (results_cell_row rfl _ _ (w.heap.size + 1) _ st _ _ rfl (HZ1.out.row st) Tryd.underlying35 rfl HSzs2.out) rfl ⟨_, rfl, by rw [HSame.out.1 HNe.out]; exact HSt.out, below_setRow HB2.out _ _ (by omega)⟩
end Go.Proofs.YtlnhjllcgbdalaaDoor
