/- A node's key, the program's and the reference's. -/
import Derived.Test.YtlnhjllcgbdalaaDoorMacRef
import Derived.Test.YtlnhjllcgbdalaaDoorMacAwake
import Derived.Test.YtlnhjllcgbdalaaDoorBinRef
namespace Go.Proofs.YtlnhjllcgbdalaaDoor
open Go.RowKit ShaMath MacMath BinMath Reg

def nodeB : List UInt8 := [110, 111, 100, 101]

/-- append to a slice that is full: nothing that was there is written. -/
theorem append_full {w : World} (ad : Addr) (n : Nat) (l l' : List UInt8) (x : Value) (h0 : Bys w (.slice (some ad) n n) l) (hx : Bys w x l') (hne : l' ≠ []) (hlen : l.length + l'.length ≤ 140737488355328) :
    ∃ v' w', (Builtin.append_ #[22, 22] 22 #[.slice (some ad) n n, x]).run Tryd.prog w = .ok v' w' ∧ (Row w' w.heap.size v' (l ++ l') ∧ Below w.heap.size w w') := by
  obtain ⟨i0, hi, hz0, hz1, hz2⟩ := info_parts info_byte
  obtain ⟨hn, hl⟩ : l.length = n ∧ ∀ i (h : i < l.length), w.cell? (ad.add i) = some (bv l[i]) := by
    rcases h0 with ⟨e, _⟩ | ⟨ad', c', e, hc'⟩
    · cases e
    · simp at e
      obtain ⟨rfl, hn, -⟩ := e
      exact ⟨hn.symm, hc'⟩
  subst hn
  clear h0
  rcases hx with ⟨rfl, rfl⟩ | ⟨bd, cap, rfl, hc⟩
  · exact absurd rfl hne
  · have hpos : 0 < l'.length := List.length_pos_iff.2 hne
    have hr := run_append_grow (P := Tryd.prog) w 22 22 5 i0 (.int .u8 0) Tryd.underlying22 hi hz0 ad l.length l.length (l.map bv) (by simp [hz1]) (cells_bys hl) bd l'.length cap (l'.map bv) (by simp [hz1]) (cells_bys hc) (by omega) (by omega) (growslice_fits (by omega) (by rw [hz2]; omega))
    refine ⟨_, _, hr, ?_, (Below.refl _ _).drew.alloc (Nat.le_refl _) _⟩
    have hge := grownCap_ge w (l.length + l'.length) l.length 5
    have hle := grownCap_le_maxLen w (l.length + l'.length) l.length 5 (by unfold maxLen; omega)
    refine ⟨by simp, .inr ⟨w.heap.size, _, _, by rw [List.length_append], Nat.le_refl _, heap_alloc_new w.drew _, by rw [List.length_append]; omega, hle, ?_, ?_⟩⟩
    · simp [size_zeroCells]
      simp [Value.cells]
      omega
    · rw [List.length_append, Nat.mul_one]
      simp only [Array.toList_append, List.map_append]
      rw [List.take_append_of_le_length (by simp), List.take_of_length_le (by simp)]

theorem numL_ne (n : Nat) : numL n ≠ [] := fun h => by have := congrArg List.length h; simp [numL_length] at this

theorem derive_any (key : List UInt8) (n : Nat) (a : Option Addr) (na ca : Nat) (w : World) (hk : Bys w (.slice a na ca) key) (hca : na ≤ ca) (hlk : na ≤ 1000000000000000) (hn : n < 18446744073709551616) (ht : Tabs w) :
    Calls Tryd.prog 10 #[.slice a na ca, .int .u64 (n : Int)] w fun e w' => e = .returned (.agg (bs (hmac key (nodeB ++ numL n)))) ∧ Below w.heap.size w w' := by
  have HK := Lib.hid hk
  have HT := Lib.hid ht
  clear hk ht
  have hnl := numL_length n
  have hn8 := nb_le n hn
  obtain ⟨M, hM⟩ : ∃ M, M = hmac key (nodeB ++ numL n) := ⟨_, rfl⟩
  rw [← hM]
  have HM := Lib.hid hM
  have hMl : M.length = 32 := by rw [hM]; exact hmac_length _ _
  have HMl := Lib.hid hMl
  have HNl := Lib.hid hnl
  clear hM hMl hnl
  go_enter Tryd.func10, Tryd.ntmps10
  go_wp2_with fail
  have hb0 : ∀ o : Obj, Below w.heap.size w (w.alloc o) := fun o => (Below.refl _ _).alloc (Nat.le_refl _) o
  refine (new_any key a na ca _ (HK.out.below (Nat.le_refl _) (hb0 _)) hca (by omega) (HT.out.below (Nat.le_refl _) (hb0 _))).mono ?_
  rintro e w1 ⟨v1, rfl, hv1, hb1⟩
  have hsz1 := hb1.size
  have hB1 : Below w.heap.size w w1 := (hb0 _).trans (hb1.mono (by simp))
  have hz1 : ∃ zs, Blk w1 w.heap.size 26 zs ∧ zs.size = 32 := ⟨_, (Blk.newAt _ _ _ _ _ rfl rfl).keep hb1, rfl⟩
  have HV1 := Lib.hid hv1
  have HB1 := Lib.hid hB1
  have HZ1 := Lib.hid hz1
  have hsw := hB1.size
  clear hb0 hv1 hb1 hB1 hz1 hsz1
  have kc := fun (w : World) (C : Array Value) (n c : Nat) => Lib.run_convert_bytes_const (P := Tryd.prog) w 22 5 C n c Tryd.underlying22 Tryd.underlying5
  go_wp2_with fail
  clear kc
  have hb2 : ∀ o : Obj, Below w1.heap.size w1 (w1.alloc o) := fun o => (Below.refl _ _).alloc (Nat.le_refl _) o
  have hb3 : ∀ o : Obj, Below w.heap.size w (w1.alloc o) := fun o => HB1.out.trans ((hb2 o).mono hsw)
  refine (mwrite_any v1 (kb key) [] nodeB _ 4 4 _ HV1.out (const_bys w1 _ nodeB 4 4 rfl _ (by kernel_rfl) _ rfl) (by decide) (by simp) (by decide) (HT.out.below (Nat.le_refl _) (hb3 _))).mono ?_
  rintro e w2 ⟨v2, rfl, hv2, hb4⟩
  rw [List.nil_append] at hv2
  have hB2 : Below w.heap.size w w2 := (hb3 _).trans (hb4.mono (by simp; omega))
  have hz2 : ∃ zs, Blk w2 w.heap.size 26 zs ∧ zs.size = 32 := by
    obtain ⟨zs, h1, h2⟩ := HZ1.out
    exact ⟨zs, (h1.alloc _).keep hb4, h2⟩
  have HV2 := Lib.hid hv2
  have HB2 := Lib.hid hB2
  have HZ2 := Lib.hid hz2
  clear hb2 hb3 hv2 hb4 hB2 hz2 HZ1 HB1 hsw
  go_wp2_with fail
  refine (num_any n w2 hn).mono ?_
  rintro e w3 ⟨v3, rfl, hr3, hb3⟩
  obtain ⟨a3, c3, rfl⟩ := slice_of_row hr3
  have hl3 : (numL n).length ≤ c3 := by
    rcases hr3.2 with ⟨e, h0⟩ | ⟨_, _, _, e, _, _, hle, _⟩
    · omega
    · cases e; exact hle
  have hB3 : Below w.heap.size w w3 := HB2.out.trans (hb3.mono HB2.out.size)
  have hz3 : ∃ zs, Blk w3 w.heap.size 26 zs ∧ zs.size = 32 := by
    obtain ⟨zs, h1, h2⟩ := HZ2.out
    exact ⟨zs, h1.keep hb3, h2⟩
  have HR3 := Lib.hid hr3.bys
  have HB3 := Lib.hid hB3
  have HZ3 := Lib.hid hz3
  clear hr3 hb3 hB3 hz3 HZ2 HB2
  go_wp2_with fail
  refine (mwrite_any v2 (kb key) nodeB (numL n) a3 _ c3 w3 HV2.out HR3.out hl3 (by decide) (by rw [HNl.out]; omega) (HT.out.below (Nat.le_refl _) HB3.out)).mono ?_
  rintro e w4 ⟨v4, rfl, hv4, hb4⟩
  have HV4 := Lib.hid hv4
  have HB4 := Lib.hid (HB3.out.trans (hb4.mono HB3.out.size))
  have HZ4 := Lib.hid (show ∃ zs, Blk w4 w.heap.size 26 zs ∧ zs.size = 32 by
    obtain ⟨zs, h1, h2⟩ := HZ3.out
    exact ⟨zs, h1.keep hb4, h2⟩)
  clear hv4 hb4 HZ3 HB3 HR3
  go_wp2_with fail
  refine (mmark_any v4 (kb key) (nodeB ++ numL n) w4 HV4.out (by rw [List.length_append, HNl.out]; simp [nodeB]; omega) (HT.out.below (Nat.le_refl _) HB4.out)).mono ?_
  rintro e w5 ⟨rfl, hb5⟩
  obtain ⟨zs, hz2, hz3⟩ := HZ4.out
  have hM2 : mark0 (kb key) (nodeB ++ numL n) = M := by rw [HM.out]; rfl
  obtain ⟨bb, hbb⟩ : ∃ bb, bb = bs M := ⟨_, rfl⟩
  rw [hM2, ← hbb]
  have hbl : bb.size = 32 := by rw [hbb, bs_size, HMl.out]
  have hone : bb.all (·.oneCell') = true := by rw [hbb]; exact bs_one _
  have hsz2 : (Tryd.prog.info? 26).map (·.size) = some bb.size := by rw [hbl]; kernel_rfl
  have HZ5 := Lib.hid (hz2.keep hb5)
  have HSz := Lib.hid (hz3.trans hbl.symm)
  have HSz2 := Lib.hid hsz2
  have HOne := Lib.hid hone
  have HB5 := Lib.hid (HB4.out.trans (hb5.mono HB4.out.size))
  have HBb := Lib.hid hbb
  clear hz2 hz3 hbl hone hsz2 hb5 hbb hM2
  go_wp2_with (refine wpList_store_row rfl 26 (.tmp 4) (.tmp 13) rfl w.heap.size bb rfl rfl _ _ HZ5.out HSz2.out HSz.out HOne.out ?_)
  exact bodyPost_ret (v := .agg bb) (results_cell_row rfl _ _ w.heap.size _ bb _ _ rfl (HZ5.out.row bb) Tryd.underlying26 rfl HSz2.out) rfl ⟨by rw [HBb.out], below_setRow HB5.out _ _ (Nat.le_refl _)⟩

theorem refderive_any (key : List UInt8) (n : Nat) (a : Option Addr) (na ca : Nat) (w : World) (hk : Bys w (.slice a na ca) key) (hlk : na ≤ 140737488355200) (hn : n < 18446744073709551616) (hc : Consts w) :
    Calls Tryd.prog 11 #[.slice a na ca, .int .u64 (n : Int)] w fun e w' => e = .returned (.agg (bs (hmac key (nodeB ++ numL n)))) ∧ Below w.heap.size w w' := by
  have HK := Lib.hid hk
  have HC := Lib.hid hc
  clear hk hc
  have hnl := numL_length n
  have hn8 := nb_le n hn
  have HNl := Lib.hid hnl
  obtain ⟨M, hM⟩ : ∃ M, M = hmac key (nodeB ++ numL n) := ⟨_, rfl⟩
  rw [← hM]
  have HM := Lib.hid hM
  have hMl : M.length = 32 := by rw [hM]; exact hmac_length _ _
  have HMl := Lib.hid hMl
  clear hM hMl hnl
  go_enter Tryd.func11, Tryd.ntmps11
  have kc := fun (w : World) (C : Array Value) (n c : Nat) => Lib.run_convert_bytes_const (P := Tryd.prog) w 22 5 C n c Tryd.underlying22 Tryd.underlying5
  have kd := convert_second
  go_wp2_with fail
  clear kc kd
  have hb1 : ∀ o, Below w.heap.size w (w.alloc o) := fun o => (Below.refl _ _).alloc (Nat.le_refl _) o
  have hb2 : ∀ o o', Below w.heap.size w ((w.alloc o).alloc o') := fun o o' => (hb1 o).alloc (by simp) o'
  refine (refnum_any n _ hn).mono ?_
  rintro e w3 ⟨v3, rfl, hr3, hb3⟩
  have hs3 := hb3.size
  have hby : Bys w3 (.slice (some ⟨w.heap.size + 1, 0, none⟩) 4 4) nodeB := Bys.below (const_bys _ _ nodeB 4 4 rfl _ (by kernel_rfl) _ (by simp)) (Nat.le_refl _) hb3
  have hB3 : Below w.heap.size w w3 := (hb2 _ _).trans (hb3.mono (by simp; omega))
  have hz3 : ∃ zs, Blk w3 w.heap.size 26 zs ∧ zs.size = 32 := ⟨_, ((Blk.new _ _ _).alloc _).keep hb3, rfl⟩
  have HA := Lib.hid (append_full (w := w3) ⟨w.heap.size + 1, 0, none⟩ 4 nodeB (numL n) v3 hby hr3.bys (numL_ne n) (by rw [HNl.out]; simp [nodeB]; omega))
  have HB3 := Lib.hid hB3
  have HZ3 := Lib.hid hz3
  have hsw := hB3.size
  clear hb1 hb2 hr3 hb3 hby hB3 hz3 hs3
  go_wp2_with (at_builtin; refine wpList_append_by rfl (.tmp 7) (.tmp 9) 22 rfl _ _ rfl rfl _ HA.out ?_; rintro v4 w4 ⟨hr4, hb4⟩; (have HR4 := Lib.hid hr4); (have HB4 := Lib.hid hb4); clear hr4 hb4)
  obtain ⟨a4, c4, rfl⟩ := slice_of_row HR4.out
  have hl4 : (nodeB ++ numL n).length ≤ 14 := by rw [List.length_append, HNl.out]; simp [nodeB]; omega
  have hB5 := HB3.out.trans (HB4.out.mono hsw)
  have hmk := refmark_any key (nodeB ++ numL n) a a4 na ca _ c4 w4 (HK.out.below (Nat.le_refl _) hB5) HR4.out.bys hlk (by omega) (HC.out.below (Nat.le_refl _) hB5)
  rw [← HM.out] at hmk
  have HMk := Lib.hid hmk
  have HB5 := Lib.hid hB5
  have HZ4 := Lib.hid (show ∃ zs, Blk w4 w.heap.size 26 zs ∧ zs.size = 32 by
    obtain ⟨zs, h1, h2⟩ := HZ3.out
    exact ⟨zs, h1.keep HB4.out, h2⟩)
  clear hB5 hmk HZ3 HB3 HB4 HA HR4
  go_wp2_with fail
  refine HMk.out.mono ?_
  rintro e w5 ⟨rfl, hb5⟩
  obtain ⟨zs, hz2, hz3⟩ := HZ4.out
  obtain ⟨bb, hbb⟩ : ∃ bb, bb = bs M := ⟨_, rfl⟩
  rw [← hbb]
  have hbl : bb.size = 32 := by rw [hbb, bs_size, HMl.out]
  have hone : bb.all (·.oneCell') = true := by rw [hbb]; exact bs_one _
  have hsz2 : (Tryd.prog.info? 26).map (·.size) = some bb.size := by rw [hbl]; kernel_rfl
  have HZ5 := Lib.hid (hz2.keep hb5)
  have HSz := Lib.hid (hz3.trans hbl.symm)
  have HSz2 := Lib.hid hsz2
  have HOne := Lib.hid hone
  have HB6 := Lib.hid (HB5.out.trans (hb5.mono HB5.out.size))
  have HBb := Lib.hid hbb
  clear hz2 hz3 hbl hone hsz2 hb5 hbb
  go_wp2_with (refine wpList_store_row rfl 26 (.tmp 4) (.tmp 11) rfl w.heap.size bb rfl rfl _ _ HZ5.out HSz2.out HSz.out HOne.out ?_)
  exact bodyPost_ret (v := .agg bb) (results_cell_row rfl _ _ w.heap.size _ bb _ _ rfl (HZ5.out.row bb) Tryd.underlying26 rfl HSz2.out) rfl ⟨by rw [HBb.out], below_setRow HB6.out _ _ (Nat.le_refl _)⟩
end Go.Proofs.YtlnhjllcgbdalaaDoor
