/- What every law of layer 11 asks first. -/
import Derived.Test.YtejmmjlmnfnacaaVaultText
import Derived.Lib.SlBytesConst
namespace Go.Proofs.Ytejmmjlmnfnacaa
open Go.RowKit Go.Maps DiskMath SwapMath Reg

theorem bys_x (W : World) : Bys (W.alloc (.cells #[.int .u8 120] 5 (1, 2))) (.slice (some ⟨W.heap.size, 0, none⟩) 1 1) [120] := by
  refine .inr ⟨⟨W.heap.size, 0, none⟩, 1, rfl, fun i hi => ?_⟩
  have h0 : i = 0 := by simp at hi; omega
  subst h0
  rw [addr_add]
  have h := heap_alloc_new W (.cells #[.int .u8 120] 5 (1, 2))
  unfold World.cell?
  simp only
  rw [h]
  rfl

theorem convert_x (W : World) : (convert 50 50 (.slice (some ⟨W.heap.size, 0, none⟩) 1 1)).run Try.prog (W.alloc (.cells #[.int .u8 120] 5)) = .ok (.slice (some ⟨W.heap.size, 0, none⟩) 1 1) (W.alloc (.cells #[.int .u8 120] 5 (1, 2))) :=
  Lib.run_convert_bytes_const (P := Try.prog) W 50 5 #[.int .u8 120] 1 1 Try.underlying50 Try.underlying5

set_option maxHeartbeats 1000000 in
set_option maxRecDepth 20000 in
theorem vawake_any (w : World) : Calls Try.prog 19 #[] w fun e w' => e = .returned (.bool true) ∧ Below w.heap.size w w' := by
  go_enter Try.func19, Try.ntmps19
  go_wp2_with fail
  refine (new_any w 1073741824).mono ?_
  rintro e w1 ⟨d, rfl, hd, hb1⟩
  have HB1 := Lib.hid hb1
  have HD := Lib.hid hd
  have hop := vOpen_any (q := [97]) (by decide) hd (by omega)
  rw [opA_new] at hop
  have HOp := Lib.hid hop
  clear hb1 hd hop
  go_wp2_with fail
  refine HOp.out.mono ?_
  rintro e w2 (⟨h6, -⟩ | ⟨-, z, x, U, rfl, hz, hsw, hzU, hU, hv, ho⟩)
  · exact absurd h6 (by decide)
  have hsw2 : Sw w2 U x d 1 [97] (St.new 1073741824) none false := hsw
  have hb2 : Below w.heap.size w w2 := HB1.out.trans (ho.below (fun k hk h => by have := h.1; omega) HB1.out.size)
  have HB2 := Lib.hid hb2
  have HV := Lib.hid hv
  have hcx := convert_x w2
  have hfin := (put_idle (q := [97]) (b := [120]) (by decide) (fresh_new [97] 1073741824).1 (by decide) (by decide)).1
  have hz0 : (swA [97] (St.new 1073741824) [120]).1 = 0 := by
    rcases hfin with h | h
    · exact h.1
    · exact absurd rfl h.2.1
  have hal : Below w2.heap.size w2 (w2.alloc (.cells #[.int .u8 120] 5 (1, 2))) := (Below.refl _ w2).alloc (Nat.le_refl _) _
  have hput := vPut_any (q := [97]) (b := [120]) (by decide) (hv.keep hal) (hsw2.below hal) (bys_x w2) rfl (by omega) (fun _ ad e => by
    cases e
    exact ⟨by simp, fun h => Nat.lt_irrefl _ (hsw2.lt _ h)⟩) (by omega)
  rw [hz0] at hput
  have HP := Lib.hid hput
  have HAl := Lib.hid hal
  have HZU := Lib.hid hzU
  have hU2 : ∀ k, U k → w.heap.size ≤ k := fun k hk => by
    rcases hU k hk with h | h
    · exact h.1
    · exact Nat.le_trans HB1.out.size h
  have HU := Lib.hid hU2
  clear hz hsw hzU hU hv ho hsw2 hb2 hfin hz0 hal hput hU2
  go_wp2_with fail
  refine HP.out.mono ?_
  rintro e w3 ⟨rfl, h3, -, -⟩
  have h3 := h3 rfl
  have hv3 : IsV w3 z x := h3.blk (HV.out.keep HAl.out) HZU.out
  have hb3 : Below w.heap.size w w3 := (HB2.out.trans (HAl.out.mono HB2.out.size)).trans (h3.only.below (fun k hk h => by have := HU.out k h; omega) (Nat.le_trans HB2.out.size HAl.out.size))
  have HB3 := Lib.hid hb3
  have HG := Lib.hid (vGet_any hv3 h3.sw)
  have e0 : ((saysC 0 : Nat) : Int) = 0 := rfl
  rw [e0]
  clear h3 hb3 hv3 e0 HP hcx
  go_wp2_with fail
  refine HG.out.mono ?_
  rintro e w4 ⟨v, rfl, hr, hb4⟩
  obtain ⟨va, vc, rfl⟩ := slice_of_row hr
  have hcv := conv_bys hr.bys
  have e1 : (⟨((some [120] : Tx).getD []).toArray⟩ : ByteArray) = ⟨#[120]⟩ := rfl
  have e2 : ((some [120] : Tx).getD []).length = 1 := rfl
  rw [e1, e2] at hcv
  have HB4 := Lib.hid (HB3.out.trans (hb4.mono HB3.out.size))
  rw [e2]
  clear hb4 hr e1 e2 HG
  go_wp2
  go_ret
  exact ⟨rfl, HB4.out⟩
end Go.Proofs.Ytejmmjlmnfnacaa
