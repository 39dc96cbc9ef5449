/- FrameTurned: the walk. -/
import Derived.Test.YthaggdkfaglgaaaDoorFrameScan
import Derived.Test.YthaggdkfaglgaaaDoorFrameAwake
import Derived.Test.YthaggdkfaglgaaaDoorFrameRefLay
import Derived.Test.YthaggdkfaglgaaaDoorFrameCuts
namespace Go.Proofs.YthaggdkfaglgaaaDoor
set_option maxRecDepth 20000
open Go.RowKit FrameMath CrcMath

theorem byte_xor (a b : UInt8) : bits .xor .u8 (a.toNat : Int) (b.toNat : Int) = ((a ^^^ b).toNat : Int) := by
  rw [u8_xor_nat _ _ a.toNat_lt b.toNat_lt, UInt8.toNat_xor]

theorem byte_place (x : Int) (L : Nat) (h0 : 0 < L) (hL : L ≤ 34374418432) : ∃ m : Nat, wrap64 ((IntKind.u64.wrap x).tmod (L : Int)) = (m : Int) ∧ m < L := by
  rw [IntKind.wrap_u64]
  have h0 : 0 ≤ x % 18446744073709551616 := Int.emod_nonneg _ (by decide)
  rw [Int.tmod_eq_emod_of_nonneg h0]
  have h1 : 0 ≤ (x % 18446744073709551616) % (L : Int) := Int.emod_nonneg _ (by omega)
  have h2 : (x % 18446744073709551616) % (L : Int) < (L : Int) := Int.emod_lt_of_pos _ (by omega)
  refine ⟨((x % 18446744073709551616) % (L : Int)).toNat, ?_, by omega⟩
  rw [IntWalk.wrap64_in _ ⟨by omega, by omega⟩, Int.toNat_of_nonneg h1]

theorem lay_parts (T : List (List UInt8)) (k : Nat) (t : List UInt8) (hi : T[k]? = some t) : layF T = layF (T.take k) ++ (BinMath.numL t.length ++ ((t ++ sealF (rawF t)) ++ layF (T.drop (k + 1)))) := by
  obtain ⟨hlt, rfl⟩ := List.getElem?_eq_some_iff.1 hi
  have e : T = T.take k ++ T[k] :: T.drop (k + 1) := by rw [← List.drop_eq_getElem_cons hlt, List.take_append_drop]
  have e2 : layF T = layF (T.take k ++ T[k] :: T.drop (k + 1)) := by rw [← e]
  rw [e2]
  unfold layF
  rw [List.map_append, List.flatten_append, List.map_cons, List.flatten_cons]
  unfold frameF
  rw [show rawF T[k] = BinMath.numL T[k].length ++ T[k] from rfl]
  simp only [List.append_assoc]

/-- With one byte turned the records ahead of it are left. -/
theorem scans_turned (T : List (List UInt8)) (hT : ∀ t ∈ T, t.length ≤ 32768) (k : Nat) (t : List UInt8) (hi : T[k]? = some t) (r : Nat) (y z : UInt8) (hy : (layF T)[(layF (T.take k)).length + ((BinMath.numL t.length).length + r)]? = some y) (hr : r < t.length + 4) (hne : z ≠ y) :
    Scans ((layF T).set ((layF (T.take k)).length + ((BinMath.numL t.length).length + r)) z) (T.take k) (layF (T.take k)).length := by
  have htl := hT t (List.mem_of_getElem? hi)
  have hlen : (t ++ sealF (rawF t)).length = t.length + 4 := by rw [List.length_append, sealF_length]
  rw [lay_parts T k t hi] at hy ⊢
  rw [List.getElem?_append_right (by omega), Nat.add_sub_cancel_left, List.getElem?_append_right (by omega), Nat.add_sub_cancel_left, List.getElem?_append_left (by omega)] at hy
  rw [List.set_append_right _ _ (by omega), Nat.add_sub_cancel_left, List.set_append_right _ _ (by omega), Nat.add_sub_cancel_left, List.set_append_left _ _ (by omega), ← List.append_assoc (BinMath.numL t.length)]
  obtain ⟨c, hc⟩ := one_turned t (layF (T.drop (k + 1))) htl r y z hy hne
  have := (Scans.stop hc).lay (T.take k) fun u hu => hT u (List.mem_of_mem_take hu)
  simpa using this

set_option maxRecDepth 100000 in
set_option maxHeartbeats 2000000 in
theorem turned_walk (a : Option Addr) (len cap : Nat) (T : List (List UInt8)) (which at_ : Int) (by_ : UInt8) (w : World) (hv : Txs w (.slice a len cap) T) (hTl : T.length = len) (hlc : len ≤ cap) (hn : len ≤ 1048576) (ht : Tab w) :
    Calls Tryd.prog 5 #[.slice a len cap, .int .i64 which, .int .i64 at_, .int .u8 (by_.toNat : Int)] w fun e w' => e = .returned (.bool true) ∧ Below w.heap.size w w' := by
  have HV := Lib.hid hv
  have HT := Lib.hid ht
  have HTl := Lib.hid hTl
  obtain ⟨n, hnn⟩ : ∃ n, n = len := ⟨_, rfl⟩
  rw [← hnn] at hlc hn HV HTl ⊢
  obtain ⟨cb, hcb⟩ : ∃ c : Nat, c = by_.toNat := ⟨_, rfl⟩
  rw [← hcb]
  have hcb255 : cb ≤ 255 := by have := by_.toNat_lt; omega
  have HCb := Lib.hid hcb
  clear hv ht hTl hnn hcb
  go_enter Tryd.func5, Tryd.ntmps5
  go_wp2_with fail
  refine (fawake_any _ HT.out).mono ?_
  rintro e w1 ⟨rfl, hb1⟩
  have B1 := Lib.hid hb1
  have K2 := Lib.hid (lay_any (.slice a n cap) T w1 (HV.out.keep hb1) (by have := HTl.out; omega) (HT.out.below (Nat.le_refl _) hb1))
  clear hb1
  go_wp2_with fail
  refine K2.out.mono ?_
  rintro e w2 ⟨hb2, hc2⟩
  have B2 := Lib.hid (B1.out.trans (hb2.mono B1.out.size))
  rcases hc2 with ⟨hall, v, rfl, hr⟩ | ⟨-, rfl⟩
  case inr =>
    clear hb2 K2
    go_wp2
    go_ret
    exact ⟨rfl, B2.out⟩
  by_cases hn0 : n = 0
  · subst hn0
    clear hb2 K2 hr hall
    go_wp2
    go_ret
    exact ⟨rfl, B2.out⟩
  have hn1 : 0 < n := by omega
  by_cases hb0 : cb = 0
  · subst hb0
    clear hb2 K2 hr hall
    have d1 : decide ((n : Int) = 0) = false := by simp; omega
    have d2 : ((n : Int) == 0) = false := by simp; omega
    go_wp2
    go_ret
    exact ⟨rfl, B2.out⟩
  obtain ⟨wh, hwh, hwn⟩ := byte_place which n hn1 (by omega)
  obtain ⟨t, hti⟩ : ∃ t, T[wh]? = some t := ⟨T[wh]'(by have := HTl.out; omega), List.getElem?_eq_getElem _⟩
  have htl := hall t (List.mem_of_getElem? hti)
  obtain ⟨L, hL⟩ : ∃ L, L = (layF T).length := ⟨_, rfl⟩
  have hLle : L ≤ 34374418432 := by
    have h1 := layF_le T hall
    have h2 := Nat.mul_le_mul_right 32781 (show T.length ≤ 1048576 by have := HTl.out; omega)
    omega
  obtain ⟨d, hd⟩ : ∃ d, d = (layF (T.take wh)).length := ⟨_, rfl⟩
  obtain ⟨h, hh⟩ : ∃ h, h = (BinMath.numL t.length).length := ⟨_, rfl⟩
  obtain ⟨k, hk⟩ : ∃ k, k = t.length := ⟨_, rfl⟩
  have hLd : d + (h + (k + 4)) ≤ L := by
    rw [hL, lay_parts T wh t hti, List.length_append, List.length_append, List.length_append, List.length_append, sealF_length, ← hd, ← hh, ← hk]
    omega
  have hup : (layF (T.take (wh + 1))).length = d + (h + (k + 4)) := by
    rw [layF_snoc T wh t hti, List.length_append, ← hd, frameF_length, ← hh, ← hk]
    omega
  obtain ⟨g, c7, rfl, -, -, hc7, -⟩ := hr.shape (by intro e; rw [e] at hL; simp at hL; omega)
  rw [← hL] at hr hc7 ⊢
  have hh9 : h ≤ 9 := by
    rw [hh, BinMath.numL_length]
    have := BinMath.nb_le t.length (by omega)
    omega
  have HAll := Lib.hid hall
  have HTi := Lib.hid hti
  have HL := Lib.hid hL
  have HD := Lib.hid hd
  have HH := Lib.hid hh
  have HK := Lib.hid hk
  have HUp := Lib.hid hup
  have HR2 := Lib.hid hr
  have hk32 : k ≤ 32768 := by omega
  have HWh := Lib.hid hwh
  have hsl := slice_txs_to a n cap wh (by omega) w2
  have K3 := Lib.hid (lay_any (.slice a wh cap) (T.take wh) w2 ((HV.out.keep B2.out).take wh (by omega)) (by rw [List.length_take]; have := HTl.out; omega) (HT.out.below (Nat.le_refl _) B2.out))
  have d1 : decide ((n : Int) = 0) = false := by simp; omega
  have d2 : ((n : Int) == 0) = false := by simp; omega
  have d3 : decide ((cb : Int) = 0) = false := by simp; omega
  have d4 : ((cb : Int) == 0) = false := by simp; omega
  clear hb2 K2 hall hti hL hd hh hk hup hr htl hwh
  have hwh := HWh.out
  go_wp2_with fail
  rw [hwh]
  clear hwh hsl
  refine K3.out.mono ?_
  rintro e w3 ⟨hb3, hc3⟩
  have B3 := Lib.hid (B2.out.trans (hb3.mono B2.out.size))
  have HR3 := Lib.hid (HR2.out.below hb3)
  rcases hc3 with ⟨-, v3, rfl, hr3⟩ | ⟨⟨u, hu, hul⟩, -⟩
  case inr => exact absurd (HAll.out u (List.mem_of_mem_take hu)) (by omega)
  obtain ⟨a3, c3, rfl, -⟩ := row_cap hr3
  rw [← HD.out] at hr3 ⊢
  obtain ⟨p, hp⟩ : ∃ p, p = d + h := ⟨_, rfl⟩
  have hup : (layF (T.take (wh + 1))).length = p + (k + 4) := by rw [HUp.out]; omega
  have hpL : p + (k + 4) ≤ L := by omega
  have hdp : d ≤ p := by omega
  have HP := Lib.hid hp
  have HUp2 := Lib.hid hup
  have hsl := slice_txs_to a n cap (wh + 1) (by omega) w3
  rw [Int.natCast_add, Int.cast_ofNat_Int] at hsl
  have K4 := Lib.hid (lay_any (.slice a (wh + 1) cap) (T.take (wh + 1)) w3 ((HV.out.keep B3.out).take (wh + 1) (by omega)) (by rw [List.length_take]; have := HTl.out; omega) (HT.out.below (Nat.le_refl _) B3.out))
  clear hb3 hr3 hup hp K3 HR2 HUp hLd
  go_wp2_with fail
  refine K4.out.mono ?_
  rintro e w4 ⟨hb4, hc4⟩
  have B4 := Lib.hid (B3.out.trans (hb4.mono B3.out.size))
  have HR4 := Lib.hid (HR3.out.below hb4)
  rcases hc4 with ⟨-, v4, rfl, hr4⟩ | ⟨⟨u, hu, hul⟩, -⟩
  case inr => exact absurd (HAll.out u (List.mem_of_mem_take hu)) (by omega)
  obtain ⟨a4, c4, rfl, -⟩ := row_cap hr4
  rw [HUp2.out]
  obtain ⟨r, hr, hrk⟩ := byte_place at_ (k + 4) (by omega) (by omega)
  rw [Int.natCast_add, Int.cast_ofNat_Int] at hr
  have hidx : p + r < (layF T).length := by have := HL.out; omega
  obtain ⟨hcell, hfree⟩ := row_at HR4.out (p + r) hidx
  obtain ⟨y, hy⟩ : ∃ y, y = (layF T)[p + r] := ⟨_, rfl⟩
  obtain ⟨yb, hyb⟩ : ∃ b : Nat, b = y.toNat := ⟨_, rfl⟩
  obtain ⟨zb, hzb⟩ : ∃ b : Nat, b = (y ^^^ by_).toNat := ⟨_, rfl⟩
  rw [← hy, bv, ← hyb] at hcell
  have f1 : bits .xor .u8 (yb : Int) (cb : Int) = (zb : Int) := by rw [hyb, HCb.out, byte_xor, hzb]
  have hyb255 : yb ≤ 255 := by have := y.toNat_lt; omega
  have hzb255 : zb ≤ 255 := by have := (y ^^^ by_).toNat_lt; omega
  have hne : y ^^^ by_ ≠ y := by
    intro e
    have h1 := congrArg (y ^^^ ·) e
    simp only [UInt8.xor_self, ← UInt8.xor_assoc, UInt8.zero_xor] at h1
    rw [h1] at HCb
    exact hb0 HCb.out
  have HY := Lib.hid (show (layF T)[p + r]? = some y by rw [hy]; exact List.getElem?_eq_getElem hidx)
  have HZ := Lib.hid (show bv (y ^^^ by_) = .int .u8 (zb : Int) by rw [bv, hzb])
  have HNe := Lib.hid hne
  have hct : ∃ ad A C, a = some ad ∧ w4.cell? (ad.add wh) = some (.slice A k C) := by
    obtain ⟨a', c', e, h2, h3⟩ := HV.out
    cases e
    obtain ⟨ad, A, C, e1, e2, _⟩ := h3 wh t HTi.out
    refine ⟨ad, A, C, e1, ?_⟩
    rw [B4.out.cell (World.block_lt_of_cell? w _ e2), HK.out]
    exact e2
  obtain ⟨ad, A, C, rfl, hct⟩ := hct
  have HRk := Lib.hid hrk
  have i0 : (0 : Int) ≤ (wh : Int) := Int.natCast_nonneg _
  have i1 : (wh : Int) < (n : Int) := by omega
  clear hsl hb4 hr4 hidx hy hyb hzb hne K4 HR3
  go_wp2_with fail
  have hset := row_set HR4.out (p + r) (y ^^^ by_)
  rw [HZ.out] at hset
  have hg : w.heap.size ≤ g := by
    rcases HR4.out.2 with ⟨e, _⟩ | ⟨g', cap', cur, e, hB, _⟩
    · cases e
    · cases e
      exact Nat.le_trans B1.out.size hB
  obtain ⟨w5, hw5⟩ : ∃ w5, w5 = w4.setCell ⟨g, p + r, none⟩ (.int .u8 (zb : Int)) := ⟨_, rfl⟩
  have B5 := Lib.hid (show Below w.heap.size w w5 by rw [hw5]; exact B4.out.setCell hg _)
  rw [← hw5] at hset ⊢
  have hS : Scans ((layF T).set (p + r) (y ^^^ by_)) (T.take wh) d := by
    have h1 := HY.out
    have h2 := scans_turned T HAll.out wh t HTi.out r y (y ^^^ by_) (by rw [← HD.out, ← HH.out, ← Nat.add_assoc, ← HP.out]; exact h1) (by have := HK.out; omega) HNe.out
    rw [← HD.out, ← HH.out, ← Nat.add_assoc, ← HP.out] at h2
    exact h2
  have HS := Lib.hid hS
  have K5 := Lib.hid (scan_any (some ⟨g, 0, none⟩) L c7 ((layF T).set (p + r) (y ^^^ by_)) w5 hset.bys (by rw [List.length_set, HL.out]) hc7 (by omega) (HT.out.below (Nat.le_refl _) B5.out))
  clear hset hw5 hcell hfree hr f1 hS hct
  refine K5.out.mono ?_
  rintro e w6 ⟨hb6, T6, p6, l6, hT6, rfl, hl6⟩
  obtain ⟨rfl, rfl⟩ := hT6.unique HS.out
  have B6 := Lib.hid (B5.out.trans (hb6.mono B5.out.size))
  have hsl := slice_txs_to (some ad) n cap wh (by omega) w6
  have KS := Lib.hid (same_any l6 (.slice (some ad) wh cap) (T.take wh) w6 hl6.txs ((HV.out.keep B6.out).take wh (by omega)) (by rw [List.length_take]; have := HTl.out; omega))
  clear hb6 hT6 hl6 K5
  go_wp2_with fail
  refine KS.out.mono ?_
  rintro e w7 ⟨rfl, q7, rfl⟩
  go_wp2
  go_ret
  exact ⟨rfl, below_dn B6.out q7⟩

theorem turned_all (w : World) (tab : Tab w) (a : Option Addr) (len cap : Nat) (T : List (List UInt8)) (hT : Txs w (.slice a len cap) T) (_hl : ∀ t ∈ T, t.length ≤ 1048576) (hn : T.length ≤ 1048576 ∧ T.length = len ∧ len ≤ cap) (which : Int) (_hw : (Lit.int .i64 which).wf = true) (at_ : Int) (_hat : (Lit.int .i64 at_).wf = true) (by_ : Int) (hb : (Lit.int .u8 by_).wf = true) :
    Calls Tryd.prog 5 #[.slice a len cap, .int .i64 which, .int .i64 at_, .int .u8 by_] w fun e w' => e = .returned (.bool true) ∧ Below w.heap.size w w' := by
  have h := bounds_u8 hb
  obtain ⟨c, hc⟩ : ∃ c : UInt8, by_ = (c.toNat : Int) := ⟨UInt8.ofNat by_.toNat, by simp; omega⟩
  rw [hc]
  exact turned_walk a len cap T which at_ c w hT hn.2.1 hn.2.2 (by omega) tab
end Go.Proofs.YthaggdkfaglgaaaDoor
