/- FrameCuts: the walk. -/
import Derived.Test.YthaggdkfaglgaaaDoorFrameScan
import Derived.Test.YthaggdkfaglgaaaDoorFrameAwake
import Derived.Test.YthaggdkfaglgaaaDoorFrameRefLay
namespace Go.Proofs.YthaggdkfaglgaaaDoor
set_option maxRecDepth 20000
open Go.RowKit FrameMath CrcMath

theorem row_cap {w : World} {B : Nat} {v : Value} {l : List UInt8} (h : Row w B v l) : ∃ a cap, v = .slice a l.length cap ∧ l.length ≤ cap := by
  rcases h.2 with ⟨rfl, h0⟩ | ⟨g, cap, cur, rfl, _, _, h1, _⟩
  · exact ⟨none, 0, by rw [h0], by omega⟩
  · exact ⟨_, cap, rfl, h1⟩

/-- Between two rounds of the counting. -/
def CutAt (w : World) (T : List (List UInt8)) (m : Nat) (s11 s12 s13 : Value) (wr : World) : Prop :=
  ∃ i : Nat, i ≤ T.length ∧ s13 = .int .i64 i ∧ s11 = .int .i64 i ∧ s12 = .int .i64 ((layF (T.take i)).length : Int) ∧ (layF (T.take i)).length ≤ m ∧ Below w.heap.size w wr

theorem layF_one (t : List UInt8) : layF [t] = frameF t := by simp [layF]

theorem mod_place (x : Int) (L : Nat) (hL : L ≤ 34374418432) : ∃ m : Nat, wrap64 ((IntKind.u64.wrap x).tmod ((L : Int) + 1)) = (m : Int) ∧ m ≤ L := by
  rw [IntKind.wrap_u64]
  have h0 : 0 ≤ x % 18446744073709551616 := Int.emod_nonneg _ (by decide)
  rw [Int.tmod_eq_emod_of_nonneg h0]
  have h1 : 0 ≤ (x % 18446744073709551616) % ((L : Int) + 1) := Int.emod_nonneg _ (by omega)
  have h2 : (x % 18446744073709551616) % ((L : Int) + 1) < (L : Int) + 1 := Int.emod_lt_of_pos _ (by omega)
  refine ⟨((x % 18446744073709551616) % ((L : Int) + 1)).toNat, ?_, by omega⟩
  rw [IntWalk.wrap64_in _ ⟨by omega, by omega⟩, Int.toNat_of_nonneg h1]

set_option maxRecDepth 100000 in
set_option maxHeartbeats 2000000 in
theorem cuts_walk (a : Option Addr) (len cap : Nat) (T : List (List UInt8)) (at_ : Int) (am : Option Addr) (lm cm : Nat) (M : List UInt8) (w : World) (hv : Txs w (.slice a len cap) T) (hTl : T.length = len) (hlc : len ≤ cap) (hn : len ≤ 1048576)
    (hM : Bys w (.slice am lm cm) M) (hMl : M.length = lm) (hMc : lm ≤ cm) (hMn : lm ≤ 1048576) (ht : Tab w) :
    Calls Tryd.prog 4 #[.slice a len cap, .int .i64 at_, .slice am lm cm] w fun e w' => e = .returned (.bool true) ∧ Below w.heap.size w w' := by
  have HV := Lib.hid hv
  have HT := Lib.hid ht
  have HTl := Lib.hid hTl
  have HM := Lib.hid hM
  have HMl := Lib.hid hMl
  obtain ⟨n, hnn⟩ : ∃ n, n = len := ⟨_, rfl⟩
  rw [← hnn] at hlc hn HV HTl ⊢
  clear hv ht hTl hM hMl hnn
  go_enter Tryd.func4, Tryd.ntmps4
  go_wp2_with fail
  refine (fawake_any _ HT.out).mono ?_
  rintro e w1 ⟨rfl, hb1⟩
  have B1 := Lib.hid hb1
  have K2 := Lib.hid (lay_any (.slice a n cap) T w1 (HV.out.keep hb1) (by have := HTl.out; omega) (HT.out.below (Nat.le_refl _) hb1))
  clear hb1
  go_wp2_with fail
  refine K2.out.mono ?_
  rintro e w2 ⟨hb2, hc2⟩
  have B2 := Lib.hid (B1.out.trans (hb2.mono B1.out.size))
  rcases hc2 with ⟨hall, v, rfl, hr⟩ | ⟨-, rfl⟩
  case inr =>
    clear hb2 K2
    go_wp2
    go_ret
    exact ⟨rfl, B2.out⟩
  obtain ⟨a7, c7, rfl, hc7⟩ := row_cap hr
  obtain ⟨L, hL⟩ : ∃ L, L = (layF T).length := ⟨_, rfl⟩
  have HAll := Lib.hid hall
  have HR2 := Lib.hid hr
  have hLle : L ≤ 34374418432 := by
    have h1 := layF_le T hall
    have h2 := Nat.mul_le_mul_right 32781 (show T.length ≤ 1048576 by have := HTl.out; omega)
    omega
  rw [← hL] at hc7 HR2 ⊢
  have HL := Lib.hid hL
  have K3 := Lib.hid (scan_any a7 L c7 (layF T) w2 HR2.out.bys HL.out.symm hc7 (by omega) (HT.out.below (Nat.le_refl _) B2.out))
  clear hall hr hL K2 hb2
  go_wp2_with fail
  refine K3.out.mono ?_
  rintro e w3 ⟨hb3, T3, p3, l3, hT3, rfl, hl3⟩
  have B3 := Lib.hid (B2.out.trans (hb3.mono B2.out.size))
  have HR3 := Lib.hid (HR2.out.below hb3)
  obtain ⟨rfl, hp3⟩ : T3 = T ∧ p3 = L := by
    have h := (Scans.stop (b := []) (c := 2) rfl).lay T HAll.out
    simp only [List.append_nil, Nat.add_zero] at h
    rw [HL.out]
    exact hT3.unique h
  subst hp3
  have KS := Lib.hid (same_any l3 (.slice a n cap) T3 w3 hl3.txs (HV.out.keep B3.out) (by have := HTl.out; omega))
  obtain ⟨T, hTT⟩ : ∃ T, T = T3 := ⟨_, rfl⟩
  subst hTT
  clear hT3 hl3 hb3 K3 HR2
  go_wp2_with fail
  refine KS.out.mono ?_
  rintro e w4 ⟨rfl, q, rfl⟩
  clear KS
  go_wp2_with fail
  obtain ⟨m, hm, hmL⟩ := mod_place at_ p3 hLle
  rw [hm]
  clear hm
  have B4 := Lib.hid (below_dn B3.out q)
  have HR4 := Lib.hid (show Row (w3.drewN q) w1.heap.size (.slice a7 p3 c7) (layF T) from HR3.out)
  obtain ⟨w4, hw4⟩ : ∃ w4, w4 = w3.drewN q := ⟨_, rfl⟩
  rw [← hw4] at B4 HR4 ⊢
  clear hw4 HR3
  go_loopw [11, 12, 13] (fun s11 s12 s13 wr => CutAt w4 T m s11 s12 s13 wr) (fun _ _ s13 _ => n - (intOf s13).toNat)
  case atStart => exact ⟨0, Nat.zero_le _, rfl, rfl, by simp [layF], by simp [layF], Below.refl _ _⟩
  case round =>
    obtain ⟨i, hi, rfl, rfl, rfl, him, hbel⟩ := hrel
    have hin : i ≤ n := by have := HTl.out; omega
    obtain ⟨d, hd⟩ : ∃ d, d = (layF (T.take i)).length := ⟨_, rfl⟩
    rw [← hd] at him ⊢
    have HD := Lib.hid hd
    have HB := Lib.hid (B4.out.trans (hbel.mono B4.out.size))
    have HR := Lib.hid (HR4.out.below hbel)
    have HW := Lib.hid hbel
    clear hi hbel hd
    by_cases hlt : i < n
    · obtain ⟨t, hti⟩ : ∃ t, T[i]? = some t := ⟨T[i]'(by have := HTl.out; omega), List.getElem?_eq_getElem _⟩
      have hsl := slice_txs a n cap i (i + 1) (by omega) (by omega)
      rw [Int.natCast_add, Int.cast_ofNat_Int] at hsl
      have hone := (HV.out.keep HB.out).one i t hti
      obtain ⟨a6, l6, c6, h6⟩ : ∃ a6 l6 c6, sliced a i (i + 1) cap 1 = .slice a6 l6 c6 := ⟨_, _, _, rfl⟩
      rw [h6] at hsl hone
      have htl := HAll.out t (List.mem_of_getElem? hti)
      have K := Lib.hid (lay_any (.slice a6 l6 c6) [t] wr hone (by simp) (HT.out.below (Nat.le_refl _) HB.out))
      have HTi := Lib.hid hti
      have HTt := Lib.hid htl
      have i0 : (0 : Int) ≤ (i : Int) := Int.natCast_nonneg _
      have i1 : (i : Int) < (n : Int) := by omega
      have hsw := hsl wr
      clear hsl hone h6 hti htl
      go_wp2_with fail
      refine K.out.mono ?_
      rintro e w5 ⟨hb5, hc5⟩
      have HB5 := Lib.hid (HB.out.trans (hb5.mono HB.out.size))
      have HW5 := Lib.hid (HW.out.trans (hb5.mono HW.out.size))
      have HR5 := Lib.hid (HR.out.below hb5)
      rcases hc5 with ⟨-, v, rfl, hr5⟩ | ⟨⟨u, hu, hul⟩, -⟩
      case inr =>
        simp only [List.mem_singleton] at hu
        subst hu
        exact absurd hul (by have := HTt.out; omega)
      rw [layF_one] at hr5
      obtain ⟨a8, c8, rfl, -⟩ := row_cap hr5
      have hfl := frameF_le t HTt.out
      have hsn : (layF (T.take (i + 1))).length = d + (frameF t).length := by rw [layF_snoc T i t HTi.out, List.length_append, ← HD.out]
      obtain ⟨f, hf⟩ : ∃ f, f = (frameF t).length := ⟨_, rfl⟩
      rw [← hf] at hfl hsn ⊢
      have HF := Lib.hid hf
      have HSn := Lib.hid hsn
      clear hb5 hr5 hf hsn K hsw
      by_cases hbrk : m < d + f
      · have HScan := Lib.hid (Scans.cut (T := T) (w := i) (at_ := m) HAll.out (by rw [← HD.out]; exact him) (fun u hu => by
          have e := HTi.out.symm.trans hu
          cases e
          rw [← HD.out, ← HF.out]
          exact hbrk) (fun e => by have := HTl.out; omega))
        rw [← HD.out] at HScan
        obtain ⟨wo, hwo⟩ : ∃ wo : World, wo = w5 := ⟨_, rfl⟩
        have HBo := Lib.hid HB5.out
        have HRo := Lib.hid HR5.out
        rw [← hwo] at HBo HRo ⊢
        clear hwo HB5 HR5
        have hst := slice_to a7 p3 c7 m (by omega) wo
        have hml : ((layF T).take m).length = m := by rw [List.length_take]; have := HL.out; omega
        have K5 := Lib.hid (scan_any a7 m c7 ((layF T).take m) wo (HRo.out.bys.take m (by have := HL.out; omega)) hml (by omega) (by omega) (HT.out.below (Nat.le_refl _) HBo.out))
        clear hml
        go_wp2_with fail
        refine K5.out.mono ?_
        rintro e w5 ⟨hb5, T5, p5, l5, hT5, rfl, hl5⟩
        obtain ⟨rfl, rfl⟩ := hT5.unique HScan.out
        have B5 := Lib.hid (HBo.out.trans (hb5.mono HBo.out.size))
        have HR5 := Lib.hid (HRo.out.below hb5)
        have hsl2 := slice_txs_to a n cap i (by omega) w5
        have KS := Lib.hid (same_any l5 (.slice a i cap) (T.take i) w5 hl5.txs ((HV.out.keep B5.out).take i (by omega)) (by rw [List.length_take]; have := HTl.out; omega))
        clear hst hT5 hl5 hb5 K5
        go_wp2_with fail
        refine KS.out.mono ?_
        rintro e w6 ⟨rfl, q6, hw6⟩
        have B6 := Lib.hid (show Below w.heap.size w w6 by rw [hw6]; exact below_dn B5.out q6)
        have HR6 := Lib.hid (show Row w6 w1.heap.size (.slice a7 p3 c7) (layF T) by rw [hw6]; exact HR5.out)
        have hba := (Below.refl w6.heap.size w6).alloc (Nat.le_refl _) (.cells #[] 5)
        have A1 := Lib.hid (append_lit (B := w6.heap.size) (Nat.le_refl _) (heap_alloc_new w6 (.cells #[] 5)) (HR6.out.bys.below (Nat.le_refl _) hba) (by have := HL.out; omega))
        clear hw6 KS hsl2 HR5 hba
        go_wp2_with (first | (at_builtin; refine wpList_append_by rfl _ _ 22 rfl _ _ rfl rfl _ A1.out ?_; rintro x w7 ⟨hr7, hb7⟩; (have hba7 := (Below.refl w6.heap.size w6).alloc (Nat.le_refl _) (.cells #[] 5)); (have hb67 := hba7.trans (hb7.mono hba7.size)); (have A2 := Lib.hid (grow_row (w := w6) (B := w6.heap.size) hb67.size hr7 (HM.out.below (Nat.le_refl _) (B6.out.trans (hb67.mono B6.out.size))) (by have := HL.out; have := HMl.out; omega) hb67)); clear hr7 hb7 hba7 hb67 A1) | (at_builtin; refine wpList_append_by rfl _ _ 22 rfl _ _ rfl rfl _ A2.out ?_; rintro y w8 ⟨hr8, hb8⟩; (have HR8 := Lib.hid hr8); (have HB8 := Lib.hid hb8); clear hr8 hb8 A2))
        obtain ⟨ay, cy, rfl, hcy⟩ := row_cap HR8.out
        have B8 := Lib.hid (B6.out.trans (HB8.out.mono B6.out.size))
        have hN : (layF T ++ M).length = p3 + lm := by rw [List.length_append, ← HL.out, HMl.out]
        have K9 := Lib.hid (scan_any ay (p3 + lm) cy (layF T ++ M) w8 (by have h := HR8.out.bys; rw [hN] at h; exact h) hN (by omega) (by omega) (HT.out.below (Nat.le_refl _) B8.out))
        rw [hN]
        clear hN hcy
        refine K9.out.mono ?_
        rintro e w9 ⟨hb9, T9, p9, l9, hT9, rfl, hl9⟩
        have B9 := Lib.hid (B8.out.trans (hb9.mono B8.out.size))
        have K10 := Lib.hid (scan_any am lm cm M w9 (HM.out.below (Nat.le_refl _) B9.out) HMl.out hMc (by omega) (HT.out.below (Nat.le_refl _) B9.out))
        have HL9 := Lib.hid hl9
        have HT9 := Lib.hid hT9
        clear hb9 hl9 hT9 K9
        go_wp2_with fail
        refine K10.out.mono ?_
        rintro e w10 ⟨hb10, T10, p10, l10, hT10, rfl, hl10⟩
        have B10 := Lib.hid (B9.out.trans (hb10.mono B9.out.size))
        have HL10 := Lib.hid (HL9.out.keep hb10).txs
        obtain ⟨a10, c10, rfl, hc10, -⟩ := hl10.txs
        have hle := hT10.le
        obtain ⟨rfl, rfl⟩ := HT9.out.unique (hT10.lay T HAll.out)
        obtain ⟨a9, c9, rfl, hc9, -⟩ := HL10.out
        have hlen : (T ++ T10).length = n + T10.length := by rw [List.length_append, HTl.out]
        have htk := HL10.out.take n (by rw [List.length_append, HTl.out]; omega)
        rw [List.take_left' HTl.out] at htk
        have KS := Lib.hid (same_any (.slice a9 n c9) (.slice a n cap) T w10 htk (HV.out.keep B10.out) (by have := HTl.out; omega))
        obtain ⟨no, hno⟩ : ∃ no, no = T10.length := ⟨_, rfl⟩
        have hsl := slice_txs_to a9 (n + no) c9 n (by omega) w10
        have hno1 : no ≤ 1048576 := by have := HMl.out; omega
        have hp10 : p10 ≤ 1048576 := by have := HMl.out; omega
        rw [hlen, ← hno, ← HL.out]
        clear hb10 hT10 hl10 hle hlen htk hno hc9 hc10 HL10 HL9 HT9 K10
        go_wp2_with fail
        refine KS.out.mono ?_
        rintro e w11 ⟨rfl, q11, rfl⟩
        go_wp2
        go_ret
        exact ⟨rfl, below_dn B10.out q11⟩
      · go_wp2
        go_roundw
        case rel => exact ⟨i + 1, by have := HTl.out; omega, by go_num, by go_num, by rw [HSn.out]; go_num, by rw [HSn.out]; omega, HW5.out⟩
        case measure => simp [intOf]; omega
    · obtain rfl : i = n := by omega
      have HScan := Lib.hid (Scans.cut (T := T) (w := i) (at_ := m) HAll.out (by rw [← HD.out]; exact him) (fun u hu => by
          have := (List.getElem?_eq_some_iff.1 hu).1
          have := HTl.out
          omega) (fun e => by
          have h1 := HD.out
          rw [List.take_of_length_le (by have := HTl.out; omega)] at h1
          have := HL.out
          omega))
      rw [← HD.out] at HScan
      obtain ⟨wo, hwo⟩ : ∃ wo : World, wo = wr := ⟨_, rfl⟩
      have HBo := Lib.hid HB.out
      have HRo := Lib.hid HR.out
      rw [← hwo] at HBo HRo ⊢
      clear hwo HB HR
      have hst := slice_to a7 p3 c7 m (by omega) wo
      have hml : ((layF T).take m).length = m := by rw [List.length_take]; have := HL.out; omega
      have K5 := Lib.hid (scan_any a7 m c7 ((layF T).take m) wo (HRo.out.bys.take m (by have := HL.out; omega)) hml (by omega) (by omega) (HT.out.below (Nat.le_refl _) HBo.out))
      clear hml
      go_wp2_with fail
      refine K5.out.mono ?_
      rintro e w5 ⟨hb5, T5, p5, l5, hT5, rfl, hl5⟩
      obtain ⟨rfl, rfl⟩ := hT5.unique HScan.out
      have B5 := Lib.hid (HBo.out.trans (hb5.mono HBo.out.size))
      have HR5 := Lib.hid (HRo.out.below hb5)
      have hsl2 := slice_txs_to a i cap i (by omega) w5
      have KS := Lib.hid (same_any l5 (.slice a i cap) (T.take i) w5 hl5.txs ((HV.out.keep B5.out).take i (by omega)) (by rw [List.length_take]; have := HTl.out; omega))
      clear hst hT5 hl5 hb5 K5
      go_wp2_with fail
      refine KS.out.mono ?_
      rintro e w6 ⟨rfl, q6, hw6⟩
      have B6 := Lib.hid (show Below w.heap.size w w6 by rw [hw6]; exact below_dn B5.out q6)
      have HR6 := Lib.hid (show Row w6 w1.heap.size (.slice a7 p3 c7) (layF T) by rw [hw6]; exact HR5.out)
      have hba := (Below.refl w6.heap.size w6).alloc (Nat.le_refl _) (.cells #[] 5)
      have A1 := Lib.hid (append_lit (B := w6.heap.size) (Nat.le_refl _) (heap_alloc_new w6 (.cells #[] 5)) (HR6.out.bys.below (Nat.le_refl _) hba) (by have := HL.out; omega))
      clear hw6 KS hsl2 HR5 hba
      go_wp2_with (first | (at_builtin; refine wpList_append_by rfl _ _ 22 rfl _ _ rfl rfl _ A1.out ?_; rintro x w7 ⟨hr7, hb7⟩; (have hba7 := (Below.refl w6.heap.size w6).alloc (Nat.le_refl _) (.cells #[] 5)); (have hb67 := hba7.trans (hb7.mono hba7.size)); (have A2 := Lib.hid (grow_row (w := w6) (B := w6.heap.size) hb67.size hr7 (HM.out.below (Nat.le_refl _) (B6.out.trans (hb67.mono B6.out.size))) (by have := HL.out; have := HMl.out; omega) hb67)); clear hr7 hb7 hba7 hb67 A1) | (at_builtin; refine wpList_append_by rfl _ _ 22 rfl _ _ rfl rfl _ A2.out ?_; rintro y w8 ⟨hr8, hb8⟩; (have HR8 := Lib.hid hr8); (have HB8 := Lib.hid hb8); clear hr8 hb8 A2))
      obtain ⟨ay, cy, rfl, hcy⟩ := row_cap HR8.out
      have B8 := Lib.hid (B6.out.trans (HB8.out.mono B6.out.size))
      have hN : (layF T ++ M).length = p3 + lm := by rw [List.length_append, ← HL.out, HMl.out]
      have K9 := Lib.hid (scan_any ay (p3 + lm) cy (layF T ++ M) w8 (by have h := HR8.out.bys; rw [hN] at h; exact h) hN (by omega) (by omega) (HT.out.below (Nat.le_refl _) B8.out))
      rw [hN]
      clear hN hcy
      refine K9.out.mono ?_
      rintro e w9 ⟨hb9, T9, p9, l9, hT9, rfl, hl9⟩
      have B9 := Lib.hid (B8.out.trans (hb9.mono B8.out.size))
      have K10 := Lib.hid (scan_any am lm cm M w9 (HM.out.below (Nat.le_refl _) B9.out) HMl.out hMc (by omega) (HT.out.below (Nat.le_refl _) B9.out))
      have HL9 := Lib.hid hl9
      have HT9 := Lib.hid hT9
      clear hb9 hl9 hT9 K9
      go_wp2_with fail
      refine K10.out.mono ?_
      rintro e w10 ⟨hb10, T10, p10, l10, hT10, rfl, hl10⟩
      have B10 := Lib.hid (B9.out.trans (hb10.mono B9.out.size))
      have HL10 := Lib.hid (HL9.out.keep hb10).txs
      obtain ⟨a10, c10, rfl, hc10, -⟩ := hl10.txs
      have hle := hT10.le
      obtain ⟨rfl, rfl⟩ := HT9.out.unique (hT10.lay T HAll.out)
      obtain ⟨a9, c9, rfl, hc9, -⟩ := HL10.out
      have hlen : (T ++ T10).length = i + T10.length := by rw [List.length_append, HTl.out]
      have htk := HL10.out.take i (by rw [List.length_append, HTl.out]; omega)
      rw [List.take_left' HTl.out] at htk
      have KS := Lib.hid (same_any (.slice a9 i c9) (.slice a i cap) T w10 htk (HV.out.keep B10.out) (by have := HTl.out; omega))
      obtain ⟨no, hno⟩ : ∃ no, no = T10.length := ⟨_, rfl⟩
      have hsl := slice_txs_to a9 (i + no) c9 i (by omega) w10
      have hno1 : no ≤ 1048576 := by have := HMl.out; omega
      have hp10 : p10 ≤ 1048576 := by have := HMl.out; omega
      rw [hlen, ← hno, ← HL.out]
      clear hb10 hT10 hl10 hle hlen htk hno hc9 hc10 HL10 HL9 HT9 K10
      go_wp2_with fail
      refine KS.out.mono ?_
      rintro e w11 ⟨rfl, q11, rfl⟩
      go_wp2
      go_ret
      exact ⟨rfl, below_dn B10.out q11⟩

theorem cuts_all (w : World) (tab : Tab w) (a : Option Addr) (len cap : Nat) (T : List (List UInt8)) (hT : Txs w (.slice a len cap) T) (_hl : ∀ t ∈ T, t.length ≤ 1048576) (hn : T.length ≤ 1048576 ∧ T.length = len ∧ len ≤ cap) (at_ : Int) (_hat : (Lit.int .i64 at_).wf = true)
    (am : Option Addr) (lm cm : Nat) (M : List UInt8) (hM : Bys w (.slice am lm cm) M) (hMl : M.length = lm) (hMn : M.length ≤ 1048576 ∧ lm ≤ cm) :
    Calls Tryd.prog 4 #[.slice a len cap, .int .i64 at_, .slice am lm cm] w fun e w' => e = .returned (.bool true) ∧ Below w.heap.size w w' :=
  cuts_walk a len cap T at_ am lm cm M w hT hn.2.1 hn.2.2 (by omega) hM hMl hMn.2 (by omega) tab
end Go.Proofs.YthaggdkfaglgaaaDoor
