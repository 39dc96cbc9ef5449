/- FrameLong: the walk. -/
import Derived.Test.YthaggdkfaglgaaaDoorFrameScan
import Derived.Test.YthaggdkfaglgaaaDoorFrameAwake
import Derived.Test.YthaggdkfaglgaaaDoorFrameRefLay
import Derived.Test.YthaggdkfaglgaaaDoorFrameTurned
import Derived.Deep.Cut
import Derived.BigQuiet
import Derived.Deep.QuietTactic
namespace Go.Proofs.YthaggdkfaglgaaaDoor
set_option maxRecDepth 20000
open Go.RowKit FrameMath CrcMath

theorem made_zeros (n : Nat) : (madeCells (Value.int .u8 0).cells (n * 1)).toList = (List.replicate n (0 : UInt8)).map bv := by
  apply List.ext_getElem?
  intro i
  rw [Array.getElem?_toList]
  by_cases hi : i < n
  · rw [Array.getElem?_eq_getElem (by rw [size_madeCells]; omega)]
    simp [madeCells, hi, bv, Value.cells, Nat.mod_one]
  · rw [Array.getElem?_eq_none (by rw [size_madeCells]; omega), List.getElem?_eq_none (by simp; omega)]

theorem made_row {w : World} {B g n : Nat} (h : w.ownsRow B 5 1 (.slice (some ⟨g, 0, none⟩) n n) n (madeCells (Value.int .u8 0).cells (n * 1)).toList) : Row w B (.slice (some ⟨g, 0, none⟩) n n) (List.replicate n 0) := by
  unfold Row
  rw [List.length_replicate, ← made_zeros]
  exact h

/-- A list of two texts, as it is laid. -/
theorem txs_two {W : World} {A A2 : Option Addr} {n C n2 C2 : Nat} {t u : List UInt8} (h : Bys W (.slice A n C) t) (hn : t.length = n) (h2 : Bys W (.slice A2 n2 C2) u) (hn2 : u.length = n2) : Txs (W.alloc (.cells #[.slice A n C, .slice A2 n2 C2] 22)) (.slice (some ⟨W.heap.size, 0, none⟩) 2 2) [t, u] := by
  subst hn hn2
  have hb := (Below.refl W.heap.size W).alloc (Nat.le_refl _) (.cells #[.slice A t.length C, .slice A2 u.length C2] 22)
  refine ⟨_, 2, rfl, Nat.le_refl _, fun i x hi => ?_⟩
  have hlt := (List.getElem?_eq_some_iff.1 hi).1
  simp only [List.length_cons, List.length_nil] at hlt
  match i, hlt with
  | 0, _ =>
    simp at hi
    subst hi
    exact ⟨_, A, C, rfl, by simp [Addr.add, World.cell?_alloc_at], h.below (Nat.le_refl _) hb⟩
  | 1, _ =>
    simp at hi
    subst hi
    exact ⟨_, A2, C2, rfl, by simp [Addr.add, World.cell?_alloc_at], h2.below (Nat.le_refl _) hb⟩

set_option maxRecDepth 100000 in
set_option maxHeartbeats 2000000 in
theorem long_walk (more : Int) (c : UInt8) (w : World) (ht : Tab w) :
    Calls Tryd.prog 6 #[.int .i64 more, .int .u8 (c.toNat : Int)] w fun e w' => e = .returned (.bool true) ∧ Below w.heap.size w w' := by
  obtain ⟨i0, hi, hz0, hz1, hz2⟩ := info_parts info_byte
  have HT := Lib.hid ht
  obtain ⟨cb, hcb⟩ : ∃ b : Nat, b = c.toNat := ⟨_, rfl⟩
  rw [← hcb]
  have hcb255 : cb ≤ 255 := by have := c.toNat_lt; omega
  have HCb := Lib.hid hcb
  obtain ⟨r, hr, hr5⟩ := byte_place more 5 (by omega) (by omega)
  rw [Int.cast_ofNat_Int] at hr
  obtain ⟨N, hN⟩ : ∃ N : Nat, (32766 : Int) + (r : Int) = (N : Int) := ⟨32766 + r, by omega⟩
  have hN1 : 32766 ≤ N := by omega
  have hN2 : N ≤ 32770 := by omega
  have HN := Lib.hid hN
  clear ht hcb hN
  go_enter Tryd.func6, Tryd.ntmps6
  go_wp2_with fail
  refine (fawake_any _ HT.out).mono ?_
  rintro e w1 ⟨rfl, hb1⟩
  have B1 := Lib.hid hb1
  clear hb1
  go_upto_region 4 with fail
  rw [HN.out]
  clear hr
  obtain ⟨hf, hhf⟩ : ∃ h : Nat, h = N / 2 := ⟨_, rfl⟩
  have hh1 : hf < N := by omega
  have hhN : (N : Int) / 2 = (hf : Int) := by omega
  have hhT : (N : Int).tdiv 2 = (hf : Int) := by rw [Int.tdiv_eq_ediv_of_nonneg (by omega)]; exact hhN
  have HHf := Lib.hid hhf
  clear hhf
  have hrl : (List.replicate N (0 : UInt8)).length = N := List.length_replicate
  have hr0 : ∀ (h : hf < (List.replicate N (0 : UInt8)).length), (List.replicate N (0 : UInt8))[hf] = 0 := fun h => by simp
  obtain ⟨Z, hZ⟩ : ∃ Z, Z = List.replicate N (0 : UInt8) := ⟨_, rfl⟩
  rw [← hZ] at hrl hr0
  have HZ := Lib.hid hZ
  have HRl := Lib.hid hrl
  have HR0 := Lib.hid hr0
  clear hZ hrl hr0
  go_wp2_with (at_make; refine wpList_make_full _ rfl _ _ 22 rfl w1.heap.size 5 i0 (.int .u8 0) 1 Tryd.underlying22 hi hz0 hz1 _ _ _ _ N rfl rfl rfl rfl (by rw [hz2]; omega) (by unfold maxLen; omega) (Nat.le_refl _) ?_; intro w2 hown hgrow; (have HB2 := Lib.hid ((Below.refl _ w1).grown hgrow (Nat.le_refl _) (by simp))); (have HRow := Lib.hid (made_row hown)); (rw [← HZ.out] at HRow); (obtain ⟨hcell, hfree⟩ := row_at HRow.out hf (by rw [HRl.out]; exact hh1)); (rw [HR0.out, show bv 0 = .int .u8 0 from rfl] at hcell); clear hown hgrow)
  clear hcell hfree hhN hhT
  have hset := row_set HRow.out hf c
  rw [show bv c = .int .u8 (cb : Int) by rw [bv, HCb.out]] at hset
  obtain ⟨X, hX⟩ : ∃ X, X = Z.set hf c := ⟨_, rfl⟩
  have hXl : X.length = N := by rw [hX, List.length_set, HRl.out]
  rw [← hX] at hset
  obtain ⟨w3, hw3⟩ : ∃ w3, w3 = w2.setCell ⟨w1.heap.size, hf, none⟩ (.int .u8 (cb : Int)) := ⟨_, rfl⟩
  have B3 := Lib.hid (show Below w.heap.size w w3 by rw [hw3]; exact (B1.out.trans (HB2.out.mono B1.out.size)).setCell B1.out.size _)
  have hsz : w2.heap.size = w3.heap.size := by rw [hw3]; simp
  rw [← hw3] at hset ⊢
  rw [hsz]
  have HXl := Lib.hid hXl
  have HR3 := Lib.hid hset
  obtain ⟨g, hg⟩ : ∃ g, g = w1.heap.size := ⟨_, rfl⟩
  rw [← hg] at HR3 ⊢
  have hba := (Below.refl w3.heap.size w3).alloc (Nat.le_refl _) (.cells #[.int .u8 1] 5)
  have htx := txs_two (W := w3.alloc (.cells #[.int .u8 1] 5)) (byte_bys w3 1) rfl (HR3.out.bys.below (Nat.le_refl _) hba) HXl.out
  rw [World.size_alloc] at htx
  have hbb := hba.alloc hba.size (.cells #[.slice (some ⟨w3.heap.size, 0, none⟩) 1 1, .slice (some ⟨g, 0, none⟩) N N] 22)
  have B5 := Lib.hid (B3.out.trans (hbb.mono B3.out.size))
  have HR5 := Lib.hid (HR3.out.below hbb)
  have K := lay_any _ [[1], X] _ htx (by simp) (HT.out.below (Nat.le_refl _) B5.out)
  refine K.mono ?_
  clear K htx hba hX hXl hw3 hset hg hsz
  rintro e w6 ⟨hb6, hc6⟩
  have B6 := Lib.hid (B5.out.trans (hb6.mono B5.out.size))
  have HR6 := Lib.hid (HR5.out.below hb6)
  clear hb6 hbb HR5 HR3 HRow
  by_cases hbig : 32768 < N
  · rcases hc6 with ⟨hall, -⟩ | ⟨-, rfl⟩
    · exact absurd (hall X (by simp)) (by have := HXl.out; omega)
    have K7 := Lib.hid (refframe_any (.slice (some ⟨g, 0, none⟩) N N) X w6 HR6.out.bys (by have := HXl.out; omega))
    go_wp2_with fail
    refine K7.out.mono ?_
    rintro e w7 ⟨v7, rfl, hr7, hb7⟩
    have B7 := Lib.hid (B6.out.trans (hb7.mono B6.out.size))
    obtain ⟨a7, c7, rfl, hc7⟩ := row_cap hr7
    have hFl : (frameF X).length ≤ 32783 := by
      have h1 := BinMath.numL_length X.length
      have h2 := BinMath.nb_le X.length (by have := HXl.out; omega)
      rw [frameF_length]
      have := HXl.out
      omega
    have K8 := Lib.hid (one_any a7 (frameF X).length c7 (frameF X) w7 hr7.bys rfl hc7 (by omega) (HT.out.below (Nat.le_refl _) B7.out))
    obtain ⟨F, hF⟩ : ∃ F, F = (frameF X).length := ⟨_, rfl⟩
    rw [← hF] at K8 hFl ⊢
    have HBig := Lib.hid (one_big X (by rw [HXl.out]; exact hbig) (by have := HXl.out; omega))
    clear hF hr7 hb7 hc7 K7
    go_wp2_with fail
    refine K8.out.mono ?_
    rintro e w8 ⟨hb8, hc8⟩
    rw [HBig.out] at hc8
    simp only at hc8
    subst hc8
    have B8 := Lib.hid (B7.out.trans (hb8.mono B7.out.size))
    clear hb8 K8
    go_wp2
    go_ret
    exact ⟨rfl, B8.out⟩
  · rcases hc6 with ⟨hall, v7, rfl, hr7⟩ | ⟨⟨u, hu, hul⟩, -⟩
    case inr =>
      simp only [List.mem_cons, List.not_mem_nil, or_false] at hu
      rcases hu with rfl | rfl
      · simp at hul
      · exact absurd hul (by have := HXl.out; omega)
    obtain ⟨a7, c7, rfl, hc7⟩ := row_cap hr7
    have hLl := layF_le _ hall
    simp only [List.length_cons, List.length_nil] at hLl
    have K7 := Lib.hid (scan_any a7 (layF [[1], X]).length c7 (layF [[1], X]) w6 hr7.bys rfl hc7 (by omega) (HT.out.below (Nat.le_refl _) B6.out))
    have hS := (Scans.stop (b := []) (c := 2) rfl).lay [[1], X] hall
    simp only [List.append_nil, Nat.add_zero] at hS
    have HS := Lib.hid hS
    obtain ⟨L, hL⟩ : ∃ L, L = (layF [[1], X]).length := ⟨_, rfl⟩
    rw [← hL] at K7 HS hLl ⊢
    clear hL hr7 hc7 hall hS
    go_wp2_with fail
    refine K7.out.mono ?_
    rintro e w8 ⟨hb8, T8, p8, l8, hT8, rfl, hl8⟩
    obtain ⟨rfl, rfl⟩ := hT8.unique HS.out
    have B8 := Lib.hid (B6.out.trans (hb8.mono B6.out.size))
    obtain ⟨a8, c8, rfl, hc8, h8⟩ := hl8.txs
    obtain ⟨ad8, A8, C8, rfl, e8, x8⟩ := h8 1 X rfl
    rw [HXl.out] at e8 x8
    have e9 : w8.cell? ⟨ad8.block, ad8.off + 1, none⟩ = some (.slice A8 N C8) := by simpa [Addr.add] using e8
    have HR8 := Lib.hid (HR6.out.below hb8)
    have q1 : ∀ q, (convert 22 9 (.slice A8 N C8)).run Tryd.prog (w8.drewN q) = .ok (.string ⟨X.toArray⟩) (w8.drewN q) := fun q => conv_bys (show Bys (w8.drewN q) _ X from x8)
    have q2 : ∀ q, (convert 22 9 (.slice (some ⟨g, 0, none⟩) N N)).run Tryd.prog (w8.drewN q) = .ok (.string ⟨X.toArray⟩) (w8.drewN q) := fun q => conv_bys (show Bys (w8.drewN q) _ X from HR8.out.bys)
    obtain ⟨XS, hXS⟩ : ∃ XS : ByteArray, XS = ⟨X.toArray⟩ := ⟨_, rfl⟩
    rw [← hXS] at q1 q2
    have hl2 : [[1], X].length = 2 := rfl
    rw [hl2]
    rw [hl2] at hc8
    clear hb8 hT8 hl8 h8 x8 hXS hl2 K7
    go_wp2_with fail
    go_quiet (fail)
    go_wp2
    go_ret
    exact ⟨rfl, below_dn B8.out _⟩

theorem long_all (w : World) (tab : Tab w) (more : Int) (_hm : (Lit.int .i64 more).wf = true) (c : Int) (hc : (Lit.int .u8 c).wf = true) :
    Calls Tryd.prog 6 #[.int .i64 more, .int .u8 c] w fun e w' => e = .returned (.bool true) ∧ Below w.heap.size w w' := by
  have h := bounds_u8 hc
  obtain ⟨b, hb⟩ : ∃ b : UInt8, c = (b.toNat : Int) := ⟨UInt8.ofNat c.toNat, by simp; omega⟩
  rw [hb]
  exact long_walk more b w tab
end Go.Proofs.YthaggdkfaglgaaaDoor
