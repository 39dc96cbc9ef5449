/- The reference's Get. -/
import Derived.Test.YtboongdoggggoaaGaugeGet
namespace Go.Proofs.Ytboongdoggggoaa
set_option maxRecDepth 20000
open Go.RowKit EdgeMath BinMath

theorem wrap_le (x : Nat) (z : Int) (h : z = (x : Int)) (hx : x ≤ 1152921504606846976) : wrap64 z = (x : Int) := by
  rw [h]
  exact IntWalk.wrap64_in _ ⟨by omega, by omega⟩

set_option maxRecDepth 100000 in
set_option maxHeartbeats 400000 in
theorem refgget_any (a : Option Addr) (len cap : Nat) (l : List UInt8) (C : Nat) (B : G) (w : World) (hx : Bys w (.slice a len cap) l) (hll : l.length ≤ 140737488351232) (hlc : len ≤ cap) (hnil : a = none → cap = 0) (hr : ggetR l = (C, B)) :
    Calls Try.prog 30 #[.slice a len cap] w fun e w' => e = .returned (.tuple #[.agg B.cells, .int .i64 (C : Int)]) ∧ Below w.heap.size w w' := by
  have hst := fun x w a md => run_store_float (P := Try.prog) .f64 x w a md
  have HX := Lib.hid hx
  have HLen := Lib.hid (bys_cells hx).1
  have HRes := Lib.hid hr
  obtain ⟨g2, hg2⟩ : ∃ g, g = w.heap.size := ⟨_, rfl⟩
  have HG2 := Lib.hid hg2
  obtain ⟨Q, hQ⟩ : ∃ g, g = w.heap.size + 1 := ⟨_, rfl⟩
  obtain ⟨W2, hW2⟩ : ∃ W, W = (w.alloc (.cells #[.int .u64 0, .float .f64 0, .float .f64 0, .float .f64 0, .float .f64 0] 54)).alloc (.cells #[.slice a len cap, .int .i64 0, .int .i64 0] 30) := ⟨_, rfl⟩
  have HK2 := Lib.hid (show GBlk W2 g2 G.zero by rw [hW2]; exact Blk.alloc (Blk.newAt _ _ _ _ _ hg2 rfl) _)
  have HB2 := Lib.hid (show Below w.heap.size w W2 by rw [hW2]; exact ((Below.refl _ _).alloc (Nat.le_refl _) _).alloc (by simp) _)
  have hrf : IsRef W2 Q w.heap.size a cap l 0 0 := by
    refine ⟨?_, Nat.zero_le _, hll, ⟨by rw [← HLen.out]; exact hlc, hnil⟩, by omega, fun i hi => ?_⟩
    · rw [hW2, hQ, ← HLen.out]
      exact Blk.newAt _ _ _ _ _ (by simp) rfl
    · obtain ⟨ad, he, hc⟩ : ∃ ad, a = some ad ∧ w.cell? (ad.add i) = some (bv l[i]) := by
        rcases hx with ⟨h1, h2⟩ | ⟨ad, cap', h1, h2⟩
        · rw [h2] at hi; simp at hi
        · injection h1 with h1 _ _
          exact ⟨ad, h1, h2 i hi⟩
      have hlt := World.block_lt_of_cell? w _ hc
      refine ⟨ad, he, by rw [add_block] at hlt; exact hlt, ?_⟩
      rw [HB2.out.cell hlt]
      exact hc
  have HRf := Lib.hid hrf
  have hq := refNum_any Q l 0 0 W2 hrf
  obtain ⟨n, c, k, hS⟩ : ∃ n c k, numS l 0 0 = (n, c, k) := ⟨_, _, _, rfl⟩
  rw [hS] at hq
  have HQ := Lib.hid hq
  have HS := Lib.hid hS
  have hres2 : ggetN l n c k = (C, B) := by
    have := HRes.out
    unfold ggetR at this
    rw [hS] at this
    exact this
  have HRes2 := Lib.hid hres2
  have HW2 := Lib.hid hW2
  have HQe := Lib.hid hQ
  have HGQ := Lib.hid (show g2 ≠ Q by omega)
  have HQw := Lib.hid (show w.heap.size ≤ Q by omega)
  clear hx hr hq hS hres2 HRes hrf hW2 hnil hg2 hQ
  go_enter Try.func30, Try.ntmps30
  go_upto_region 2 with fail
  rw [← HG2.out]
  rw [show g2 + 1 = Q by rw [HQe.out, HG2.out]]
  refine world_cut (fun W => W = W2) (by rw [HW2.out]) ?_
  rintro _ rfl
  go_wp2_with fail
  refine HQ.out.mono ?_
  rintro e w3 ⟨ho, rfl, hrd3⟩
  have HR3 := Lib.hid hrd3
  have HB3 := Lib.hid (HB2.out.trans (ho.below HQw.out HB2.out.size))
  have HK3 := Lib.hid (only_gblk HK2.out ho HGQ.out)
  clear ho hrd3 HQ HB2 HK2 HW2
  by_cases hc : c = 0
  · have hc' : ((c : Int) != 0) = false := by subst hc; rfl
    obtain ⟨hnb, hback, -⟩ := numS_zero HS.out
    have hf := HR3.out.facts
    have hlen := HLen.out
    have hkl : k ≤ len := by rw [hlen]; exact HR3.out.2.1
    obtain ⟨r, hre⟩ : ∃ r, r = l.drop k := ⟨_, rfl⟩
    have hrl : r.length = len - k := by rw [hre, List.length_drop]; omega
    obtain ⟨m, hm⟩ : ∃ m, m = len - k := ⟨_, rfl⟩
    have hlk : l.length - k = m := by omega
    have hkm : k + m = len := by omega
    have hlb : len ≤ 140737488351232 := by omega
    rw [← hm] at hrl
    have hres3 : (if m < 32 then (2, G.zero) else if bad r ≠ 0 then (bad r, G.zero) else if 32 < m then (5, G.zero) else (0, part n r 4)) = (C, B) := by
      have h := HRes2.out
      unfold ggetN at h
      rw [if_neg (by simp [hc]), hlk, ← hre] at h
      exact h
    have hL := fun W h => refLeft_any (a := a) (cap := cap) (G := w.heap.size) Q l k 0 W h
    rw [hlk] at hL
    have HL := Lib.hid hL
    have HRl := Lib.hid hrl
    have HRe := Lib.hid hre
    have HRes3 := Lib.hid hres3
    have HN := Lib.hid hnb
    have HKm := Lib.hid hkm
    have HLb := Lib.hid hlb
    have HLc := Lib.hid hlc
    have HR3' := Lib.hid (show IsRef w3 Q w.heap.size a cap l k 0 by have h := HR3.out; rw [hc] at h; exact h)
    clear hf hback hlen hkl hre hrl hres3 hm hlk HRes2 hnb hlc hll hc hL hkm hlb
    by_cases hm32 : m < 32
    · have hd32 : decide ((m : Int) < 32) = true := by simp; omega
      obtain ⟨rfl, rfl⟩ : C = 2 ∧ B = G.zero := by
        have h := HRes3.out
        rw [if_pos hm32] at h
        injection h with h1 h2
        exact ⟨h1.symm, h2.symm⟩
      clear hm32 HRes3
      go_wp2_with (first
        | (go_at_call 23; refine (HL.out _ HR3'.out).mono ?_; rintro e w4 ⟨rfl, q, hw4⟩; (have HK4 := Lib.hid (show GBlk w4 g2 G.zero by rw [hw4]; exact HK3.out)); (have HB4 := Lib.hid (show Below w.heap.size w w4 by rw [hw4]; exact below_drewN HB3.out _)); clear hw4 HL)
        | (refine wpList_store_row rfl 54 (.tmp 2) (.tmp 27) rfl g2 G.zero.cells rfl rfl 54 _ HK4.out (gcells_info _) rfl (gcells_one _) ?_))
      exact bodyPost_ret (v := .tuple #[.agg G.zero.cells, .int .i64 2]) (ret_gauge rfl _ _ g2 G.zero _ rfl rfl (Blk.row HK4.out _)) rfl ⟨rfl, below_setRow HB4.out _ _ (by rw [HG2.out]; exact Nat.le_refl _)⟩
    · have hd32 : decide ((m : Int) < 32) = false := by simp; omega
      have HM := Lib.hid hm32
      have HRes4 := Lib.hid (show (if bad r ≠ 0 then (bad r, G.zero) else if 32 < m then (5, G.zero) else (0, part n r 4)) = (C, B) by
        have h := HRes3.out
        rw [if_neg hm32] at h
        exact h)
      clear hm32 HRes3
      go_upto_region 7 with (go_at_call 23; refine (HL.out _ HR3'.out).mono ?_; rintro e w4 ⟨rfl, q, hw4⟩; (have HK4 := Lib.hid (show GBlk w4 g2 G.zero by rw [hw4]; exact HK3.out)); (have HB4 := Lib.hid (show Below w.heap.size w w4 by rw [hw4]; exact below_drewN HB3.out _)); (have HR4 := Lib.hid (show IsRef w4 Q w.heap.size a cap l k 0 by rw [hw4]; exact HR3'.out.drewN q)); clear hw4)
      clear hd32 HK3 HB3 HR3 HR3'
      go_upto_region 8 with fail
      refine world_cut (fun W => GBlk W g2 G.zero ∧ ABlk W w4.heap.size r 0 ∧ IsRef W Q w.heap.size a cap l k 0 ∧ Below w.heap.size w W) ?_ ?_
      · exact ⟨Blk.alloc HK4.out _, Blk.newAt _ _ _ _ _ rfl rfl, HR4.out.below ((Below.refl _ _).alloc (Nat.le_refl _) _), HB4.out.alloc HB4.out.size _⟩
      have hg7w := HB4.out.size
      have hg27 : g2 ≠ w4.heap.size := by have := Blk.lt HK4.out; omega
      have hgq7 : Q ≠ w4.heap.size := by have := HR4.out.facts; omega
      obtain ⟨g7, hg7⟩ : ∃ g, g = w4.heap.size := ⟨_, rfl⟩
      rw [← hg7] at hg7w hg27 hgq7 ⊢
      have HG7 := Lib.hid hg7w
      have HNe := Lib.hid hg27
      have HNq := Lib.hid hgq7
      clear hg7w hg7 hg27 hgq7 HB4 HK4 HR4
      rintro W5 ⟨h1, h2, h3, h4⟩
      have HK5 := Lib.hid h1
      have HA5 := Lib.hid h2
      have HR5 := Lib.hid h3
      have HB5 := Lib.hid h4
      clear h1 h2 h3 h4
      go_wp2
      go_loopw [8] (fun s8 wr => ∃ i : Nat, i ≤ 4 ∧ s8 = .int .i64 (i : Int) ∧ (∀ j, j < i → cB r j = 0) ∧ GBlk wr g2 G.zero ∧ ABlk wr g7 r i ∧ IsRef wr Q w.heap.size a cap l k 0 ∧ Below w.heap.size w wr) (fun s8 _ => 4 - (intOf s8).toNat)
      case atStart => exact ⟨0, by omega, rfl, fun j hj => by omega, HK5.out, HA5.out, HR5.out, HB5.out⟩
      case round =>
        obtain ⟨i, hi, rfl, hno, hk2, ha7, hrr, hbel⟩ := hrel
        have HNo := Lib.hid hno
        have HK := Lib.hid hk2
        have HA := Lib.hid ha7
        have HR := Lib.hid hrr
        have HB := Lib.hid hbel
        clear hno hk2 ha7 hrr hbel HK5 HA5 HR5 HB5
        by_cases hlt : i < 4
        · have h84 : 8 * i + 8 ≤ m := by have := HM.out; omega
          have hxr : Bys wr (.slice a len cap) l := HX.out.below (Nat.le_refl _) HB.out
          have hh84 : k + 8 * i + 8 ≤ len := by have := HKm.out; omega
          obtain ⟨a8, hsl8, hby8⟩ := bys_mid a len cap (k + 8 * i) (k + 8 * i + 8) l wr hxr (by omega) hh84 HLc.out
          rw [pc_drop, ← HRe.out] at hby8
          have hpl := pc_length r i (by rw [HRl.out]; exact h84)
          have e88 : k + 8 * i + 8 - (k + 8 * i) = 8 := by omega
          rw [e88] at hsl8 hby8
          have hge : ∀ W, Below wr.heap.size wr W → Calls Try.prog 68 #[.slice a8 8 (cap - (k + 8 * i))] W fun e w' => e = .returned (.tuple #[.float .f64 (fB r i), .int .i64 (cB r i : Int)]) ∧ W = w' := fun W hW =>
            refget_any _ (pc r i) (fB r i) (cB r i) W (hby8.below (Nat.le_refl _) hW) (by omega) rfl
          have hlo2 : k + 8 * i ≤ 140737488351232 := by have := HLb.out; omega
          obtain ⟨f, hf⟩ : ∃ f, f = fB r i := ⟨_, rfl⟩
          obtain ⟨c8, hc8⟩ : ∃ c, c = cB r i := ⟨_, rfl⟩
          obtain ⟨cm8, hcm8⟩ : ∃ c, c = cap - (k + 8 * i) := ⟨_, rfl⟩
          obtain ⟨lo, hlo⟩ : ∃ c, c = k + 8 * i := ⟨_, rfl⟩
          obtain ⟨hi8, hhi⟩ : ∃ c, c = k + 8 * i + 8 := ⟨_, rfl⟩
          rw [← hf, ← hc8, ← hcm8] at hge
          rw [← hcm8, ← hhi, ← hlo] at hsl8
          have HW1 := Lib.hid (wrap_le lo ((k : Int) + ((8 * i : Nat) : Int)) (by omega) (by omega))
          have HW2 := Lib.hid (wrap_le hi8 ((lo : Int) + 8) (by omega) (by omega))
          have hq1 : wr.cell? ⟨Q, 1, none⟩ = some (.int .i64 (k : Int)) := HR.out.cells.2.1
          have HF := Lib.hid hf
          have HC8 := Lib.hid hc8
          have HGe := Lib.hid hge
          clear hby8 hpl e88 hge hf hc8 hcm8 h84 hxr hh84 hlo2 hlo hhi
          by_cases hc8 : c8 = 0
          · have hc8' : ((c8 : Int) != 0) = false := by subst hc8; rfl
            have HZ := Lib.hid hc8
            clear hc8
            obtain rfl | rfl | rfl | rfl : i = 0 ∨ i = 1 ∨ i = 2 ∨ i = 3 := by omega
            · have hcell : ∃ v, wr.cell? ⟨g7, 0, none⟩ = some v := ⟨_, by rw [Blk.cell HA.out]; rfl⟩
              obtain ⟨v0, hcell⟩ := hcell
              have hfr : wr.frozen? ⟨g7, 0, none⟩ = false := Blk.frozen HA.out 0
              have hw1 : wrap64 (k : Int) = (lo : Int) := by have h := HW1.out; simpa using h
              have hw2 := HW2.out
              go_wp2_with (go_at_call 68; refine (HGe.out _ (Below.refl _ _)).mono ?_; rintro e w' ⟨rfl, rfl⟩)
              go_roundw
              case rel =>
                clear hw1 hw2
                refine ⟨1, by omega, by go_num, fun j hj => ?_, Blk.other HK.out _ _ HNe.out, ?_, HR.out.to (fun g hg => Below.heap_setCell _ _ _ _ (by have := HG7.out; show g ≠ g7; omega)) (fun h => by rw [Below.heap_setCell _ _ _ _ (show Q ≠ g7 from HNq.out)]; exact h) HR.out.2.1, HB.out.setCell HG7.out _⟩
                · by_cases hj' : j < 0
                  · exact HNo.out j hj'
                  · obtain rfl : j = 0 := by omega
                    rw [← HC8.out]
                    exact HZ.out
                · have h := Blk.set HA.out 0 (.float .f64 f)
                  rw [HF.out] at h ⊢
                  exact h
              case measure => simp [intOf]
            · have hcell : ∃ v, wr.cell? ⟨g7, 1, none⟩ = some v := ⟨_, by rw [Blk.cell HA.out]; rfl⟩
              obtain ⟨v0, hcell⟩ := hcell
              have hfr : wr.frozen? ⟨g7, 1, none⟩ = false := Blk.frozen HA.out 1
              have hw1 : wrap64 ((k : Int) + 8) = (lo : Int) := by have h := HW1.out; simpa using h
              have hw2 := HW2.out
              go_wp2_with (go_at_call 68; refine (HGe.out _ (Below.refl _ _)).mono ?_; rintro e w' ⟨rfl, rfl⟩)
              go_roundw
              case rel =>
                clear hw1 hw2
                refine ⟨2, by omega, by go_num, fun j hj => ?_, Blk.other HK.out _ _ HNe.out, ?_, HR.out.to (fun g hg => Below.heap_setCell _ _ _ _ (by have := HG7.out; show g ≠ g7; omega)) (fun h => by rw [Below.heap_setCell _ _ _ _ (show Q ≠ g7 from HNq.out)]; exact h) HR.out.2.1, HB.out.setCell HG7.out _⟩
                · by_cases hj' : j < 1
                  · exact HNo.out j hj'
                  · obtain rfl : j = 1 := by omega
                    rw [← HC8.out]
                    exact HZ.out
                · have h := Blk.set HA.out 1 (.float .f64 f)
                  rw [HF.out] at h ⊢
                  exact h
              case measure => simp [intOf]
            · have hcell : ∃ v, wr.cell? ⟨g7, 2, none⟩ = some v := ⟨_, by rw [Blk.cell HA.out]; rfl⟩
              obtain ⟨v0, hcell⟩ := hcell
              have hfr : wr.frozen? ⟨g7, 2, none⟩ = false := Blk.frozen HA.out 2
              have hw1 : wrap64 ((k : Int) + 16) = (lo : Int) := by have h := HW1.out; simpa using h
              have hw2 := HW2.out
              go_wp2_with (go_at_call 68; refine (HGe.out _ (Below.refl _ _)).mono ?_; rintro e w' ⟨rfl, rfl⟩)
              go_roundw
              case rel =>
                clear hw1 hw2
                refine ⟨3, by omega, by go_num, fun j hj => ?_, Blk.other HK.out _ _ HNe.out, ?_, HR.out.to (fun g hg => Below.heap_setCell _ _ _ _ (by have := HG7.out; show g ≠ g7; omega)) (fun h => by rw [Below.heap_setCell _ _ _ _ (show Q ≠ g7 from HNq.out)]; exact h) HR.out.2.1, HB.out.setCell HG7.out _⟩
                · by_cases hj' : j < 2
                  · exact HNo.out j hj'
                  · obtain rfl : j = 2 := by omega
                    rw [← HC8.out]
                    exact HZ.out
                · have h := Blk.set HA.out 2 (.float .f64 f)
                  rw [HF.out] at h ⊢
                  exact h
              case measure => simp [intOf]
            · have hcell : ∃ v, wr.cell? ⟨g7, 3, none⟩ = some v := ⟨_, by rw [Blk.cell HA.out]; rfl⟩
              obtain ⟨v0, hcell⟩ := hcell
              have hfr : wr.frozen? ⟨g7, 3, none⟩ = false := Blk.frozen HA.out 3
              have hw1 : wrap64 ((k : Int) + 24) = (lo : Int) := by have h := HW1.out; simpa using h
              have hw2 := HW2.out
              go_wp2_with (go_at_call 68; refine (HGe.out _ (Below.refl _ _)).mono ?_; rintro e w' ⟨rfl, rfl⟩)
              go_roundw
              case rel =>
                clear hw1 hw2
                refine ⟨4, by omega, by go_num, fun j hj => ?_, Blk.other HK.out _ _ HNe.out, ?_, HR.out.to (fun g hg => Below.heap_setCell _ _ _ _ (by have := HG7.out; show g ≠ g7; omega)) (fun h => by rw [Below.heap_setCell _ _ _ _ (show Q ≠ g7 from HNq.out)]; exact h) HR.out.2.1, HB.out.setCell HG7.out _⟩
                · by_cases hj' : j < 3
                  · exact HNo.out j hj'
                  · obtain rfl : j = 3 := by omega
                    rw [← HC8.out]
                    exact HZ.out
                · have h := Blk.set HA.out 3 (.float .f64 f)
                  rw [HF.out] at h ⊢
                  exact h
              case measure => simp [intOf]
          · have hc8' : ((c8 : Int) != 0) = true := by simp; omega
            obtain ⟨rfl, rfl⟩ : C = c8 ∧ B = G.zero := by
              have hb := bad_at hlt HNo.out (by rw [← HC8.out]; exact hc8)
              have h := HRes4.out
              rw [hb, ← HC8.out, if_pos hc8] at h
              injection h with h1 h2
              exact ⟨h1.symm, h2.symm⟩
            clear hc8 HRes4
            obtain rfl | rfl | rfl | rfl : i = 0 ∨ i = 1 ∨ i = 2 ∨ i = 3 := by omega
            · have hcell : ∃ v, wr.cell? ⟨g7, 0, none⟩ = some v := ⟨_, by rw [Blk.cell HA.out]; rfl⟩
              obtain ⟨v0, hcell⟩ := hcell
              have hfr : wr.frozen? ⟨g7, 0, none⟩ = false := Blk.frozen HA.out 0
              have hw1 : wrap64 (k : Int) = (lo : Int) := by have h := HW1.out; simpa using h
              have hw2 := HW2.out
              go_wp2_with (first
                | (go_at_call 68; refine (HGe.out _ (Below.refl _ _)).mono ?_; rintro e w' ⟨rfl, rfl⟩)
                | (refine wpList_store_row rfl 54 (.tmp 2) (.tmp 50) rfl g2 G.zero.cells rfl rfl 54 _ HK.out (gcells_info _) rfl (gcells_one _) ?_))
              exact bodyPost_ret (v := .tuple #[.agg G.zero.cells, .int .i64 (C : Int)]) (ret_gauge rfl _ _ g2 G.zero _ rfl rfl (Blk.row HK.out _)) rfl ⟨rfl, below_setRow HB.out _ _ (by rw [HG2.out]; exact Nat.le_refl _)⟩
            · have hcell : ∃ v, wr.cell? ⟨g7, 1, none⟩ = some v := ⟨_, by rw [Blk.cell HA.out]; rfl⟩
              obtain ⟨v0, hcell⟩ := hcell
              have hfr : wr.frozen? ⟨g7, 1, none⟩ = false := Blk.frozen HA.out 1
              have hw1 : wrap64 ((k : Int) + 8) = (lo : Int) := by have h := HW1.out; simpa using h
              have hw2 := HW2.out
              go_wp2_with (first
                | (go_at_call 68; refine (HGe.out _ (Below.refl _ _)).mono ?_; rintro e w' ⟨rfl, rfl⟩)
                | (refine wpList_store_row rfl 54 (.tmp 2) (.tmp 50) rfl g2 G.zero.cells rfl rfl 54 _ HK.out (gcells_info _) rfl (gcells_one _) ?_))
              exact bodyPost_ret (v := .tuple #[.agg G.zero.cells, .int .i64 (C : Int)]) (ret_gauge rfl _ _ g2 G.zero _ rfl rfl (Blk.row HK.out _)) rfl ⟨rfl, below_setRow HB.out _ _ (by rw [HG2.out]; exact Nat.le_refl _)⟩
            · have hcell : ∃ v, wr.cell? ⟨g7, 2, none⟩ = some v := ⟨_, by rw [Blk.cell HA.out]; rfl⟩
              obtain ⟨v0, hcell⟩ := hcell
              have hfr : wr.frozen? ⟨g7, 2, none⟩ = false := Blk.frozen HA.out 2
              have hw1 : wrap64 ((k : Int) + 16) = (lo : Int) := by have h := HW1.out; simpa using h
              have hw2 := HW2.out
              go_wp2_with (first
                | (go_at_call 68; refine (HGe.out _ (Below.refl _ _)).mono ?_; rintro e w' ⟨rfl, rfl⟩)
                | (refine wpList_store_row rfl 54 (.tmp 2) (.tmp 50) rfl g2 G.zero.cells rfl rfl 54 _ HK.out (gcells_info _) rfl (gcells_one _) ?_))
              exact bodyPost_ret (v := .tuple #[.agg G.zero.cells, .int .i64 (C : Int)]) (ret_gauge rfl _ _ g2 G.zero _ rfl rfl (Blk.row HK.out _)) rfl ⟨rfl, below_setRow HB.out _ _ (by rw [HG2.out]; exact Nat.le_refl _)⟩
            · have hcell : ∃ v, wr.cell? ⟨g7, 3, none⟩ = some v := ⟨_, by rw [Blk.cell HA.out]; rfl⟩
              obtain ⟨v0, hcell⟩ := hcell
              have hfr : wr.frozen? ⟨g7, 3, none⟩ = false := Blk.frozen HA.out 3
              have hw1 : wrap64 ((k : Int) + 24) = (lo : Int) := by have h := HW1.out; simpa using h
              have hw2 := HW2.out
              go_wp2_with (first
                | (go_at_call 68; refine (HGe.out _ (Below.refl _ _)).mono ?_; rintro e w' ⟨rfl, rfl⟩)
                | (refine wpList_store_row rfl 54 (.tmp 2) (.tmp 50) rfl g2 G.zero.cells rfl rfl 54 _ HK.out (gcells_info _) rfl (gcells_one _) ?_))
              exact bodyPost_ret (v := .tuple #[.agg G.zero.cells, .int .i64 (C : Int)]) (ret_gauge rfl _ _ g2 G.zero _ rfl rfl (Blk.row HK.out _)) rfl ⟨rfl, below_setRow HB.out _ _ (by rw [HG2.out]; exact Nat.le_refl _)⟩
        · obtain rfl : i = 4 := by omega
          have hb0 := bad_none HNo.out
          by_cases hm5 : 32 < m
          · have hd5 : decide ((32 : Int) < (m : Int)) = true := by simp; omega
            obtain ⟨rfl, rfl⟩ : C = 5 ∧ B = G.zero := by
              have h := HRes4.out
              rw [if_neg (by simp [hb0]), if_pos hm5] at h
              injection h with h1 h2
              exact ⟨h1.symm, h2.symm⟩
            clear hm5 HRes4 hb0
            go_wp2_with (first
              | (go_at_call 23; refine (HL.out _ HR.out).mono ?_; rintro e w9 ⟨rfl, q, hw9⟩; (have HK9 := Lib.hid (show GBlk w9 g2 G.zero by rw [hw9]; exact HK.out)); (have HB9 := Lib.hid (show Below w.heap.size w w9 by rw [hw9]; exact below_drewN HB.out _)); clear hw9)
              | (refine wpList_store_row rfl 54 (.tmp 2) (.tmp 58) rfl g2 G.zero.cells rfl rfl 54 _ HK9.out (gcells_info _) rfl (gcells_one _) ?_))
            exact bodyPost_ret (v := .tuple #[.agg G.zero.cells, .int .i64 5]) (ret_gauge rfl _ _ g2 G.zero _ rfl rfl (Blk.row HK9.out _)) rfl ⟨rfl, below_setRow HB9.out _ _ (by rw [HG2.out]; exact Nat.le_refl _)⟩
          · have hd5 : decide ((32 : Int) < (m : Int)) = false := by simp; omega
            obtain ⟨rfl, rfl⟩ : C = 0 ∧ B = part n r 4 := by
              have h := HRes4.out
              rw [if_neg (by simp [hb0]), if_neg hm5] at h
              injection h with h1 h2
              exact ⟨h1.symm, h2.symm⟩
            clear hm5 HRes4 hb0
            go_upto_region 18 with (go_at_call 23; refine (HL.out _ HR.out).mono ?_; rintro e w9 ⟨rfl, q, hw9⟩; (have HK9 := Lib.hid (show GBlk w9 g2 G.zero by rw [hw9]; exact HK.out)); (have HA9 := Lib.hid (show ABlk w9 g7 r 4 by rw [hw9]; exact HA.out)); (have HB9 := Lib.hid (show Below w.heap.size w w9 by rw [hw9]; exact below_drewN HB.out _)); clear hw9)
            have hz0 : w9.cell? ⟨g7, 0, none⟩ = some (.float .f64 (fB r 0)) := by rw [Blk.cell HA9.out]; rfl
            have hz1 : w9.cell? ⟨g7, 1, none⟩ = some (.float .f64 (fB r 1)) := by rw [Blk.cell HA9.out]; rfl
            have hz2 : w9.cell? ⟨g7, 2, none⟩ = some (.float .f64 (fB r 2)) := by rw [Blk.cell HA9.out]; rfl
            have hz3 : w9.cell? ⟨g7, 3, none⟩ = some (.float .f64 (fB r 3)) := by rw [Blk.cell HA9.out]; rfl
            go_wp2_with (refine wpList_store_row rfl 54 (.tmp 2) (.tmp 68) rfl g2 (part n r 4).cells rfl rfl 54 _ HK9.out (gcells_info _) rfl (gcells_one _) ?_)
            exact bodyPost_ret (v := .tuple #[.agg (part n r 4).cells, .int .i64 0]) (ret_gauge rfl _ _ g2 (part n r 4) _ rfl rfl (Blk.row HK9.out _)) rfl ⟨rfl, below_setRow HB9.out _ _ (by rw [HG2.out]; exact Nat.le_refl _)⟩
  · have hc' : ((c : Int) != 0) = true := by simp; omega
    obtain ⟨rfl, rfl⟩ : C = c ∧ B = G.zero := by
      have h := HRes2.out
      unfold ggetN at h
      rw [if_pos hc] at h
      injection h with h1 h2
      exact ⟨h1.symm, h2.symm⟩
    clear hc HRes2
    go_wp2_with (refine wpList_store_row rfl 54 (.tmp 2) (.tmp 22) rfl g2 G.zero.cells rfl rfl 54 _ HK3.out (gcells_info _) rfl (gcells_one _) ?_)
    exact bodyPost_ret (v := .tuple #[.agg G.zero.cells, .int .i64 (C : Int)]) (ret_gauge rfl _ _ g2 G.zero _ rfl rfl (Blk.row HK3.out _)) rfl ⟨rfl, below_setRow HB3.out _ _ (by rw [HG2.out]; exact Nat.le_refl _)⟩

end Go.Proofs.Ytboongdoggggoaa
