/- BinReads: the walk. -/
import Derived.Test.YtboongdoggggoaaBinOwn
import Derived.Test.YtboongdoggggoaaFacts
namespace Go.Proofs.Ytboongdoggggoaa
set_option maxRecDepth 20000
open Go.RowKit BinMath Reg

/-- The calls that came in. -/
def OpsAt (w : World) (sa : Option Addr) (S : List (Int × Int)) : Prop := ∀ (i : Nat) (k m : Int), S[i]? = some (k, m) → (-9223372036854775808 ≤ k ∧ k ≤ 9223372036854775807) ∧ (-9223372036854775808 ≤ m ∧ m ≤ 9223372036854775807) ∧ ∃ ad, sa = some ad ∧ w.cell? (ad.add (i * 2)) = some (.int .i64 k) ∧ w.cell? ⟨(ad.add (i * 2)).block, (ad.add (i * 2)).off + 1, none⟩ = some (.int .i64 m)

set_option maxRecDepth 100000 in
set_option maxHeartbeats 4000000 in
theorem reads_walk (a : Option Addr) (len cap : Nat) (l : List UInt8) (sa : Option Addr) (ns cs : Nat) (S : List (Int × Int)) (w : World) (hv : Bys w (.slice a len cap) l) (hll : l.length ≤ 140737488351232) (hlc : len ≤ cap) (hnc : a = none → cap = 0) (hS : OpsAt w sa S) (hns : ns = S.length) :
    Calls Try.prog 3 #[.slice a len cap, .slice sa ns cs] w fun e w' => e = .returned (.bool true) ∧ Below w.heap.size w w' := by
  have HV := Lib.hid hv
  have HLen := Lib.hid (bys_cells hv).1
  have HNc := Lib.hid hnc
  have HS := Lib.hid hS
  have HNs := Lib.hid hns
  have HLl := Lib.hid hll
  have HLc := Lib.hid hlc
  clear hv hnc hS hns
  go_enter Try.func3, Try.ntmps3
  go_wp2_with fail
  refine (bawake_any _).mono ?_
  rintro e w1 ⟨rfl, hb1⟩
  have HV1 := Lib.hid (HV.out.below (Nat.le_refl _) hb1)
  have B1 := Lib.hid hb1
  clear hb1
  have A1 := Lib.hid (append_lit (B := w.heap.size) (g := w1.heap.size) (w := w1.alloc (.cells #[] 5)) B1.out.size (heap_alloc_new w1 _) (HV1.out.below (Nat.le_refl _) ((Below.refl _ w1).alloc (Nat.le_refl _) _)) (by omega))
  go_wp2_with (at_builtin; refine wpList_append_by rfl (.tmp 31) (.tmp 32) 22 rfl _ _ rfl rfl _ A1.out ?_)
  rintro v5 w2 hr5 hb2
  have B2 : Below w.heap.size w w2 := (B1.out.trans (((Below.refl _ w1).alloc (Nat.le_refl _) (.cells #[] 5)).mono B1.out.size)).trans (hb2.mono (by have := B1.out.size; simp; omega))
  obtain ⟨a5, c5, rfl⟩ := slice_of_row hr5
  have hN := new_own a5 l.length c5 l w2 hr5.bys hll
  have HB2 := Lib.hid B2
  have HR5 := Lib.hid hr5
  obtain ⟨n5, hn5⟩ : ∃ n5, n5 = l.length := ⟨_, rfl⟩
  rw [← hn5] at hN ⊢
  have HN := Lib.hid hN
  have HN5 := Lib.hid hn5
  have hn5b : n5 ≤ 140737488351232 := by omega
  clear hr5 hb2 B2 hN hn5 hll A1
  go_wp2_with fail
  refine HN.out.mono ?_
  rintro e w3 ⟨R, rfl, hR, hRs, hrest, hb3⟩
  have HRest := Lib.hid hrest
  have HB3 := Lib.hid (HB2.out.trans (hb3.mono HB2.out.size))
  have HR53 := Lib.hid (HR5.out.below hb3)
  have HR := Lib.hid hR
  have HRs := Lib.hid hRs
  have H52 := Lib.hid (show ∀ g, a5 = some ⟨g, 0, none⟩ → w.heap.size ≤ g ∧ g < w2.heap.size from fun g hg => HR5.out.lt g (by rw [hg]; rfl))
  clear hrest hb3 hR hRs HN
  go_wp2
  go_loopw [7] (fun s7 wr => ∃ i : Nat, i ≤ n5 ∧ s7 = .int .i64 (i : Int) ∧ (∃ l', l'.length = n5 ∧ Row wr w.heap.size (.slice a5 n5 c5) l') ∧ OnlyS (fun b => a5 = some ⟨b, 0, none⟩) w3 wr) (fun s7 _ => n5 - (intOf s7).toNat)
  case atStart =>
    refine ⟨0, Nat.zero_le _, rfl, ⟨l, HN5.out.symm, ?_⟩, OnlyS.refl _ _⟩
    have h := HR53.out
    rwa [← HN5.out] at h
  case round =>
    obtain ⟨i, hi, rfl, ⟨l', hl', hrow⟩, hon⟩ := hrel
    by_cases hin : i < n5
    · have hin' : (i : Int) < (n5 : Int) := by omega
      obtain ⟨g, c', e, hBg, hgs, -⟩ := hrow.shape (by intro h; subst h; simp at hl'; omega)
      rw [hl'] at e
      cases e
      obtain ⟨⟨z, hc⟩, hf⟩ := row_cell hrow i (by omega)
      have HRow := Lib.hid hrow
      have HOn := Lib.hid hon
      have HL' := Lib.hid hl'
      clear hrow hon hl'
      go_wp2
      go_roundw
      case rel =>
        obtain ⟨b, hb⟩ := u8_wrap (z + 1)
        refine ⟨i + 1, by omega, by go_num, ⟨l'.set i b, by rw [List.length_set, HL'.out], ?_⟩, HOn.out.setCell (fun _ => rfl) _⟩
        have h := row_set HRow.out i b
        rw [← hb] at h
        exact h
      case measure => simp [intOf]; omega
    · have hin' : ¬ ((i : Int) < (n5 : Int)) := by omega
      obtain ⟨wo, rfl⟩ : ∃ wo : World, wo = wr := ⟨_, rfl⟩
      obtain ⟨G, hG⟩ : ∃ G, G = w3.heap.size := ⟨_, rfl⟩
      have hR := HR.out
      have hRs := HRs.out
      have hrd : IsRd wo R G l 0 0 := by
        rw [hG]
        exact HRest.out wo hon.size (fun g h1 h2 => hon.block g h2 (fun h => by have := (H52.out g h).2; omega))
      have hbo : Below w.heap.size w wo := HB3.out.trans (hon.below (fun g h1 h2 => by have := (H52.out g h2).1; omega) HB3.out.size)
      have hso : G ≤ wo.heap.size := by rw [hG]; exact hon.size
      have hRG : R < G := by rw [hG]; exact hRs
      have hwR : w.heap.size ≤ R := Nat.le_trans HB2.out.size hR
      have hlen := HLen.out
      obtain ⟨Q, hQ⟩ : ∃ Q, Q = wo.heap.size := ⟨_, rfl⟩
      obtain ⟨wq, hwq⟩ : ∃ wq, wq = wo.alloc (.cells #[.slice a len cap, .int .i64 0, .int .i64 0] 30) := ⟨_, rfl⟩
      have hbq : Below w.heap.size w wq := by rw [hwq]; exact hbo.alloc hbo.size _
      have hrdq : IsRd wq R G l 0 0 := by rw [hwq]; exact hrd.below ((Below.refl _ _).alloc (Nat.le_refl _) _)
      have hrf : IsRef wq Q w.heap.size a cap l 0 0 := by
        refine ⟨?_, Nat.zero_le _, HLl.out, ⟨by rw [← hlen]; exact HLc.out, HNc.out⟩, by rw [hQ]; exact hbo.size, fun j hj => ?_⟩
        · rw [hwq, hQ, ← hlen]
          exact heap_alloc_new wo _
        · obtain ⟨ad, ha, hc⟩ := (bys_cells HV.out).2 (by omega)
          have h1 := hc j (bv l[j]) (by simp [hj])
          have hbl := World.block_lt_of_cell? w _ h1
          refine ⟨ad, ha, by rw [add_block] at hbl; exact hbl, ?_⟩
          rw [hbq.cell hbl]
          exact h1
      have HW := Lib.hid (show G ≤ Q ∧ R < G ∧ w.heap.size ≤ R by rw [hQ]; exact ⟨hso, hRG, hwR⟩)
      have HBq := Lib.hid hbq
      have HRd := Lib.hid hrdq
      have HRf := Lib.hid hrf
      clear hrow hl' hon hrd hbo hG hso hRG hwR hlen hbq hrdq hrf hR hRs HRest H52 HR53
      go_wp2_with fail
      rw [← hwq, ← hQ]
      clear hwq hQ
      go_loopw [9] (fun s9 wx => ∃ i k st : Nat, i ≤ ns ∧ s9 = .int .i64 (i : Int) ∧ IsRd wx R G l k st ∧ IsRef wx Q w.heap.size a cap l k st ∧ Below w.heap.size w wx) (fun s9 _ => ns - (intOf s9).toNat)
      case atStart =>
        exact ⟨0, 0, 0, Nat.zero_le _, rfl, HRd.out, HRf.out, HBq.out⟩
      case round =>
        obtain ⟨j, k, st, hj, rfl, hrd, hrf, hbx⟩ := hrel
        have HRx := Lib.hid hrd
        have HFx := Lib.hid hrf
        have HBx := Lib.hid hbx
        clear hrd hrf hbx HRd HRf HBq
        by_cases hgo : j < ns ∧ j < 60
        · obtain ⟨g1, g2⟩ := hgo
          have g1' : (j : Int) < (ns : Int) := by omega
          have g2' : (j : Int) < 60 := by omega
          obtain ⟨kd, ms, hop⟩ : ∃ kd ms, S[j]? = some (kd, ms) := ⟨_, _, List.getElem?_eq_getElem (by have := HNs.out; omega)⟩
          obtain ⟨hkd, hms, ad, hsa, ck, cm⟩ := HS.out j kd ms hop
          have ck' := (HBx.out.cell (World.block_lt_of_cell? w _ ck)).trans ck
          have cm' := (HBx.out.cell (World.block_lt_of_cell? w _ cm)).trans cm
          subst hsa
          clear ck cm hop
          obtain ⟨r5, hr5⟩ : ∃ r5, r5 = kd.tmod 5 := ⟨_, rfl⟩
          obtain ⟨d, hd⟩ : ∃ d, d = (r5 + 5).tmod 5 := ⟨_, rfl⟩
          have hr5b : -5 < r5 ∧ r5 < 5 := by rw [hr5]; exact ⟨by have := Int.lt_tmod_of_pos kd (show (0:Int) < 5 by decide); omega, Int.tmod_lt_of_pos kd (by decide)⟩
          have hdb : 0 ≤ d ∧ d < 5 := by rw [hd]; exact ⟨Int.tmod_nonneg _ (by omega), Int.tmod_lt_of_pos _ (by decide)⟩
          have hr5' := hr5.symm
          have hd' := hd.symm
          clear hr5 hd
          rcases (show d = 0 ∨ d = 1 ∨ d = 2 ∨ d = 3 ∨ d = 4 by omega) with rfl | rfl | rfl | rfl | rfl
          · go_wp2_with fail
            obtain ⟨wa, hwa⟩ : ∃ wa, wa = wr.alloc (.cells #[.int .i64 kd, .int .i64 ms] 32) := ⟨_, rfl⟩
            have hba : Below wr.heap.size wr wa := by rw [hwa]; exact (Below.refl _ _).alloc (Nat.le_refl _) _
            have HO1 := Lib.hid (show wa.cell? ⟨wr.heap.size, 1, none⟩ = some (.int .i64 ms) by rw [hwa, World.cell?_alloc_at _ _ _ _ rfl]; rfl)
            have HOs := Lib.hid (show wr.heap.size < wa.heap.size by rw [hwa, World.size_alloc]; omega)
            have HRa := Lib.hid (HRx.out.below hba)
            have HFa := Lib.hid (HFx.out.below hba)
            have Ba := Lib.hid (HBx.out.trans (hba.mono HBx.out.size))
            have HWa := Lib.hid (show R < wa.heap.size ∧ Q < wa.heap.size ∧ G ≤ wa.heap.size from ⟨HRa.out.facts.1, HFa.out.facts.1, HRa.out.facts.2.2.2⟩)
            clear hba
            rw [← hwa]
            clear hwa
            have hq1 := rdByte_any R l k st wa HRa.out
            have hq2 := fun w4 h => refByte_any (G := w.heap.size) (a := a) (cap := cap) Q l k st w4 h
            obtain ⟨n1, c1, k1, hq⟩ : ∃ n c k', byteS l k st = (n, c, k') := ⟨_, _, _, rfl⟩
            rw [hq] at hq1 hq2
            have HQ1 := Lib.hid hq1
            have HQ2 := Lib.hid hq2
            clear hq1 hq2 hq
            refine HQ1.out.mono ?_
            rintro e w4 ⟨ho, rfl, hr⟩
            have HR4 := Lib.hid hr
            have HF4 := Lib.hid (HFa.out.only (S := fun b => b = R) (OnlyS.of_only ho rfl) (fun b hb he => by have := HW.out; omega) (by have := HW.out; omega))
            have B4 := Lib.hid (Ba.out.trans (ho.below HW.out.2.2 Ba.out.size))
            have HS4 := Lib.hid ho.size
            clear ho hr HQ1
            go_wp2_with fail
            refine (HQ2.out _ HF4.out).mono ?_
            rintro e w5 ⟨ho, rfl, hr⟩
            have HF5 := Lib.hid hr
            have HR5' := Lib.hid (HR4.out.only (S := fun b => b = Q) (OnlyS.of_only ho rfl) (fun b hb he => by have := HW.out; omega) (by have := HW.out; omega))
            have B5 := Lib.hid (B4.out.trans (ho.below (by have := HW.out; omega) B4.out.size))
            clear ho hr HQ2

            have hcv := conv_bys (w := w5) (v := .slice none 0 0) (l := []) (.inl ⟨rfl, rfl⟩)
            have HL1 := Lib.hid (left_any l k1 c1 R w5 HR5'.out)
            have HL2 := Lib.hid (fun q => refLeft_any Q l k1 c1 (w5.drewN q) (HF5.out.drewN q))
            go_wp2_with fail
            refine HL1.out.mono ?_
            rintro e w6 ⟨rfl, q1, rfl⟩
            go_wp2_with fail
            refine (HL2.out q1).mono ?_
            rintro e w7 ⟨rfl, q2, hw7⟩
            have HR7 := Lib.hid (show IsRd w7 R G l k1 c1 by rw [hw7]; exact (HR5'.out.drewN q1).drewN q2)
            have HF7 := Lib.hid (show IsRef w7 Q w.heap.size a cap l k1 c1 by rw [hw7]; exact (HF5.out.drewN q1).drewN q2)
            have B7 := Lib.hid (show Below w.heap.size w w7 by rw [hw7]; exact ⟨B5.out.os, B5.out.tape, B5.out.output, B5.out.size, B5.out.block⟩)
            clear hw7 HL1 HL2 hcv
            go_wp2_with fail
            obtain ⟨wv, rfl⟩ : ∃ wv : World, wv = wr := ⟨_, rfl⟩
            go_loopw [21] (fun s21 wx => s21 = .int .i64 0 ∧ wx = w7) (fun _ _ => 0)
            case atStart => exact ⟨rfl, rfl⟩
            case round =>
              obtain ⟨rfl, rfl⟩ := hrel
              go_wp2
              go_roundw
              case rel => exact ⟨j + 1, k1, c1, by omega, by go_num, HR7.out, HF7.out, B7.out⟩
              case measure => simp [intOf]; omega
          · go_wp2_with fail
            obtain ⟨wa, hwa⟩ : ∃ wa, wa = wr.alloc (.cells #[.int .i64 kd, .int .i64 ms] 32) := ⟨_, rfl⟩
            have hba : Below wr.heap.size wr wa := by rw [hwa]; exact (Below.refl _ _).alloc (Nat.le_refl _) _
            have HO1 := Lib.hid (show wa.cell? ⟨wr.heap.size, 1, none⟩ = some (.int .i64 ms) by rw [hwa, World.cell?_alloc_at _ _ _ _ rfl]; rfl)
            have HOs := Lib.hid (show wr.heap.size < wa.heap.size by rw [hwa, World.size_alloc]; omega)
            have HRa := Lib.hid (HRx.out.below hba)
            have HFa := Lib.hid (HFx.out.below hba)
            have Ba := Lib.hid (HBx.out.trans (hba.mono HBx.out.size))
            have HWa := Lib.hid (show R < wa.heap.size ∧ Q < wa.heap.size ∧ G ≤ wa.heap.size from ⟨HRa.out.facts.1, HFa.out.facts.1, HRa.out.facts.2.2.2⟩)
            clear hba
            rw [← hwa]
            clear hwa
            have hq1 := rdNum_any R l k st wa HRa.out
            have hq2 := fun w4 h => refNum_any (G := w.heap.size) (a := a) (cap := cap) Q l k st w4 h
            obtain ⟨n1, c1, k1, hq⟩ : ∃ n c k', numS l k st = (n, c, k') := ⟨_, _, _, rfl⟩
            rw [hq] at hq1 hq2
            have HQ1 := Lib.hid hq1
            have HQ2 := Lib.hid hq2
            clear hq1 hq2 hq
            refine HQ1.out.mono ?_
            rintro e w4 ⟨ho, rfl, hr⟩
            have HR4 := Lib.hid hr
            have HF4 := Lib.hid (HFa.out.only (S := fun b => b = R) (OnlyS.of_only ho rfl) (fun b hb he => by have := HW.out; omega) (by have := HW.out; omega))
            have B4 := Lib.hid (Ba.out.trans (ho.below HW.out.2.2 Ba.out.size))
            have HS4 := Lib.hid ho.size
            clear ho hr HQ1
            go_wp2_with fail
            refine (HQ2.out _ HF4.out).mono ?_
            rintro e w5 ⟨ho, rfl, hr⟩
            have HF5 := Lib.hid hr
            have HR5' := Lib.hid (HR4.out.only (S := fun b => b = Q) (OnlyS.of_only ho rfl) (fun b hb he => by have := HW.out; omega) (by have := HW.out; omega))
            have B5 := Lib.hid (B4.out.trans (ho.below (by have := HW.out; omega) B4.out.size))
            clear ho hr HQ2

            have hcv := conv_bys (w := w5) (v := .slice none 0 0) (l := []) (.inl ⟨rfl, rfl⟩)
            have HL1 := Lib.hid (left_any l k1 c1 R w5 HR5'.out)
            have HL2 := Lib.hid (fun q => refLeft_any Q l k1 c1 (w5.drewN q) (HF5.out.drewN q))
            go_wp2_with fail
            refine HL1.out.mono ?_
            rintro e w6 ⟨rfl, q1, rfl⟩
            go_wp2_with fail
            refine (HL2.out q1).mono ?_
            rintro e w7 ⟨rfl, q2, hw7⟩
            have HR7 := Lib.hid (show IsRd w7 R G l k1 c1 by rw [hw7]; exact (HR5'.out.drewN q1).drewN q2)
            have HF7 := Lib.hid (show IsRef w7 Q w.heap.size a cap l k1 c1 by rw [hw7]; exact (HF5.out.drewN q1).drewN q2)
            have B7 := Lib.hid (show Below w.heap.size w w7 by rw [hw7]; exact ⟨B5.out.os, B5.out.tape, B5.out.output, B5.out.size, B5.out.block⟩)
            clear hw7 HL1 HL2 hcv
            go_wp2_with fail
            obtain ⟨wv, rfl⟩ : ∃ wv : World, wv = wr := ⟨_, rfl⟩
            go_loopw [21] (fun s21 wx => s21 = .int .i64 0 ∧ wx = w7) (fun _ _ => 0)
            case atStart => exact ⟨rfl, rfl⟩
            case round =>
              obtain ⟨rfl, rfl⟩ := hrel
              go_wp2
              go_roundw
              case rel => exact ⟨j + 1, k1, c1, by omega, by go_num, HR7.out, HF7.out, B7.out⟩
              case measure => simp [intOf]; omega
          · go_wp2_with fail
            obtain ⟨wa, hwa⟩ : ∃ wa, wa = wr.alloc (.cells #[.int .i64 kd, .int .i64 ms] 32) := ⟨_, rfl⟩
            have hba : Below wr.heap.size wr wa := by rw [hwa]; exact (Below.refl _ _).alloc (Nat.le_refl _) _
            have HO1 := Lib.hid (show wa.cell? ⟨wr.heap.size, 1, none⟩ = some (.int .i64 ms) by rw [hwa, World.cell?_alloc_at _ _ _ _ rfl]; rfl)
            have HOs := Lib.hid (show wr.heap.size < wa.heap.size by rw [hwa, World.size_alloc]; omega)
            have HRa := Lib.hid (HRx.out.below hba)
            have HFa := Lib.hid (HFx.out.below hba)
            have Ba := Lib.hid (HBx.out.trans (hba.mono HBx.out.size))
            have HWa := Lib.hid (show R < wa.heap.size ∧ Q < wa.heap.size ∧ G ≤ wa.heap.size from ⟨HRa.out.facts.1, HFa.out.facts.1, HRa.out.facts.2.2.2⟩)
            clear hba
            rw [← hwa]
            clear hwa
            have hq1 := rdRaw_any R l k st ms hms wa HRa.out
            have hq2 := fun w4 h => refRaw_any (G := w.heap.size) (a := a) (cap := cap) Q l k st ms hms w4 h
            obtain ⟨t, c1, k1, hq⟩ : ∃ t c k', textS l ms.toNat k st = (t, c, k') := ⟨_, _, _, rfl⟩
            rw [hq] at hq1 hq2
            have HQ1 := Lib.hid hq1
            have HQ2 := Lib.hid hq2
            have HQt := Lib.hid (textS_len hq)
            obtain ⟨Z, hZ⟩ : ∃ Z, Z = wa.heap.size := ⟨_, rfl⟩
            have HZ := Lib.hid (show R < Z ∧ Q < Z ∧ G ≤ Z ∧ w.heap.size ≤ Z by rw [hZ]; exact ⟨HWa.out.1, HWa.out.2.1, HWa.out.2.2, Ba.out.size⟩)
            have HZ0 := Lib.hid hZ
            clear hq1 hq2 hq hZ
            refine HQ1.out.mono ?_
            rintro e w4 ⟨ho, vx, rfl, hrx, hr⟩
            have HR4 := Lib.hid hr
            have HF4 := Lib.hid (HFa.out.only (S := fun b => b = R) (OnlyS.of_only ho rfl) (fun b hb he => by have := HW.out; omega) (by have := HW.out; omega))
            have B4 := Lib.hid (Ba.out.trans (ho.below HW.out.2.2 Ba.out.size))
            have HS4 := Lib.hid ho.size
            obtain ⟨ax, cx, hvx⟩ := slice_of_row hrx
            subst hvx
            obtain ⟨qx, hqx⟩ : ∃ qx, qx = t.length := ⟨_, rfl⟩
            rw [← HZ0.out, ← hqx] at hrx
            rw [← hqx]
            have HQx := Lib.hid hqx
            have HRX := Lib.hid hrx
            have hcm4 : w4.cell? ⟨wr.heap.size, 1, none⟩ = some (.int .i64 ms) := (ho.cell (p := ⟨wr.heap.size, 1, none⟩) HOs.out (by have := HRx.out.facts.1; show wr.heap.size ≠ R; omega)).trans HO1.out
            clear ho hr HQ1 hrx hqx
            go_wp2_with fail
            refine (HQ2.out _ HF4.out).mono ?_
            rintro e w5 ⟨ho, vy, rfl, hry, hr⟩
            have HF5 := Lib.hid hr
            have HR5' := Lib.hid (HR4.out.only (S := fun b => b = Q) (OnlyS.of_only ho rfl) (fun b hb he => by have := HW.out; omega) (by have := HW.out; omega))
            have B5 := Lib.hid (B4.out.trans (ho.below (by have := HW.out; omega) B4.out.size))
            obtain ⟨ay, cy, hvy⟩ := slice_of_row hry
            subst hvy
            rw [← HQx.out] at hry
            rw [← HQx.out]
            have hrx5 := row_keep HRX.out ho HZ.out.2.1
            have HRX5 := Lib.hid hrx5
            have hcv := conv_bys hrx5.bys
            have hcv2 := conv_bys hry.bys
            have HL1 := Lib.hid (left_any l k1 c1 R w5 HR5'.out)
            have HL2 := Lib.hid (fun q => refLeft_any Q l k1 c1 (w5.drewN q) (HF5.out.drewN q))
            clear ho hr HQ2 hrx5 hry hcm4
            go_wp2_with fail
            refine HL1.out.mono ?_
            rintro e w6 ⟨rfl, q1, rfl⟩
            clear hcv hcv2
            go_wp2_with fail
            refine (HL2.out q1).mono ?_
            rintro e w7 ⟨rfl, q2, hw7⟩
            have HR7 := Lib.hid (show IsRd w7 R G l k1 c1 by rw [hw7]; exact (HR5'.out.drewN q1).drewN q2)
            have HF7 := Lib.hid (show IsRef w7 Q w.heap.size a cap l k1 c1 by rw [hw7]; exact (HF5.out.drewN q1).drewN q2)
            have B7 := Lib.hid (show Below w.heap.size w w7 by rw [hw7]; exact ⟨B5.out.os, B5.out.tape, B5.out.output, B5.out.size, B5.out.block⟩)
            have HRX7 := Lib.hid (show Row w7 Z (.slice ax qx cx) t by rw [hw7]; exact HRX5.out)
            have hqb : qx ≤ 140737488351232 := by have := HQt.out; have := HLl.out; have := HQx.out; omega
            clear hw7 HL1 HL2
            go_wp2_with fail
            obtain ⟨wv, rfl⟩ : ∃ wv : World, wv = wr := ⟨_, rfl⟩
            go_loopw [21] (fun s21 wx => ∃ i : Nat, i ≤ qx ∧ s21 = .int .i64 (i : Int) ∧ (∃ l', l'.length = qx ∧ Row wx Z (.slice ax qx cx) l') ∧ OnlyS (fun b => Z ≤ b) w7 wx) (fun s21 _ => qx - (intOf s21).toNat)
            case atStart =>
              exact ⟨0, Nat.zero_le _, rfl, ⟨t, HQx.out.symm, HRX7.out⟩, OnlyS.refl _ _⟩
            case round =>
              obtain ⟨p, hp, rfl, ⟨l', hl', hrow⟩, hon⟩ := hrel
              by_cases hin2 : p < qx
              · have hin2' : (p : Int) < (qx : Int) := by omega
                obtain ⟨g, c', e, hBg, hgs, -⟩ := hrow.shape (by intro h; subst h; simp at hl'; omega)
                rw [hl'] at e
                cases e
                obtain ⟨⟨z, hc⟩, hf⟩ := row_cell hrow p (by omega)
                have HRow := Lib.hid hrow
                have HOn := Lib.hid hon
                have HL' := Lib.hid hl'
                clear hrow hon hl'
                go_wp2
                go_roundw
                case rel =>
                  obtain ⟨b, hb⟩ := u8_wrap (z + 1)
                  refine ⟨p + 1, by omega, by go_num, ⟨l'.set p b, by rw [List.length_set, HL'.out], ?_⟩, HOn.out.setCell (fun _ => hBg) _⟩
                  have h := row_set HRow.out p b
                  rw [← hb] at h
                  exact h
                case measure => simp [intOf]; omega
              · have hin2' : ¬ ((p : Int) < (qx : Int)) := by omega
                have HR8 := Lib.hid (HR7.out.only hon (fun b hb hz => by have := HZ.out; omega) (by have := HZ.out; omega))
                have HF8 := Lib.hid (HF7.out.only hon (fun b hb hz => by have := HZ.out; omega) (by have := HZ.out; omega))
                have B8 := Lib.hid (B7.out.trans (hon.below (fun b hb hz => by have := HZ.out; omega) B7.out.size))
                clear hrow hl' hon
                go_wp2
                go_roundw
                case rel => exact ⟨j + 1, k1, c1, by omega, by go_num, HR8.out, HF8.out, B8.out⟩
                case measure => simp [intOf]; omega
          · go_wp2_with fail
            obtain ⟨wa, hwa⟩ : ∃ wa, wa = wr.alloc (.cells #[.int .i64 kd, .int .i64 ms] 32) := ⟨_, rfl⟩
            have hba : Below wr.heap.size wr wa := by rw [hwa]; exact (Below.refl _ _).alloc (Nat.le_refl _) _
            have HO1 := Lib.hid (show wa.cell? ⟨wr.heap.size, 1, none⟩ = some (.int .i64 ms) by rw [hwa, World.cell?_alloc_at _ _ _ _ rfl]; rfl)
            have HOs := Lib.hid (show wr.heap.size < wa.heap.size by rw [hwa, World.size_alloc]; omega)
            have HRa := Lib.hid (HRx.out.below hba)
            have HFa := Lib.hid (HFx.out.below hba)
            have Ba := Lib.hid (HBx.out.trans (hba.mono HBx.out.size))
            have HWa := Lib.hid (show R < wa.heap.size ∧ Q < wa.heap.size ∧ G ≤ wa.heap.size from ⟨HRa.out.facts.1, HFa.out.facts.1, HRa.out.facts.2.2.2⟩)
            clear hba
            rw [← hwa]
            clear hwa
            have hq1 := rdEnd_any R l k st wa HRa.out
            have hq2 := fun w4 h => refEnd_any (G := w.heap.size) (a := a) (cap := cap) Q l k st w4 h
            obtain ⟨c1, hq⟩ : ∃ c, endS l k st = c := ⟨_, rfl⟩
            rw [hq] at hq1 hq2
            have HQ1 := Lib.hid hq1
            have HQ2 := Lib.hid hq2
            clear hq1 hq2 hq
            refine HQ1.out.mono ?_
            rintro e w4 ⟨rfl, hr, ho⟩
            have HR4 := Lib.hid hr
            have HF4 := Lib.hid (HFa.out.only (S := fun b => b = R) (OnlyS.of_only ho rfl) (fun b hb he => by have := HW.out; omega) (by have := HW.out; omega))
            have B4 := Lib.hid (Ba.out.trans (ho.below HW.out.2.2 Ba.out.size))
            have HS4 := Lib.hid ho.size
            clear ho hr HQ1
            go_wp2_with fail
            refine (HQ2.out _ HF4.out).mono ?_
            rintro e w5 ⟨rfl, hr, ho⟩
            have HF5 := Lib.hid hr
            have HR5' := Lib.hid (HR4.out.only (S := fun b => b = Q) (OnlyS.of_only ho rfl) (fun b hb he => by have := HW.out; omega) (by have := HW.out; omega))
            have B5 := Lib.hid (B4.out.trans (ho.below (by have := HW.out; omega) B4.out.size))
            clear ho hr HQ2

            have hcv := conv_bys (w := w5) (v := .slice none 0 0) (l := []) (.inl ⟨rfl, rfl⟩)
            have HL1 := Lib.hid (left_any l k c1 R w5 HR5'.out)
            have HL2 := Lib.hid (fun q => refLeft_any Q l k c1 (w5.drewN q) (HF5.out.drewN q))
            go_wp2_with fail
            refine HL1.out.mono ?_
            rintro e w6 ⟨rfl, q1, rfl⟩
            go_wp2_with fail
            refine (HL2.out q1).mono ?_
            rintro e w7 ⟨rfl, q2, hw7⟩
            have HR7 := Lib.hid (show IsRd w7 R G l k c1 by rw [hw7]; exact (HR5'.out.drewN q1).drewN q2)
            have HF7 := Lib.hid (show IsRef w7 Q w.heap.size a cap l k c1 by rw [hw7]; exact (HF5.out.drewN q1).drewN q2)
            have B7 := Lib.hid (show Below w.heap.size w w7 by rw [hw7]; exact ⟨B5.out.os, B5.out.tape, B5.out.output, B5.out.size, B5.out.block⟩)
            clear hw7 HL1 HL2 hcv
            go_wp2_with fail
            obtain ⟨wv, rfl⟩ : ∃ wv : World, wv = wr := ⟨_, rfl⟩
            go_loopw [21] (fun s21 wx => s21 = .int .i64 0 ∧ wx = w7) (fun _ _ => 0)
            case atStart => exact ⟨rfl, rfl⟩
            case round =>
              obtain ⟨rfl, rfl⟩ := hrel
              go_wp2
              go_roundw
              case rel => exact ⟨j + 1, k, c1, by omega, by go_num, HR7.out, HF7.out, B7.out⟩
              case measure => simp [intOf]; omega
          · have hcv := conv_bys (w := wr.alloc (.cells #[.int .i64 kd, .int .i64 ms] 32)) (v := .slice none 0 0) (l := []) (.inl ⟨rfl, rfl⟩)
            go_wp2_with fail
            clear hcv
            obtain ⟨wa, hwa⟩ : ∃ wa, wa = wr.alloc (.cells #[.int .i64 kd, .int .i64 ms] 32) := ⟨_, rfl⟩
            have hba : Below wr.heap.size wr wa := by rw [hwa]; exact (Below.refl _ _).alloc (Nat.le_refl _) _
            have HO1 := Lib.hid (show wa.cell? ⟨wr.heap.size, 1, none⟩ = some (.int .i64 ms) by rw [hwa, World.cell?_alloc_at _ _ _ _ rfl]; rfl)
            have HOs := Lib.hid (show wr.heap.size < wa.heap.size by rw [hwa, World.size_alloc]; omega)
            have HRa := Lib.hid (HRx.out.below hba)
            have HFa := Lib.hid (HFx.out.below hba)
            have Ba := Lib.hid (HBx.out.trans (hba.mono HBx.out.size))
            have HWa := Lib.hid (show R < wa.heap.size ∧ Q < wa.heap.size ∧ G ≤ wa.heap.size from ⟨HRa.out.facts.1, HFa.out.facts.1, HRa.out.facts.2.2.2⟩)
            clear hba
            rw [← hwa]
            clear hwa

            have HL1 := Lib.hid (left_any l k st R wa HRa.out)
            have HL2 := Lib.hid (fun q => refLeft_any Q l k st (wa.drewN q) (HFa.out.drewN q))
            refine HL1.out.mono ?_
            rintro e w6 ⟨rfl, q1, rfl⟩
            go_wp2_with fail
            refine (HL2.out q1).mono ?_
            rintro e w7 ⟨rfl, q2, hw7⟩
            have HR7 := Lib.hid (show IsRd w7 R G l k st by rw [hw7]; exact (HRa.out.drewN q1).drewN q2)
            have HF7 := Lib.hid (show IsRef w7 Q w.heap.size a cap l k st by rw [hw7]; exact (HFa.out.drewN q1).drewN q2)
            have B7 := Lib.hid (show Below w.heap.size w w7 by rw [hw7]; exact ⟨Ba.out.os, Ba.out.tape, Ba.out.output, Ba.out.size, Ba.out.block⟩)
            clear hw7 HL1 HL2
            go_wp2_with fail
            obtain ⟨wv, rfl⟩ : ∃ wv : World, wv = wr := ⟨_, rfl⟩
            go_loopw [21] (fun s21 wx => s21 = .int .i64 0 ∧ wx = w7) (fun _ _ => 0)
            case atStart => exact ⟨rfl, rfl⟩
            case round =>
              obtain ⟨rfl, rfl⟩ := hrel
              go_wp2
              go_roundw
              case rel => exact ⟨j + 1, k, st, by omega, by go_num, HR7.out, HF7.out, B7.out⟩
              case measure => simp [intOf]; omega
        · clear HRx HFx
          by_cases g1 : j < ns
          · have g1' : (j : Int) < (ns : Int) := by omega
            have g2' : ¬ ((j : Int) < 60) := by omega
            go_wp2_with fail
            refine (nilByte_any _).mono ?_
            rintro e w4 ⟨rfl, hb⟩
            have B4 := Lib.hid (HBx.out.trans (hb.mono HBx.out.size))
            clear hb
            go_wp2_with fail
            refine (nilNum_any _).mono ?_
            rintro e w5 ⟨rfl, hb⟩
            have B5 := Lib.hid (B4.out.trans (hb.mono B4.out.size))
            clear hb
            go_wp2_with fail
            refine (nilRaw_any 5 (by decide) _).mono ?_
            rintro e w6 ⟨rfl, hb⟩
            have B6 := Lib.hid (B5.out.trans (hb.mono B5.out.size))
            clear hb
            go_wp2_with fail
            refine (nilEnd_any _).mono ?_
            rintro e w7 ⟨rfl, hb⟩
            have B7 := Lib.hid (B6.out.trans (hb.mono B6.out.size))
            clear hb
            go_wp2_with fail
            refine (nilLeft_any _).mono ?_
            rintro e w8 ⟨rfl, rfl⟩
            go_wp2
            go_ret
            exact ⟨rfl, B7.out⟩
          · have g1' : ¬ ((j : Int) < (ns : Int)) := by omega
            go_wp2_with fail
            refine (nilByte_any _).mono ?_
            rintro e w4 ⟨rfl, hb⟩
            have B4 := Lib.hid (HBx.out.trans (hb.mono HBx.out.size))
            clear hb
            go_wp2_with fail
            refine (nilNum_any _).mono ?_
            rintro e w5 ⟨rfl, hb⟩
            have B5 := Lib.hid (B4.out.trans (hb.mono B4.out.size))
            clear hb
            go_wp2_with fail
            refine (nilRaw_any 5 (by decide) _).mono ?_
            rintro e w6 ⟨rfl, hb⟩
            have B6 := Lib.hid (B5.out.trans (hb.mono B5.out.size))
            clear hb
            go_wp2_with fail
            refine (nilEnd_any _).mono ?_
            rintro e w7 ⟨rfl, hb⟩
            have B7 := Lib.hid (B6.out.trans (hb.mono B6.out.size))
            clear hb
            go_wp2_with fail
            refine (nilLeft_any _).mono ?_
            rintro e w8 ⟨rfl, rfl⟩
            go_wp2
            go_ret
            exact ⟨rfl, B7.out⟩

end Go.Proofs.Ytboongdoggggoaa
