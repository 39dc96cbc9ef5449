/- BinBack: the walk. -/
import Derived.Test.YtboongdoggggoaaBinBack
namespace Go.Proofs.Ytboongdoggggoaa
set_option maxRecDepth 20000
open Go.RowKit BinMath Reg

set_option maxRecDepth 100000 in
set_option maxHeartbeats 2000000 in
theorem back_walk (a0 a1 : Option Addr) (n0 c0 n1 c1 : Nat) (N : List Nat) (T : List (List UInt8)) (w : World) (hN : NumsAt w a0 N) (hT : TextsAt w a1 T) (hn0 : n0 = N.length) (hn1 : n1 = T.length) (h0 : n0 ≤ 1048576) (h1 : n1 ≤ 1048576) :
    Calls Try.prog 4 #[.slice a0 n0 c0, .slice a1 n1 c1] w fun e w' => e = .returned (.bool true) ∧ Below w.heap.size w w' := by
  have HN := Lib.hid hN
  have HT := Lib.hid hT
  have HN0 := Lib.hid hn0
  have HN1 := Lib.hid hn1
  have hlen : ∀ i, i ≤ 1048576 → (laid N T i).length ≤ 1099536793600 := fun i hi => by
    have hb : ∀ n ∈ N, n < 18446744073709551616 := fun n hn => by
      obtain ⟨i, hi, rfl⟩ := List.getElem_of_mem hn
      exact (HN.out i _ (List.getElem?_eq_getElem hi)).1
    have ht : ∀ t ∈ T, t.length ≤ 1048576 := fun n hn => by
      obtain ⟨i, hi, rfl⟩ := List.getElem_of_mem hn
      exact (HT.out i _ (List.getElem?_eq_getElem hi)).1
    have := laid_le N T hb ht i
    omega
  have HLen := Lib.hid hlen
  obtain ⟨M, hM⟩ : ∃ M, M = max n0 n1 := ⟨_, rfl⟩
  have hM1 : M ≤ 1048576 := by omega
  have HM := Lib.hid hM
  clear hN hT hn0 hn1 hlen hM
  go_enter Try.func4, Try.ntmps4
  go_wp2_with fail
  refine (bawake_any _).mono ?_
  rintro e w1 ⟨rfl, hb1⟩
  have HB1 := Lib.hid hb1
  clear hb1
  go_wp2
  go_loopw [5, 6] (fun s5 s6 wr => ∃ i : Nat, i ≤ M ∧ s6 = .int .i64 (i : Int) ∧ Row wr w.heap.size s5 (laid N T i) ∧ Below w.heap.size w wr) (fun _ s6 _ => M - (intOf s6).toNat)
  case atStart =>
    exact ⟨0, Nat.zero_le _, rfl, World.ownsRow_nil _ _ _ _, HB1.out⟩
  case round =>
    obtain ⟨i, hi, rfl, hrow, hbel⟩ := hrel
    have HR := Lib.hid hrow
    have HB := Lib.hid hbel
    clear hrow hbel
    by_cases hi0 : i < n0
    · have hd0 : ((i : Int) < (n0 : Int)) := by omega
      obtain ⟨n, hni⟩ : ∃ n, N[i]? = some n := ⟨_, List.getElem?_eq_getElem (by have := HN0.out; have := HN1.out; omega)⟩
      by_cases hi1 : i < n1
      · have hd1 : ((i : Int) < (n1 : Int)) := by omega
        obtain ⟨t, hti⟩ : ∃ t, T[i]? = some t := ⟨_, List.getElem?_eq_getElem (by have := HN0.out; have := HN1.out; omega)⟩
        obtain ⟨hnb, ad0, ha0, hc0⟩ := HN.out i n hni
        have hcw0 : wr.cell? (ad0.add i) = some (.int .u64 (n : Int)) := by rw [HB.out.cell (World.block_lt_of_cell? w _ hc0)]; exact hc0
        subst ha0
        have HC0 := Lib.hid hc0
        clear hc0
        go_wp2_with fail
        refine (num_any n _ hnb).mono ?_
        rintro e w2 ⟨v2, rfl, hr2, hb2⟩
        have B2 := Lib.hid (HB.out.trans (hb2.mono HB.out.size))
        have A2 := Lib.hid (grow_row (B := w.heap.size) (w := w) B2.out.size (HR.out.below hb2) hr2.bys (by have := nb_le n hnb; have := HLen.out i (by omega); rw [numL_length]; omega) B2.out)
        clear hr2 hb2 hcw0
        go_wp2_with (at_builtin; refine wpList_append_by rfl (.tmp 31) (.tmp 36) 22 rfl _ _ rfl rfl _ A2.out ?_)
        rintro v3 w3 hr3 hb3
        have HR3 := Lib.hid hr3
        have HB3 := Lib.hid hb3
        clear hr3 hb3 A2

        obtain ⟨htl, ad1, A, C, ha1, hc1, hx1⟩ := HT.out i t hti
        have hcw1 : w3.cell? (ad1.add i) = some (.slice A t.length C) := by rw [HB3.out.cell (World.block_lt_of_cell? w _ hc1)]; exact hc1
        have hx2 := hx1.below (Nat.le_refl _) HB3.out
        subst ha1
        have HX2 := Lib.hid hx2
        have HTl := Lib.hid htl
        obtain ⟨q, hq⟩ : ∃ q, q = t.length := ⟨_, rfl⟩
        rw [← hq] at hcw1
        have HQ := Lib.hid hq
        clear hc1 hx1 hx2 htl hq
        go_wp2_with fail
        rw [HQ.out]
        refine (raw_any _ t _ HX2.out (by have := HTl.out; omega)).mono ?_
        rintro e w4 ⟨v4, rfl, hr4, hb4⟩
        have B4 := Lib.hid (HB3.out.trans (hb4.mono HB3.out.size))
        have A4 := Lib.hid (grow_row (B := w.heap.size) (w := w) B4.out.size (HR3.out.below hb4) hr4.bys (by have := HTl.out; have := nb_le t.length (by omega); have := HLen.out i (by omega); have := nb_le n hnb; rw [List.length_append, numL_length]; simp only [rawL, List.length_append, numL_length]; omega) B4.out)
        clear hr4 hb4 hcw1
        go_wp2_with (at_builtin; refine wpList_append_by rfl (.tmp 42) (.tmp 47) 22 rfl _ _ rfl rfl _ A4.out ?_)
        rintro v5 w5 hr5 hb5
        have HR5 := Lib.hid hr5
        have HB5 := Lib.hid hb5
        clear hr5 hb5 A4

        go_wp2
        go_roundw
        case rel =>
          refine ⟨i + 1, by have := HM.out; omega, by go_num, ?_, HB5.out⟩
          have h := HR5.out
          rw [laid, stepL, hni, hti]; simpa [List.append_assoc] using h
        case measure => have := HM.out; simp [intOf]; omega
      · have hd1 : ¬ ((i : Int) < (n1 : Int)) := by omega
        have hti : T[i]? = none := List.getElem?_eq_none (by have := HN0.out; have := HN1.out; omega)
        obtain ⟨hnb, ad0, ha0, hc0⟩ := HN.out i n hni
        have hcw0 : wr.cell? (ad0.add i) = some (.int .u64 (n : Int)) := by rw [HB.out.cell (World.block_lt_of_cell? w _ hc0)]; exact hc0
        subst ha0
        have HC0 := Lib.hid hc0
        clear hc0
        go_wp2_with fail
        refine (num_any n _ hnb).mono ?_
        rintro e w2 ⟨v2, rfl, hr2, hb2⟩
        have B2 := Lib.hid (HB.out.trans (hb2.mono HB.out.size))
        have A2 := Lib.hid (grow_row (B := w.heap.size) (w := w) B2.out.size (HR.out.below hb2) hr2.bys (by have := nb_le n hnb; have := HLen.out i (by omega); rw [numL_length]; omega) B2.out)
        clear hr2 hb2 hcw0
        go_wp2_with (at_builtin; refine wpList_append_by rfl (.tmp 31) (.tmp 36) 22 rfl _ _ rfl rfl _ A2.out ?_)
        rintro v3 w3 hr3 hb3
        have HR3 := Lib.hid hr3
        have HB3 := Lib.hid hb3
        clear hr3 hb3 A2

        go_wp2
        go_roundw
        case rel =>
          refine ⟨i + 1, by have := HM.out; omega, by go_num, ?_, HB3.out⟩
          have h := HR3.out
          rw [laid, stepL, hni, hti]; simpa using h
        case measure => have := HM.out; simp [intOf]; omega
    · have hd0 : ¬ ((i : Int) < (n0 : Int)) := by omega
      have hni : N[i]? = none := List.getElem?_eq_none (by have := HN0.out; have := HN1.out; omega)
      by_cases hi1 : i < n1
      · have hd1 : ((i : Int) < (n1 : Int)) := by omega
        obtain ⟨t, hti⟩ : ∃ t, T[i]? = some t := ⟨_, List.getElem?_eq_getElem (by have := HN0.out; have := HN1.out; omega)⟩
        obtain ⟨htl, ad1, A, C, ha1, hc1, hx1⟩ := HT.out i t hti
        have hcw1 : wr.cell? (ad1.add i) = some (.slice A t.length C) := by rw [HB.out.cell (World.block_lt_of_cell? w _ hc1)]; exact hc1
        have hx2 := hx1.below (Nat.le_refl _) HB.out
        subst ha1
        have HX2 := Lib.hid hx2
        have HTl := Lib.hid htl
        obtain ⟨q, hq⟩ : ∃ q, q = t.length := ⟨_, rfl⟩
        rw [← hq] at hcw1
        have HQ := Lib.hid hq
        clear hc1 hx1 hx2 htl hq
        go_wp2_with fail
        rw [HQ.out]
        refine (raw_any _ t _ HX2.out (by have := HTl.out; omega)).mono ?_
        rintro e w4 ⟨v4, rfl, hr4, hb4⟩
        have B4 := Lib.hid (HB.out.trans (hb4.mono HB.out.size))
        have A4 := Lib.hid (grow_row (B := w.heap.size) (w := w) B4.out.size (HR.out.below hb4) hr4.bys (by have := HTl.out; have := nb_le t.length (by omega); have := HLen.out i (by omega); simp only [rawL, List.length_append, numL_length]; omega) B4.out)
        clear hr4 hb4 hcw1
        go_wp2_with (at_builtin; refine wpList_append_by rfl (.tmp 42) (.tmp 47) 22 rfl _ _ rfl rfl _ A4.out ?_)
        rintro v5 w5 hr5 hb5
        have HR5 := Lib.hid hr5
        have HB5 := Lib.hid hb5
        clear hr5 hb5 A4

        go_wp2
        go_roundw
        case rel =>
          refine ⟨i + 1, by have := HM.out; omega, by go_num, ?_, HB5.out⟩
          have h := HR5.out
          rw [laid, stepL, hni, hti]; simpa using h
        case measure => have := HM.out; simp [intOf]; omega
      · have hd1 : ¬ ((i : Int) < (n1 : Int)) := by omega
        have e : i = M := by have := HM.out; omega
        subst e
        obtain ⟨wo, rfl⟩ : ∃ wo : World, wo = wr := ⟨_, rfl⟩
        have hrow := HR.out
        obtain ⟨a5, c5, h5⟩ := slice_of_row hrow
        subst h5
        obtain ⟨L, hL⟩ : ∃ L, L = laid N T i := ⟨_, rfl⟩
        rw [← hL] at hrow
        have hbb := hrow.bys
        have HLL := Lib.hid (HLen.out i hM1)
        rw [← hL] at HLL
        have hnew := rnew_any a5 L.length c5 L wo hbb (by have := HLL.out; omega)
        obtain ⟨q5, hq5⟩ : ∃ q5, q5 = L.length := ⟨_, rfl⟩
        rw [← hL, ← hq5]
        rw [← hq5] at hnew
        have HNew := Lib.hid hnew
        have HL := Lib.hid hL
        have HQ5 := Lib.hid hq5
        clear hrow hbb hnew hL hq5
        go_wp2_with fail
        refine HNew.out.mono ?_
        rintro e w2 ⟨R, rfl, hR, hr, hb⟩
        have HRw := Lib.hid (Nat.le_trans HB.out.size hR)
        have B2 := Lib.hid (HB.out.trans (hb.mono HB.out.size))
        obtain ⟨G, hG⟩ : ∃ G, G = w2.heap.size := ⟨_, rfl⟩
        rw [← hG] at hr
        have HR2 := Lib.hid hr
        clear hR hr hb hG HNew
        go_wp2
        go_loopw [8] (fun s8 wx => ∃ j : Nat, j ≤ i ∧ s8 = .int .i64 (j : Int) ∧ IsRd wx R G L (laid N T j).length 0 ∧ Below w.heap.size w wx) (fun s8 _ => i - (intOf s8).toNat)
        case atStart =>
          exact ⟨0, Nat.zero_le _, rfl, HR2.out, B2.out⟩
        case round =>
          obtain ⟨j, hj, rfl, hrd, hbx⟩ := hrel
          have HRd := Lib.hid hrd
          have HBx := Lib.hid hbx
          clear hrd hbx
          by_cases hj0 : j < n0
          · have hd0 : ((j : Int) < (n0 : Int)) := by omega
            obtain ⟨n, hnj⟩ : ∃ n, N[j]? = some n := ⟨_, List.getElem?_eq_getElem (by have := HN0.out; have := HN1.out; omega)⟩
            by_cases hj1 : j < n1
            · have hd1 : ((j : Int) < (n1 : Int)) := by omega
              obtain ⟨t, htj⟩ : ∃ t, T[j]? = some t := ⟨_, List.getElem?_eq_getElem (by have := HN0.out; have := HN1.out; omega)⟩
              obtain ⟨rest, hahead⟩ := laid_ahead N T j i (by have := HM.out; omega)
              rw [← HL.out] at hahead
              have HAhead := Lib.hid hahead
              clear hahead
              obtain ⟨hnb, ad0, ha0, hc0⟩ := HN.out j n hnj
              have hcx : ∀ W, Below w.heap.size w W → W.cell? (ad0.add j) = some (.int .u64 (n : Int)) := fun W hW => by rw [hW.cell (World.block_lt_of_cell? w _ hc0)]; exact hc0
              subst ha0
              have HCx := Lib.hid hcx
              have hq := read_num R G L (rawL t ++ rest) (laid N T j).length n wr HRd.out (by rw [HAhead.out, stepL, hnj, htj, Option.elim_some, Option.elim_some, List.append_assoc]) hnb
              have HQ := Lib.hid hq
              clear hc0 hcx hq
              go_wp2_with fail
              refine HQ.out.mono ?_
              rintro e w3 ⟨ho, rfl, hr⟩
              have B3 := Lib.hid (HBx.out.trans (ho.below HRw.out HBx.out.size))
              have HR3 := Lib.hid hr
              have hcw0 := HCx.out w3 B3.out
              clear ho hr HQ

              obtain ⟨htl, ad1, A, C, ha1, hc1, hx1⟩ := HT.out j t htj
              have hcx1 : ∀ W, Below w.heap.size w W → W.cell? (ad1.add j) = some (.slice A t.length C) ∧ Bys W (.slice A t.length C) t := fun W hW => ⟨by rw [hW.cell (World.block_lt_of_cell? w _ hc1)]; exact hc1, hx1.below (Nat.le_refl _) hW⟩
              subst ha1
              obtain ⟨q, hq⟩ : ∃ q, q = t.length := ⟨_, rfl⟩
              rw [← hq] at hcx1
              have HCx1 := Lib.hid hcx1
              have hcw1 := (HCx1.out w3 B3.out).1
              have hrd := read_text R G L rest t ((laid N T j).length + (numL n).length) q w3 HR3.out (by rw [← List.drop_drop, HAhead.out, stepL, hnj, htj, Option.elim_some, Option.elim_some, List.append_assoc, List.drop_left]) hq htl
              have HRead := Lib.hid hrd
              clear hc1 hx1 htl hq hcx1 hrd
              go_wp2_with fail
              refine HRead.out.mono ?_
              rintro e w4 ⟨ho, A4, C4, rfl, hx4, hr⟩
              have B4 := Lib.hid (B3.out.trans (ho.below HRw.out B3.out.size))
              have HR4 := Lib.hid hr
              have hcw4 := (HCx1.out w4 B4.out).1
              have hcv1 := conv_drew hx4
              have hcv2 := conv_drew (HCx1.out w4 B4.out).2
              clear ho hr HRead hx4 hcw1
              go_wp2
              go_quiet (fail)
              clear hcv1 hcv2

              go_wp2
              go_roundw
              case rel =>
                refine ⟨j + 1, by have := HM.out; omega, by go_num, ?_, ⟨B4.out.os, B4.out.tape, B4.out.output, B4.out.size, B4.out.block⟩⟩
                have h := HR4.out
                rw [laid, stepL, hnj, htj]; simpa [Nat.add_assoc] using h.drewN nq
              case measure => have := HM.out; simp [intOf]; omega
            · have hd1 : ¬ ((j : Int) < (n1 : Int)) := by omega
              have htj : T[j]? = none := List.getElem?_eq_none (by have := HN0.out; have := HN1.out; omega)
              obtain ⟨rest, hahead⟩ := laid_ahead N T j i (by have := HM.out; omega)
              rw [← HL.out] at hahead
              have HAhead := Lib.hid hahead
              clear hahead
              obtain ⟨hnb, ad0, ha0, hc0⟩ := HN.out j n hnj
              have hcx : ∀ W, Below w.heap.size w W → W.cell? (ad0.add j) = some (.int .u64 (n : Int)) := fun W hW => by rw [hW.cell (World.block_lt_of_cell? w _ hc0)]; exact hc0
              subst ha0
              have HCx := Lib.hid hcx
              have hq := read_num R G L (rest) (laid N T j).length n wr HRd.out (by rw [HAhead.out, stepL, hnj, htj, Option.elim_some, Option.elim_none, List.append_nil]) hnb
              have HQ := Lib.hid hq
              clear hc0 hcx hq
              go_wp2_with fail
              refine HQ.out.mono ?_
              rintro e w3 ⟨ho, rfl, hr⟩
              have B3 := Lib.hid (HBx.out.trans (ho.below HRw.out HBx.out.size))
              have HR3 := Lib.hid hr
              have hcw0 := HCx.out w3 B3.out
              clear ho hr HQ

              go_wp2
              go_roundw
              case rel =>
                refine ⟨j + 1, by have := HM.out; omega, by go_num, ?_, B3.out⟩
                have h := HR3.out
                rw [laid, stepL, hnj, htj]; simpa using h
              case measure => have := HM.out; simp [intOf]; omega
          · have hd0 : ¬ ((j : Int) < (n0 : Int)) := by omega
            have hnj : N[j]? = none := List.getElem?_eq_none (by have := HN0.out; have := HN1.out; omega)
            by_cases hj1 : j < n1
            · have hd1 : ((j : Int) < (n1 : Int)) := by omega
              obtain ⟨t, htj⟩ : ∃ t, T[j]? = some t := ⟨_, List.getElem?_eq_getElem (by have := HN0.out; have := HN1.out; omega)⟩
              obtain ⟨rest, hahead⟩ := laid_ahead N T j i (by have := HM.out; omega)
              rw [← HL.out] at hahead
              have HAhead := Lib.hid hahead
              clear hahead
              obtain ⟨htl, ad1, A, C, ha1, hc1, hx1⟩ := HT.out j t htj
              have hcx1 : ∀ W, Below w.heap.size w W → W.cell? (ad1.add j) = some (.slice A t.length C) ∧ Bys W (.slice A t.length C) t := fun W hW => ⟨by rw [hW.cell (World.block_lt_of_cell? w _ hc1)]; exact hc1, hx1.below (Nat.le_refl _) hW⟩
              subst ha1
              obtain ⟨q, hq⟩ : ∃ q, q = t.length := ⟨_, rfl⟩
              rw [← hq] at hcx1
              have HCx1 := Lib.hid hcx1
              have hcw1 := (HCx1.out wr HBx.out).1
              have hrd := read_text R G L rest t ((laid N T j).length) q wr HRd.out (by rw [HAhead.out, stepL, hnj, htj, Option.elim_some, Option.elim_none, List.nil_append]) hq htl
              have HRead := Lib.hid hrd
              clear hc1 hx1 htl hq hcx1 hrd
              go_wp2_with fail
              refine HRead.out.mono ?_
              rintro e w4 ⟨ho, A4, C4, rfl, hx4, hr⟩
              have B4 := Lib.hid (HBx.out.trans (ho.below HRw.out HBx.out.size))
              have HR4 := Lib.hid hr
              have hcw4 := (HCx1.out w4 B4.out).1
              have hcv1 := conv_drew hx4
              have hcv2 := conv_drew (HCx1.out w4 B4.out).2
              clear ho hr HRead hx4 hcw1
              go_wp2
              go_quiet (fail)
              clear hcv1 hcv2

              go_wp2
              go_roundw
              case rel =>
                refine ⟨j + 1, by have := HM.out; omega, by go_num, ?_, ⟨B4.out.os, B4.out.tape, B4.out.output, B4.out.size, B4.out.block⟩⟩
                have h := HR4.out
                rw [laid, stepL, hnj, htj]; simpa using h.drewN nq
              case measure => have := HM.out; simp [intOf]; omega
            · have hd1 : ¬ ((j : Int) < (n1 : Int)) := by omega
              have e : j = i := by have := HM.out; omega
              have hrd := HRd.out
              rw [e, ← HL.out] at hrd
              have hleft := left_any L _ 0 R wr hrd
              have e0 : ((L.length - L.length : Nat) : Int) = 0 := by omega
              rw [e0] at hleft
              have HLeft := Lib.hid hleft
              have HRdL := Lib.hid hrd
              have hsix : ∀ W, IsRd W R G L L.length 0 → Calls Try.prog 20 #[.pointer (some ⟨R, 0, none⟩)] W fun e w' => e = .returned (.int .i64 0) ∧ Only R W w' := fun W h => by
                have hh := rdEnd_any R L L.length 0 W h
                rw [show endS L L.length 0 = 0 by simp [endS]] at hh
                exact hh.mono fun e w' ⟨h1, _, h3⟩ => ⟨h1, h3⟩
              have HSix := Lib.hid hsix
              clear hleft hrd hsix e0 e
              go_wp2_with fail
              refine HLeft.out.mono ?_
              rintro e w6 ⟨rfl, q6, rfl⟩
              go_wp2_with fail
              refine (HSix.out _ (HRdL.out.drewN q6)).mono ?_
              rintro e w7 ⟨rfl, ho7⟩
              have HO7 := Lib.hid ho7
              clear ho7
              go_wp2
              go_ret
              have hb7 : Below w.heap.size w (wr.drewN q6) := ⟨HBx.out.os, HBx.out.tape, HBx.out.output, HBx.out.size, HBx.out.block⟩
              exact ⟨rfl, hb7.trans (HO7.out.below HRw.out hb7.size)⟩
end Go.Proofs.Ytboongdoggggoaa
