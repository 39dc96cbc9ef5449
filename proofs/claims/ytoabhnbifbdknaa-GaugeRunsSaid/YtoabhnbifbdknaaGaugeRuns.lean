/- GaugeRuns: the walk. -/
import Derived.Test.YtoabhnbifbdknaaGaugeKit
import Derived.Test.YtoabhnbifbdknaaFrame
import Derived.Deep.Cut
namespace Go.Proofs.Ytoabhnbifbdknaa
open Go.RowKit EdgeMath Reg

/-- The numbers among the first i, and their gauge. -/
def kn (L : List Nat) (i : Nat) : List Nat := (L.take i).filter fun x => decide (rk x ≠ 9218868437227405313)
def gs (L : List Nat) (i : Nat) : G := (L.take i).foldl G.add G.none

theorem gs_step (L : List Nat) (i : Nat) (hi : i < L.length) : gs L (i + 1) = (gs L i).add L[i] := by
  unfold gs
  rw [List.take_succ_eq_append_getElem hi, List.foldl_append]
  rfl

theorem kn_step (L : List Nat) (i : Nat) (hi : i < L.length) : kn L (i + 1) = if rk L[i] = 9218868437227405313 then kn L i else kn L i ++ [L[i]] := by
  unfold kn
  rw [List.take_succ_eq_append_getElem hi, List.filter_append]
  by_cases h : rk L[i] = 9218868437227405313 <;> simp [h]

theorem kn_lt {L : List Nat} (hb : ∀ i (h : i < L.length), L[i] < 18446744073709551616) (i j : Nat) (h : j < (kn L i).length) : (kn L i)[j] < 18446744073709551616 := by
  have hm : (kn L i)[j] ∈ L := List.mem_of_mem_take (List.mem_filter.1 (List.getElem_mem h)).1
  obtain ⟨k, hk, e⟩ := List.getElem_of_mem hm
  rw [← e]
  exact hb k hk

theorem kn_length (L : List Nat) (i : Nat) : (kn L i).length ≤ i := by
  have h1 := List.length_filter_le (fun x => decide (rk x ≠ 9218868437227405313)) (L.take i)
  have h2 := List.length_take_le i L
  unfold kn
  omega

theorem gs_ok {L : List Nat} (hb : ∀ i (h : i < L.length), L[i] < 18446744073709551616) : ∀ i, i ≤ L.length → (gs L i).Ok := by
  intro i
  induction i with
  | zero => intro _; exact G.none_ok
  | succ i ih =>
    intro h
    rw [gs_step L i (by omega)]
    exact G.add_ok (ih (by omega)) (hb i (by omega))

theorem lowTo_snoc (l : List Nat) (x : Nat) : lowTo (l ++ [x]) (l ++ [x]).length = if l = [] then rk x else if rk x < lowTo l l.length then rk x else lowTo l l.length := by
  cases l with
  | nil => rfl
  | cons y ys =>
    simp only [List.cons_append, lowTo, List.length_cons, List.length_append, List.length_nil, Nat.add_sub_cancel, reduceCtorEq, if_false]
    rw [List.take_of_length_le (by simp), List.take_of_length_le (Nat.le_refl _), List.foldl_append]
    rfl

theorem highTo_snoc (l : List Nat) (x : Nat) : highTo (l ++ [x]) (l ++ [x]).length = if l = [] then rk x else if highTo l l.length < rk x then rk x else highTo l l.length := by
  cases l with
  | nil => rfl
  | cons y ys =>
    simp only [List.cons_append, highTo, List.length_cons, List.length_append, List.length_nil, Nat.add_sub_cancel, reduceCtorEq, if_false]
    rw [List.take_of_length_le (by simp), List.take_of_length_le (Nat.le_refl _), List.foldl_append]
    rfl

theorem gs_ends (L : List Nat) : ∀ i, i ≤ L.length → i ≤ 300 → (gs L i).n = (kn L i).length ∧ rk (gs L i).lo = lowTo (kn L i) (kn L i).length ∧ rk (gs L i).hi = highTo (kn L i) (kn L i).length := by
  intro i
  induction i with
  | zero =>
    intro _ _
    have e1 : rk (gs L 0).lo = 9218868437227405312 := by
      show rk 9218868437227405312 = _
      decide +kernel
    have e2 : rk (gs L 0).hi = -9218868437227405313 := by
      show rk 18442240474082181120 = _
      decide +kernel
    exact ⟨rfl, e1, e2⟩
  | succ i ih =>
    intro h h3
    obtain ⟨h4, h5, h6⟩ := ih (by omega) (by omega)
    have hk := kn_length L i
    rw [gs_step L i (by omega), kn_step L i (by omega)]
    obtain ⟨x, hx⟩ : ∃ x, x = L[i] := ⟨_, rfl⟩
    rw [← hx]
    unfold G.add
    by_cases hn : rk x = 9218868437227405313
    · rw [if_pos (.inl hn), if_pos hn]
      exact ⟨h4, h5, h6⟩
    · have hx1 := rk_hi x
      have hx2 := rk_lo x
      rw [if_neg (by omega), if_neg hn, lowTo_snoc, highTo_snoc, ← h5, ← h6]
      by_cases h0 : (gs L i).n = 0
      · have hl : kn L i = [] := List.eq_nil_of_length_eq_zero (by omega)
        rw [hl] at h5 h6
        have e5 : rk (gs L i).lo = 9218868437227405312 := h5
        have e6 : rk (gs L i).hi = -9218868437227405313 := h6
        rw [if_pos h0, if_pos hl, if_pos hl, hl]
        refine ⟨rfl, ?_, ?_⟩
        · show rk (lesser _ _) = _
          rw [lesser_rk]
          split <;> omega
        · show rk (greater _ _) = _
          rw [greater_rk]
          split <;> omega
      · have hl : kn L i ≠ [] := fun e => h0 (by rw [h4, e]; rfl)
        rw [if_neg h0, if_neg hl, if_neg hl]
        refine ⟨by show _ + 1 = _; rw [List.length_append, h4]; rfl, ?_, ?_⟩
        · show rk (lesser _ _) = _
          rw [lesser_rk]
        · show rk (greater _ _) = _
          rw [greater_rk]

set_option maxRecDepth 100000 in
set_option maxHeartbeats 4000000 in
theorem runs_walk (a : Option Addr) (n cap : Nat) (L : List Nat) (w : World) (hL : L.length = n) (hb : ∀ i (h : i < L.length), L[i] < 18446744073709551616)
    (hc : ∀ i (h : i < L.length), ∃ ad, a = some ad ∧ w.cell? (ad.add i) = some (.int .u64 (L[i] : Int))) :
    Calls Try.prog 3 #[.slice a n cap] w fun e w' => e = .returned (.bool true) ∧ Below w.heap.size w w' := by
  obtain ⟨i0, hi, hz0, hz1, hz2⟩ := info_parts info_float
  have HB := Lib.hid hb
  have HC := Lib.hid hc
  have HL := Lib.hid hL
  clear hb hc hL
  have hf := run_from
  go_enter Try.func3, Try.ntmps3
  go_wp2_with fail
  refine (gawake_any _).mono ?_
  rintro e w1 ⟨rfl, hb1⟩
  have HB1 := Lib.hid hb1
  clear hb1
  go_wp2_with fail
  refine (new_any _).mono ?_
  rintro e w2 ⟨rfl, hb2⟩
  have HB2 := Lib.hid (HB1.out.trans (hb2.mono HB1.out.size))
  clear hb2
  go_upto_region 4 with (refine wpList_store_row rfl 27 (.tmp 3) (.tmp 10) rfl w2.heap.size G.none.cells rfl rfl 27 _ (heap_alloc_new w2 _) (gcells_info _) rfl (gcells_one _) ?_)
  refine world_cut (fun W => GBlk W w2.heap.size G.none ∧ Below w.heap.size w W) ⟨Blk.row (Blk.new w2 _ _) _, below_setRow (HB2.out.alloc HB2.out.size _) _ _ HB2.out.size⟩ ?_
  have hg3w := HB2.out.size
  obtain ⟨g3, hg3⟩ : ∃ g, g = w2.heap.size := ⟨_, rfl⟩
  rw [← hg3] at hg3w ⊢
  have HG3 := Lib.hid hg3w
  clear hg3w hg3 HB2 HB1
  rintro W3 ⟨h1, h2⟩
  have HK3 := Lib.hid h1
  have HB3 := Lib.hid h2
  clear h1 h2
  go_wp2_with fail
  refine (refnew_any _).mono ?_
  rintro e w4 ⟨rfl, hb4⟩
  have HB4 := Lib.hid (HB3.out.trans (hb4.mono HB3.out.size))
  have HK4 := Lib.hid (HK3.out.keep hb4)
  clear hb4
  go_upto_region 5 with (refine wpList_store_row rfl 27 (.tmp 4) (.tmp 11) rfl w4.heap.size G.none.cells rfl rfl 27 _ (heap_alloc_new w4 _) (gcells_info _) rfl (gcells_one _) ?_)
  refine world_cut (fun W => GBlk W g3 G.none ∧ GBlk W w4.heap.size G.none ∧ Below w.heap.size w W) ⟨GBlk.rowOther (Blk.alloc HK4.out _) _ (by have := Blk.lt HK4.out; omega), Blk.row (Blk.new w4 _ _) _, below_setRow (HB4.out.alloc HB4.out.size _) _ _ HB4.out.size⟩ ?_
  have hg4w := HB4.out.size
  have hg34 : g3 ≠ w4.heap.size := by have := Blk.lt HK4.out; omega
  obtain ⟨g4, hg4⟩ : ∃ g, g = w4.heap.size := ⟨_, rfl⟩
  rw [← hg4] at hg4w hg34 ⊢
  have HG4 := Lib.hid hg4w
  have HNe := Lib.hid hg34
  clear hg4w hg4 hg34 HB4 HK4 HB3 HK3
  rintro W5 ⟨h1, h2, h3⟩
  have HK5 := Lib.hid h1
  have HK6 := Lib.hid h2
  have HB5 := Lib.hid h3
  clear h1 h2 h3
  go_wp2
  go_loopw [5, 6] (fun s5 s6 wr => ∃ (i : Nat) (g h : G), i ≤ n ∧ i ≤ 300 ∧ s6 = .int .i64 (i : Int) ∧ FRow wr w.heap.size s5 (kn L i) ∧ GBlk wr g3 g ∧ GBlk wr g4 h ∧ g.Ok ∧ h.Ok ∧ g.Eqv (gs L i) ∧ h.Eqv (gs L i) ∧ Below w.heap.size w wr) (fun _ s6 _ => n - (intOf s6).toNat)
  case atStart => exact ⟨0, G.none, G.none, by omega, by omega, rfl, World.ownsRow_nil _ _ _ _, HK5.out, HK6.out, G.none_ok, G.none_ok, G.Eqv.refl _, G.Eqv.refl _, HB5.out⟩
  case round =>
    obtain ⟨i, g, h, hin, hi3, rfl, hrow, hk3, hk4, hgo, hho, hge, hhe, hbel⟩ := hrel
    have HR := Lib.hid hrow
    have HK3 := Lib.hid hk3
    have HK4 := Lib.hid hk4
    have HGo := Lib.hid hgo
    have HHo := Lib.hid hho
    have HGe := Lib.hid hge
    have HHe := Lib.hid hhe
    have HW := Lib.hid hbel
    clear hrow hk3 hk4 hgo hho hge hhe hbel HK5 HK6 HB5
    by_cases hlt : i < n ∧ i < 300
    · obtain ⟨hlt, hlt3⟩ := hlt
      have hil : i < L.length := by have := HL.out; omega
      obtain ⟨ad, rfl, hcell0⟩ := HC.out i hil
      have hcell : wr.cell? (ad.add i) = some (.int .u64 (L[i] : Int)) := by
        rw [HW.out.cell (World.block_lt_of_cell? w _ hcell0)]
        exact hcell0
      have hgst := gs_step L i hil
      have hkst := kn_step L i hil
      have hyb := HB.out i hil
      have hgok := gs_ok HB.out i (by omega)
      have hknl := kn_length L i
      obtain ⟨y, hye⟩ : ∃ y, y = L[i] := ⟨_, rfl⟩
      rw [← hye] at hcell hgst hkst hyb
      have HGst := Lib.hid hgst
      have HKst := Lib.hid hkst
      have HY := Lib.hid hyb
      have HGok := Lib.hid hgok
      have HKl := Lib.hid hknl
      clear hcell0 hgst hkst hyb hgok hknl hye hil
      go_wp2_with (refine wpList_load_row rfl 27 (.tmp 3) rfl g3 rfl _ _ _ _ HK3.out Try.underlying27 rfl (gcells_info _) ?_)
      refine (add_g g y _ HGo.out HY.out).mono ?_
      rintro e wa ⟨b, rfl, hbo, hbe, hba⟩
      have HBo := Lib.hid hbo
      have HBe := Lib.hid (show b.Eqv (gs L (i + 1)) by
        rw [HGst.out]
        exact hbe.trans (G.add_congr HGo.out HGok.out HY.out HY.out HGe.out rfl))
      have HK3a := Lib.hid (HK3.out.keep hba)
      have HK4a := Lib.hid (HK4.out.keep hba)
      have HRa := Lib.hid (HR.out.keep hba)
      have HWa := Lib.hid (HW.out.trans (hba.mono HW.out.size))
      clear hbo hbe hba HK3 HK4 HR HW hcell
      go_wp2_with (first
        | (refine wpList_store_row rfl 27 (.tmp 3) (.tmp 29) rfl g3 b.cells rfl rfl 27 _ HK3a.out (gcells_info _) rfl (gcells_one _) ?_)
        | (refine wpList_load_row rfl 27 (.tmp 4) rfl g4 rfl _ _ _ _ (HK4a.out.rowOther _ HNe.out.symm) Try.underlying27 rfl (gcells_info _) ?_))
      refine (refadd_g h y _ HHo.out HY.out).mono ?_
      rintro e wb ⟨c, rfl, hco, hce, hbb⟩
      have HCo := Lib.hid hco
      have HCe := Lib.hid (show c.Eqv (gs L (i + 1)) by
        rw [HGst.out]
        exact hce.trans (G.add_congr HHo.out HGok.out HY.out HY.out HHe.out rfl))
      have HK3b := Lib.hid (GBlk.keep (Blk.row HK3a.out b.cells) hbb)
      have HK4b := Lib.hid ((HK4a.out.rowOther b.cells HNe.out.symm).keep hbb)
      have HRb := Lib.hid ((HRa.out.rowOther HK3a.out b.cells).keep hbb)
      have hsz : w.heap.size ≤ wa.heap.size := HWa.out.size
      have HWb := Lib.hid ((below_setRow HWa.out g3 b.cells HG3.out).trans (hbb.mono (by rw [setRow_size]; exact hsz)))
      clear hco hce hbb hsz HK3a HK4a HRa HWa
      go_upto_region 12 with (refine wpList_store_row rfl 27 (.tmp 4) (.tmp 32) rfl g4 c.cells rfl rfl 27 _ HK4b.out (gcells_info _) rfl (gcells_one _) ?_)
      refine world_cut (fun W => FRow W w.heap.size u5 (kn L i) ∧ GBlk W g3 b ∧ GBlk W g4 c ∧ Below w.heap.size w W) ⟨HRb.out.rowOther HK4b.out _, HK3b.out.rowOther _ HNe.out, Blk.row HK4b.out _, below_setRow HWb.out _ _ HG4.out⟩ ?_
      rintro W7 ⟨h1, h2, h3, h4⟩
      have HR7 := Lib.hid h1
      have HK37 := Lib.hid h2
      have HK47 := Lib.hid h3
      have HW7 := Lib.hid h4
      clear h1 h2 h3 h4 HRb HK3b HK4b HWb
      by_cases hnan : rk y = 9218868437227405313
      · have hnb : (FloatKind.f64.format.order y y == some .eq) = false := by
          have := nan_test y
          rw [hnan] at this
          simpa using this
        have HKst2 := Lib.hid (show kn L (i + 1) = kn L i by rw [HKst.out, if_pos hnan])
        clear hnan
        go_wp2
        go_roundw
        case rel => exact ⟨i + 1, b, c, by omega, by omega, by go_num, by rw [HKst2.out]; exact HR7.out, HK37.out, HK47.out, HBo.out, HCo.out, HBe.out, HCe.out, HW7.out⟩
        case measure => simp [intOf]; omega
      · have hnb : (FloatKind.f64.format.order y y == some .eq) = true := by
          have := nan_test y
          simp only [hnan, decide_false] at this
          simpa using this
        have HKst2 := Lib.hid (show kn L (i + 1) = kn L i ++ [y] by rw [HKst.out, if_neg hnan])
        clear hnan
        go_wp2_with (at_builtin; refine wpList_append_own _ rfl _ _ 29 rfl w.heap.size 25 i0 (.float .f64 0) 1 8 Try.underlying29 hi hz0 hz1 hz2 rfl (by decide) _ _ _ rfl (World.ownsRow.alloc HR7.out _) ⟨W7.heap.size, 0, none⟩ 1 1 [_] rfl rfl (float_one _ _) (by simp [Value.oneCell']) (by unfold maxLen; have := HKl.out; omega) (by have := HKl.out; omega) (by have := HW7.out.size; simp; omega) ?_; intro v' w8 hown1 hgrow1 hnil1; (have HO1 := Lib.hid hown1); (have HG1 := Lib.hid hgrow1); clear hown1 hgrow1 hnil1)
        go_roundw
        case rel =>
          refine ⟨i + 1, b, c, by omega, by omega, by go_num, ?_, ?_, ?_, HBo.out, HCo.out, HBe.out, HCe.out, ?_⟩
          · have h := HO1.out
            unfold FRow
            rw [HKst2.out, List.length_append, List.map_append]
            simpa [fv] using h
          · exact Blk.grown (Blk.alloc HK37.out _) (World.ownsRow.alloc HR7.out _) (by decide) HG1.out
          · exact Blk.grown (Blk.alloc HK47.out _) (World.ownsRow.alloc HR7.out _) (by decide) HG1.out
          · refine Below.grown (HW7.out.alloc HW7.out.size _) HG1.out (by have := HW7.out.size; simp; omega) (fun k hk => ?_)
            exact (World.ownsRow.lt HR7.out k hk).1
        case measure => simp [intOf]; omega
    · obtain ⟨hgn, hglo, hghi⟩ := gs_ends L i (by have := HL.out; omega) hi3
      have hlen := kn_length L i
      obtain ⟨l, hl⟩ : ∃ l, l = kn L i := ⟨_, rfl⟩
      have hlb : ∀ j (h : j < l.length), l[j] < 18446744073709551616 := by rw [hl]; exact kn_lt HB.out i
      have hfls : Fls wr u5 l := by rw [hl]; exact HR.out.fls
      rw [← hl] at hgn hglo hghi hlen
      obtain ⟨a5, c5, hu5⟩ : ∃ a5 c5, u5 = .slice a5 l.length c5 := by
        rcases hfls with ⟨h1, h2⟩ | ⟨q, c, h1, h2, h3⟩
        · exact ⟨_, _, by rw [h1, h2]; rfl⟩
        · exact ⟨_, _, h1⟩
      subst hu5
      have hghs : rk g.spread = rk h.spread := by rw [G.spread_congr HGo.out HHo.out (HGe.out.trans HHe.out.symm)]
      have hgh : g.Eqv h := HGe.out.trans HHe.out.symm
      have hn1 : g.n = l.length := HGe.out.n.trans hgn
      have hlo1 : rk g.lo = lowTo l l.length := HGe.out.lo.trans hglo
      have hhi1 : rk g.hi = highTo l l.length := HGe.out.hi.trans hghi
      have HGH := Lib.hid hgh
      have HSp := Lib.hid hghs
      have HN1 := Lib.hid hn1
      have HLo := Lib.hid hlo1
      have HHi := Lib.hid hhi1
      have HLen := Lib.hid (show l.length ≤ 300 by omega)
      have HLb := Lib.hid hlb
      have HF := Lib.hid hfls
      have hout : n ≤ i ∨ (i < n ∧ 300 ≤ i) := by omega
      clear hgh hghs hn1 hlo1 hhi1 hlen hlb hfls hgn hglo hghi hl hlt hin hi3
      obtain ⟨wo, rfl⟩ : ∃ wo : World, wo = wr := ⟨_, rfl⟩
      have hK : ∀ W W' : World, (GBlk W g3 g ∧ GBlk W g4 h ∧ Fls W (.slice a5 l.length c5) l ∧ Below w.heap.size w W) → Below W.heap.size W W' → (GBlk W' g3 g ∧ GBlk W' g4 h ∧ Fls W' (.slice a5 l.length c5) l ∧ Below w.heap.size w W') := fun W W' hW hb =>
        ⟨hW.1.keep hb, hW.2.1.keep hb, fls_keep hW.2.2.1 hb, hW.2.2.2.trans (hb.mono hW.2.2.2.size)⟩
      rcases hout with ho | ⟨ho1, ho2⟩
      all_goals
        go_upto_region 14 with fail
        refine region_by [(40, .is (.agg g.cells)), (41, .is (.agg h.cells)), (42, .is (.bool true)), (43, .is (.bool true)), (44, .is (.agg g.cells)), (45, flt (rk g.spread)), (46, .is (.agg h.cells)), (47, flt (rk g.spread)), (48, .is (.bool true)), (49, .is (.bool true)), (50, .is (.bool true)), (51, .is (.pointer (some ⟨g3, 0, none⟩))), (52, .is (.int .u64 (g.n : Int))), (53, .is (.slice a5 l.length c5)), (54, .is (.int .i64 (l.length : Int))), (55, .is (.int .u64 (l.length : Int))), (56, .is (.bool true)), (57, .is (.bool true)), (58, .is (.bool true)), (59, .is (.pointer (some ⟨g3, 3, none⟩))), (60, .is (.float .f64 g.lo)), (61, .is (.slice a5 l.length c5)), (62, flt (lowTo l l.length)), (63, .is (.bool true)), (64, .is (.bool true)), (65, .is (.bool true)), (66, .is (.pointer (some ⟨g3, 4, none⟩))), (67, .is (.float .f64 g.hi)), (68, .is (.slice a5 l.length c5)), (69, flt (highTo l l.length)), (70, .is (.bool true)), (71, .is (.bool true)), (2, .is (.bool true))] [2] (fun W => GBlk W g3 g ∧ GBlk W g4 h ∧ Fls W (.slice a5 l.length c5) l ∧ Below w.heap.size w W) (by kernel_rfl) (by kernel_rfl) (by kernel_rfl) (by kernel_rfl) (by kernel_rfl) (hK _ _ ⟨HK3.out, HK4.out, HF.out, HW.out⟩ (Below.refl _ _).drew) ?_ ?_
        · refine ⟨?c0, ?c1, ?c2, ?c3, ?c4, ?c5, ?c6, ?c7, ?c8, ?c9, ?c10, ?c11, ?c12, ?c13, ?c14, ?c15, ?c16, ?c17, ?c18, ?c19, ?c20, ?c21, ?c22, ?c23, ?c24, ?c25, ?c26, ?c27, ?c28, ?c29, ?c30, ?c31, ?c32, trivial⟩
          case c0 => exact ask_load (guard_none rfl) _ (.tmp 3) (.pointer (some ⟨g3, 0, none⟩)) (.agg g.cells) rfl rfl (by intro k hk; cases hk; rfl) (fun W hW => hW.1.loads)
          case c1 => exact ask_load (guard_none rfl) _ (.tmp 4) (.pointer (some ⟨g4, 0, none⟩)) (.agg h.cells) rfl rfl (by intro k hk; cases hk; rfl) (fun W hW => hW.2.1.loads)
          case c2 => exact ask_call hK (guard_none rfl) _ _ _ #[.agg g.cells, .agg h.cells] (.is (.bool true)) rfl (by kernel_rfl) rfl rfl (by intro k hk; cases hk; rfl) (fun W hW => (samegauge_any g h W HGo.out HHo.out HGH.out).mono fun e w' q => ⟨_, q.1, rfl, q.2⟩)
          case c3 => exact ask_copy (guard_none rfl) (.tmp 42) (.inl rfl) (by intro k hk; cases hk; rfl)
          case c4 => exact ask_load (guard_some rfl rfl rfl) _ (.tmp 3) (.pointer (some ⟨g3, 0, none⟩)) (.agg g.cells) rfl rfl (by intro k hk; cases hk; rfl) (fun W hW => hW.1.loads)
          case c5 => exact ask_call hK (guard_some rfl rfl rfl) _ _ _ #[.agg g.cells] (flt (rk g.spread)) rfl (by kernel_rfl) rfl rfl (by intro k hk; cases hk; rfl) (fun W hW => (spread_any g W HGo.out).mono fun e w' ⟨r, q1, q2, q3, q4⟩ => ⟨_, q1, ⟨r, rfl, q2, q3⟩, q4⟩)
          case c6 => exact ask_load (guard_some rfl rfl rfl) _ (.tmp 4) (.pointer (some ⟨g4, 0, none⟩)) (.agg h.cells) rfl rfl (by intro k hk; cases hk; rfl) (fun W hW => hW.2.1.loads)
          case c7 => exact ask_call hK (guard_some rfl rfl rfl) _ _ _ #[.agg h.cells] (flt (rk g.spread)) rfl (by kernel_rfl) rfl rfl (by intro k hk; cases hk; rfl) (fun W hW => (refspread_any h W HHo.out).mono fun e w' ⟨r, q1, q2, q3, q4⟩ => ⟨_, q1, ⟨r, rfl, q2, q3.trans HSp.out.symm⟩, q4⟩)
          case c8 => exact ask_same_flt hK (guard_some rfl rfl rfl) (.tmp 45) (.tmp 47) (rk g.spread) rfl (isFlt_flt _) (isFlt_flt _) (by intro k hk; cases hk; rfl)
          case c9 => exact ask_pick (guard_none rfl) (.tmp 43) _ _ true rfl rfl (by intro k hk; cases hk; rfl)
          case c10 => exact ask_copy (guard_none rfl) (.tmp 49) (.inl rfl) (by intro k hk; cases hk; rfl)
          case c11 => exact ask_field (guard_some rfl rfl rfl) _ (.tmp 3) 0 (.pointer (some ⟨g3, 0, none⟩)) (.pointer (some ⟨g3, 0, none⟩)) rfl rfl (by intro k hk; cases hk; rfl) (fun W => by kernel_rfl)
          case c12 => exact ask_load (guard_some rfl rfl rfl) _ (.tmp 51) (.pointer (some ⟨g3, 0, none⟩)) (.int .u64 (g.n : Int)) rfl rfl (by intro k hk; cases hk; rfl) (fun W hW => load_num W _ _ (by rw [Blk.cell hW.1]; rfl))
          case c13 => exact ask_copy (guard_some rfl rfl rfl) (.tmp 5) (.inl rfl) (by intro k hk; cases hk; rfl)
          case c14 => exact ask_len (guard_some rfl rfl rfl) (.tmp 53) _ a5 l.length c5 rfl (by rw [elem_floats]; exact Try.underlying29) rfl (by intro k hk; cases hk; rfl)
          case c15 => exact ask_read (guard_some rfl rfl rfl) (.tmp 54) (.int .i64 (l.length : Int)) (.int .u64 (l.length : Int)) rfl (by simp [Op.operands]) (by intro k hk; cases hk; rfl) (fun x W hW e => by simp only [execOp, e, Sem.run_bind, conv_len _ (show l.length < 9223372036854775808 by have := HLen.out; omega) W, Result.andThen_ok, Sem.run_pure])
          case c16 => exact ask_bin (guard_some rfl rfl rfl) _ _ _ _ _ _ _ _ rfl rfl rfl (by intro k hk; cases hk; rfl) (fun W => by rw [HN1.out]; exact num_eq _ W)
          case c17 => exact ask_pick (guard_none rfl) (.tmp 50) _ _ true rfl rfl (by intro k hk; cases hk; rfl)
          case c18 => exact ask_copy (guard_none rfl) (.tmp 57) (.inl rfl) (by intro k hk; cases hk; rfl)
          case c19 => exact ask_field (guard_some rfl rfl rfl) _ (.tmp 3) 3 (.pointer (some ⟨g3, 0, none⟩)) (.pointer (some ⟨g3, 3, none⟩)) rfl rfl (by intro k hk; cases hk; rfl) (fun W => by kernel_rfl)
          case c20 => exact ask_load (guard_some rfl rfl rfl) _ (.tmp 59) (.pointer (some ⟨g3, 3, none⟩)) (.float .f64 g.lo) rfl rfl (by intro k hk; cases hk; rfl) (fun W hW => load_flt W _ _ (by rw [Blk.cell hW.1]; rfl))
          case c21 => exact ask_copy (guard_some rfl rfl rfl) (.tmp 5) (.inl rfl) (by intro k hk; cases hk; rfl)
          case c22 => exact ask_call hK (guard_some rfl rfl rfl) _ _ _ #[.slice a5 l.length c5] (flt (lowTo l l.length)) rfl (by kernel_rfl) rfl rfl (by intro k hk; cases hk; rfl) (fun W hW => (least_any _ l W hW.2.2.1 HLb.out (by have := HLen.out; omega)).mono fun e w' ⟨r, q1, q2, q3, q4⟩ => ⟨_, q1, ⟨r, rfl, q2, q3⟩, by rw [← q4]; exact Below.refl _ _⟩)
          case c23 => exact ask_same_flt hK (guard_some rfl rfl rfl) (.tmp 60) (.tmp 62) (lowTo l l.length) rfl (isFlt_is HGo.out.lo HLo.out) (isFlt_flt _) (by intro k hk; cases hk; rfl)
          case c24 => exact ask_pick (guard_none rfl) (.tmp 58) _ _ true rfl rfl (by intro k hk; cases hk; rfl)
          case c25 => exact ask_copy (guard_none rfl) (.tmp 64) (.inl rfl) (by intro k hk; cases hk; rfl)
          case c26 => exact ask_field (guard_some rfl rfl rfl) _ (.tmp 3) 4 (.pointer (some ⟨g3, 0, none⟩)) (.pointer (some ⟨g3, 4, none⟩)) rfl rfl (by intro k hk; cases hk; rfl) (fun W => by kernel_rfl)
          case c27 => exact ask_load (guard_some rfl rfl rfl) _ (.tmp 66) (.pointer (some ⟨g3, 4, none⟩)) (.float .f64 g.hi) rfl rfl (by intro k hk; cases hk; rfl) (fun W hW => load_flt W _ _ (by rw [Blk.cell hW.1]; rfl))
          case c28 => exact ask_copy (guard_some rfl rfl rfl) (.tmp 5) (.inl rfl) (by intro k hk; cases hk; rfl)
          case c29 => exact ask_call hK (guard_some rfl rfl rfl) _ _ _ #[.slice a5 l.length c5] (flt (highTo l l.length)) rfl (by kernel_rfl) rfl rfl (by intro k hk; cases hk; rfl) (fun W hW => (most_any _ l W hW.2.2.1 HLb.out (by have := HLen.out; omega)).mono fun e w' ⟨r, q1, q2, q3, q4⟩ => ⟨_, q1, ⟨r, rfl, q2, q3⟩, by rw [← q4]; exact Below.refl _ _⟩)
          case c30 => exact ask_same_flt hK (guard_some rfl rfl rfl) (.tmp 67) (.tmp 69) (highTo l l.length) rfl (isFlt_is HGo.out.hi HHi.out) (isFlt_flt _) (by intro k hk; cases hk; rfl)
          case c31 => exact ask_pick (guard_none rfl) (.tmp 65) _ _ true rfl rfl (by intro k hk; cases hk; rfl)
          case c32 => exact ask_copy (guard_none rfl) (.tmp 71) (.inr rfl) (by intro k hk; cases hk; rfl)
        · intro a' W2 hW2 hd2 hs2 hf2
          have h4 : a'.tmps.getD 2 undef = .bool true := hf2 2 rfl
          have hd0 : a'.defers = [] := hd2
          go_wp2
          refine bodyPost_ret (v := .bool true) ?_ hd0 ⟨rfl, hW2.2.2.2⟩
          rw [← h4]
          exact results_tmp rfl _ _ _

theorem runs_all (w : World) (a : Option Addr) (n cap : Nat) (z : List Int) (hz : IsRow .u64 w a n cap z) (_sz : cap * 8 ≤ 140737488351232) :
    Calls Try.prog 3 #[.slice a n cap] w fun e w' => e = .returned (.bool true) ∧ Below w.heap.size w w' := by

  rcases hz with ⟨rfl, rfl, rfl, rfl⟩ | ⟨ad, rfl, hl, hm, hzl, hc, hw⟩
  · exact runs_walk none 0 0 [] w rfl (fun i h => by simp at h) (fun i h => by simp at h)
  · have hbd : ∀ i (h : i < z.length), 0 ≤ z[i] ∧ z[i] < 18446744073709551616 := fun i h => by
      have := bounds_u64 (hw z[i] (List.getElem_mem h))
      omega
    have hlen : ((z.take n).map Int.toNat).length = n := by rw [List.length_map, List.length_take]; omega
    refine runs_walk (some ad) n cap ((z.take n).map Int.toNat) w hlen (fun i h => ?_) (fun i h => ⟨ad, rfl, ?_⟩)
    · have hi : i < z.length := by omega
      have := hbd i hi
      simp only [List.getElem_map, List.getElem_take]
      omega
    · have hi : i < z.length := by omega
      have := hbd i hi
      rw [hc i hi]
      simp only [List.getElem_map, List.getElem_take, List.getD, List.getElem?_eq_getElem hi, Option.getD_some]
      congr 2
      omega

end Go.Proofs.Ytoabhnbifbdknaa
