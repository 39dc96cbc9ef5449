/- GaugeBytes: the walk. -/
import Derived.Test.YtboongdoggggoaaGaugeBytesMath
import Derived.Test.YtboongdoggggoaaGaugeRaw
import Derived.Test.YtboongdoggggoaaSkip
namespace Go.Proofs.Ytboongdoggggoaa
set_option maxRecDepth 20000
open Go.RowKit EdgeMath BinMath Reg

theorem raws_info (a : G) : (Try.prog.info? 51).map (·.size) = some a.raws.size := by
  have h : (Try.prog.info? 51).map (·.size) = some 5 := by kernel_rfl
  exact h

set_option maxRecDepth 100000 in
set_option maxHeartbeats 2000000 in
theorem bytes_walk (g : G) (b : Option Addr) (nb cb : Nat) (l : List UInt8) (w : World) (hg : g.Ok) (hb : Bys w (.slice b nb cb) l) (hl : l.length ≤ 140737488351232) (hnc : nb ≤ cb) (hnil : b = none → cb = 0) :
    Calls Try.prog 6 #[.agg g.raws, .slice b nb cb] w fun e w' => e = .returned (.bool true) ∧ Below w.heap.size w w' := by
  obtain ⟨C, B, hCB⟩ : ∃ C B, ggetR l = (C, B) := ⟨_, _, rfl⟩
  obtain ⟨bk, hbk, hbo, hbe⟩ := ggetR_txt g hg
  have HGok := Lib.hid hg
  have HX0 := Lib.hid hb
  have HCB := Lib.hid hCB
  have HBok := Lib.hid (ggetR_ok l C B hCB)
  have HBkR := Lib.hid hbk
  have HBk := Lib.hid hbo
  have HBkE := Lib.hid hbe
  have HTl := Lib.hid (show (g.txt 4).length ≤ 41 by rw [txt_length g 4 (by omega), numL_length]; have := nb_le g.n hg.n; omega)
  have HTn := Lib.hid (show (g.txt 4) ≠ [] by
    intro h
    have h1 := txt_length g 4 (by omega)
    rw [h] at h1
    simp at h1)
  have HLl := Lib.hid hl
  have HNc := Lib.hid hnc
  have HNil := Lib.hid hnil
  have hraws : ∀ (W : World) (cs : Array Value) (t : TypeId), Blk (W.alloc (.cells cs t)) W.heap.size t cs := fun W cs t => Blk.new W t cs
  have HRaws := Lib.hid hraws
  clear hg hb hCB hbk hbo hbe hl hnc hnil hraws
  go_enter Try.func6, Try.ntmps6
  go_wp2_with fail
  refine (gawake_any _).mono ?_
  rintro e w1 ⟨rfl, hb1⟩
  have HRaw1 := Lib.hid (Blk.keep (HRaws.out w g.raws 51) hb1)
  have HB1 := Lib.hid (show Below w.heap.size w w1 from ((Below.refl _ _).alloc (Nat.le_refl _) _).trans (hb1.mono (by simp)))
  clear hb1
  go_wp2_with (refine wpList_load_row rfl 51 (.tmp 2) rfl w.heap.size rfl _ g.raws _ _ HRaw1.out Try.underlying51 rfl (raws_info _) ?_)
  refine (graw_any g _).mono ?_
  rintro e w2 ⟨rfl, hb2⟩
  have HB2 := Lib.hid (HB1.out.trans (hb2.mono HB1.out.size))
  clear hb2 HB1 HRaw1
  go_upto_region 4 with (refine wpList_store_row rfl 54 (.tmp 5) (.tmp 16) rfl w2.heap.size g.cells rfl rfl 54 _ (heap_alloc_new w2 _) (gcells_info _) rfl (gcells_one _) ?_)
  refine world_cut (fun W => GBlk W w2.heap.size g ∧ Below w.heap.size w W) ⟨Blk.row (Blk.new w2 _ _) _, below_setRow (HB2.out.alloc HB2.out.size _) _ _ HB2.out.size⟩ ?_
  obtain ⟨g5, hg5⟩ : ∃ q, q = w2.heap.size := ⟨_, rfl⟩
  rw [← hg5]
  clear hg5 HB2
  rintro W3 ⟨h1, h2⟩
  have H53 := Lib.hid h1
  have HB3 := Lib.hid h2
  clear h1 h2
  go_wp2_with (refine wpList_load_row rfl 54 (.tmp 5) rfl g5 rfl _ g.cells _ _ H53.out Try.underlying54 rfl (gcells_info _) ?_)
  refine (gput_any g _ HGok.out).mono ?_
  rintro e w4 ⟨v6, rfl, hrow, hb4⟩
  obtain ⟨q6, c6, hv6, -, -, hc6, -⟩ := Row.shape hrow HTn.out
  obtain ⟨a6, ha6⟩ : ∃ a, a = some (⟨q6, 0, none⟩ : Addr) := ⟨_, rfl⟩
  rw [← ha6] at hv6
  subst hv6
  have HC6 := Lib.hid hc6
  have HV4 := Lib.hid hrow.bys
  have H54 := Lib.hid (H53.out.keep hb4)
  have HB4 := Lib.hid (HB3.out.trans (hb4.mono HB3.out.size))
  clear hrow hb4 hc6 ha6 H53 HB3
  have HX4 := Lib.hid (HX0.out.below (Nat.le_refl _) HB4.out)
  go_wp2_with fail
  refine (gget_any b nb cb l C B _ HX4.out HLl.out HNc.out HCB.out).mono ?_
  rintro e w5 ⟨rfl, hb5⟩
  have H55 := Lib.hid (H54.out.keep hb5)
  have HV5 := Lib.hid (HV4.out.below (Nat.le_refl _) hb5)
  have HB5 := Lib.hid (HB4.out.trans (hb5.mono HB4.out.size))
  clear hb5 H54 HV4 HB4 HX4
  go_upto_region 6 with (refine wpList_store_row rfl 54 (.tmp 7) (.tmp 22) rfl w5.heap.size B.cells rfl rfl 54 _ (heap_alloc_new w5 _) (gcells_info _) rfl (gcells_one _) ?_)
  refine world_cut (fun W => GBlk W g5 g ∧ GBlk W w5.heap.size B ∧ Bys W (.slice a6 (g.txt 4).length c6) (g.txt 4) ∧ Below w.heap.size w W) ?_ ?_
  · have hbW : Below w5.heap.size w5 (((w5.alloc (.cells #[.int .u64 0, .float .f64 0, .float .f64 0, .float .f64 0, .float .f64 0] 54))).setRow w5.heap.size B.cells) := below_setRow ((Below.refl _ _).alloc (Nat.le_refl _) _) _ _ (Nat.le_refl _)
    exact ⟨H55.out.keep hbW, Blk.row (Blk.new w5 _ _) _, HV5.out.below (Nat.le_refl _) hbW, HB5.out.trans (hbW.mono HB5.out.size)⟩
  obtain ⟨g7, hg7⟩ : ∃ q, q = w5.heap.size := ⟨_, rfl⟩
  rw [← hg7]
  clear hg7 H55 HV5 HB5
  rintro W6 ⟨h1, h2, h3, h4⟩
  have H56 := Lib.hid h1
  have H76 := Lib.hid h2
  have HV6 := Lib.hid h3
  have HB6 := Lib.hid h4
  clear h1 h2 h3 h4
  have HX6 := Lib.hid (HX0.out.below (Nat.le_refl _) HB6.out)
  go_wp2_with fail
  refine (refgget_any b nb cb l C B _ HX6.out HLl.out HNc.out HNil.out HCB.out).mono ?_
  rintro e w7 ⟨rfl, hb7⟩
  have H57 := Lib.hid (H56.out.keep hb7)
  have H77 := Lib.hid (H76.out.keep hb7)
  have HV7 := Lib.hid (HV6.out.below (Nat.le_refl _) hb7)
  have HB7 := Lib.hid (HB6.out.trans (hb7.mono HB6.out.size))
  clear hb7 H56 H76 HV6 HB6 HX6
  go_upto_region 7 with (refine wpList_store_row rfl 54 (.tmp 9) (.tmp 27) rfl w7.heap.size B.cells rfl rfl 54 _ (heap_alloc_new w7 _) (gcells_info _) rfl (gcells_one _) ?_)
  refine world_cut (fun W => GBlk W g5 g ∧ GBlk W g7 B ∧ GBlk W w7.heap.size B ∧ Bys W (.slice a6 (g.txt 4).length c6) (g.txt 4) ∧ Below w.heap.size w W) ?_ ?_
  · have hbW : Below w7.heap.size w7 (((w7.alloc (.cells #[.int .u64 0, .float .f64 0, .float .f64 0, .float .f64 0, .float .f64 0] 54))).setRow w7.heap.size B.cells) := below_setRow ((Below.refl _ _).alloc (Nat.le_refl _) _) _ _ (Nat.le_refl _)
    exact ⟨H57.out.keep hbW, H77.out.keep hbW, Blk.row (Blk.new w7 _ _) _, HV7.out.below (Nat.le_refl _) hbW, HB7.out.trans (hbW.mono HB7.out.size)⟩
  obtain ⟨g9, hg9⟩ : ∃ q, q = w7.heap.size := ⟨_, rfl⟩
  rw [← hg9]
  clear hg9 H57 H77 HV7 HB7
  rintro W8 ⟨h1, h2, h3, h4, h5⟩
  have H5 := Lib.hid h1
  have H7 := Lib.hid h2
  have H9 := Lib.hid h3
  have HV := Lib.hid h4
  have HB := Lib.hid h5
  clear h1 h2 h3 h4 h5
  have HX := Lib.hid (HX0.out.below (Nat.le_refl _) HB.out)
  have HG := Lib.hid (show ∀ W W' : World, (GBlk W g5 g ∧ GBlk W g7 B ∧ GBlk W g9 B ∧ Bys W (.slice a6 (g.txt 4).length c6) (g.txt 4) ∧ Bys W (.slice b nb cb) l ∧ Below w.heap.size w W) → Below W.heap.size W W' → (GBlk W' g5 g ∧ GBlk W' g7 B ∧ GBlk W' g9 B ∧ Bys W' (.slice a6 (g.txt 4).length c6) (g.txt 4) ∧ Bys W' (.slice b nb cb) l ∧ Below w.heap.size w W') from fun W W' hW hb => ⟨hW.1.keep hb, hW.2.1.keep hb, hW.2.2.1.keep hb, hW.2.2.2.1.below (Nat.le_refl _) hb, hW.2.2.2.2.1.below (Nat.le_refl _) hb, hW.2.2.2.2.2.trans (hb.mono hW.2.2.2.2.2.size)⟩)
  by_cases hC : C = 0
  · have HBl := Lib.hid (ggetR_back l B (by rw [← hC]; exact HCB.out))
    have HC0 := Lib.hid (show ((C : Int) == 0) = true by rw [hC]; rfl)
    have HC1 := Lib.hid (show ((C : Int) != 0) = false by rw [hC]; rfl)
    clear hC
    refine region_skip [(29, .is (.slice a6 (g.txt 4).length c6)), (30, .is (.string ⟨(g.txt 4).toArray⟩)), (31, .is (.agg g.cells)), (32, .bys (g.txt 4)), (33, .is (.string ⟨(g.txt 4).toArray⟩)), (34, .is (.bool false)), (35, .is (.bool false)), (36, .is (.int .i64 (C : Int))), (37, .is (.int .i64 (C : Int))), (38, .is (.bool false)), (39, .is (.bool false)), (40, .is (.bool false)), (41, .is (.int .i64 (C : Int))), (42, .is (.bool true)), (43, .is (.bool true)), (44, .is (.agg B.cells)), (45, .is (.agg B.cells)), (46, .is (.bool true)), (47, .is (.bool false)), (48, .is (.bool false)), (49, .is (.bool false))] [1, 5, 6, 7, 8, 49] (fun W => GBlk W g5 g ∧ GBlk W g7 B ∧ GBlk W g9 B ∧ Bys W (.slice a6 (g.txt 4).length c6) (g.txt 4) ∧ Bys W (.slice b nb cb) l ∧ Below w.heap.size w W) (by kernel_rfl) (by kernel_rfl) (by kernel_rfl) (by kernel_rfl) (by kernel_rfl) (HG.out _ _ ⟨H5.out, H7.out, H9.out, HV.out, HX.out, HB.out⟩ (Below.refl _ _).drew) ?_ ?_
    · refine ⟨?c0, ?c1, ?c2, ?c3, ?c4, ?c5, ?c6, ?c7, ?c8, ?c9, ?c10, ?c11, ?c12, ?c13, ?c14, ?c15, ?c16, ?c17, ?c18, ?c19, ?c20, trivial⟩
      case c0 => exact runs (ask_copy (guard_none rfl) (.tmp 6) (.inl rfl) (by intro k hk; cases hk; rfl))
      case c1 => exact runs (ask_string_is (guard_none rfl) (.tmp 29) (.slice a6 (g.txt 4).length c6) (g.txt 4) rfl (fun W hW => hW.2.2.2.1) rfl (by intro k hk; cases hk; rfl))
      case c2 => exact runs (ask_load (guard_none rfl) _ (.tmp 5) (.pointer (some ⟨g5, 0, none⟩)) (.agg g.cells) rfl rfl (by intro k hk; cases hk; rfl) (fun W hW => hW.1.loads))
      case c3 => exact runs (ask_call HG.out (guard_none rfl) _ _ _ #[.agg g.cells] (.bys (g.txt 4)) rfl (by kernel_rfl) rfl rfl (by intro k hk; cases hk; rfl) (fun W hW => (refgput_any g W HGok.out).mono fun e w' h => by obtain ⟨v, h1, h2, h3⟩ := h; exact ⟨v, h1, h2.bys, h3⟩))
      case c4 => exact runs (ask_string (guard_none rfl) (.tmp 32) (g.txt 4) (.inl rfl) rfl (by intro k hk; cases hk; rfl))
      case c5 => exact runs (ask_bin (guard_none rfl) _ _ _ _ _ _ _ _ rfl rfl rfl (by intro k hk; cases hk; rfl) (neq_str _ _ _))
      case c6 => exact runs (ask_copy (guard_none rfl) (.tmp 34) (.inl rfl) (by intro k hk; cases hk; rfl))
      case c7 => exact runs (ask_copy (guard_some rfl rfl rfl) (.tmp 8) (.inl rfl) (by intro k hk; cases hk; rfl))
      case c8 => exact runs (ask_copy (guard_some rfl rfl rfl) (.tmp 10) (.inl rfl) (by intro k hk; cases hk; rfl))
      case c9 => exact runs (ask_bin (guard_some rfl rfl rfl) _ _ _ _ _ _ _ _ rfl rfl rfl (by intro k hk; cases hk; rfl) (neq_err _ _ _ _ false (by simp)))
      case c10 => exact runs (ask_pick (guard_none rfl) (.tmp 35) _ _ false rfl rfl (by intro k hk; cases hk; rfl))
      case c11 => exact runs (ask_copy (guard_none rfl) (.tmp 39) (.inl rfl) (by intro k hk; cases hk; rfl))
      case c12 => exact runs (ask_copy (guard_some rfl rfl rfl) (.tmp 8) (.inl rfl) (by intro k hk; cases hk; rfl))
      case c13 => exact runs (ask_bin (guard_some rfl rfl rfl) _ _ _ _ _ _ _ _ rfl rfl rfl (by intro k hk; cases hk; rfl) (eql_err _ _ _ _ true HC0.out))
      case c14 => exact runs (ask_copy (guard_some rfl rfl rfl) (.tmp 42) (.inl rfl) (by intro k hk; cases hk; rfl))
      case c15 => exact runs (ask_load (guard_some rfl rfl rfl) _ (.tmp 7) (.pointer (some ⟨g7, 0, none⟩)) (.agg B.cells) rfl rfl (by intro k hk; cases hk; rfl) (fun W hW => hW.2.1.loads))
      case c16 => exact runs (ask_load (guard_some rfl rfl rfl) _ (.tmp 9) (.pointer (some ⟨g9, 0, none⟩)) (.agg B.cells) rfl rfl (by intro k hk; cases hk; rfl) (fun W hW => hW.2.2.1.loads))
      case c17 => exact runs (ask_call HG.out (guard_some rfl rfl rfl) _ _ _ #[.agg B.cells, .agg B.cells] (.is (.bool true)) rfl (by kernel_rfl) rfl rfl (by intro k hk; cases hk; rfl) (fun W hW => (samegauge_any B B W HBok.out HBok.out (G.Eqv.refl _)).mono fun e w' q => ⟨_, q.1, rfl, q.2⟩))
      case c18 => exact runs (ask_exec (guard_some rfl rfl rfl) (.bool false) rfl rfl (by intro k hk; cases hk; rfl) (fun W hW => by kernel_rfl))
      case c19 => exact runs (ask_pick (guard_some rfl rfl rfl) (.tmp 43) _ _ true rfl rfl (by intro k hk; cases hk; rfl))
      case c20 => exact runs (ask_pick (guard_none rfl) (.tmp 40) _ _ false rfl rfl (by intro k hk; cases hk; rfl))
    · intro a' W1 hW1 hd1 hs1 hf1
      have t1 : a'.tmps.getD 1 undef = .slice b nb cb := hf1 1 rfl
      have t5 : a'.tmps.getD 5 undef = .pointer (some ⟨g5, 0, none⟩) := hf1 5 rfl
      have t6 : a'.tmps.getD 6 undef = .slice a6 (g.txt 4).length c6 := hf1 6 rfl
      have t7 : a'.tmps.getD 7 undef = .pointer (some ⟨g7, 0, none⟩) := hf1 7 rfl
      have t8 : a'.tmps.getD 8 undef = .int .i64 (C : Int) := hf1 8 rfl
      have t49 : a'.tmps.getD 49 undef = .bool false := hf1 49 rfl
      obtain ⟨us, hus, ha'⟩ := act_open 74 a' hs1 hd1
      rw [← hus] at t1 t5 t6 t7 t8 t49
      have el : ((List.range 74).map us).toArray = #[us 0, us 1, us 2, us 3, us 4, us 5, us 6, us 7, us 8, us 9, us 10, us 11, us 12, us 13, us 14, us 15, us 16, us 17, us 18, us 19, us 20, us 21, us 22, us 23, us 24, us 25, us 26, us 27, us 28, us 29, us 30, us 31, us 32, us 33, us 34, us 35, us 36, us 37, us 38, us 39, us 40, us 41, us 42, us 43, us 44, us 45, us 46, us 47, us 48, us 49, us 50, us 51, us 52, us 53, us 54, us 55, us 56, us 57, us 58, us 59, us 60, us 61, us 62, us 63, us 64, us 65, us 66, us 67, us 68, us 69, us 70, us 71, us 72, us 73] := rfl
      rw [el] at ha'
      subst ha'
      rw [t1, t5, t6, t7, t8, t49]
      clear hus t1 t5 t6 t7 t8 t49 el hf1 hs1 hd1
      obtain ⟨h5, h7, -, hv, hx, hbel⟩ := hW1
      have H5' := Lib.hid h5
      have H7' := Lib.hid h7
      have HV' := Lib.hid hv
      have HX' := Lib.hid hx
      have HB' := Lib.hid hbel
      clear h5 h7 hv hx hbel H5 H7 H9 HV HX HB HG
      go_wp2_with fail
      refine (gget_any a6 (g.txt 4).length c6 (g.txt 4) 0 bk _ HV'.out (by have := HTl.out; omega) HC6.out HBkR.out).mono ?_
      rintro e W2 ⟨rfl, hb2⟩
      have H52 := Lib.hid (H5'.out.keep hb2)
      have H72 := Lib.hid (H7'.out.keep hb2)
      have HV2 := Lib.hid (HV'.out.below (Nat.le_refl _) hb2)
      have HX2 := Lib.hid (HX'.out.below (Nat.le_refl _) hb2)
      have HB2 := Lib.hid (HB'.out.trans (hb2.mono HB'.out.size))
      clear hb2
      go_upto_region 10 with (refine wpList_store_row rfl 54 (.tmp 11) (.tmp 53) rfl W2.heap.size bk.cells rfl rfl 54 _ (heap_alloc_new W2 _) (gcells_info _) rfl (gcells_one _) ?_)
      refine world_cut (fun W => GBlk W g5 g ∧ GBlk W g7 B ∧ GBlk W W2.heap.size bk ∧ Bys W (.slice a6 (g.txt 4).length c6) (g.txt 4) ∧ Bys W (.slice b nb cb) l ∧ Below w.heap.size w W) ?_ ?_
      · have l5 := Blk.lt H52.out
        have l7 := Blk.lt H72.out
        have hbW : Below W2.heap.size W2 (((W2.alloc (.cells #[.int .u64 0, .float .f64 0, .float .f64 0, .float .f64 0, .float .f64 0] 54))).setRow W2.heap.size bk.cells) := below_setRow ((Below.refl _ _).alloc (Nat.le_refl _) _) _ _ (Nat.le_refl _)
        exact ⟨H52.out.keep hbW, H72.out.keep hbW, Blk.row (Blk.new W2 _ _) _, HV2.out.below (Nat.le_refl _) hbW, HX2.out.below (Nat.le_refl _) hbW, HB2.out.trans (hbW.mono HB2.out.size)⟩
      obtain ⟨g11, hg11⟩ : ∃ q, q = W2.heap.size := ⟨_, rfl⟩
      rw [← hg11]
      clear hg11 H5' H7' HV' HX' HB' H52 H72 HV2 HX2 HB2
      rintro W3 hW3
      have HG := Lib.hid (show ∀ W W' : World, (GBlk W g5 g ∧ GBlk W g7 B ∧ GBlk W g11 bk ∧ Bys W (.slice a6 (g.txt 4).length c6) (g.txt 4) ∧ Bys W (.slice b nb cb) l ∧ Below w.heap.size w W) → Below W.heap.size W W' → (GBlk W' g5 g ∧ GBlk W' g7 B ∧ GBlk W' g11 bk ∧ Bys W' (.slice a6 (g.txt 4).length c6) (g.txt 4) ∧ Bys W' (.slice b nb cb) l ∧ Below w.heap.size w W') from fun W W' hW hb => ⟨hW.1.keep hb, hW.2.1.keep hb, hW.2.2.1.keep hb, hW.2.2.2.1.below (Nat.le_refl _) hb, hW.2.2.2.2.1.below (Nat.le_refl _) hb, hW.2.2.2.2.2.trans (hb.mono hW.2.2.2.2.2.size)⟩)
      have HW3 := Lib.hid hW3
      clear hW3
      refine region_skip [(55, .is (.int .i64 0)), (56, .is (.bool true)), (57, .is (.bool true)), (58, .is (.agg bk.cells)), (59, .is (.agg g.cells)), (60, .is (.bool true)), (61, .is (.bool true)), (62, .is (.bool true)), (63, .is (.int .i64 (C : Int))), (64, .is (.bool false)), (65, .is (.bool false)), (66, .is (.agg B.cells)), (67, .bys l), (68, .is (.string ⟨l.toArray⟩)), (69, .is (.slice b nb cb)), (70, .is (.string ⟨l.toArray⟩)), (71, .is (.bool true)), (72, .is (.bool true)), (73, .is (.bool true)), (4, .is (.bool true))] [4] (fun W => GBlk W g5 g ∧ GBlk W g7 B ∧ GBlk W g11 bk ∧ Bys W (.slice a6 (g.txt 4).length c6) (g.txt 4) ∧ Bys W (.slice b nb cb) l ∧ Below w.heap.size w W) (by kernel_rfl) (by kernel_rfl) (by kernel_rfl) (by kernel_rfl) (by kernel_rfl) (HG.out _ _ HW3.out (Below.refl _ _).drew) ?_ ?_
      · refine ⟨?c0, ?c1, ?c2, ?c3, ?c4, ?c5, ?c6, ?c7, ?c8, ?c9, ?c10, ?c11, ?c12, ?c13, ?c14, ?c15, ?c16, ?c17, ?c18, ?c19, trivial⟩
        case c0 => exact runs (ask_copy (guard_none rfl) (.tmp 12) (.inl rfl) (by intro k hk; cases hk; rfl))
        case c1 => exact runs (ask_bin (guard_none rfl) _ _ _ _ _ _ _ _ rfl rfl rfl (by intro k hk; cases hk; rfl) (eql_err _ _ _ _ true (by simp)))
        case c2 => exact runs (ask_copy (guard_none rfl) (.tmp 56) (.inl rfl) (by intro k hk; cases hk; rfl))
        case c3 => exact runs (ask_load (guard_some rfl rfl rfl) _ (.tmp 11) (.pointer (some ⟨g11, 0, none⟩)) (.agg bk.cells) rfl rfl (by intro k hk; cases hk; rfl) (fun W hW => hW.2.2.1.loads))
        case c4 => exact runs (ask_load (guard_some rfl rfl rfl) _ (.tmp 5) (.pointer (some ⟨g5, 0, none⟩)) (.agg g.cells) rfl rfl (by intro k hk; cases hk; rfl) (fun W hW => hW.1.loads))
        case c5 => exact runs (ask_call HG.out (guard_some rfl rfl rfl) _ _ _ #[.agg bk.cells, .agg g.cells] (.is (.bool true)) rfl (by kernel_rfl) rfl rfl (by intro k hk; cases hk; rfl) (fun W hW => (samegauge_any bk g W HBk.out HGok.out HBkE.out).mono fun e w' q => ⟨_, q.1, rfl, q.2⟩))
        case c6 => exact runs (ask_pick (guard_none rfl) (.tmp 57) _ _ true rfl rfl (by intro k hk; cases hk; rfl))
        case c7 => exact runs (ask_copy (guard_none rfl) (.tmp 61) (.inl rfl) (by intro k hk; cases hk; rfl))
        case c8 => exact runs (ask_copy (guard_some rfl rfl rfl) (.tmp 8) (.inl rfl) (by intro k hk; cases hk; rfl))
        case c9 => exact runs (ask_bin (guard_some rfl rfl rfl) _ _ _ _ _ _ _ _ rfl rfl rfl (by intro k hk; cases hk; rfl) (neq_err _ _ _ _ false HC1.out))
        case c10 => exact runs (ask_copy (guard_some rfl rfl rfl) (.tmp 64) (.inl rfl) (by intro k hk; cases hk; rfl))
        case c11 => exact runs (ask_load (guard_some rfl rfl rfl) _ (.tmp 7) (.pointer (some ⟨g7, 0, none⟩)) (.agg B.cells) rfl rfl (by intro k hk; cases hk; rfl) (fun W hW => hW.2.1.loads))
        case c12 => exact runs (ask_call HG.out (guard_some rfl rfl rfl) _ _ _ #[.agg B.cells] (.bys l) rfl (by kernel_rfl) rfl rfl (by intro k hk; cases hk; rfl) (fun W hW => (gput_any B W HBok.out).mono fun e w' h => by obtain ⟨v, h1, h2, h3⟩ := h; rw [HBl.out] at h2; exact ⟨v, h1, h2.bys, h3⟩))
        case c13 => exact runs (ask_string (guard_some rfl rfl rfl) (.tmp 67) l (.inl rfl) rfl (by intro k hk; cases hk; rfl))
        case c14 => exact runs (ask_copy (guard_some rfl rfl rfl) (.tmp 1) (.inl rfl) (by intro k hk; cases hk; rfl))
        case c15 => exact runs (ask_string_is (guard_some rfl rfl rfl) (.tmp 69) (.slice b nb cb) l rfl (fun W hW => hW.2.2.2.2.1) rfl (by intro k hk; cases hk; rfl))
        case c16 => exact runs (ask_bin (guard_some rfl rfl rfl) _ _ _ _ _ _ _ _ rfl rfl rfl (by intro k hk; cases hk; rfl) (eql_str _ _ _))
        case c17 => exact runs (ask_pick (guard_some rfl rfl rfl) (.tmp 65) _ _ false rfl rfl (by intro k hk; cases hk; rfl))
        case c18 => exact runs (ask_pick (guard_none rfl) (.tmp 62) _ _ true rfl rfl (by intro k hk; cases hk; rfl))
        case c19 => exact runs (ask_copy (guard_none rfl) (.tmp 73) (.inr rfl) (by intro k hk; cases hk; rfl))
      · intro a' W4 hW4 hd4 hs4 hf4
        have h4 : a'.tmps.getD 4 undef = .bool true := hf4 4 rfl
        have hd0 : a'.defers = [] := hd4
        go_wp2
        refine bodyPost_ret (v := .bool true) ?_ hd0 ⟨rfl, hW4.2.2.2.2.2⟩
        rw [← h4]
        exact results_tmp rfl _ _ _
  · have HC0 := Lib.hid (show ((C : Int) == 0) = false by simp; omega)
    have HC1 := Lib.hid (show ((C : Int) != 0) = true by simp; omega)
    clear hC
    refine region_skip [(29, .is (.slice a6 (g.txt 4).length c6)), (30, .is (.string ⟨(g.txt 4).toArray⟩)), (31, .is (.agg g.cells)), (32, .bys (g.txt 4)), (33, .is (.string ⟨(g.txt 4).toArray⟩)), (34, .is (.bool false)), (35, .is (.bool false)), (36, .is (.int .i64 (C : Int))), (37, .is (.int .i64 (C : Int))), (38, .is (.bool false)), (39, .is (.bool false)), (40, .is (.bool false)), (41, .is (.int .i64 (C : Int))), (42, .is (.bool false)), (43, .is (.bool false)), (44, .is undef), (45, .is undef), (46, .is undef), (47, .is undef), (48, .is (.bool false)), (49, .is (.bool false))] [1, 5, 6, 7, 8, 49] (fun W => GBlk W g5 g ∧ GBlk W g7 B ∧ GBlk W g9 B ∧ Bys W (.slice a6 (g.txt 4).length c6) (g.txt 4) ∧ Bys W (.slice b nb cb) l ∧ Below w.heap.size w W) (by kernel_rfl) (by kernel_rfl) (by kernel_rfl) (by kernel_rfl) (by kernel_rfl) (HG.out _ _ ⟨H5.out, H7.out, H9.out, HV.out, HX.out, HB.out⟩ (Below.refl _ _).drew) ?_ ?_
    · refine ⟨?c0, ?c1, ?c2, ?c3, ?c4, ?c5, ?c6, ?c7, ?c8, ?c9, ?c10, ?c11, ?c12, ?c13, ?c14, ?c15, ?c16, ?c17, ?c18, ?c19, ?c20, trivial⟩
      case c0 => exact runs (ask_copy (guard_none rfl) (.tmp 6) (.inl rfl) (by intro k hk; cases hk; rfl))
      case c1 => exact runs (ask_string_is (guard_none rfl) (.tmp 29) (.slice a6 (g.txt 4).length c6) (g.txt 4) rfl (fun W hW => hW.2.2.2.1) rfl (by intro k hk; cases hk; rfl))
      case c2 => exact runs (ask_load (guard_none rfl) _ (.tmp 5) (.pointer (some ⟨g5, 0, none⟩)) (.agg g.cells) rfl rfl (by intro k hk; cases hk; rfl) (fun W hW => hW.1.loads))
      case c3 => exact runs (ask_call HG.out (guard_none rfl) _ _ _ #[.agg g.cells] (.bys (g.txt 4)) rfl (by kernel_rfl) rfl rfl (by intro k hk; cases hk; rfl) (fun W hW => (refgput_any g W HGok.out).mono fun e w' h => by obtain ⟨v, h1, h2, h3⟩ := h; exact ⟨v, h1, h2.bys, h3⟩))
      case c4 => exact runs (ask_string (guard_none rfl) (.tmp 32) (g.txt 4) (.inl rfl) rfl (by intro k hk; cases hk; rfl))
      case c5 => exact runs (ask_bin (guard_none rfl) _ _ _ _ _ _ _ _ rfl rfl rfl (by intro k hk; cases hk; rfl) (neq_str _ _ _))
      case c6 => exact runs (ask_copy (guard_none rfl) (.tmp 34) (.inl rfl) (by intro k hk; cases hk; rfl))
      case c7 => exact runs (ask_copy (guard_some rfl rfl rfl) (.tmp 8) (.inl rfl) (by intro k hk; cases hk; rfl))
      case c8 => exact runs (ask_copy (guard_some rfl rfl rfl) (.tmp 10) (.inl rfl) (by intro k hk; cases hk; rfl))
      case c9 => exact runs (ask_bin (guard_some rfl rfl rfl) _ _ _ _ _ _ _ _ rfl rfl rfl (by intro k hk; cases hk; rfl) (neq_err _ _ _ _ false (by simp)))
      case c10 => exact runs (ask_pick (guard_none rfl) (.tmp 35) _ _ false rfl rfl (by intro k hk; cases hk; rfl))
      case c11 => exact runs (ask_copy (guard_none rfl) (.tmp 39) (.inl rfl) (by intro k hk; cases hk; rfl))
      case c12 => exact runs (ask_copy (guard_some rfl rfl rfl) (.tmp 8) (.inl rfl) (by intro k hk; cases hk; rfl))
      case c13 => exact runs (ask_bin (guard_some rfl rfl rfl) _ _ _ _ _ _ _ _ rfl rfl rfl (by intro k hk; cases hk; rfl) (eql_err _ _ _ _ false HC0.out))
      case c14 => exact runs (ask_copy (guard_some rfl rfl rfl) (.tmp 42) (.inl rfl) (by intro k hk; cases hk; rfl))
      case c15 => exact skips 14 true 43 (.bool false) rfl rfl rfl (by simp) (by intro k hk; cases hk; rfl)
      case c16 => exact skips 14 true 43 (.bool false) rfl rfl rfl (by simp) (by intro k hk; cases hk; rfl)
      case c17 => exact skips 14 true 43 (.bool false) rfl rfl rfl (by simp) (by intro k hk; cases hk; rfl)
      case c18 => exact skips 14 true 43 (.bool false) rfl rfl rfl (by simp) (by intro k hk; cases hk; rfl)
      case c19 => exact runs (ask_pick (guard_some rfl rfl rfl) (.tmp 43) _ _ false rfl rfl (by intro k hk; cases hk; rfl))
      case c20 => exact runs (ask_pick (guard_none rfl) (.tmp 40) _ _ false rfl rfl (by intro k hk; cases hk; rfl))
    · intro a' W1 hW1 hd1 hs1 hf1
      have t1 : a'.tmps.getD 1 undef = .slice b nb cb := hf1 1 rfl
      have t5 : a'.tmps.getD 5 undef = .pointer (some ⟨g5, 0, none⟩) := hf1 5 rfl
      have t6 : a'.tmps.getD 6 undef = .slice a6 (g.txt 4).length c6 := hf1 6 rfl
      have t7 : a'.tmps.getD 7 undef = .pointer (some ⟨g7, 0, none⟩) := hf1 7 rfl
      have t8 : a'.tmps.getD 8 undef = .int .i64 (C : Int) := hf1 8 rfl
      have t49 : a'.tmps.getD 49 undef = .bool false := hf1 49 rfl
      obtain ⟨us, hus, ha'⟩ := act_open 74 a' hs1 hd1
      rw [← hus] at t1 t5 t6 t7 t8 t49
      have el : ((List.range 74).map us).toArray = #[us 0, us 1, us 2, us 3, us 4, us 5, us 6, us 7, us 8, us 9, us 10, us 11, us 12, us 13, us 14, us 15, us 16, us 17, us 18, us 19, us 20, us 21, us 22, us 23, us 24, us 25, us 26, us 27, us 28, us 29, us 30, us 31, us 32, us 33, us 34, us 35, us 36, us 37, us 38, us 39, us 40, us 41, us 42, us 43, us 44, us 45, us 46, us 47, us 48, us 49, us 50, us 51, us 52, us 53, us 54, us 55, us 56, us 57, us 58, us 59, us 60, us 61, us 62, us 63, us 64, us 65, us 66, us 67, us 68, us 69, us 70, us 71, us 72, us 73] := rfl
      rw [el] at ha'
      subst ha'
      rw [t1, t5, t6, t7, t8, t49]
      clear hus t1 t5 t6 t7 t8 t49 el hf1 hs1 hd1
      obtain ⟨h5, h7, -, hv, hx, hbel⟩ := hW1
      have H5' := Lib.hid h5
      have H7' := Lib.hid h7
      have HV' := Lib.hid hv
      have HX' := Lib.hid hx
      have HB' := Lib.hid hbel
      clear h5 h7 hv hx hbel H5 H7 H9 HV HX HB HG
      go_wp2_with fail
      refine (gget_any a6 (g.txt 4).length c6 (g.txt 4) 0 bk _ HV'.out (by have := HTl.out; omega) HC6.out HBkR.out).mono ?_
      rintro e W2 ⟨rfl, hb2⟩
      have H52 := Lib.hid (H5'.out.keep hb2)
      have H72 := Lib.hid (H7'.out.keep hb2)
      have HV2 := Lib.hid (HV'.out.below (Nat.le_refl _) hb2)
      have HX2 := Lib.hid (HX'.out.below (Nat.le_refl _) hb2)
      have HB2 := Lib.hid (HB'.out.trans (hb2.mono HB'.out.size))
      clear hb2
      go_upto_region 10 with (refine wpList_store_row rfl 54 (.tmp 11) (.tmp 53) rfl W2.heap.size bk.cells rfl rfl 54 _ (heap_alloc_new W2 _) (gcells_info _) rfl (gcells_one _) ?_)
      refine world_cut (fun W => GBlk W g5 g ∧ GBlk W g7 B ∧ GBlk W W2.heap.size bk ∧ Bys W (.slice a6 (g.txt 4).length c6) (g.txt 4) ∧ Bys W (.slice b nb cb) l ∧ Below w.heap.size w W) ?_ ?_
      · have l5 := Blk.lt H52.out
        have l7 := Blk.lt H72.out
        have hbW : Below W2.heap.size W2 (((W2.alloc (.cells #[.int .u64 0, .float .f64 0, .float .f64 0, .float .f64 0, .float .f64 0] 54))).setRow W2.heap.size bk.cells) := below_setRow ((Below.refl _ _).alloc (Nat.le_refl _) _) _ _ (Nat.le_refl _)
        exact ⟨H52.out.keep hbW, H72.out.keep hbW, Blk.row (Blk.new W2 _ _) _, HV2.out.below (Nat.le_refl _) hbW, HX2.out.below (Nat.le_refl _) hbW, HB2.out.trans (hbW.mono HB2.out.size)⟩
      obtain ⟨g11, hg11⟩ : ∃ q, q = W2.heap.size := ⟨_, rfl⟩
      rw [← hg11]
      clear hg11 H5' H7' HV' HX' HB' H52 H72 HV2 HX2 HB2
      rintro W3 hW3
      have HG := Lib.hid (show ∀ W W' : World, (GBlk W g5 g ∧ GBlk W g7 B ∧ GBlk W g11 bk ∧ Bys W (.slice a6 (g.txt 4).length c6) (g.txt 4) ∧ Bys W (.slice b nb cb) l ∧ Below w.heap.size w W) → Below W.heap.size W W' → (GBlk W' g5 g ∧ GBlk W' g7 B ∧ GBlk W' g11 bk ∧ Bys W' (.slice a6 (g.txt 4).length c6) (g.txt 4) ∧ Bys W' (.slice b nb cb) l ∧ Below w.heap.size w W') from fun W W' hW hb => ⟨hW.1.keep hb, hW.2.1.keep hb, hW.2.2.1.keep hb, hW.2.2.2.1.below (Nat.le_refl _) hb, hW.2.2.2.2.1.below (Nat.le_refl _) hb, hW.2.2.2.2.2.trans (hb.mono hW.2.2.2.2.2.size)⟩)
      have HW3 := Lib.hid hW3
      clear hW3
      refine region_skip [(55, .is (.int .i64 0)), (56, .is (.bool true)), (57, .is (.bool true)), (58, .is (.agg bk.cells)), (59, .is (.agg g.cells)), (60, .is (.bool true)), (61, .is (.bool true)), (62, .is (.bool true)), (63, .is (.int .i64 (C : Int))), (64, .is (.bool true)), (65, .is (.bool true)), (66, .is undef), (67, .is undef), (68, .is undef), (69, .is undef), (70, .is undef), (71, .is undef), (72, .is (.bool true)), (73, .is (.bool true)), (4, .is (.bool true))] [4] (fun W => GBlk W g5 g ∧ GBlk W g7 B ∧ GBlk W g11 bk ∧ Bys W (.slice a6 (g.txt 4).length c6) (g.txt 4) ∧ Bys W (.slice b nb cb) l ∧ Below w.heap.size w W) (by kernel_rfl) (by kernel_rfl) (by kernel_rfl) (by kernel_rfl) (by kernel_rfl) (HG.out _ _ HW3.out (Below.refl _ _).drew) ?_ ?_
      · refine ⟨?c0, ?c1, ?c2, ?c3, ?c4, ?c5, ?c6, ?c7, ?c8, ?c9, ?c10, ?c11, ?c12, ?c13, ?c14, ?c15, ?c16, ?c17, ?c18, ?c19, trivial⟩
        case c0 => exact runs (ask_copy (guard_none rfl) (.tmp 12) (.inl rfl) (by intro k hk; cases hk; rfl))
        case c1 => exact runs (ask_bin (guard_none rfl) _ _ _ _ _ _ _ _ rfl rfl rfl (by intro k hk; cases hk; rfl) (eql_err _ _ _ _ true (by simp)))
        case c2 => exact runs (ask_copy (guard_none rfl) (.tmp 56) (.inl rfl) (by intro k hk; cases hk; rfl))
        case c3 => exact runs (ask_load (guard_some rfl rfl rfl) _ (.tmp 11) (.pointer (some ⟨g11, 0, none⟩)) (.agg bk.cells) rfl rfl (by intro k hk; cases hk; rfl) (fun W hW => hW.2.2.1.loads))
        case c4 => exact runs (ask_load (guard_some rfl rfl rfl) _ (.tmp 5) (.pointer (some ⟨g5, 0, none⟩)) (.agg g.cells) rfl rfl (by intro k hk; cases hk; rfl) (fun W hW => hW.1.loads))
        case c5 => exact runs (ask_call HG.out (guard_some rfl rfl rfl) _ _ _ #[.agg bk.cells, .agg g.cells] (.is (.bool true)) rfl (by kernel_rfl) rfl rfl (by intro k hk; cases hk; rfl) (fun W hW => (samegauge_any bk g W HBk.out HGok.out HBkE.out).mono fun e w' q => ⟨_, q.1, rfl, q.2⟩))
        case c6 => exact runs (ask_pick (guard_none rfl) (.tmp 57) _ _ true rfl rfl (by intro k hk; cases hk; rfl))
        case c7 => exact runs (ask_copy (guard_none rfl) (.tmp 61) (.inl rfl) (by intro k hk; cases hk; rfl))
        case c8 => exact runs (ask_copy (guard_some rfl rfl rfl) (.tmp 8) (.inl rfl) (by intro k hk; cases hk; rfl))
        case c9 => exact runs (ask_bin (guard_some rfl rfl rfl) _ _ _ _ _ _ _ _ rfl rfl rfl (by intro k hk; cases hk; rfl) (neq_err _ _ _ _ true HC1.out))
        case c10 => exact runs (ask_copy (guard_some rfl rfl rfl) (.tmp 64) (.inl rfl) (by intro k hk; cases hk; rfl))
        case c11 => exact skips 10 false 65 (.bool true) rfl rfl rfl (by simp) (by intro k hk; cases hk; rfl)
        case c12 => exact skips 10 false 65 (.bool true) rfl rfl rfl (by simp) (by intro k hk; cases hk; rfl)
        case c13 => exact skips 10 false 65 (.bool true) rfl rfl rfl (by simp) (by intro k hk; cases hk; rfl)
        case c14 => exact skips 10 false 65 (.bool true) rfl rfl rfl (by simp) (by intro k hk; cases hk; rfl)
        case c15 => exact skips 10 false 65 (.bool true) rfl rfl rfl (by simp) (by intro k hk; cases hk; rfl)
        case c16 => exact skips 10 false 65 (.bool true) rfl rfl rfl (by simp) (by intro k hk; cases hk; rfl)
        case c17 => exact runs (ask_pick (guard_some rfl rfl rfl) (.tmp 65) _ _ true rfl rfl (by intro k hk; cases hk; rfl))
        case c18 => exact runs (ask_pick (guard_none rfl) (.tmp 62) _ _ true rfl rfl (by intro k hk; cases hk; rfl))
        case c19 => exact runs (ask_copy (guard_none rfl) (.tmp 73) (.inr rfl) (by intro k hk; cases hk; rfl))
      · intro a' W4 hW4 hd4 hs4 hf4
        have h4 : a'.tmps.getD 4 undef = .bool true := hf4 4 rfl
        have hd0 : a'.defers = [] := hd4
        go_wp2
        refine bodyPost_ret (v := .bool true) ?_ hd0 ⟨rfl, hW4.2.2.2.2.2⟩
        rw [← h4]
        exact results_tmp rfl _ _ _

theorem bytes_all (w : World) (g : G) (hg : g.Ok) (b : Option Addr) (nb cb : Nat) (z : List Int) (hz : IsRow .u8 w b nb cb z) (sz : cb * 1 ≤ 140737488351232) :
    Calls Try.prog 6 #[.agg g.raws, .slice b nb cb] w fun e w' => e = .returned (.bool true) ∧ Below w.heap.size w w' := by
  obtain ⟨l, hl, hb⟩ := hz.bys
  have hle := hz.le
  refine bytes_walk g b nb cb l w hg hb (by omega) hle ?_
  intro hn
  rcases hz with ⟨-, -, h, -⟩ | ⟨ad, h, -⟩
  · exact h
  · rw [hn] at h; cases h

end Go.Proofs.Ytboongdoggggoaa
