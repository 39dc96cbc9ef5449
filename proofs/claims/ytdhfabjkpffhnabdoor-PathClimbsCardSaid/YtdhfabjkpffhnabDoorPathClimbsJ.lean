/- PathClimbs: the walk. -/
import Derived.Test.YtdhfabjkpffhnabDoorPathSpecJ
namespace Go.Proofs.YtdhfabjkpffhnabDoor
set_option maxRecDepth 20000
open Go.RowKit ShaMath LeafMath PathMath Reg

def lit123 : Hs := 1 :: 2 :: 3 :: List.replicate 29 0

theorem climbR_9 (n : Int) (h : Hs) (i m : Nat) (ps : List Hs) : (climbR n h i m ps).2 ≤ 9 := by
  unfold climbR
  split
  · exact Nat.le_refl _
  · split
    · show 2 ≤ 9; omega
    · split
      · show 4 ≤ 9; omega
      · exact Nat.zero_le _

set_option maxHeartbeats 2000000 in
set_option maxRecDepth 100000 in
theorem pathClimbs_walk (hp : PathProg) (hq : LeafProg) (n : Int) (hn : I64 n) (h : Hs) (hh : h.length = 32) (i m : Nat) (hi : i < 18446744073709551616) (hm : m < 18446744073709551616) (ps : List Hs) (v : Value) (w : World) (hv : Hss w v ps) (ht : Tabs w) (hk : Consts w) :
    Calls Tryd.prog 4 #[.int .i64 n, .agg (bs h), .int .u64 (i : Int), .int .u64 (m : Int), v] w fun e w' => e = .returned (.bool true) ∧ Below w.heap.size w w' := by
  obtain ⟨a, c, rfl, hc⟩ := hv.form
  obtain ⟨m70, hmm⟩ : ∃ k, k = ps.length := ⟨_, rfl⟩
  rw [← hmm] at hv hc ⊢
  have HT := Lib.hid ht
  have HK := Lib.hid hk
  have HP := Lib.hid hp
  have HQ := Lib.hid hq
  by_cases h70 : 70 < m70
  · have hv2 : Hss w (.slice a 70 c) (ps.take 70) := by
      have := hv.sub 0 70 (by omega) (by omega)
      rw [sliced_zero] at this
      simpa using this
    have hl2 : (ps.take 70).length = 70 := by rw [List.length_take]; omega
    have hsl : ∀ W, (Instr.sliceAt 22 (.slice a m70 c) none (some (.int .i64 70)) none).run Tryd.prog W = .ok (.slice a 70 c) W := fun W => by
      have := slice_hs_to a m70 c 70 (by omega) W
      rwa [sliced_zero] at this
    obtain ⟨ps2, hps2⟩ : ∃ h, h = ps.take 70 := ⟨_, rfl⟩
    rw [← hps2] at hv2 hl2
    have HV := Lib.hid hv2
    have HL := Lib.hid hl2
    have HSl := Lib.hid hsl
    clear hv hv2 hl2 hsl hps2 hmm
    obtain ⟨X, hX⟩ : ∃ X, X = (climbR n h i m ps2).1 := ⟨_, rfl⟩
    obtain ⟨E, hE⟩ : ∃ E, E = (climbR n h i m ps2).2 := ⟨_, rfl⟩
    have hX32 : X.length = 32 := by rw [hX]; exact climbR_32 n h i m ps2 hh
    have HClimb := Lib.hid (fun (W : World) (hW : Below w.heap.size w W) => HP.out.climb n h i m ps2 (.slice a 70 c) W hn hh hi hm (HV.out.below (Nat.le_refl _) hW) (by rw [HL.out]; omega) (HT.out.below (Nat.le_refl _) hW))
    have HClimbR := Lib.hid (fun (W : World) (hW : Below w.heap.size w W) => refclimb_any n hn h i m ps2 (.slice a 70 c) W hh hi hm (HV.out.below (Nat.le_refl _) hW) (HK.out.below (Nat.le_refl _) hW))
    obtain ⟨b, hbb⟩ : ∃ b, b = (X == lit123) := ⟨_, rfl⟩
    have HC1 : Hid (∀ W : World, Below w.heap.size w W → Calls Tryd.prog 21 #[.int .i64 n, .agg (bs h), .int .u64 (i : Int), .int .u64 (m : Int), .slice a 70 c, .agg (bs X)] W fun e w' => e = .returned (.bool (decide (E = 0))) ∧ Below W.heap.size W w') := Lib.hid fun W hW => by
      have := HP.out.check n h i m ps2 (.slice a 70 c) X W hn hh hX32 hi hm (HV.out.below (Nat.le_refl _) hW) (by rw [HL.out]; omega) (HT.out.below (Nat.le_refl _) hW)
      rwa [show decide ((climbR n h i m ps2).2 = 0 ∧ (climbR n h i m ps2).1 = X) = decide (E = 0) by rw [hX, hE]; simp] at this
    have HC2 : Hid (∀ W : World, Below w.heap.size w W → Calls Tryd.prog 21 #[.int .i64 n, .agg (bs h), .int .u64 (i : Int), .int .u64 (m : Int), .slice a 70 c, .agg (bs lit123)] W fun e w' => e = .returned (.bool (decide (E = 0) && b)) ∧ Below W.heap.size W w') := Lib.hid fun W hW => by
      have := HP.out.check n h i m ps2 (.slice a 70 c) lit123 W hn hh rfl hi hm (HV.out.below (Nat.le_refl _) hW) (by rw [HL.out]; omega) (HT.out.below (Nat.le_refl _) hW)
      rwa [show decide ((climbR n h i m ps2).2 = 0 ∧ (climbR n h i m ps2).1 = lit123) = (decide (E = 0) && b) by rw [hbb, hX, hE, Bool.decide_and]; congr 1; rw [Bool.eq_iff_iff]; simp] at this
    rw [← hX, ← hE] at HClimb HClimbR
    obtain ⟨S, hS⟩ : ∃ S, S = sizeP i m := ⟨_, rfl⟩
    have hSb : S ≤ 64 := by rw [hS]; exact sizeP_64 i m hm
    have HSize := Lib.hid (fun (W : World) => HP.out.size i m W hi hm)
    have HSizeR := Lib.hid (fun (W : World) => refsize15_any m i W hm hi)
    rw [← hS] at HSize HSizeR
    have hEb : E ≤ 9 := by rw [hE]; exact climbR_9 n h i m ps2
    have HEqL := Lib.hid (fun (W : World) => show (Op.equalIn 10000 30 (.agg (bs X)) (.agg #[.int .u8 1, .int .u8 2, .int .u8 3, .int .u8 0, .int .u8 0, .int .u8 0, .int .u8 0, .int .u8 0, .int .u8 0, .int .u8 0, .int .u8 0, .int .u8 0, .int .u8 0, .int .u8 0, .int .u8 0, .int .u8 0, .int .u8 0, .int .u8 0, .int .u8 0, .int .u8 0, .int .u8 0, .int .u8 0, .int .u8 0, .int .u8 0, .int .u8 0, .int .u8 0, .int .u8 0, .int .u8 0, .int .u8 0, .int .u8 0, .int .u8 0, .int .u8 0])).run Tryd.prog W = .ok b W by rw [hbb]; exact eq_hash W X lit123 hX32 rfl)
    have HEq := Lib.hid (fun W => eq_same W X hX32)
    obtain ⟨cx, hcx, hcx32, hone⟩ := hash_cells X hX32
    rw [← hcx] at HClimb HClimbR HC1 HEq HEqL
    have HSx := Lib.hid (size_hash hcx32)
    have HCx := Lib.hid hcx32
    have HOne := Lib.hid hone
    have HSh := Lib.hid (size_hash (cs := bs h) (by rw [bs_size, hh]))
    clear hX hE hX32 hS hbb hcx hcx32 hone hh hn hp hq ht hk
    go_enter Tryd.func4, Tryd.ntmps4
    go_upto_region 1 with fail
    refine world_cut (fun W => Blk W w.heap.size 30 (bs h) ∧ Below w.heap.size w W) ⟨Blk.new w _ _, (Below.refl _ _).alloc (Nat.le_refl _) _⟩ ?_
    rintro W0 ⟨h1, h2⟩
    have HBk := Lib.hid h1
    have HW := Lib.hid h2
    clear h1 h2
    go_wp2_with fail
    refine (awake15_any HP.out HQ.out _ (HT.out.below (Nat.le_refl _) HW.out)).mono ?_
    rintro e W1 ⟨rfl, hb1⟩
    have HW1 := Lib.hid (HW.out.trans (hb1.mono HW.out.size))
    have HBk1 := Lib.hid (HBk.out.keep hb1)
    clear hb1 HW HBk HP HQ HT HK
    have HBk := HBk1
    clear HBk1
    have hsl := HSl.out
    clear HSl
    go_wp2_with (refine wpList_load_row rfl 30 (.tmp 6) rfl w.heap.size rfl 30 (bs h) (0, 0) _ HBk.out Tryd.underlying30 rfl HSh.out ?_)
    refine (HClimb.out _ HW1.out).mono ?_
    rintro e W2 ⟨rfl, hb2⟩
    have HW2 := Lib.hid (HW1.out.trans (hb2.mono HW1.out.size))
    have HBk2 := Lib.hid (HBk.out.keep hb2)
    clear hb2 HW1 HBk HClimb
    go_upto_region 6 with (refine wpList_store_row rfl 30 (.tmp 11) (.tmp 29) rfl W2.heap.size cx rfl rfl 30 _ (Blk.new W2 _ _) HSx.out (by rw [HCx.out]; rfl) HOne.out ?_)
    obtain ⟨g11, hg11⟩ : ∃ g, g = W2.heap.size := ⟨_, rfl⟩
    have h2s := HW2.out.size
    have h26 : ¬ w.heap.size = W2.heap.size := by have := HBk2.out.lt; omega
    refine world_cut (fun W => Blk W w.heap.size 30 (bs h) ∧ Blk W g11 30 cx ∧ Below w.heap.size w W) ⟨(HBk2.out.alloc _).rowOther _ h26, by rw [hg11]; exact Blk.row (Blk.new W2 _ _) cx, below_setRow (HW2.out.alloc h2s _) _ _ h2s⟩ ?_
    rw [← hg11]
    have hg11' : w.heap.size < g11 := by omega
    clear hg11 h2s h26 HW2 HBk2
    rintro W3 ⟨h1, h2, h3⟩
    have HBk := Lib.hid h1
    have HBk11 := Lib.hid h2
    have HW := Lib.hid h3
    clear h1 h2 h3
    go_wp2_with (refine wpList_load_row rfl 30 (.tmp 6) rfl w.heap.size rfl 30 (bs h) (0, 0) _ HBk.out Tryd.underlying30 rfl HSh.out ?_)
    refine (HClimbR.out _ HW.out).mono ?_
    rintro e W4 ⟨rfl, hb4⟩
    have HW4 := Lib.hid (HW.out.trans (hb4.mono HW.out.size))
    have HBk4 := Lib.hid (HBk.out.keep hb4)
    have HBk114 := Lib.hid (HBk11.out.keep hb4)
    clear hb4 HW HBk HBk11 HClimbR
    go_upto_region 7 with (refine wpList_store_row rfl 30 (.tmp 13) (.tmp 38) rfl W4.heap.size cx rfl rfl 30 _ (Blk.new W4 _ _) HSx.out (by rw [HCx.out]; rfl) HOne.out ?_)
    obtain ⟨g13, hg13⟩ : ∃ g, g = W4.heap.size := ⟨_, rfl⟩
    have h4s := HW4.out.size
    have h46 : ¬ w.heap.size = W4.heap.size := by have := HBk4.out.lt; omega
    have h411 : ¬ g11 = W4.heap.size := by have := HBk114.out.lt; omega
    refine world_cut (fun W => Blk W w.heap.size 30 (bs h) ∧ Blk W g11 30 cx ∧ Blk W g13 30 cx ∧ Below w.heap.size w W) ⟨(HBk4.out.alloc _).rowOther _ h46, (HBk114.out.alloc _).rowOther _ h411, by rw [hg13]; exact Blk.row (Blk.new W4 _ _) cx, below_setRow (HW4.out.alloc h4s _) _ _ h4s⟩ ?_
    rw [← hg13]
    clear hg13 h4s h46 h411 HW4 HBk4 HBk114
    rintro W4' ⟨h1, h2, h3, h4⟩
    have HBk := Lib.hid h1
    have HBk11 := Lib.hid h2
    have HBk13 := Lib.hid h3
    have HW := Lib.hid h4
    clear h1 h2 h3 h4
    by_cases hE0 : E = 0
    · subst hE0
      simp only [decide_true, Bool.true_and] at HC1 HC2
      cases b
      · have heq := HEq.out
        go_wp2_with (first
        | (refine wpList_load_row rfl 30 (.tmp 6) rfl w.heap.size rfl 30 (bs h) (0, 0) _ HBk.out Tryd.underlying30 rfl HSh.out ?_)
        | (refine wpList_load_row rfl 30 (.tmp 11) rfl g11 rfl 30 cx (0, 0) _ HBk11.out Tryd.underlying30 rfl HSx.out ?_)
        | (refine wpList_load_guarded rfl 30 (.tmp 6) rfl _ (.agg (bs h)) rfl (HBk.out.loads 30 _ Tryd.underlying30 rfl HSh.out) ?_)
        | (refine wpList_load_guarded rfl 30 (.tmp 11) rfl _ (.agg cx) rfl (HBk11.out.loads 30 _ Tryd.underlying30 rfl HSx.out) ?_)
        | (refine wpList_load_guarded rfl 30 (.tmp 13) rfl _ (.agg cx) rfl (HBk13.out.loads 30 _ Tryd.underlying30 rfl HSx.out) ?_))
        clear heq
        refine (HSize.out _).mono ?_
        rintro e W5 ⟨rfl, hb5⟩
        have HW5 := Lib.hid (HW.out.trans (hb5.mono HW.out.size))
        have HBk5 := Lib.hid (HBk.out.keep hb5)
        have HBk115 := Lib.hid (HBk11.out.keep hb5)
        clear hb5 HSize HW HBk HBk11 HBk13
        go_wp2_with fail
        refine (HSizeR.out W5).mono ?_
        rintro e W6 ⟨rfl, rfl⟩
        clear HSizeR
        have HBk := HBk5
        have HBk11 := HBk115
        clear HBk5 HBk115
        go_wp2_with (first
        | (refine wpList_load_row rfl 30 (.tmp 6) rfl w.heap.size rfl 30 (bs h) (0, 0) _ HBk.out Tryd.underlying30 rfl HSh.out ?_)
        | (refine wpList_load_row rfl 30 (.tmp 11) rfl g11 rfl 30 cx (0, 0) _ HBk11.out Tryd.underlying30 rfl HSx.out ?_)
        | (refine wpList_load_guarded rfl 30 (.tmp 6) rfl _ (.agg (bs h)) rfl (HBk.out.loads 30 _ Tryd.underlying30 rfl HSh.out) ?_)
        | (refine wpList_load_guarded rfl 30 (.tmp 11) rfl _ (.agg cx) rfl (HBk11.out.loads 30 _ Tryd.underlying30 rfl HSx.out) ?_)
        | (refine wpList_load_guarded rfl 30 (.tmp 13) rfl _ (.agg cx) rfl (HBk13.out.loads 30 _ Tryd.underlying30 rfl HSx.out) ?_))
        refine (HC1.out _ HW5.out).mono ?_
        rintro e W7 ⟨rfl, hb7⟩
        have HW7 := Lib.hid (HW5.out.trans (hb7.mono HW5.out.size))
        have HBk7 := Lib.hid (HBk.out.keep hb7)
        have HBk117 := Lib.hid (HBk11.out.keep hb7)
        clear hb7 HC1 HW5 HBk HBk11
        have HBk := HBk7
        have HBk11 := HBk117
        clear HBk7 HBk117
        go_wp2_with (first
        | (refine wpList_load_row rfl 30 (.tmp 6) rfl w.heap.size rfl 30 (bs h) (0, 0) _ HBk.out Tryd.underlying30 rfl HSh.out ?_)
        | (refine wpList_load_row rfl 30 (.tmp 11) rfl g11 rfl 30 cx (0, 0) _ HBk11.out Tryd.underlying30 rfl HSx.out ?_)
        | (refine wpList_load_guarded rfl 30 (.tmp 6) rfl _ (.agg (bs h)) rfl (HBk.out.loads 30 _ Tryd.underlying30 rfl HSh.out) ?_)
        | (refine wpList_load_guarded rfl 30 (.tmp 11) rfl _ (.agg cx) rfl (HBk11.out.loads 30 _ Tryd.underlying30 rfl HSx.out) ?_)
        | (refine wpList_load_guarded rfl 30 (.tmp 13) rfl _ (.agg cx) rfl (HBk13.out.loads 30 _ Tryd.underlying30 rfl HSx.out) ?_))
        refine (HC2.out _ HW7.out).mono ?_
        rintro e W8 ⟨rfl, hb8⟩
        have HW8 := Lib.hid (HW7.out.trans (hb8.mono HW7.out.size))
        have HBk118 := Lib.hid (HBk11.out.keep hb8)
        clear hb8 HC2 HW7 HBk HBk11
        have HBk11 := HBk118
        clear HBk118
        have heql := HEqL.out
        go_wp2_with (first
        | (refine wpList_load_row rfl 30 (.tmp 6) rfl w.heap.size rfl 30 (bs h) (0, 0) _ HBk.out Tryd.underlying30 rfl HSh.out ?_)
        | (refine wpList_load_row rfl 30 (.tmp 11) rfl g11 rfl 30 cx (0, 0) _ HBk11.out Tryd.underlying30 rfl HSx.out ?_)
        | (refine wpList_load_guarded rfl 30 (.tmp 6) rfl _ (.agg (bs h)) rfl (HBk.out.loads 30 _ Tryd.underlying30 rfl HSh.out) ?_)
        | (refine wpList_load_guarded rfl 30 (.tmp 11) rfl _ (.agg cx) rfl (HBk11.out.loads 30 _ Tryd.underlying30 rfl HSx.out) ?_)
        | (refine wpList_load_guarded rfl 30 (.tmp 13) rfl _ (.agg cx) rfl (HBk13.out.loads 30 _ Tryd.underlying30 rfl HSx.out) ?_))
        go_ret
        exact ⟨rfl, HW8.out⟩
      · have heq := HEq.out
        go_wp2_with (first
        | (refine wpList_load_row rfl 30 (.tmp 6) rfl w.heap.size rfl 30 (bs h) (0, 0) _ HBk.out Tryd.underlying30 rfl HSh.out ?_)
        | (refine wpList_load_row rfl 30 (.tmp 11) rfl g11 rfl 30 cx (0, 0) _ HBk11.out Tryd.underlying30 rfl HSx.out ?_)
        | (refine wpList_load_guarded rfl 30 (.tmp 6) rfl _ (.agg (bs h)) rfl (HBk.out.loads 30 _ Tryd.underlying30 rfl HSh.out) ?_)
        | (refine wpList_load_guarded rfl 30 (.tmp 11) rfl _ (.agg cx) rfl (HBk11.out.loads 30 _ Tryd.underlying30 rfl HSx.out) ?_)
        | (refine wpList_load_guarded rfl 30 (.tmp 13) rfl _ (.agg cx) rfl (HBk13.out.loads 30 _ Tryd.underlying30 rfl HSx.out) ?_))
        clear heq
        refine (HSize.out _).mono ?_
        rintro e W5 ⟨rfl, hb5⟩
        have HW5 := Lib.hid (HW.out.trans (hb5.mono HW.out.size))
        have HBk5 := Lib.hid (HBk.out.keep hb5)
        have HBk115 := Lib.hid (HBk11.out.keep hb5)
        clear hb5 HSize HW HBk HBk11 HBk13
        go_wp2_with fail
        refine (HSizeR.out W5).mono ?_
        rintro e W6 ⟨rfl, rfl⟩
        clear HSizeR
        have HBk := HBk5
        have HBk11 := HBk115
        clear HBk5 HBk115
        go_wp2_with (first
        | (refine wpList_load_row rfl 30 (.tmp 6) rfl w.heap.size rfl 30 (bs h) (0, 0) _ HBk.out Tryd.underlying30 rfl HSh.out ?_)
        | (refine wpList_load_row rfl 30 (.tmp 11) rfl g11 rfl 30 cx (0, 0) _ HBk11.out Tryd.underlying30 rfl HSx.out ?_)
        | (refine wpList_load_guarded rfl 30 (.tmp 6) rfl _ (.agg (bs h)) rfl (HBk.out.loads 30 _ Tryd.underlying30 rfl HSh.out) ?_)
        | (refine wpList_load_guarded rfl 30 (.tmp 11) rfl _ (.agg cx) rfl (HBk11.out.loads 30 _ Tryd.underlying30 rfl HSx.out) ?_)
        | (refine wpList_load_guarded rfl 30 (.tmp 13) rfl _ (.agg cx) rfl (HBk13.out.loads 30 _ Tryd.underlying30 rfl HSx.out) ?_))
        refine (HC1.out _ HW5.out).mono ?_
        rintro e W7 ⟨rfl, hb7⟩
        have HW7 := Lib.hid (HW5.out.trans (hb7.mono HW5.out.size))
        have HBk7 := Lib.hid (HBk.out.keep hb7)
        have HBk117 := Lib.hid (HBk11.out.keep hb7)
        clear hb7 HC1 HW5 HBk HBk11
        have HBk := HBk7
        have HBk11 := HBk117
        clear HBk7 HBk117
        go_wp2_with (first
        | (refine wpList_load_row rfl 30 (.tmp 6) rfl w.heap.size rfl 30 (bs h) (0, 0) _ HBk.out Tryd.underlying30 rfl HSh.out ?_)
        | (refine wpList_load_row rfl 30 (.tmp 11) rfl g11 rfl 30 cx (0, 0) _ HBk11.out Tryd.underlying30 rfl HSx.out ?_)
        | (refine wpList_load_guarded rfl 30 (.tmp 6) rfl _ (.agg (bs h)) rfl (HBk.out.loads 30 _ Tryd.underlying30 rfl HSh.out) ?_)
        | (refine wpList_load_guarded rfl 30 (.tmp 11) rfl _ (.agg cx) rfl (HBk11.out.loads 30 _ Tryd.underlying30 rfl HSx.out) ?_)
        | (refine wpList_load_guarded rfl 30 (.tmp 13) rfl _ (.agg cx) rfl (HBk13.out.loads 30 _ Tryd.underlying30 rfl HSx.out) ?_))
        refine (HC2.out _ HW7.out).mono ?_
        rintro e W8 ⟨rfl, hb8⟩
        have HW8 := Lib.hid (HW7.out.trans (hb8.mono HW7.out.size))
        have HBk118 := Lib.hid (HBk11.out.keep hb8)
        clear hb8 HC2 HW7 HBk HBk11
        have HBk11 := HBk118
        clear HBk118
        have heql := HEqL.out
        go_wp2_with (first
        | (refine wpList_load_row rfl 30 (.tmp 6) rfl w.heap.size rfl 30 (bs h) (0, 0) _ HBk.out Tryd.underlying30 rfl HSh.out ?_)
        | (refine wpList_load_row rfl 30 (.tmp 11) rfl g11 rfl 30 cx (0, 0) _ HBk11.out Tryd.underlying30 rfl HSx.out ?_)
        | (refine wpList_load_guarded rfl 30 (.tmp 6) rfl _ (.agg (bs h)) rfl (HBk.out.loads 30 _ Tryd.underlying30 rfl HSh.out) ?_)
        | (refine wpList_load_guarded rfl 30 (.tmp 11) rfl _ (.agg cx) rfl (HBk11.out.loads 30 _ Tryd.underlying30 rfl HSx.out) ?_)
        | (refine wpList_load_guarded rfl 30 (.tmp 13) rfl _ (.agg cx) rfl (HBk13.out.loads 30 _ Tryd.underlying30 rfl HSx.out) ?_))
        go_ret
        exact ⟨rfl, HW8.out⟩
    · have hE0' : ¬ (E : Int) = 0 := by omega
      have hE0b : ((E : Int) == 0) = false := by rw [beq_eq_false_iff_ne]; exact hE0'
      simp only [hE0, decide_false, Bool.false_and] at HC1 HC2
      clear hE0
      have heq := HEq.out
      go_wp2_with (first
      | (refine wpList_load_row rfl 30 (.tmp 6) rfl w.heap.size rfl 30 (bs h) (0, 0) _ HBk.out Tryd.underlying30 rfl HSh.out ?_)
      | (refine wpList_load_row rfl 30 (.tmp 11) rfl g11 rfl 30 cx (0, 0) _ HBk11.out Tryd.underlying30 rfl HSx.out ?_)
      | (refine wpList_load_guarded rfl 30 (.tmp 6) rfl _ (.agg (bs h)) rfl (HBk.out.loads 30 _ Tryd.underlying30 rfl HSh.out) ?_)
      | (refine wpList_load_guarded rfl 30 (.tmp 11) rfl _ (.agg cx) rfl (HBk11.out.loads 30 _ Tryd.underlying30 rfl HSx.out) ?_)
      | (refine wpList_load_guarded rfl 30 (.tmp 13) rfl _ (.agg cx) rfl (HBk13.out.loads 30 _ Tryd.underlying30 rfl HSx.out) ?_))
      clear heq
      refine (HSize.out _).mono ?_
      rintro e W5 ⟨rfl, hb5⟩
      have HW5 := Lib.hid (HW.out.trans (hb5.mono HW.out.size))
      have HBk5 := Lib.hid (HBk.out.keep hb5)
      have HBk115 := Lib.hid (HBk11.out.keep hb5)
      clear hb5 HSize HW HBk HBk11 HBk13
      go_wp2_with fail
      refine (HSizeR.out W5).mono ?_
      rintro e W6 ⟨rfl, rfl⟩
      clear HSizeR
      have HBk := HBk5
      have HBk11 := HBk115
      clear HBk5 HBk115
      go_wp2_with (first
      | (refine wpList_load_row rfl 30 (.tmp 6) rfl w.heap.size rfl 30 (bs h) (0, 0) _ HBk.out Tryd.underlying30 rfl HSh.out ?_)
      | (refine wpList_load_row rfl 30 (.tmp 11) rfl g11 rfl 30 cx (0, 0) _ HBk11.out Tryd.underlying30 rfl HSx.out ?_)
      | (refine wpList_load_guarded rfl 30 (.tmp 6) rfl _ (.agg (bs h)) rfl (HBk.out.loads 30 _ Tryd.underlying30 rfl HSh.out) ?_)
      | (refine wpList_load_guarded rfl 30 (.tmp 11) rfl _ (.agg cx) rfl (HBk11.out.loads 30 _ Tryd.underlying30 rfl HSx.out) ?_)
      | (refine wpList_load_guarded rfl 30 (.tmp 13) rfl _ (.agg cx) rfl (HBk13.out.loads 30 _ Tryd.underlying30 rfl HSx.out) ?_))
      refine (HC1.out _ HW5.out).mono ?_
      rintro e W7 ⟨rfl, hb7⟩
      have HW7 := Lib.hid (HW5.out.trans (hb7.mono HW5.out.size))
      have HBk7 := Lib.hid (HBk.out.keep hb7)
      have HBk117 := Lib.hid (HBk11.out.keep hb7)
      clear hb7 HC1 HW5 HBk HBk11
      have HBk := HBk7
      have HBk11 := HBk117
      clear HBk7 HBk117
      go_wp2_with (first
      | (refine wpList_load_row rfl 30 (.tmp 6) rfl w.heap.size rfl 30 (bs h) (0, 0) _ HBk.out Tryd.underlying30 rfl HSh.out ?_)
      | (refine wpList_load_row rfl 30 (.tmp 11) rfl g11 rfl 30 cx (0, 0) _ HBk11.out Tryd.underlying30 rfl HSx.out ?_)
      | (refine wpList_load_guarded rfl 30 (.tmp 6) rfl _ (.agg (bs h)) rfl (HBk.out.loads 30 _ Tryd.underlying30 rfl HSh.out) ?_)
      | (refine wpList_load_guarded rfl 30 (.tmp 11) rfl _ (.agg cx) rfl (HBk11.out.loads 30 _ Tryd.underlying30 rfl HSx.out) ?_)
      | (refine wpList_load_guarded rfl 30 (.tmp 13) rfl _ (.agg cx) rfl (HBk13.out.loads 30 _ Tryd.underlying30 rfl HSx.out) ?_))
      refine (HC2.out _ HW7.out).mono ?_
      rintro e W8 ⟨rfl, hb8⟩
      have HW8 := Lib.hid (HW7.out.trans (hb8.mono HW7.out.size))
      have HBk118 := Lib.hid (HBk11.out.keep hb8)
      clear hb8 HC2 HW7 HBk HBk11
      have HBk11 := HBk118
      clear HBk118
      have heql := HEqL.out
      go_wp2_with (first
      | (refine wpList_load_row rfl 30 (.tmp 6) rfl w.heap.size rfl 30 (bs h) (0, 0) _ HBk.out Tryd.underlying30 rfl HSh.out ?_)
      | (refine wpList_load_row rfl 30 (.tmp 11) rfl g11 rfl 30 cx (0, 0) _ HBk11.out Tryd.underlying30 rfl HSx.out ?_)
      | (refine wpList_load_guarded rfl 30 (.tmp 6) rfl _ (.agg (bs h)) rfl (HBk.out.loads 30 _ Tryd.underlying30 rfl HSh.out) ?_)
      | (refine wpList_load_guarded rfl 30 (.tmp 11) rfl _ (.agg cx) rfl (HBk11.out.loads 30 _ Tryd.underlying30 rfl HSx.out) ?_)
      | (refine wpList_load_guarded rfl 30 (.tmp 13) rfl _ (.agg cx) rfl (HBk13.out.loads 30 _ Tryd.underlying30 rfl HSx.out) ?_))
      go_ret
      exact ⟨rfl, HW8.out⟩
  · have HV := Lib.hid hv
    have HL := Lib.hid hmm.symm
    have hm70 : m70 ≤ 70 := by omega
    clear hv hmm
    obtain ⟨X, hX⟩ : ∃ X, X = (climbR n h i m ps).1 := ⟨_, rfl⟩
    obtain ⟨E, hE⟩ : ∃ E, E = (climbR n h i m ps).2 := ⟨_, rfl⟩
    have hX32 : X.length = 32 := by rw [hX]; exact climbR_32 n h i m ps hh
    have HClimb := Lib.hid (fun (W : World) (hW : Below w.heap.size w W) => HP.out.climb n h i m ps (.slice a m70 c) W hn hh hi hm (HV.out.below (Nat.le_refl _) hW) (by rw [HL.out]; omega) (HT.out.below (Nat.le_refl _) hW))
    have HClimbR := Lib.hid (fun (W : World) (hW : Below w.heap.size w W) => refclimb_any n hn h i m ps (.slice a m70 c) W hh hi hm (HV.out.below (Nat.le_refl _) hW) (HK.out.below (Nat.le_refl _) hW))
    obtain ⟨b, hbb⟩ : ∃ b, b = (X == lit123) := ⟨_, rfl⟩
    have HC1 : Hid (∀ W : World, Below w.heap.size w W → Calls Tryd.prog 21 #[.int .i64 n, .agg (bs h), .int .u64 (i : Int), .int .u64 (m : Int), .slice a m70 c, .agg (bs X)] W fun e w' => e = .returned (.bool (decide (E = 0))) ∧ Below W.heap.size W w') := Lib.hid fun W hW => by
      have := HP.out.check n h i m ps (.slice a m70 c) X W hn hh hX32 hi hm (HV.out.below (Nat.le_refl _) hW) (by rw [HL.out]; omega) (HT.out.below (Nat.le_refl _) hW)
      rwa [show decide ((climbR n h i m ps).2 = 0 ∧ (climbR n h i m ps).1 = X) = decide (E = 0) by rw [hX, hE]; simp] at this
    have HC2 : Hid (∀ W : World, Below w.heap.size w W → Calls Tryd.prog 21 #[.int .i64 n, .agg (bs h), .int .u64 (i : Int), .int .u64 (m : Int), .slice a m70 c, .agg (bs lit123)] W fun e w' => e = .returned (.bool (decide (E = 0) && b)) ∧ Below W.heap.size W w') := Lib.hid fun W hW => by
      have := HP.out.check n h i m ps (.slice a m70 c) lit123 W hn hh rfl hi hm (HV.out.below (Nat.le_refl _) hW) (by rw [HL.out]; omega) (HT.out.below (Nat.le_refl _) hW)
      rwa [show decide ((climbR n h i m ps).2 = 0 ∧ (climbR n h i m ps).1 = lit123) = (decide (E = 0) && b) by rw [hbb, hX, hE, Bool.decide_and]; congr 1; rw [Bool.eq_iff_iff]; simp] at this
    rw [← hX, ← hE] at HClimb HClimbR
    obtain ⟨S, hS⟩ : ∃ S, S = sizeP i m := ⟨_, rfl⟩
    have hSb : S ≤ 64 := by rw [hS]; exact sizeP_64 i m hm
    have HSize := Lib.hid (fun (W : World) => HP.out.size i m W hi hm)
    have HSizeR := Lib.hid (fun (W : World) => refsize15_any m i W hm hi)
    rw [← hS] at HSize HSizeR
    have hEb : E ≤ 9 := by rw [hE]; exact climbR_9 n h i m ps
    have HEqL := Lib.hid (fun (W : World) => show (Op.equalIn 10000 30 (.agg (bs X)) (.agg #[.int .u8 1, .int .u8 2, .int .u8 3, .int .u8 0, .int .u8 0, .int .u8 0, .int .u8 0, .int .u8 0, .int .u8 0, .int .u8 0, .int .u8 0, .int .u8 0, .int .u8 0, .int .u8 0, .int .u8 0, .int .u8 0, .int .u8 0, .int .u8 0, .int .u8 0, .int .u8 0, .int .u8 0, .int .u8 0, .int .u8 0, .int .u8 0, .int .u8 0, .int .u8 0, .int .u8 0, .int .u8 0, .int .u8 0, .int .u8 0, .int .u8 0, .int .u8 0])).run Tryd.prog W = .ok b W by rw [hbb]; exact eq_hash W X lit123 hX32 rfl)
    have HEq := Lib.hid (fun W => eq_same W X hX32)
    obtain ⟨cx, hcx, hcx32, hone⟩ := hash_cells X hX32
    rw [← hcx] at HClimb HClimbR HC1 HEq HEqL
    have HSx := Lib.hid (size_hash hcx32)
    have HCx := Lib.hid hcx32
    have HOne := Lib.hid hone
    have HSh := Lib.hid (size_hash (cs := bs h) (by rw [bs_size, hh]))
    clear hX hE hX32 hS hbb hcx hcx32 hone hh hn hp hq ht hk
    go_enter Tryd.func4, Tryd.ntmps4
    go_upto_region 1 with fail
    refine world_cut (fun W => Blk W w.heap.size 30 (bs h) ∧ Below w.heap.size w W) ⟨Blk.new w _ _, (Below.refl _ _).alloc (Nat.le_refl _) _⟩ ?_
    rintro W0 ⟨h1, h2⟩
    have HBk := Lib.hid h1
    have HW := Lib.hid h2
    clear h1 h2
    go_wp2_with fail
    refine (awake15_any HP.out HQ.out _ (HT.out.below (Nat.le_refl _) HW.out)).mono ?_
    rintro e W1 ⟨rfl, hb1⟩
    have HW1 := Lib.hid (HW.out.trans (hb1.mono HW.out.size))
    have HBk1 := Lib.hid (HBk.out.keep hb1)
    clear hb1 HW HBk HP HQ HT HK
    have HBk := HBk1
    clear HBk1
    go_wp2_with (refine wpList_load_row rfl 30 (.tmp 6) rfl w.heap.size rfl 30 (bs h) (0, 0) _ HBk.out Tryd.underlying30 rfl HSh.out ?_)
    refine (HClimb.out _ HW1.out).mono ?_
    rintro e W2 ⟨rfl, hb2⟩
    have HW2 := Lib.hid (HW1.out.trans (hb2.mono HW1.out.size))
    have HBk2 := Lib.hid (HBk.out.keep hb2)
    clear hb2 HW1 HBk HClimb
    go_upto_region 6 with (refine wpList_store_row rfl 30 (.tmp 11) (.tmp 29) rfl W2.heap.size cx rfl rfl 30 _ (Blk.new W2 _ _) HSx.out (by rw [HCx.out]; rfl) HOne.out ?_)
    obtain ⟨g11, hg11⟩ : ∃ g, g = W2.heap.size := ⟨_, rfl⟩
    have h2s := HW2.out.size
    have h26 : ¬ w.heap.size = W2.heap.size := by have := HBk2.out.lt; omega
    refine world_cut (fun W => Blk W w.heap.size 30 (bs h) ∧ Blk W g11 30 cx ∧ Below w.heap.size w W) ⟨(HBk2.out.alloc _).rowOther _ h26, by rw [hg11]; exact Blk.row (Blk.new W2 _ _) cx, below_setRow (HW2.out.alloc h2s _) _ _ h2s⟩ ?_
    rw [← hg11]
    have hg11' : w.heap.size < g11 := by omega
    clear hg11 h2s h26 HW2 HBk2
    rintro W3 ⟨h1, h2, h3⟩
    have HBk := Lib.hid h1
    have HBk11 := Lib.hid h2
    have HW := Lib.hid h3
    clear h1 h2 h3
    go_wp2_with (refine wpList_load_row rfl 30 (.tmp 6) rfl w.heap.size rfl 30 (bs h) (0, 0) _ HBk.out Tryd.underlying30 rfl HSh.out ?_)
    refine (HClimbR.out _ HW.out).mono ?_
    rintro e W4 ⟨rfl, hb4⟩
    have HW4 := Lib.hid (HW.out.trans (hb4.mono HW.out.size))
    have HBk4 := Lib.hid (HBk.out.keep hb4)
    have HBk114 := Lib.hid (HBk11.out.keep hb4)
    clear hb4 HW HBk HBk11 HClimbR
    go_upto_region 7 with (refine wpList_store_row rfl 30 (.tmp 13) (.tmp 38) rfl W4.heap.size cx rfl rfl 30 _ (Blk.new W4 _ _) HSx.out (by rw [HCx.out]; rfl) HOne.out ?_)
    obtain ⟨g13, hg13⟩ : ∃ g, g = W4.heap.size := ⟨_, rfl⟩
    have h4s := HW4.out.size
    have h46 : ¬ w.heap.size = W4.heap.size := by have := HBk4.out.lt; omega
    have h411 : ¬ g11 = W4.heap.size := by have := HBk114.out.lt; omega
    refine world_cut (fun W => Blk W w.heap.size 30 (bs h) ∧ Blk W g11 30 cx ∧ Blk W g13 30 cx ∧ Below w.heap.size w W) ⟨(HBk4.out.alloc _).rowOther _ h46, (HBk114.out.alloc _).rowOther _ h411, by rw [hg13]; exact Blk.row (Blk.new W4 _ _) cx, below_setRow (HW4.out.alloc h4s _) _ _ h4s⟩ ?_
    rw [← hg13]
    clear hg13 h4s h46 h411 HW4 HBk4 HBk114
    rintro W4' ⟨h1, h2, h3, h4⟩
    have HBk := Lib.hid h1
    have HBk11 := Lib.hid h2
    have HBk13 := Lib.hid h3
    have HW := Lib.hid h4
    clear h1 h2 h3 h4
    by_cases hE0 : E = 0
    · subst hE0
      simp only [decide_true, Bool.true_and] at HC1 HC2
      cases b
      · have heq := HEq.out
        go_wp2_with (first
        | (refine wpList_load_row rfl 30 (.tmp 6) rfl w.heap.size rfl 30 (bs h) (0, 0) _ HBk.out Tryd.underlying30 rfl HSh.out ?_)
        | (refine wpList_load_row rfl 30 (.tmp 11) rfl g11 rfl 30 cx (0, 0) _ HBk11.out Tryd.underlying30 rfl HSx.out ?_)
        | (refine wpList_load_guarded rfl 30 (.tmp 6) rfl _ (.agg (bs h)) rfl (HBk.out.loads 30 _ Tryd.underlying30 rfl HSh.out) ?_)
        | (refine wpList_load_guarded rfl 30 (.tmp 11) rfl _ (.agg cx) rfl (HBk11.out.loads 30 _ Tryd.underlying30 rfl HSx.out) ?_)
        | (refine wpList_load_guarded rfl 30 (.tmp 13) rfl _ (.agg cx) rfl (HBk13.out.loads 30 _ Tryd.underlying30 rfl HSx.out) ?_))
        clear heq
        refine (HSize.out _).mono ?_
        rintro e W5 ⟨rfl, hb5⟩
        have HW5 := Lib.hid (HW.out.trans (hb5.mono HW.out.size))
        have HBk5 := Lib.hid (HBk.out.keep hb5)
        have HBk115 := Lib.hid (HBk11.out.keep hb5)
        clear hb5 HSize HW HBk HBk11 HBk13
        go_wp2_with fail
        refine (HSizeR.out W5).mono ?_
        rintro e W6 ⟨rfl, rfl⟩
        clear HSizeR
        have HBk := HBk5
        have HBk11 := HBk115
        clear HBk5 HBk115
        go_wp2_with (first
        | (refine wpList_load_row rfl 30 (.tmp 6) rfl w.heap.size rfl 30 (bs h) (0, 0) _ HBk.out Tryd.underlying30 rfl HSh.out ?_)
        | (refine wpList_load_row rfl 30 (.tmp 11) rfl g11 rfl 30 cx (0, 0) _ HBk11.out Tryd.underlying30 rfl HSx.out ?_)
        | (refine wpList_load_guarded rfl 30 (.tmp 6) rfl _ (.agg (bs h)) rfl (HBk.out.loads 30 _ Tryd.underlying30 rfl HSh.out) ?_)
        | (refine wpList_load_guarded rfl 30 (.tmp 11) rfl _ (.agg cx) rfl (HBk11.out.loads 30 _ Tryd.underlying30 rfl HSx.out) ?_)
        | (refine wpList_load_guarded rfl 30 (.tmp 13) rfl _ (.agg cx) rfl (HBk13.out.loads 30 _ Tryd.underlying30 rfl HSx.out) ?_))
        refine (HC1.out _ HW5.out).mono ?_
        rintro e W7 ⟨rfl, hb7⟩
        have HW7 := Lib.hid (HW5.out.trans (hb7.mono HW5.out.size))
        have HBk7 := Lib.hid (HBk.out.keep hb7)
        have HBk117 := Lib.hid (HBk11.out.keep hb7)
        clear hb7 HC1 HW5 HBk HBk11
        have HBk := HBk7
        have HBk11 := HBk117
        clear HBk7 HBk117
        go_wp2_with (first
        | (refine wpList_load_row rfl 30 (.tmp 6) rfl w.heap.size rfl 30 (bs h) (0, 0) _ HBk.out Tryd.underlying30 rfl HSh.out ?_)
        | (refine wpList_load_row rfl 30 (.tmp 11) rfl g11 rfl 30 cx (0, 0) _ HBk11.out Tryd.underlying30 rfl HSx.out ?_)
        | (refine wpList_load_guarded rfl 30 (.tmp 6) rfl _ (.agg (bs h)) rfl (HBk.out.loads 30 _ Tryd.underlying30 rfl HSh.out) ?_)
        | (refine wpList_load_guarded rfl 30 (.tmp 11) rfl _ (.agg cx) rfl (HBk11.out.loads 30 _ Tryd.underlying30 rfl HSx.out) ?_)
        | (refine wpList_load_guarded rfl 30 (.tmp 13) rfl _ (.agg cx) rfl (HBk13.out.loads 30 _ Tryd.underlying30 rfl HSx.out) ?_))
        refine (HC2.out _ HW7.out).mono ?_
        rintro e W8 ⟨rfl, hb8⟩
        have HW8 := Lib.hid (HW7.out.trans (hb8.mono HW7.out.size))
        have HBk118 := Lib.hid (HBk11.out.keep hb8)
        clear hb8 HC2 HW7 HBk HBk11
        have HBk11 := HBk118
        clear HBk118
        have heql := HEqL.out
        go_wp2_with (first
        | (refine wpList_load_row rfl 30 (.tmp 6) rfl w.heap.size rfl 30 (bs h) (0, 0) _ HBk.out Tryd.underlying30 rfl HSh.out ?_)
        | (refine wpList_load_row rfl 30 (.tmp 11) rfl g11 rfl 30 cx (0, 0) _ HBk11.out Tryd.underlying30 rfl HSx.out ?_)
        | (refine wpList_load_guarded rfl 30 (.tmp 6) rfl _ (.agg (bs h)) rfl (HBk.out.loads 30 _ Tryd.underlying30 rfl HSh.out) ?_)
        | (refine wpList_load_guarded rfl 30 (.tmp 11) rfl _ (.agg cx) rfl (HBk11.out.loads 30 _ Tryd.underlying30 rfl HSx.out) ?_)
        | (refine wpList_load_guarded rfl 30 (.tmp 13) rfl _ (.agg cx) rfl (HBk13.out.loads 30 _ Tryd.underlying30 rfl HSx.out) ?_))
        go_ret
        exact ⟨rfl, HW8.out⟩
      · have heq := HEq.out
        go_wp2_with (first
        | (refine wpList_load_row rfl 30 (.tmp 6) rfl w.heap.size rfl 30 (bs h) (0, 0) _ HBk.out Tryd.underlying30 rfl HSh.out ?_)
        | (refine wpList_load_row rfl 30 (.tmp 11) rfl g11 rfl 30 cx (0, 0) _ HBk11.out Tryd.underlying30 rfl HSx.out ?_)
        | (refine wpList_load_guarded rfl 30 (.tmp 6) rfl _ (.agg (bs h)) rfl (HBk.out.loads 30 _ Tryd.underlying30 rfl HSh.out) ?_)
        | (refine wpList_load_guarded rfl 30 (.tmp 11) rfl _ (.agg cx) rfl (HBk11.out.loads 30 _ Tryd.underlying30 rfl HSx.out) ?_)
        | (refine wpList_load_guarded rfl 30 (.tmp 13) rfl _ (.agg cx) rfl (HBk13.out.loads 30 _ Tryd.underlying30 rfl HSx.out) ?_))
        clear heq
        refine (HSize.out _).mono ?_
        rintro e W5 ⟨rfl, hb5⟩
        have HW5 := Lib.hid (HW.out.trans (hb5.mono HW.out.size))
        have HBk5 := Lib.hid (HBk.out.keep hb5)
        have HBk115 := Lib.hid (HBk11.out.keep hb5)
        clear hb5 HSize HW HBk HBk11 HBk13
        go_wp2_with fail
        refine (HSizeR.out W5).mono ?_
        rintro e W6 ⟨rfl, rfl⟩
        clear HSizeR
        have HBk := HBk5
        have HBk11 := HBk115
        clear HBk5 HBk115
        go_wp2_with (first
        | (refine wpList_load_row rfl 30 (.tmp 6) rfl w.heap.size rfl 30 (bs h) (0, 0) _ HBk.out Tryd.underlying30 rfl HSh.out ?_)
        | (refine wpList_load_row rfl 30 (.tmp 11) rfl g11 rfl 30 cx (0, 0) _ HBk11.out Tryd.underlying30 rfl HSx.out ?_)
        | (refine wpList_load_guarded rfl 30 (.tmp 6) rfl _ (.agg (bs h)) rfl (HBk.out.loads 30 _ Tryd.underlying30 rfl HSh.out) ?_)
        | (refine wpList_load_guarded rfl 30 (.tmp 11) rfl _ (.agg cx) rfl (HBk11.out.loads 30 _ Tryd.underlying30 rfl HSx.out) ?_)
        | (refine wpList_load_guarded rfl 30 (.tmp 13) rfl _ (.agg cx) rfl (HBk13.out.loads 30 _ Tryd.underlying30 rfl HSx.out) ?_))
        refine (HC1.out _ HW5.out).mono ?_
        rintro e W7 ⟨rfl, hb7⟩
        have HW7 := Lib.hid (HW5.out.trans (hb7.mono HW5.out.size))
        have HBk7 := Lib.hid (HBk.out.keep hb7)
        have HBk117 := Lib.hid (HBk11.out.keep hb7)
        clear hb7 HC1 HW5 HBk HBk11
        have HBk := HBk7
        have HBk11 := HBk117
        clear HBk7 HBk117
        go_wp2_with (first
        | (refine wpList_load_row rfl 30 (.tmp 6) rfl w.heap.size rfl 30 (bs h) (0, 0) _ HBk.out Tryd.underlying30 rfl HSh.out ?_)
        | (refine wpList_load_row rfl 30 (.tmp 11) rfl g11 rfl 30 cx (0, 0) _ HBk11.out Tryd.underlying30 rfl HSx.out ?_)
        | (refine wpList_load_guarded rfl 30 (.tmp 6) rfl _ (.agg (bs h)) rfl (HBk.out.loads 30 _ Tryd.underlying30 rfl HSh.out) ?_)
        | (refine wpList_load_guarded rfl 30 (.tmp 11) rfl _ (.agg cx) rfl (HBk11.out.loads 30 _ Tryd.underlying30 rfl HSx.out) ?_)
        | (refine wpList_load_guarded rfl 30 (.tmp 13) rfl _ (.agg cx) rfl (HBk13.out.loads 30 _ Tryd.underlying30 rfl HSx.out) ?_))
        refine (HC2.out _ HW7.out).mono ?_
        rintro e W8 ⟨rfl, hb8⟩
        have HW8 := Lib.hid (HW7.out.trans (hb8.mono HW7.out.size))
        have HBk118 := Lib.hid (HBk11.out.keep hb8)
        clear hb8 HC2 HW7 HBk HBk11
        have HBk11 := HBk118
        clear HBk118
        have heql := HEqL.out
        go_wp2_with (first
        | (refine wpList_load_row rfl 30 (.tmp 6) rfl w.heap.size rfl 30 (bs h) (0, 0) _ HBk.out Tryd.underlying30 rfl HSh.out ?_)
        | (refine wpList_load_row rfl 30 (.tmp 11) rfl g11 rfl 30 cx (0, 0) _ HBk11.out Tryd.underlying30 rfl HSx.out ?_)
        | (refine wpList_load_guarded rfl 30 (.tmp 6) rfl _ (.agg (bs h)) rfl (HBk.out.loads 30 _ Tryd.underlying30 rfl HSh.out) ?_)
        | (refine wpList_load_guarded rfl 30 (.tmp 11) rfl _ (.agg cx) rfl (HBk11.out.loads 30 _ Tryd.underlying30 rfl HSx.out) ?_)
        | (refine wpList_load_guarded rfl 30 (.tmp 13) rfl _ (.agg cx) rfl (HBk13.out.loads 30 _ Tryd.underlying30 rfl HSx.out) ?_))
        go_ret
        exact ⟨rfl, HW8.out⟩
    · have hE0' : ¬ (E : Int) = 0 := by omega
      have hE0b : ((E : Int) == 0) = false := by rw [beq_eq_false_iff_ne]; exact hE0'
      simp only [hE0, decide_false, Bool.false_and] at HC1 HC2
      clear hE0
      have heq := HEq.out
      go_wp2_with (first
      | (refine wpList_load_row rfl 30 (.tmp 6) rfl w.heap.size rfl 30 (bs h) (0, 0) _ HBk.out Tryd.underlying30 rfl HSh.out ?_)
      | (refine wpList_load_row rfl 30 (.tmp 11) rfl g11 rfl 30 cx (0, 0) _ HBk11.out Tryd.underlying30 rfl HSx.out ?_)
      | (refine wpList_load_guarded rfl 30 (.tmp 6) rfl _ (.agg (bs h)) rfl (HBk.out.loads 30 _ Tryd.underlying30 rfl HSh.out) ?_)
      | (refine wpList_load_guarded rfl 30 (.tmp 11) rfl _ (.agg cx) rfl (HBk11.out.loads 30 _ Tryd.underlying30 rfl HSx.out) ?_)
      | (refine wpList_load_guarded rfl 30 (.tmp 13) rfl _ (.agg cx) rfl (HBk13.out.loads 30 _ Tryd.underlying30 rfl HSx.out) ?_))
      clear heq
      refine (HSize.out _).mono ?_
      rintro e W5 ⟨rfl, hb5⟩
      have HW5 := Lib.hid (HW.out.trans (hb5.mono HW.out.size))
      have HBk5 := Lib.hid (HBk.out.keep hb5)
      have HBk115 := Lib.hid (HBk11.out.keep hb5)
      clear hb5 HSize HW HBk HBk11 HBk13
      go_wp2_with fail
      refine (HSizeR.out W5).mono ?_
      rintro e W6 ⟨rfl, rfl⟩
      clear HSizeR
      have HBk := HBk5
      have HBk11 := HBk115
      clear HBk5 HBk115
      go_wp2_with (first
      | (refine wpList_load_row rfl 30 (.tmp 6) rfl w.heap.size rfl 30 (bs h) (0, 0) _ HBk.out Tryd.underlying30 rfl HSh.out ?_)
      | (refine wpList_load_row rfl 30 (.tmp 11) rfl g11 rfl 30 cx (0, 0) _ HBk11.out Tryd.underlying30 rfl HSx.out ?_)
      | (refine wpList_load_guarded rfl 30 (.tmp 6) rfl _ (.agg (bs h)) rfl (HBk.out.loads 30 _ Tryd.underlying30 rfl HSh.out) ?_)
      | (refine wpList_load_guarded rfl 30 (.tmp 11) rfl _ (.agg cx) rfl (HBk11.out.loads 30 _ Tryd.underlying30 rfl HSx.out) ?_)
      | (refine wpList_load_guarded rfl 30 (.tmp 13) rfl _ (.agg cx) rfl (HBk13.out.loads 30 _ Tryd.underlying30 rfl HSx.out) ?_))
      refine (HC1.out _ HW5.out).mono ?_
      rintro e W7 ⟨rfl, hb7⟩
      have HW7 := Lib.hid (HW5.out.trans (hb7.mono HW5.out.size))
      have HBk7 := Lib.hid (HBk.out.keep hb7)
      have HBk117 := Lib.hid (HBk11.out.keep hb7)
      clear hb7 HC1 HW5 HBk HBk11
      have HBk := HBk7
      have HBk11 := HBk117
      clear HBk7 HBk117
      go_wp2_with (first
      | (refine wpList_load_row rfl 30 (.tmp 6) rfl w.heap.size rfl 30 (bs h) (0, 0) _ HBk.out Tryd.underlying30 rfl HSh.out ?_)
      | (refine wpList_load_row rfl 30 (.tmp 11) rfl g11 rfl 30 cx (0, 0) _ HBk11.out Tryd.underlying30 rfl HSx.out ?_)
      | (refine wpList_load_guarded rfl 30 (.tmp 6) rfl _ (.agg (bs h)) rfl (HBk.out.loads 30 _ Tryd.underlying30 rfl HSh.out) ?_)
      | (refine wpList_load_guarded rfl 30 (.tmp 11) rfl _ (.agg cx) rfl (HBk11.out.loads 30 _ Tryd.underlying30 rfl HSx.out) ?_)
      | (refine wpList_load_guarded rfl 30 (.tmp 13) rfl _ (.agg cx) rfl (HBk13.out.loads 30 _ Tryd.underlying30 rfl HSx.out) ?_))
      refine (HC2.out _ HW7.out).mono ?_
      rintro e W8 ⟨rfl, hb8⟩
      have HW8 := Lib.hid (HW7.out.trans (hb8.mono HW7.out.size))
      have HBk118 := Lib.hid (HBk11.out.keep hb8)
      clear hb8 HC2 HW7 HBk HBk11
      have HBk11 := HBk118
      clear HBk118
      have heql := HEqL.out
      go_wp2_with (first
      | (refine wpList_load_row rfl 30 (.tmp 6) rfl w.heap.size rfl 30 (bs h) (0, 0) _ HBk.out Tryd.underlying30 rfl HSh.out ?_)
      | (refine wpList_load_row rfl 30 (.tmp 11) rfl g11 rfl 30 cx (0, 0) _ HBk11.out Tryd.underlying30 rfl HSx.out ?_)
      | (refine wpList_load_guarded rfl 30 (.tmp 6) rfl _ (.agg (bs h)) rfl (HBk.out.loads 30 _ Tryd.underlying30 rfl HSh.out) ?_)
      | (refine wpList_load_guarded rfl 30 (.tmp 11) rfl _ (.agg cx) rfl (HBk11.out.loads 30 _ Tryd.underlying30 rfl HSx.out) ?_)
      | (refine wpList_load_guarded rfl 30 (.tmp 13) rfl _ (.agg cx) rfl (HBk13.out.loads 30 _ Tryd.underlying30 rfl HSx.out) ?_))
      go_ret
      exact ⟨rfl, HW8.out⟩
end Go.Proofs.YtdhfabjkpffhnabDoor

