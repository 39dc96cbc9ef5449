/- GrowthClimbs: the walk. -/
import Derived.Test.YtdhfabjkpffhnabDoorGrowthSpecJ
import Derived.Test.YtdhfabjkpffhnabDoorLeafRootsJ
namespace Go.Proofs.YtdhfabjkpffhnabDoor
set_option maxRecDepth 20000
open Go.RowKit ShaMath LeafMath PathMath GrowthMath Reg

/-- What lies there once both have climbed. -/
def Clb (w : World) (h r o t : Hs) (g1 g2 g3 g4 : Nat) (W : World) : Prop := ChW w h r W ∧ Blk W g1 30 (bs o) ∧ Blk W g2 30 (bs t) ∧ Blk W g3 30 (bs o) ∧ Blk W g4 30 (bs t)
theorem Clb.keep {w W W' : World} {h r o t : Hs} {g1 g2 g3 g4 : Nat} (X : Clb w h r o t g1 g2 g3 g4 W) (hb : Below W.heap.size W W') : Clb w h r o t g1 g2 g3 g4 W' := ⟨X.1.keep hb, X.2.1.keep hb, X.2.2.1.keep hb, X.2.2.2.1.keep hb, X.2.2.2.2.keep hb⟩
def Clh (w : World) (h r o t : Hs) (g1 g2 : Nat) (W : World) : Prop := ChW w h r W ∧ Blk W g1 30 (bs o) ∧ Blk W g2 30 (bs t)
theorem Clh.keep {w W W' : World} {h r o t : Hs} {g1 g2 : Nat} (X : Clh w h r o t g1 g2 W) (hb : Below W.heap.size W W') : Clh w h r o t g1 g2 W' := ⟨X.1.keep hb, X.2.1.keep hb, X.2.2.keep hb⟩

set_option maxHeartbeats 12000000 in
set_option maxRecDepth 100000 in
theorem growthClimbs_walk (hp : GrowthProg) (hq : LeafProg) (n : Int) (hn : I64 n) (m N : Nat) (h r : Hs) (ps : List Hs) (v : Value) (w : World) (hm : m < 18446744073709551616) (hN : N < 18446744073709551616) (hh : h.length = 32) (hr : r.length = 32) (hv : Hss w v ps) (ht : Tabs w) (hk : Consts w) :
    Calls Tryd.prog 9 #[.int .i64 n, .int .u64 (m : Int), .int .u64 (N : Int), .agg (bs h), .agg (bs r), v] w fun e w' => e = .returned (.bool true) ∧ Below w.heap.size w w' := by
  obtain ⟨a, c, rfl, hc⟩ := hv.form
  obtain ⟨q, hqq⟩ : ∃ q, q = ps.length := ⟨_, rfl⟩
  rw [← hqq] at hv hc ⊢
  have HCh := Lib.hid (ChW.new w h r)
  have HSh := Lib.hid (size_hash (cs := bs h) (by rw [bs_size, hh]))
  have HSr := Lib.hid (size_hash (cs := bs r) (by rw [bs_size, hr]))
  have HT := Lib.hid ht
  have HK := Lib.hid hk
  have HP := Lib.hid hp
  have HQ := Lib.hid hq
  have HN := Lib.hid hn
  by_cases h80 : 80 < q
  · have hv2 : Hss w (.slice a 80 c) (ps.take 80) := by
      have := hv.sub 0 80 (by omega) (by omega)
      rw [sliced_zero3] at this
      simpa using this
    have hl2 : (ps.take 80).length = 80 := by rw [List.length_take]; omega
    have HSl := Lib.hid (fun W => show (Instr.sliceAt 22 (.slice a q c) none (some (.int .i64 80)) none).run Tryd.prog W = .ok (.slice a 80 c) W by
      have := slice_hs_to a q c 80 (by omega) W
      rwa [sliced_zero3] at this)
    obtain ⟨ps2, hps2⟩ : ∃ h, h = ps.take 80 := ⟨_, rfl⟩
    rw [← hps2] at hv2 hl2
    have HV := Lib.hid hv2
    have hl3 : ps2.length ≤ 4398046511104 := by omega
    clear hv2 hps2 hl2
    have h32 := climbGR_32 n h m N ps2 hh HV.out.all
    obtain ⟨U, hU⟩ : ∃ U, U = climbGR n h m N ps2 := ⟨_, rfl⟩
    have HPC := Lib.hid (fun (W : World) (hW : Below w.heap.size w W) => HP.out.climb n h m N ps2 (.slice a 80 c) W HN.out hh hm hN (HV.out.below (Nat.le_refl _) hW) hl3 (HT.out.below (Nat.le_refl _) hW))
    have HRC := Lib.hid (fun (W : World) (hW : Below w.heap.size w W) => refclimb16_any n HN.out h m N ps2 (.slice a 80 c) W hh hm hN (HV.out.below (Nat.le_refl _) hW) (HK.out.below (Nat.le_refl _) hW))
    rw [← hU] at h32 HPC HRC
    obtain ⟨o, ho⟩ : ∃ o, o = U.1.1 := ⟨_, rfl⟩
    obtain ⟨t, ht⟩ : ∃ t, t = U.1.2 := ⟨_, rfl⟩
    obtain ⟨E, hE⟩ : ∃ E, E = U.2 := ⟨_, rfl⟩
    rw [← ho, ← ht] at h32
    rw [← ho, ← ht, ← hE] at HPC HRC
    obtain ⟨ho32, ht32⟩ := h32
    obtain ⟨b1, hb1⟩ : ∃ b, b = checkGR n h m N r ps2 := ⟨_, rfl⟩
    obtain ⟨b2, hb2⟩ : ∃ b, b = checkGR n o m N t ps2 := ⟨_, rfl⟩
    have HP1 := Lib.hid (fun (W : World) (hW : Below w.heap.size w W) => HP.out.check n h m N r ps2 (.slice a 80 c) W HN.out hh hr hm hN (HV.out.below (Nat.le_refl _) hW) hl3 (HT.out.below (Nat.le_refl _) hW))
    have HR1 := Lib.hid (fun (W : World) (hW : Below w.heap.size w W) => refcheck16_any n HN.out h m N r ps2 (.slice a 80 c) W hh hr hm hN (HV.out.below (Nat.le_refl _) hW) (HK.out.below (Nat.le_refl _) hW))
    have HP2 := Lib.hid (fun (W : World) (hW : Below w.heap.size w W) => HP.out.check n o m N t ps2 (.slice a 80 c) W HN.out ho32 ht32 hm hN (HV.out.below (Nat.le_refl _) hW) hl3 (HT.out.below (Nat.le_refl _) hW))
    have HR2 := Lib.hid (fun (W : World) (hW : Below w.heap.size w W) => refcheck16_any n HN.out o m N t ps2 (.slice a 80 c) W ho32 ht32 hm hN (HV.out.below (Nat.le_refl _) hW) (HK.out.below (Nat.le_refl _) hW))
    rw [← hb1] at HP1 HR1
    rw [← hb2] at HP2 HR2
    have HPS := Lib.hid (fun (W : World) => HP.out.size m N W hm hN)
    have HRS := Lib.hid (fun (W : World) => refSize16_any m N W hm hN)
    obtain ⟨S, hS⟩ : ∃ S, S = growS m N := ⟨_, rfl⟩
    rw [← hS] at HPS HRS
    have HSo := Lib.hid (size_hash (cs := bs o) (by rw [bs_size, ho32]))
    have HSt := Lib.hid (size_hash (cs := bs t) (by rw [bs_size, ht32]))
    have HoS := Lib.hid (show (bs o).size = 32 by rw [bs_size, ho32])
    have HtS := Lib.hid (show (bs t).size = 32 by rw [bs_size, ht32])
    have HEqo := Lib.hid (fun W => eq_same W o ho32)
    have HEqt := Lib.hid (fun W => eq_same W t ht32)
    have HAw := Lib.hid (fun (W : World) (hW : Below w.heap.size w W) => awake16_any HP.out HQ.out W (HT.out.below (Nat.le_refl _) hW))
    clear hU ho ht hE ho32 ht32 hb1 hb2 hS hh hr hm hN hv hk hp hq hn hqq HP HQ HT HK HN HV
    go_enter Tryd.func9, Tryd.ntmps9
    go_upto_region 1 with fail
    refine world_cut (fun W => ChW w h r W) HCh.out ?_
    clear HCh
    intro W1 hW1
    have HW1 := Lib.hid hW1
    clear hW1
    go_wp2_with fail
    refine (HAw.out _ HW1.out.2.2).mono ?_
    rintro e W2 ⟨rfl, hb2⟩
    have HW2 := Lib.hid (HW1.out.keep hb2)
    clear hb2 HW1 HAw
    have hsl := HSl.out
    go_wp2_with (refine wpList_load_row rfl 30 (.tmp 9) rfl w.heap.size rfl 30 (bs h) (0, 0) _ HW2.out.1 Tryd.underlying30 rfl HSh.out ?_)
    refine (HPC.out _ HW2.out.2.2).mono ?_
    rintro e W3 ⟨rfl, hb3⟩
    have HW3 := Lib.hid (HW2.out.keep hb3)
    clear hb3 HW2 HPC
    go_upto_region 6 with (first
      | (refine wpList_store_row rfl 30 (.tmp 13) (.tmp 33) rfl W3.heap.size (bs o) rfl rfl 30 _ ((Blk.new W3 _ _).alloc _) HSo.out (by rw [HoS.out]; rfl) (bs_one _) ?_)
      | (refine wpList_store_row rfl 30 (.tmp 14) (.tmp 34) rfl (W3.heap.size + 1) (bs t) rfl rfl 30 _ (Blk.rowOther (Blk.newAt _ _ _ _ _ (by simp) rfl) _ (by omega)) HSt.out (by rw [HtS.out]; rfl) (bs_one _) ?_))
    refine world_cut (fun W => Clh w h r o t W3.heap.size (W3.heap.size + 1) W) ⟨HW3.out.keep (below_setRow (below_setRow (((Below.refl _ _).alloc (Nat.le_refl _) _).alloc (by simp) _) _ _ (Nat.le_refl _)) _ _ (by omega)), (Blk.row ((Blk.new W3 _ _).alloc _) (bs o)).rowOther _ (by omega), Blk.row (Blk.rowOther (Blk.newAt _ _ _ _ _ (by simp) rfl) _ (by omega)) (bs t)⟩ ?_
    intro W4 hW4
    obtain ⟨g1, hg1⟩ : ∃ g, g = W3.heap.size := ⟨_, rfl⟩
    obtain ⟨g2, hg2⟩ : ∃ g, g = W3.heap.size + 1 := ⟨_, rfl⟩
    rw [← hg2, ← hg1] at hW4 ⊢
    have HW4 := Lib.hid hW4
    clear hW4 hg1 hg2 HW3
    go_wp2_with (refine wpList_load_row rfl 30 (.tmp 9) rfl w.heap.size rfl 30 (bs h) (0, 0) _ HW4.out.1.1 Tryd.underlying30 rfl HSh.out ?_)
    refine (HRC.out _ HW4.out.1.2.2).mono ?_
    rintro e W5 ⟨rfl, hb5⟩
    have HW5 := Lib.hid (HW4.out.keep hb5)
    clear hb5 HW4 HRC
    go_upto_region 7 with (first
      | (refine wpList_store_row rfl 30 (.tmp 16) (.tmp 43) rfl W5.heap.size (bs o) rfl rfl 30 _ ((Blk.new W5 _ _).alloc _) HSo.out (by rw [HoS.out]; rfl) (bs_one _) ?_)
      | (refine wpList_store_row rfl 30 (.tmp 17) (.tmp 44) rfl (W5.heap.size + 1) (bs t) rfl rfl 30 _ (Blk.rowOther (Blk.newAt _ _ _ _ _ (by simp) rfl) _ (by omega)) HSt.out (by rw [HtS.out]; rfl) (bs_one _) ?_))
    have hkp := HW5.out.keep (W' := ((((W5.alloc (.cells (bs (List.replicate 32 0)) 30)).alloc (.cells (bs (List.replicate 32 0)) 30)).setRow W5.heap.size (bs o)).setRow (W5.heap.size + 1) (bs t))) (below_setRow (below_setRow (((Below.refl _ _).alloc (Nat.le_refl _) _).alloc (by simp) _) _ _ (Nat.le_refl _)) _ _ (by omega))
    refine world_cut (fun W => Clb w h r o t g1 g2 W5.heap.size (W5.heap.size + 1) W) ⟨hkp.1, hkp.2.1, hkp.2.2, (Blk.row ((Blk.new W5 _ _).alloc _) (bs o)).rowOther _ (by omega), Blk.row (Blk.rowOther (Blk.newAt _ _ _ _ _ (by simp) rfl) _ (by omega)) (bs t)⟩ ?_
    clear hkp
    intro W6 hW6
    obtain ⟨g3, hg3⟩ : ∃ g, g = W5.heap.size := ⟨_, rfl⟩
    obtain ⟨g4, hg4⟩ : ∃ g, g = W5.heap.size + 1 := ⟨_, rfl⟩
    rw [← hg4, ← hg3] at hW6 ⊢
    have HW6 := Lib.hid hW6
    clear hW6 hg3 hg4 HW5
    have heqo := HEqo.out
    have heqt := HEqt.out
    go_wp2_with (first
      | (refine wpList_load_row rfl 30 (.tmp 13) rfl g1 rfl 30 (bs o) (0, 0) _ HW6.out.2.1 Tryd.underlying30 rfl HSo.out ?_)
      | (refine wpList_load_row rfl 30 (.tmp 16) rfl g3 rfl 30 (bs o) (0, 0) _ HW6.out.2.2.2.1 Tryd.underlying30 rfl HSo.out ?_)
      | (refine wpList_load_guarded rfl 30 (.tmp 14) rfl (.pointer (some ⟨g2, 0, none⟩)) (.agg (bs t)) rfl (Blk.loads HW6.out.2.2.1 30 _ Tryd.underlying30 rfl HSt.out) ?_)
      | (refine wpList_load_guarded rfl 30 (.tmp 17) rfl (.pointer (some ⟨g4, 0, none⟩)) (.agg (bs t)) rfl (Blk.loads HW6.out.2.2.2.2 30 _ Tryd.underlying30 rfl HSt.out) ?_))
    refine (HPS.out _).mono ?_
    rintro e W7 ⟨rfl, hb7⟩
    have HW7 := Lib.hid (HW6.out.keep hb7)
    clear hb7 HW6 HPS heqo heqt
    go_wp2_with fail
    refine (HRS.out _).mono ?_
    rintro e W8 ⟨rfl, rfl⟩
    go_upto_region 9 with fail
    have hG : ∀ W W' : World, Clb w h r o t g1 g2 g3 g4 W → Below W.heap.size W W' → Clb w h r o t g1 g2 g3 g4 W' := fun W W' h h' => h.keep h'
    refine region_by [(68, .is (.int .i64 n)), (69, .is (.int .u64 (m : Int))), (70, .is (.int .u64 (N : Int))), (71, .is (.agg (bs h))), (72, .is (.agg (bs r))), (73, .is (.slice a 80 c)), (74, .is (.bool b1)), (75, .is (.int .i64 n)), (76, .is (.int .u64 (m : Int))), (77, .is (.int .u64 (N : Int))), (78, .is (.agg (bs h))), (79, .is (.agg (bs r))), (80, .is (.slice a 80 c)), (81, .is (.bool b1)), (82, .is (.bool true)), (83, .is (.bool true)), (84, .is (.int .i64 n)), (85, .is (.int .u64 (m : Int))), (86, .is (.int .u64 (N : Int))), (87, .is (.agg (bs o))), (88, .is (.agg (bs t))), (89, .is (.slice a 80 c)), (90, .is (.bool b2)), (91, .is (.int .i64 n)), (92, .is (.int .u64 (m : Int))), (93, .is (.int .u64 (N : Int))), (94, .is (.agg (bs o))), (95, .is (.agg (bs t))), (96, .is (.slice a 80 c)), (97, .is (.bool b2)), (98, .is (.bool true)), (99, .is (.bool true)), (12, .is (.bool true))] [12] (fun W => Clb w h r o t g1 g2 g3 g4 W) (by kernel_rfl) (by kernel_rfl) (by kernel_rfl) (by kernel_rfl) (by kernel_rfl) (HW7.out.keep (Below.refl _ _).drew) ?_ ?_
    · refine ⟨?c0, ?c1, ?c2, ?c3, ?c4, ?c5, ?c6, ?c7, ?c8, ?c9, ?c10, ?c11, ?c12, ?c13, ?c14, ?c15, ?c16, ?c17, ?c18, ?c19, ?c20, ?c21, ?c22, ?c23, ?c24, ?c25, ?c26, ?c27, ?c28, ?c29, ?c30, ?c31, ?c32, trivial⟩
      case c0 => exact ask_copy (guard_none rfl) (.tmp 0) (.inl rfl) (by intro k hk; cases hk; rfl)
      case c1 => exact ask_copy (guard_none rfl) (.tmp 1) (.inl rfl) (by intro k hk; cases hk; rfl)
      case c2 => exact ask_copy (guard_none rfl) (.tmp 2) (.inl rfl) (by intro k hk; cases hk; rfl)
      case c3 => exact ask_load (guard_none rfl) _ (.tmp 9) (.pointer (some ⟨w.heap.size, 0, none⟩)) (.agg (bs h)) rfl rfl (by intro k hk; cases hk; rfl) (fun W hW => (hW.1.1).loads 30 _ Tryd.underlying30 rfl HSh.out)
      case c4 => exact ask_load (guard_none rfl) _ (.tmp 10) (.pointer (some ⟨w.heap.size + 1, 0, none⟩)) (.agg (bs r)) rfl rfl (by intro k hk; cases hk; rfl) (fun W hW => (hW.1.2.1).loads 30 _ Tryd.underlying30 rfl HSr.out)
      case c5 => exact ask_copy (guard_none rfl) (.tmp 5) (.inl rfl) (by intro k hk; cases hk; rfl)
      case c6 => exact ask_call hG (guard_none rfl) _ _ _ #[.int .i64 n, .int .u64 (m : Int), .int .u64 (N : Int), .agg (bs h), .agg (bs r), .slice a 80 c] (.is (.bool b1)) rfl (by kernel_rfl) rfl rfl (by intro k hk; cases hk; rfl) (fun W hW => (HP1.out W hW.1.2.2).mono fun e w' h => ⟨_, h.1, rfl, h.2⟩)
      case c7 => exact ask_copy (guard_none rfl) (.tmp 0) (.inl rfl) (by intro k hk; cases hk; rfl)
      case c8 => exact ask_copy (guard_none rfl) (.tmp 1) (.inl rfl) (by intro k hk; cases hk; rfl)
      case c9 => exact ask_copy (guard_none rfl) (.tmp 2) (.inl rfl) (by intro k hk; cases hk; rfl)
      case c10 => exact ask_load (guard_none rfl) _ (.tmp 9) (.pointer (some ⟨w.heap.size, 0, none⟩)) (.agg (bs h)) rfl rfl (by intro k hk; cases hk; rfl) (fun W hW => (hW.1.1).loads 30 _ Tryd.underlying30 rfl HSh.out)
      case c11 => exact ask_load (guard_none rfl) _ (.tmp 10) (.pointer (some ⟨w.heap.size + 1, 0, none⟩)) (.agg (bs r)) rfl rfl (by intro k hk; cases hk; rfl) (fun W hW => (hW.1.2.1).loads 30 _ Tryd.underlying30 rfl HSr.out)
      case c12 => exact ask_copy (guard_none rfl) (.tmp 5) (.inl rfl) (by intro k hk; cases hk; rfl)
      case c13 => exact ask_call hG (guard_none rfl) _ _ _ #[.int .i64 n, .int .u64 (m : Int), .int .u64 (N : Int), .agg (bs h), .agg (bs r), .slice a 80 c] (.is (.bool b1)) rfl (by kernel_rfl) rfl rfl (by intro k hk; cases hk; rfl) (fun W hW => (HR1.out W hW.1.2.2).mono fun e w' h => ⟨_, h.1, rfl, h.2⟩)
      case c14 => exact ask_bin (guard_none rfl) .eql _ _ (.tmp 74) (.tmp 81) (.bool b1) (.bool b1) (.bool true) rfl rfl rfl (by intro k hk; cases hk; rfl) (eql_bool_same _ _ b1)
      case c15 => exact ask_copy (guard_none rfl) (.tmp 82) (.inl rfl) (by intro k hk; cases hk; rfl)
      case c16 => exact ask_copy (guard_some rfl rfl rfl) (.tmp 0) (.inl rfl) (by intro k hk; cases hk; rfl)
      case c17 => exact ask_copy (guard_some rfl rfl rfl) (.tmp 1) (.inl rfl) (by intro k hk; cases hk; rfl)
      case c18 => exact ask_copy (guard_some rfl rfl rfl) (.tmp 2) (.inl rfl) (by intro k hk; cases hk; rfl)
      case c19 => exact ask_load (guard_some rfl rfl rfl) _ (.tmp 13) (.pointer (some ⟨g1, 0, none⟩)) (.agg (bs o)) rfl rfl (by intro k hk; cases hk; rfl) (fun W hW => (hW.2.1).loads 30 _ Tryd.underlying30 rfl HSo.out)
      case c20 => exact ask_load (guard_some rfl rfl rfl) _ (.tmp 14) (.pointer (some ⟨g2, 0, none⟩)) (.agg (bs t)) rfl rfl (by intro k hk; cases hk; rfl) (fun W hW => (hW.2.2.1).loads 30 _ Tryd.underlying30 rfl HSt.out)
      case c21 => exact ask_copy (guard_some rfl rfl rfl) (.tmp 5) (.inl rfl) (by intro k hk; cases hk; rfl)
      case c22 => exact ask_call hG (guard_some rfl rfl rfl) _ _ _ #[.int .i64 n, .int .u64 (m : Int), .int .u64 (N : Int), .agg (bs o), .agg (bs t), .slice a 80 c] (.is (.bool b2)) rfl (by kernel_rfl) rfl rfl (by intro k hk; cases hk; rfl) (fun W hW => (HP2.out W hW.1.2.2).mono fun e w' h => ⟨_, h.1, rfl, h.2⟩)
      case c23 => exact ask_copy (guard_some rfl rfl rfl) (.tmp 0) (.inl rfl) (by intro k hk; cases hk; rfl)
      case c24 => exact ask_copy (guard_some rfl rfl rfl) (.tmp 1) (.inl rfl) (by intro k hk; cases hk; rfl)
      case c25 => exact ask_copy (guard_some rfl rfl rfl) (.tmp 2) (.inl rfl) (by intro k hk; cases hk; rfl)
      case c26 => exact ask_load (guard_some rfl rfl rfl) _ (.tmp 13) (.pointer (some ⟨g1, 0, none⟩)) (.agg (bs o)) rfl rfl (by intro k hk; cases hk; rfl) (fun W hW => (hW.2.1).loads 30 _ Tryd.underlying30 rfl HSo.out)
      case c27 => exact ask_load (guard_some rfl rfl rfl) _ (.tmp 14) (.pointer (some ⟨g2, 0, none⟩)) (.agg (bs t)) rfl rfl (by intro k hk; cases hk; rfl) (fun W hW => (hW.2.2.1).loads 30 _ Tryd.underlying30 rfl HSt.out)
      case c28 => exact ask_copy (guard_some rfl rfl rfl) (.tmp 5) (.inl rfl) (by intro k hk; cases hk; rfl)
      case c29 => exact ask_call hG (guard_some rfl rfl rfl) _ _ _ #[.int .i64 n, .int .u64 (m : Int), .int .u64 (N : Int), .agg (bs o), .agg (bs t), .slice a 80 c] (.is (.bool b2)) rfl (by kernel_rfl) rfl rfl (by intro k hk; cases hk; rfl) (fun W hW => (HR2.out W hW.1.2.2).mono fun e w' h => ⟨_, h.1, rfl, h.2⟩)
      case c30 => exact ask_bin (guard_some rfl rfl rfl) .eql _ _ (.tmp 90) (.tmp 97) (.bool b2) (.bool b2) (.bool true) rfl rfl rfl (by intro k hk; cases hk; rfl) (eql_bool_same _ _ b2)
      case c31 => exact ask_pick (guard_none rfl) (.tmp 83) (.tmp 98) (.const (.bool false)) true rfl rfl (by intro k hk; cases hk; rfl)
      case c32 => exact ask_copy (guard_none rfl) (.tmp 99) (.inr rfl) (by intro k hk; cases hk; rfl)
    · intro a' W hW hd' hs' hf'
      have t12 : a'.tmps.getD 12 undef = .bool true := hf' 12 rfl
      obtain ⟨us', hus, ha'⟩ := act_open 100 a' hs' hd'
      rw [← hus] at t12
      have el : ((List.range 100).map us').toArray = #[us' 0, us' 1, us' 2, us' 3, us' 4, us' 5, us' 6, us' 7, us' 8, us' 9, us' 10, us' 11, .bool true, us' 13, us' 14, us' 15, us' 16, us' 17, us' 18, us' 19, us' 20, us' 21, us' 22, us' 23, us' 24, us' 25, us' 26, us' 27, us' 28, us' 29, us' 30, us' 31, us' 32, us' 33, us' 34, us' 35, us' 36, us' 37, us' 38, us' 39, us' 40, us' 41, us' 42, us' 43, us' 44, us' 45, us' 46, us' 47, us' 48, us' 49, us' 50, us' 51, us' 52, us' 53, us' 54, us' 55, us' 56, us' 57, us' 58, us' 59, us' 60, us' 61, us' 62, us' 63, us' 64, us' 65, us' 66, us' 67, us' 68, us' 69, us' 70, us' 71, us' 72, us' 73, us' 74, us' 75, us' 76, us' 77, us' 78, us' 79, us' 80, us' 81, us' 82, us' 83, us' 84, us' 85, us' 86, us' 87, us' 88, us' 89, us' 90, us' 91, us' 92, us' 93, us' 94, us' 95, us' 96, us' 97, us' 98, us' 99] := by
        show #[us' 0, us' 1, us' 2, us' 3, us' 4, us' 5, us' 6, us' 7, us' 8, us' 9, us' 10, us' 11, us' 12, us' 13, us' 14, us' 15, us' 16, us' 17, us' 18, us' 19, us' 20, us' 21, us' 22, us' 23, us' 24, us' 25, us' 26, us' 27, us' 28, us' 29, us' 30, us' 31, us' 32, us' 33, us' 34, us' 35, us' 36, us' 37, us' 38, us' 39, us' 40, us' 41, us' 42, us' 43, us' 44, us' 45, us' 46, us' 47, us' 48, us' 49, us' 50, us' 51, us' 52, us' 53, us' 54, us' 55, us' 56, us' 57, us' 58, us' 59, us' 60, us' 61, us' 62, us' 63, us' 64, us' 65, us' 66, us' 67, us' 68, us' 69, us' 70, us' 71, us' 72, us' 73, us' 74, us' 75, us' 76, us' 77, us' 78, us' 79, us' 80, us' 81, us' 82, us' 83, us' 84, us' 85, us' 86, us' 87, us' 88, us' 89, us' 90, us' 91, us' 92, us' 93, us' 94, us' 95, us' 96, us' 97, us' 98, us' 99] = _
        rw [t12]
      rw [el] at ha'
      subst ha'
      clear hus t12 el hf' hs' hd'
      go_wp2
      go_ret
      exact ⟨rfl, hW.1.2.2⟩
  · have HV := Lib.hid hv
    have hl3 : ps.length ≤ 4398046511104 := by omega
    have hq80 : q ≤ 80 := by omega
    have h32 := climbGR_32 n h m N ps hh HV.out.all
    obtain ⟨U, hU⟩ : ∃ U, U = climbGR n h m N ps := ⟨_, rfl⟩
    have HPC := Lib.hid (fun (W : World) (hW : Below w.heap.size w W) => HP.out.climb n h m N ps (.slice a q c) W HN.out hh hm hN (HV.out.below (Nat.le_refl _) hW) hl3 (HT.out.below (Nat.le_refl _) hW))
    have HRC := Lib.hid (fun (W : World) (hW : Below w.heap.size w W) => refclimb16_any n HN.out h m N ps (.slice a q c) W hh hm hN (HV.out.below (Nat.le_refl _) hW) (HK.out.below (Nat.le_refl _) hW))
    rw [← hU] at h32 HPC HRC
    obtain ⟨o, ho⟩ : ∃ o, o = U.1.1 := ⟨_, rfl⟩
    obtain ⟨t, ht⟩ : ∃ t, t = U.1.2 := ⟨_, rfl⟩
    obtain ⟨E, hE⟩ : ∃ E, E = U.2 := ⟨_, rfl⟩
    rw [← ho, ← ht] at h32
    rw [← ho, ← ht, ← hE] at HPC HRC
    obtain ⟨ho32, ht32⟩ := h32
    obtain ⟨b1, hb1⟩ : ∃ b, b = checkGR n h m N r ps := ⟨_, rfl⟩
    obtain ⟨b2, hb2⟩ : ∃ b, b = checkGR n o m N t ps := ⟨_, rfl⟩
    have HP1 := Lib.hid (fun (W : World) (hW : Below w.heap.size w W) => HP.out.check n h m N r ps (.slice a q c) W HN.out hh hr hm hN (HV.out.below (Nat.le_refl _) hW) hl3 (HT.out.below (Nat.le_refl _) hW))
    have HR1 := Lib.hid (fun (W : World) (hW : Below w.heap.size w W) => refcheck16_any n HN.out h m N r ps (.slice a q c) W hh hr hm hN (HV.out.below (Nat.le_refl _) hW) (HK.out.below (Nat.le_refl _) hW))
    have HP2 := Lib.hid (fun (W : World) (hW : Below w.heap.size w W) => HP.out.check n o m N t ps (.slice a q c) W HN.out ho32 ht32 hm hN (HV.out.below (Nat.le_refl _) hW) hl3 (HT.out.below (Nat.le_refl _) hW))
    have HR2 := Lib.hid (fun (W : World) (hW : Below w.heap.size w W) => refcheck16_any n HN.out o m N t ps (.slice a q c) W ho32 ht32 hm hN (HV.out.below (Nat.le_refl _) hW) (HK.out.below (Nat.le_refl _) hW))
    rw [← hb1] at HP1 HR1
    rw [← hb2] at HP2 HR2
    have HPS := Lib.hid (fun (W : World) => HP.out.size m N W hm hN)
    have HRS := Lib.hid (fun (W : World) => refSize16_any m N W hm hN)
    obtain ⟨S, hS⟩ : ∃ S, S = growS m N := ⟨_, rfl⟩
    rw [← hS] at HPS HRS
    have HSo := Lib.hid (size_hash (cs := bs o) (by rw [bs_size, ho32]))
    have HSt := Lib.hid (size_hash (cs := bs t) (by rw [bs_size, ht32]))
    have HoS := Lib.hid (show (bs o).size = 32 by rw [bs_size, ho32])
    have HtS := Lib.hid (show (bs t).size = 32 by rw [bs_size, ht32])
    have HEqo := Lib.hid (fun W => eq_same W o ho32)
    have HEqt := Lib.hid (fun W => eq_same W t ht32)
    have HAw := Lib.hid (fun (W : World) (hW : Below w.heap.size w W) => awake16_any HP.out HQ.out W (HT.out.below (Nat.le_refl _) hW))
    clear hU ho ht hE ho32 ht32 hb1 hb2 hS hh hr hm hN hv hk hp hq hn hqq HP HQ HT HK HN HV
    go_enter Tryd.func9, Tryd.ntmps9
    go_upto_region 1 with fail
    refine world_cut (fun W => ChW w h r W) HCh.out ?_
    clear HCh
    intro W1 hW1
    have HW1 := Lib.hid hW1
    clear hW1
    go_wp2_with fail
    refine (HAw.out _ HW1.out.2.2).mono ?_
    rintro e W2 ⟨rfl, hb2⟩
    have HW2 := Lib.hid (HW1.out.keep hb2)
    clear hb2 HW1 HAw
    go_wp2_with (refine wpList_load_row rfl 30 (.tmp 9) rfl w.heap.size rfl 30 (bs h) (0, 0) _ HW2.out.1 Tryd.underlying30 rfl HSh.out ?_)
    refine (HPC.out _ HW2.out.2.2).mono ?_
    rintro e W3 ⟨rfl, hb3⟩
    have HW3 := Lib.hid (HW2.out.keep hb3)
    clear hb3 HW2 HPC
    go_upto_region 6 with (first
      | (refine wpList_store_row rfl 30 (.tmp 13) (.tmp 33) rfl W3.heap.size (bs o) rfl rfl 30 _ ((Blk.new W3 _ _).alloc _) HSo.out (by rw [HoS.out]; rfl) (bs_one _) ?_)
      | (refine wpList_store_row rfl 30 (.tmp 14) (.tmp 34) rfl (W3.heap.size + 1) (bs t) rfl rfl 30 _ (Blk.rowOther (Blk.newAt _ _ _ _ _ (by simp) rfl) _ (by omega)) HSt.out (by rw [HtS.out]; rfl) (bs_one _) ?_))
    refine world_cut (fun W => Clh w h r o t W3.heap.size (W3.heap.size + 1) W) ⟨HW3.out.keep (below_setRow (below_setRow (((Below.refl _ _).alloc (Nat.le_refl _) _).alloc (by simp) _) _ _ (Nat.le_refl _)) _ _ (by omega)), (Blk.row ((Blk.new W3 _ _).alloc _) (bs o)).rowOther _ (by omega), Blk.row (Blk.rowOther (Blk.newAt _ _ _ _ _ (by simp) rfl) _ (by omega)) (bs t)⟩ ?_
    intro W4 hW4
    obtain ⟨g1, hg1⟩ : ∃ g, g = W3.heap.size := ⟨_, rfl⟩
    obtain ⟨g2, hg2⟩ : ∃ g, g = W3.heap.size + 1 := ⟨_, rfl⟩
    rw [← hg2, ← hg1] at hW4 ⊢
    have HW4 := Lib.hid hW4
    clear hW4 hg1 hg2 HW3
    go_wp2_with (refine wpList_load_row rfl 30 (.tmp 9) rfl w.heap.size rfl 30 (bs h) (0, 0) _ HW4.out.1.1 Tryd.underlying30 rfl HSh.out ?_)
    refine (HRC.out _ HW4.out.1.2.2).mono ?_
    rintro e W5 ⟨rfl, hb5⟩
    have HW5 := Lib.hid (HW4.out.keep hb5)
    clear hb5 HW4 HRC
    go_upto_region 7 with (first
      | (refine wpList_store_row rfl 30 (.tmp 16) (.tmp 43) rfl W5.heap.size (bs o) rfl rfl 30 _ ((Blk.new W5 _ _).alloc _) HSo.out (by rw [HoS.out]; rfl) (bs_one _) ?_)
      | (refine wpList_store_row rfl 30 (.tmp 17) (.tmp 44) rfl (W5.heap.size + 1) (bs t) rfl rfl 30 _ (Blk.rowOther (Blk.newAt _ _ _ _ _ (by simp) rfl) _ (by omega)) HSt.out (by rw [HtS.out]; rfl) (bs_one _) ?_))
    have hkp := HW5.out.keep (W' := ((((W5.alloc (.cells (bs (List.replicate 32 0)) 30)).alloc (.cells (bs (List.replicate 32 0)) 30)).setRow W5.heap.size (bs o)).setRow (W5.heap.size + 1) (bs t))) (below_setRow (below_setRow (((Below.refl _ _).alloc (Nat.le_refl _) _).alloc (by simp) _) _ _ (Nat.le_refl _)) _ _ (by omega))
    refine world_cut (fun W => Clb w h r o t g1 g2 W5.heap.size (W5.heap.size + 1) W) ⟨hkp.1, hkp.2.1, hkp.2.2, (Blk.row ((Blk.new W5 _ _).alloc _) (bs o)).rowOther _ (by omega), Blk.row (Blk.rowOther (Blk.newAt _ _ _ _ _ (by simp) rfl) _ (by omega)) (bs t)⟩ ?_
    clear hkp
    intro W6 hW6
    obtain ⟨g3, hg3⟩ : ∃ g, g = W5.heap.size := ⟨_, rfl⟩
    obtain ⟨g4, hg4⟩ : ∃ g, g = W5.heap.size + 1 := ⟨_, rfl⟩
    rw [← hg4, ← hg3] at hW6 ⊢
    have HW6 := Lib.hid hW6
    clear hW6 hg3 hg4 HW5
    have heqo := HEqo.out
    have heqt := HEqt.out
    go_wp2_with (first
      | (refine wpList_load_row rfl 30 (.tmp 13) rfl g1 rfl 30 (bs o) (0, 0) _ HW6.out.2.1 Tryd.underlying30 rfl HSo.out ?_)
      | (refine wpList_load_row rfl 30 (.tmp 16) rfl g3 rfl 30 (bs o) (0, 0) _ HW6.out.2.2.2.1 Tryd.underlying30 rfl HSo.out ?_)
      | (refine wpList_load_guarded rfl 30 (.tmp 14) rfl (.pointer (some ⟨g2, 0, none⟩)) (.agg (bs t)) rfl (Blk.loads HW6.out.2.2.1 30 _ Tryd.underlying30 rfl HSt.out) ?_)
      | (refine wpList_load_guarded rfl 30 (.tmp 17) rfl (.pointer (some ⟨g4, 0, none⟩)) (.agg (bs t)) rfl (Blk.loads HW6.out.2.2.2.2 30 _ Tryd.underlying30 rfl HSt.out) ?_))
    refine (HPS.out _).mono ?_
    rintro e W7 ⟨rfl, hb7⟩
    have HW7 := Lib.hid (HW6.out.keep hb7)
    clear hb7 HW6 HPS heqo heqt
    go_wp2_with fail
    refine (HRS.out _).mono ?_
    rintro e W8 ⟨rfl, rfl⟩
    go_upto_region 9 with fail
    have hG : ∀ W W' : World, Clb w h r o t g1 g2 g3 g4 W → Below W.heap.size W W' → Clb w h r o t g1 g2 g3 g4 W' := fun W W' h h' => h.keep h'
    refine region_by [(68, .is (.int .i64 n)), (69, .is (.int .u64 (m : Int))), (70, .is (.int .u64 (N : Int))), (71, .is (.agg (bs h))), (72, .is (.agg (bs r))), (73, .is (.slice a q c)), (74, .is (.bool b1)), (75, .is (.int .i64 n)), (76, .is (.int .u64 (m : Int))), (77, .is (.int .u64 (N : Int))), (78, .is (.agg (bs h))), (79, .is (.agg (bs r))), (80, .is (.slice a q c)), (81, .is (.bool b1)), (82, .is (.bool true)), (83, .is (.bool true)), (84, .is (.int .i64 n)), (85, .is (.int .u64 (m : Int))), (86, .is (.int .u64 (N : Int))), (87, .is (.agg (bs o))), (88, .is (.agg (bs t))), (89, .is (.slice a q c)), (90, .is (.bool b2)), (91, .is (.int .i64 n)), (92, .is (.int .u64 (m : Int))), (93, .is (.int .u64 (N : Int))), (94, .is (.agg (bs o))), (95, .is (.agg (bs t))), (96, .is (.slice a q c)), (97, .is (.bool b2)), (98, .is (.bool true)), (99, .is (.bool true)), (12, .is (.bool true))] [12] (fun W => Clb w h r o t g1 g2 g3 g4 W) (by kernel_rfl) (by kernel_rfl) (by kernel_rfl) (by kernel_rfl) (by kernel_rfl) (HW7.out.keep (Below.refl _ _).drew) ?_ ?_
    · refine ⟨?c0, ?c1, ?c2, ?c3, ?c4, ?c5, ?c6, ?c7, ?c8, ?c9, ?c10, ?c11, ?c12, ?c13, ?c14, ?c15, ?c16, ?c17, ?c18, ?c19, ?c20, ?c21, ?c22, ?c23, ?c24, ?c25, ?c26, ?c27, ?c28, ?c29, ?c30, ?c31, ?c32, trivial⟩
      case c0 => exact ask_copy (guard_none rfl) (.tmp 0) (.inl rfl) (by intro k hk; cases hk; rfl)
      case c1 => exact ask_copy (guard_none rfl) (.tmp 1) (.inl rfl) (by intro k hk; cases hk; rfl)
      case c2 => exact ask_copy (guard_none rfl) (.tmp 2) (.inl rfl) (by intro k hk; cases hk; rfl)
      case c3 => exact ask_load (guard_none rfl) _ (.tmp 9) (.pointer (some ⟨w.heap.size, 0, none⟩)) (.agg (bs h)) rfl rfl (by intro k hk; cases hk; rfl) (fun W hW => (hW.1.1).loads 30 _ Tryd.underlying30 rfl HSh.out)
      case c4 => exact ask_load (guard_none rfl) _ (.tmp 10) (.pointer (some ⟨w.heap.size + 1, 0, none⟩)) (.agg (bs r)) rfl rfl (by intro k hk; cases hk; rfl) (fun W hW => (hW.1.2.1).loads 30 _ Tryd.underlying30 rfl HSr.out)
      case c5 => exact ask_copy (guard_none rfl) (.tmp 5) (.inl rfl) (by intro k hk; cases hk; rfl)
      case c6 => exact ask_call hG (guard_none rfl) _ _ _ #[.int .i64 n, .int .u64 (m : Int), .int .u64 (N : Int), .agg (bs h), .agg (bs r), .slice a q c] (.is (.bool b1)) rfl (by kernel_rfl) rfl rfl (by intro k hk; cases hk; rfl) (fun W hW => (HP1.out W hW.1.2.2).mono fun e w' h => ⟨_, h.1, rfl, h.2⟩)
      case c7 => exact ask_copy (guard_none rfl) (.tmp 0) (.inl rfl) (by intro k hk; cases hk; rfl)
      case c8 => exact ask_copy (guard_none rfl) (.tmp 1) (.inl rfl) (by intro k hk; cases hk; rfl)
      case c9 => exact ask_copy (guard_none rfl) (.tmp 2) (.inl rfl) (by intro k hk; cases hk; rfl)
      case c10 => exact ask_load (guard_none rfl) _ (.tmp 9) (.pointer (some ⟨w.heap.size, 0, none⟩)) (.agg (bs h)) rfl rfl (by intro k hk; cases hk; rfl) (fun W hW => (hW.1.1).loads 30 _ Tryd.underlying30 rfl HSh.out)
      case c11 => exact ask_load (guard_none rfl) _ (.tmp 10) (.pointer (some ⟨w.heap.size + 1, 0, none⟩)) (.agg (bs r)) rfl rfl (by intro k hk; cases hk; rfl) (fun W hW => (hW.1.2.1).loads 30 _ Tryd.underlying30 rfl HSr.out)
      case c12 => exact ask_copy (guard_none rfl) (.tmp 5) (.inl rfl) (by intro k hk; cases hk; rfl)
      case c13 => exact ask_call hG (guard_none rfl) _ _ _ #[.int .i64 n, .int .u64 (m : Int), .int .u64 (N : Int), .agg (bs h), .agg (bs r), .slice a q c] (.is (.bool b1)) rfl (by kernel_rfl) rfl rfl (by intro k hk; cases hk; rfl) (fun W hW => (HR1.out W hW.1.2.2).mono fun e w' h => ⟨_, h.1, rfl, h.2⟩)
      case c14 => exact ask_bin (guard_none rfl) .eql _ _ (.tmp 74) (.tmp 81) (.bool b1) (.bool b1) (.bool true) rfl rfl rfl (by intro k hk; cases hk; rfl) (eql_bool_same _ _ b1)
      case c15 => exact ask_copy (guard_none rfl) (.tmp 82) (.inl rfl) (by intro k hk; cases hk; rfl)
      case c16 => exact ask_copy (guard_some rfl rfl rfl) (.tmp 0) (.inl rfl) (by intro k hk; cases hk; rfl)
      case c17 => exact ask_copy (guard_some rfl rfl rfl) (.tmp 1) (.inl rfl) (by intro k hk; cases hk; rfl)
      case c18 => exact ask_copy (guard_some rfl rfl rfl) (.tmp 2) (.inl rfl) (by intro k hk; cases hk; rfl)
      case c19 => exact ask_load (guard_some rfl rfl rfl) _ (.tmp 13) (.pointer (some ⟨g1, 0, none⟩)) (.agg (bs o)) rfl rfl (by intro k hk; cases hk; rfl) (fun W hW => (hW.2.1).loads 30 _ Tryd.underlying30 rfl HSo.out)
      case c20 => exact ask_load (guard_some rfl rfl rfl) _ (.tmp 14) (.pointer (some ⟨g2, 0, none⟩)) (.agg (bs t)) rfl rfl (by intro k hk; cases hk; rfl) (fun W hW => (hW.2.2.1).loads 30 _ Tryd.underlying30 rfl HSt.out)
      case c21 => exact ask_copy (guard_some rfl rfl rfl) (.tmp 5) (.inl rfl) (by intro k hk; cases hk; rfl)
      case c22 => exact ask_call hG (guard_some rfl rfl rfl) _ _ _ #[.int .i64 n, .int .u64 (m : Int), .int .u64 (N : Int), .agg (bs o), .agg (bs t), .slice a q c] (.is (.bool b2)) rfl (by kernel_rfl) rfl rfl (by intro k hk; cases hk; rfl) (fun W hW => (HP2.out W hW.1.2.2).mono fun e w' h => ⟨_, h.1, rfl, h.2⟩)
      case c23 => exact ask_copy (guard_some rfl rfl rfl) (.tmp 0) (.inl rfl) (by intro k hk; cases hk; rfl)
      case c24 => exact ask_copy (guard_some rfl rfl rfl) (.tmp 1) (.inl rfl) (by intro k hk; cases hk; rfl)
      case c25 => exact ask_copy (guard_some rfl rfl rfl) (.tmp 2) (.inl rfl) (by intro k hk; cases hk; rfl)
      case c26 => exact ask_load (guard_some rfl rfl rfl) _ (.tmp 13) (.pointer (some ⟨g1, 0, none⟩)) (.agg (bs o)) rfl rfl (by intro k hk; cases hk; rfl) (fun W hW => (hW.2.1).loads 30 _ Tryd.underlying30 rfl HSo.out)
      case c27 => exact ask_load (guard_some rfl rfl rfl) _ (.tmp 14) (.pointer (some ⟨g2, 0, none⟩)) (.agg (bs t)) rfl rfl (by intro k hk; cases hk; rfl) (fun W hW => (hW.2.2.1).loads 30 _ Tryd.underlying30 rfl HSt.out)
      case c28 => exact ask_copy (guard_some rfl rfl rfl) (.tmp 5) (.inl rfl) (by intro k hk; cases hk; rfl)
      case c29 => exact ask_call hG (guard_some rfl rfl rfl) _ _ _ #[.int .i64 n, .int .u64 (m : Int), .int .u64 (N : Int), .agg (bs o), .agg (bs t), .slice a q c] (.is (.bool b2)) rfl (by kernel_rfl) rfl rfl (by intro k hk; cases hk; rfl) (fun W hW => (HR2.out W hW.1.2.2).mono fun e w' h => ⟨_, h.1, rfl, h.2⟩)
      case c30 => exact ask_bin (guard_some rfl rfl rfl) .eql _ _ (.tmp 90) (.tmp 97) (.bool b2) (.bool b2) (.bool true) rfl rfl rfl (by intro k hk; cases hk; rfl) (eql_bool_same _ _ b2)
      case c31 => exact ask_pick (guard_none rfl) (.tmp 83) (.tmp 98) (.const (.bool false)) true rfl rfl (by intro k hk; cases hk; rfl)
      case c32 => exact ask_copy (guard_none rfl) (.tmp 99) (.inr rfl) (by intro k hk; cases hk; rfl)
    · intro a' W hW hd' hs' hf'
      have t12 : a'.tmps.getD 12 undef = .bool true := hf' 12 rfl
      obtain ⟨us', hus, ha'⟩ := act_open 100 a' hs' hd'
      rw [← hus] at t12
      have el : ((List.range 100).map us').toArray = #[us' 0, us' 1, us' 2, us' 3, us' 4, us' 5, us' 6, us' 7, us' 8, us' 9, us' 10, us' 11, .bool true, us' 13, us' 14, us' 15, us' 16, us' 17, us' 18, us' 19, us' 20, us' 21, us' 22, us' 23, us' 24, us' 25, us' 26, us' 27, us' 28, us' 29, us' 30, us' 31, us' 32, us' 33, us' 34, us' 35, us' 36, us' 37, us' 38, us' 39, us' 40, us' 41, us' 42, us' 43, us' 44, us' 45, us' 46, us' 47, us' 48, us' 49, us' 50, us' 51, us' 52, us' 53, us' 54, us' 55, us' 56, us' 57, us' 58, us' 59, us' 60, us' 61, us' 62, us' 63, us' 64, us' 65, us' 66, us' 67, us' 68, us' 69, us' 70, us' 71, us' 72, us' 73, us' 74, us' 75, us' 76, us' 77, us' 78, us' 79, us' 80, us' 81, us' 82, us' 83, us' 84, us' 85, us' 86, us' 87, us' 88, us' 89, us' 90, us' 91, us' 92, us' 93, us' 94, us' 95, us' 96, us' 97, us' 98, us' 99] := by
        show #[us' 0, us' 1, us' 2, us' 3, us' 4, us' 5, us' 6, us' 7, us' 8, us' 9, us' 10, us' 11, us' 12, us' 13, us' 14, us' 15, us' 16, us' 17, us' 18, us' 19, us' 20, us' 21, us' 22, us' 23, us' 24, us' 25, us' 26, us' 27, us' 28, us' 29, us' 30, us' 31, us' 32, us' 33, us' 34, us' 35, us' 36, us' 37, us' 38, us' 39, us' 40, us' 41, us' 42, us' 43, us' 44, us' 45, us' 46, us' 47, us' 48, us' 49, us' 50, us' 51, us' 52, us' 53, us' 54, us' 55, us' 56, us' 57, us' 58, us' 59, us' 60, us' 61, us' 62, us' 63, us' 64, us' 65, us' 66, us' 67, us' 68, us' 69, us' 70, us' 71, us' 72, us' 73, us' 74, us' 75, us' 76, us' 77, us' 78, us' 79, us' 80, us' 81, us' 82, us' 83, us' 84, us' 85, us' 86, us' 87, us' 88, us' 89, us' 90, us' 91, us' 92, us' 93, us' 94, us' 95, us' 96, us' 97, us' 98, us' 99] = _
        rw [t12]
      rw [el] at ha'
      subst ha'
      clear hus t12 el hf' hs' hd'
      go_wp2
      go_ret
      exact ⟨rfl, hW.1.2.2⟩
end Go.Proofs.YtdhfabjkpffhnabDoor

