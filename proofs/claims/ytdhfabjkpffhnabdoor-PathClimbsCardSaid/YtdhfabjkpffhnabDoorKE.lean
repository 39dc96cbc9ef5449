/- Joined: PathPasses, PathLengths, PathStepsMath, PathSteps. -/
import Derived.Test.YtdhfabjkpffhnabDoorPathSpecJ
import Derived.Test.YtdhfabjkpffhnabDoorLeafConvJ
import Derived.Test.YtdhfabjkpffhnabDoorPathLengthsKitJ
import Derived.Test.YtdhfabjkpffhnabDoorPathMath
/- PathPasses: the walk. -/
namespace Go.Proofs.YtdhfabjkpffhnabDoor
set_option maxRecDepth 20000
open Go.RowKit ShaMath LeafMath PathMath Reg

def PaAt (q : Nat) (w : World) (s5 : Value) (wr : World) : Prop := ∃ N : Nat, 1 ≤ N ∧ N ≤ q + 1 ∧ s5 = .int .i64 (N : Int) ∧ Below w.heap.size w wr
def PbAt (N : Nat) (w : World) (s7 : Value) (wr : World) : Prop := ∃ i : Nat, i ≤ N ∧ s7 = .int .i64 (i : Int) ∧ Below w.heap.size w wr

set_option maxHeartbeats 2000000 in
set_option maxRecDepth 100000 in
theorem pathPasses_walk (hp : PathProg) (hq0 : LeafProg) (n : Int) (hn : I64 n) (hs : List Hs) (v : Value) (w : World) (hv : Hss w v hs) (ht : Tabs w) :
    Calls Tryd.prog 5 #[.int .i64 n, v] w fun e w' => e = .returned (.bool true) ∧ Below w.heap.size w w' := by
  obtain ⟨a, c, rfl, hc⟩ := hv.form
  obtain ⟨m, hm⟩ : ∃ m, m = hs.length := ⟨_, rfl⟩
  rw [← hm] at hv hc ⊢
  have HT := Lib.hid ht
  have HP := Lib.hid hp
  have HQ := Lib.hid hq0
  have HN := Lib.hid hn
  by_cases h40 : 40 < m
  · obtain ⟨q, hq40⟩ : ∃ q, q = 40 := ⟨_, rfl⟩
    have hq : q ≤ 40 := by omega
    have hqm : q ≤ m := by omega
    have hv2 : Hss w (.slice a q c) (hs.take q) := by
      have := hv.sub 0 q (by omega) (by omega)
      rw [sliced_zero] at this
      simpa using this
    have hl2 : (hs.take q).length = q := by rw [List.length_take]; omega
    have hsl : ∀ W, (Instr.sliceAt 22 (.slice a m c) none (some (.int .i64 40)) none).run Tryd.prog W = .ok (.slice a q c) W := fun W => by
      have := slice_hs_to a m c 40 (by omega) W
      rw [sliced_zero] at this
      rw [hq40]
      exact this
    obtain ⟨hs2, hhs2⟩ : ∃ h, h = hs.take q := ⟨_, rfl⟩
    rw [← hhs2] at hv2 hl2
    have HV := Lib.hid hv2
    have HL := Lib.hid hl2
    have HSl := Lib.hid hsl
    clear hv hv2 hl2 hsl hhs2 hm ht hp hq0 hn hq40
    go_enter Tryd.func5, Tryd.ntmps5
    go_wp2_with fail
    refine (awake15_any HP.out HQ.out _ HT.out).mono ?_
    rintro e W1 ⟨rfl, hb1⟩
    have HB1 := Lib.hid hb1
    clear hb1
    have hsl := HSl.out
    clear HSl
    go_upto_region 6 with fail
    generalize decide (40 < (m : Int)) = z14
    refine world_cut (fun W => Below w.heap.size w W) HB1.out ?_
    clear HB1
    intro W1' hW1
    have hstart : PaAt q w (.int .i64 1) W1' := ⟨1, Nat.le_refl _, by omega, rfl, hW1⟩
    have HStart := Lib.hid hstart
    clear hstart hW1
    go_wp2
    go_loopw [5] (fun s5 wr => PaAt q w s5 wr) (fun s5 _ => q + 1 - (intOf s5).toNat)
    case atStart => exact HStart.out
    case round =>
      obtain ⟨N, hN1, hNq, rfl, hbw⟩ := hrel
      have HBw := Lib.hid hbw
      clear hbw HStart
      by_cases hlt : N ≤ q
      · have hN64 : N < 18446744073709551616 := by omega
        obtain ⟨y0, hy0⟩ : ∃ y, hs2[0]? = some y := ⟨hs2[0]'(by have := HL.out; omega), List.getElem?_eq_getElem _⟩
        obtain ⟨ad, rfl, -⟩ := HV.out.load hy0
        have htl : (hs2.take N).length = N := by rw [List.length_take, HL.out]; omega
        have hv1 : Hss w (.slice (some ad) N c) (hs2.take N) := by
          have := HV.out.sub 0 N (by omega) (by omega)
          rw [sliced_zero] at this
          simpa using this
        obtain ⟨X, hX, hX32⟩ : ∃ X, X = rootH n (hs2.take N) ∧ X.length = 32 := ⟨_, rfl, rootH_length _ _ hv1.all⟩
        have HRoot := Lib.hid (fun (W : World) (hW : Below w.heap.size w W) => HQ.out.root n (hs2.take N) (.slice (some ad) N c) W HN.out (hv1.below (Nat.le_refl _) hW) (by rw [htl]; omega) (HT.out.below (Nat.le_refl _) hW))
        rw [← hX] at HRoot
        have HXd := Lib.hid hX
        have HX := Lib.hid hX32
        have HSX := Lib.hid (size_hash (cs := bs X) (by rw [bs_size, hX32]))
        have HTl := Lib.hid htl
        have HSl2 := Lib.hid (fun (W : World) => show (Instr.sliceAt 22 (.slice (some ad) q c) none (some (.int .i64 (N : Int))) none).run Tryd.prog W = .ok (.slice (some ad) N c) W by rw [slice_hs_to (some ad) q c N (by omega) W, sliced_zero])
        clear hX hX32 htl hv1 hy0
        go_wp2_with (refine wpList_slice_by rfl 22 (.tmp 24) none (some (.tmp 25)) rfl (.slice (some ad) q c) (.slice (some ad) N c) none (some (.int .i64 (N : Int))) rfl rfl rfl (HSl2.out _) ?_)
        refine (HRoot.out _ HBw.out).mono ?_
        rintro e W2 ⟨rfl, hb2⟩
        have HB2 := Lib.hid (HBw.out.trans (hb2.mono HBw.out.size))
        clear hb2 HRoot HSl2
        go_upto_region 9 with (refine wpList_store_row rfl 30 (.tmp 6) (.tmp 27) rfl W2.heap.size (bs X) rfl rfl 30 _ (Blk.new W2 _ _) HSX.out (by rw [bs_size, HX.out]; rfl) (bs_one _) ?_)
        obtain ⟨g6, hg6⟩ : ∃ g, g = W2.heap.size := ⟨_, rfl⟩
        have h2s := HB2.out.size
        refine world_cut (fun W => Blk W g6 30 (bs X) ∧ Below w.heap.size w W) ⟨by rw [hg6]; exact Blk.row (Blk.new W2 _ _) _, below_setRow (HB2.out.alloc h2s _) _ _ h2s⟩ ?_
        rw [← hg6]
        clear hg6 h2s HB2 HBw
        rintro Wb ⟨h6, hbb⟩
        have HF6 := Lib.hid h6
        have HBb := Lib.hid hbb
        clear h6 hbb
        have hstart2 : PbAt N Wb (.int .i64 0) Wb := ⟨0, Nat.zero_le _, rfl, Below.refl _ _⟩
        have HStart2 := Lib.hid hstart2
        clear hstart2
        go_wp2
        obtain ⟨wo, rfl⟩ : ∃ wo : World, wo = wr := ⟨_, rfl⟩
        go_loopw [7] (fun s7 wr => PbAt N Wb s7 wr) (fun s7 _ => N - (intOf s7).toNat)
        case atStart => exact HStart2.out
        case round =>
          obtain ⟨i, hiN, rfl, hbi⟩ := hrel
          have HBi := Lib.hid hbi
          clear hbi HStart2
          by_cases hi : i < N
          · have hi64 : i < 18446744073709551616 := by omega
            have hiq : i < q := by omega
            obtain ⟨x, hx⟩ : ∃ x, hs2[i]? = some x := ⟨hs2[i]'(by have := HL.out; omega), List.getElem?_eq_getElem _⟩
            have hx32 := HV.out.all.get hx
            have hbi' : Below w.heap.size w wr := HBb.out.trans (HBi.out.mono HBb.out.size)
            obtain ⟨P, hP⟩ : ∃ P, P = proveP n (hs2.take N) i := ⟨_, rfl⟩
            have hPl : P.length = sizeP i N := by rw [hP]; exact proveP_length n N _ i HTl.out hi
            have hpr : proveR n hs2 (i : Int) (N : Int) = (P, 0) := by
              rw [proveR, if_neg (by rw [HL.out]; omega), hP]
              simp
            have hcl : climbR n x i N P = (X, 0) := by
              rw [climbR, if_neg (by omega), if_neg (by omega), if_neg (by omega), hP, HXd.out]
              refine congrArg (·, 0) (climb_prove n N (hs2.take N) i x HTl.out ?_)
              rw [List.getElem?_take, if_pos hi]
              exact hx
            have HProve := Lib.hid (HP.out.prove n hs2 (i : Int) (N : Int) (.slice (some ad) q c) wr HN.out (by unfold I64; omega) (by unfold I64; omega) (by rw [HL.out]; omega) (HV.out.below (Nat.le_refl _) hbi') (HT.out.below (Nat.le_refl _) hbi'))
            rw [hpr] at HProve
            have HPl := Lib.hid hPl
            have HCl := Lib.hid hcl
            have HXx := Lib.hid hx
            have HX32 := Lib.hid hx32
            have HBi' := Lib.hid hbi'
            clear hx hx32 hbi' hP hPl hpr hcl
            go_wp2_with fail
            refine HProve.out.mono ?_
            rintro e W3 ⟨u, rfl, hu, hb3⟩
            obtain ⟨pa, pc, rfl, hpc⟩ := hu.form
            obtain ⟨p, hp⟩ : ∃ p, p = P.length := ⟨_, rfl⟩
            rw [← hp] at hu hpc ⊢
            have hp64 : p ≤ 64 := by rw [hp, HPl.out]; exact sizeP_64 i N hN64
            have HB3 := Lib.hid (HBi'.out.trans (hb3.mono HBi'.out.size))
            have HBi3 := Lib.hid (HBi.out.trans (hb3.mono HBi.out.size))
            have HBk3 := Lib.hid ((HF6.out.keep HBi.out).keep hb3)
            have HSize := Lib.hid (fun (W : World) => HP.out.size i N W hi64 hN64)
            rw [← HPl.out, ← hp] at HSize
            have HCheck : Hid (∀ W : World, Below W3.heap.size W3 W → Calls Tryd.prog 21 #[.int .i64 n, .agg (bs x), .int .u64 (i : Int), .int .u64 (N : Int), .slice pa p pc, .agg (bs X)] W fun e w' => e = .returned (.bool true) ∧ Below W.heap.size W w') := Lib.hid fun W hW => by
              have := HP.out.check n x i N P (.slice pa p pc) X W HN.out HX32.out HX.out hi64 hN64 (hu.below (Nat.le_refl _) hW) (by rw [← hp]; omega) ((HT.out.below (Nat.le_refl _) HB3.out).below (Nat.le_refl _) hW)
              rwa [HCl.out, show decide ((X, 0).2 = 0 ∧ (X, 0).1 = X) = true by simp] at this
            have HLd := Lib.hid (fun (W : World) (hW : Below W3.heap.size W3 W) => load_hash W (ad.add (i * 32)) x HX32.out fun j u hj => by
              obtain ⟨ad2, e, h⟩ := (HV.out.below (Nat.le_refl _) (HB3.out.trans (hW.mono HB3.out.size))).load HXx.out
              cases e
              exact h j u hj)
            clear hu hb3 hp hpc HProve
            go_upto_region 13 with fail
            have hG : ∀ W W' : World, Below W3.heap.size W3 W → Below W.heap.size W W' → Below W3.heap.size W3 W' := fun W W' h h' => h.trans (h'.mono h.size)
            refine region_by [(41, .is (.int .i64 0)), (42, .is (.bool false)), (43, .is (.bool false)), (44, .is (.slice pa p pc)), (45, .is (.int .i64 (p : Int))), (46, .is (.int .i64 (i : Int))), (47, .is (.int .u64 (i : Int))), (48, .is (.int .i64 (N : Int))), (49, .is (.int .u64 (N : Int))), (50, .is (.int .i64 (p : Int))), (51, .is (.bool false)), (52, .is (.bool false)), (53, .is (.bool false)), (54, .is (.int .i64 n)), (55, .is (.slice (some ad) q c)), (56, .is (.int .i64 (i : Int))), (57, .is (.pointer (some (ad.add (i * 32))))), (58, .is (.agg (bs x))), (59, .is (.int .i64 (i : Int))), (60, .is (.int .u64 (i : Int))), (61, .is (.int .i64 (N : Int))), (62, .is (.int .u64 (N : Int))), (63, .is (.slice pa p pc)), (64, .is (.agg (bs X))), (65, .is (.bool true)), (66, .is (.bool false)), (67, .is (.bool false))] [0, 1, 2, 3, 5, 6, 7, 10, 11, 12, 13, 14, 15, 16, 17, 18, 19, 20, 21, 22, 23, 24, 25, 26, 27, 67] (fun W => Below W3.heap.size W3 W) (by kernel_rfl) (by kernel_rfl) (by kernel_rfl) (by kernel_rfl) (by kernel_rfl) ((Below.refl _ _).drew) ?_ ?_
            · refine ⟨?c0, ?c1, ?c2, ?c3, ?c4, ?c5, ?c6, ?c7, ?c8, ?c9, ?c10, ?c11, ?c12, ?c13, ?c14, ?c15, ?c16, ?c17, ?c18, ?c19, ?c20, ?c21, ?c22, ?c23, ?c24, ?c25, ?c26, trivial⟩
              case c0 => exact ask_copy (guard_none rfl) (.tmp 9) (.inl rfl) (by intro k hk; cases hk; rfl)
              case c1 => exact ask_bin (guard_none rfl) .neq _ _ (.tmp 41) (.const (.int .i64 0)) (.int .i64 0) (.int .i64 0) (.bool false) rfl rfl rfl (by intro k hk; cases hk; rfl) (neq_int _ _ _ _ _)
              case c2 => exact ask_copy (guard_none rfl) (.tmp 42) (.inl rfl) (by intro k hk; cases hk; rfl)
              case c3 => exact ask_copy (guard_some rfl rfl rfl) (.tmp 8) (.inl rfl) (by intro k hk; cases hk; rfl)
              case c4 => exact ask_len (guard_some rfl rfl rfl) (.tmp 44) _ pa p pc rfl (by kernel_rfl) rfl (by intro k hk; cases hk; rfl)
              case c5 => exact ask_copy (guard_some rfl rfl rfl) (.tmp 7) (.inl rfl) (by intro k hk; cases hk; rfl)
              case c6 => exact ask_conv_iu (guard_some rfl rfl rfl) (.tmp 46) i hi64 rfl rfl (by intro k hk; cases hk; rfl)
              case c7 => exact ask_copy (guard_some rfl rfl rfl) (.tmp 5) (.inl rfl) (by intro k hk; cases hk; rfl)
              case c8 => exact ask_conv_iu (guard_some rfl rfl rfl) (.tmp 48) N hN64 rfl rfl (by intro k hk; cases hk; rfl)
              case c9 => exact ask_call hG (guard_some rfl rfl rfl) _ _ _ #[.int .u64 (i : Int), .int .u64 (N : Int)] (.is (.int .i64 (p : Int))) rfl (by kernel_rfl) rfl rfl (by intro k hk; cases hk; rfl) (fun W hW => (HSize.out W).mono fun e w' h => ⟨_, h.1, rfl, h.2⟩)
              case c10 => exact ask_bin (guard_some rfl rfl rfl) .neq _ _ (.tmp 45) (.tmp 50) (.int .i64 (p : Int)) (.int .i64 (p : Int)) (.bool false) rfl rfl rfl (by intro k hk; cases hk; rfl) (neq_int _ _ _ _ _)
              case c11 => exact ask_pick (guard_none rfl) (.tmp 43) (.const (.bool true)) (.tmp 51) false rfl rfl (by intro k hk; cases hk; rfl)
              case c12 => exact ask_copy (guard_none rfl) (.tmp 52) (.inl rfl) (by intro k hk; cases hk; rfl)
              case c13 => exact ask_copy (guard_some rfl rfl rfl) (.tmp 0) (.inl rfl) (by intro k hk; cases hk; rfl)
              case c14 => exact ask_copy (guard_some rfl rfl rfl) (.tmp 1) (.inl rfl) (by intro k hk; cases hk; rfl)
              case c15 => exact ask_copy (guard_some rfl rfl rfl) (.tmp 7) (.inl rfl) (by intro k hk; cases hk; rfl)
              case c16 => exact ask_idx (guard_some rfl rfl rfl) _ (.tmp 55) (.tmp 56) (.slice (some ad) q c) (.int .i64 (i : Int)) (.pointer (some (ad.add (i * 32)))) rfl rfl rfl (by intro k hk; cases hk; rfl) (fun W => hss_index W ad q c i hiq)
              case c17 => exact ask_load (guard_some rfl rfl rfl) _ (.tmp 57) (.pointer (some (ad.add (i * 32)))) (.agg (bs x)) rfl rfl (by intro k hk; cases hk; rfl) (fun W hW => HLd.out W hW)
              case c18 => exact ask_copy (guard_some rfl rfl rfl) (.tmp 7) (.inl rfl) (by intro k hk; cases hk; rfl)
              case c19 => exact ask_conv_iu (guard_some rfl rfl rfl) (.tmp 59) i hi64 rfl rfl (by intro k hk; cases hk; rfl)
              case c20 => exact ask_copy (guard_some rfl rfl rfl) (.tmp 5) (.inl rfl) (by intro k hk; cases hk; rfl)
              case c21 => exact ask_conv_iu (guard_some rfl rfl rfl) (.tmp 61) N hN64 rfl rfl (by intro k hk; cases hk; rfl)
              case c22 => exact ask_copy (guard_some rfl rfl rfl) (.tmp 8) (.inl rfl) (by intro k hk; cases hk; rfl)
              case c23 => exact ask_load (guard_some rfl rfl rfl) _ (.tmp 6) (.pointer (some ⟨g6, 0, none⟩)) (.agg (bs X)) rfl rfl (by intro k hk; cases hk; rfl) (fun W hW => (HBk3.out.keep hW).loads 30 _ Tryd.underlying30 rfl HSX.out)
              case c24 => exact ask_call hG (guard_some rfl rfl rfl) _ _ _ #[.int .i64 n, .agg (bs x), .int .u64 (i : Int), .int .u64 (N : Int), .slice pa p pc, .agg (bs X)] (.is (.bool true)) rfl (by kernel_rfl) rfl rfl (by intro k hk; cases hk; rfl) (fun W hW => (HCheck.out W hW).mono fun e w' h => ⟨_, h.1, rfl, h.2⟩)
              case c25 => exact ask_exec (guard_some rfl rfl rfl) (.bool false) rfl rfl (by intro k hk; cases hk; rfl) (fun W hW => by kernel_rfl)
              case c26 => exact ask_pick (guard_none rfl) (.tmp 53) (.const (.bool true)) (.tmp 66) false rfl rfl (by intro k hk; cases hk; rfl)
            · intro a' W hW hd' hs' hf'
              have t0 : a'.tmps.getD 0 undef = .int .i64 n := hf' 0 rfl
              have t1 : a'.tmps.getD 1 undef = .slice (some ad) q c := hf' 1 rfl
              have t2 : a'.tmps.getD 2 undef = undef := hf' 2 rfl
              have t3 : a'.tmps.getD 3 undef = undef := hf' 3 rfl
              have t5 : a'.tmps.getD 5 undef = .int .i64 (N : Int) := hf' 5 rfl
              have t6 : a'.tmps.getD 6 undef = .pointer (some ⟨g6, 0, none⟩) := hf' 6 rfl
              have t7 : a'.tmps.getD 7 undef = .int .i64 (i : Int) := hf' 7 rfl
              have t10 : a'.tmps.getD 10 undef = .bool true := hf' 10 rfl
              have t11 : a'.tmps.getD 11 undef = .bool false := hf' 11 rfl
              have t12 : a'.tmps.getD 12 undef = .slice (some ad) m c := hf' 12 rfl
              have t13 : a'.tmps.getD 13 undef = .int .i64 (m : Int) := hf' 13 rfl
              have t14 : a'.tmps.getD 14 undef = .bool z14 := hf' 14 rfl
              have t15 : a'.tmps.getD 15 undef = .slice (some ad) m c := hf' 15 rfl
              have t16 : a'.tmps.getD 16 undef = .slice (some ad) q c := hf' 16 rfl
              have t17 : a'.tmps.getD 17 undef = .int .i64 (N : Int) := hf' 17 rfl
              have t18 : a'.tmps.getD 18 undef = .slice (some ad) q c := hf' 18 rfl
              have t19 : a'.tmps.getD 19 undef = .int .i64 (q : Int) := hf' 19 rfl
              have t20 : a'.tmps.getD 20 undef = .bool true := hf' 20 rfl
              have t21 : a'.tmps.getD 21 undef = u21 := hf' 21 rfl
              have t22 : a'.tmps.getD 22 undef = u22 := hf' 22 rfl
              have t23 : a'.tmps.getD 23 undef = .int .i64 n := hf' 23 rfl
              have t24 : a'.tmps.getD 24 undef = .slice (some ad) q c := hf' 24 rfl
              have t25 : a'.tmps.getD 25 undef = .int .i64 (N : Int) := hf' 25 rfl
              have t26 : a'.tmps.getD 26 undef = .slice (some ad) N c := hf' 26 rfl
              have t27 : a'.tmps.getD 27 undef = .agg (bs X) := hf' 27 rfl
              have t67 : a'.tmps.getD 67 undef = .bool false := hf' 67 rfl
              obtain ⟨us', hus, ha'⟩ := act_open 68 a' hs' hd'
              rw [← hus] at t0 t1 t2 t3 t5 t6 t7 t10 t11 t12 t13 t14 t15 t16 t17 t18 t19 t20 t21 t22 t23 t24 t25 t26 t27 t67
              have el : ((List.range 68).map us').toArray = #[.int .i64 n, .slice (some ad) q c, undef, undef, us' 4, .int .i64 (N : Int), .pointer (some ⟨g6, 0, none⟩), .int .i64 (i : Int), us' 8, us' 9, .bool true, .bool false, .slice (some ad) m c, .int .i64 (m : Int), .bool z14, .slice (some ad) m c, .slice (some ad) q c, .int .i64 (N : Int), .slice (some ad) q c, .int .i64 (q : Int), .bool true, u21, u22, .int .i64 n, .slice (some ad) q c, .int .i64 (N : Int), .slice (some ad) N c, .agg (bs X), us' 28, us' 29, us' 30, us' 31, us' 32, us' 33, us' 34, us' 35, us' 36, us' 37, us' 38, us' 39, us' 40, us' 41, us' 42, us' 43, us' 44, us' 45, us' 46, us' 47, us' 48, us' 49, us' 50, us' 51, us' 52, us' 53, us' 54, us' 55, us' 56, us' 57, us' 58, us' 59, us' 60, us' 61, us' 62, us' 63, us' 64, us' 65, us' 66, .bool false] := by
                show #[us' 0, us' 1, us' 2, us' 3, us' 4, us' 5, us' 6, us' 7, us' 8, us' 9, us' 10, us' 11, us' 12, us' 13, us' 14, us' 15, us' 16, us' 17, us' 18, us' 19, us' 20, us' 21, us' 22, us' 23, us' 24, us' 25, us' 26, us' 27, us' 28, us' 29, us' 30, us' 31, us' 32, us' 33, us' 34, us' 35, us' 36, us' 37, us' 38, us' 39, us' 40, us' 41, us' 42, us' 43, us' 44, us' 45, us' 46, us' 47, us' 48, us' 49, us' 50, us' 51, us' 52, us' 53, us' 54, us' 55, us' 56, us' 57, us' 58, us' 59, us' 60, us' 61, us' 62, us' 63, us' 64, us' 65, us' 66, us' 67] = _
                rw [t0, t1, t2, t3, t5, t6, t7, t10, t11, t12, t13, t14, t15, t16, t17, t18, t19, t20, t21, t22, t23, t24, t25, t26, t27, t67]
              rw [el] at ha'
              subst ha'
              clear hus t0 t1 t2 t3 t5 t6 t7 t10 t11 t12 t13 t14 t15 t16 t17 t18 t19 t20 t21 t22 t23 t24 t25 t26 t27 t67 el hf' hs' hd'
              have HWc := Lib.hid hW
              clear hW hG HSize HCheck HLd HBk3 HPl HCl HXx HX32
              go_wp2
              go_roundw
              case rel => exact ⟨i + 1, by omega, by simp, HBi3.out.trans (HWc.out.mono HBi3.out.size)⟩
              case measure => simp [intOf]; omega
          · obtain rfl : N = i := by omega
            have HBe := Lib.hid (HBb.out.trans (HBi.out.mono HBb.out.size))
            clear HBi HBb
            go_wp2
            go_roundw
            case rel => exact ⟨N + 1, by omega, by omega, by simp, HBe.out⟩
            case measure => simp [intOf]; omega
      · go_wp2
        go_ret
        exact ⟨rfl, HBw.out⟩
  · obtain ⟨q, hmq⟩ : ∃ q, q = m := ⟨_, rfl⟩
    rw [← hmq] at hv hc h40 hm ⊢
    have hq := hm
    have hq40 : q ≤ 40 := by omega
    clear hmq hm
    have HV := Lib.hid hv
    have HL := Lib.hid hq.symm
    clear hv hq ht hp hq0 hn
    go_enter Tryd.func5, Tryd.ntmps5
    go_wp2_with fail
    refine (awake15_any HP.out HQ.out _ HT.out).mono ?_
    rintro e W1 ⟨rfl, hb1⟩
    have HB1 := Lib.hid hb1
    clear hb1
    go_upto_region 6 with fail
    generalize decide (40 < (q : Int)) = z14
    refine world_cut (fun W => Below w.heap.size w W) HB1.out ?_
    clear HB1
    intro W1' hW1
    have hstart : PaAt q w (.int .i64 1) W1' := ⟨1, Nat.le_refl _, by omega, rfl, hW1⟩
    have HStart := Lib.hid hstart
    clear hstart hW1
    go_wp2
    go_loopw [5] (fun s5 wr => PaAt q w s5 wr) (fun s5 _ => q + 1 - (intOf s5).toNat)
    case atStart => exact HStart.out
    case round =>
      obtain ⟨N, hN1, hNq, rfl, hbw⟩ := hrel
      have HBw := Lib.hid hbw
      clear hbw HStart
      by_cases hlt : N ≤ q
      · have hN64 : N < 18446744073709551616 := by omega
        obtain ⟨y0, hy0⟩ : ∃ y, hs[0]? = some y := ⟨hs[0]'(by have := HL.out; omega), List.getElem?_eq_getElem _⟩
        obtain ⟨ad, rfl, -⟩ := HV.out.load hy0
        have htl : (hs.take N).length = N := by rw [List.length_take, HL.out]; omega
        have hv1 : Hss w (.slice (some ad) N c) (hs.take N) := by
          have := HV.out.sub 0 N (by omega) (by omega)
          rw [sliced_zero] at this
          simpa using this
        obtain ⟨X, hX, hX32⟩ : ∃ X, X = rootH n (hs.take N) ∧ X.length = 32 := ⟨_, rfl, rootH_length _ _ hv1.all⟩
        have HRoot := Lib.hid (fun (W : World) (hW : Below w.heap.size w W) => HQ.out.root n (hs.take N) (.slice (some ad) N c) W HN.out (hv1.below (Nat.le_refl _) hW) (by rw [htl]; omega) (HT.out.below (Nat.le_refl _) hW))
        rw [← hX] at HRoot
        have HXd := Lib.hid hX
        have HX := Lib.hid hX32
        have HSX := Lib.hid (size_hash (cs := bs X) (by rw [bs_size, hX32]))
        have HTl := Lib.hid htl
        have HSl2 := Lib.hid (fun (W : World) => show (Instr.sliceAt 22 (.slice (some ad) q c) none (some (.int .i64 (N : Int))) none).run Tryd.prog W = .ok (.slice (some ad) N c) W by rw [slice_hs_to (some ad) q c N (by omega) W, sliced_zero])
        clear hX hX32 htl hv1 hy0
        go_wp2_with (refine wpList_slice_by rfl 22 (.tmp 24) none (some (.tmp 25)) rfl (.slice (some ad) q c) (.slice (some ad) N c) none (some (.int .i64 (N : Int))) rfl rfl rfl (HSl2.out _) ?_)
        refine (HRoot.out _ HBw.out).mono ?_
        rintro e W2 ⟨rfl, hb2⟩
        have HB2 := Lib.hid (HBw.out.trans (hb2.mono HBw.out.size))
        clear hb2 HRoot HSl2
        go_upto_region 9 with (refine wpList_store_row rfl 30 (.tmp 6) (.tmp 27) rfl W2.heap.size (bs X) rfl rfl 30 _ (Blk.new W2 _ _) HSX.out (by rw [bs_size, HX.out]; rfl) (bs_one _) ?_)
        obtain ⟨g6, hg6⟩ : ∃ g, g = W2.heap.size := ⟨_, rfl⟩
        have h2s := HB2.out.size
        refine world_cut (fun W => Blk W g6 30 (bs X) ∧ Below w.heap.size w W) ⟨by rw [hg6]; exact Blk.row (Blk.new W2 _ _) _, below_setRow (HB2.out.alloc h2s _) _ _ h2s⟩ ?_
        rw [← hg6]
        clear hg6 h2s HB2 HBw
        rintro Wb ⟨h6, hbb⟩
        have HF6 := Lib.hid h6
        have HBb := Lib.hid hbb
        clear h6 hbb
        have hstart2 : PbAt N Wb (.int .i64 0) Wb := ⟨0, Nat.zero_le _, rfl, Below.refl _ _⟩
        have HStart2 := Lib.hid hstart2
        clear hstart2
        go_wp2
        obtain ⟨wo, rfl⟩ : ∃ wo : World, wo = wr := ⟨_, rfl⟩
        go_loopw [7] (fun s7 wr => PbAt N Wb s7 wr) (fun s7 _ => N - (intOf s7).toNat)
        case atStart => exact HStart2.out
        case round =>
          obtain ⟨i, hiN, rfl, hbi⟩ := hrel
          have HBi := Lib.hid hbi
          clear hbi HStart2
          by_cases hi : i < N
          · have hi64 : i < 18446744073709551616 := by omega
            have hiq : i < q := by omega
            obtain ⟨x, hx⟩ : ∃ x, hs[i]? = some x := ⟨hs[i]'(by have := HL.out; omega), List.getElem?_eq_getElem _⟩
            have hx32 := HV.out.all.get hx
            have hbi' : Below w.heap.size w wr := HBb.out.trans (HBi.out.mono HBb.out.size)
            obtain ⟨P, hP⟩ : ∃ P, P = proveP n (hs.take N) i := ⟨_, rfl⟩
            have hPl : P.length = sizeP i N := by rw [hP]; exact proveP_length n N _ i HTl.out hi
            have hpr : proveR n hs (i : Int) (N : Int) = (P, 0) := by
              rw [proveR, if_neg (by rw [HL.out]; omega), hP]
              simp
            have hcl : climbR n x i N P = (X, 0) := by
              rw [climbR, if_neg (by omega), if_neg (by omega), if_neg (by omega), hP, HXd.out]
              refine congrArg (·, 0) (climb_prove n N (hs.take N) i x HTl.out ?_)
              rw [List.getElem?_take, if_pos hi]
              exact hx
            have HProve := Lib.hid (HP.out.prove n hs (i : Int) (N : Int) (.slice (some ad) q c) wr HN.out (by unfold I64; omega) (by unfold I64; omega) (by rw [HL.out]; omega) (HV.out.below (Nat.le_refl _) hbi') (HT.out.below (Nat.le_refl _) hbi'))
            rw [hpr] at HProve
            have HPl := Lib.hid hPl
            have HCl := Lib.hid hcl
            have HXx := Lib.hid hx
            have HX32 := Lib.hid hx32
            have HBi' := Lib.hid hbi'
            clear hx hx32 hbi' hP hPl hpr hcl
            go_wp2_with fail
            refine HProve.out.mono ?_
            rintro e W3 ⟨u, rfl, hu, hb3⟩
            obtain ⟨pa, pc, rfl, hpc⟩ := hu.form
            obtain ⟨p, hp⟩ : ∃ p, p = P.length := ⟨_, rfl⟩
            rw [← hp] at hu hpc ⊢
            have hp64 : p ≤ 64 := by rw [hp, HPl.out]; exact sizeP_64 i N hN64
            have HB3 := Lib.hid (HBi'.out.trans (hb3.mono HBi'.out.size))
            have HBi3 := Lib.hid (HBi.out.trans (hb3.mono HBi.out.size))
            have HBk3 := Lib.hid ((HF6.out.keep HBi.out).keep hb3)
            have HSize := Lib.hid (fun (W : World) => HP.out.size i N W hi64 hN64)
            rw [← HPl.out, ← hp] at HSize
            have HCheck : Hid (∀ W : World, Below W3.heap.size W3 W → Calls Tryd.prog 21 #[.int .i64 n, .agg (bs x), .int .u64 (i : Int), .int .u64 (N : Int), .slice pa p pc, .agg (bs X)] W fun e w' => e = .returned (.bool true) ∧ Below W.heap.size W w') := Lib.hid fun W hW => by
              have := HP.out.check n x i N P (.slice pa p pc) X W HN.out HX32.out HX.out hi64 hN64 (hu.below (Nat.le_refl _) hW) (by rw [← hp]; omega) ((HT.out.below (Nat.le_refl _) HB3.out).below (Nat.le_refl _) hW)
              rwa [HCl.out, show decide ((X, 0).2 = 0 ∧ (X, 0).1 = X) = true by simp] at this
            have HLd := Lib.hid (fun (W : World) (hW : Below W3.heap.size W3 W) => load_hash W (ad.add (i * 32)) x HX32.out fun j u hj => by
              obtain ⟨ad2, e, h⟩ := (HV.out.below (Nat.le_refl _) (HB3.out.trans (hW.mono HB3.out.size))).load HXx.out
              cases e
              exact h j u hj)
            clear hu hb3 hp hpc HProve
            go_upto_region 13 with fail
            have hG : ∀ W W' : World, Below W3.heap.size W3 W → Below W.heap.size W W' → Below W3.heap.size W3 W' := fun W W' h h' => h.trans (h'.mono h.size)
            refine region_by [(41, .is (.int .i64 0)), (42, .is (.bool false)), (43, .is (.bool false)), (44, .is (.slice pa p pc)), (45, .is (.int .i64 (p : Int))), (46, .is (.int .i64 (i : Int))), (47, .is (.int .u64 (i : Int))), (48, .is (.int .i64 (N : Int))), (49, .is (.int .u64 (N : Int))), (50, .is (.int .i64 (p : Int))), (51, .is (.bool false)), (52, .is (.bool false)), (53, .is (.bool false)), (54, .is (.int .i64 n)), (55, .is (.slice (some ad) q c)), (56, .is (.int .i64 (i : Int))), (57, .is (.pointer (some (ad.add (i * 32))))), (58, .is (.agg (bs x))), (59, .is (.int .i64 (i : Int))), (60, .is (.int .u64 (i : Int))), (61, .is (.int .i64 (N : Int))), (62, .is (.int .u64 (N : Int))), (63, .is (.slice pa p pc)), (64, .is (.agg (bs X))), (65, .is (.bool true)), (66, .is (.bool false)), (67, .is (.bool false))] [0, 1, 2, 3, 5, 6, 7, 10, 11, 12, 13, 14, 15, 16, 17, 18, 19, 20, 21, 22, 23, 24, 25, 26, 27, 67] (fun W => Below W3.heap.size W3 W) (by kernel_rfl) (by kernel_rfl) (by kernel_rfl) (by kernel_rfl) (by kernel_rfl) ((Below.refl _ _).drew) ?_ ?_
            · refine ⟨?c0, ?c1, ?c2, ?c3, ?c4, ?c5, ?c6, ?c7, ?c8, ?c9, ?c10, ?c11, ?c12, ?c13, ?c14, ?c15, ?c16, ?c17, ?c18, ?c19, ?c20, ?c21, ?c22, ?c23, ?c24, ?c25, ?c26, trivial⟩
              case c0 => exact ask_copy (guard_none rfl) (.tmp 9) (.inl rfl) (by intro k hk; cases hk; rfl)
              case c1 => exact ask_bin (guard_none rfl) .neq _ _ (.tmp 41) (.const (.int .i64 0)) (.int .i64 0) (.int .i64 0) (.bool false) rfl rfl rfl (by intro k hk; cases hk; rfl) (neq_int _ _ _ _ _)
              case c2 => exact ask_copy (guard_none rfl) (.tmp 42) (.inl rfl) (by intro k hk; cases hk; rfl)
              case c3 => exact ask_copy (guard_some rfl rfl rfl) (.tmp 8) (.inl rfl) (by intro k hk; cases hk; rfl)
              case c4 => exact ask_len (guard_some rfl rfl rfl) (.tmp 44) _ pa p pc rfl (by kernel_rfl) rfl (by intro k hk; cases hk; rfl)
              case c5 => exact ask_copy (guard_some rfl rfl rfl) (.tmp 7) (.inl rfl) (by intro k hk; cases hk; rfl)
              case c6 => exact ask_conv_iu (guard_some rfl rfl rfl) (.tmp 46) i hi64 rfl rfl (by intro k hk; cases hk; rfl)
              case c7 => exact ask_copy (guard_some rfl rfl rfl) (.tmp 5) (.inl rfl) (by intro k hk; cases hk; rfl)
              case c8 => exact ask_conv_iu (guard_some rfl rfl rfl) (.tmp 48) N hN64 rfl rfl (by intro k hk; cases hk; rfl)
              case c9 => exact ask_call hG (guard_some rfl rfl rfl) _ _ _ #[.int .u64 (i : Int), .int .u64 (N : Int)] (.is (.int .i64 (p : Int))) rfl (by kernel_rfl) rfl rfl (by intro k hk; cases hk; rfl) (fun W hW => (HSize.out W).mono fun e w' h => ⟨_, h.1, rfl, h.2⟩)
              case c10 => exact ask_bin (guard_some rfl rfl rfl) .neq _ _ (.tmp 45) (.tmp 50) (.int .i64 (p : Int)) (.int .i64 (p : Int)) (.bool false) rfl rfl rfl (by intro k hk; cases hk; rfl) (neq_int _ _ _ _ _)
              case c11 => exact ask_pick (guard_none rfl) (.tmp 43) (.const (.bool true)) (.tmp 51) false rfl rfl (by intro k hk; cases hk; rfl)
              case c12 => exact ask_copy (guard_none rfl) (.tmp 52) (.inl rfl) (by intro k hk; cases hk; rfl)
              case c13 => exact ask_copy (guard_some rfl rfl rfl) (.tmp 0) (.inl rfl) (by intro k hk; cases hk; rfl)
              case c14 => exact ask_copy (guard_some rfl rfl rfl) (.tmp 1) (.inl rfl) (by intro k hk; cases hk; rfl)
              case c15 => exact ask_copy (guard_some rfl rfl rfl) (.tmp 7) (.inl rfl) (by intro k hk; cases hk; rfl)
              case c16 => exact ask_idx (guard_some rfl rfl rfl) _ (.tmp 55) (.tmp 56) (.slice (some ad) q c) (.int .i64 (i : Int)) (.pointer (some (ad.add (i * 32)))) rfl rfl rfl (by intro k hk; cases hk; rfl) (fun W => hss_index W ad q c i hiq)
              case c17 => exact ask_load (guard_some rfl rfl rfl) _ (.tmp 57) (.pointer (some (ad.add (i * 32)))) (.agg (bs x)) rfl rfl (by intro k hk; cases hk; rfl) (fun W hW => HLd.out W hW)
              case c18 => exact ask_copy (guard_some rfl rfl rfl) (.tmp 7) (.inl rfl) (by intro k hk; cases hk; rfl)
              case c19 => exact ask_conv_iu (guard_some rfl rfl rfl) (.tmp 59) i hi64 rfl rfl (by intro k hk; cases hk; rfl)
              case c20 => exact ask_copy (guard_some rfl rfl rfl) (.tmp 5) (.inl rfl) (by intro k hk; cases hk; rfl)
              case c21 => exact ask_conv_iu (guard_some rfl rfl rfl) (.tmp 61) N hN64 rfl rfl (by intro k hk; cases hk; rfl)
              case c22 => exact ask_copy (guard_some rfl rfl rfl) (.tmp 8) (.inl rfl) (by intro k hk; cases hk; rfl)
              case c23 => exact ask_load (guard_some rfl rfl rfl) _ (.tmp 6) (.pointer (some ⟨g6, 0, none⟩)) (.agg (bs X)) rfl rfl (by intro k hk; cases hk; rfl) (fun W hW => (HBk3.out.keep hW).loads 30 _ Tryd.underlying30 rfl HSX.out)
              case c24 => exact ask_call hG (guard_some rfl rfl rfl) _ _ _ #[.int .i64 n, .agg (bs x), .int .u64 (i : Int), .int .u64 (N : Int), .slice pa p pc, .agg (bs X)] (.is (.bool true)) rfl (by kernel_rfl) rfl rfl (by intro k hk; cases hk; rfl) (fun W hW => (HCheck.out W hW).mono fun e w' h => ⟨_, h.1, rfl, h.2⟩)
              case c25 => exact ask_exec (guard_some rfl rfl rfl) (.bool false) rfl rfl (by intro k hk; cases hk; rfl) (fun W hW => by kernel_rfl)
              case c26 => exact ask_pick (guard_none rfl) (.tmp 53) (.const (.bool true)) (.tmp 66) false rfl rfl (by intro k hk; cases hk; rfl)
            · intro a' W hW hd' hs' hf'
              have t0 : a'.tmps.getD 0 undef = .int .i64 n := hf' 0 rfl
              have t1 : a'.tmps.getD 1 undef = .slice (some ad) q c := hf' 1 rfl
              have t2 : a'.tmps.getD 2 undef = undef := hf' 2 rfl
              have t3 : a'.tmps.getD 3 undef = undef := hf' 3 rfl
              have t5 : a'.tmps.getD 5 undef = .int .i64 (N : Int) := hf' 5 rfl
              have t6 : a'.tmps.getD 6 undef = .pointer (some ⟨g6, 0, none⟩) := hf' 6 rfl
              have t7 : a'.tmps.getD 7 undef = .int .i64 (i : Int) := hf' 7 rfl
              have t10 : a'.tmps.getD 10 undef = .bool true := hf' 10 rfl
              have t11 : a'.tmps.getD 11 undef = .bool false := hf' 11 rfl
              have t12 : a'.tmps.getD 12 undef = .slice (some ad) q c := hf' 12 rfl
              have t13 : a'.tmps.getD 13 undef = .int .i64 (q : Int) := hf' 13 rfl
              have t14 : a'.tmps.getD 14 undef = .bool z14 := hf' 14 rfl
              have t15 : a'.tmps.getD 15 undef = undef := hf' 15 rfl
              have t16 : a'.tmps.getD 16 undef = undef := hf' 16 rfl
              have t17 : a'.tmps.getD 17 undef = .int .i64 (N : Int) := hf' 17 rfl
              have t18 : a'.tmps.getD 18 undef = .slice (some ad) q c := hf' 18 rfl
              have t19 : a'.tmps.getD 19 undef = .int .i64 (q : Int) := hf' 19 rfl
              have t20 : a'.tmps.getD 20 undef = .bool true := hf' 20 rfl
              have t21 : a'.tmps.getD 21 undef = u21 := hf' 21 rfl
              have t22 : a'.tmps.getD 22 undef = u22 := hf' 22 rfl
              have t23 : a'.tmps.getD 23 undef = .int .i64 n := hf' 23 rfl
              have t24 : a'.tmps.getD 24 undef = .slice (some ad) q c := hf' 24 rfl
              have t25 : a'.tmps.getD 25 undef = .int .i64 (N : Int) := hf' 25 rfl
              have t26 : a'.tmps.getD 26 undef = .slice (some ad) N c := hf' 26 rfl
              have t27 : a'.tmps.getD 27 undef = .agg (bs X) := hf' 27 rfl
              have t67 : a'.tmps.getD 67 undef = .bool false := hf' 67 rfl
              obtain ⟨us', hus, ha'⟩ := act_open 68 a' hs' hd'
              rw [← hus] at t0 t1 t2 t3 t5 t6 t7 t10 t11 t12 t13 t14 t15 t16 t17 t18 t19 t20 t21 t22 t23 t24 t25 t26 t27 t67
              have el : ((List.range 68).map us').toArray = #[.int .i64 n, .slice (some ad) q c, undef, undef, us' 4, .int .i64 (N : Int), .pointer (some ⟨g6, 0, none⟩), .int .i64 (i : Int), us' 8, us' 9, .bool true, .bool false, .slice (some ad) q c, .int .i64 (q : Int), .bool z14, undef, undef, .int .i64 (N : Int), .slice (some ad) q c, .int .i64 (q : Int), .bool true, u21, u22, .int .i64 n, .slice (some ad) q c, .int .i64 (N : Int), .slice (some ad) N c, .agg (bs X), us' 28, us' 29, us' 30, us' 31, us' 32, us' 33, us' 34, us' 35, us' 36, us' 37, us' 38, us' 39, us' 40, us' 41, us' 42, us' 43, us' 44, us' 45, us' 46, us' 47, us' 48, us' 49, us' 50, us' 51, us' 52, us' 53, us' 54, us' 55, us' 56, us' 57, us' 58, us' 59, us' 60, us' 61, us' 62, us' 63, us' 64, us' 65, us' 66, .bool false] := by
                show #[us' 0, us' 1, us' 2, us' 3, us' 4, us' 5, us' 6, us' 7, us' 8, us' 9, us' 10, us' 11, us' 12, us' 13, us' 14, us' 15, us' 16, us' 17, us' 18, us' 19, us' 20, us' 21, us' 22, us' 23, us' 24, us' 25, us' 26, us' 27, us' 28, us' 29, us' 30, us' 31, us' 32, us' 33, us' 34, us' 35, us' 36, us' 37, us' 38, us' 39, us' 40, us' 41, us' 42, us' 43, us' 44, us' 45, us' 46, us' 47, us' 48, us' 49, us' 50, us' 51, us' 52, us' 53, us' 54, us' 55, us' 56, us' 57, us' 58, us' 59, us' 60, us' 61, us' 62, us' 63, us' 64, us' 65, us' 66, us' 67] = _
                rw [t0, t1, t2, t3, t5, t6, t7, t10, t11, t12, t13, t14, t15, t16, t17, t18, t19, t20, t21, t22, t23, t24, t25, t26, t27, t67]
              rw [el] at ha'
              subst ha'
              clear hus t0 t1 t2 t3 t5 t6 t7 t10 t11 t12 t13 t14 t15 t16 t17 t18 t19 t20 t21 t22 t23 t24 t25 t26 t27 t67 el hf' hs' hd'
              have HWc := Lib.hid hW
              clear hW hG HSize HCheck HLd HBk3 HPl HCl HXx HX32
              go_wp2
              go_roundw
              case rel => exact ⟨i + 1, by omega, by simp, HBi3.out.trans (HWc.out.mono HBi3.out.size)⟩
              case measure => simp [intOf]; omega
          · obtain rfl : N = i := by omega
            have HBe := Lib.hid (HBb.out.trans (HBi.out.mono HBb.out.size))
            clear HBi HBb
            go_wp2
            go_roundw
            case rel => exact ⟨N + 1, by omega, by omega, by simp, HBe.out⟩
            case measure => simp [intOf]; omega
      · go_wp2
        go_ret
        exact ⟨rfl, HBw.out⟩
end Go.Proofs.YtdhfabjkpffhnabDoor

/- PathLengths: the walk. -/
namespace Go.Proofs.YtdhfabjkpffhnabDoor
set_option maxRecDepth 20000
open Go.RowKit ShaMath LeafMath PathMath Reg

set_option maxHeartbeats 4000000 in
set_option maxRecDepth 100000 in
theorem pathLengths_walk (hp : PathProg) (hq0 : LeafProg) (n : Int) (hn : I64 n) (hs : List Hs) (v : Value) (i : Int) (mo : Hs) (hmo : mo.length = 32) (kk : Nat) (hkk : kk < 256) (w : World) (hv : Hss w v hs) (ht : Tabs w) :
    Calls Tryd.prog 6 #[.int .i64 n, v, .int .i64 i, .agg (bs mo), .int .u8 (kk : Int)] w fun e w' => e = .returned (.bool true) ∧ Below w.heap.size w w' := by
  obtain ⟨a, c, rfl, hc⟩ := hv.form
  obtain ⟨m, hm⟩ : ∃ m, m = hs.length := ⟨_, rfl⟩
  rw [← hm] at hv hc ⊢
  obtain ⟨cm, hcm, hcm1, hcmo⟩ := hash_cells mo hmo
  rw [← hcm]
  have HT := Lib.hid ht
  have HP := Lib.hid hp
  have HQ := Lib.hid hq0
  have HN := Lib.hid hn
  have HCm := Lib.hid hcm
  have HSm := Lib.hid (size_hash hcm1)
  have HMo := Lib.hid hmo
  by_cases h100 : 100 < m
  · obtain ⟨q, hq100⟩ : ∃ q, q = 100 := ⟨_, rfl⟩
    have hq : q ≤ 100 := by omega
    have hqm : q ≤ m := by omega
    have hv2 : Hss w (.slice a q c) (hs.take q) := by
      have := hv.sub 0 q (by omega) (by omega)
      rw [sliced_zero] at this
      simpa using this
    have hl2 : q = (hs.take q).length := by rw [List.length_take]; omega
    have hsl : ∀ W, (Instr.sliceAt 22 (.slice a m c) none (some (.int .i64 100)) none).run Tryd.prog W = .ok (.slice a q c) W := fun W => by
      have := slice_hs_to a m c 100 (by omega) W
      rw [sliced_zero] at this
      rw [hq100]
      exact this
    obtain ⟨gs, hgs⟩ : ∃ h, h = hs.take q := ⟨_, rfl⟩
    rw [← hgs] at hv2 hl2
    have HVg := Lib.hid hv2
    have HG := Lib.hid hl2
    have HSl := Lib.hid hsl
    have hq0 : ((q : Int) == 0) = false := by simp; omega
    have hqp : 0 < q := by omega
    clear hv hv2 hl2 hsl hgs hm ht hp hn hq100 hcm hcm1 hcmo hmo
    obtain ⟨J, hJ, hJq⟩ : ∃ J : Nat, wrap64 ((IntKind.u64.wrap i).tmod (q : Int)) = (J : Int) ∧ J < q := by
      have h1 : 0 ≤ IntKind.u64.wrap i := by rw [IntKind.wrap_u64]; omega
      generalize IntKind.u64.wrap i = z at h1 ⊢
      rw [Int.tmod_eq_emod_of_nonneg h1]
      have h2 := Int.emod_nonneg z (show (q : Int) ≠ 0 by omega)
      have h3 := Int.emod_lt_of_pos z (show (0 : Int) < (q : Int) by omega)
      generalize z % (q : Int) = r at h2 h3 ⊢
      exact ⟨r.toNat, by unfold wrap64; omega, by omega⟩
    obtain ⟨y, hy⟩ : ∃ y, gs[J]? = some y := ⟨gs[J]'(by have := HG.out; omega), List.getElem?_eq_getElem _⟩
    obtain ⟨ad, rfl, -⟩ := HVg.out.load hy
    have hy32 := HVg.out.all.get hy
    obtain ⟨cy, hcy, hcy1, hcyo⟩ := hash_cells y hy32
    obtain ⟨cz, hcz, hcz1, hczo⟩ := hash_cells z32 rfl
    have HLy := Lib.hid (fun (W : World) (hW : Below w.heap.size w W) => load_hash W (ad.add (J * 32)) y hy32 fun j u hj => by
      obtain ⟨ad2, e, h⟩ := (HVg.out.below (Nat.le_refl _) hW).load hy
      cases e
      exact h j u hj)
    rw [← hcy] at HLy
    obtain ⟨P, hP⟩ : ∃ P, P = proveP n gs J := ⟨_, rfl⟩
    have hPl : P.length = sizeP J q := by rw [hP]; exact proveP_length n q _ J HG.out.symm hJq
    have hP7 : P.length ≤ 7 := by rw [hPl]; exact sizeP_le 7 q J (by omega)
    have hpr : proveR n gs (J : Int) (q : Int) = (P, 0) := by
      rw [proveR, if_neg (by rw [← HG.out]; omega), hP]
      have e1 : gs.take q = gs := List.take_of_length_le (by rw [← HG.out]; exact Nat.le_refl _)
      simp [e1]
    have HProve := Lib.hid (fun (W : World) (hW : Below w.heap.size w W) => HP.out.prove n gs (J : Int) (q : Int) (.slice (some ad) q c) W HN.out (by unfold I64; omega) (by unfold I64; omega) (by rw [← HG.out]; omega) (HVg.out.below (Nat.le_refl _) hW) (HT.out.below (Nat.le_refl _) hW))
    rw [hpr] at HProve
    have hclong : climbR n y J q (P ++ [mo]) = (z32, 4) := by rw [climbR, if_neg (by omega), if_neg (by rw [List.length_append, hPl]; simp), if_pos (by rw [List.length_append, hPl]; simp)]
    have HLong := Lib.hid (fun (v : Value) (W : World) (hv : Hss W v (P ++ [mo])) (hW : Below w.heap.size w W) => HP.out.climb n y J q (P ++ [mo]) v W HN.out hy32 (by omega) (by omega) hv (by rw [List.length_append, List.length_singleton]; omega) (HT.out.below (Nat.le_refl _) hW))
    rw [hclong] at HLong
    simp only at HLong
    rw [← hcy, ← hcz] at HLong
    have HSz := Lib.hid (size_hash hcz1)
    have HZ1 := Lib.hid hcz1
    have HZo := Lib.hid hczo
    have HCy := Lib.hid hcy
    have HCz := Lib.hid hcz
    have HY32 := Lib.hid hy32
    have HJ := Lib.hid hJ
    have HPl := Lib.hid hP7
    have HPs := Lib.hid hPl
    clear hJ hy hy32 hcy hcy1 hcyo hcz hcz1 hczo hP hPl hP7 hpr hclong
    go_enter Tryd.func6, Tryd.ntmps6
    go_wp2_with fail
    have hb0 : Below w.heap.size w (w.alloc (.cells cm 30)) := (Below.refl _ _).alloc (Nat.le_refl _) _
    refine (awake15_any HP.out HQ.out _ (HT.out.below (Nat.le_refl _) hb0)).mono ?_
    rintro e W1 ⟨rfl, hb1⟩
    have HB1 := Lib.hid (hb0.trans (hb1.mono (by simp)))
    have HK1 := Lib.hid ((Blk.new w 30 cm).keep hb1)
    clear hb0 hb1
    have hsl := HSl.out
    clear HSl
    go_upto_region 5 with fail
    generalize decide (100 < (m : Int)) = z24
    clear hsl
    go_upto_region 8 with fail
    go_upto_region 9 with fail
    rw [HJ.out]
    go_wp2_with fail
    refine (HProve.out _ HB1.out).mono ?_
    rintro e W0 ⟨u, rfl, hu, hb2⟩
    obtain ⟨pa, pc, rfl, hpc⟩ := hu.form
    obtain ⟨p, hp⟩ : ∃ p, p = P.length := ⟨_, rfl⟩
    rw [← hp] at hu hpc ⊢
    have HU := Lib.hid hu
    have HPp := Lib.hid hp
    have HBx := Lib.hid (HB1.out.trans (hb2.mono HB1.out.size))
    have HK8 := Lib.hid (HK1.out.keep hb2)
    clear hu hp hb2 HB1 HK1 HProve HJ
    go_upto_region 10 with fail
    have hG : ∀ W W' : World, Below W0.heap.size W0 W → Below W.heap.size W W' → Below W0.heap.size W0 W' := fun W W' h h' => h.trans (h'.mono h.size)
    have hB : ∀ W : World, Below W0.heap.size W0 W → W0.heap.size ≤ W.heap.size := fun W h => h.size
    have hgr : ∀ (W W' : World) (row : Option Nat), Below W0.heap.size W0 W → W.grownBy W' row → (∀ k, row = some k → W0.heap.size ≤ k) → Below W0.heap.size W0 W' := fun W W' row hW hg hrow => hW.grown hg hW.size hrow
    refine region_fill_by 19 _ (fun _ => [(14, var32F W0.heap.size), (56, hlitF W0.heap.size), (58, row2F W0.heap.size P), (60, hssF [mo]), (61, ohsF W0.heap.size (P ++ [mo])), (48, .is (.int .i64 n)), (49, .is (.slice (some ad) q c)), (50, .is (.int .i64 (J : Int))), (51, .is (.pointer (some (ad.add (J * 32))))), (52, .is (.agg cy)), (53, .is (.int .i64 (J : Int))), (54, .is (.int .u64 (J : Int))), (55, .is (.int .u64 (q : Int))), (57, .is (.slice pa p pc)), (59, .is (.agg cm)), (62, .is (.tuple #[.agg cz, .int .i64 4])), (47, .is (.tuple #[.agg cz, .int .i64 4])), (63, .is (.agg cz)), (64, .is (.int .i64 4)), (15, .is (.int .i64 4))]) [0, 1, 2, 4, 8, 10, 11, 12, 13, 15] (fun W => Below W0.heap.size W0 W) (by kernel_rfl) (by kernel_rfl) (by kernel_rfl) (by kernel_rfl) (by kernel_rfl) ((Below.refl _ _).drew) rfl rfl ?_ ?_ ?_
    · refine ⟨?c0, ?c1, ?c2, ?c3, ?c4, ?c5, ?c6, ?c7, ?c8, ?c9, ?c10, ?c11, ?c12, ?c13, ?c14, ?c15, ?c16, ?c17, ?c18, ?c19, ?c20, trivial⟩
      case c0 => exact .inr (.inl fun b => ask_copy (guard_none rfl) (.tmp 0) (.inl rfl) (by intro k hk; cases hk; rfl))
      case c1 => exact .inr (.inl fun b => ask_copy (guard_none rfl) (.tmp 1) (.inl rfl) (by intro k hk; cases hk; rfl))
      case c2 => exact .inr (.inl fun b => ask_copy (guard_none rfl) (.tmp 2) (.inl rfl) (by intro k hk; cases hk; rfl))
      case c3 => exact .inr (.inl fun b => ask_idx (guard_none rfl) _ (.tmp 49) (.tmp 50) (.slice (some ad) q c) (.int .i64 (J : Int)) (.pointer (some (ad.add (J * 32)))) rfl rfl rfl (by intro k hk; cases hk; rfl) (fun W => hss_index W ad q c J hJq))
      case c4 => exact .inr (.inl fun b => ask_load (guard_none rfl) _ (.tmp 51) (.pointer (some (ad.add (J * 32)))) (.agg cy) rfl rfl (by intro k hk; cases hk; rfl) (fun W hW => HLy.out W (HBx.out.trans (hW.mono HBx.out.size))))
      case c5 => exact .inr (.inl fun b => ask_copy (guard_none rfl) (.tmp 2) (.inl rfl) (by intro k hk; cases hk; rfl))
      case c6 => exact .inr (.inl fun b => ask_conv_iu (guard_none rfl) (.tmp 53) J (by omega) rfl rfl (by intro k hk; cases hk; rfl))
      case c7 => exact .inr (.inl fun b => ask_copy (guard_none rfl) (.tmp 11) (.inl rfl) (by intro k hk; cases hk; rfl))
      case c8 => exact .inr (.inl fun b => ask_build_none hG (guard_none rfl) _ hB rfl (by intro k hk; cases hk; rfl))
      case c9 => exact .inr (.inl fun b => ask_copy (guard_none rfl) (.tmp 12) (.inl rfl) (by intro k hk; cases hk; rfl))
      case c10 => exact .inr (.inl fun b => ask_append_hlit2 hG (guard_none rfl) (.tmp 56) (.tmp 57) _ P rfl rfl rfl (fun x W hW hk => by
          have e : x 57 = .slice pa p pc := hk 57 rfl
          show Hss W (x 57) P
          rw [e]
          exact HU.out.below (Nat.le_refl _) hW) (by have := HPl.out; omega) (by intro k hk; cases hk; rfl))
      case c11 => exact .inr (.inl fun b => ask_load (guard_none rfl) _ (.tmp 8) (.pointer (some ⟨w.heap.size, 0, none⟩)) (.agg cm) rfl rfl (by intro k hk; cases hk; rfl) (fun W hW => (HK8.out.keep hW).loads 30 _ Tryd.underlying30 rfl HSm.out))
      case c12 => exact .inr (.inl fun b => ask_build_hash hG (guard_none rfl) _ mo cm HMo.out HCm.out rfl rfl (by intro k hk; cases hk; rfl))
      case c13 => exact .inr (.inl fun b => ask_append_fine [14] (by intro k hk; rw [List.mem_singleton.1 hk]; exact ⟨_, rfl⟩) (guard_none rfl) (by kernel_rfl) (.tmp 58) (.tmp 60) _ P [mo] rfl rfl rfl (fun x W hW hk => hk 60 rfl) (by simp) (by have := HPl.out; simp only [List.length_singleton]; omega) hB hgr (by intro k hk; cases hk; rfl))
      case c14 => exact .inr (.inl fun b => ask_call_by hG (guard_none rfl) _ _ _ (.is (.tuple #[.agg cz, .int .i64 4])) rfl (by kernel_rfl) (by intro k hk; cases hk; rfl) (fun x W hW hk => by
          have e1 : x 48 = .int .i64 n := hk 48 rfl
          have e2 : x 52 = .agg cy := hk 52 rfl
          have e3 : x 54 = .int .u64 (J : Int) := hk 54 rfl
          have e4 : x 55 = .int .u64 (q : Int) := hk 55 rfl
          have e5 : OHs W W0.heap.size (x 61) (P ++ [mo]) := hk 61 rfl
          show Calls _ _ #[x 48, x 52, x 54, x 55, x 61] W _
          rw [e1, e2, e3, e4]
          exact (HLong.out (x 61) W e5.hss (HBx.out.trans (hW.mono HBx.out.size))).mono fun e w' h => ⟨_, h.1, rfl, h.2⟩))
      case c15 => exact .inr (.inl fun b => ask_copy (guard_none rfl) (.tmp 62) (.inl rfl) (by intro k hk; cases hk; rfl))
      case c16 => exact .inr (.inl fun b => ask_exec (guard_none rfl) (.agg cz) rfl rfl (by intro k hk; cases hk; rfl) (fun W hW => rfl))
      case c17 => exact .inr (.inl fun b => ask_exec (guard_none rfl) (.int .i64 4) rfl rfl (by intro k hk; cases hk; rfl) (fun W hW => rfl))
      case c18 => exact .inr (.inl fun b => ask_alloc hG (guard_none rfl) _ (.agg (bs (List.replicate 32 0))) (var32F W0.heap.size) rfl (fun W => by kernel_rfl) (by intro k hk; cases hk; rfl) (fun W hW => ⟨_, _, rfl, hB W hW, Blk.new W _ _, rfl⟩))
      case c19 => exact .inl rfl
      case c20 => exact .inr (.inl fun b => ask_copy (guard_none rfl) (.tmp 64) (.inr rfl) (by intro k hk; cases hk; rfl))
    · intro x W hW hk
      obtain ⟨g, zs, e1, e2, e3, e30⟩ : ∃ g zs, x 14 = .pointer (some ⟨g, 0, none⟩) ∧ W0.heap.size ≤ g ∧ Blk W g 30 zs ∧ zs.size = 32 := hk 14 rfl
      have e4 : x 63 = .agg cz := hk 63 rfl
      refine ⟨guard_ok (guard_none rfl) hk, gives_store 30 (.tmp 14) (.tmp 63) rfl (.pointer (some ⟨g, 0, none⟩)) (.agg cz) e1 e4 (e3.stores 30 _ HSz.out (by rw [e30, HZ1.out]) HZo.out) ⟨below_setRow hW g _ e2, fun k hlv hu => ?_⟩⟩
      by_cases h14 : k = 14
      · subst h14
        exact ⟨g, _, e1, e2, e3.row _, HZ1.out⟩
      · by_cases h56 : k = 56
        · subst h56
          exact absurd (hlv.symm.trans (by kernel_rfl)) (by decide : ¬ (true = false))
        · by_cases h58 : k = 58
          · subst h58
            exact absurd (hlv.symm.trans (by kernel_rfl)) (by decide : ¬ (true = false))
          · by_cases h60 : k = 60
            · subst h60
              exact absurd (hlv.symm.trans (by kernel_rfl)) (by decide : ¬ (true = false))
            · by_cases h61 : k = 61
              · subst h61
                exact absurd (hlv.symm.trans (by kernel_rfl)) (by decide : ¬ (true = false))
              · simp only [factsOf_ne h14, factsOf_ne h56, factsOf_ne h58, factsOf_ne h60, factsOf_ne h61] at hu ⊢
                refine facts_keep (fun q hq u hu => ?_) k _ hu
                simp only [List.mem_cons, List.not_mem_nil, or_false] at hq
                rcases hq with rfl | rfl | rfl | rfl | rfl | rfl | rfl | rfl | rfl | rfl | rfl | rfl | rfl | rfl | rfl
                all_goals exact hu
    · intro a' W2 hW hd' hs' hf'
      have t0 : a'.tmps.getD 0 undef = .int .i64 n := hf' 0 rfl
      have t1 : a'.tmps.getD 1 undef = .slice (some ad) q c := hf' 1 rfl
      have t2 : a'.tmps.getD 2 undef = .int .i64 (J : Int) := hf' 2 rfl
      have t4 : a'.tmps.getD 4 undef = .int .u8 (kk : Int) := hf' 4 rfl
      have t8 : a'.tmps.getD 8 undef = .pointer (some ⟨w.heap.size, 0, none⟩) := hf' 8 rfl
      have t10 : a'.tmps.getD 10 undef = .bool false := hf' 10 rfl
      have t11 : a'.tmps.getD 11 undef = .int .u64 (q : Int) := hf' 11 rfl
      have t12 : a'.tmps.getD 12 undef = .slice pa p pc := hf' 12 rfl
      have t13 : a'.tmps.getD 13 undef = .int .i64 0 := hf' 13 rfl
      have t15 : a'.tmps.getD 15 undef = .int .i64 4 := hf' 15 rfl
      obtain ⟨usW2, hus, ha'⟩ := act_open 113 a' hs' hd'
      rw [← hus] at t0 t1 t2 t4 t8 t10 t11 t12 t13 t15
      have el : ((List.range 113).map usW2).toArray = #[.int .i64 n, .slice (some ad) q c, .int .i64 (J : Int), usW2 3, .int .u8 (kk : Int), usW2 5, usW2 6, usW2 7, .pointer (some ⟨w.heap.size, 0, none⟩), usW2 9, .bool false, .int .u64 (q : Int), .slice pa p pc, .int .i64 0, usW2 14, .int .i64 4, usW2 16, usW2 17, usW2 18, usW2 19, usW2 20, usW2 21, usW2 22, usW2 23, usW2 24, usW2 25, usW2 26, usW2 27, usW2 28, usW2 29, usW2 30, usW2 31, usW2 32, usW2 33, usW2 34, usW2 35, usW2 36, usW2 37, usW2 38, usW2 39, usW2 40, usW2 41, usW2 42, usW2 43, usW2 44, usW2 45, usW2 46, usW2 47, usW2 48, usW2 49, usW2 50, usW2 51, usW2 52, usW2 53, usW2 54, usW2 55, usW2 56, usW2 57, usW2 58, usW2 59, usW2 60, usW2 61, usW2 62, usW2 63, usW2 64, usW2 65, usW2 66, usW2 67, usW2 68, usW2 69, usW2 70, usW2 71, usW2 72, usW2 73, usW2 74, usW2 75, usW2 76, usW2 77, usW2 78, usW2 79, usW2 80, usW2 81, usW2 82, usW2 83, usW2 84, usW2 85, usW2 86, usW2 87, usW2 88, usW2 89, usW2 90, usW2 91, usW2 92, usW2 93, usW2 94, usW2 95, usW2 96, usW2 97, usW2 98, usW2 99, usW2 100, usW2 101, usW2 102, usW2 103, usW2 104, usW2 105, usW2 106, usW2 107, usW2 108, usW2 109, usW2 110, usW2 111, usW2 112] := by
        show #[usW2 0, usW2 1, usW2 2, usW2 3, usW2 4, usW2 5, usW2 6, usW2 7, usW2 8, usW2 9, usW2 10, usW2 11, usW2 12, usW2 13, usW2 14, usW2 15, usW2 16, usW2 17, usW2 18, usW2 19, usW2 20, usW2 21, usW2 22, usW2 23, usW2 24, usW2 25, usW2 26, usW2 27, usW2 28, usW2 29, usW2 30, usW2 31, usW2 32, usW2 33, usW2 34, usW2 35, usW2 36, usW2 37, usW2 38, usW2 39, usW2 40, usW2 41, usW2 42, usW2 43, usW2 44, usW2 45, usW2 46, usW2 47, usW2 48, usW2 49, usW2 50, usW2 51, usW2 52, usW2 53, usW2 54, usW2 55, usW2 56, usW2 57, usW2 58, usW2 59, usW2 60, usW2 61, usW2 62, usW2 63, usW2 64, usW2 65, usW2 66, usW2 67, usW2 68, usW2 69, usW2 70, usW2 71, usW2 72, usW2 73, usW2 74, usW2 75, usW2 76, usW2 77, usW2 78, usW2 79, usW2 80, usW2 81, usW2 82, usW2 83, usW2 84, usW2 85, usW2 86, usW2 87, usW2 88, usW2 89, usW2 90, usW2 91, usW2 92, usW2 93, usW2 94, usW2 95, usW2 96, usW2 97, usW2 98, usW2 99, usW2 100, usW2 101, usW2 102, usW2 103, usW2 104, usW2 105, usW2 106, usW2 107, usW2 108, usW2 109, usW2 110, usW2 111, usW2 112] = _
        rw [t0, t1, t2, t4, t8, t10, t11, t12, t13, t15]
      rw [el] at ha'
      subst ha'
      clear hus t0 t1 t2 t4 t8 t10 t11 t12 t13 t15 el hf' hs' hd'
      have HB2 := Lib.hid (HBx.out.trans (hW.mono HBx.out.size))
      have HU2 := Lib.hid (HU.out.below (Nat.le_refl _) hW)
      clear hW hG hB hgr HK8 HBx HU HLong
      by_cases hp0 : p = 0
      · subst hp0
        obtain ⟨d, hd⟩ : ∃ d : Nat, d = kk % 64 := ⟨_, rfl⟩
        have hd64 : d < 64 := by omega
        have hd1 : (kk : Int) % 64 = (d : Int) := by omega
        obtain ⟨S2, hS2⟩ : ∃ S : Nat, S = 2 ^ d := ⟨_, rfl⟩
        have hS64 : S2 < 18446744073709551616 := by
          have := Nat.pow_lt_pow_right (a := 2) (by decide) hd64
          omega
        have hS0 : 0 < S2 := by rw [hS2]; exact Nat.pow_pos (by decide)
        have hsh : IntKind.u64.wrap ((2 : Int) ^ d) = (S2 : Int) := by
          rw [show ((2 : Int) ^ d) = ((2 ^ d : Nat) : Int) by simp, ← hS2, IntKind.wrap_u64]
          omega
        obtain ⟨J2, hJ2⟩ : ∃ x : Nat, x = J % S2 := ⟨_, rfl⟩
        have hJ2S : J2 < S2 := by rw [hJ2]; exact Nat.mod_lt _ hS0
        have hz1 : sizeP J2 S2 = d := by rw [hS2]; exact sizeP_pow d J2 (by omega)
        have hjm : (J : Int) % (S2 : Int) = (J2 : Int) := by rw [hJ2]; rfl
        have Z1 := Lib.hid (fun (W : World) => HP.out.size J2 S2 W (by omega) hS64)
        rw [hz1] at Z1
        have Z2 := Lib.hid (fun (W : World) => HP.out.size S2 S2 W hS64 hS64)
        rw [sizeP_out S2 S2 (Nat.le_refl _)] at Z2
        have Z3 := Lib.hid (fun (W : World) => HP.out.size 0 0 W (by decide) (by decide))
        rw [sizeP_out 0 0 (Nat.le_refl _)] at Z3
        have hS00 : ((S2 : Int) == 0) = false := by simp; omega
        have HD1 := Lib.hid hd1
        have HSh := Lib.hid hsh
        have HJm := Lib.hid hjm
        clear hd hd1 hS2 hsh hJ2 hz1 hjm
        go_upto_region 18 with fail
        rw [HD1.out]
        go_upto_region 19 with fail
        rw [HSh.out]
        go_wp2_with fail
        rw [HJm.out]
        refine (Z1.out _).mono ?_
        rintro e Wy ⟨rfl, hby⟩
        have HBy := Lib.hid (HB2.out.trans (hby.mono HB2.out.size))
        clear hby Z1
        go_wp2_with fail
        refine (Z2.out _).mono ?_
        rintro e Wz ⟨rfl, hbz⟩
        have HBz := Lib.hid (HBy.out.trans (hbz.mono HBy.out.size))
        clear hbz Z2 HBy
        go_wp2_with fail
        refine (Z3.out _).mono ?_
        rintro e Wv ⟨rfl, hbv⟩
        have HBv := Lib.hid (HBz.out.trans (hbv.mono HBz.out.size))
        clear hbv Z3 HBz
        go_wp2
        go_ret
        exact ⟨rfl, HBv.out⟩
      · have hpp : 0 < (p : Int) := by omega
        obtain ⟨vs, hvs⟩ : ∃ v, v = sliced pa 1 p pc 32 := ⟨_, rfl⟩
        have HVs := Lib.hid (show ∀ W, (Instr.sliceAt 22 (.slice pa p pc) (some (.int .i64 1)) none none).run Tryd.prog W = .ok vs W from fun W => by rw [hvs]; exact slice_hs_from pa p pc 1 (by omega) W)
        have hsub := HU2.out.sub 1 p (by omega) (Nat.le_refl _)
        rw [List.take_of_length_le (by rw [← HPp.out]; exact Nat.le_refl _), ← hvs] at hsub
        have hcshort : climbR n y J q (P.drop 1) = (z32, 2) := by rw [climbR, if_neg (by omega), if_pos (by have h1 := HPs.out; have h2 := HPp.out; rw [List.length_drop]; omega)]
        have HShort := Lib.hid (fun (W : World) (hW : Below W2.heap.size W2 W) => HP.out.climb n y J q (P.drop 1) vs W HN.out HY32.out (by omega) (by omega) (hsub.below (Nat.le_refl _) hW) (by have := HPl.out; rw [List.length_drop]; omega) (HT.out.below (Nat.le_refl _) (HB2.out.trans (hW.mono HB2.out.size))))
        rw [hcshort] at HShort
        simp only at HShort
        rw [← HCy.out, ← HCz.out] at HShort
        clear hvs hsub hcshort
        obtain ⟨W0, rfl⟩ : ∃ W0 : World, W0 = W2 := ⟨_, rfl⟩
        have HBx := Lib.hid HB2.out
        go_upto_region 14 with fail
        have hG : ∀ W W' : World, Below W0.heap.size W0 W → Below W.heap.size W W' → Below W0.heap.size W0 W' := fun W W' h h' => h.trans (h'.mono h.size)
        have hB : ∀ W : World, Below W0.heap.size W0 W → W0.heap.size ≤ W.heap.size := fun W h => h.size
        refine region_fill_by 15 _ (fun _ => [(16, var32F W0.heap.size), (75, .is (.int .i64 n)), (76, .is (.slice (some ad) q c)), (77, .is (.int .i64 (J : Int))), (78, .is (.pointer (some (ad.add (J * 32))))), (79, .is (.agg cy)), (80, .is (.int .i64 (J : Int))), (81, .is (.int .u64 (J : Int))), (82, .is (.int .u64 (q : Int))), (83, .is (.slice pa p pc)), (84, .is vs), (85, .is (.tuple #[.agg cz, .int .i64 2])), (74, .is (.tuple #[.agg cz, .int .i64 2])), (86, .is (.agg cz)), (87, .is (.int .i64 2)), (17, .is (.int .i64 2))]) [0, 1, 2, 4, 8, 10, 11, 12, 13, 17] (fun W => Below W0.heap.size W0 W) (by kernel_rfl) (by kernel_rfl) (by kernel_rfl) (by kernel_rfl) (by kernel_rfl) ((Below.refl _ _).drew) rfl rfl ?_ ?_ ?_
        · refine ⟨?c0, ?c1, ?c2, ?c3, ?c4, ?c5, ?c6, ?c7, ?c8, ?c9, ?c10, ?c11, ?c12, ?c13, ?c14, ?c15, ?c16, trivial⟩
          case c0 => exact .inr (.inl fun b => ask_copy (guard_none rfl) (.tmp 0) (.inl rfl) (by intro k hk; cases hk; rfl))
          case c1 => exact .inr (.inl fun b => ask_copy (guard_none rfl) (.tmp 1) (.inl rfl) (by intro k hk; cases hk; rfl))
          case c2 => exact .inr (.inl fun b => ask_copy (guard_none rfl) (.tmp 2) (.inl rfl) (by intro k hk; cases hk; rfl))
          case c3 => exact .inr (.inl fun b => ask_idx (guard_none rfl) _ (.tmp 76) (.tmp 77) (.slice (some ad) q c) (.int .i64 (J : Int)) (.pointer (some (ad.add (J * 32)))) rfl rfl rfl (by intro k hk; cases hk; rfl) (fun W => hss_index W ad q c J hJq))
          case c4 => exact .inr (.inl fun b => ask_load (guard_none rfl) _ (.tmp 78) (.pointer (some (ad.add (J * 32)))) (.agg cy) rfl rfl (by intro k hk; cases hk; rfl) (fun W hW => HLy.out W (HBx.out.trans (hW.mono HBx.out.size))))
          case c5 => exact .inr (.inl fun b => ask_copy (guard_none rfl) (.tmp 2) (.inl rfl) (by intro k hk; cases hk; rfl))
          case c6 => exact .inr (.inl fun b => ask_conv_iu (guard_none rfl) (.tmp 80) J (by omega) rfl rfl (by intro k hk; cases hk; rfl))
          case c7 => exact .inr (.inl fun b => ask_copy (guard_none rfl) (.tmp 11) (.inl rfl) (by intro k hk; cases hk; rfl))
          case c8 => exact .inr (.inl fun b => ask_copy (guard_none rfl) (.tmp 12) (.inl rfl) (by intro k hk; cases hk; rfl))
          case c9 => exact .inr (.inl fun b => ask_slice (guard_none rfl) 22 (.tmp 83) (some (.const (.int .i64 1))) none none (.slice pa p pc) vs (some (.int .i64 1)) none none rfl rfl rfl rfl rfl (by intro k hk; cases hk; rfl) HVs.out)
          case c10 => exact .inr (.inl fun b => ask_call hG (guard_none rfl) _ _ _ #[.int .i64 n, .agg cy, .int .u64 (J : Int), .int .u64 (q : Int), vs] (.is (.tuple #[.agg cz, .int .i64 2])) rfl (by kernel_rfl) rfl rfl (by intro k hk; cases hk; rfl) (fun W hW => (HShort.out W hW).mono fun e w' h => ⟨_, h.1, rfl, h.2⟩))
          case c11 => exact .inr (.inl fun b => ask_copy (guard_none rfl) (.tmp 85) (.inl rfl) (by intro k hk; cases hk; rfl))
          case c12 => exact .inr (.inl fun b => ask_exec (guard_none rfl) (.agg cz) rfl rfl (by intro k hk; cases hk; rfl) (fun W hW => rfl))
          case c13 => exact .inr (.inl fun b => ask_exec (guard_none rfl) (.int .i64 2) rfl rfl (by intro k hk; cases hk; rfl) (fun W hW => rfl))
          case c14 => exact .inr (.inl fun b => ask_alloc hG (guard_none rfl) _ (.agg (bs (List.replicate 32 0))) (var32F W0.heap.size) rfl (fun W => by kernel_rfl) (by intro k hk; cases hk; rfl) (fun W hW => ⟨_, _, rfl, hB W hW, Blk.new W _ _, rfl⟩))
          case c15 => exact .inl rfl
          case c16 => exact .inr (.inl fun b => ask_copy (guard_none rfl) (.tmp 87) (.inr rfl) (by intro k hk; cases hk; rfl))
        · intro x W hW hk
          obtain ⟨g, zs, e1, e2, e3, e30⟩ : ∃ g zs, x 16 = .pointer (some ⟨g, 0, none⟩) ∧ W0.heap.size ≤ g ∧ Blk W g 30 zs ∧ zs.size = 32 := hk 16 rfl
          have e4 : x 86 = .agg cz := hk 86 rfl
          refine ⟨guard_ok (guard_none rfl) hk, gives_store 30 (.tmp 16) (.tmp 86) rfl (.pointer (some ⟨g, 0, none⟩)) (.agg cz) e1 e4 (e3.stores 30 _ HSz.out (by rw [e30, HZ1.out]) HZo.out) ⟨below_setRow hW g _ e2, fun k hlv hu => ?_⟩⟩
          by_cases h16 : k = 16
          · subst h16
            exact ⟨g, _, e1, e2, e3.row _, HZ1.out⟩
          · simp only [factsOf_ne h16] at hu ⊢
            refine facts_keep (fun q hq u hu => ?_) k _ hu
            simp only [List.mem_cons, List.not_mem_nil, or_false] at hq
            rcases hq with rfl | rfl | rfl | rfl | rfl | rfl | rfl | rfl | rfl | rfl | rfl | rfl | rfl | rfl | rfl
            all_goals exact hu
        · intro b' W3 hW hd' hs' hf'
          have t0 : b'.tmps.getD 0 undef = .int .i64 n := hf' 0 rfl
          have t1 : b'.tmps.getD 1 undef = .slice (some ad) q c := hf' 1 rfl
          have t2 : b'.tmps.getD 2 undef = .int .i64 (J : Int) := hf' 2 rfl
          have t4 : b'.tmps.getD 4 undef = .int .u8 (kk : Int) := hf' 4 rfl
          have t8 : b'.tmps.getD 8 undef = .pointer (some ⟨w.heap.size, 0, none⟩) := hf' 8 rfl
          have t10 : b'.tmps.getD 10 undef = .bool false := hf' 10 rfl
          have t11 : b'.tmps.getD 11 undef = .int .u64 (q : Int) := hf' 11 rfl
          have t12 : b'.tmps.getD 12 undef = .slice pa p pc := hf' 12 rfl
          have t13 : b'.tmps.getD 13 undef = .int .i64 0 := hf' 13 rfl
          have t17 : b'.tmps.getD 17 undef = .int .i64 2 := hf' 17 rfl
          obtain ⟨usW3, hus, ha'⟩ := act_open 113 b' hs' hd'
          rw [← hus] at t0 t1 t2 t4 t8 t10 t11 t12 t13 t17
          have el : ((List.range 113).map usW3).toArray = #[.int .i64 n, .slice (some ad) q c, .int .i64 (J : Int), usW3 3, .int .u8 (kk : Int), usW3 5, usW3 6, usW3 7, .pointer (some ⟨w.heap.size, 0, none⟩), usW3 9, .bool false, .int .u64 (q : Int), .slice pa p pc, .int .i64 0, usW3 14, usW3 15, usW3 16, .int .i64 2, usW3 18, usW3 19, usW3 20, usW3 21, usW3 22, usW3 23, usW3 24, usW3 25, usW3 26, usW3 27, usW3 28, usW3 29, usW3 30, usW3 31, usW3 32, usW3 33, usW3 34, usW3 35, usW3 36, usW3 37, usW3 38, usW3 39, usW3 40, usW3 41, usW3 42, usW3 43, usW3 44, usW3 45, usW3 46, usW3 47, usW3 48, usW3 49, usW3 50, usW3 51, usW3 52, usW3 53, usW3 54, usW3 55, usW3 56, usW3 57, usW3 58, usW3 59, usW3 60, usW3 61, usW3 62, usW3 63, usW3 64, usW3 65, usW3 66, usW3 67, usW3 68, usW3 69, usW3 70, usW3 71, usW3 72, usW3 73, usW3 74, usW3 75, usW3 76, usW3 77, usW3 78, usW3 79, usW3 80, usW3 81, usW3 82, usW3 83, usW3 84, usW3 85, usW3 86, usW3 87, usW3 88, usW3 89, usW3 90, usW3 91, usW3 92, usW3 93, usW3 94, usW3 95, usW3 96, usW3 97, usW3 98, usW3 99, usW3 100, usW3 101, usW3 102, usW3 103, usW3 104, usW3 105, usW3 106, usW3 107, usW3 108, usW3 109, usW3 110, usW3 111, usW3 112] := by
            show #[usW3 0, usW3 1, usW3 2, usW3 3, usW3 4, usW3 5, usW3 6, usW3 7, usW3 8, usW3 9, usW3 10, usW3 11, usW3 12, usW3 13, usW3 14, usW3 15, usW3 16, usW3 17, usW3 18, usW3 19, usW3 20, usW3 21, usW3 22, usW3 23, usW3 24, usW3 25, usW3 26, usW3 27, usW3 28, usW3 29, usW3 30, usW3 31, usW3 32, usW3 33, usW3 34, usW3 35, usW3 36, usW3 37, usW3 38, usW3 39, usW3 40, usW3 41, usW3 42, usW3 43, usW3 44, usW3 45, usW3 46, usW3 47, usW3 48, usW3 49, usW3 50, usW3 51, usW3 52, usW3 53, usW3 54, usW3 55, usW3 56, usW3 57, usW3 58, usW3 59, usW3 60, usW3 61, usW3 62, usW3 63, usW3 64, usW3 65, usW3 66, usW3 67, usW3 68, usW3 69, usW3 70, usW3 71, usW3 72, usW3 73, usW3 74, usW3 75, usW3 76, usW3 77, usW3 78, usW3 79, usW3 80, usW3 81, usW3 82, usW3 83, usW3 84, usW3 85, usW3 86, usW3 87, usW3 88, usW3 89, usW3 90, usW3 91, usW3 92, usW3 93, usW3 94, usW3 95, usW3 96, usW3 97, usW3 98, usW3 99, usW3 100, usW3 101, usW3 102, usW3 103, usW3 104, usW3 105, usW3 106, usW3 107, usW3 108, usW3 109, usW3 110, usW3 111, usW3 112] = _
            rw [t0, t1, t2, t4, t8, t10, t11, t12, t13, t17]
          rw [el] at ha'
          subst ha'
          clear hus t0 t1 t2 t4 t8 t10 t11 t12 t13 t17 el hf' hs' hd'
          have HB3 := Lib.hid (HBx.out.trans (hW.mono HBx.out.size))
          clear hW hG hB HB2 HBx HU2 HShort HVs
          obtain ⟨d, hd⟩ : ∃ d : Nat, d = kk % 64 := ⟨_, rfl⟩
          have hd64 : d < 64 := by omega
          have hd1 : (kk : Int) % 64 = (d : Int) := by omega
          obtain ⟨S2, hS2⟩ : ∃ S : Nat, S = 2 ^ d := ⟨_, rfl⟩
          have hS64 : S2 < 18446744073709551616 := by
            have := Nat.pow_lt_pow_right (a := 2) (by decide) hd64
            omega
          have hS0 : 0 < S2 := by rw [hS2]; exact Nat.pow_pos (by decide)
          have hsh : IntKind.u64.wrap ((2 : Int) ^ d) = (S2 : Int) := by
            rw [show ((2 : Int) ^ d) = ((2 ^ d : Nat) : Int) by simp, ← hS2, IntKind.wrap_u64]
            omega
          obtain ⟨J2, hJ2⟩ : ∃ x : Nat, x = J % S2 := ⟨_, rfl⟩
          have hJ2S : J2 < S2 := by rw [hJ2]; exact Nat.mod_lt _ hS0
          have hz1 : sizeP J2 S2 = d := by rw [hS2]; exact sizeP_pow d J2 (by omega)
          have hjm : (J : Int) % (S2 : Int) = (J2 : Int) := by rw [hJ2]; rfl
          have Z1 := Lib.hid (fun (W : World) => HP.out.size J2 S2 W (by omega) hS64)
          rw [hz1] at Z1
          have Z2 := Lib.hid (fun (W : World) => HP.out.size S2 S2 W hS64 hS64)
          rw [sizeP_out S2 S2 (Nat.le_refl _)] at Z2
          have Z3 := Lib.hid (fun (W : World) => HP.out.size 0 0 W (by decide) (by decide))
          rw [sizeP_out 0 0 (Nat.le_refl _)] at Z3
          have hS00 : ((S2 : Int) == 0) = false := by simp; omega
          have HD1 := Lib.hid hd1
          have HSh := Lib.hid hsh
          have HJm := Lib.hid hjm
          clear hd hd1 hS2 hsh hJ2 hz1 hjm
          go_upto_region 18 with fail
          rw [HD1.out]
          go_upto_region 19 with fail
          rw [HSh.out]
          go_wp2_with fail
          rw [HJm.out]
          refine (Z1.out _).mono ?_
          rintro e Wy ⟨rfl, hby⟩
          have HBy := Lib.hid (HB3.out.trans (hby.mono HB3.out.size))
          clear hby Z1
          go_wp2_with fail
          refine (Z2.out _).mono ?_
          rintro e Wz ⟨rfl, hbz⟩
          have HBz := Lib.hid (HBy.out.trans (hbz.mono HBy.out.size))
          clear hbz Z2 HBy
          go_wp2_with fail
          refine (Z3.out _).mono ?_
          rintro e Wv ⟨rfl, hbv⟩
          have HBv := Lib.hid (HBz.out.trans (hbv.mono HBz.out.size))
          clear hbv Z3 HBz
          go_wp2
          go_ret
          exact ⟨rfl, HBv.out⟩
  · by_cases h0 : m = 0
    · subst h0
      clear hv hm hp hq0 hn ht hcm hcm1 hcmo hmo
      go_enter Tryd.func6, Tryd.ntmps6
      go_wp2_with fail
      have hb0 : Below w.heap.size w (w.alloc (.cells cm 30)) := (Below.refl _ _).alloc (Nat.le_refl _) _
      refine (awake15_any HP.out HQ.out _ (HT.out.below (Nat.le_refl _) hb0)).mono ?_
      rintro e W1 ⟨rfl, hb1⟩
      have HB1 := Lib.hid (hb0.trans (hb1.mono (by simp)))
      clear hb0 hb1
      go_wp2
      go_ret
      exact ⟨rfl, HB1.out⟩
    · obtain ⟨q, rfl⟩ : ∃ q, q = m := ⟨_, rfl⟩
      obtain ⟨gs, rfl⟩ : ∃ g, g = hs := ⟨_, rfl⟩
      have HVg := Lib.hid hv
      have HG := Lib.hid hm
      have hq : q ≤ 100 := by omega
      have hq0' : ((q : Int) == 0) = false := by simpa using h0
      have hqp : 0 < q := by omega
      clear hv hm hp hq0 hn ht hcm hcm1 hcmo hmo
      obtain ⟨J, hJ, hJq⟩ : ∃ J : Nat, wrap64 ((IntKind.u64.wrap i).tmod (q : Int)) = (J : Int) ∧ J < q := by
        have h1 : 0 ≤ IntKind.u64.wrap i := by rw [IntKind.wrap_u64]; omega
        generalize IntKind.u64.wrap i = z at h1 ⊢
        rw [Int.tmod_eq_emod_of_nonneg h1]
        have h2 := Int.emod_nonneg z (show (q : Int) ≠ 0 by omega)
        have h3 := Int.emod_lt_of_pos z (show (0 : Int) < (q : Int) by omega)
        generalize z % (q : Int) = r at h2 h3 ⊢
        exact ⟨r.toNat, by unfold wrap64; omega, by omega⟩
      obtain ⟨y, hy⟩ : ∃ y, gs[J]? = some y := ⟨gs[J]'(by have := HG.out; omega), List.getElem?_eq_getElem _⟩
      obtain ⟨ad, rfl, -⟩ := HVg.out.load hy
      have hy32 := HVg.out.all.get hy
      obtain ⟨cy, hcy, hcy1, hcyo⟩ := hash_cells y hy32
      obtain ⟨cz, hcz, hcz1, hczo⟩ := hash_cells z32 rfl
      have HLy := Lib.hid (fun (W : World) (hW : Below w.heap.size w W) => load_hash W (ad.add (J * 32)) y hy32 fun j u hj => by
        obtain ⟨ad2, e, h⟩ := (HVg.out.below (Nat.le_refl _) hW).load hy
        cases e
        exact h j u hj)
      rw [← hcy] at HLy
      obtain ⟨P, hP⟩ : ∃ P, P = proveP n gs J := ⟨_, rfl⟩
      have hPl : P.length = sizeP J q := by rw [hP]; exact proveP_length n q _ J HG.out.symm hJq
      have hP7 : P.length ≤ 7 := by rw [hPl]; exact sizeP_le 7 q J (by omega)
      have hpr : proveR n gs (J : Int) (q : Int) = (P, 0) := by
        rw [proveR, if_neg (by rw [← HG.out]; omega), hP]
        have e1 : gs.take q = gs := List.take_of_length_le (by rw [← HG.out]; exact Nat.le_refl _)
        simp [e1]
      have HProve := Lib.hid (fun (W : World) (hW : Below w.heap.size w W) => HP.out.prove n gs (J : Int) (q : Int) (.slice (some ad) q c) W HN.out (by unfold I64; omega) (by unfold I64; omega) (by rw [← HG.out]; omega) (HVg.out.below (Nat.le_refl _) hW) (HT.out.below (Nat.le_refl _) hW))
      rw [hpr] at HProve
      have hclong : climbR n y J q (P ++ [mo]) = (z32, 4) := by rw [climbR, if_neg (by omega), if_neg (by rw [List.length_append, hPl]; simp), if_pos (by rw [List.length_append, hPl]; simp)]
      have HLong := Lib.hid (fun (v : Value) (W : World) (hv : Hss W v (P ++ [mo])) (hW : Below w.heap.size w W) => HP.out.climb n y J q (P ++ [mo]) v W HN.out hy32 (by omega) (by omega) hv (by rw [List.length_append, List.length_singleton]; omega) (HT.out.below (Nat.le_refl _) hW))
      rw [hclong] at HLong
      simp only at HLong
      rw [← hcy, ← hcz] at HLong
      have HSz := Lib.hid (size_hash hcz1)
      have HZ1 := Lib.hid hcz1
      have HZo := Lib.hid hczo
      have HCy := Lib.hid hcy
      have HCz := Lib.hid hcz
      have HY32 := Lib.hid hy32
      have HJ := Lib.hid hJ
      have HPl := Lib.hid hP7
      have HPs := Lib.hid hPl
      clear hJ hy hy32 hcy hcy1 hcyo hcz hcz1 hczo hP hPl hP7 hpr hclong
      go_enter Tryd.func6, Tryd.ntmps6
      go_wp2_with fail
      have hb0 : Below w.heap.size w (w.alloc (.cells cm 30)) := (Below.refl _ _).alloc (Nat.le_refl _) _
      refine (awake15_any HP.out HQ.out _ (HT.out.below (Nat.le_refl _) hb0)).mono ?_
      rintro e W1 ⟨rfl, hb1⟩
      have HB1 := Lib.hid (hb0.trans (hb1.mono (by simp)))
      have HK1 := Lib.hid ((Blk.new w 30 cm).keep hb1)
      clear hb0 hb1
      go_upto_region 8 with fail
      go_upto_region 9 with fail
      rw [HJ.out]
      go_wp2_with fail
      refine (HProve.out _ HB1.out).mono ?_
      rintro e W0 ⟨u, rfl, hu, hb2⟩
      obtain ⟨pa, pc, rfl, hpc⟩ := hu.form
      obtain ⟨p, hp⟩ : ∃ p, p = P.length := ⟨_, rfl⟩
      rw [← hp] at hu hpc ⊢
      have HU := Lib.hid hu
      have HPp := Lib.hid hp
      have HBx := Lib.hid (HB1.out.trans (hb2.mono HB1.out.size))
      have HK8 := Lib.hid (HK1.out.keep hb2)
      clear hu hp hb2 HB1 HK1 HProve HJ
      go_upto_region 10 with fail
      have hG : ∀ W W' : World, Below W0.heap.size W0 W → Below W.heap.size W W' → Below W0.heap.size W0 W' := fun W W' h h' => h.trans (h'.mono h.size)
      have hB : ∀ W : World, Below W0.heap.size W0 W → W0.heap.size ≤ W.heap.size := fun W h => h.size
      have hgr : ∀ (W W' : World) (row : Option Nat), Below W0.heap.size W0 W → W.grownBy W' row → (∀ k, row = some k → W0.heap.size ≤ k) → Below W0.heap.size W0 W' := fun W W' row hW hg hrow => hW.grown hg hW.size hrow
      refine region_fill_by 19 _ (fun _ => [(14, var32F W0.heap.size), (56, hlitF W0.heap.size), (58, row2F W0.heap.size P), (60, hssF [mo]), (61, ohsF W0.heap.size (P ++ [mo])), (48, .is (.int .i64 n)), (49, .is (.slice (some ad) q c)), (50, .is (.int .i64 (J : Int))), (51, .is (.pointer (some (ad.add (J * 32))))), (52, .is (.agg cy)), (53, .is (.int .i64 (J : Int))), (54, .is (.int .u64 (J : Int))), (55, .is (.int .u64 (q : Int))), (57, .is (.slice pa p pc)), (59, .is (.agg cm)), (62, .is (.tuple #[.agg cz, .int .i64 4])), (47, .is (.tuple #[.agg cz, .int .i64 4])), (63, .is (.agg cz)), (64, .is (.int .i64 4)), (15, .is (.int .i64 4))]) [0, 1, 2, 4, 8, 10, 11, 12, 13, 15] (fun W => Below W0.heap.size W0 W) (by kernel_rfl) (by kernel_rfl) (by kernel_rfl) (by kernel_rfl) (by kernel_rfl) ((Below.refl _ _).drew) rfl rfl ?_ ?_ ?_
      · refine ⟨?c0, ?c1, ?c2, ?c3, ?c4, ?c5, ?c6, ?c7, ?c8, ?c9, ?c10, ?c11, ?c12, ?c13, ?c14, ?c15, ?c16, ?c17, ?c18, ?c19, ?c20, trivial⟩
        case c0 => exact .inr (.inl fun b => ask_copy (guard_none rfl) (.tmp 0) (.inl rfl) (by intro k hk; cases hk; rfl))
        case c1 => exact .inr (.inl fun b => ask_copy (guard_none rfl) (.tmp 1) (.inl rfl) (by intro k hk; cases hk; rfl))
        case c2 => exact .inr (.inl fun b => ask_copy (guard_none rfl) (.tmp 2) (.inl rfl) (by intro k hk; cases hk; rfl))
        case c3 => exact .inr (.inl fun b => ask_idx (guard_none rfl) _ (.tmp 49) (.tmp 50) (.slice (some ad) q c) (.int .i64 (J : Int)) (.pointer (some (ad.add (J * 32)))) rfl rfl rfl (by intro k hk; cases hk; rfl) (fun W => hss_index W ad q c J hJq))
        case c4 => exact .inr (.inl fun b => ask_load (guard_none rfl) _ (.tmp 51) (.pointer (some (ad.add (J * 32)))) (.agg cy) rfl rfl (by intro k hk; cases hk; rfl) (fun W hW => HLy.out W (HBx.out.trans (hW.mono HBx.out.size))))
        case c5 => exact .inr (.inl fun b => ask_copy (guard_none rfl) (.tmp 2) (.inl rfl) (by intro k hk; cases hk; rfl))
        case c6 => exact .inr (.inl fun b => ask_conv_iu (guard_none rfl) (.tmp 53) J (by omega) rfl rfl (by intro k hk; cases hk; rfl))
        case c7 => exact .inr (.inl fun b => ask_copy (guard_none rfl) (.tmp 11) (.inl rfl) (by intro k hk; cases hk; rfl))
        case c8 => exact .inr (.inl fun b => ask_build_none hG (guard_none rfl) _ hB rfl (by intro k hk; cases hk; rfl))
        case c9 => exact .inr (.inl fun b => ask_copy (guard_none rfl) (.tmp 12) (.inl rfl) (by intro k hk; cases hk; rfl))
        case c10 => exact .inr (.inl fun b => ask_append_hlit2 hG (guard_none rfl) (.tmp 56) (.tmp 57) _ P rfl rfl rfl (fun x W hW hk => by
            have e : x 57 = .slice pa p pc := hk 57 rfl
            show Hss W (x 57) P
            rw [e]
            exact HU.out.below (Nat.le_refl _) hW) (by have := HPl.out; omega) (by intro k hk; cases hk; rfl))
        case c11 => exact .inr (.inl fun b => ask_load (guard_none rfl) _ (.tmp 8) (.pointer (some ⟨w.heap.size, 0, none⟩)) (.agg cm) rfl rfl (by intro k hk; cases hk; rfl) (fun W hW => (HK8.out.keep hW).loads 30 _ Tryd.underlying30 rfl HSm.out))
        case c12 => exact .inr (.inl fun b => ask_build_hash hG (guard_none rfl) _ mo cm HMo.out HCm.out rfl rfl (by intro k hk; cases hk; rfl))
        case c13 => exact .inr (.inl fun b => ask_append_fine [14] (by intro k hk; rw [List.mem_singleton.1 hk]; exact ⟨_, rfl⟩) (guard_none rfl) (by kernel_rfl) (.tmp 58) (.tmp 60) _ P [mo] rfl rfl rfl (fun x W hW hk => hk 60 rfl) (by simp) (by have := HPl.out; simp only [List.length_singleton]; omega) hB hgr (by intro k hk; cases hk; rfl))
        case c14 => exact .inr (.inl fun b => ask_call_by hG (guard_none rfl) _ _ _ (.is (.tuple #[.agg cz, .int .i64 4])) rfl (by kernel_rfl) (by intro k hk; cases hk; rfl) (fun x W hW hk => by
            have e1 : x 48 = .int .i64 n := hk 48 rfl
            have e2 : x 52 = .agg cy := hk 52 rfl
            have e3 : x 54 = .int .u64 (J : Int) := hk 54 rfl
            have e4 : x 55 = .int .u64 (q : Int) := hk 55 rfl
            have e5 : OHs W W0.heap.size (x 61) (P ++ [mo]) := hk 61 rfl
            show Calls _ _ #[x 48, x 52, x 54, x 55, x 61] W _
            rw [e1, e2, e3, e4]
            exact (HLong.out (x 61) W e5.hss (HBx.out.trans (hW.mono HBx.out.size))).mono fun e w' h => ⟨_, h.1, rfl, h.2⟩))
        case c15 => exact .inr (.inl fun b => ask_copy (guard_none rfl) (.tmp 62) (.inl rfl) (by intro k hk; cases hk; rfl))
        case c16 => exact .inr (.inl fun b => ask_exec (guard_none rfl) (.agg cz) rfl rfl (by intro k hk; cases hk; rfl) (fun W hW => rfl))
        case c17 => exact .inr (.inl fun b => ask_exec (guard_none rfl) (.int .i64 4) rfl rfl (by intro k hk; cases hk; rfl) (fun W hW => rfl))
        case c18 => exact .inr (.inl fun b => ask_alloc hG (guard_none rfl) _ (.agg (bs (List.replicate 32 0))) (var32F W0.heap.size) rfl (fun W => by kernel_rfl) (by intro k hk; cases hk; rfl) (fun W hW => ⟨_, _, rfl, hB W hW, Blk.new W _ _, rfl⟩))
        case c19 => exact .inl rfl
        case c20 => exact .inr (.inl fun b => ask_copy (guard_none rfl) (.tmp 64) (.inr rfl) (by intro k hk; cases hk; rfl))
      · intro x W hW hk
        obtain ⟨g, zs, e1, e2, e3, e30⟩ : ∃ g zs, x 14 = .pointer (some ⟨g, 0, none⟩) ∧ W0.heap.size ≤ g ∧ Blk W g 30 zs ∧ zs.size = 32 := hk 14 rfl
        have e4 : x 63 = .agg cz := hk 63 rfl
        refine ⟨guard_ok (guard_none rfl) hk, gives_store 30 (.tmp 14) (.tmp 63) rfl (.pointer (some ⟨g, 0, none⟩)) (.agg cz) e1 e4 (e3.stores 30 _ HSz.out (by rw [e30, HZ1.out]) HZo.out) ⟨below_setRow hW g _ e2, fun k hlv hu => ?_⟩⟩
        by_cases h14 : k = 14
        · subst h14
          exact ⟨g, _, e1, e2, e3.row _, HZ1.out⟩
        · by_cases h56 : k = 56
          · subst h56
            exact absurd (hlv.symm.trans (by kernel_rfl)) (by decide : ¬ (true = false))
          · by_cases h58 : k = 58
            · subst h58
              exact absurd (hlv.symm.trans (by kernel_rfl)) (by decide : ¬ (true = false))
            · by_cases h60 : k = 60
              · subst h60
                exact absurd (hlv.symm.trans (by kernel_rfl)) (by decide : ¬ (true = false))
              · by_cases h61 : k = 61
                · subst h61
                  exact absurd (hlv.symm.trans (by kernel_rfl)) (by decide : ¬ (true = false))
                · simp only [factsOf_ne h14, factsOf_ne h56, factsOf_ne h58, factsOf_ne h60, factsOf_ne h61] at hu ⊢
                  refine facts_keep (fun q hq u hu => ?_) k _ hu
                  simp only [List.mem_cons, List.not_mem_nil, or_false] at hq
                  rcases hq with rfl | rfl | rfl | rfl | rfl | rfl | rfl | rfl | rfl | rfl | rfl | rfl | rfl | rfl | rfl
                  all_goals exact hu
      · intro a' W2 hW hd' hs' hf'
        have t0 : a'.tmps.getD 0 undef = .int .i64 n := hf' 0 rfl
        have t1 : a'.tmps.getD 1 undef = .slice (some ad) q c := hf' 1 rfl
        have t2 : a'.tmps.getD 2 undef = .int .i64 (J : Int) := hf' 2 rfl
        have t4 : a'.tmps.getD 4 undef = .int .u8 (kk : Int) := hf' 4 rfl
        have t8 : a'.tmps.getD 8 undef = .pointer (some ⟨w.heap.size, 0, none⟩) := hf' 8 rfl
        have t10 : a'.tmps.getD 10 undef = .bool false := hf' 10 rfl
        have t11 : a'.tmps.getD 11 undef = .int .u64 (q : Int) := hf' 11 rfl
        have t12 : a'.tmps.getD 12 undef = .slice pa p pc := hf' 12 rfl
        have t13 : a'.tmps.getD 13 undef = .int .i64 0 := hf' 13 rfl
        have t15 : a'.tmps.getD 15 undef = .int .i64 4 := hf' 15 rfl
        obtain ⟨usW2, hus, ha'⟩ := act_open 113 a' hs' hd'
        rw [← hus] at t0 t1 t2 t4 t8 t10 t11 t12 t13 t15
        have el : ((List.range 113).map usW2).toArray = #[.int .i64 n, .slice (some ad) q c, .int .i64 (J : Int), usW2 3, .int .u8 (kk : Int), usW2 5, usW2 6, usW2 7, .pointer (some ⟨w.heap.size, 0, none⟩), usW2 9, .bool false, .int .u64 (q : Int), .slice pa p pc, .int .i64 0, usW2 14, .int .i64 4, usW2 16, usW2 17, usW2 18, usW2 19, usW2 20, usW2 21, usW2 22, usW2 23, usW2 24, usW2 25, usW2 26, usW2 27, usW2 28, usW2 29, usW2 30, usW2 31, usW2 32, usW2 33, usW2 34, usW2 35, usW2 36, usW2 37, usW2 38, usW2 39, usW2 40, usW2 41, usW2 42, usW2 43, usW2 44, usW2 45, usW2 46, usW2 47, usW2 48, usW2 49, usW2 50, usW2 51, usW2 52, usW2 53, usW2 54, usW2 55, usW2 56, usW2 57, usW2 58, usW2 59, usW2 60, usW2 61, usW2 62, usW2 63, usW2 64, usW2 65, usW2 66, usW2 67, usW2 68, usW2 69, usW2 70, usW2 71, usW2 72, usW2 73, usW2 74, usW2 75, usW2 76, usW2 77, usW2 78, usW2 79, usW2 80, usW2 81, usW2 82, usW2 83, usW2 84, usW2 85, usW2 86, usW2 87, usW2 88, usW2 89, usW2 90, usW2 91, usW2 92, usW2 93, usW2 94, usW2 95, usW2 96, usW2 97, usW2 98, usW2 99, usW2 100, usW2 101, usW2 102, usW2 103, usW2 104, usW2 105, usW2 106, usW2 107, usW2 108, usW2 109, usW2 110, usW2 111, usW2 112] := by
          show #[usW2 0, usW2 1, usW2 2, usW2 3, usW2 4, usW2 5, usW2 6, usW2 7, usW2 8, usW2 9, usW2 10, usW2 11, usW2 12, usW2 13, usW2 14, usW2 15, usW2 16, usW2 17, usW2 18, usW2 19, usW2 20, usW2 21, usW2 22, usW2 23, usW2 24, usW2 25, usW2 26, usW2 27, usW2 28, usW2 29, usW2 30, usW2 31, usW2 32, usW2 33, usW2 34, usW2 35, usW2 36, usW2 37, usW2 38, usW2 39, usW2 40, usW2 41, usW2 42, usW2 43, usW2 44, usW2 45, usW2 46, usW2 47, usW2 48, usW2 49, usW2 50, usW2 51, usW2 52, usW2 53, usW2 54, usW2 55, usW2 56, usW2 57, usW2 58, usW2 59, usW2 60, usW2 61, usW2 62, usW2 63, usW2 64, usW2 65, usW2 66, usW2 67, usW2 68, usW2 69, usW2 70, usW2 71, usW2 72, usW2 73, usW2 74, usW2 75, usW2 76, usW2 77, usW2 78, usW2 79, usW2 80, usW2 81, usW2 82, usW2 83, usW2 84, usW2 85, usW2 86, usW2 87, usW2 88, usW2 89, usW2 90, usW2 91, usW2 92, usW2 93, usW2 94, usW2 95, usW2 96, usW2 97, usW2 98, usW2 99, usW2 100, usW2 101, usW2 102, usW2 103, usW2 104, usW2 105, usW2 106, usW2 107, usW2 108, usW2 109, usW2 110, usW2 111, usW2 112] = _
          rw [t0, t1, t2, t4, t8, t10, t11, t12, t13, t15]
        rw [el] at ha'
        subst ha'
        clear hus t0 t1 t2 t4 t8 t10 t11 t12 t13 t15 el hf' hs' hd'
        have HB2 := Lib.hid (HBx.out.trans (hW.mono HBx.out.size))
        have HU2 := Lib.hid (HU.out.below (Nat.le_refl _) hW)
        clear hW hG hB hgr HK8 HBx HU HLong
        by_cases hp0 : p = 0
        · subst hp0
          obtain ⟨d, hd⟩ : ∃ d : Nat, d = kk % 64 := ⟨_, rfl⟩
          have hd64 : d < 64 := by omega
          have hd1 : (kk : Int) % 64 = (d : Int) := by omega
          obtain ⟨S2, hS2⟩ : ∃ S : Nat, S = 2 ^ d := ⟨_, rfl⟩
          have hS64 : S2 < 18446744073709551616 := by
            have := Nat.pow_lt_pow_right (a := 2) (by decide) hd64
            omega
          have hS0 : 0 < S2 := by rw [hS2]; exact Nat.pow_pos (by decide)
          have hsh : IntKind.u64.wrap ((2 : Int) ^ d) = (S2 : Int) := by
            rw [show ((2 : Int) ^ d) = ((2 ^ d : Nat) : Int) by simp, ← hS2, IntKind.wrap_u64]
            omega
          obtain ⟨J2, hJ2⟩ : ∃ x : Nat, x = J % S2 := ⟨_, rfl⟩
          have hJ2S : J2 < S2 := by rw [hJ2]; exact Nat.mod_lt _ hS0
          have hz1 : sizeP J2 S2 = d := by rw [hS2]; exact sizeP_pow d J2 (by omega)
          have hjm : (J : Int) % (S2 : Int) = (J2 : Int) := by rw [hJ2]; rfl
          have Z1 := Lib.hid (fun (W : World) => HP.out.size J2 S2 W (by omega) hS64)
          rw [hz1] at Z1
          have Z2 := Lib.hid (fun (W : World) => HP.out.size S2 S2 W hS64 hS64)
          rw [sizeP_out S2 S2 (Nat.le_refl _)] at Z2
          have Z3 := Lib.hid (fun (W : World) => HP.out.size 0 0 W (by decide) (by decide))
          rw [sizeP_out 0 0 (Nat.le_refl _)] at Z3
          have hS00 : ((S2 : Int) == 0) = false := by simp; omega
          have HD1 := Lib.hid hd1
          have HSh := Lib.hid hsh
          have HJm := Lib.hid hjm
          clear hd hd1 hS2 hsh hJ2 hz1 hjm
          go_upto_region 18 with fail
          rw [HD1.out]
          go_upto_region 19 with fail
          rw [HSh.out]
          go_wp2_with fail
          rw [HJm.out]
          refine (Z1.out _).mono ?_
          rintro e Wy ⟨rfl, hby⟩
          have HBy := Lib.hid (HB2.out.trans (hby.mono HB2.out.size))
          clear hby Z1
          go_wp2_with fail
          refine (Z2.out _).mono ?_
          rintro e Wz ⟨rfl, hbz⟩
          have HBz := Lib.hid (HBy.out.trans (hbz.mono HBy.out.size))
          clear hbz Z2 HBy
          go_wp2_with fail
          refine (Z3.out _).mono ?_
          rintro e Wv ⟨rfl, hbv⟩
          have HBv := Lib.hid (HBz.out.trans (hbv.mono HBz.out.size))
          clear hbv Z3 HBz
          go_wp2
          go_ret
          exact ⟨rfl, HBv.out⟩
        · have hpp : 0 < (p : Int) := by omega
          obtain ⟨vs, hvs⟩ : ∃ v, v = sliced pa 1 p pc 32 := ⟨_, rfl⟩
          have HVs := Lib.hid (show ∀ W, (Instr.sliceAt 22 (.slice pa p pc) (some (.int .i64 1)) none none).run Tryd.prog W = .ok vs W from fun W => by rw [hvs]; exact slice_hs_from pa p pc 1 (by omega) W)
          have hsub := HU2.out.sub 1 p (by omega) (Nat.le_refl _)
          rw [List.take_of_length_le (by rw [← HPp.out]; exact Nat.le_refl _), ← hvs] at hsub
          have hcshort : climbR n y J q (P.drop 1) = (z32, 2) := by rw [climbR, if_neg (by omega), if_pos (by have h1 := HPs.out; have h2 := HPp.out; rw [List.length_drop]; omega)]
          have HShort := Lib.hid (fun (W : World) (hW : Below W2.heap.size W2 W) => HP.out.climb n y J q (P.drop 1) vs W HN.out HY32.out (by omega) (by omega) (hsub.below (Nat.le_refl _) hW) (by have := HPl.out; rw [List.length_drop]; omega) (HT.out.below (Nat.le_refl _) (HB2.out.trans (hW.mono HB2.out.size))))
          rw [hcshort] at HShort
          simp only at HShort
          rw [← HCy.out, ← HCz.out] at HShort
          clear hvs hsub hcshort
          obtain ⟨W0, rfl⟩ : ∃ W0 : World, W0 = W2 := ⟨_, rfl⟩
          have HBx := Lib.hid HB2.out
          go_upto_region 14 with fail
          have hG : ∀ W W' : World, Below W0.heap.size W0 W → Below W.heap.size W W' → Below W0.heap.size W0 W' := fun W W' h h' => h.trans (h'.mono h.size)
          have hB : ∀ W : World, Below W0.heap.size W0 W → W0.heap.size ≤ W.heap.size := fun W h => h.size
          refine region_fill_by 15 _ (fun _ => [(16, var32F W0.heap.size), (75, .is (.int .i64 n)), (76, .is (.slice (some ad) q c)), (77, .is (.int .i64 (J : Int))), (78, .is (.pointer (some (ad.add (J * 32))))), (79, .is (.agg cy)), (80, .is (.int .i64 (J : Int))), (81, .is (.int .u64 (J : Int))), (82, .is (.int .u64 (q : Int))), (83, .is (.slice pa p pc)), (84, .is vs), (85, .is (.tuple #[.agg cz, .int .i64 2])), (74, .is (.tuple #[.agg cz, .int .i64 2])), (86, .is (.agg cz)), (87, .is (.int .i64 2)), (17, .is (.int .i64 2))]) [0, 1, 2, 4, 8, 10, 11, 12, 13, 17] (fun W => Below W0.heap.size W0 W) (by kernel_rfl) (by kernel_rfl) (by kernel_rfl) (by kernel_rfl) (by kernel_rfl) ((Below.refl _ _).drew) rfl rfl ?_ ?_ ?_
          · refine ⟨?c0, ?c1, ?c2, ?c3, ?c4, ?c5, ?c6, ?c7, ?c8, ?c9, ?c10, ?c11, ?c12, ?c13, ?c14, ?c15, ?c16, trivial⟩
            case c0 => exact .inr (.inl fun b => ask_copy (guard_none rfl) (.tmp 0) (.inl rfl) (by intro k hk; cases hk; rfl))
            case c1 => exact .inr (.inl fun b => ask_copy (guard_none rfl) (.tmp 1) (.inl rfl) (by intro k hk; cases hk; rfl))
            case c2 => exact .inr (.inl fun b => ask_copy (guard_none rfl) (.tmp 2) (.inl rfl) (by intro k hk; cases hk; rfl))
            case c3 => exact .inr (.inl fun b => ask_idx (guard_none rfl) _ (.tmp 76) (.tmp 77) (.slice (some ad) q c) (.int .i64 (J : Int)) (.pointer (some (ad.add (J * 32)))) rfl rfl rfl (by intro k hk; cases hk; rfl) (fun W => hss_index W ad q c J hJq))
            case c4 => exact .inr (.inl fun b => ask_load (guard_none rfl) _ (.tmp 78) (.pointer (some (ad.add (J * 32)))) (.agg cy) rfl rfl (by intro k hk; cases hk; rfl) (fun W hW => HLy.out W (HBx.out.trans (hW.mono HBx.out.size))))
            case c5 => exact .inr (.inl fun b => ask_copy (guard_none rfl) (.tmp 2) (.inl rfl) (by intro k hk; cases hk; rfl))
            case c6 => exact .inr (.inl fun b => ask_conv_iu (guard_none rfl) (.tmp 80) J (by omega) rfl rfl (by intro k hk; cases hk; rfl))
            case c7 => exact .inr (.inl fun b => ask_copy (guard_none rfl) (.tmp 11) (.inl rfl) (by intro k hk; cases hk; rfl))
            case c8 => exact .inr (.inl fun b => ask_copy (guard_none rfl) (.tmp 12) (.inl rfl) (by intro k hk; cases hk; rfl))
            case c9 => exact .inr (.inl fun b => ask_slice (guard_none rfl) 22 (.tmp 83) (some (.const (.int .i64 1))) none none (.slice pa p pc) vs (some (.int .i64 1)) none none rfl rfl rfl rfl rfl (by intro k hk; cases hk; rfl) HVs.out)
            case c10 => exact .inr (.inl fun b => ask_call hG (guard_none rfl) _ _ _ #[.int .i64 n, .agg cy, .int .u64 (J : Int), .int .u64 (q : Int), vs] (.is (.tuple #[.agg cz, .int .i64 2])) rfl (by kernel_rfl) rfl rfl (by intro k hk; cases hk; rfl) (fun W hW => (HShort.out W hW).mono fun e w' h => ⟨_, h.1, rfl, h.2⟩))
            case c11 => exact .inr (.inl fun b => ask_copy (guard_none rfl) (.tmp 85) (.inl rfl) (by intro k hk; cases hk; rfl))
            case c12 => exact .inr (.inl fun b => ask_exec (guard_none rfl) (.agg cz) rfl rfl (by intro k hk; cases hk; rfl) (fun W hW => rfl))
            case c13 => exact .inr (.inl fun b => ask_exec (guard_none rfl) (.int .i64 2) rfl rfl (by intro k hk; cases hk; rfl) (fun W hW => rfl))
            case c14 => exact .inr (.inl fun b => ask_alloc hG (guard_none rfl) _ (.agg (bs (List.replicate 32 0))) (var32F W0.heap.size) rfl (fun W => by kernel_rfl) (by intro k hk; cases hk; rfl) (fun W hW => ⟨_, _, rfl, hB W hW, Blk.new W _ _, rfl⟩))
            case c15 => exact .inl rfl
            case c16 => exact .inr (.inl fun b => ask_copy (guard_none rfl) (.tmp 87) (.inr rfl) (by intro k hk; cases hk; rfl))
          · intro x W hW hk
            obtain ⟨g, zs, e1, e2, e3, e30⟩ : ∃ g zs, x 16 = .pointer (some ⟨g, 0, none⟩) ∧ W0.heap.size ≤ g ∧ Blk W g 30 zs ∧ zs.size = 32 := hk 16 rfl
            have e4 : x 86 = .agg cz := hk 86 rfl
            refine ⟨guard_ok (guard_none rfl) hk, gives_store 30 (.tmp 16) (.tmp 86) rfl (.pointer (some ⟨g, 0, none⟩)) (.agg cz) e1 e4 (e3.stores 30 _ HSz.out (by rw [e30, HZ1.out]) HZo.out) ⟨below_setRow hW g _ e2, fun k hlv hu => ?_⟩⟩
            by_cases h16 : k = 16
            · subst h16
              exact ⟨g, _, e1, e2, e3.row _, HZ1.out⟩
            · simp only [factsOf_ne h16] at hu ⊢
              refine facts_keep (fun q hq u hu => ?_) k _ hu
              simp only [List.mem_cons, List.not_mem_nil, or_false] at hq
              rcases hq with rfl | rfl | rfl | rfl | rfl | rfl | rfl | rfl | rfl | rfl | rfl | rfl | rfl | rfl | rfl
              all_goals exact hu
          · intro b' W3 hW hd' hs' hf'
            have t0 : b'.tmps.getD 0 undef = .int .i64 n := hf' 0 rfl
            have t1 : b'.tmps.getD 1 undef = .slice (some ad) q c := hf' 1 rfl
            have t2 : b'.tmps.getD 2 undef = .int .i64 (J : Int) := hf' 2 rfl
            have t4 : b'.tmps.getD 4 undef = .int .u8 (kk : Int) := hf' 4 rfl
            have t8 : b'.tmps.getD 8 undef = .pointer (some ⟨w.heap.size, 0, none⟩) := hf' 8 rfl
            have t10 : b'.tmps.getD 10 undef = .bool false := hf' 10 rfl
            have t11 : b'.tmps.getD 11 undef = .int .u64 (q : Int) := hf' 11 rfl
            have t12 : b'.tmps.getD 12 undef = .slice pa p pc := hf' 12 rfl
            have t13 : b'.tmps.getD 13 undef = .int .i64 0 := hf' 13 rfl
            have t17 : b'.tmps.getD 17 undef = .int .i64 2 := hf' 17 rfl
            obtain ⟨usW3, hus, ha'⟩ := act_open 113 b' hs' hd'
            rw [← hus] at t0 t1 t2 t4 t8 t10 t11 t12 t13 t17
            have el : ((List.range 113).map usW3).toArray = #[.int .i64 n, .slice (some ad) q c, .int .i64 (J : Int), usW3 3, .int .u8 (kk : Int), usW3 5, usW3 6, usW3 7, .pointer (some ⟨w.heap.size, 0, none⟩), usW3 9, .bool false, .int .u64 (q : Int), .slice pa p pc, .int .i64 0, usW3 14, usW3 15, usW3 16, .int .i64 2, usW3 18, usW3 19, usW3 20, usW3 21, usW3 22, usW3 23, usW3 24, usW3 25, usW3 26, usW3 27, usW3 28, usW3 29, usW3 30, usW3 31, usW3 32, usW3 33, usW3 34, usW3 35, usW3 36, usW3 37, usW3 38, usW3 39, usW3 40, usW3 41, usW3 42, usW3 43, usW3 44, usW3 45, usW3 46, usW3 47, usW3 48, usW3 49, usW3 50, usW3 51, usW3 52, usW3 53, usW3 54, usW3 55, usW3 56, usW3 57, usW3 58, usW3 59, usW3 60, usW3 61, usW3 62, usW3 63, usW3 64, usW3 65, usW3 66, usW3 67, usW3 68, usW3 69, usW3 70, usW3 71, usW3 72, usW3 73, usW3 74, usW3 75, usW3 76, usW3 77, usW3 78, usW3 79, usW3 80, usW3 81, usW3 82, usW3 83, usW3 84, usW3 85, usW3 86, usW3 87, usW3 88, usW3 89, usW3 90, usW3 91, usW3 92, usW3 93, usW3 94, usW3 95, usW3 96, usW3 97, usW3 98, usW3 99, usW3 100, usW3 101, usW3 102, usW3 103, usW3 104, usW3 105, usW3 106, usW3 107, usW3 108, usW3 109, usW3 110, usW3 111, usW3 112] := by
              show #[usW3 0, usW3 1, usW3 2, usW3 3, usW3 4, usW3 5, usW3 6, usW3 7, usW3 8, usW3 9, usW3 10, usW3 11, usW3 12, usW3 13, usW3 14, usW3 15, usW3 16, usW3 17, usW3 18, usW3 19, usW3 20, usW3 21, usW3 22, usW3 23, usW3 24, usW3 25, usW3 26, usW3 27, usW3 28, usW3 29, usW3 30, usW3 31, usW3 32, usW3 33, usW3 34, usW3 35, usW3 36, usW3 37, usW3 38, usW3 39, usW3 40, usW3 41, usW3 42, usW3 43, usW3 44, usW3 45, usW3 46, usW3 47, usW3 48, usW3 49, usW3 50, usW3 51, usW3 52, usW3 53, usW3 54, usW3 55, usW3 56, usW3 57, usW3 58, usW3 59, usW3 60, usW3 61, usW3 62, usW3 63, usW3 64, usW3 65, usW3 66, usW3 67, usW3 68, usW3 69, usW3 70, usW3 71, usW3 72, usW3 73, usW3 74, usW3 75, usW3 76, usW3 77, usW3 78, usW3 79, usW3 80, usW3 81, usW3 82, usW3 83, usW3 84, usW3 85, usW3 86, usW3 87, usW3 88, usW3 89, usW3 90, usW3 91, usW3 92, usW3 93, usW3 94, usW3 95, usW3 96, usW3 97, usW3 98, usW3 99, usW3 100, usW3 101, usW3 102, usW3 103, usW3 104, usW3 105, usW3 106, usW3 107, usW3 108, usW3 109, usW3 110, usW3 111, usW3 112] = _
              rw [t0, t1, t2, t4, t8, t10, t11, t12, t13, t17]
            rw [el] at ha'
            subst ha'
            clear hus t0 t1 t2 t4 t8 t10 t11 t12 t13 t17 el hf' hs' hd'
            have HB3 := Lib.hid (HBx.out.trans (hW.mono HBx.out.size))
            clear hW hG hB HB2 HBx HU2 HShort HVs
            obtain ⟨d, hd⟩ : ∃ d : Nat, d = kk % 64 := ⟨_, rfl⟩
            have hd64 : d < 64 := by omega
            have hd1 : (kk : Int) % 64 = (d : Int) := by omega
            obtain ⟨S2, hS2⟩ : ∃ S : Nat, S = 2 ^ d := ⟨_, rfl⟩
            have hS64 : S2 < 18446744073709551616 := by
              have := Nat.pow_lt_pow_right (a := 2) (by decide) hd64
              omega
            have hS0 : 0 < S2 := by rw [hS2]; exact Nat.pow_pos (by decide)
            have hsh : IntKind.u64.wrap ((2 : Int) ^ d) = (S2 : Int) := by
              rw [show ((2 : Int) ^ d) = ((2 ^ d : Nat) : Int) by simp, ← hS2, IntKind.wrap_u64]
              omega
            obtain ⟨J2, hJ2⟩ : ∃ x : Nat, x = J % S2 := ⟨_, rfl⟩
            have hJ2S : J2 < S2 := by rw [hJ2]; exact Nat.mod_lt _ hS0
            have hz1 : sizeP J2 S2 = d := by rw [hS2]; exact sizeP_pow d J2 (by omega)
            have hjm : (J : Int) % (S2 : Int) = (J2 : Int) := by rw [hJ2]; rfl
            have Z1 := Lib.hid (fun (W : World) => HP.out.size J2 S2 W (by omega) hS64)
            rw [hz1] at Z1
            have Z2 := Lib.hid (fun (W : World) => HP.out.size S2 S2 W hS64 hS64)
            rw [sizeP_out S2 S2 (Nat.le_refl _)] at Z2
            have Z3 := Lib.hid (fun (W : World) => HP.out.size 0 0 W (by decide) (by decide))
            rw [sizeP_out 0 0 (Nat.le_refl _)] at Z3
            have hS00 : ((S2 : Int) == 0) = false := by simp; omega
            have HD1 := Lib.hid hd1
            have HSh := Lib.hid hsh
            have HJm := Lib.hid hjm
            clear hd hd1 hS2 hsh hJ2 hz1 hjm
            go_upto_region 18 with fail
            rw [HD1.out]
            go_upto_region 19 with fail
            rw [HSh.out]
            go_wp2_with fail
            rw [HJm.out]
            refine (Z1.out _).mono ?_
            rintro e Wy ⟨rfl, hby⟩
            have HBy := Lib.hid (HB3.out.trans (hby.mono HB3.out.size))
            clear hby Z1
            go_wp2_with fail
            refine (Z2.out _).mono ?_
            rintro e Wz ⟨rfl, hbz⟩
            have HBz := Lib.hid (HBy.out.trans (hbz.mono HBy.out.size))
            clear hbz Z2 HBy
            go_wp2_with fail
            refine (Z3.out _).mono ?_
            rintro e Wv ⟨rfl, hbv⟩
            have HBv := Lib.hid (HBz.out.trans (hbv.mono HBz.out.size))
            clear hbv Z3 HBz
            go_wp2
            go_ret
            exact ⟨rfl, HBv.out⟩
end Go.Proofs.YtdhfabjkpffhnabDoor

/- A climb step by step, as RFC 9162 has it (2.1.3.2). -/
namespace Go.Proofs.YtdhfabjkpffhnabDoor
open ShaMath LeafMath PathMath

theorem sizeP_pos {i n : Nat} (h2 : 2 ≤ n) (hi : i < n) : 1 ≤ sizeP i n := by
  by_cases h : i < splitN n
  · rw [sizeP_left h2 h]
    omega
  · rw [sizeP_right h2 h hi]
    omega

/-- Behind k hashes: leaf at of L + 1, and the hash h. -/
structure StepI (w : Int) (i n : Nat) (ps : List Hs) (h0 : Hs) (k a L : Nat) (h : Hs) : Prop where
  le : a ≤ L
  bound : L < n
  size : sizeP i n = k + sizeP a (L + 1)
  climb : ps.length = sizeP i n → climbP w i n ps h0 = climbP w a (L + 1) (ps.drop k) h

theorem StepI.start (w : Int) {i n : Nat} (ps : List Hs) (h0 : Hs) (hi : i < n) : StepI w i n ps h0 0 i (n - 1) h0 := by
  have e : n - 1 + 1 = n := by omega
  exact ⟨by omega, by omega, by rw [e]; omega, fun _ => by rw [e]; rfl⟩

theorem drop_some {ps : List Hs} {k : Nat} {x : Hs} (hx : ps[k]? = some x) : ps.drop k = x :: ps.drop (k + 1) := by
  obtain ⟨hk, e⟩ := List.getElem?_eq_some_iff.1 hx
  rw [List.drop_eq_getElem_cons hk, e]

/-- One step up, at a leaf that isn't the last of an odd number. -/
theorem StepI.up {w : Int} {i n : Nat} {ps : List Hs} {h0 : Hs} {k a L : Nat} {h x : Hs} (H : StepI w i n ps h0 k a L h) (hL : L ≠ 0) (hx : ps[k]? = some x) (hc : ¬ (a % 2 = 0 ∧ a = L)) :
    StepI w i n ps h0 (k + 1) (a / 2) (L / 2) (if a % 2 = 1 then nodeH w x h else nodeH w h x) := by
  have hs := sizeP_up (L + 1) a (by omega) (by have := H.le; omega)
  rw [if_neg (by omega), show (L + 1 + 1) / 2 = L / 2 + 1 by omega] at hs
  refine ⟨by have := H.le; omega, by have := H.bound; omega, by rw [H.size, hs]; omega, fun hl => ?_⟩
  rw [H.climb hl, drop_some hx, climb_up w (L + 1) a x _ h (by omega) (by have := H.le; omega) (by omega) (by
    have h1 := H.size
    have h2 := (List.getElem?_eq_some_iff.1 hx).1
    rw [List.length_drop]
    omega), show (L + 1 + 1) / 2 = L / 2 + 1 by omega]

/-- The last leaf of an odd number goes up alone. -/
theorem StepI.alone {w : Int} {i n : Nat} {ps : List Hs} {h0 : Hs} {k a : Nat} {h : Hs} (H : StepI w i n ps h0 k a a h) (ha : a ≠ 0) (he : a % 2 = 0) : StepI w i n ps h0 k (a / 2) (a / 2) h := by
  have hs := sizeP_up (a + 1) a (by omega) (by omega)
  rw [if_pos ⟨he, rfl⟩, show (a + 1 + 1) / 2 = a / 2 + 1 by omega] at hs
  refine ⟨Nat.le_refl _, by have := H.bound; omega, by rw [H.size, hs]; omega, fun hl => ?_⟩
  rw [H.climb hl, climb_last w _ h (by omega) he rfl (by
    have h1 := H.size
    rw [List.length_drop]
    omega), show (a + 1 + 1) / 2 = a / 2 + 1 by omega]

theorem StepI.stop {w : Int} {i n : Nat} {ps : List Hs} {h0 : Hs} {k a : Nat} {h : Hs} (H : StepI w i n ps h0 k a 0 h) : sizeP i n = k ∧ (ps.length = k → climbP w i n ps h0 = h) := by
  have e := H.size
  rw [Nat.zero_add, sizeP_one] at e
  refine ⟨by omega, fun hl => ?_⟩
  rw [H.climb (by omega), Nat.zero_add, climbP_one _ _ _ _ _ (by decide)]
theorem StepI.on {w : Int} {i n : Nat} {ps : List Hs} {h0 : Hs} {k a L : Nat} {h : Hs} (H : StepI w i n ps h0 k a L h) (hL : L ≠ 0) : k < sizeP i n := by
  have h1 := sizeP_pos (i := a) (n := L + 1) (by omega) (by have := H.le; omega)
  have := H.size
  omega
end Go.Proofs.YtdhfabjkpffhnabDoor

/- PathSteps: the walk. -/
namespace Go.Proofs.YtdhfabjkpffhnabDoor
set_option maxRecDepth 20000
open Go.RowKit ShaMath LeafMath PathMath Reg

/-- Between two steps. -/
def SsAt (n : Int) (i m : Nat) (ps : List Hs) (h : Hs) (X : Hs) (g : Nat) (w : World) (s13 s14 s15 : Value) (wr : World) : Prop :=
  ∃ (k a L : Nat) (hh : Hs), k ≤ ps.length ∧ s13 = .int .u64 (a : Int) ∧ s14 = .int .u64 (L : Int) ∧ s15 = .int .i64 (k : Int) ∧ StepI n i m ps h k a L hh ∧ hh.length = 32 ∧
    Blk wr w.heap.size 30 (bs hh) ∧ Blk wr g 30 (bs X) ∧ Below w.heap.size w wr

set_option maxHeartbeats 2000000 in
set_option maxRecDepth 100000 in
theorem pathSteps_walk (hp : PathProg) (hq0 : LeafProg) (n : Int) (hn : I64 n) (h : Hs) (hh : h.length = 32) (i m : Nat) (hi : i < 18446744073709551616) (hm : m < 18446744073709551616) (ps : List Hs) (v : Value) (w : World) (hv : Hss w v ps) (hl : ps.length ≤ 4398046511104) (ht : Tabs w) :
    Calls Tryd.prog 7 #[.int .i64 n, .agg (bs h), .int .u64 (i : Int), .int .u64 (m : Int), v] w fun e w' => e = .returned (.bool true) ∧ Below w.heap.size w w' := by
  obtain ⟨a, c, rfl, hc⟩ := hv.form
  obtain ⟨q, hq⟩ : ∃ q, q = ps.length := ⟨_, rfl⟩
  rw [← hq] at hv hc hl ⊢
  obtain ⟨⟨X, E⟩, hXE⟩ : ∃ R, R = climbR n h i m ps := ⟨_, rfl⟩
  have hX32 : X.length = 32 := by have := climbR_32 n h i m ps hh; rwa [← hXE] at this
  have HT := Lib.hid ht
  have HP := Lib.hid hp
  have HQ := Lib.hid hq0
  have HN := Lib.hid hn
  have HV := Lib.hid hv
  have HL := Lib.hid hq
  have HH := Lib.hid hh
  have HXE := Lib.hid hXE
  have HX := Lib.hid hX32
  have HClimb := Lib.hid (fun (W : World) (hW : Below w.heap.size w W) => hp.climb n h i m ps (.slice a q c) W hn hh hi hm (hv.below (Nat.le_refl _) hW) (by omega) (ht.below (Nat.le_refl _) hW))
  rw [← hXE] at HClimb
  obtain ⟨ch, hch, hch1, hcho⟩ := hash_cells h hh
  obtain ⟨cx, hcx, hcx1, hcxo⟩ := hash_cells X hX32
  simp only at HClimb
  rw [← hch, ← hcx] at HClimb
  rw [← hch]
  have HCh := Lib.hid hch
  have HCx := Lib.hid hcx
  have HSh := Lib.hid (size_hash hch1)
  have HSx := Lib.hid (size_hash hcx1)
  have HC1 := Lib.hid hcx1
  have HXo := Lib.hid hcxo
  clear hp hq0 hn hv hq hh hXE hX32 ht hch hch1 hcho hcx hcx1 hcxo
  go_enter Tryd.func7, Tryd.ntmps7
  go_wp2_with fail
  have hb0 : Below w.heap.size w (w.alloc (.cells ch 30)) := (Below.refl _ _).alloc (Nat.le_refl _) _
  refine (awake15_any HP.out HQ.out _ (HT.out.below (Nat.le_refl _) hb0)).mono ?_
  rintro e W1 ⟨rfl, hb1⟩
  have hB1 := hb0.trans (hb1.mono (by simp))
  have hk1 := (Blk.new w 30 ch).keep hb1
  have HB1 := Lib.hid hB1
  have HK1 := Lib.hid hk1
  clear hb0 hb1 hB1 hk1
  go_wp2_with (refine wpList_load_row rfl 30 (.tmp 6) rfl w.heap.size rfl 30 ch (0, 0) _ HK1.out Tryd.underlying30 rfl HSh.out ?_)
  refine (HClimb.out _ HB1.out).mono ?_
  rintro e W2 ⟨rfl, hb2⟩
  have hB2 := HB1.out.trans (hb2.mono HB1.out.size)
  have hs2 := hB2.size
  have hk2 := HK1.out.keep hb2
  have hk2l := hk2.lt
  have HB2 := Lib.hid hB2
  have HK2 := Lib.hid hk2
  clear hb2 hB2 hk2 HB1 HK1
  go_upto_region 4 with (refine wpList_store_row rfl 30 (.tmp 11) (.tmp 25) rfl W2.heap.size cx rfl rfl 30 _ (Blk.new W2 _ _) HSx.out (by rw [HC1.out]; rfl) HXo.out ?_)
  obtain ⟨g, hg⟩ : ∃ g, g = W2.heap.size := ⟨_, rfl⟩
  refine world_cut (fun W => Blk W w.heap.size 30 ch ∧ Blk W g 30 cx ∧ Below w.heap.size w W) ⟨(HK2.out.alloc _).rowOther _ (by omega), by rw [hg]; exact Blk.row (Blk.new W2 _ _) _, below_setRow (HB2.out.alloc hs2 _) _ _ hs2⟩ ?_
  have hgw : w.heap.size < g := by omega
  rw [← hg]
  clear hg hs2 hk2l HB2 HK2 HClimb
  rintro W3 ⟨h6, h11, h3⟩
  have HF6 := Lib.hid h6
  have HF11 := Lib.hid h11
  have HB3 := Lib.hid h3
  clear h6 h11 h3
  by_cases him : m ≤ i
  · have hE : E = 9 := by have := HXE.out; rw [climbR, if_pos him] at this; exact congrArg Prod.snd this
    subst hE
    have hge : decide ((i : Int) ≥ (m : Int)) = true := decide_eq_true (by omega)
    go_wp2
    go_ret
    exact ⟨rfl, HB3.out⟩
  · have hge : decide ((i : Int) ≥ (m : Int)) = false := decide_eq_false (by omega)
    obtain ⟨M1, hM1⟩ : ∃ M1 : Nat, (m : Int) - 1 = (M1 : Int) := ⟨m - 1, by omega⟩
    have HM2 := Lib.hid (show M1 = m - 1 by omega)
    go_upto_region 8 with fail
    have hM2 := HM2.out
    have hstart : SsAt n i m ps h X g w (.int .u64 (i : Int)) (.int .u64 (M1 : Int)) (.int .i64 0) W3 :=
      ⟨0, i, M1, h, Nat.zero_le _, rfl, rfl, rfl, by rw [hM2]; exact StepI.start n ps h (by omega), HH.out, by rw [← HCh.out]; exact HF6.out, by rw [← HCx.out]; exact HF11.out, HB3.out⟩
    have HStart := Lib.hid hstart
    clear hstart hM1 hM2 HM2 hge HF6 HF11 HB3 HH
    go_wp2
    go_loopw [13, 14, 15] (fun s13 s14 s15 wr => SsAt n i m ps h X g w s13 s14 s15 wr) (fun _ _ s15 _ => q - (intOf s15).toNat)
    case atStart => exact HStart.out
    case round =>
      obtain ⟨k, a1, L, hx, hkq, rfl, rfl, rfl, hst, hx32, hb6, hb11, hbw⟩ := hrel
      rw [← HL.out] at hkq
      have HSt := Lib.hid hst
      have HX32 := Lib.hid hx32
      have HF6 := Lib.hid hb6
      have HF11 := Lib.hid hb11
      have HBw := Lib.hid hbw
      have hL64 : L < 18446744073709551616 := by have := hst.bound; omega
      have ha64 : a1 ≤ L := hst.le
      clear hst hx32 hb6 hb11 hbw HStart
      by_cases hlt : k < q
      · by_cases hL0 : L = 0
        · subst hL0
          have hE : E = 4 := by
            have h1 := HXE.out
            have h2 := HSt.out.stop.1
            have h3 := HL.out
            rw [climbR, if_neg him, if_neg (by omega), if_pos (by omega)] at h1
            exact congrArg Prod.snd h1
          subst hE
          go_wp2
          go_ret
          exact ⟨rfl, HBw.out⟩
        · obtain ⟨y, hy⟩ : ∃ y, ps[k]? = some y := ⟨ps[k]'(by have := HL.out; omega), List.getElem?_eq_getElem _⟩
          obtain ⟨ad, rfl, -⟩ := HV.out.load hy
          have HY := Lib.hid hy
          have HY32 := Lib.hid (HV.out.all.get hy)
          clear hy
          by_cases hodd : a1 % 2 = 1
          · have hod : (a1 : Int) % 2 = 1 := by omega
            go_upto_region 14 with fail
            obtain ⟨cn, hcn, hcn1, hcno⟩ := hash_cells (nodeH n y hx) (nodeH_length _ _ _)
            obtain ⟨cy, hcy, hcy1, _⟩ := hash_cells y HY32.out
            obtain ⟨cz, hcz, hcz1, _⟩ := hash_cells hx HX32.out
            have HNode := Lib.hid (fun (W : World) (hW : Below w.heap.size w W) => HQ.out.node n y hx W HN.out HY32.out HX32.out (HT.out.below (Nat.le_refl _) hW))
            have HLy := Lib.hid (fun (W : World) (hW : Below w.heap.size w W) => load_hash W (ad.add (k * 32)) y HY32.out fun j u hj => by
              obtain ⟨ad2, e, h⟩ := (HV.out.below (Nat.le_refl _) hW).load HY.out
              cases e
              exact h j u hj)
            rw [← hcn, ← hcy, ← hcz] at HNode
            rw [← hcy] at HLy
            have HF6 := Lib.hid (show Blk wr w.heap.size 30 cz by rw [hcz]; exact HF6.out)
            have HSz := Lib.hid (size_hash hcz1)
            have HSn := Lib.hid (size_hash hcn1)
            have HCn := Lib.hid hcn
            have HC1n := Lib.hid hcn1
            have HC1z := Lib.hid hcz1
            have HNo := Lib.hid hcno
            clear hcn hcn1 hcno hcy hcy1 hcz hcz1
            have hG : ∀ W W' : World, (Blk W w.heap.size 30 cz ∧ Blk W g 30 (bs X) ∧ Below w.heap.size w W) → Below W.heap.size W W' → (Blk W' w.heap.size 30 cz ∧ Blk W' g 30 (bs X) ∧ Below w.heap.size w W') := fun W W' h h' => ⟨h.1.keep h', h.2.1.keep h', h.2.2.trans (h'.mono h.2.2.size)⟩
            refine region_tail_by 7 _ [(53, .is (.int .i64 n)), (54, .is (.slice (some ad) q c)), (55, .is (.int .i64 (k : Int))), (56, .is (.pointer (some (ad.add (k * 32))))), (57, .is (.agg cy)), (58, .is (.agg cz)), (59, .is (.agg cn))] [0, 1, 2, 3, 4, 5, 6, 7, 8, 9, 11, 12, 13, 14, 15, 16, 17, 18, 19, 20, 21, 22, 23, 24, 25, 26, 27, 28, 29, 30, 31, 32, 33, 34, 59, 82, 83, 84, 85, 86, 87, 88, 89, 90, 91, 92]
              (fun W => Blk W w.heap.size 30 cz ∧ Blk W g 30 (bs X) ∧ Below w.heap.size w W) (by kernel_rfl) (by kernel_rfl) (by kernel_rfl) (by kernel_rfl) (by kernel_rfl) rfl rfl rfl rfl (by kernel_rfl) (hG _ _ ⟨HF6.out, HF11.out, HBw.out⟩ (Below.refl _ _).drew) ?_ ?_
            · refine ⟨?a0, ?a1, ?a2, ?a3, ?a4, ?a5, ?a6, trivial⟩
              case a0 => exact ask_copy (guard_none rfl) (.tmp 0) (.inl rfl) (by intro k hk; cases hk; rfl)
              case a1 => exact ask_copy (guard_none rfl) (.tmp 4) (.inl rfl) (by intro k hk; cases hk; rfl)
              case a2 => exact ask_copy (guard_none rfl) (.tmp 15) (.inl rfl) (by intro k hk; cases hk; rfl)
              case a3 => exact ask_idx (guard_none rfl) _ (.tmp 54) (.tmp 55) (.slice (some ad) q c) (.int .i64 (k : Int)) (.pointer (some (ad.add (k * 32)))) rfl rfl rfl (by intro k hk; cases hk; rfl) (fun W => hss_index W ad q c k hlt)
              case a4 => exact ask_load (guard_none rfl) _ (.tmp 56) (.pointer (some (ad.add (k * 32)))) (.agg cy) rfl rfl (by intro k hk; cases hk; rfl) (fun W hW => HLy.out W hW.2.2)
              case a5 => exact ask_load (guard_none rfl) _ (.tmp 6) (.pointer (some ⟨w.heap.size, 0, none⟩)) (.agg cz) rfl rfl (by intro k hk; cases hk; rfl) (fun W hW => hW.1.loads 30 _ Tryd.underlying30 rfl HSz.out)
              case a6 => exact ask_call hG (guard_none rfl) _ _ _ #[.int .i64 n, .agg cy, .agg cz] (.is (.agg cn)) rfl (by kernel_rfl) rfl rfl (by intro k hk; cases hk; rfl) (fun W hW => (HNode.out W hW.2.2).mono fun e w' h => ⟨_, h.1, rfl, h.2⟩)
            intro a' W5 hW hd' hs' hf'
            have t0 : a'.tmps.getD 0 undef = .int .i64 n := hf' 0 rfl
            have t1 : a'.tmps.getD 1 undef = .agg ch := hf' 1 rfl
            have t2 : a'.tmps.getD 2 undef = .int .u64 (i : Int) := hf' 2 rfl
            have t3 : a'.tmps.getD 3 undef = .int .u64 (m : Int) := hf' 3 rfl
            have t4 : a'.tmps.getD 4 undef = .slice (some ad) q c := hf' 4 rfl
            have t5 : a'.tmps.getD 5 undef = undef := hf' 5 rfl
            have t6 : a'.tmps.getD 6 undef = .pointer (some ⟨w.heap.size, 0, none⟩) := hf' 6 rfl
            have t7 : a'.tmps.getD 7 undef = undef := hf' 7 rfl
            have t8 : a'.tmps.getD 8 undef = undef := hf' 8 rfl
            have t9 : a'.tmps.getD 9 undef = undef := hf' 9 rfl
            have t11 : a'.tmps.getD 11 undef = .pointer (some ⟨g, 0, none⟩) := hf' 11 rfl
            have t12 : a'.tmps.getD 12 undef = .int .i64 (E : Int) := hf' 12 rfl
            have t13 : a'.tmps.getD 13 undef = .int .u64 (a1 : Int) := hf' 13 rfl
            have t14 : a'.tmps.getD 14 undef = .int .u64 (L : Int) := hf' 14 rfl
            have t15 : a'.tmps.getD 15 undef = .int .i64 (k : Int) := hf' 15 rfl
            have t16 : a'.tmps.getD 16 undef = .bool true := hf' 16 rfl
            have t17 : a'.tmps.getD 17 undef = .bool false := hf' 17 rfl
            have t18 : a'.tmps.getD 18 undef = .tuple #[.agg cx, .int .i64 (E : Int)] := hf' 18 rfl
            have t19 : a'.tmps.getD 19 undef = .int .i64 n := hf' 19 rfl
            have t20 : a'.tmps.getD 20 undef = .agg ch := hf' 20 rfl
            have t21 : a'.tmps.getD 21 undef = .int .u64 (i : Int) := hf' 21 rfl
            have t22 : a'.tmps.getD 22 undef = .int .u64 (m : Int) := hf' 22 rfl
            have t23 : a'.tmps.getD 23 undef = .slice (some ad) q c := hf' 23 rfl
            have t24 : a'.tmps.getD 24 undef = .tuple #[.agg cx, .int .i64 (E : Int)] := hf' 24 rfl
            have t25 : a'.tmps.getD 25 undef = .agg cx := hf' 25 rfl
            have t26 : a'.tmps.getD 26 undef = .int .i64 (E : Int) := hf' 26 rfl
            have t27 : a'.tmps.getD 27 undef = .int .u64 (i : Int) := hf' 27 rfl
            have t28 : a'.tmps.getD 28 undef = .int .u64 (m : Int) := hf' 28 rfl
            have t29 : a'.tmps.getD 29 undef = .bool false := hf' 29 rfl
            have t30 : a'.tmps.getD 30 undef = undef := hf' 30 rfl
            have t31 : a'.tmps.getD 31 undef = undef := hf' 31 rfl
            have t32 : a'.tmps.getD 32 undef = .int .u64 (i : Int) := hf' 32 rfl
            have t33 : a'.tmps.getD 33 undef = .int .u64 (m : Int) := hf' 33 rfl
            have t34 : a'.tmps.getD 34 undef = .int .u64 (M1 : Int) := hf' 34 rfl
            have t59 : a'.tmps.getD 59 undef = .agg cn := hf' 59 rfl
            have t82 : a'.tmps.getD 82 undef = undef := hf' 82 rfl
            have t83 : a'.tmps.getD 83 undef = undef := hf' 83 rfl
            have t84 : a'.tmps.getD 84 undef = undef := hf' 84 rfl
            have t85 : a'.tmps.getD 85 undef = undef := hf' 85 rfl
            have t86 : a'.tmps.getD 86 undef = undef := hf' 86 rfl
            have t87 : a'.tmps.getD 87 undef = undef := hf' 87 rfl
            have t88 : a'.tmps.getD 88 undef = undef := hf' 88 rfl
            have t89 : a'.tmps.getD 89 undef = undef := hf' 89 rfl
            have t90 : a'.tmps.getD 90 undef = undef := hf' 90 rfl
            have t91 : a'.tmps.getD 91 undef = undef := hf' 91 rfl
            have t92 : a'.tmps.getD 92 undef = undef := hf' 92 rfl
            obtain ⟨us', hus, ha'⟩ := act_open 93 a' hs' hd'
            rw [← hus] at t0 t1 t2 t3 t4 t5 t6 t7 t8 t9 t11 t12 t13 t14 t15 t16 t17 t18 t19 t20 t21 t22 t23 t24 t25 t26 t27 t28 t29 t30 t31 t32 t33 t34 t59 t82 t83 t84 t85 t86 t87 t88 t89 t90 t91 t92
            have el : ((List.range 93).map us').toArray = #[.int .i64 n, .agg ch, .int .u64 (i : Int), .int .u64 (m : Int), .slice (some ad) q c, undef, .pointer (some ⟨w.heap.size, 0, none⟩), undef, undef, undef, us' 10, .pointer (some ⟨g, 0, none⟩), .int .i64 (E : Int), .int .u64 (a1 : Int), .int .u64 (L : Int), .int .i64 (k : Int), .bool true, .bool false, .tuple #[.agg cx, .int .i64 (E : Int)], .int .i64 n, .agg ch, .int .u64 (i : Int), .int .u64 (m : Int), .slice (some ad) q c, .tuple #[.agg cx, .int .i64 (E : Int)], .agg cx, .int .i64 (E : Int), .int .u64 (i : Int), .int .u64 (m : Int), .bool false, undef, undef, .int .u64 (i : Int), .int .u64 (m : Int), .int .u64 (M1 : Int), us' 35, us' 36, us' 37, us' 38, us' 39, us' 40, us' 41, us' 42, us' 43, us' 44, us' 45, us' 46, us' 47, us' 48, us' 49, us' 50, us' 51, us' 52, us' 53, us' 54, us' 55, us' 56, us' 57, us' 58, .agg cn, us' 60, us' 61, us' 62, us' 63, us' 64, us' 65, us' 66, us' 67, us' 68, us' 69, us' 70, us' 71, us' 72, us' 73, us' 74, us' 75, us' 76, us' 77, us' 78, us' 79, us' 80, us' 81, undef, undef, undef, undef, undef, undef, undef, undef, undef, undef, undef] := by
              show #[us' 0, us' 1, us' 2, us' 3, us' 4, us' 5, us' 6, us' 7, us' 8, us' 9, us' 10, us' 11, us' 12, us' 13, us' 14, us' 15, us' 16, us' 17, us' 18, us' 19, us' 20, us' 21, us' 22, us' 23, us' 24, us' 25, us' 26, us' 27, us' 28, us' 29, us' 30, us' 31, us' 32, us' 33, us' 34, us' 35, us' 36, us' 37, us' 38, us' 39, us' 40, us' 41, us' 42, us' 43, us' 44, us' 45, us' 46, us' 47, us' 48, us' 49, us' 50, us' 51, us' 52, us' 53, us' 54, us' 55, us' 56, us' 57, us' 58, us' 59, us' 60, us' 61, us' 62, us' 63, us' 64, us' 65, us' 66, us' 67, us' 68, us' 69, us' 70, us' 71, us' 72, us' 73, us' 74, us' 75, us' 76, us' 77, us' 78, us' 79, us' 80, us' 81, us' 82, us' 83, us' 84, us' 85, us' 86, us' 87, us' 88, us' 89, us' 90, us' 91, us' 92] = _
              rw [t0, t1, t2, t3, t4, t5, t6, t7, t8, t9, t11, t12, t13, t14, t15, t16, t17, t18, t19, t20, t21, t22, t23, t24, t25, t26, t27, t28, t29, t30, t31, t32, t33, t34, t59, t82, t83, t84, t85, t86, t87, t88, t89, t90, t91, t92]
            rw [el] at ha'
            subst ha'
            clear hus t0 t1 t2 t3 t4 t5 t6 t7 t8 t9 t11 t12 t13 t14 t15 t16 t17 t18 t19 t20 t21 t22 t23 t24 t25 t26 t27 t28 t29 t30 t31 t32 t33 t34 t59 t82 t83 t84 t85 t86 t87 t88 t89 t90 t91 t92 el hf' hs' hd'
            have HG6 := Lib.hid hW.1
            have HG11 := Lib.hid hW.2.1
            have HB5 := Lib.hid hW.2.2
            clear hW hG HF6 HF11 HBw HNode HLy
            go_wp2_with (refine wpList_store_rowTo rfl 30 (.tmp 6) (.tmp 59) rfl rfl w.heap.size cn rfl rfl 30 _ HG6.out HSn.out (by rw [HC1n.out, HC1z.out]) HNo.out ?_)
            refine world_cut (fun W => Blk W w.heap.size 30 cn ∧ Blk W g 30 (bs X) ∧ Below w.heap.size w W) ⟨HG6.out.row cn, HG11.out.rowOther _ (by omega), below_setRow HB5.out _ _ (Nat.le_refl _)⟩ ?_
            rintro W6 ⟨h6, h11, hb⟩
            have HF6 := Lib.hid h6
            have HF11 := Lib.hid h11
            have HB6 := Lib.hid hb
            clear h6 h11 hb HG6 HG11 HB5
            have hin : ∃ a3 L3 : Nat, Value.int .u64 (a1 : Int) = .int .u64 (a3 : Int) ∧ Value.int .u64 (L : Int) = .int .u64 (L3 : Int) ∧ StepI n i m ps h k a3 L3 hx ∧ a3 ≠ 0 ∧ L3 ≠ 0 ∧ (a3 % 2 = 1 ∨ a3 = L3) := ⟨a1, L, rfl, rfl, HSt.out, by omega, hL0, .inl hodd⟩
            have HIn := Lib.hid hin
            clear hin HSt
            go_loop [13, 14] (fun s13 s14 => ∃ a3 L3 : Nat, s13 = .int .u64 (a3 : Int) ∧ s14 = .int .u64 (L3 : Int) ∧ StepI n i m ps h k a3 L3 hx ∧ a3 ≠ 0 ∧ L3 ≠ 0 ∧ (a3 % 2 = 1 ∨ a3 = L3)) (fun s13 _ => natOf s13)
            case atStart => exact HIn.out
            case round =>
              obtain ⟨a3, L3, rfl, rfl, hst3, ha0, hL30, hor⟩ := hrel
              have hb3 : L3 < 18446744073709551616 := by have := hst3.bound; omega
              have hle3 : a3 ≤ L3 := hst3.le
              have HSn2 := Lib.hid hst3
              clear HIn hst3
              by_cases ho3 : a3 % 2 = 1
              · have hod3 : (a3 : Int) % 2 = 1 := by omega
                have hup := HSn2.out.up hL30 HY.out (by omega)
                rw [if_pos ho3] at hup
                obtain ⟨a2, ha2⟩ : ∃ x : Nat, (a3 : Int) / 2 = (x : Int) := ⟨a3 / 2, by omega⟩
                obtain ⟨L2, hL2⟩ : ∃ x : Nat, (L3 : Int) / 2 = (x : Int) := ⟨L3 / 2, by omega⟩
                have e2 : a3 / 2 = a2 := by omega
                have e3 : L3 / 2 = L2 := by omega
                rw [e2, e3] at hup
                have hnext : SsAt n i m ps h X g w (.int .u64 (a2 : Int)) (.int .u64 (L2 : Int)) (.int .i64 ((k + 1 : Nat) : Int)) W6 :=
                  ⟨k + 1, a2, L2, _, by rw [← HL.out]; omega, rfl, rfl, rfl, hup, nodeH_length _ _ _, by rw [← HCn.out]; exact HF6.out, HF11.out, HB6.out⟩
                have HNext := Lib.hid hnext
                clear hup e2 e3 hnext
                go_wp2
                go_roundw
                case rel => exact HNext.out
                case measure => simp [intOf]; omega
              · have hev3 : (a3 : Int) % 2 = 0 := by omega
                obtain rfl : a3 = L3 := by omega
                have hal := HSn2.out.alone ha0 (by omega)
                obtain ⟨a2, ha2⟩ : ∃ x : Nat, (a3 : Int) / 2 = (x : Int) := ⟨a3 / 2, by omega⟩
                have e2 : a3 / 2 = a2 := by omega
                rw [e2] at hal
                have ha20 : a2 ≠ 0 := by omega
                have ha2l : a2 < a3 := by omega
                have HAl := Lib.hid hal
                clear hal e2 HSn2 hor ho3
                go_wp2
                go_round
                case rel => exact ⟨a2, a2, rfl, rfl, HAl.out, ha20, ha20, .inr rfl⟩
                case measure => simpa [natOf] using ha2l
          · have hod : (a1 : Int) % 2 = 0 := by omega
            by_cases hlast : a1 = L
            · subst hlast
              go_upto_region 14 with fail
              obtain ⟨cn, hcn, hcn1, hcno⟩ := hash_cells (nodeH n y hx) (nodeH_length _ _ _)
              obtain ⟨cy, hcy, hcy1, _⟩ := hash_cells y HY32.out
              obtain ⟨cz, hcz, hcz1, _⟩ := hash_cells hx HX32.out
              have HNode := Lib.hid (fun (W : World) (hW : Below w.heap.size w W) => HQ.out.node n y hx W HN.out HY32.out HX32.out (HT.out.below (Nat.le_refl _) hW))
              have HLy := Lib.hid (fun (W : World) (hW : Below w.heap.size w W) => load_hash W (ad.add (k * 32)) y HY32.out fun j u hj => by
                obtain ⟨ad2, e, h⟩ := (HV.out.below (Nat.le_refl _) hW).load HY.out
                cases e
                exact h j u hj)
              rw [← hcn, ← hcy, ← hcz] at HNode
              rw [← hcy] at HLy
              have HF6 := Lib.hid (show Blk wr w.heap.size 30 cz by rw [hcz]; exact HF6.out)
              have HSz := Lib.hid (size_hash hcz1)
              have HSn := Lib.hid (size_hash hcn1)
              have HCn := Lib.hid hcn
              have HC1n := Lib.hid hcn1
              have HC1z := Lib.hid hcz1
              have HNo := Lib.hid hcno
              clear hcn hcn1 hcno hcy hcy1 hcz hcz1
              have hG : ∀ W W' : World, (Blk W w.heap.size 30 cz ∧ Blk W g 30 (bs X) ∧ Below w.heap.size w W) → Below W.heap.size W W' → (Blk W' w.heap.size 30 cz ∧ Blk W' g 30 (bs X) ∧ Below w.heap.size w W') := fun W W' h h' => ⟨h.1.keep h', h.2.1.keep h', h.2.2.trans (h'.mono h.2.2.size)⟩
              refine region_tail_by 7 _ [(53, .is (.int .i64 n)), (54, .is (.slice (some ad) q c)), (55, .is (.int .i64 (k : Int))), (56, .is (.pointer (some (ad.add (k * 32))))), (57, .is (.agg cy)), (58, .is (.agg cz)), (59, .is (.agg cn))] [0, 1, 2, 3, 4, 5, 6, 7, 8, 9, 11, 12, 13, 14, 15, 16, 17, 18, 19, 20, 21, 22, 23, 24, 25, 26, 27, 28, 29, 30, 31, 32, 33, 34, 59, 82, 83, 84, 85, 86, 87, 88, 89, 90, 91, 92]
                (fun W => Blk W w.heap.size 30 cz ∧ Blk W g 30 (bs X) ∧ Below w.heap.size w W) (by kernel_rfl) (by kernel_rfl) (by kernel_rfl) (by kernel_rfl) (by kernel_rfl) rfl rfl rfl rfl (by kernel_rfl) (hG _ _ ⟨HF6.out, HF11.out, HBw.out⟩ (Below.refl _ _).drew) ?_ ?_
              · refine ⟨?a0, ?a1, ?a2, ?a3, ?a4, ?a5, ?a6, trivial⟩
                case a0 => exact ask_copy (guard_none rfl) (.tmp 0) (.inl rfl) (by intro k hk; cases hk; rfl)
                case a1 => exact ask_copy (guard_none rfl) (.tmp 4) (.inl rfl) (by intro k hk; cases hk; rfl)
                case a2 => exact ask_copy (guard_none rfl) (.tmp 15) (.inl rfl) (by intro k hk; cases hk; rfl)
                case a3 => exact ask_idx (guard_none rfl) _ (.tmp 54) (.tmp 55) (.slice (some ad) q c) (.int .i64 (k : Int)) (.pointer (some (ad.add (k * 32)))) rfl rfl rfl (by intro k hk; cases hk; rfl) (fun W => hss_index W ad q c k hlt)
                case a4 => exact ask_load (guard_none rfl) _ (.tmp 56) (.pointer (some (ad.add (k * 32)))) (.agg cy) rfl rfl (by intro k hk; cases hk; rfl) (fun W hW => HLy.out W hW.2.2)
                case a5 => exact ask_load (guard_none rfl) _ (.tmp 6) (.pointer (some ⟨w.heap.size, 0, none⟩)) (.agg cz) rfl rfl (by intro k hk; cases hk; rfl) (fun W hW => hW.1.loads 30 _ Tryd.underlying30 rfl HSz.out)
                case a6 => exact ask_call hG (guard_none rfl) _ _ _ #[.int .i64 n, .agg cy, .agg cz] (.is (.agg cn)) rfl (by kernel_rfl) rfl rfl (by intro k hk; cases hk; rfl) (fun W hW => (HNode.out W hW.2.2).mono fun e w' h => ⟨_, h.1, rfl, h.2⟩)
              intro a' W5 hW hd' hs' hf'
              have t0 : a'.tmps.getD 0 undef = .int .i64 n := hf' 0 rfl
              have t1 : a'.tmps.getD 1 undef = .agg ch := hf' 1 rfl
              have t2 : a'.tmps.getD 2 undef = .int .u64 (i : Int) := hf' 2 rfl
              have t3 : a'.tmps.getD 3 undef = .int .u64 (m : Int) := hf' 3 rfl
              have t4 : a'.tmps.getD 4 undef = .slice (some ad) q c := hf' 4 rfl
              have t5 : a'.tmps.getD 5 undef = undef := hf' 5 rfl
              have t6 : a'.tmps.getD 6 undef = .pointer (some ⟨w.heap.size, 0, none⟩) := hf' 6 rfl
              have t7 : a'.tmps.getD 7 undef = undef := hf' 7 rfl
              have t8 : a'.tmps.getD 8 undef = undef := hf' 8 rfl
              have t9 : a'.tmps.getD 9 undef = undef := hf' 9 rfl
              have t11 : a'.tmps.getD 11 undef = .pointer (some ⟨g, 0, none⟩) := hf' 11 rfl
              have t12 : a'.tmps.getD 12 undef = .int .i64 (E : Int) := hf' 12 rfl
              have t13 : a'.tmps.getD 13 undef = .int .u64 (a1 : Int) := hf' 13 rfl
              have t14 : a'.tmps.getD 14 undef = .int .u64 (a1 : Int) := hf' 14 rfl
              have t15 : a'.tmps.getD 15 undef = .int .i64 (k : Int) := hf' 15 rfl
              have t16 : a'.tmps.getD 16 undef = .bool true := hf' 16 rfl
              have t17 : a'.tmps.getD 17 undef = .bool false := hf' 17 rfl
              have t18 : a'.tmps.getD 18 undef = .tuple #[.agg cx, .int .i64 (E : Int)] := hf' 18 rfl
              have t19 : a'.tmps.getD 19 undef = .int .i64 n := hf' 19 rfl
              have t20 : a'.tmps.getD 20 undef = .agg ch := hf' 20 rfl
              have t21 : a'.tmps.getD 21 undef = .int .u64 (i : Int) := hf' 21 rfl
              have t22 : a'.tmps.getD 22 undef = .int .u64 (m : Int) := hf' 22 rfl
              have t23 : a'.tmps.getD 23 undef = .slice (some ad) q c := hf' 23 rfl
              have t24 : a'.tmps.getD 24 undef = .tuple #[.agg cx, .int .i64 (E : Int)] := hf' 24 rfl
              have t25 : a'.tmps.getD 25 undef = .agg cx := hf' 25 rfl
              have t26 : a'.tmps.getD 26 undef = .int .i64 (E : Int) := hf' 26 rfl
              have t27 : a'.tmps.getD 27 undef = .int .u64 (i : Int) := hf' 27 rfl
              have t28 : a'.tmps.getD 28 undef = .int .u64 (m : Int) := hf' 28 rfl
              have t29 : a'.tmps.getD 29 undef = .bool false := hf' 29 rfl
              have t30 : a'.tmps.getD 30 undef = undef := hf' 30 rfl
              have t31 : a'.tmps.getD 31 undef = undef := hf' 31 rfl
              have t32 : a'.tmps.getD 32 undef = .int .u64 (i : Int) := hf' 32 rfl
              have t33 : a'.tmps.getD 33 undef = .int .u64 (m : Int) := hf' 33 rfl
              have t34 : a'.tmps.getD 34 undef = .int .u64 (M1 : Int) := hf' 34 rfl
              have t59 : a'.tmps.getD 59 undef = .agg cn := hf' 59 rfl
              have t82 : a'.tmps.getD 82 undef = undef := hf' 82 rfl
              have t83 : a'.tmps.getD 83 undef = undef := hf' 83 rfl
              have t84 : a'.tmps.getD 84 undef = undef := hf' 84 rfl
              have t85 : a'.tmps.getD 85 undef = undef := hf' 85 rfl
              have t86 : a'.tmps.getD 86 undef = undef := hf' 86 rfl
              have t87 : a'.tmps.getD 87 undef = undef := hf' 87 rfl
              have t88 : a'.tmps.getD 88 undef = undef := hf' 88 rfl
              have t89 : a'.tmps.getD 89 undef = undef := hf' 89 rfl
              have t90 : a'.tmps.getD 90 undef = undef := hf' 90 rfl
              have t91 : a'.tmps.getD 91 undef = undef := hf' 91 rfl
              have t92 : a'.tmps.getD 92 undef = undef := hf' 92 rfl
              obtain ⟨us', hus, ha'⟩ := act_open 93 a' hs' hd'
              rw [← hus] at t0 t1 t2 t3 t4 t5 t6 t7 t8 t9 t11 t12 t13 t14 t15 t16 t17 t18 t19 t20 t21 t22 t23 t24 t25 t26 t27 t28 t29 t30 t31 t32 t33 t34 t59 t82 t83 t84 t85 t86 t87 t88 t89 t90 t91 t92
              have el : ((List.range 93).map us').toArray = #[.int .i64 n, .agg ch, .int .u64 (i : Int), .int .u64 (m : Int), .slice (some ad) q c, undef, .pointer (some ⟨w.heap.size, 0, none⟩), undef, undef, undef, us' 10, .pointer (some ⟨g, 0, none⟩), .int .i64 (E : Int), .int .u64 (a1 : Int), .int .u64 (a1 : Int), .int .i64 (k : Int), .bool true, .bool false, .tuple #[.agg cx, .int .i64 (E : Int)], .int .i64 n, .agg ch, .int .u64 (i : Int), .int .u64 (m : Int), .slice (some ad) q c, .tuple #[.agg cx, .int .i64 (E : Int)], .agg cx, .int .i64 (E : Int), .int .u64 (i : Int), .int .u64 (m : Int), .bool false, undef, undef, .int .u64 (i : Int), .int .u64 (m : Int), .int .u64 (M1 : Int), us' 35, us' 36, us' 37, us' 38, us' 39, us' 40, us' 41, us' 42, us' 43, us' 44, us' 45, us' 46, us' 47, us' 48, us' 49, us' 50, us' 51, us' 52, us' 53, us' 54, us' 55, us' 56, us' 57, us' 58, .agg cn, us' 60, us' 61, us' 62, us' 63, us' 64, us' 65, us' 66, us' 67, us' 68, us' 69, us' 70, us' 71, us' 72, us' 73, us' 74, us' 75, us' 76, us' 77, us' 78, us' 79, us' 80, us' 81, undef, undef, undef, undef, undef, undef, undef, undef, undef, undef, undef] := by
                show #[us' 0, us' 1, us' 2, us' 3, us' 4, us' 5, us' 6, us' 7, us' 8, us' 9, us' 10, us' 11, us' 12, us' 13, us' 14, us' 15, us' 16, us' 17, us' 18, us' 19, us' 20, us' 21, us' 22, us' 23, us' 24, us' 25, us' 26, us' 27, us' 28, us' 29, us' 30, us' 31, us' 32, us' 33, us' 34, us' 35, us' 36, us' 37, us' 38, us' 39, us' 40, us' 41, us' 42, us' 43, us' 44, us' 45, us' 46, us' 47, us' 48, us' 49, us' 50, us' 51, us' 52, us' 53, us' 54, us' 55, us' 56, us' 57, us' 58, us' 59, us' 60, us' 61, us' 62, us' 63, us' 64, us' 65, us' 66, us' 67, us' 68, us' 69, us' 70, us' 71, us' 72, us' 73, us' 74, us' 75, us' 76, us' 77, us' 78, us' 79, us' 80, us' 81, us' 82, us' 83, us' 84, us' 85, us' 86, us' 87, us' 88, us' 89, us' 90, us' 91, us' 92] = _
                rw [t0, t1, t2, t3, t4, t5, t6, t7, t8, t9, t11, t12, t13, t14, t15, t16, t17, t18, t19, t20, t21, t22, t23, t24, t25, t26, t27, t28, t29, t30, t31, t32, t33, t34, t59, t82, t83, t84, t85, t86, t87, t88, t89, t90, t91, t92]
              rw [el] at ha'
              subst ha'
              clear hus t0 t1 t2 t3 t4 t5 t6 t7 t8 t9 t11 t12 t13 t14 t15 t16 t17 t18 t19 t20 t21 t22 t23 t24 t25 t26 t27 t28 t29 t30 t31 t32 t33 t34 t59 t82 t83 t84 t85 t86 t87 t88 t89 t90 t91 t92 el hf' hs' hd'
              have HG6 := Lib.hid hW.1
              have HG11 := Lib.hid hW.2.1
              have HB5 := Lib.hid hW.2.2
              clear hW hG HF6 HF11 HBw HNode HLy
              go_wp2_with (refine wpList_store_rowTo rfl 30 (.tmp 6) (.tmp 59) rfl rfl w.heap.size cn rfl rfl 30 _ HG6.out HSn.out (by rw [HC1n.out, HC1z.out]) HNo.out ?_)
              refine world_cut (fun W => Blk W w.heap.size 30 cn ∧ Blk W g 30 (bs X) ∧ Below w.heap.size w W) ⟨HG6.out.row cn, HG11.out.rowOther _ (by omega), below_setRow HB5.out _ _ (Nat.le_refl _)⟩ ?_
              rintro W6 ⟨h6, h11, hb⟩
              have HF6 := Lib.hid h6
              have HF11 := Lib.hid h11
              have HB6 := Lib.hid hb
              clear h6 h11 hb HG6 HG11 HB5
              have hin : ∃ a3 L3 : Nat, Value.int .u64 (a1 : Int) = .int .u64 (a3 : Int) ∧ Value.int .u64 (a1 : Int) = .int .u64 (L3 : Int) ∧ StepI n i m ps h k a3 L3 hx ∧ a3 ≠ 0 ∧ L3 ≠ 0 ∧ (a3 % 2 = 1 ∨ a3 = L3) := ⟨a1, a1, rfl, rfl, HSt.out, by omega, hL0, .inr rfl⟩
              have HIn := Lib.hid hin
              clear hin HSt
              go_loop [13, 14] (fun s13 s14 => ∃ a3 L3 : Nat, s13 = .int .u64 (a3 : Int) ∧ s14 = .int .u64 (L3 : Int) ∧ StepI n i m ps h k a3 L3 hx ∧ a3 ≠ 0 ∧ L3 ≠ 0 ∧ (a3 % 2 = 1 ∨ a3 = L3)) (fun s13 _ => natOf s13)
              case atStart => exact HIn.out
              case round =>
                obtain ⟨a3, L3, rfl, rfl, hst3, ha0, hL30, hor⟩ := hrel
                have hb3 : L3 < 18446744073709551616 := by have := hst3.bound; omega
                have hle3 : a3 ≤ L3 := hst3.le
                have HSn2 := Lib.hid hst3
                clear HIn hst3
                by_cases ho3 : a3 % 2 = 1
                · have hod3 : (a3 : Int) % 2 = 1 := by omega
                  have hup := HSn2.out.up hL30 HY.out (by omega)
                  rw [if_pos ho3] at hup
                  obtain ⟨a2, ha2⟩ : ∃ x : Nat, (a3 : Int) / 2 = (x : Int) := ⟨a3 / 2, by omega⟩
                  obtain ⟨L2, hL2⟩ : ∃ x : Nat, (L3 : Int) / 2 = (x : Int) := ⟨L3 / 2, by omega⟩
                  have e2 : a3 / 2 = a2 := by omega
                  have e3 : L3 / 2 = L2 := by omega
                  rw [e2, e3] at hup
                  have hnext : SsAt n i m ps h X g w (.int .u64 (a2 : Int)) (.int .u64 (L2 : Int)) (.int .i64 ((k + 1 : Nat) : Int)) W6 :=
                    ⟨k + 1, a2, L2, _, by rw [← HL.out]; omega, rfl, rfl, rfl, hup, nodeH_length _ _ _, by rw [← HCn.out]; exact HF6.out, HF11.out, HB6.out⟩
                  have HNext := Lib.hid hnext
                  clear hup e2 e3 hnext
                  go_wp2
                  go_roundw
                  case rel => exact HNext.out
                  case measure => simp [intOf]; omega
                · have hev3 : (a3 : Int) % 2 = 0 := by omega
                  obtain rfl : a3 = L3 := by omega
                  have hal := HSn2.out.alone ha0 (by omega)
                  obtain ⟨a2, ha2⟩ : ∃ x : Nat, (a3 : Int) / 2 = (x : Int) := ⟨a3 / 2, by omega⟩
                  have e2 : a3 / 2 = a2 := by omega
                  rw [e2] at hal
                  have ha20 : a2 ≠ 0 := by omega
                  have ha2l : a2 < a3 := by omega
                  have HAl := Lib.hid hal
                  clear hal e2 HSn2 hor ho3
                  go_wp2
                  go_round
                  case rel => exact ⟨a2, a2, rfl, rfl, HAl.out, ha20, ha20, .inr rfl⟩
                  case measure => simpa [natOf] using ha2l
            · go_upto_region 18 with fail
              obtain ⟨cn, hcn, hcn1, hcno⟩ := hash_cells (nodeH n hx y) (nodeH_length _ _ _)
              obtain ⟨cy, hcy, hcy1, _⟩ := hash_cells y HY32.out
              obtain ⟨cz, hcz, hcz1, _⟩ := hash_cells hx HX32.out
              have HNode := Lib.hid (fun (W : World) (hW : Below w.heap.size w W) => HQ.out.node n hx y W HN.out HX32.out HY32.out (HT.out.below (Nat.le_refl _) hW))
              have HLy := Lib.hid (fun (W : World) (hW : Below w.heap.size w W) => load_hash W (ad.add (k * 32)) y HY32.out fun j u hj => by
                obtain ⟨ad2, e, h⟩ := (HV.out.below (Nat.le_refl _) hW).load HY.out
                cases e
                exact h j u hj)
              rw [← hcn, ← hcy, ← hcz] at HNode
              rw [← hcy] at HLy
              have HF6 := Lib.hid (show Blk wr w.heap.size 30 cz by rw [hcz]; exact HF6.out)
              have HSz := Lib.hid (size_hash hcz1)
              have HSn := Lib.hid (size_hash hcn1)
              have HCn := Lib.hid hcn
              have HC1n := Lib.hid hcn1
              have HC1z := Lib.hid hcz1
              have HNo := Lib.hid hcno
              clear hcn hcn1 hcno hcy hcy1 hcz hcz1
              have hG : ∀ W W' : World, (Blk W w.heap.size 30 cz ∧ Blk W g 30 (bs X) ∧ Below w.heap.size w W) → Below W.heap.size W W' → (Blk W' w.heap.size 30 cz ∧ Blk W' g 30 (bs X) ∧ Below w.heap.size w W') := fun W W' h h' => ⟨h.1.keep h', h.2.1.keep h', h.2.2.trans (h'.mono h.2.2.size)⟩
              refine region_tail_by 7 _ [(71, .is (.int .i64 n)), (72, .is (.agg cz)), (73, .is (.slice (some ad) q c)), (74, .is (.int .i64 (k : Int))), (75, .is (.pointer (some (ad.add (k * 32))))), (76, .is (.agg cy)), (77, .is (.agg cn))] [0, 1, 2, 3, 4, 5, 6, 7, 8, 9, 11, 12, 13, 14, 15, 16, 17, 18, 19, 20, 21, 22, 23, 24, 25, 26, 27, 28, 29, 30, 31, 32, 33, 34, 77, 82, 83, 84, 85, 86, 87, 88, 89, 90, 91, 92]
                (fun W => Blk W w.heap.size 30 cz ∧ Blk W g 30 (bs X) ∧ Below w.heap.size w W) (by kernel_rfl) (by kernel_rfl) (by kernel_rfl) (by kernel_rfl) (by kernel_rfl) rfl rfl rfl rfl (by kernel_rfl) (hG _ _ ⟨HF6.out, HF11.out, HBw.out⟩ (Below.refl _ _).drew) ?_ ?_
              · refine ⟨?a0, ?a1, ?a2, ?a3, ?a4, ?a5, ?a6, trivial⟩
                case a0 => exact ask_copy (guard_none rfl) (.tmp 0) (.inl rfl) (by intro k hk; cases hk; rfl)
                case a1 => exact ask_load (guard_none rfl) _ (.tmp 6) (.pointer (some ⟨w.heap.size, 0, none⟩)) (.agg cz) rfl rfl (by intro k hk; cases hk; rfl) (fun W hW => hW.1.loads 30 _ Tryd.underlying30 rfl HSz.out)
                case a2 => exact ask_copy (guard_none rfl) (.tmp 4) (.inl rfl) (by intro k hk; cases hk; rfl)
                case a3 => exact ask_copy (guard_none rfl) (.tmp 15) (.inl rfl) (by intro k hk; cases hk; rfl)
                case a4 => exact ask_idx (guard_none rfl) _ (.tmp 73) (.tmp 74) (.slice (some ad) q c) (.int .i64 (k : Int)) (.pointer (some (ad.add (k * 32)))) rfl rfl rfl (by intro k hk; cases hk; rfl) (fun W => hss_index W ad q c k hlt)
                case a5 => exact ask_load (guard_none rfl) _ (.tmp 75) (.pointer (some (ad.add (k * 32)))) (.agg cy) rfl rfl (by intro k hk; cases hk; rfl) (fun W hW => HLy.out W hW.2.2)
                case a6 => exact ask_call hG (guard_none rfl) _ _ _ #[.int .i64 n, .agg cz, .agg cy] (.is (.agg cn)) rfl (by kernel_rfl) rfl rfl (by intro k hk; cases hk; rfl) (fun W hW => (HNode.out W hW.2.2).mono fun e w' h => ⟨_, h.1, rfl, h.2⟩)
              intro a' W5 hW hd' hs' hf'
              have t0 : a'.tmps.getD 0 undef = .int .i64 n := hf' 0 rfl
              have t1 : a'.tmps.getD 1 undef = .agg ch := hf' 1 rfl
              have t2 : a'.tmps.getD 2 undef = .int .u64 (i : Int) := hf' 2 rfl
              have t3 : a'.tmps.getD 3 undef = .int .u64 (m : Int) := hf' 3 rfl
              have t4 : a'.tmps.getD 4 undef = .slice (some ad) q c := hf' 4 rfl
              have t5 : a'.tmps.getD 5 undef = undef := hf' 5 rfl
              have t6 : a'.tmps.getD 6 undef = .pointer (some ⟨w.heap.size, 0, none⟩) := hf' 6 rfl
              have t7 : a'.tmps.getD 7 undef = undef := hf' 7 rfl
              have t8 : a'.tmps.getD 8 undef = undef := hf' 8 rfl
              have t9 : a'.tmps.getD 9 undef = undef := hf' 9 rfl
              have t11 : a'.tmps.getD 11 undef = .pointer (some ⟨g, 0, none⟩) := hf' 11 rfl
              have t12 : a'.tmps.getD 12 undef = .int .i64 (E : Int) := hf' 12 rfl
              have t13 : a'.tmps.getD 13 undef = .int .u64 (a1 : Int) := hf' 13 rfl
              have t14 : a'.tmps.getD 14 undef = .int .u64 (L : Int) := hf' 14 rfl
              have t15 : a'.tmps.getD 15 undef = .int .i64 (k : Int) := hf' 15 rfl
              have t16 : a'.tmps.getD 16 undef = .bool true := hf' 16 rfl
              have t17 : a'.tmps.getD 17 undef = .bool false := hf' 17 rfl
              have t18 : a'.tmps.getD 18 undef = .tuple #[.agg cx, .int .i64 (E : Int)] := hf' 18 rfl
              have t19 : a'.tmps.getD 19 undef = .int .i64 n := hf' 19 rfl
              have t20 : a'.tmps.getD 20 undef = .agg ch := hf' 20 rfl
              have t21 : a'.tmps.getD 21 undef = .int .u64 (i : Int) := hf' 21 rfl
              have t22 : a'.tmps.getD 22 undef = .int .u64 (m : Int) := hf' 22 rfl
              have t23 : a'.tmps.getD 23 undef = .slice (some ad) q c := hf' 23 rfl
              have t24 : a'.tmps.getD 24 undef = .tuple #[.agg cx, .int .i64 (E : Int)] := hf' 24 rfl
              have t25 : a'.tmps.getD 25 undef = .agg cx := hf' 25 rfl
              have t26 : a'.tmps.getD 26 undef = .int .i64 (E : Int) := hf' 26 rfl
              have t27 : a'.tmps.getD 27 undef = .int .u64 (i : Int) := hf' 27 rfl
              have t28 : a'.tmps.getD 28 undef = .int .u64 (m : Int) := hf' 28 rfl
              have t29 : a'.tmps.getD 29 undef = .bool false := hf' 29 rfl
              have t30 : a'.tmps.getD 30 undef = undef := hf' 30 rfl
              have t31 : a'.tmps.getD 31 undef = undef := hf' 31 rfl
              have t32 : a'.tmps.getD 32 undef = .int .u64 (i : Int) := hf' 32 rfl
              have t33 : a'.tmps.getD 33 undef = .int .u64 (m : Int) := hf' 33 rfl
              have t34 : a'.tmps.getD 34 undef = .int .u64 (M1 : Int) := hf' 34 rfl
              have t77 : a'.tmps.getD 77 undef = .agg cn := hf' 77 rfl
              have t82 : a'.tmps.getD 82 undef = undef := hf' 82 rfl
              have t83 : a'.tmps.getD 83 undef = undef := hf' 83 rfl
              have t84 : a'.tmps.getD 84 undef = undef := hf' 84 rfl
              have t85 : a'.tmps.getD 85 undef = undef := hf' 85 rfl
              have t86 : a'.tmps.getD 86 undef = undef := hf' 86 rfl
              have t87 : a'.tmps.getD 87 undef = undef := hf' 87 rfl
              have t88 : a'.tmps.getD 88 undef = undef := hf' 88 rfl
              have t89 : a'.tmps.getD 89 undef = undef := hf' 89 rfl
              have t90 : a'.tmps.getD 90 undef = undef := hf' 90 rfl
              have t91 : a'.tmps.getD 91 undef = undef := hf' 91 rfl
              have t92 : a'.tmps.getD 92 undef = undef := hf' 92 rfl
              obtain ⟨us', hus, ha'⟩ := act_open 93 a' hs' hd'
              rw [← hus] at t0 t1 t2 t3 t4 t5 t6 t7 t8 t9 t11 t12 t13 t14 t15 t16 t17 t18 t19 t20 t21 t22 t23 t24 t25 t26 t27 t28 t29 t30 t31 t32 t33 t34 t77 t82 t83 t84 t85 t86 t87 t88 t89 t90 t91 t92
              have el : ((List.range 93).map us').toArray = #[.int .i64 n, .agg ch, .int .u64 (i : Int), .int .u64 (m : Int), .slice (some ad) q c, undef, .pointer (some ⟨w.heap.size, 0, none⟩), undef, undef, undef, us' 10, .pointer (some ⟨g, 0, none⟩), .int .i64 (E : Int), .int .u64 (a1 : Int), .int .u64 (L : Int), .int .i64 (k : Int), .bool true, .bool false, .tuple #[.agg cx, .int .i64 (E : Int)], .int .i64 n, .agg ch, .int .u64 (i : Int), .int .u64 (m : Int), .slice (some ad) q c, .tuple #[.agg cx, .int .i64 (E : Int)], .agg cx, .int .i64 (E : Int), .int .u64 (i : Int), .int .u64 (m : Int), .bool false, undef, undef, .int .u64 (i : Int), .int .u64 (m : Int), .int .u64 (M1 : Int), us' 35, us' 36, us' 37, us' 38, us' 39, us' 40, us' 41, us' 42, us' 43, us' 44, us' 45, us' 46, us' 47, us' 48, us' 49, us' 50, us' 51, us' 52, us' 53, us' 54, us' 55, us' 56, us' 57, us' 58, us' 59, us' 60, us' 61, us' 62, us' 63, us' 64, us' 65, us' 66, us' 67, us' 68, us' 69, us' 70, us' 71, us' 72, us' 73, us' 74, us' 75, us' 76, .agg cn, us' 78, us' 79, us' 80, us' 81, undef, undef, undef, undef, undef, undef, undef, undef, undef, undef, undef] := by
                show #[us' 0, us' 1, us' 2, us' 3, us' 4, us' 5, us' 6, us' 7, us' 8, us' 9, us' 10, us' 11, us' 12, us' 13, us' 14, us' 15, us' 16, us' 17, us' 18, us' 19, us' 20, us' 21, us' 22, us' 23, us' 24, us' 25, us' 26, us' 27, us' 28, us' 29, us' 30, us' 31, us' 32, us' 33, us' 34, us' 35, us' 36, us' 37, us' 38, us' 39, us' 40, us' 41, us' 42, us' 43, us' 44, us' 45, us' 46, us' 47, us' 48, us' 49, us' 50, us' 51, us' 52, us' 53, us' 54, us' 55, us' 56, us' 57, us' 58, us' 59, us' 60, us' 61, us' 62, us' 63, us' 64, us' 65, us' 66, us' 67, us' 68, us' 69, us' 70, us' 71, us' 72, us' 73, us' 74, us' 75, us' 76, us' 77, us' 78, us' 79, us' 80, us' 81, us' 82, us' 83, us' 84, us' 85, us' 86, us' 87, us' 88, us' 89, us' 90, us' 91, us' 92] = _
                rw [t0, t1, t2, t3, t4, t5, t6, t7, t8, t9, t11, t12, t13, t14, t15, t16, t17, t18, t19, t20, t21, t22, t23, t24, t25, t26, t27, t28, t29, t30, t31, t32, t33, t34, t77, t82, t83, t84, t85, t86, t87, t88, t89, t90, t91, t92]
              rw [el] at ha'
              subst ha'
              clear hus t0 t1 t2 t3 t4 t5 t6 t7 t8 t9 t11 t12 t13 t14 t15 t16 t17 t18 t19 t20 t21 t22 t23 t24 t25 t26 t27 t28 t29 t30 t31 t32 t33 t34 t77 t82 t83 t84 t85 t86 t87 t88 t89 t90 t91 t92 el hf' hs' hd'
              have HG6 := Lib.hid hW.1
              have HG11 := Lib.hid hW.2.1
              have HB5 := Lib.hid hW.2.2
              clear hW hG HF6 HF11 HBw HNode HLy
              go_upto_region 19 with (refine wpList_store_rowTo rfl 30 (.tmp 6) (.tmp 77) rfl rfl w.heap.size cn rfl rfl 30 _ HG6.out HSn.out (by rw [HC1n.out, HC1z.out]) HNo.out ?_)
              refine world_cut (fun W => Blk W w.heap.size 30 cn ∧ Blk W g 30 (bs X) ∧ Below w.heap.size w W) ⟨HG6.out.row cn, HG11.out.rowOther _ (by omega), below_setRow HB5.out _ _ (Nat.le_refl _)⟩ ?_
              rintro W6 ⟨h6, h11, hb⟩
              have HF6 := Lib.hid h6
              have HF11 := Lib.hid h11
              have HB6 := Lib.hid hb
              clear h6 h11 hb HG6 HG11 HB5
              have HSn2 := Lib.hid HSt.out
              have hup := HSn2.out.up hL0 HY.out (by omega)
              rw [if_neg hodd] at hup
              obtain ⟨a2, ha2⟩ : ∃ x : Nat, (a1 : Int) / 2 = (x : Int) := ⟨a1 / 2, by omega⟩
              obtain ⟨L2, hL2⟩ : ∃ x : Nat, (L : Int) / 2 = (x : Int) := ⟨L / 2, by omega⟩
              have e2 : a1 / 2 = a2 := by omega
              have e3 : L / 2 = L2 := by omega
              rw [e2, e3] at hup
              have hnext : SsAt n i m ps h X g w (.int .u64 (a2 : Int)) (.int .u64 (L2 : Int)) (.int .i64 ((k + 1 : Nat) : Int)) W6 :=
                ⟨k + 1, a2, L2, _, by rw [← HL.out]; omega, rfl, rfl, rfl, hup, nodeH_length _ _ _, by rw [← HCn.out]; exact HF6.out, HF11.out, HB6.out⟩
              have HNext := Lib.hid hnext
              clear hup e2 e3 hnext
              go_wp2
              go_roundw
              case rel => exact HNext.out
              case measure => simp [intOf]; omega
      · obtain rfl : k = q := by omega
        by_cases hL0 : L = 0
        · subst hL0
          have hst := HSt.out.stop
          have h3 := HL.out
          have hXE2 : X = climbP n i m ps h ∧ E = 0 := by
            have h1 := HXE.out
            rw [climbR, if_neg him, if_neg (by omega), if_neg (by omega)] at h1
            exact ⟨congrArg Prod.fst h1, congrArg Prod.snd h1⟩
          obtain ⟨hX1, rfl⟩ := hXE2
          have hXx : X = hx := by rw [hX1]; exact hst.2 (by omega)
          subst hXx
          have HSx2 := Lib.hid (size_hash (cs := bs X) (by rw [bs_size, HX32.out]))
          have heq := eq_same wr X HX32.out
          clear hst h3 hX1
          go_wp2_with (first
            | (refine wpList_load_guarded rfl 30 (.tmp 11) rfl _ (.agg (bs X)) rfl (HF11.out.loads 30 _ Tryd.underlying30 rfl HSx2.out) ?_)
            | (refine wpList_load_guarded rfl 30 (.tmp 6) rfl _ (.agg (bs X)) rfl (HF6.out.loads 30 _ Tryd.underlying30 rfl HSx2.out) ?_))
          go_ret
          exact ⟨rfl, HBw.out⟩
        · have hE : E = 2 := by
            have h1 := HXE.out
            have h2 := HSt.out.on hL0
            have h3 := HL.out
            rw [climbR, if_neg him, if_pos (by omega)] at h1
            exact congrArg Prod.snd h1
          subst hE
          go_wp2
          go_ret
          exact ⟨rfl, HBw.out⟩
end Go.Proofs.YtdhfabjkpffhnabDoor

