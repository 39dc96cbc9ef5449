/- Joined: GrowthProves, GrowthPasses, GrowthOther, GrowthLengths. -/
import Derived.Test.YtdhfabjkpffhnabDoorGrowthSpecJ
import Derived.Test.YtdhfabjkpffhnabDoorLeafRootsJ
import Derived.Test.YtdhfabjkpffhnabDoorLeafConvJ
import Derived.Test.YtdhfabjkpffhnabDoorPathLengthsKitJ
/- GrowthProves: the walk. -/
namespace Go.Proofs.YtdhfabjkpffhnabDoor
set_option maxRecDepth 20000
open Go.RowKit ShaMath LeafMath PathMath GrowthMath Reg

theorem growR_65 (n : Int) (hs : List Hs) (m N : Int) (hl : hs.length ≤ 1000000) : (growR n hs m N).1.length ≤ 65 := by
  unfold growR
  split
  · simp
  · split
    · simp
    · next h _ =>
      show (partG n (hs.take N.toNat) m.toNat true).length ≤ 65
      have ht : (hs.take N.toNat).length = N.toNat := by rw [List.length_take]; omega
      rw [partG_length n N.toNat _ _ true ht (by omega)]
      exact sizeG_65 _ _ true (by omega) (by omega)

set_option maxHeartbeats 1000000 in
set_option maxRecDepth 100000 in
theorem growthProves_walk (hp : GrowthProg) (hq : LeafProg) (n : Int) (hn : I64 n) (hs : List Hs) (v : Value) (i N : Int) (hi : I64 i) (hN : I64 N) (w : World) (hv : Hss w v hs) (ht : Tabs w) (hk : Consts w) :
    Calls Tryd.prog 8 #[.int .i64 n, v, .int .i64 i, .int .i64 N] w fun e w' => e = .returned (.bool true) ∧ Below w.heap.size w w' := by
  obtain ⟨a, c, rfl, hc⟩ := hv.form
  obtain ⟨m, hm⟩ : ∃ m, m = hs.length := ⟨_, rfl⟩
  rw [← hm] at hv hc ⊢
  have HT := Lib.hid ht
  have HK := Lib.hid hk
  have HP := Lib.hid hp
  have HQ := Lib.hid hq
  have HN := Lib.hid hn
  have HI := Lib.hid hi
  have HNN := Lib.hid hN
  by_cases h200 : 200 < m
  · have hv2 : Hss w (.slice a 200 c) (hs.take 200) := by
      have := hv.sub 0 200 (by omega) (by omega)
      rw [sliced_zero] at this
      simpa using this
    have hl2 : (hs.take 200).length = 200 := by rw [List.length_take]; omega
    have hsl : ∀ W, (Instr.sliceAt 22 (.slice a m c) none (some (.int .i64 200)) none).run Tryd.prog W = .ok (.slice a 200 c) W := fun W => by
      have := slice_hs_to a m c 200 (by omega) W
      rwa [sliced_zero] at this
    obtain ⟨hs2, hhs2⟩ : ∃ h, h = hs.take 200 := ⟨_, rfl⟩
    rw [← hhs2] at hv2 hl2
    have HV := Lib.hid hv2
    have HL := Lib.hid hl2
    have HSl := Lib.hid hsl
    have h200b : 200 < m := h200
    clear hv hv2 hl2 hsl hhs2 hm ht hk hp hq hn hi hN
    go_enter Tryd.func8, Tryd.ntmps8
    go_wp2_with fail
    refine (awake16_any HP.out HQ.out _ HT.out).mono ?_
    rintro e W1 ⟨rfl, hb1⟩
    have hb0 : Below W1.heap.size W1 (W1.alloc (.cells #[] 30)) := (Below.refl _ _).alloc (Nat.le_refl _) _
    have A1 := Lib.hid (append_hs (B := w.heap.size) (by have := hb1.size; simp; omega) (ohs_empty W1 w.heap.size hb1.size) ((HV.out.below (Nat.le_refl _) hb1).below (Nat.le_refl _) hb0) (by rw [HL.out]; simp))
    have HB1 := Lib.hid hb1
    clear hb1 hb0
    have hsl := HSl.out
    go_upto_region 6 with (at_builtin; refine wpList_append_by rfl (.tmp 21) (.tmp 22) 22 rfl _ _ rfl rfl _ A1.out ?_; rintro v5 W2 ⟨hr5, hb2⟩; (have HR5 := Lib.hid hr5); (have HB2 := Lib.hid hb2); clear hr5 hb2)
    have hr := HR5.out
    rw [List.nil_append] at hr
    have hbel : Below w.heap.size w W2 := lit_below HB1.out HB2.out
    have HSelf := Lib.hid hr.hss
    have HV2 := Lib.hid (HV.out.below (Nat.le_refl _) hbel)
    obtain ⟨P, hP⟩ : ∃ P, P = (growR n hs2 i N).1 := ⟨_, rfl⟩
    obtain ⟨E, hE⟩ : ∃ E, E = (growR n hs2 i N).2 := ⟨_, rfl⟩
    have hPl : P.length ≤ 65 := by rw [hP]; exact growR_65 n hs2 i N (by rw [HL.out]; omega)
    have H1 := Lib.hid (HP.out.prove n hs2 i N v5 W2 HN.out HI.out HNN.out (by rw [HL.out]; omega) hr.hss (HT.out.below (Nat.le_refl _) hbel))
    have H2 := Lib.hid (fun (W : World) (hW : Below W2.heap.size W2 W) => refprove16_any n HN.out hs2 i N (.slice a 200 c) W HNN.out (by rw [HL.out]; omega) (HV2.out.below (Nat.le_refl _) hW) ((HK.out.below (Nat.le_refl _) hbel).below (Nat.le_refl _) hW))
    have H4 := Lib.hid (fun (W : World) (hW : Below W2.heap.size W2 W) => refhashes_any _ _ hs2 hs2 W (HSelf.out.below (Nat.le_refl _) hW) (HV2.out.below (Nat.le_refl _) hW) (by rw [HL.out]; omega) (by rw [HL.out]; omega))
    rw [← hP, ← hE] at H1
    rw [← hP, ← hE] at H2
    simp only [decide_true] at H4
    have HB := Lib.hid hbel
    have HPl := Lib.hid hPl
    clear hr hbel A1 HB1 HB2 HR5 hP hE hPl
    go_wp2_with fail
    refine H1.out.mono ?_
    rintro e W3 ⟨u1, rfl, hu1, hb3⟩
    have HB3 := Lib.hid hb3
    have HU1 := Lib.hid hu1
    clear hb3 hu1 H1
    go_wp2_with fail
    refine (H2.out _ HB3.out).mono ?_
    rintro e W4 ⟨u2, rfl, hu2, hb4⟩
    have HB4 := Lib.hid (HB3.out.trans (hb4.mono HB3.out.size))
    have H3 := Lib.hid (refhashes_any u1 u2 P P W4 (HU1.out.below (Nat.le_refl _) hb4) hu2.hss (by have := HPl.out; omega) (by have := HPl.out; omega))
    simp only [decide_true] at H3
    clear hb4 hu2 H2 HB3 HU1
    go_wp2_with fail
    refine H3.out.mono ?_
    rintro e W5 ⟨rfl, hb5⟩
    have HB5 := Lib.hid (HB4.out.trans (hb5.mono HB4.out.size))
    clear hb5 H3 HB4
    go_wp2_with fail
    refine (H4.out _ HB5.out).mono ?_
    rintro e W6 ⟨rfl, hb6⟩
    have HB6 := Lib.hid (HB5.out.trans (hb6.mono HB5.out.size))
    clear hb6 H4 HB5
    go_wp2
    go_ret
    exact ⟨rfl, HB.out.trans (HB6.out.mono HB.out.size)⟩
  · have HV := Lib.hid hv
    have HL := Lib.hid hm.symm
    have hm200 : m ≤ 200 := by omega
    clear hv hm ht hk hp hq hn hi hN
    go_enter Tryd.func8, Tryd.ntmps8
    go_wp2_with fail
    refine (awake16_any HP.out HQ.out _ HT.out).mono ?_
    rintro e W1 ⟨rfl, hb1⟩
    have hb0 : Below W1.heap.size W1 (W1.alloc (.cells #[] 30)) := (Below.refl _ _).alloc (Nat.le_refl _) _
    have A1 := Lib.hid (append_hs (B := w.heap.size) (by have := hb1.size; simp; omega) (ohs_empty W1 w.heap.size hb1.size) ((HV.out.below (Nat.le_refl _) hb1).below (Nat.le_refl _) hb0) (by rw [HL.out]; simp; omega))
    have HB1 := Lib.hid hb1
    clear hb1 hb0
    go_upto_region 6 with (at_builtin; refine wpList_append_by rfl (.tmp 21) (.tmp 22) 22 rfl _ _ rfl rfl _ A1.out ?_; rintro v5 W2 ⟨hr5, hb2⟩; (have HR5 := Lib.hid hr5); (have HB2 := Lib.hid hb2); clear hr5 hb2)
    have hr := HR5.out
    rw [List.nil_append] at hr
    have hbel : Below w.heap.size w W2 := lit_below HB1.out HB2.out
    have HSelf := Lib.hid hr.hss
    have HV2 := Lib.hid (HV.out.below (Nat.le_refl _) hbel)
    obtain ⟨P, hP⟩ : ∃ P, P = (growR n hs i N).1 := ⟨_, rfl⟩
    obtain ⟨E, hE⟩ : ∃ E, E = (growR n hs i N).2 := ⟨_, rfl⟩
    have hPl : P.length ≤ 65 := by rw [hP]; exact growR_65 n hs i N (by rw [HL.out]; omega)
    have H1 := Lib.hid (HP.out.prove n hs i N v5 W2 HN.out HI.out HNN.out (by rw [HL.out]; omega) hr.hss (HT.out.below (Nat.le_refl _) hbel))
    have H2 := Lib.hid (fun (W : World) (hW : Below W2.heap.size W2 W) => refprove16_any n HN.out hs i N (.slice a m c) W HNN.out (by rw [HL.out]; omega) (HV2.out.below (Nat.le_refl _) hW) ((HK.out.below (Nat.le_refl _) hbel).below (Nat.le_refl _) hW))
    have H4 := Lib.hid (fun (W : World) (hW : Below W2.heap.size W2 W) => refhashes_any _ _ hs hs W (HSelf.out.below (Nat.le_refl _) hW) (HV2.out.below (Nat.le_refl _) hW) (by rw [HL.out]; omega) (by rw [HL.out]; omega))
    rw [← hP, ← hE] at H1
    rw [← hP, ← hE] at H2
    simp only [decide_true] at H4
    have HB := Lib.hid hbel
    have HPl := Lib.hid hPl
    clear hr hbel A1 HB1 HB2 HR5 hP hE hPl
    go_wp2_with fail
    refine H1.out.mono ?_
    rintro e W3 ⟨u1, rfl, hu1, hb3⟩
    have HB3 := Lib.hid hb3
    have HU1 := Lib.hid hu1
    clear hb3 hu1 H1
    go_wp2_with fail
    refine (H2.out _ HB3.out).mono ?_
    rintro e W4 ⟨u2, rfl, hu2, hb4⟩
    have HB4 := Lib.hid (HB3.out.trans (hb4.mono HB3.out.size))
    have H3 := Lib.hid (refhashes_any u1 u2 P P W4 (HU1.out.below (Nat.le_refl _) hb4) hu2.hss (by have := HPl.out; omega) (by have := HPl.out; omega))
    simp only [decide_true] at H3
    clear hb4 hu2 H2 HB3 HU1
    go_wp2_with fail
    refine H3.out.mono ?_
    rintro e W5 ⟨rfl, hb5⟩
    have HB5 := Lib.hid (HB4.out.trans (hb5.mono HB4.out.size))
    clear hb5 H3 HB4
    go_wp2_with fail
    refine (H4.out _ HB5.out).mono ?_
    rintro e W6 ⟨rfl, hb6⟩
    have HB6 := Lib.hid (HB5.out.trans (hb6.mono HB5.out.size))
    clear hb6 H4 HB5
    go_wp2
    go_ret
    exact ⟨rfl, HB.out.trans (HB6.out.mono HB.out.size)⟩
end Go.Proofs.YtdhfabjkpffhnabDoor

/- GrowthPasses: the walk. -/
namespace Go.Proofs.YtdhfabjkpffhnabDoor
set_option maxRecDepth 20000
open Go.RowKit ShaMath LeafMath PathMath GrowthMath Reg

theorem grow_passes (n : Int) (hs : List Hs) (i N : Nat) (hi : i ≤ N) (hN : N ≤ hs.length) :
    (growR n hs (i : Int) (N : Int)).2 = 0 ∧ (growR n hs (i : Int) (N : Int)).1.length = growS i N ∧ checkGR n (rootH n (hs.take i)) i N (rootH n (hs.take N)) (growR n hs (i : Int) (N : Int)).1 = true := by
  by_cases h0 : i = 0
  · subst h0
    have e : growR n hs ((0 : Nat) : Int) (N : Int) = ([], 0) := by rw [growR, if_neg (by omega), if_pos (show ((0 : Nat) : Int) = 0 from rfl)]
    rw [e]
    refine ⟨rfl, by simp [growS], ?_⟩
    rw [checkGR, if_neg (by omega), if_pos rfl, List.take_zero, rootH_nil]
    by_cases hN0 : N = 0
    · subst hN0
      simp [rootH_nil]
    · have : 0 < N := by omega
      simp [this]
  · have e : growR n hs (i : Int) (N : Int) = (partG n (hs.take N) i true, 0) := by
      rw [growR, if_neg (by omega), if_neg (by omega)]
      simp
    have hl : (hs.take N).length = N := by rw [List.length_take]; omega
    have hpl := partG_length n N (hs.take N) i true hl hi
    have hgs : growS i N = sizeG i N true := by rw [growS, if_neg (by omega)]
    have hs2 : (hs.take N).take i = hs.take i := by rw [List.take_take, Nat.min_eq_left hi]
    have hsh := show_part n N (hs.take N) i (rootH n (hs.take i)) true hl (by omega) hi (fun _ => by rw [hs2])
    rw [hs2] at hsh
    rw [e]
    refine ⟨rfl, by rw [hgs]; exact hpl, ?_⟩
    have hc : climbGR n (rootH n (hs.take i)) i N (partG n (hs.take N) i true) = ((rootH n (hs.take i), rootH n (hs.take N)), 0) := by
      rw [climbGR, if_neg (by omega), if_neg (by rw [hgs, hpl]; omega), if_neg (by rw [hgs, hpl]; omega), hsh]
    rw [checkGR, if_neg (by omega), if_neg h0, hc]
    simp

def GaAt (q : Nat) (w : World) (s5 : Value) (wr : World) : Prop := ∃ N : Nat, N ≤ q + 1 ∧ s5 = .int .i64 (N : Int) ∧ Below w.heap.size w wr
def GbAt (N : Nat) (w : World) (s7 : Value) (wr : World) : Prop := ∃ i : Nat, i ≤ N + 1 ∧ s7 = .int .i64 (i : Int) ∧ Below w.heap.size w wr

set_option maxHeartbeats 2000000 in
set_option maxRecDepth 100000 in
theorem growthPasses_walk (hp : GrowthProg) (hq0 : LeafProg) (n : Int) (hn : I64 n) (hs : List Hs) (v : Value) (w : World) (hv : Hss w v hs) (ht : Tabs w) :
    Calls Tryd.prog 10 #[.int .i64 n, v] w fun e w' => e = .returned (.bool true) ∧ Below w.heap.size w w' := by
  obtain ⟨a, c, rfl, hc⟩ := hv.form
  obtain ⟨m, hm⟩ : ∃ m, m = hs.length := ⟨_, rfl⟩
  rw [← hm] at hv hc ⊢
  have HT := Lib.hid ht
  have HP := Lib.hid hp
  have HQ := Lib.hid hq0
  have HN := Lib.hid hn
  by_cases h24 : 24 < m
  · obtain ⟨q, hq24⟩ : ∃ q, q = 24 := ⟨_, rfl⟩
    have hq : q ≤ 24 := by omega
    have hqm : q ≤ m := by omega
    have hv2 : Hss w (.slice a q c) (hs.take q) := by
      have := hv.sub 0 q (by omega) (by omega)
      rw [sliced_zero3] at this
      simpa using this
    have hl2 : (hs.take q).length = q := by rw [List.length_take]; omega
    have hsl : ∀ W, (Instr.sliceAt 22 (.slice a m c) none (some (.int .i64 24)) none).run Tryd.prog W = .ok (.slice a q c) W := fun W => by
      have := slice_hs_to a m c 24 (by omega) W
      rw [sliced_zero3] at this
      rw [hq24]
      exact this
    obtain ⟨hs2, hhs2⟩ : ∃ h, h = hs.take q := ⟨_, rfl⟩
    rw [← hhs2] at hv2 hl2
    have HV := Lib.hid hv2
    have HL := Lib.hid hl2
    have HSl := Lib.hid hsl
    clear hv hv2 hl2 hsl hhs2 hm ht hp hq0 hn hq24
    go_enter Tryd.func10, Tryd.ntmps10
    go_wp2_with fail
    refine (awake16_any HP.out HQ.out _ HT.out).mono ?_
    rintro e W1 ⟨rfl, hb1⟩
    have HB1 := Lib.hid hb1
    clear hb1
    have hsl := HSl.out
    clear HSl
    go_upto_region 6 with fail
    generalize decide (24 < (m : Int)) = z14
    refine world_cut (fun W => Below w.heap.size w W) HB1.out ?_
    clear HB1
    intro W1' hW1
    have hstart : GaAt q w (.int .i64 0) W1' := ⟨0, by omega, rfl, hW1⟩
    have HStart := Lib.hid hstart
    clear hstart hW1
    go_wp2
    go_loopw [5] (fun s5 wr => GaAt q w s5 wr) (fun s5 _ => q + 1 - (intOf s5).toNat)
    case atStart => exact HStart.out
    case round =>
      obtain ⟨N, hNq, rfl, hbw⟩ := hrel
      have HBw := Lib.hid hbw
      clear hbw HStart
      by_cases hlt : N ≤ q
      · have hN64 : N < 18446744073709551616 := by omega
        have htl : (hs2.take N).length = N := by rw [List.length_take, HL.out]; omega
        have hv1 : Hss w (.slice a N c) (hs2.take N) := by
          have := HV.out.sub 0 N (by omega) (by omega)
          rw [sliced_zero3] at this
          simpa using this
        obtain ⟨X, hX, hX32⟩ : ∃ X, X = rootH n (hs2.take N) ∧ X.length = 32 := ⟨_, rfl, rootH_length _ _ hv1.all⟩
        have HRoot := Lib.hid (fun (W : World) (hW : Below w.heap.size w W) => HQ.out.root n (hs2.take N) (.slice a N c) W HN.out (hv1.below (Nat.le_refl _) hW) (by rw [htl]; omega) (HT.out.below (Nat.le_refl _) hW))
        rw [← hX] at HRoot
        have HXd := Lib.hid hX
        have HX := Lib.hid hX32
        have HSX := Lib.hid (size_hash (cs := bs X) (by rw [bs_size, hX32]))
        have HTl := Lib.hid htl
        have HSl2 := Lib.hid (fun (W : World) => show (Instr.sliceAt 22 (.slice a q c) none (some (.int .i64 (N : Int))) none).run Tryd.prog W = .ok (.slice a N c) W by rw [slice_hs_to a q c N (by omega) W, sliced_zero3])
        clear hX hX32 htl hv1
        go_wp2_with (refine wpList_slice_by rfl 22 (.tmp 24) none (some (.tmp 25)) rfl (.slice a q c) (.slice a N c) none (some (.int .i64 (N : Int))) rfl rfl rfl (HSl2.out _) ?_)
        refine (HRoot.out _ HBw.out).mono ?_
        rintro e W2 ⟨rfl, hb2⟩
        have HB2 := Lib.hid (HBw.out.trans (hb2.mono HBw.out.size))
        clear hb2 HRoot HSl2
        go_upto_region 9 with (refine wpList_store_row rfl 30 (.tmp 6) (.tmp 27) rfl W2.heap.size (bs X) rfl rfl 30 _ (Blk.new W2 _ _) HSX.out (by rw [bs_size, HX.out]; rfl) (bs_one _) ?_)
        obtain ⟨g6, hg6⟩ : ∃ g, g = W2.heap.size := ⟨_, rfl⟩
        have h2s := HB2.out.size
        refine world_cut (fun W => Blk W g6 30 (bs X) ∧ Below w.heap.size w W) ⟨by rw [hg6]; exact Blk.row (Blk.new W2 _ _) _, below_setRow (HB2.out.alloc h2s _) _ _ h2s⟩ ?_
        rw [← hg6]
        clear hg6 h2s HB2 HBw
        rintro Wb ⟨h6, hbb⟩
        have HF6 := Lib.hid h6
        have HBb := Lib.hid hbb
        clear h6 hbb
        have hstart2 : GbAt N Wb (.int .i64 0) Wb := ⟨0, by omega, rfl, Below.refl _ _⟩
        have HStart2 := Lib.hid hstart2
        clear hstart2
        go_wp2
        obtain ⟨wo, rfl⟩ : ∃ wo : World, wo = wr := ⟨_, rfl⟩
        go_loopw [7] (fun s7 wr => GbAt N Wb s7 wr) (fun s7 _ => N + 1 - (intOf s7).toNat)
        case atStart => exact HStart2.out
        case round =>
          obtain ⟨i, hiN, rfl, hbi⟩ := hrel
          have HBi := Lib.hid hbi
          clear hbi HStart2
          by_cases hi : i ≤ N
          · have hi64 : i < 18446744073709551616 := by omega
            have hiq : i ≤ q := by omega
            have hbi' : Below w.heap.size w wr := HBb.out.trans (HBi.out.mono HBb.out.size)
            have hgp := grow_passes n hs2 i N hi (by rw [HL.out]; exact hlt)
            obtain ⟨P, hP⟩ : ∃ P, P = (growR n hs2 (i : Int) (N : Int)).1 := ⟨_, rfl⟩
            rw [← hP] at hgp
            obtain ⟨hpr0, hPl, hck⟩ := hgp
            have hpr : growR n hs2 (i : Int) (N : Int) = (P, 0) := by rw [hP, ← hpr0]
            have hP65 : P.length ≤ 65 := by rw [hP]; exact growR_65 n hs2 _ _ (by rw [HL.out]; omega)
            have htl2 : (hs2.take i).length = i := by rw [List.length_take, HL.out]; omega
            have hv3 : Hss w (.slice a i c) (hs2.take i) := by
              have := HV.out.sub 0 i (by omega) (by omega)
              rw [sliced_zero3] at this
              simpa using this
            obtain ⟨Y, hY, hY32⟩ : ∃ Y, Y = rootH n (hs2.take i) ∧ Y.length = 32 := ⟨_, rfl, rootH_length _ _ hv3.all⟩
            have HRootY0 := Lib.hid (fun (W : World) (hW : Below w.heap.size w W) => HQ.out.root n (hs2.take i) (.slice a i c) W HN.out (hv3.below (Nat.le_refl _) hW) (by rw [htl2]; omega) (HT.out.below (Nat.le_refl _) hW))
            rw [← hY] at HRootY0
            rw [← hY, ← HXd.out] at hck
            have HSlY := Lib.hid (fun (W : World) => show (Instr.sliceAt 22 (.slice a q c) none (some (.int .i64 (i : Int))) none).run Tryd.prog W = .ok (.slice a i c) W by rw [slice_hs_to a q c i (by omega) W, sliced_zero3])
            have HProve := Lib.hid (HP.out.prove n hs2 (i : Int) (N : Int) (.slice a q c) wr HN.out (by unfold I64; omega) (by unfold I64; omega) (by rw [HL.out]; omega) (HV.out.below (Nat.le_refl _) hbi') (HT.out.below (Nat.le_refl _) hbi'))
            rw [hpr] at HProve
            have HPl := Lib.hid hPl
            have HCk := Lib.hid hck
            have HY32 := Lib.hid hY32
            have HP65 := Lib.hid hP65
            have HBi' := Lib.hid hbi'
            clear hbi' hP hPl hpr hck hY hY32 hP65 hpr0 htl2 hv3
            go_wp2_with fail
            refine HProve.out.mono ?_
            rintro e W3 ⟨u, rfl, hu, hb3⟩
            obtain ⟨pa, pc, rfl, hpc⟩ := hu.form
            obtain ⟨p, hp⟩ : ∃ p, p = P.length := ⟨_, rfl⟩
            rw [← hp] at hu hpc ⊢
            have hp64 : p ≤ 65 := by rw [hp]; exact HP65.out
            have HB3 := Lib.hid (HBi'.out.trans (hb3.mono HBi'.out.size))
            have HBi3 := Lib.hid (HBi.out.trans (hb3.mono HBi.out.size))
            have HBk3 := Lib.hid ((HF6.out.keep HBi.out).keep hb3)
            have HSize := Lib.hid (fun (W : World) => HP.out.size i N W hi64 hN64)
            rw [← HPl.out, ← hp] at HSize
            have HCheck : Hid (∀ W : World, Below W3.heap.size W3 W → Calls Tryd.prog 31 #[.int .i64 n, .int .u64 (i : Int), .int .u64 (N : Int), .agg (bs Y), .agg (bs X), .slice pa p pc] W fun e w' => e = .returned (.bool true) ∧ Below W.heap.size W w') := Lib.hid fun W hW => by
              have := HP.out.check n Y i N X P (.slice pa p pc) W HN.out HY32.out HX.out hi64 hN64 (hu.below (Nat.le_refl _) hW) (by rw [← hp]; omega) ((HT.out.below (Nat.le_refl _) HB3.out).below (Nat.le_refl _) hW)
              rwa [HCk.out] at this
            have HRootY := Lib.hid (fun (W : World) (hW : Below W3.heap.size W3 W) => HRootY0.out W (HB3.out.trans (hW.mono HB3.out.size)))
            clear hu hb3 hp hpc HProve
            go_upto_region 13 with fail
            have hG : ∀ W W' : World, Below W3.heap.size W3 W → Below W.heap.size W W' → Below W3.heap.size W3 W' := fun W W' h h' => h.trans (h'.mono h.size)
            refine region_by [(41, .is (.int .i64 0)), (42, .is (.bool false)), (43, .is (.bool false)), (44, .is (.slice pa p pc)), (45, .is (.int .i64 (p : Int))), (46, .is (.int .i64 (i : Int))), (47, .is (.int .u64 (i : Int))), (48, .is (.int .i64 (N : Int))), (49, .is (.int .u64 (N : Int))), (50, .is (.int .i64 (p : Int))), (51, .is (.bool false)), (52, .is (.bool false)), (53, .is (.bool false)), (54, .is (.int .i64 n)), (55, .is (.int .i64 (i : Int))), (56, .is (.int .u64 (i : Int))), (57, .is (.int .i64 (N : Int))), (58, .is (.int .u64 (N : Int))), (59, .is (.int .i64 n)), (60, .is (.slice a q c)), (61, .is (.int .i64 (i : Int))), (62, .is (.slice a i c)), (63, .is (.agg (bs Y))), (64, .is (.agg (bs X))), (65, .is (.slice pa p pc)), (66, .is (.bool true)), (67, .is (.bool false)), (68, .is (.bool false))] [0, 1, 2, 3, 5, 6, 7, 10, 11, 12, 13, 14, 15, 16, 17, 18, 19, 20, 21, 22, 23, 24, 25, 26, 27, 68] (fun W => Below W3.heap.size W3 W) (by kernel_rfl) (by kernel_rfl) (by kernel_rfl) (by kernel_rfl) (by kernel_rfl) ((Below.refl _ _).drew) ?_ ?_
            · refine ⟨?c0, ?c1, ?c2, ?c3, ?c4, ?c5, ?c6, ?c7, ?c8, ?c9, ?c10, ?c11, ?c12, ?c13, ?c14, ?c15, ?c16, ?c17, ?c18, ?c19, ?c20, ?c21, ?c22, ?c23, ?c24, ?c25, ?c26, ?c27, trivial⟩
              case c0 => exact ask_copy (guard_none rfl) (.tmp 9) (.inl rfl) (by intro k hk; cases hk; rfl)
              case c1 => exact ask_bin (guard_none rfl) .neq _ _ (.tmp 41) (.const (.int .i64 0)) (.int .i64 0) (.int .i64 0) (.bool false) rfl rfl rfl (by intro k hk; cases hk; rfl) (neq_int _ _ _ _ _)
              case c2 => exact ask_copy (guard_none rfl) (.tmp 42) (.inl rfl) (by intro k hk; cases hk; rfl)
              case c3 => exact ask_copy (guard_some rfl rfl rfl) (.tmp 8) (.inl rfl) (by intro k hk; cases hk; rfl)
              case c4 => exact ask_len (guard_some rfl rfl rfl) (.tmp 44) _ pa p pc rfl (by kernel_rfl) rfl (by intro k hk; cases hk; rfl)
              case c5 => exact ask_copy (guard_some rfl rfl rfl) (.tmp 7) (.inl rfl) (by intro k hk; cases hk; rfl)
              case c6 => exact ask_conv_iu (guard_some rfl rfl rfl) (.tmp 46) i hi64 rfl rfl (by intro k hk; cases hk; rfl)
              case c7 => exact ask_copy (guard_some rfl rfl rfl) (.tmp 5) (.inl rfl) (by intro k hk; cases hk; rfl)
              case c8 => exact ask_conv_iu (guard_some rfl rfl rfl) (.tmp 48) N hN64 rfl rfl (by intro k hk; cases hk; rfl)
              case c9 => exact ask_call hG (guard_some rfl rfl rfl) _ _ _ #[.int .u64 (i : Int), .int .u64 (N : Int)] (.is (.int .i64 (p : Int))) rfl (by kernel_rfl) rfl rfl (by intro k hk; cases hk; rfl) (fun W hW => (HSize.out W).mono fun e w' h => ⟨_, h.1, rfl, h.2⟩)
              case c10 => exact ask_bin (guard_some rfl rfl rfl) .neq _ _ (.tmp 45) (.tmp 50) (.int .i64 (p : Int)) (.int .i64 (p : Int)) (.bool false) rfl rfl rfl (by intro k hk; cases hk; rfl) (neq_int _ _ _ _ _)
              case c11 => exact ask_pick (guard_none rfl) (.tmp 43) (.const (.bool true)) (.tmp 51) false rfl rfl (by intro k hk; cases hk; rfl)
              case c12 => exact ask_copy (guard_none rfl) (.tmp 52) (.inl rfl) (by intro k hk; cases hk; rfl)
              case c13 => exact ask_copy (guard_some rfl rfl rfl) (.tmp 0) (.inl rfl) (by intro k hk; cases hk; rfl)
              case c14 => exact ask_copy (guard_some rfl rfl rfl) (.tmp 7) (.inl rfl) (by intro k hk; cases hk; rfl)
              case c15 => exact ask_conv_iu (guard_some rfl rfl rfl) (.tmp 55) i hi64 rfl rfl (by intro k hk; cases hk; rfl)
              case c16 => exact ask_copy (guard_some rfl rfl rfl) (.tmp 5) (.inl rfl) (by intro k hk; cases hk; rfl)
              case c17 => exact ask_conv_iu (guard_some rfl rfl rfl) (.tmp 57) N hN64 rfl rfl (by intro k hk; cases hk; rfl)
              case c18 => exact ask_copy (guard_some rfl rfl rfl) (.tmp 0) (.inl rfl) (by intro k hk; cases hk; rfl)
              case c19 => exact ask_copy (guard_some rfl rfl rfl) (.tmp 1) (.inl rfl) (by intro k hk; cases hk; rfl)
              case c20 => exact ask_copy (guard_some rfl rfl rfl) (.tmp 7) (.inl rfl) (by intro k hk; cases hk; rfl)
              case c21 => exact ask_slice (guard_some rfl rfl rfl) _ (.tmp 60) none (some (.tmp 61)) none (.slice a q c) (.slice a i c) none (some (.int .i64 (i : Int))) none rfl rfl rfl rfl rfl (by intro k hk; cases hk; rfl) (HSlY.out)
              case c22 => exact ask_call hG (guard_some rfl rfl rfl) _ _ _ #[.int .i64 n, .slice a i c] (.is (.agg (bs Y))) rfl (by kernel_rfl) rfl rfl (by intro k hk; cases hk; rfl) (fun W hW => (HRootY.out W hW).mono fun e w' h => ⟨_, h.1, rfl, h.2⟩)
              case c23 => exact ask_load (guard_some rfl rfl rfl) _ (.tmp 6) (.pointer (some ⟨g6, 0, none⟩)) (.agg (bs X)) rfl rfl (by intro k hk; cases hk; rfl) (fun W hW => (HBk3.out.keep hW).loads 30 _ Tryd.underlying30 rfl HSX.out)
              case c24 => exact ask_copy (guard_some rfl rfl rfl) (.tmp 8) (.inl rfl) (by intro k hk; cases hk; rfl)
              case c25 => exact ask_call hG (guard_some rfl rfl rfl) _ _ _ #[.int .i64 n, .int .u64 (i : Int), .int .u64 (N : Int), .agg (bs Y), .agg (bs X), .slice pa p pc] (.is (.bool true)) rfl (by kernel_rfl) rfl rfl (by intro k hk; cases hk; rfl) (fun W hW => (HCheck.out W hW).mono fun e w' h => ⟨_, h.1, rfl, h.2⟩)
              case c26 => exact ask_exec (guard_some rfl rfl rfl) (.bool false) rfl rfl (by intro k hk; cases hk; rfl) (fun W hW => by kernel_rfl)
              case c27 => exact ask_pick (guard_none rfl) (.tmp 53) (.const (.bool true)) (.tmp 67) false rfl rfl (by intro k hk; cases hk; rfl)
            · intro a' W hW hd' hs' hf'
              have t0 : a'.tmps.getD 0 undef = .int .i64 n := hf' 0 rfl
              have t1 : a'.tmps.getD 1 undef = .slice a q c := hf' 1 rfl
              have t2 : a'.tmps.getD 2 undef = undef := hf' 2 rfl
              have t3 : a'.tmps.getD 3 undef = undef := hf' 3 rfl
              have t5 : a'.tmps.getD 5 undef = .int .i64 (N : Int) := hf' 5 rfl
              have t6 : a'.tmps.getD 6 undef = .pointer (some ⟨g6, 0, none⟩) := hf' 6 rfl
              have t7 : a'.tmps.getD 7 undef = .int .i64 (i : Int) := hf' 7 rfl
              have t10 : a'.tmps.getD 10 undef = .bool true := hf' 10 rfl
              have t11 : a'.tmps.getD 11 undef = .bool false := hf' 11 rfl
              have t12 : a'.tmps.getD 12 undef = .slice a m c := hf' 12 rfl
              have t13 : a'.tmps.getD 13 undef = .int .i64 (m : Int) := hf' 13 rfl
              have t14 : a'.tmps.getD 14 undef = .bool z14 := hf' 14 rfl
              have t15 : a'.tmps.getD 15 undef = .slice a m c := hf' 15 rfl
              have t16 : a'.tmps.getD 16 undef = .slice a q c := hf' 16 rfl
              have t17 : a'.tmps.getD 17 undef = .int .i64 (N : Int) := hf' 17 rfl
              have t18 : a'.tmps.getD 18 undef = .slice a q c := hf' 18 rfl
              have t19 : a'.tmps.getD 19 undef = .int .i64 (q : Int) := hf' 19 rfl
              have t20 : a'.tmps.getD 20 undef = .bool true := hf' 20 rfl
              have t21 : a'.tmps.getD 21 undef = u21 := hf' 21 rfl
              have t22 : a'.tmps.getD 22 undef = u22 := hf' 22 rfl
              have t23 : a'.tmps.getD 23 undef = .int .i64 n := hf' 23 rfl
              have t24 : a'.tmps.getD 24 undef = .slice a q c := hf' 24 rfl
              have t25 : a'.tmps.getD 25 undef = .int .i64 (N : Int) := hf' 25 rfl
              have t26 : a'.tmps.getD 26 undef = .slice a N c := hf' 26 rfl
              have t27 : a'.tmps.getD 27 undef = .agg (bs X) := hf' 27 rfl
              have t68 : a'.tmps.getD 68 undef = .bool false := hf' 68 rfl
              obtain ⟨us', hus, ha'⟩ := act_open 69 a' hs' hd'
              rw [← hus] at t0 t1 t2 t3 t5 t6 t7 t10 t11 t12 t13 t14 t15 t16 t17 t18 t19 t20 t21 t22 t23 t24 t25 t26 t27 t68
              have el : ((List.range 69).map us').toArray = #[.int .i64 n, .slice a q c, undef, undef, us' 4, .int .i64 (N : Int), .pointer (some ⟨g6, 0, none⟩), .int .i64 (i : Int), us' 8, us' 9, .bool true, .bool false, .slice a m c, .int .i64 (m : Int), .bool z14, .slice a m c, .slice a q c, .int .i64 (N : Int), .slice a q c, .int .i64 (q : Int), .bool true, u21, u22, .int .i64 n, .slice a q c, .int .i64 (N : Int), .slice a N c, .agg (bs X), us' 28, us' 29, us' 30, us' 31, us' 32, us' 33, us' 34, us' 35, us' 36, us' 37, us' 38, us' 39, us' 40, us' 41, us' 42, us' 43, us' 44, us' 45, us' 46, us' 47, us' 48, us' 49, us' 50, us' 51, us' 52, us' 53, us' 54, us' 55, us' 56, us' 57, us' 58, us' 59, us' 60, us' 61, us' 62, us' 63, us' 64, us' 65, us' 66, us' 67, .bool false] := by
                show #[us' 0, us' 1, us' 2, us' 3, us' 4, us' 5, us' 6, us' 7, us' 8, us' 9, us' 10, us' 11, us' 12, us' 13, us' 14, us' 15, us' 16, us' 17, us' 18, us' 19, us' 20, us' 21, us' 22, us' 23, us' 24, us' 25, us' 26, us' 27, us' 28, us' 29, us' 30, us' 31, us' 32, us' 33, us' 34, us' 35, us' 36, us' 37, us' 38, us' 39, us' 40, us' 41, us' 42, us' 43, us' 44, us' 45, us' 46, us' 47, us' 48, us' 49, us' 50, us' 51, us' 52, us' 53, us' 54, us' 55, us' 56, us' 57, us' 58, us' 59, us' 60, us' 61, us' 62, us' 63, us' 64, us' 65, us' 66, us' 67, us' 68] = _
                rw [t0, t1, t2, t3, t5, t6, t7, t10, t11, t12, t13, t14, t15, t16, t17, t18, t19, t20, t21, t22, t23, t24, t25, t26, t27, t68]
              rw [el] at ha'
              subst ha'
              clear hus t0 t1 t2 t3 t5 t6 t7 t10 t11 t12 t13 t14 t15 t16 t17 t18 t19 t20 t21 t22 t23 t24 t25 t26 t27 t68 el hf' hs' hd'
              have HWc := Lib.hid hW
              clear hW hG HSize HCheck HBk3 HPl HCk HRootY HRootY0 HSlY HY32 HP65
              go_wp2
              go_roundw
              case rel => exact ⟨i + 1, by omega, by simp, HBi3.out.trans (HWc.out.mono HBi3.out.size)⟩
              case measure => simp [intOf]; omega
          · obtain rfl : i = N + 1 := by omega
            have HBe := Lib.hid (HBb.out.trans (HBi.out.mono HBb.out.size))
            clear HBi HBb
            go_wp2
            go_roundw
            case rel => exact ⟨N + 1, by omega, by simp, HBe.out⟩
            case measure => simp [intOf]; omega
      · go_wp2
        go_ret
        exact ⟨rfl, HBw.out⟩
  · obtain ⟨q, hmq⟩ : ∃ q, q = m := ⟨_, rfl⟩
    rw [← hmq] at hv hc h24 hm ⊢
    have hq := hm
    have hq24 : q ≤ 24 := by omega
    clear hmq hm
    have HV := Lib.hid hv
    have HL := Lib.hid hq.symm
    clear hv hq ht hp hq0 hn
    go_enter Tryd.func10, Tryd.ntmps10
    go_wp2_with fail
    refine (awake16_any HP.out HQ.out _ HT.out).mono ?_
    rintro e W1 ⟨rfl, hb1⟩
    have HB1 := Lib.hid hb1
    clear hb1
    go_upto_region 6 with fail
    generalize decide (24 < (q : Int)) = z14
    refine world_cut (fun W => Below w.heap.size w W) HB1.out ?_
    clear HB1
    intro W1' hW1
    have hstart : GaAt q w (.int .i64 0) W1' := ⟨0, by omega, rfl, hW1⟩
    have HStart := Lib.hid hstart
    clear hstart hW1
    go_wp2
    go_loopw [5] (fun s5 wr => GaAt q w s5 wr) (fun s5 _ => q + 1 - (intOf s5).toNat)
    case atStart => exact HStart.out
    case round =>
      obtain ⟨N, hNq, rfl, hbw⟩ := hrel
      have HBw := Lib.hid hbw
      clear hbw HStart
      by_cases hlt : N ≤ q
      · have hN64 : N < 18446744073709551616 := by omega
        have htl : (hs.take N).length = N := by rw [List.length_take, HL.out]; omega
        have hv1 : Hss w (.slice a N c) (hs.take N) := by
          have := HV.out.sub 0 N (by omega) (by omega)
          rw [sliced_zero3] at this
          simpa using this
        obtain ⟨X, hX, hX32⟩ : ∃ X, X = rootH n (hs.take N) ∧ X.length = 32 := ⟨_, rfl, rootH_length _ _ hv1.all⟩
        have HRoot := Lib.hid (fun (W : World) (hW : Below w.heap.size w W) => HQ.out.root n (hs.take N) (.slice a N c) W HN.out (hv1.below (Nat.le_refl _) hW) (by rw [htl]; omega) (HT.out.below (Nat.le_refl _) hW))
        rw [← hX] at HRoot
        have HXd := Lib.hid hX
        have HX := Lib.hid hX32
        have HSX := Lib.hid (size_hash (cs := bs X) (by rw [bs_size, hX32]))
        have HTl := Lib.hid htl
        have HSl2 := Lib.hid (fun (W : World) => show (Instr.sliceAt 22 (.slice a q c) none (some (.int .i64 (N : Int))) none).run Tryd.prog W = .ok (.slice a N c) W by rw [slice_hs_to a q c N (by omega) W, sliced_zero3])
        clear hX hX32 htl hv1
        go_wp2_with (refine wpList_slice_by rfl 22 (.tmp 24) none (some (.tmp 25)) rfl (.slice a q c) (.slice a N c) none (some (.int .i64 (N : Int))) rfl rfl rfl (HSl2.out _) ?_)
        refine (HRoot.out _ HBw.out).mono ?_
        rintro e W2 ⟨rfl, hb2⟩
        have HB2 := Lib.hid (HBw.out.trans (hb2.mono HBw.out.size))
        clear hb2 HRoot HSl2
        go_upto_region 9 with (refine wpList_store_row rfl 30 (.tmp 6) (.tmp 27) rfl W2.heap.size (bs X) rfl rfl 30 _ (Blk.new W2 _ _) HSX.out (by rw [bs_size, HX.out]; rfl) (bs_one _) ?_)
        obtain ⟨g6, hg6⟩ : ∃ g, g = W2.heap.size := ⟨_, rfl⟩
        have h2s := HB2.out.size
        refine world_cut (fun W => Blk W g6 30 (bs X) ∧ Below w.heap.size w W) ⟨by rw [hg6]; exact Blk.row (Blk.new W2 _ _) _, below_setRow (HB2.out.alloc h2s _) _ _ h2s⟩ ?_
        rw [← hg6]
        clear hg6 h2s HB2 HBw
        rintro Wb ⟨h6, hbb⟩
        have HF6 := Lib.hid h6
        have HBb := Lib.hid hbb
        clear h6 hbb
        have hstart2 : GbAt N Wb (.int .i64 0) Wb := ⟨0, by omega, rfl, Below.refl _ _⟩
        have HStart2 := Lib.hid hstart2
        clear hstart2
        go_wp2
        obtain ⟨wo, rfl⟩ : ∃ wo : World, wo = wr := ⟨_, rfl⟩
        go_loopw [7] (fun s7 wr => GbAt N Wb s7 wr) (fun s7 _ => N + 1 - (intOf s7).toNat)
        case atStart => exact HStart2.out
        case round =>
          obtain ⟨i, hiN, rfl, hbi⟩ := hrel
          have HBi := Lib.hid hbi
          clear hbi HStart2
          by_cases hi : i ≤ N
          · have hi64 : i < 18446744073709551616 := by omega
            have hiq : i ≤ q := by omega
            have hbi' : Below w.heap.size w wr := HBb.out.trans (HBi.out.mono HBb.out.size)
            have hgp := grow_passes n hs i N hi (by rw [HL.out]; exact hlt)
            obtain ⟨P, hP⟩ : ∃ P, P = (growR n hs (i : Int) (N : Int)).1 := ⟨_, rfl⟩
            rw [← hP] at hgp
            obtain ⟨hpr0, hPl, hck⟩ := hgp
            have hpr : growR n hs (i : Int) (N : Int) = (P, 0) := by rw [hP, ← hpr0]
            have hP65 : P.length ≤ 65 := by rw [hP]; exact growR_65 n hs _ _ (by rw [HL.out]; omega)
            have htl2 : (hs.take i).length = i := by rw [List.length_take, HL.out]; omega
            have hv3 : Hss w (.slice a i c) (hs.take i) := by
              have := HV.out.sub 0 i (by omega) (by omega)
              rw [sliced_zero3] at this
              simpa using this
            obtain ⟨Y, hY, hY32⟩ : ∃ Y, Y = rootH n (hs.take i) ∧ Y.length = 32 := ⟨_, rfl, rootH_length _ _ hv3.all⟩
            have HRootY0 := Lib.hid (fun (W : World) (hW : Below w.heap.size w W) => HQ.out.root n (hs.take i) (.slice a i c) W HN.out (hv3.below (Nat.le_refl _) hW) (by rw [htl2]; omega) (HT.out.below (Nat.le_refl _) hW))
            rw [← hY] at HRootY0
            rw [← hY, ← HXd.out] at hck
            have HSlY := Lib.hid (fun (W : World) => show (Instr.sliceAt 22 (.slice a q c) none (some (.int .i64 (i : Int))) none).run Tryd.prog W = .ok (.slice a i c) W by rw [slice_hs_to a q c i (by omega) W, sliced_zero3])
            have HProve := Lib.hid (HP.out.prove n hs (i : Int) (N : Int) (.slice a q c) wr HN.out (by unfold I64; omega) (by unfold I64; omega) (by rw [HL.out]; omega) (HV.out.below (Nat.le_refl _) hbi') (HT.out.below (Nat.le_refl _) hbi'))
            rw [hpr] at HProve
            have HPl := Lib.hid hPl
            have HCk := Lib.hid hck
            have HY32 := Lib.hid hY32
            have HP65 := Lib.hid hP65
            have HBi' := Lib.hid hbi'
            clear hbi' hP hPl hpr hck hY hY32 hP65 hpr0 htl2 hv3
            go_wp2_with fail
            refine HProve.out.mono ?_
            rintro e W3 ⟨u, rfl, hu, hb3⟩
            obtain ⟨pa, pc, rfl, hpc⟩ := hu.form
            obtain ⟨p, hp⟩ : ∃ p, p = P.length := ⟨_, rfl⟩
            rw [← hp] at hu hpc ⊢
            have hp64 : p ≤ 65 := by rw [hp]; exact HP65.out
            have HB3 := Lib.hid (HBi'.out.trans (hb3.mono HBi'.out.size))
            have HBi3 := Lib.hid (HBi.out.trans (hb3.mono HBi.out.size))
            have HBk3 := Lib.hid ((HF6.out.keep HBi.out).keep hb3)
            have HSize := Lib.hid (fun (W : World) => HP.out.size i N W hi64 hN64)
            rw [← HPl.out, ← hp] at HSize
            have HCheck : Hid (∀ W : World, Below W3.heap.size W3 W → Calls Tryd.prog 31 #[.int .i64 n, .int .u64 (i : Int), .int .u64 (N : Int), .agg (bs Y), .agg (bs X), .slice pa p pc] W fun e w' => e = .returned (.bool true) ∧ Below W.heap.size W w') := Lib.hid fun W hW => by
              have := HP.out.check n Y i N X P (.slice pa p pc) W HN.out HY32.out HX.out hi64 hN64 (hu.below (Nat.le_refl _) hW) (by rw [← hp]; omega) ((HT.out.below (Nat.le_refl _) HB3.out).below (Nat.le_refl _) hW)
              rwa [HCk.out] at this
            have HRootY := Lib.hid (fun (W : World) (hW : Below W3.heap.size W3 W) => HRootY0.out W (HB3.out.trans (hW.mono HB3.out.size)))
            clear hu hb3 hp hpc HProve
            go_upto_region 13 with fail
            have hG : ∀ W W' : World, Below W3.heap.size W3 W → Below W.heap.size W W' → Below W3.heap.size W3 W' := fun W W' h h' => h.trans (h'.mono h.size)
            refine region_by [(41, .is (.int .i64 0)), (42, .is (.bool false)), (43, .is (.bool false)), (44, .is (.slice pa p pc)), (45, .is (.int .i64 (p : Int))), (46, .is (.int .i64 (i : Int))), (47, .is (.int .u64 (i : Int))), (48, .is (.int .i64 (N : Int))), (49, .is (.int .u64 (N : Int))), (50, .is (.int .i64 (p : Int))), (51, .is (.bool false)), (52, .is (.bool false)), (53, .is (.bool false)), (54, .is (.int .i64 n)), (55, .is (.int .i64 (i : Int))), (56, .is (.int .u64 (i : Int))), (57, .is (.int .i64 (N : Int))), (58, .is (.int .u64 (N : Int))), (59, .is (.int .i64 n)), (60, .is (.slice a q c)), (61, .is (.int .i64 (i : Int))), (62, .is (.slice a i c)), (63, .is (.agg (bs Y))), (64, .is (.agg (bs X))), (65, .is (.slice pa p pc)), (66, .is (.bool true)), (67, .is (.bool false)), (68, .is (.bool false))] [0, 1, 2, 3, 5, 6, 7, 10, 11, 12, 13, 14, 15, 16, 17, 18, 19, 20, 21, 22, 23, 24, 25, 26, 27, 68] (fun W => Below W3.heap.size W3 W) (by kernel_rfl) (by kernel_rfl) (by kernel_rfl) (by kernel_rfl) (by kernel_rfl) ((Below.refl _ _).drew) ?_ ?_
            · refine ⟨?c0, ?c1, ?c2, ?c3, ?c4, ?c5, ?c6, ?c7, ?c8, ?c9, ?c10, ?c11, ?c12, ?c13, ?c14, ?c15, ?c16, ?c17, ?c18, ?c19, ?c20, ?c21, ?c22, ?c23, ?c24, ?c25, ?c26, ?c27, trivial⟩
              case c0 => exact ask_copy (guard_none rfl) (.tmp 9) (.inl rfl) (by intro k hk; cases hk; rfl)
              case c1 => exact ask_bin (guard_none rfl) .neq _ _ (.tmp 41) (.const (.int .i64 0)) (.int .i64 0) (.int .i64 0) (.bool false) rfl rfl rfl (by intro k hk; cases hk; rfl) (neq_int _ _ _ _ _)
              case c2 => exact ask_copy (guard_none rfl) (.tmp 42) (.inl rfl) (by intro k hk; cases hk; rfl)
              case c3 => exact ask_copy (guard_some rfl rfl rfl) (.tmp 8) (.inl rfl) (by intro k hk; cases hk; rfl)
              case c4 => exact ask_len (guard_some rfl rfl rfl) (.tmp 44) _ pa p pc rfl (by kernel_rfl) rfl (by intro k hk; cases hk; rfl)
              case c5 => exact ask_copy (guard_some rfl rfl rfl) (.tmp 7) (.inl rfl) (by intro k hk; cases hk; rfl)
              case c6 => exact ask_conv_iu (guard_some rfl rfl rfl) (.tmp 46) i hi64 rfl rfl (by intro k hk; cases hk; rfl)
              case c7 => exact ask_copy (guard_some rfl rfl rfl) (.tmp 5) (.inl rfl) (by intro k hk; cases hk; rfl)
              case c8 => exact ask_conv_iu (guard_some rfl rfl rfl) (.tmp 48) N hN64 rfl rfl (by intro k hk; cases hk; rfl)
              case c9 => exact ask_call hG (guard_some rfl rfl rfl) _ _ _ #[.int .u64 (i : Int), .int .u64 (N : Int)] (.is (.int .i64 (p : Int))) rfl (by kernel_rfl) rfl rfl (by intro k hk; cases hk; rfl) (fun W hW => (HSize.out W).mono fun e w' h => ⟨_, h.1, rfl, h.2⟩)
              case c10 => exact ask_bin (guard_some rfl rfl rfl) .neq _ _ (.tmp 45) (.tmp 50) (.int .i64 (p : Int)) (.int .i64 (p : Int)) (.bool false) rfl rfl rfl (by intro k hk; cases hk; rfl) (neq_int _ _ _ _ _)
              case c11 => exact ask_pick (guard_none rfl) (.tmp 43) (.const (.bool true)) (.tmp 51) false rfl rfl (by intro k hk; cases hk; rfl)
              case c12 => exact ask_copy (guard_none rfl) (.tmp 52) (.inl rfl) (by intro k hk; cases hk; rfl)
              case c13 => exact ask_copy (guard_some rfl rfl rfl) (.tmp 0) (.inl rfl) (by intro k hk; cases hk; rfl)
              case c14 => exact ask_copy (guard_some rfl rfl rfl) (.tmp 7) (.inl rfl) (by intro k hk; cases hk; rfl)
              case c15 => exact ask_conv_iu (guard_some rfl rfl rfl) (.tmp 55) i hi64 rfl rfl (by intro k hk; cases hk; rfl)
              case c16 => exact ask_copy (guard_some rfl rfl rfl) (.tmp 5) (.inl rfl) (by intro k hk; cases hk; rfl)
              case c17 => exact ask_conv_iu (guard_some rfl rfl rfl) (.tmp 57) N hN64 rfl rfl (by intro k hk; cases hk; rfl)
              case c18 => exact ask_copy (guard_some rfl rfl rfl) (.tmp 0) (.inl rfl) (by intro k hk; cases hk; rfl)
              case c19 => exact ask_copy (guard_some rfl rfl rfl) (.tmp 1) (.inl rfl) (by intro k hk; cases hk; rfl)
              case c20 => exact ask_copy (guard_some rfl rfl rfl) (.tmp 7) (.inl rfl) (by intro k hk; cases hk; rfl)
              case c21 => exact ask_slice (guard_some rfl rfl rfl) _ (.tmp 60) none (some (.tmp 61)) none (.slice a q c) (.slice a i c) none (some (.int .i64 (i : Int))) none rfl rfl rfl rfl rfl (by intro k hk; cases hk; rfl) (HSlY.out)
              case c22 => exact ask_call hG (guard_some rfl rfl rfl) _ _ _ #[.int .i64 n, .slice a i c] (.is (.agg (bs Y))) rfl (by kernel_rfl) rfl rfl (by intro k hk; cases hk; rfl) (fun W hW => (HRootY.out W hW).mono fun e w' h => ⟨_, h.1, rfl, h.2⟩)
              case c23 => exact ask_load (guard_some rfl rfl rfl) _ (.tmp 6) (.pointer (some ⟨g6, 0, none⟩)) (.agg (bs X)) rfl rfl (by intro k hk; cases hk; rfl) (fun W hW => (HBk3.out.keep hW).loads 30 _ Tryd.underlying30 rfl HSX.out)
              case c24 => exact ask_copy (guard_some rfl rfl rfl) (.tmp 8) (.inl rfl) (by intro k hk; cases hk; rfl)
              case c25 => exact ask_call hG (guard_some rfl rfl rfl) _ _ _ #[.int .i64 n, .int .u64 (i : Int), .int .u64 (N : Int), .agg (bs Y), .agg (bs X), .slice pa p pc] (.is (.bool true)) rfl (by kernel_rfl) rfl rfl (by intro k hk; cases hk; rfl) (fun W hW => (HCheck.out W hW).mono fun e w' h => ⟨_, h.1, rfl, h.2⟩)
              case c26 => exact ask_exec (guard_some rfl rfl rfl) (.bool false) rfl rfl (by intro k hk; cases hk; rfl) (fun W hW => by kernel_rfl)
              case c27 => exact ask_pick (guard_none rfl) (.tmp 53) (.const (.bool true)) (.tmp 67) false rfl rfl (by intro k hk; cases hk; rfl)
            · intro a' W hW hd' hs' hf'
              have t0 : a'.tmps.getD 0 undef = .int .i64 n := hf' 0 rfl
              have t1 : a'.tmps.getD 1 undef = .slice a q c := hf' 1 rfl
              have t2 : a'.tmps.getD 2 undef = undef := hf' 2 rfl
              have t3 : a'.tmps.getD 3 undef = undef := hf' 3 rfl
              have t5 : a'.tmps.getD 5 undef = .int .i64 (N : Int) := hf' 5 rfl
              have t6 : a'.tmps.getD 6 undef = .pointer (some ⟨g6, 0, none⟩) := hf' 6 rfl
              have t7 : a'.tmps.getD 7 undef = .int .i64 (i : Int) := hf' 7 rfl
              have t10 : a'.tmps.getD 10 undef = .bool true := hf' 10 rfl
              have t11 : a'.tmps.getD 11 undef = .bool false := hf' 11 rfl
              have t12 : a'.tmps.getD 12 undef = .slice a q c := hf' 12 rfl
              have t13 : a'.tmps.getD 13 undef = .int .i64 (q : Int) := hf' 13 rfl
              have t14 : a'.tmps.getD 14 undef = .bool z14 := hf' 14 rfl
              have t15 : a'.tmps.getD 15 undef = undef := hf' 15 rfl
              have t16 : a'.tmps.getD 16 undef = undef := hf' 16 rfl
              have t17 : a'.tmps.getD 17 undef = .int .i64 (N : Int) := hf' 17 rfl
              have t18 : a'.tmps.getD 18 undef = .slice a q c := hf' 18 rfl
              have t19 : a'.tmps.getD 19 undef = .int .i64 (q : Int) := hf' 19 rfl
              have t20 : a'.tmps.getD 20 undef = .bool true := hf' 20 rfl
              have t21 : a'.tmps.getD 21 undef = u21 := hf' 21 rfl
              have t22 : a'.tmps.getD 22 undef = u22 := hf' 22 rfl
              have t23 : a'.tmps.getD 23 undef = .int .i64 n := hf' 23 rfl
              have t24 : a'.tmps.getD 24 undef = .slice a q c := hf' 24 rfl
              have t25 : a'.tmps.getD 25 undef = .int .i64 (N : Int) := hf' 25 rfl
              have t26 : a'.tmps.getD 26 undef = .slice a N c := hf' 26 rfl
              have t27 : a'.tmps.getD 27 undef = .agg (bs X) := hf' 27 rfl
              have t68 : a'.tmps.getD 68 undef = .bool false := hf' 68 rfl
              obtain ⟨us', hus, ha'⟩ := act_open 69 a' hs' hd'
              rw [← hus] at t0 t1 t2 t3 t5 t6 t7 t10 t11 t12 t13 t14 t15 t16 t17 t18 t19 t20 t21 t22 t23 t24 t25 t26 t27 t68
              have el : ((List.range 69).map us').toArray = #[.int .i64 n, .slice a q c, undef, undef, us' 4, .int .i64 (N : Int), .pointer (some ⟨g6, 0, none⟩), .int .i64 (i : Int), us' 8, us' 9, .bool true, .bool false, .slice a q c, .int .i64 (q : Int), .bool z14, undef, undef, .int .i64 (N : Int), .slice a q c, .int .i64 (q : Int), .bool true, u21, u22, .int .i64 n, .slice a q c, .int .i64 (N : Int), .slice a N c, .agg (bs X), us' 28, us' 29, us' 30, us' 31, us' 32, us' 33, us' 34, us' 35, us' 36, us' 37, us' 38, us' 39, us' 40, us' 41, us' 42, us' 43, us' 44, us' 45, us' 46, us' 47, us' 48, us' 49, us' 50, us' 51, us' 52, us' 53, us' 54, us' 55, us' 56, us' 57, us' 58, us' 59, us' 60, us' 61, us' 62, us' 63, us' 64, us' 65, us' 66, us' 67, .bool false] := by
                show #[us' 0, us' 1, us' 2, us' 3, us' 4, us' 5, us' 6, us' 7, us' 8, us' 9, us' 10, us' 11, us' 12, us' 13, us' 14, us' 15, us' 16, us' 17, us' 18, us' 19, us' 20, us' 21, us' 22, us' 23, us' 24, us' 25, us' 26, us' 27, us' 28, us' 29, us' 30, us' 31, us' 32, us' 33, us' 34, us' 35, us' 36, us' 37, us' 38, us' 39, us' 40, us' 41, us' 42, us' 43, us' 44, us' 45, us' 46, us' 47, us' 48, us' 49, us' 50, us' 51, us' 52, us' 53, us' 54, us' 55, us' 56, us' 57, us' 58, us' 59, us' 60, us' 61, us' 62, us' 63, us' 64, us' 65, us' 66, us' 67, us' 68] = _
                rw [t0, t1, t2, t3, t5, t6, t7, t10, t11, t12, t13, t14, t15, t16, t17, t18, t19, t20, t21, t22, t23, t24, t25, t26, t27, t68]
              rw [el] at ha'
              subst ha'
              clear hus t0 t1 t2 t3 t5 t6 t7 t10 t11 t12 t13 t14 t15 t16 t17 t18 t19 t20 t21 t22 t23 t24 t25 t26 t27 t68 el hf' hs' hd'
              have HWc := Lib.hid hW
              clear hW hG HSize HCheck HBk3 HPl HCk HRootY HRootY0 HSlY HY32 HP65
              go_wp2
              go_roundw
              case rel => exact ⟨i + 1, by omega, by simp, HBi3.out.trans (HWc.out.mono HBi3.out.size)⟩
              case measure => simp [intOf]; omega
          · obtain rfl : i = N + 1 := by omega
            have HBe := Lib.hid (HBb.out.trans (HBi.out.mono HBb.out.size))
            clear HBi HBb
            go_wp2
            go_roundw
            case rel => exact ⟨N + 1, by omega, by simp, HBe.out⟩
            case measure => simp [intOf]; omega
      · go_wp2
        go_ret
        exact ⟨rfl, HBw.out⟩
end Go.Proofs.YtdhfabjkpffhnabDoor

/- GrowthOther: the walk. -/
namespace Go.Proofs.YtdhfabjkpffhnabDoor
set_option maxRecDepth 20000
open Go.RowKit ShaMath LeafMath PathMath GrowthMath Reg

/-- The place: 1 + int(uint(i) % uint(q)). -/
theorem one_place (i : Int) (q : Nat) (hq : 0 < q) (hq2 : q ≤ 1000) : ∃ M : Nat, (wrap64 (1 + wrap64 ((IntKind.u64.wrap i).tmod (q : Int))) = (M : Int) ∧ 1 ≤ M ∧ M ≤ q) := by
  have h1 : 0 ≤ IntKind.u64.wrap i := by rw [IntKind.wrap_u64]; omega
  generalize IntKind.u64.wrap i = z at h1 ⊢
  rw [Int.tmod_eq_emod_of_nonneg h1]
  have h2 := Int.emod_nonneg z (show (q : Int) ≠ 0 by omega)
  have h3 := Int.emod_lt_of_pos z (show (0 : Int) < (q : Int) by omega)
  generalize z % (q : Int) = r at h2 h3 ⊢
  exact ⟨r.toNat + 1, by unfold wrap64; omega, by omega, by omega⟩

theorem beq_swap (a b : Hs) : (a == b) = (b == a) := by
  by_cases h : a = b
  · subst h
    rfl
  · have h1 : (a == b) = false := by simpa using h
    have h2 : (b == a) = false := by simpa using (fun e : b = a => h e.symm)
    rw [h1, h2]

theorem add_u64c (x z : Nat) (t : TypeId) (a b : Operand) (hz : (x : Int) + 1 = z) (hb : z < 18446744073709551616) (W : World) : (do eqGuard .add t a b (.int .u64 (x : Int)) (.int .u64 1); binOp .add t (.int .u64 (x : Int)) (.int .u64 1) : Sem Value).run Tryd.prog W = .ok (.int .u64 (z : Int)) W := by
  have h : IntKind.u64.wrap ((x : Int) + 1) = (z : Int) := by
    rw [IntKind.wrap_u64]
    omega
  simp [eqGuard, binOp, go_sem, h]

/-- What the proof of 1 <= M <= q leaves shows. -/
theorem grow_climbs (n : Int) (hs : List Hs) (M q : Nat) (h1 : 1 ≤ M) (hM : M ≤ q) (hq : q = hs.length) :
    ∃ Ps, growR n hs (M : Int) (q : Int) = (Ps, 0) ∧ Ps.length = growS M q ∧ climbGR n (rootH n (hs.take M)) M q Ps = ((rootH n (hs.take M), rootH n hs), 0) := by
  have ht : hs.take q = hs := List.take_of_length_le (by omega)
  have e : growR n hs (M : Int) (q : Int) = (partG n hs M true, 0) := by
    rw [growR, if_neg (by omega), if_neg (by omega)]
    simp [ht]
  have hpl := partG_length n q hs M true hq.symm hM
  have hgs : growS M q = sizeG M q true := by rw [growS, if_neg (by omega)]
  have hsh := show_part n q hs M (rootH n (hs.take M)) true hq.symm h1 hM (fun _ => rfl)
  refine ⟨_, e, by rw [hgs]; exact hpl, ?_⟩
  rw [climbGR, if_neg (by omega), if_neg (by rw [hgs, hpl]; omega), if_neg (by rw [hgs, hpl]; omega), hsh]

def GoW (w : World) (x o r : Hs) (g1 g2 : Nat) (W : World) : Prop := Blk W w.heap.size 30 (bs x) ∧ Blk W g1 30 (bs o) ∧ Blk W g2 30 (bs r) ∧ Below w.heap.size w W
theorem GoW.keep {w W W' : World} {x o r : Hs} {g1 g2 : Nat} (X : GoW w x o r g1 g2 W) (hb : Below W.heap.size W W') : GoW w x o r g1 g2 W' := ⟨X.1.keep hb, X.2.1.keep hb, X.2.2.1.keep hb, X.2.2.2.trans (hb.mono X.2.2.2.size)⟩

set_option maxHeartbeats 8000000 in
set_option maxRecDepth 100000 in
theorem growthOther_walk (hp : GrowthProg) (hq1 : LeafProg) (n : Int) (hn : I64 n) (hs : List Hs) (v : Value) (i : Int) (x : Hs) (hx : x.length = 32) (w : World) (hv : Hss w v hs) (ht : Tabs w) :
    Calls Tryd.prog 11 #[.int .i64 n, v, .int .i64 i, .agg (bs x)] w fun e w' => e = .returned (.bool true) ∧ Below w.heap.size w w' := by
  obtain ⟨a, c, rfl, hc⟩ := hv.form
  obtain ⟨m, hm⟩ : ∃ m, m = hs.length := ⟨_, rfl⟩
  rw [← hm] at hv hc ⊢
  have HT := Lib.hid ht
  have HP := Lib.hid hp
  have HQ := Lib.hid hq1
  have HN := Lib.hid hn
  have HX := Lib.hid hx
  have HSx := Lib.hid (size_hash (cs := bs x) (by rw [bs_size, hx]))
  by_cases h60 : 60 < m
  · obtain ⟨q, hq60⟩ : ∃ q, q = 60 := ⟨_, rfl⟩
    have hq : q ≤ 60 := by omega
    have hqm : q ≤ m := by omega
    have hv2 : Hss w (.slice a q c) (hs.take q) := by
      have := hv.sub 0 q (by omega) (by omega)
      rw [sliced_zero3] at this
      simpa using this
    have hl2 : q = (hs.take q).length := by rw [List.length_take]; omega
    have hsl : ∀ W, (Instr.sliceAt 22 (.slice a m c) none (some (.int .i64 60)) none).run Tryd.prog W = .ok (.slice a q c) W := fun W => by
      have := slice_hs_to a m c 60 (by omega) W
      rw [sliced_zero3] at this
      rw [hq60]
      exact this
    obtain ⟨gs, hgs⟩ : ∃ h, h = hs.take q := ⟨_, rfl⟩
    rw [← hgs] at hv2 hl2
    have HVg := Lib.hid hv2
    have HG := Lib.hid hl2
    have HSl := Lib.hid hsl
    have hq0 : ((q : Int) == 0) = false := by simp; omega
    have hqp : 0 < q := by omega
    clear hv hv2 hl2 hsl hgs hm ht hp hn hq60 hx hq1
    obtain ⟨M, hM, hM1, hMq⟩ := one_place i q hqp (by omega)
    obtain ⟨Ps, hpr, hpl, hcl⟩ := grow_climbs n gs M q hM1 hMq HG.out
    have hP65 : Ps.length ≤ 65 := by rw [hpl]; exact growS_65 M q (by omega)
    have htl : (gs.take M).length = M := by rw [List.length_take, ← HG.out]; omega
    have hv3 : Hss w (.slice a M c) (gs.take M) := by
      have := HVg.out.sub 0 M (by omega) (by omega)
      rw [sliced_zero3] at this
      simpa using this
    obtain ⟨O, hO, hO32⟩ : ∃ O, O = rootH n (gs.take M) ∧ O.length = 32 := ⟨_, rfl, rootH_length _ _ hv3.all⟩
    obtain ⟨R, hR, hR32⟩ : ∃ R, R = rootH n gs ∧ R.length = 32 := ⟨_, rfl, rootH_length _ _ HVg.out.all⟩
    rw [← hO, ← hR] at hcl
    have HProve := Lib.hid (fun (W : World) (hW : Below w.heap.size w W) => HP.out.prove n gs (M : Int) (q : Int) (.slice a q c) W HN.out (by unfold I64; omega) (by unfold I64; omega) (by rw [← HG.out]; omega) (HVg.out.below (Nat.le_refl _) hW) (HT.out.below (Nat.le_refl _) hW))
    rw [hpr] at HProve
    have HRootO := Lib.hid (fun (W : World) (hW : Below w.heap.size w W) => HQ.out.root n (gs.take M) (.slice a M c) W HN.out (hv3.below (Nat.le_refl _) hW) (by rw [htl]; omega) (HT.out.below (Nat.le_refl _) hW))
    rw [← hO] at HRootO
    have HRootR := Lib.hid (fun (W : World) (hW : Below w.heap.size w W) => HQ.out.root n gs (.slice a q c) W HN.out (HVg.out.below (Nat.le_refl _) hW) (by rw [← HG.out]; omega) (HT.out.below (Nat.le_refl _) hW))
    rw [← hR] at HRootR
    have hck1 : checkGR n O M q x Ps = (x == R) := by
      rw [checkGR, if_neg (by omega), if_neg (by omega), hcl]
      have e : (R == x) = (x == R) := beq_swap R x
      simp [e]
    have hck2 : checkGR n O (q + 1) M R Ps = false := by rw [checkGR, if_pos (by omega)]
    have HClimb := Lib.hid (fun (v : Value) (W : World) (hv : Hss W v Ps) (hW : Below w.heap.size w W) => HP.out.climb n O M q Ps v W HN.out hO32 (by omega) (by omega) hv (by omega) (HT.out.below (Nat.le_refl _) hW))
    rw [hcl] at HClimb
    have HCk1 := Lib.hid (fun (v : Value) (W : World) (hv : Hss W v Ps) (hW : Below w.heap.size w W) => HP.out.check n O M q x Ps v W HN.out hO32 HX.out (by omega) (by omega) hv (by omega) (HT.out.below (Nat.le_refl _) hW))
    rw [hck1] at HCk1
    have HCk2 := Lib.hid (fun (v : Value) (W : World) (hv : Hss W v Ps) (hW : Below w.heap.size w W) => HP.out.check n O (q + 1) M R Ps v W HN.out hO32 hR32 (by omega) (by omega) hv (by omega) (HT.out.below (Nat.le_refl _) hW))
    rw [hck2] at HCk2
    have HSO := Lib.hid (size_hash (cs := bs O) (by rw [bs_size, hO32]))
    have HSR := Lib.hid (size_hash (cs := bs R) (by rw [bs_size, hR32]))
    have HOS := Lib.hid (show (bs O).size = 32 by rw [bs_size, hO32])
    have HRS := Lib.hid (show (bs R).size = 32 by rw [bs_size, hR32])
    have HR32 := Lib.hid hR32
    have HEqO := Lib.hid (fun W => eq_same W O hO32)
    have HEqR := Lib.hid (fun W => eq_same W R hR32)
    have HSl2 := Lib.hid (fun (W : World) => show (Instr.sliceAt 22 (.slice a q c) none (some (.int .i64 (M : Int))) none).run Tryd.prog W = .ok (.slice a M c) W by rw [slice_hs_to a q c M (by omega) W, sliced_zero3])
    have HM := Lib.hid hM
    have HPl := Lib.hid hP65
    obtain ⟨q1, hq1⟩ : ∃ q1 : Nat, (q : Int) + 1 = (q1 : Int) := ⟨q + 1, by omega⟩
    obtain rfl : q1 = q + 1 := by omega
    clear hM hpr hpl hcl htl hv3 hO hR hck1 hck2 hP65 hO32 hR32
    go_enter Tryd.func11, Tryd.ntmps11
    go_wp2_with fail
    have hb0 : Below w.heap.size w (w.alloc (.cells (bs x) 30)) := (Below.refl _ _).alloc (Nat.le_refl _) _
    refine (awake16_any HP.out HQ.out _ (HT.out.below (Nat.le_refl _) hb0)).mono ?_
    rintro e W1 ⟨rfl, hb1⟩
    have HB1 := Lib.hid (hb0.trans (hb1.mono (by simp)))
    have HK1 := Lib.hid ((Blk.new w 30 (bs x)).keep hb1)
    clear hb0 hb1
    have hsl := HSl.out
    clear HSl
    go_upto_region 5 with fail
    generalize decide (60 < (m : Int)) = z21
    clear hsl
    go_upto_region 8 with fail
    go_upto_region 9 with fail
    rw [HM.out]
    go_wp2_with fail
    refine (HProve.out _ HB1.out).mono ?_
    rintro e W2 ⟨u, rfl, hu, hb2⟩
    obtain ⟨pa, pc, rfl, hpc⟩ := hu.form
    obtain ⟨p, hp⟩ : ∃ p, p = Ps.length := ⟨_, rfl⟩
    rw [← hp] at hu hpc ⊢
    have HU := Lib.hid hu
    have HB2 := Lib.hid (HB1.out.trans (hb2.mono HB1.out.size))
    have HK2 := Lib.hid (HK1.out.keep hb2)
    clear hu hp hpc hb2 HB1 HK1 HProve HM
    go_wp2_with (refine wpList_slice_by rfl 22 (.tmp 44) none (some (.tmp 45)) rfl (.slice a q c) (.slice a M c) none (some (.int .i64 (M : Int))) rfl rfl rfl (HSl2.out _) ?_)
    refine (HRootO.out _ HB2.out).mono ?_
    rintro e W3 ⟨rfl, hb3⟩
    have HU3 := Lib.hid (HU.out.below (Nat.le_refl _) hb3)
    have HB3 := Lib.hid (HB2.out.trans (hb3.mono HB2.out.size))
    have HK3 := Lib.hid (HK2.out.keep hb3)
    clear HU HB2 HK2 hb3 HRootO HSl2
    go_upto_region 11 with (refine wpList_store_row rfl 30 (.tmp 12) (.tmp 47) rfl W3.heap.size (bs O) rfl rfl 30 _ (Blk.new W3 _ _) HSO.out (by rw [HOS.out]; rfl) (bs_one _) ?_)
    have hbn : Below W3.heap.size W3 ((W3.alloc (.cells (bs (List.replicate 32 0)) 30)).setRow W3.heap.size (bs O)) := below_setRow ((Below.refl _ _).alloc (Nat.le_refl _) _) _ _ (Nat.le_refl _)
    obtain ⟨g1, hg1⟩ : ∃ g, g = W3.heap.size := ⟨_, rfl⟩
    refine world_cut (fun W => Blk W w.heap.size 30 (bs x) ∧ Blk W g1 30 (bs O) ∧ Below w.heap.size w W ∧ Hss W (.slice pa p pc) Ps) ⟨HK3.out.keep hbn, by rw [hg1]; exact Blk.row (Blk.new W3 _ _) _, HB3.out.trans (hbn.mono HB3.out.size), HU3.out.below (Nat.le_refl _) hbn⟩ ?_
    rw [← hg1]
    clear hg1 hbn HU3 HB3 HK3
    rintro W4 ⟨hk, hg, hb, hu⟩
    have HK4 := Lib.hid hk
    have HG4 := Lib.hid hg
    have HB4 := Lib.hid hb
    have HU4 := Lib.hid hu
    clear hk hg hb hu
    go_wp2_with fail
    refine (HRootR.out _ HB4.out).mono ?_
    rintro e W5 ⟨rfl, hb5⟩
    have HK5 := Lib.hid (HK4.out.keep hb5)
    have HG5 := Lib.hid (HG4.out.keep hb5)
    have HB5 := Lib.hid (HB4.out.trans (hb5.mono HB4.out.size))
    have HU5 := Lib.hid (HU4.out.below (Nat.le_refl _) hb5)
    clear HK4 HG4 HB4 HU4 hb5 HRootR
    go_upto_region 12 with (refine wpList_store_row rfl 30 (.tmp 13) (.tmp 50) rfl W5.heap.size (bs R) rfl rfl 30 _ (Blk.new W5 _ _) HSR.out (by rw [HRS.out]; rfl) (bs_one _) ?_)
    have hbn : Below W5.heap.size W5 ((W5.alloc (.cells (bs (List.replicate 32 0)) 30)).setRow W5.heap.size (bs R)) := below_setRow ((Below.refl _ _).alloc (Nat.le_refl _) _) _ _ (Nat.le_refl _)
    obtain ⟨g2, hg2⟩ : ∃ g, g = W5.heap.size := ⟨_, rfl⟩
    refine world_cut (fun W => GoW w x O R g1 g2 W ∧ Hss W (.slice pa p pc) Ps) ⟨⟨HK5.out.keep hbn, HG5.out.keep hbn, by rw [hg2]; exact Blk.row (Blk.new W5 _ _) _, HB5.out.trans (hbn.mono HB5.out.size)⟩, HU5.out.below (Nat.le_refl _) hbn⟩ ?_
    rw [← hg2]
    clear hg2 hbn HU5 HB5 HK5 HG5
    rintro W6 ⟨hw6, hu⟩
    have HW6 := Lib.hid hw6
    have HU6 := Lib.hid hu
    clear hw6 hu
    go_wp2_with (refine wpList_load_row rfl 30 (.tmp 12) rfl g1 rfl 30 (bs O) (0, 0) _ HW6.out.2.1 Tryd.underlying30 rfl HSO.out ?_)
    have hcm : IntKind.u64.wrap (M : Int) = (M : Int) := by rw [IntKind.wrap_u64]; omega
    have hcq : IntKind.u64.wrap (q : Int) = (q : Int) := by rw [IntKind.wrap_u64]; omega
    try rw [hcm, hcq]
    clear hcm hcq
    refine (HClimb.out _ _ HU6.out HW6.out.2.2.2).mono ?_
    rintro e W7 ⟨rfl, hb7⟩
    have HW7 := Lib.hid (HW6.out.keep hb7)
    have HU7 := Lib.hid (HU6.out.below (Nat.le_refl _) hb7)
    clear hb7 HW6 HU6 HClimb
    go_upto_region 15 with (first
      | (refine wpList_store_row rfl 30 (.tmp 14) (.tmp 62) rfl W7.heap.size (bs O) rfl rfl 30 _ ((Blk.new W7 _ _).alloc _) HSO.out (by rw [HOS.out]; rfl) (bs_one _) ?_)
      | (refine wpList_store_row rfl 30 (.tmp 15) (.tmp 63) rfl (W7.heap.size + 1) (bs R) rfl rfl 30 _ (Blk.rowOther (Blk.newAt _ _ _ _ _ (by simp) rfl) _ (by omega)) HSR.out (by rw [HRS.out]; rfl) (bs_one _) ?_))
    have hbn : Below W7.heap.size W7 ((((W7.alloc (.cells (bs (List.replicate 32 0)) 30)).alloc (.cells (bs (List.replicate 32 0)) 30)).setRow W7.heap.size (bs O)).setRow (W7.heap.size + 1) (bs R)) := below_setRow (below_setRow (((Below.refl _ _).alloc (Nat.le_refl _) _).alloc (by simp) _) _ _ (Nat.le_refl _)) _ _ (by omega)
    refine world_cut (fun W => (GoW w x O R g1 g2 W ∧ Hss W (.slice pa p pc) Ps) ∧ Blk W W7.heap.size 30 (bs O) ∧ Blk W (W7.heap.size + 1) 30 (bs R)) ⟨⟨HW7.out.keep hbn, HU7.out.below (Nat.le_refl _) hbn⟩, (Blk.row ((Blk.new W7 _ _).alloc _) (bs O)).rowOther _ (by omega), Blk.row (Blk.rowOther (Blk.newAt _ _ _ _ _ (by simp) rfl) _ (by omega)) (bs R)⟩ ?_
    clear hbn
    rintro W8 ⟨⟨hw8, hu8⟩, hg3, hg4⟩
    obtain ⟨g3, he3⟩ : ∃ g, g = W7.heap.size := ⟨_, rfl⟩
    obtain ⟨g4, he4⟩ : ∃ g, g = W7.heap.size + 1 := ⟨_, rfl⟩
    rw [← he4, ← he3]
    rw [← he3] at hg3
    rw [← he4] at hg4
    have HW8 := Lib.hid hw8
    have HU8 := Lib.hid hu8
    have HG3 := Lib.hid hg3
    have HG4 := Lib.hid hg4
    clear hw8 hu8 hg3 hg4 he3 he4 HW7 HU7
    have heqO := HEqO.out
    have heqR := HEqR.out
    go_upto_region 17 with (first
      | (refine wpList_load_guarded rfl 30 (.tmp 14) rfl (.pointer (some ⟨g3, 0, none⟩)) (.agg (bs O)) rfl (Blk.loads HG3.out 30 _ Tryd.underlying30 rfl HSO.out) ?_)
      | (refine wpList_load_guarded rfl 30 (.tmp 12) rfl (.pointer (some ⟨g1, 0, none⟩)) (.agg (bs O)) rfl (Blk.loads HW8.out.2.1 30 _ Tryd.underlying30 rfl HSO.out) ?_)
      | (refine wpList_load_guarded rfl 30 (.tmp 15) rfl (.pointer (some ⟨g4, 0, none⟩)) (.agg (bs R)) rfl (Blk.loads HG4.out 30 _ Tryd.underlying30 rfl HSR.out) ?_)
      | (refine wpList_load_guarded rfl 30 (.tmp 13) rfl (.pointer (some ⟨g2, 0, none⟩)) (.agg (bs R)) rfl (Blk.loads HW8.out.2.2.1 30 _ Tryd.underlying30 rfl HSR.out) ?_))
    clear heqO heqR HG3 HG4
    have hG : ∀ W W' : World, (GoW w x O R g1 g2 W ∧ Hss W (.slice pa p pc) Ps) → Below W.heap.size W W' → (GoW w x O R g1 g2 W' ∧ Hss W' (.slice pa p pc) Ps) := fun W W' h h' => ⟨h.1.keep h', h.2.below (Nat.le_refl _) h'⟩
    refine region_by [(77, .is (.int .i64 n)), (78, .is (.int .i64 (M : Int))), (79, .is (.int .u64 (M : Int))), (80, .is (.int .i64 (q : Int))), (81, .is (.int .u64 (q : Int))), (82, .is (.agg (bs O))), (83, .is (.agg (bs x))), (84, .is (.slice pa p pc)), (85, .is (.bool (x == R))), (86, .is (.agg (bs x))), (87, .is (.agg (bs R))), (88, .is (.bool (x == R))), (89, .is (.bool true)), (90, .is (.bool true)), (91, .is (.int .i64 n)), (92, .is (.int .i64 (q : Int))), (93, .is (.int .u64 (q : Int))), (94, .is (.int .u64 ((q + 1 : Nat) : Int))), (95, .is (.int .i64 (M : Int))), (96, .is (.int .u64 (M : Int))), (97, .is (.agg (bs O))), (98, .is (.agg (bs R))), (99, .is (.slice pa p pc)), (100, .is (.bool false)), (101, .is (.bool true)), (102, .is (.bool true)), (8, .is (.bool true))] [8] (fun W => GoW w x O R g1 g2 W ∧ Hss W (.slice pa p pc) Ps) (by kernel_rfl) (by kernel_rfl) (by kernel_rfl) (by kernel_rfl) (by kernel_rfl) (hG _ _ ⟨HW8.out, HU8.out⟩ (Below.refl _ _).drew) ?_ ?_
    · refine ⟨?c0, ?c1, ?c2, ?c3, ?c4, ?c5, ?c6, ?c7, ?c8, ?c9, ?c10, ?c11, ?c12, ?c13, ?c14, ?c15, ?c16, ?c17, ?c18, ?c19, ?c20, ?c21, ?c22, ?c23, ?c24, ?c25, ?c26, trivial⟩
      case c0 => exact ask_copy (guard_none rfl) (.tmp 0) (.inl rfl) (by intro k hk; cases hk; rfl)
      case c1 => exact ask_copy (guard_none rfl) (.tmp 2) (.inl rfl) (by intro k hk; cases hk; rfl)
      case c2 => exact ask_conv_iu (guard_none rfl) (.tmp 78) M (by omega) rfl rfl (by intro k hk; cases hk; rfl)
      case c3 => exact ask_copy (guard_none rfl) (.tmp 9) (.inl rfl) (by intro k hk; cases hk; rfl)
      case c4 => exact ask_conv_iu (guard_none rfl) (.tmp 80) q (by omega) rfl rfl (by intro k hk; cases hk; rfl)
      case c5 => exact ask_load (guard_none rfl) _ (.tmp 12) (.pointer (some ⟨g1, 0, none⟩)) (.agg (bs O)) rfl rfl (by intro k hk; cases hk; rfl) (fun W hW => (hW.1.2.1).loads 30 _ Tryd.underlying30 rfl HSO.out)
      case c6 => exact ask_load (guard_none rfl) _ (.tmp 7) (.pointer (some ⟨w.heap.size, 0, none⟩)) (.agg (bs x)) rfl rfl (by intro k hk; cases hk; rfl) (fun W hW => (hW.1.1).loads 30 _ Tryd.underlying30 rfl HSx.out)
      case c7 => exact ask_copy (guard_none rfl) (.tmp 10) (.inl rfl) (by intro k hk; cases hk; rfl)
      case c8 => exact ask_call hG (guard_none rfl) _ _ _ #[.int .i64 n, .int .u64 (M : Int), .int .u64 (q : Int), .agg (bs O), .agg (bs x), .slice pa p pc] (.is (.bool (x == R))) rfl (by kernel_rfl) rfl rfl (by intro k hk; cases hk; rfl) (fun W hW => (HCk1.out _ W hW.2 hW.1.2.2.2).mono fun e w' h => ⟨_, h.1, rfl, h.2⟩)
      case c9 => exact ask_load (guard_none rfl) _ (.tmp 7) (.pointer (some ⟨w.heap.size, 0, none⟩)) (.agg (bs x)) rfl rfl (by intro k hk; cases hk; rfl) (fun W hW => (hW.1.1).loads 30 _ Tryd.underlying30 rfl HSx.out)
      case c10 => exact ask_load (guard_none rfl) _ (.tmp 13) (.pointer (some ⟨g2, 0, none⟩)) (.agg (bs R)) rfl rfl (by intro k hk; cases hk; rfl) (fun W hW => (hW.1.2.2.1).loads 30 _ Tryd.underlying30 rfl HSR.out)
      case c11 => exact ask_bin (guard_none rfl) .eql _ _ (.tmp 86) (.tmp 87) (.agg (bs x)) (.agg (bs R)) (.bool (x == R)) rfl rfl rfl (by intro k hk; cases hk; rfl) (fun W => eql_hash2 _ _ x R HX.out HR32.out W)
      case c12 => exact ask_bin (guard_none rfl) .eql _ _ (.tmp 85) (.tmp 88) (.bool (x == R)) (.bool (x == R)) (.bool true) rfl rfl rfl (by intro k hk; cases hk; rfl) (eql_bool_same _ _ (x == R))
      case c13 => exact ask_copy (guard_none rfl) (.tmp 89) (.inl rfl) (by intro k hk; cases hk; rfl)
      case c14 => exact ask_copy (guard_some rfl rfl rfl) (.tmp 0) (.inl rfl) (by intro k hk; cases hk; rfl)
      case c15 => exact ask_copy (guard_some rfl rfl rfl) (.tmp 9) (.inl rfl) (by intro k hk; cases hk; rfl)
      case c16 => exact ask_conv_iu (guard_some rfl rfl rfl) (.tmp 92) q (by omega) rfl rfl (by intro k hk; cases hk; rfl)
      case c17 => exact ask_bin (guard_some rfl rfl rfl) .add _ _ (.tmp 93) (.const (.int .u64 1)) (.int .u64 (q : Int)) (.int .u64 1) (.int .u64 ((q + 1 : Nat) : Int)) rfl rfl rfl (by intro k hk; cases hk; rfl) (fun W => add_u64c q (q + 1) _ _ _ (by simp) (by omega) W)
      case c18 => exact ask_copy (guard_some rfl rfl rfl) (.tmp 2) (.inl rfl) (by intro k hk; cases hk; rfl)
      case c19 => exact ask_conv_iu (guard_some rfl rfl rfl) (.tmp 95) M (by omega) rfl rfl (by intro k hk; cases hk; rfl)
      case c20 => exact ask_load (guard_some rfl rfl rfl) _ (.tmp 12) (.pointer (some ⟨g1, 0, none⟩)) (.agg (bs O)) rfl rfl (by intro k hk; cases hk; rfl) (fun W hW => (hW.1.2.1).loads 30 _ Tryd.underlying30 rfl HSO.out)
      case c21 => exact ask_load (guard_some rfl rfl rfl) _ (.tmp 13) (.pointer (some ⟨g2, 0, none⟩)) (.agg (bs R)) rfl rfl (by intro k hk; cases hk; rfl) (fun W hW => (hW.1.2.2.1).loads 30 _ Tryd.underlying30 rfl HSR.out)
      case c22 => exact ask_copy (guard_some rfl rfl rfl) (.tmp 10) (.inl rfl) (by intro k hk; cases hk; rfl)
      case c23 => exact ask_call hG (guard_some rfl rfl rfl) _ _ _ #[.int .i64 n, .int .u64 ((q + 1 : Nat) : Int), .int .u64 (M : Int), .agg (bs O), .agg (bs R), .slice pa p pc] (.is (.bool false)) rfl (by kernel_rfl) rfl rfl (by intro k hk; cases hk; rfl) (fun W hW => (HCk2.out _ W hW.2 hW.1.2.2.2).mono fun e w' h => ⟨_, h.1, rfl, h.2⟩)
      case c24 => exact ask_exec (guard_some rfl rfl rfl) (.bool true) rfl rfl (by intro k hk; cases hk; rfl) (fun W hW => by kernel_rfl)
      case c25 => exact ask_pick (guard_none rfl) (.tmp 90) (.tmp 101) (.const (.bool false)) true rfl rfl (by intro k hk; cases hk; rfl)
      case c26 => exact ask_copy (guard_none rfl) (.tmp 102) (.inr rfl) (by intro k hk; cases hk; rfl)
    · intro a' W hW hd' hs' hf'
      have t8 : a'.tmps.getD 8 undef = .bool true := hf' 8 rfl
      obtain ⟨us', hus, ha'⟩ := act_open 103 a' hs' hd'
      rw [← hus] at t8
      have el : ((List.range 103).map us').toArray = #[us' 0, us' 1, us' 2, us' 3, us' 4, us' 5, us' 6, us' 7, .bool true, us' 9, us' 10, us' 11, us' 12, us' 13, us' 14, us' 15, us' 16, us' 17, us' 18, us' 19, us' 20, us' 21, us' 22, us' 23, us' 24, us' 25, us' 26, us' 27, us' 28, us' 29, us' 30, us' 31, us' 32, us' 33, us' 34, us' 35, us' 36, us' 37, us' 38, us' 39, us' 40, us' 41, us' 42, us' 43, us' 44, us' 45, us' 46, us' 47, us' 48, us' 49, us' 50, us' 51, us' 52, us' 53, us' 54, us' 55, us' 56, us' 57, us' 58, us' 59, us' 60, us' 61, us' 62, us' 63, us' 64, us' 65, us' 66, us' 67, us' 68, us' 69, us' 70, us' 71, us' 72, us' 73, us' 74, us' 75, us' 76, us' 77, us' 78, us' 79, us' 80, us' 81, us' 82, us' 83, us' 84, us' 85, us' 86, us' 87, us' 88, us' 89, us' 90, us' 91, us' 92, us' 93, us' 94, us' 95, us' 96, us' 97, us' 98, us' 99, us' 100, us' 101, us' 102] := by
        show #[us' 0, us' 1, us' 2, us' 3, us' 4, us' 5, us' 6, us' 7, us' 8, us' 9, us' 10, us' 11, us' 12, us' 13, us' 14, us' 15, us' 16, us' 17, us' 18, us' 19, us' 20, us' 21, us' 22, us' 23, us' 24, us' 25, us' 26, us' 27, us' 28, us' 29, us' 30, us' 31, us' 32, us' 33, us' 34, us' 35, us' 36, us' 37, us' 38, us' 39, us' 40, us' 41, us' 42, us' 43, us' 44, us' 45, us' 46, us' 47, us' 48, us' 49, us' 50, us' 51, us' 52, us' 53, us' 54, us' 55, us' 56, us' 57, us' 58, us' 59, us' 60, us' 61, us' 62, us' 63, us' 64, us' 65, us' 66, us' 67, us' 68, us' 69, us' 70, us' 71, us' 72, us' 73, us' 74, us' 75, us' 76, us' 77, us' 78, us' 79, us' 80, us' 81, us' 82, us' 83, us' 84, us' 85, us' 86, us' 87, us' 88, us' 89, us' 90, us' 91, us' 92, us' 93, us' 94, us' 95, us' 96, us' 97, us' 98, us' 99, us' 100, us' 101, us' 102] = _
        rw [t8]
      rw [el] at ha'
      subst ha'
      clear hus t8 el hf' hs' hd'
      go_wp2
      go_ret
      exact ⟨rfl, hW.1.2.2.2⟩
  · obtain ⟨q, hmq⟩ : ∃ q, q = m := ⟨_, rfl⟩
    rw [← hmq] at hv hc h60 hm ⊢
    have hq60 : q ≤ 60 := by omega
    clear hmq
    by_cases hqz : q = 0
    · subst hqz
      clear hv ht hp hn hx hq1 hm hc
      go_enter Tryd.func11, Tryd.ntmps11
      go_wp2_with fail
      have hb0 : Below w.heap.size w (w.alloc (.cells (bs x) 30)) := (Below.refl _ _).alloc (Nat.le_refl _) _
      refine (awake16_any HP.out HQ.out _ (HT.out.below (Nat.le_refl _) hb0)).mono ?_
      rintro e W1 ⟨rfl, hb1⟩
      have HB1 := Lib.hid (hb0.trans (hb1.mono (by simp)))
      have HK1 := Lib.hid ((Blk.new w 30 (bs x)).keep hb1)
      clear hb0 hb1
      go_wp2
      go_ret
      exact ⟨rfl, HB1.out⟩
    · have HVg := Lib.hid hv
      have HG := Lib.hid hm
      have hq0 : ((q : Int) == 0) = false := by simpa using hqz
      have hqp : 0 < q := by omega
      clear hv hm ht hp hn hx hq1 hqz
      obtain ⟨M, hM, hM1, hMq⟩ := one_place i q hqp (by omega)
      obtain ⟨Ps, hpr, hpl, hcl⟩ := grow_climbs n hs M q hM1 hMq HG.out
      have hP65 : Ps.length ≤ 65 := by rw [hpl]; exact growS_65 M q (by omega)
      have htl : (hs.take M).length = M := by rw [List.length_take, ← HG.out]; omega
      have hv3 : Hss w (.slice a M c) (hs.take M) := by
        have := HVg.out.sub 0 M (by omega) (by omega)
        rw [sliced_zero3] at this
        simpa using this
      obtain ⟨O, hO, hO32⟩ : ∃ O, O = rootH n (hs.take M) ∧ O.length = 32 := ⟨_, rfl, rootH_length _ _ hv3.all⟩
      obtain ⟨R, hR, hR32⟩ : ∃ R, R = rootH n hs ∧ R.length = 32 := ⟨_, rfl, rootH_length _ _ HVg.out.all⟩
      rw [← hO, ← hR] at hcl
      have HProve := Lib.hid (fun (W : World) (hW : Below w.heap.size w W) => HP.out.prove n hs (M : Int) (q : Int) (.slice a q c) W HN.out (by unfold I64; omega) (by unfold I64; omega) (by rw [← HG.out]; omega) (HVg.out.below (Nat.le_refl _) hW) (HT.out.below (Nat.le_refl _) hW))
      rw [hpr] at HProve
      have HRootO := Lib.hid (fun (W : World) (hW : Below w.heap.size w W) => HQ.out.root n (hs.take M) (.slice a M c) W HN.out (hv3.below (Nat.le_refl _) hW) (by rw [htl]; omega) (HT.out.below (Nat.le_refl _) hW))
      rw [← hO] at HRootO
      have HRootR := Lib.hid (fun (W : World) (hW : Below w.heap.size w W) => HQ.out.root n hs (.slice a q c) W HN.out (HVg.out.below (Nat.le_refl _) hW) (by rw [← HG.out]; omega) (HT.out.below (Nat.le_refl _) hW))
      rw [← hR] at HRootR
      have hck1 : checkGR n O M q x Ps = (x == R) := by
        rw [checkGR, if_neg (by omega), if_neg (by omega), hcl]
        have e : (R == x) = (x == R) := beq_swap R x
        simp [e]
      have hck2 : checkGR n O (q + 1) M R Ps = false := by rw [checkGR, if_pos (by omega)]
      have HClimb := Lib.hid (fun (v : Value) (W : World) (hv : Hss W v Ps) (hW : Below w.heap.size w W) => HP.out.climb n O M q Ps v W HN.out hO32 (by omega) (by omega) hv (by omega) (HT.out.below (Nat.le_refl _) hW))
      rw [hcl] at HClimb
      have HCk1 := Lib.hid (fun (v : Value) (W : World) (hv : Hss W v Ps) (hW : Below w.heap.size w W) => HP.out.check n O M q x Ps v W HN.out hO32 HX.out (by omega) (by omega) hv (by omega) (HT.out.below (Nat.le_refl _) hW))
      rw [hck1] at HCk1
      have HCk2 := Lib.hid (fun (v : Value) (W : World) (hv : Hss W v Ps) (hW : Below w.heap.size w W) => HP.out.check n O (q + 1) M R Ps v W HN.out hO32 hR32 (by omega) (by omega) hv (by omega) (HT.out.below (Nat.le_refl _) hW))
      rw [hck2] at HCk2
      have HSO := Lib.hid (size_hash (cs := bs O) (by rw [bs_size, hO32]))
      have HSR := Lib.hid (size_hash (cs := bs R) (by rw [bs_size, hR32]))
      have HOS := Lib.hid (show (bs O).size = 32 by rw [bs_size, hO32])
      have HRS := Lib.hid (show (bs R).size = 32 by rw [bs_size, hR32])
      have HR32 := Lib.hid hR32
      have HEqO := Lib.hid (fun W => eq_same W O hO32)
      have HEqR := Lib.hid (fun W => eq_same W R hR32)
      have HSl2 := Lib.hid (fun (W : World) => show (Instr.sliceAt 22 (.slice a q c) none (some (.int .i64 (M : Int))) none).run Tryd.prog W = .ok (.slice a M c) W by rw [slice_hs_to a q c M (by omega) W, sliced_zero3])
      have HM := Lib.hid hM
      have HPl := Lib.hid hP65
      obtain ⟨q1, hq1⟩ : ∃ q1 : Nat, (q : Int) + 1 = (q1 : Int) := ⟨q + 1, by omega⟩
      obtain rfl : q1 = q + 1 := by omega
      clear hM hpr hpl hcl htl hv3 hO hR hck1 hck2 hP65 hO32 hR32
      go_enter Tryd.func11, Tryd.ntmps11
      go_wp2_with fail
      have hb0 : Below w.heap.size w (w.alloc (.cells (bs x) 30)) := (Below.refl _ _).alloc (Nat.le_refl _) _
      refine (awake16_any HP.out HQ.out _ (HT.out.below (Nat.le_refl _) hb0)).mono ?_
      rintro e W1 ⟨rfl, hb1⟩
      have HB1 := Lib.hid (hb0.trans (hb1.mono (by simp)))
      have HK1 := Lib.hid ((Blk.new w 30 (bs x)).keep hb1)
      clear hb0 hb1
      go_upto_region 5 with fail
      generalize decide (60 < (q : Int)) = z21
      go_upto_region 8 with fail
      go_upto_region 9 with fail
      rw [HM.out]
      go_wp2_with fail
      refine (HProve.out _ HB1.out).mono ?_
      rintro e W2 ⟨u, rfl, hu, hb2⟩
      obtain ⟨pa, pc, rfl, hpc⟩ := hu.form
      obtain ⟨p, hp⟩ : ∃ p, p = Ps.length := ⟨_, rfl⟩
      rw [← hp] at hu hpc ⊢
      have HU := Lib.hid hu
      have HB2 := Lib.hid (HB1.out.trans (hb2.mono HB1.out.size))
      have HK2 := Lib.hid (HK1.out.keep hb2)
      clear hu hp hpc hb2 HB1 HK1 HProve HM
      go_wp2_with (refine wpList_slice_by rfl 22 (.tmp 44) none (some (.tmp 45)) rfl (.slice a q c) (.slice a M c) none (some (.int .i64 (M : Int))) rfl rfl rfl (HSl2.out _) ?_)
      refine (HRootO.out _ HB2.out).mono ?_
      rintro e W3 ⟨rfl, hb3⟩
      have HU3 := Lib.hid (HU.out.below (Nat.le_refl _) hb3)
      have HB3 := Lib.hid (HB2.out.trans (hb3.mono HB2.out.size))
      have HK3 := Lib.hid (HK2.out.keep hb3)
      clear HU HB2 HK2 hb3 HRootO HSl2
      go_upto_region 11 with (refine wpList_store_row rfl 30 (.tmp 12) (.tmp 47) rfl W3.heap.size (bs O) rfl rfl 30 _ (Blk.new W3 _ _) HSO.out (by rw [HOS.out]; rfl) (bs_one _) ?_)
      have hbn : Below W3.heap.size W3 ((W3.alloc (.cells (bs (List.replicate 32 0)) 30)).setRow W3.heap.size (bs O)) := below_setRow ((Below.refl _ _).alloc (Nat.le_refl _) _) _ _ (Nat.le_refl _)
      obtain ⟨g1, hg1⟩ : ∃ g, g = W3.heap.size := ⟨_, rfl⟩
      refine world_cut (fun W => Blk W w.heap.size 30 (bs x) ∧ Blk W g1 30 (bs O) ∧ Below w.heap.size w W ∧ Hss W (.slice pa p pc) Ps) ⟨HK3.out.keep hbn, by rw [hg1]; exact Blk.row (Blk.new W3 _ _) _, HB3.out.trans (hbn.mono HB3.out.size), HU3.out.below (Nat.le_refl _) hbn⟩ ?_
      rw [← hg1]
      clear hg1 hbn HU3 HB3 HK3
      rintro W4 ⟨hk, hg, hb, hu⟩
      have HK4 := Lib.hid hk
      have HG4 := Lib.hid hg
      have HB4 := Lib.hid hb
      have HU4 := Lib.hid hu
      clear hk hg hb hu
      go_wp2_with fail
      refine (HRootR.out _ HB4.out).mono ?_
      rintro e W5 ⟨rfl, hb5⟩
      have HK5 := Lib.hid (HK4.out.keep hb5)
      have HG5 := Lib.hid (HG4.out.keep hb5)
      have HB5 := Lib.hid (HB4.out.trans (hb5.mono HB4.out.size))
      have HU5 := Lib.hid (HU4.out.below (Nat.le_refl _) hb5)
      clear HK4 HG4 HB4 HU4 hb5 HRootR
      go_upto_region 12 with (refine wpList_store_row rfl 30 (.tmp 13) (.tmp 50) rfl W5.heap.size (bs R) rfl rfl 30 _ (Blk.new W5 _ _) HSR.out (by rw [HRS.out]; rfl) (bs_one _) ?_)
      have hbn : Below W5.heap.size W5 ((W5.alloc (.cells (bs (List.replicate 32 0)) 30)).setRow W5.heap.size (bs R)) := below_setRow ((Below.refl _ _).alloc (Nat.le_refl _) _) _ _ (Nat.le_refl _)
      obtain ⟨g2, hg2⟩ : ∃ g, g = W5.heap.size := ⟨_, rfl⟩
      refine world_cut (fun W => GoW w x O R g1 g2 W ∧ Hss W (.slice pa p pc) Ps) ⟨⟨HK5.out.keep hbn, HG5.out.keep hbn, by rw [hg2]; exact Blk.row (Blk.new W5 _ _) _, HB5.out.trans (hbn.mono HB5.out.size)⟩, HU5.out.below (Nat.le_refl _) hbn⟩ ?_
      rw [← hg2]
      clear hg2 hbn HU5 HB5 HK5 HG5
      rintro W6 ⟨hw6, hu⟩
      have HW6 := Lib.hid hw6
      have HU6 := Lib.hid hu
      clear hw6 hu
      go_wp2_with (refine wpList_load_row rfl 30 (.tmp 12) rfl g1 rfl 30 (bs O) (0, 0) _ HW6.out.2.1 Tryd.underlying30 rfl HSO.out ?_)
      have hcm : IntKind.u64.wrap (M : Int) = (M : Int) := by rw [IntKind.wrap_u64]; omega
      have hcq : IntKind.u64.wrap (q : Int) = (q : Int) := by rw [IntKind.wrap_u64]; omega
      try rw [hcm, hcq]
      clear hcm hcq
      refine (HClimb.out _ _ HU6.out HW6.out.2.2.2).mono ?_
      rintro e W7 ⟨rfl, hb7⟩
      have HW7 := Lib.hid (HW6.out.keep hb7)
      have HU7 := Lib.hid (HU6.out.below (Nat.le_refl _) hb7)
      clear hb7 HW6 HU6 HClimb
      go_upto_region 15 with (first
        | (refine wpList_store_row rfl 30 (.tmp 14) (.tmp 62) rfl W7.heap.size (bs O) rfl rfl 30 _ ((Blk.new W7 _ _).alloc _) HSO.out (by rw [HOS.out]; rfl) (bs_one _) ?_)
        | (refine wpList_store_row rfl 30 (.tmp 15) (.tmp 63) rfl (W7.heap.size + 1) (bs R) rfl rfl 30 _ (Blk.rowOther (Blk.newAt _ _ _ _ _ (by simp) rfl) _ (by omega)) HSR.out (by rw [HRS.out]; rfl) (bs_one _) ?_))
      have hbn : Below W7.heap.size W7 ((((W7.alloc (.cells (bs (List.replicate 32 0)) 30)).alloc (.cells (bs (List.replicate 32 0)) 30)).setRow W7.heap.size (bs O)).setRow (W7.heap.size + 1) (bs R)) := below_setRow (below_setRow (((Below.refl _ _).alloc (Nat.le_refl _) _).alloc (by simp) _) _ _ (Nat.le_refl _)) _ _ (by omega)
      refine world_cut (fun W => (GoW w x O R g1 g2 W ∧ Hss W (.slice pa p pc) Ps) ∧ Blk W W7.heap.size 30 (bs O) ∧ Blk W (W7.heap.size + 1) 30 (bs R)) ⟨⟨HW7.out.keep hbn, HU7.out.below (Nat.le_refl _) hbn⟩, (Blk.row ((Blk.new W7 _ _).alloc _) (bs O)).rowOther _ (by omega), Blk.row (Blk.rowOther (Blk.newAt _ _ _ _ _ (by simp) rfl) _ (by omega)) (bs R)⟩ ?_
      clear hbn
      rintro W8 ⟨⟨hw8, hu8⟩, hg3, hg4⟩
      obtain ⟨g3, he3⟩ : ∃ g, g = W7.heap.size := ⟨_, rfl⟩
      obtain ⟨g4, he4⟩ : ∃ g, g = W7.heap.size + 1 := ⟨_, rfl⟩
      rw [← he4, ← he3]
      rw [← he3] at hg3
      rw [← he4] at hg4
      have HW8 := Lib.hid hw8
      have HU8 := Lib.hid hu8
      have HG3 := Lib.hid hg3
      have HG4 := Lib.hid hg4
      clear hw8 hu8 hg3 hg4 he3 he4 HW7 HU7
      have heqO := HEqO.out
      have heqR := HEqR.out
      go_upto_region 17 with (first
        | (refine wpList_load_guarded rfl 30 (.tmp 14) rfl (.pointer (some ⟨g3, 0, none⟩)) (.agg (bs O)) rfl (Blk.loads HG3.out 30 _ Tryd.underlying30 rfl HSO.out) ?_)
        | (refine wpList_load_guarded rfl 30 (.tmp 12) rfl (.pointer (some ⟨g1, 0, none⟩)) (.agg (bs O)) rfl (Blk.loads HW8.out.2.1 30 _ Tryd.underlying30 rfl HSO.out) ?_)
        | (refine wpList_load_guarded rfl 30 (.tmp 15) rfl (.pointer (some ⟨g4, 0, none⟩)) (.agg (bs R)) rfl (Blk.loads HG4.out 30 _ Tryd.underlying30 rfl HSR.out) ?_)
        | (refine wpList_load_guarded rfl 30 (.tmp 13) rfl (.pointer (some ⟨g2, 0, none⟩)) (.agg (bs R)) rfl (Blk.loads HW8.out.2.2.1 30 _ Tryd.underlying30 rfl HSR.out) ?_))
      clear heqO heqR HG3 HG4
      have hG : ∀ W W' : World, (GoW w x O R g1 g2 W ∧ Hss W (.slice pa p pc) Ps) → Below W.heap.size W W' → (GoW w x O R g1 g2 W' ∧ Hss W' (.slice pa p pc) Ps) := fun W W' h h' => ⟨h.1.keep h', h.2.below (Nat.le_refl _) h'⟩
      refine region_by [(77, .is (.int .i64 n)), (78, .is (.int .i64 (M : Int))), (79, .is (.int .u64 (M : Int))), (80, .is (.int .i64 (q : Int))), (81, .is (.int .u64 (q : Int))), (82, .is (.agg (bs O))), (83, .is (.agg (bs x))), (84, .is (.slice pa p pc)), (85, .is (.bool (x == R))), (86, .is (.agg (bs x))), (87, .is (.agg (bs R))), (88, .is (.bool (x == R))), (89, .is (.bool true)), (90, .is (.bool true)), (91, .is (.int .i64 n)), (92, .is (.int .i64 (q : Int))), (93, .is (.int .u64 (q : Int))), (94, .is (.int .u64 ((q + 1 : Nat) : Int))), (95, .is (.int .i64 (M : Int))), (96, .is (.int .u64 (M : Int))), (97, .is (.agg (bs O))), (98, .is (.agg (bs R))), (99, .is (.slice pa p pc)), (100, .is (.bool false)), (101, .is (.bool true)), (102, .is (.bool true)), (8, .is (.bool true))] [8] (fun W => GoW w x O R g1 g2 W ∧ Hss W (.slice pa p pc) Ps) (by kernel_rfl) (by kernel_rfl) (by kernel_rfl) (by kernel_rfl) (by kernel_rfl) (hG _ _ ⟨HW8.out, HU8.out⟩ (Below.refl _ _).drew) ?_ ?_
      · refine ⟨?c0, ?c1, ?c2, ?c3, ?c4, ?c5, ?c6, ?c7, ?c8, ?c9, ?c10, ?c11, ?c12, ?c13, ?c14, ?c15, ?c16, ?c17, ?c18, ?c19, ?c20, ?c21, ?c22, ?c23, ?c24, ?c25, ?c26, trivial⟩
        case c0 => exact ask_copy (guard_none rfl) (.tmp 0) (.inl rfl) (by intro k hk; cases hk; rfl)
        case c1 => exact ask_copy (guard_none rfl) (.tmp 2) (.inl rfl) (by intro k hk; cases hk; rfl)
        case c2 => exact ask_conv_iu (guard_none rfl) (.tmp 78) M (by omega) rfl rfl (by intro k hk; cases hk; rfl)
        case c3 => exact ask_copy (guard_none rfl) (.tmp 9) (.inl rfl) (by intro k hk; cases hk; rfl)
        case c4 => exact ask_conv_iu (guard_none rfl) (.tmp 80) q (by omega) rfl rfl (by intro k hk; cases hk; rfl)
        case c5 => exact ask_load (guard_none rfl) _ (.tmp 12) (.pointer (some ⟨g1, 0, none⟩)) (.agg (bs O)) rfl rfl (by intro k hk; cases hk; rfl) (fun W hW => (hW.1.2.1).loads 30 _ Tryd.underlying30 rfl HSO.out)
        case c6 => exact ask_load (guard_none rfl) _ (.tmp 7) (.pointer (some ⟨w.heap.size, 0, none⟩)) (.agg (bs x)) rfl rfl (by intro k hk; cases hk; rfl) (fun W hW => (hW.1.1).loads 30 _ Tryd.underlying30 rfl HSx.out)
        case c7 => exact ask_copy (guard_none rfl) (.tmp 10) (.inl rfl) (by intro k hk; cases hk; rfl)
        case c8 => exact ask_call hG (guard_none rfl) _ _ _ #[.int .i64 n, .int .u64 (M : Int), .int .u64 (q : Int), .agg (bs O), .agg (bs x), .slice pa p pc] (.is (.bool (x == R))) rfl (by kernel_rfl) rfl rfl (by intro k hk; cases hk; rfl) (fun W hW => (HCk1.out _ W hW.2 hW.1.2.2.2).mono fun e w' h => ⟨_, h.1, rfl, h.2⟩)
        case c9 => exact ask_load (guard_none rfl) _ (.tmp 7) (.pointer (some ⟨w.heap.size, 0, none⟩)) (.agg (bs x)) rfl rfl (by intro k hk; cases hk; rfl) (fun W hW => (hW.1.1).loads 30 _ Tryd.underlying30 rfl HSx.out)
        case c10 => exact ask_load (guard_none rfl) _ (.tmp 13) (.pointer (some ⟨g2, 0, none⟩)) (.agg (bs R)) rfl rfl (by intro k hk; cases hk; rfl) (fun W hW => (hW.1.2.2.1).loads 30 _ Tryd.underlying30 rfl HSR.out)
        case c11 => exact ask_bin (guard_none rfl) .eql _ _ (.tmp 86) (.tmp 87) (.agg (bs x)) (.agg (bs R)) (.bool (x == R)) rfl rfl rfl (by intro k hk; cases hk; rfl) (fun W => eql_hash2 _ _ x R HX.out HR32.out W)
        case c12 => exact ask_bin (guard_none rfl) .eql _ _ (.tmp 85) (.tmp 88) (.bool (x == R)) (.bool (x == R)) (.bool true) rfl rfl rfl (by intro k hk; cases hk; rfl) (eql_bool_same _ _ (x == R))
        case c13 => exact ask_copy (guard_none rfl) (.tmp 89) (.inl rfl) (by intro k hk; cases hk; rfl)
        case c14 => exact ask_copy (guard_some rfl rfl rfl) (.tmp 0) (.inl rfl) (by intro k hk; cases hk; rfl)
        case c15 => exact ask_copy (guard_some rfl rfl rfl) (.tmp 9) (.inl rfl) (by intro k hk; cases hk; rfl)
        case c16 => exact ask_conv_iu (guard_some rfl rfl rfl) (.tmp 92) q (by omega) rfl rfl (by intro k hk; cases hk; rfl)
        case c17 => exact ask_bin (guard_some rfl rfl rfl) .add _ _ (.tmp 93) (.const (.int .u64 1)) (.int .u64 (q : Int)) (.int .u64 1) (.int .u64 ((q + 1 : Nat) : Int)) rfl rfl rfl (by intro k hk; cases hk; rfl) (fun W => add_u64c q (q + 1) _ _ _ (by simp) (by omega) W)
        case c18 => exact ask_copy (guard_some rfl rfl rfl) (.tmp 2) (.inl rfl) (by intro k hk; cases hk; rfl)
        case c19 => exact ask_conv_iu (guard_some rfl rfl rfl) (.tmp 95) M (by omega) rfl rfl (by intro k hk; cases hk; rfl)
        case c20 => exact ask_load (guard_some rfl rfl rfl) _ (.tmp 12) (.pointer (some ⟨g1, 0, none⟩)) (.agg (bs O)) rfl rfl (by intro k hk; cases hk; rfl) (fun W hW => (hW.1.2.1).loads 30 _ Tryd.underlying30 rfl HSO.out)
        case c21 => exact ask_load (guard_some rfl rfl rfl) _ (.tmp 13) (.pointer (some ⟨g2, 0, none⟩)) (.agg (bs R)) rfl rfl (by intro k hk; cases hk; rfl) (fun W hW => (hW.1.2.2.1).loads 30 _ Tryd.underlying30 rfl HSR.out)
        case c22 => exact ask_copy (guard_some rfl rfl rfl) (.tmp 10) (.inl rfl) (by intro k hk; cases hk; rfl)
        case c23 => exact ask_call hG (guard_some rfl rfl rfl) _ _ _ #[.int .i64 n, .int .u64 ((q + 1 : Nat) : Int), .int .u64 (M : Int), .agg (bs O), .agg (bs R), .slice pa p pc] (.is (.bool false)) rfl (by kernel_rfl) rfl rfl (by intro k hk; cases hk; rfl) (fun W hW => (HCk2.out _ W hW.2 hW.1.2.2.2).mono fun e w' h => ⟨_, h.1, rfl, h.2⟩)
        case c24 => exact ask_exec (guard_some rfl rfl rfl) (.bool true) rfl rfl (by intro k hk; cases hk; rfl) (fun W hW => by kernel_rfl)
        case c25 => exact ask_pick (guard_none rfl) (.tmp 90) (.tmp 101) (.const (.bool false)) true rfl rfl (by intro k hk; cases hk; rfl)
        case c26 => exact ask_copy (guard_none rfl) (.tmp 102) (.inr rfl) (by intro k hk; cases hk; rfl)
      · intro a' W hW hd' hs' hf'
        have t8 : a'.tmps.getD 8 undef = .bool true := hf' 8 rfl
        obtain ⟨us', hus, ha'⟩ := act_open 103 a' hs' hd'
        rw [← hus] at t8
        have el : ((List.range 103).map us').toArray = #[us' 0, us' 1, us' 2, us' 3, us' 4, us' 5, us' 6, us' 7, .bool true, us' 9, us' 10, us' 11, us' 12, us' 13, us' 14, us' 15, us' 16, us' 17, us' 18, us' 19, us' 20, us' 21, us' 22, us' 23, us' 24, us' 25, us' 26, us' 27, us' 28, us' 29, us' 30, us' 31, us' 32, us' 33, us' 34, us' 35, us' 36, us' 37, us' 38, us' 39, us' 40, us' 41, us' 42, us' 43, us' 44, us' 45, us' 46, us' 47, us' 48, us' 49, us' 50, us' 51, us' 52, us' 53, us' 54, us' 55, us' 56, us' 57, us' 58, us' 59, us' 60, us' 61, us' 62, us' 63, us' 64, us' 65, us' 66, us' 67, us' 68, us' 69, us' 70, us' 71, us' 72, us' 73, us' 74, us' 75, us' 76, us' 77, us' 78, us' 79, us' 80, us' 81, us' 82, us' 83, us' 84, us' 85, us' 86, us' 87, us' 88, us' 89, us' 90, us' 91, us' 92, us' 93, us' 94, us' 95, us' 96, us' 97, us' 98, us' 99, us' 100, us' 101, us' 102] := by
          show #[us' 0, us' 1, us' 2, us' 3, us' 4, us' 5, us' 6, us' 7, us' 8, us' 9, us' 10, us' 11, us' 12, us' 13, us' 14, us' 15, us' 16, us' 17, us' 18, us' 19, us' 20, us' 21, us' 22, us' 23, us' 24, us' 25, us' 26, us' 27, us' 28, us' 29, us' 30, us' 31, us' 32, us' 33, us' 34, us' 35, us' 36, us' 37, us' 38, us' 39, us' 40, us' 41, us' 42, us' 43, us' 44, us' 45, us' 46, us' 47, us' 48, us' 49, us' 50, us' 51, us' 52, us' 53, us' 54, us' 55, us' 56, us' 57, us' 58, us' 59, us' 60, us' 61, us' 62, us' 63, us' 64, us' 65, us' 66, us' 67, us' 68, us' 69, us' 70, us' 71, us' 72, us' 73, us' 74, us' 75, us' 76, us' 77, us' 78, us' 79, us' 80, us' 81, us' 82, us' 83, us' 84, us' 85, us' 86, us' 87, us' 88, us' 89, us' 90, us' 91, us' 92, us' 93, us' 94, us' 95, us' 96, us' 97, us' 98, us' 99, us' 100, us' 101, us' 102] = _
          rw [t8]
        rw [el] at ha'
        subst ha'
        clear hus t8 el hf' hs' hd'
        go_wp2
        go_ret
        exact ⟨rfl, hW.1.2.2.2⟩
end Go.Proofs.YtdhfabjkpffhnabDoor

/- GrowthLengths: the walk. -/
namespace Go.Proofs.YtdhfabjkpffhnabDoor
set_option maxRecDepth 20000
open Go.RowKit ShaMath LeafMath PathMath GrowthMath Reg

theorem growS_zero (M q : Nat) (h1 : 1 ≤ M) (hM : M ≤ q) : growS M q = 0 ↔ M = q := by
  have e : growS M q = sizeG M q true := by rw [growS, if_neg (by omega)]
  rw [e]
  constructor
  · intro h
    refine Decidable.byContradiction fun hne => ?_
    by_cases hk : M ≤ splitN q
    · rw [sizeG_left true (by omega) (by omega) hk] at h
      omega
    · rw [sizeG_right true (by omega) (by omega) hk] at h
      omega
  · rintro rfl
    rw [sizeG_all, if_pos rfl]

def GlW (w : World) (x o : Hs) (g1 : Nat) (W : World) : Prop := Blk W w.heap.size 30 (bs x) ∧ Blk W g1 30 (bs o) ∧ Below w.heap.size w W
theorem GlW.keep {w W W' : World} {x o : Hs} {g1 : Nat} (X : GlW w x o g1 W) (hb : Below W.heap.size W W') : GlW w x o g1 W' := ⟨X.1.keep hb, X.2.1.keep hb, X.2.2.trans (hb.mono X.2.2.size)⟩

set_option maxHeartbeats 12000000 in
set_option maxRecDepth 100000 in
theorem growthLengths_walk (hp : GrowthProg) (hq1 : LeafProg) (n : Int) (hn : I64 n) (hs : List Hs) (v : Value) (i : Int) (x : Hs) (hx : x.length = 32) (w : World) (hv : Hss w v hs) (ht : Tabs w) :
    Calls Tryd.prog 12 #[.int .i64 n, v, .int .i64 i, .agg (bs x)] w fun e w' => e = .returned (.bool true) ∧ Below w.heap.size w w' := by
  obtain ⟨a, c, rfl, hc⟩ := hv.form
  obtain ⟨m, hm⟩ : ∃ m, m = hs.length := ⟨_, rfl⟩
  rw [← hm] at hv hc ⊢
  have HT := Lib.hid ht
  have HP := Lib.hid hp
  have HQ := Lib.hid hq1
  have HN := Lib.hid hn
  have HX := Lib.hid hx
  have HSx := Lib.hid (size_hash (cs := bs x) (by rw [bs_size, hx]))
  by_cases h60 : 60 < m
  · obtain ⟨q, hq60⟩ : ∃ q, q = 60 := ⟨_, rfl⟩
    have hq : q ≤ 60 := by omega
    have hqm : q ≤ m := by omega
    have hv2 : Hss w (.slice a q c) (hs.take q) := by
      have := hv.sub 0 q (by omega) (by omega)
      rw [sliced_zero3] at this
      simpa using this
    have hl2 : q = (hs.take q).length := by rw [List.length_take]; omega
    have hsl : ∀ W, (Instr.sliceAt 22 (.slice a m c) none (some (.int .i64 60)) none).run Tryd.prog W = .ok (.slice a q c) W := fun W => by
      have := slice_hs_to a m c 60 (by omega) W
      rw [sliced_zero3] at this
      rw [hq60]
      exact this
    obtain ⟨gs, hgs⟩ : ∃ h, h = hs.take q := ⟨_, rfl⟩
    rw [← hgs] at hv2 hl2
    have HVg := Lib.hid hv2
    have HG := Lib.hid hl2
    have HSl := Lib.hid hsl
    have hq0 : ((q : Int) == 0) = false := by simp; omega
    have hqp : 0 < q := by omega
    clear hv hv2 hl2 hsl hgs hm ht hp hn hq60 hx hq1
    obtain ⟨M, hM, hM1, hMq⟩ := one_place i q hqp (by omega)
    obtain ⟨Ps, hpr, hpl, hcl⟩ := grow_climbs n gs M q hM1 hMq HG.out
    have hgz := growS_zero M q hM1 hMq
    rw [← hpl] at hgz
    have hP65 : Ps.length ≤ 65 := by rw [hpl]; exact growS_65 M q (by omega)
    have htl : (gs.take M).length = M := by rw [List.length_take, ← HG.out]; omega
    have hv3 : Hss w (.slice a M c) (gs.take M) := by
      have := HVg.out.sub 0 M (by omega) (by omega)
      rw [sliced_zero3] at this
      simpa using this
    obtain ⟨O, hO, hO32⟩ : ∃ O, O = rootH n (gs.take M) ∧ O.length = 32 := ⟨_, rfl, rootH_length _ _ hv3.all⟩
    have HProve := Lib.hid (fun (W : World) (hW : Below w.heap.size w W) => HP.out.prove n gs (M : Int) (q : Int) (.slice a q c) W HN.out (by unfold I64; omega) (by unfold I64; omega) (by rw [← HG.out]; omega) (HVg.out.below (Nat.le_refl _) hW) (HT.out.below (Nat.le_refl _) hW))
    rw [hpr] at HProve
    have HRootO := Lib.hid (fun (W : World) (hW : Below w.heap.size w W) => HQ.out.root n (gs.take M) (.slice a M c) W HN.out (hv3.below (Nat.le_refl _) hW) (by rw [htl]; omega) (HT.out.below (Nat.le_refl _) hW))
    rw [← hO] at HRootO
    have hclong : climbGR n O M q (Ps ++ [x]) = ((z32, z32), 4) := by rw [climbGR, if_neg (by omega), if_neg (by rw [List.length_append, hpl]; simp), if_pos (by rw [List.length_append, hpl]; simp)]
    have HLong := Lib.hid (fun (v : Value) (W : World) (hv : Hss W v (Ps ++ [x])) (hW : Below w.heap.size w W) => HP.out.climb n O M q (Ps ++ [x]) v W HN.out hO32 (by omega) (by omega) hv (by rw [List.length_append, List.length_singleton]; omega) (HT.out.below (Nat.le_refl _) hW))
    rw [hclong] at HLong
    have hcshort : 0 < Ps.length → climbGR n O M q (Ps.drop 1) = ((z32, z32), 2) := fun h => by rw [climbGR, if_neg (by omega), if_pos (by rw [List.length_drop, ← hpl]; omega)]
    have HShort1 := Lib.hid (fun (v : Value) (W : World) (hv : Hss W v (Ps.drop 1)) (hW : Below w.heap.size w W) => HP.out.climb n O M q (Ps.drop 1) v W HN.out hO32 (by omega) (by omega) hv (by rw [List.length_drop]; omega) (HT.out.below (Nat.le_refl _) hW))
    have HCs := Lib.hid hcshort
    have HSO := Lib.hid (size_hash (cs := bs O) (by rw [bs_size, hO32]))
    have HSz := Lib.hid (size_hash (cs := bs z32) (by rw [bs_size]; rfl))
    have HOS := Lib.hid (show (bs O).size = 32 by rw [bs_size, hO32])
    have HSl2 := Lib.hid (fun (W : World) => show (Instr.sliceAt 22 (.slice a q c) none (some (.int .i64 (M : Int))) none).run Tryd.prog W = .ok (.slice a M c) W by rw [slice_hs_to a q c M (by omega) W, sliced_zero3])
    have HM := Lib.hid hM
    have HPl := Lib.hid hP65
    have HGz := Lib.hid hgz
    clear hM hpr hpl hcl htl hv3 hO hP65 hO32 hclong hcshort hgz
    go_enter Tryd.func12, Tryd.ntmps12
    go_wp2_with fail
    have hb0 : Below w.heap.size w (w.alloc (.cells (bs x) 30)) := (Below.refl _ _).alloc (Nat.le_refl _) _
    refine (awake16_any HP.out HQ.out _ (HT.out.below (Nat.le_refl _) hb0)).mono ?_
    rintro e W1 ⟨rfl, hb1⟩
    have HB1 := Lib.hid (hb0.trans (hb1.mono (by simp)))
    have HK1 := Lib.hid ((Blk.new w 30 (bs x)).keep hb1)
    clear hb0 hb1
    have hsl := HSl.out
    clear HSl
    go_upto_region 5 with fail
    generalize decide (60 < (m : Int)) = z23
    clear hsl
    go_upto_region 8 with fail
    go_upto_region 9 with fail
    rw [HM.out]
    go_wp2_with (refine wpList_slice_by rfl 22 (.tmp 40) none (some (.tmp 41)) rfl (.slice a q c) (.slice a M c) none (some (.int .i64 (M : Int))) rfl rfl rfl (HSl2.out _) ?_)
    refine (HRootO.out _ HB1.out).mono ?_
    rintro e W3 ⟨rfl, hb3⟩
    have HB3 := Lib.hid (HB1.out.trans (hb3.mono HB1.out.size))
    have HK3 := Lib.hid (HK1.out.keep hb3)
    clear HB1 HK1 hb3 HRootO HSl2 HM
    go_upto_region 10 with (refine wpList_store_row rfl 30 (.tmp 10) (.tmp 43) rfl W3.heap.size (bs O) rfl rfl 30 _ (Blk.new W3 _ _) HSO.out (by rw [HOS.out]; rfl) (bs_one _) ?_)
    have hbn : Below W3.heap.size W3 ((W3.alloc (.cells (bs (List.replicate 32 0)) 30)).setRow W3.heap.size (bs O)) := below_setRow ((Below.refl _ _).alloc (Nat.le_refl _) _) _ _ (Nat.le_refl _)
    obtain ⟨g1, hg1⟩ : ∃ g, g = W3.heap.size := ⟨_, rfl⟩
    refine world_cut (fun W => GlW w x O g1 W) ⟨HK3.out.keep hbn, by rw [hg1]; exact Blk.row (Blk.new W3 _ _) _, HB3.out.trans (hbn.mono HB3.out.size)⟩ ?_
    rw [← hg1]
    clear hg1 hbn HB3 HK3
    intro W4 hw4
    have HW4 := Lib.hid hw4
    clear hw4
    go_wp2_with fail
    refine (HProve.out _ HW4.out.2.2).mono ?_
    rintro e W0 ⟨u, rfl, hu, hb2⟩
    obtain ⟨pa, pc, rfl, hpc⟩ := hu.form
    obtain ⟨p, hp⟩ : ∃ p, p = Ps.length := ⟨_, rfl⟩
    rw [← hp] at hu hpc ⊢
    have HU := Lib.hid hu
    have HPp := Lib.hid hp
    have HW0 := Lib.hid (HW4.out.keep hb2)
    have HBx := Lib.hid HW0.out.2.2
    clear hu hp hb2 HW4 HProve
    go_upto_region 11 with fail
    have hG : ∀ W W' : World, Below W0.heap.size W0 W → Below W.heap.size W W' → Below W0.heap.size W0 W' := fun W W' h h' => h.trans (h'.mono h.size)
    have hB : ∀ W : World, Below W0.heap.size W0 W → W0.heap.size ≤ W.heap.size := fun W h => h.size
    have hgr : ∀ (W W' : World) (row : Option Nat), Below W0.heap.size W0 W → W.grownBy W' row → (∀ k, row = some k → W0.heap.size ≤ k) → Below W0.heap.size W0 W' := fun W W' row hW hg hrow => hW.grown hg hW.size hrow
    refine region_by [(13, var32F W0.heap.size), (14, var32F W0.heap.size), (59, hlitF W0.heap.size), (61, row2F W0.heap.size Ps), (63, hssF [x]), (64, ohsF W0.heap.size (Ps ++ [x])), (54, .is (.int .i64 n)), (55, .is (.int .i64 (M : Int))), (56, .is (.int .u64 (M : Int))), (57, .is (.int .u64 (q : Int))), (58, .is (.agg (bs O))), (60, .is (.slice pa p pc)), (62, .is (.agg (bs x))), (65, .is (.tuple #[.agg (bs z32), .agg (bs z32), .int .i64 4])), (53, .is (.tuple #[.agg (bs z32), .agg (bs z32), .int .i64 4])), (66, .is (.agg (bs z32))), (67, .is (.agg (bs z32))), (68, .is (.int .i64 4)), (15, .is (.int .i64 4))] [0, 1, 2, 7, 9, 10, 11, 12, 15] (fun W => Below W0.heap.size W0 W) (by kernel_rfl) (by kernel_rfl) (by kernel_rfl) (by kernel_rfl) (by kernel_rfl) ((Below.refl _ _).drew) ?_ ?_
    · refine ⟨?c0, ?c1, ?c2, ?c3, ?c4, ?c5, ?c6, ?c7, ?c8, ?c9, ?c10, ?c11, ?c12, ?c13, ?c14, ?c15, ?c16, ?c17, ?c18, ?c19, ?c20, trivial⟩
      case c0 => exact ask_copy (guard_none rfl) (.tmp 0) (.inl rfl) (by intro k hk; cases hk; rfl)
      case c1 => exact ask_copy (guard_none rfl) (.tmp 2) (.inl rfl) (by intro k hk; cases hk; rfl)
      case c2 => exact ask_conv_iu (guard_none rfl) (.tmp 55) M (by omega) rfl rfl (by intro k hk; cases hk; rfl)
      case c3 => exact ask_copy (guard_none rfl) (.tmp 9) (.inl rfl) (by intro k hk; cases hk; rfl)
      case c4 => exact ask_load (guard_none rfl) _ (.tmp 10) (.pointer (some ⟨g1, 0, none⟩)) (.agg (bs O)) rfl rfl (by intro k hk; cases hk; rfl) (fun W hW => (HW0.out.keep hW).2.1.loads 30 _ Tryd.underlying30 rfl HSO.out)
      case c5 => exact ask_build_none hG (guard_none rfl) _ hB rfl (by intro k hk; cases hk; rfl)
      case c6 => exact ask_copy (guard_none rfl) (.tmp 11) (.inl rfl) (by intro k hk; cases hk; rfl)
      case c7 => exact ask_append_hlit2 hG (guard_none rfl) (.tmp 59) (.tmp 60) _ Ps rfl rfl rfl (fun X W hW hk => by
          have e : X 60 = .slice pa p pc := hk 60 rfl
          show Hss W (X 60) Ps
          rw [e]
          exact HU.out.below (Nat.le_refl _) hW) (by have := HPl.out; omega) (by intro k hk; cases hk; rfl)
      case c8 => exact ask_load (guard_none rfl) _ (.tmp 7) (.pointer (some ⟨w.heap.size, 0, none⟩)) (.agg (bs x)) rfl rfl (by intro k hk; cases hk; rfl) (fun W hW => (HW0.out.keep hW).1.loads 30 _ Tryd.underlying30 rfl HSx.out)
      case c9 => exact ask_build_hash hG (guard_none rfl) _ x (bs x) HX.out rfl rfl rfl (by intro k hk; cases hk; rfl)
      case c10 => exact ask_append_fine [13, 14] (by intro k hk; simp only [List.mem_cons, List.not_mem_nil, or_false] at hk; rcases hk with rfl | rfl <;> exact ⟨_, rfl⟩) (guard_none rfl) (by kernel_rfl) (.tmp 61) (.tmp 63) _ Ps [x] rfl rfl rfl (fun X W hW hk => hk 63 rfl) (by simp) (by have := HPl.out; simp only [List.length_singleton]; omega) hB hgr (by intro k hk; cases hk; rfl)
      case c11 => exact ask_call_by hG (guard_none rfl) _ _ _ (.is (.tuple #[.agg (bs z32), .agg (bs z32), .int .i64 4])) rfl (by kernel_rfl) (by intro k hk; cases hk; rfl) (fun X W hW hk => by
          have e1 : X 54 = .int .i64 n := hk 54 rfl
          have e2 : X 56 = .int .u64 (M : Int) := hk 56 rfl
          have e3 : X 57 = .int .u64 (q : Int) := hk 57 rfl
          have e4 : X 58 = .agg (bs O) := hk 58 rfl
          have e5 : OHs W W0.heap.size (X 64) (Ps ++ [x]) := hk 64 rfl
          show Calls _ _ #[X 54, X 56, X 57, X 58, X 64] W _
          rw [e1, e2, e3, e4]
          exact (HLong.out (X 64) W e5.hss (HBx.out.trans (hW.mono HBx.out.size))).mono fun e w' h => ⟨_, h.1, rfl, h.2⟩)
      case c12 => exact ask_copy (guard_none rfl) (.tmp 65) (.inl rfl) (by intro k hk; cases hk; rfl)
      case c13 => exact ask_exec (guard_none rfl) (.agg (bs z32)) rfl rfl (by intro k hk; cases hk; rfl) (fun W hW => rfl)
      case c14 => exact ask_exec (guard_none rfl) (.agg (bs z32)) rfl rfl (by intro k hk; cases hk; rfl) (fun W hW => rfl)
      case c15 => exact ask_exec (guard_none rfl) (.int .i64 4) rfl rfl (by intro k hk; cases hk; rfl) (fun W hW => rfl)
      case c16 => exact ask_alloc hG (guard_none rfl) _ (.agg (bs (List.replicate 32 0))) (var32F W0.heap.size) rfl (fun W => by kernel_rfl) (by intro k hk; cases hk; rfl) (fun W hW => ⟨_, _, rfl, hB W hW, Blk.new W _ _, rfl⟩)
      case c17 => exact ask_alloc hG (guard_none rfl) _ (.agg (bs (List.replicate 32 0))) (var32F W0.heap.size) rfl (fun W => by kernel_rfl) (by intro k hk; cases hk; rfl) (fun W hW => ⟨_, _, rfl, hB W hW, Blk.new W _ _, rfl⟩)
      case c18 =>
        intro X W hW hk
        obtain ⟨gs, zs, e1, e2, e3, e30⟩ : ∃ gs zs, X 13 = .pointer (some ⟨gs, 0, none⟩) ∧ W0.heap.size ≤ gs ∧ Blk W gs 30 zs ∧ zs.size = 32 := hk 13 rfl
        have e4 : X 66 = .agg (bs z32) := hk 66 rfl
        refine ⟨guard_ok (guard_none rfl) hk, gives_store 30 (.tmp 13) (.tmp 66) rfl (.pointer (some ⟨gs, 0, none⟩)) (.agg (bs z32)) e1 e4 (e3.stores 30 _ HSz.out (by rw [e30]; rfl) (bs_one _)) ⟨below_setRow hW gs _ e2, fun k u _ hlv hu => ?_, fun k hk => by cases hk⟩⟩
        by_cases hv0 : k = 13
        · subst hv0
          obtain ⟨g2, zs2, q1, q2, q3, q4⟩ : ∃ g2 zs2, u = .pointer (some ⟨g2, 0, none⟩) ∧ W0.heap.size ≤ g2 ∧ Blk W g2 30 zs2 ∧ zs2.size = 32 := hu
          by_cases hgg : g2 = gs
          · subst hgg
            exact ⟨g2, _, q1, q2, q3.row _, rfl⟩
          · exact ⟨g2, zs2, q1, q2, q3.rowOther _ hgg, q4⟩
        by_cases hv1 : k = 14
        · subst hv1
          obtain ⟨g2, zs2, q1, q2, q3, q4⟩ : ∃ g2 zs2, u = .pointer (some ⟨g2, 0, none⟩) ∧ W0.heap.size ≤ g2 ∧ Blk W g2 30 zs2 ∧ zs2.size = 32 := hu
          by_cases hgg : g2 = gs
          · subst hgg
            exact ⟨g2, _, q1, q2, q3.row _, rfl⟩
          · exact ⟨g2, zs2, q1, q2, q3.rowOther _ hgg, q4⟩
        by_cases hd59 : k = 59
        · subst hd59
          exact absurd (hlv.symm.trans (by kernel_rfl)) (by decide : ¬ (true = false))
        by_cases hd61 : k = 61
        · subst hd61
          exact absurd (hlv.symm.trans (by kernel_rfl)) (by decide : ¬ (true = false))
        by_cases hd63 : k = 63
        · subst hd63
          exact absurd (hlv.symm.trans (by kernel_rfl)) (by decide : ¬ (true = false))
        by_cases hd64 : k = 64
        · subst hd64
          exact absurd (hlv.symm.trans (by kernel_rfl)) (by decide : ¬ (true = false))
        simp only [factsOf_ne hv0, factsOf_ne hv1, factsOf_ne hd59, factsOf_ne hd61, factsOf_ne hd63, factsOf_ne hd64] at hu ⊢
        refine facts_keep (fun q hq u hu => ?_) k _ hu
        simp only [List.mem_cons, List.not_mem_nil, or_false] at hq
        rcases hq with rfl | rfl | rfl | rfl | rfl | rfl | rfl | rfl | rfl | rfl | rfl | rfl | rfl
        all_goals exact hu
      case c19 =>
        intro X W hW hk
        obtain ⟨gs, zs, e1, e2, e3, e30⟩ : ∃ gs zs, X 14 = .pointer (some ⟨gs, 0, none⟩) ∧ W0.heap.size ≤ gs ∧ Blk W gs 30 zs ∧ zs.size = 32 := hk 14 rfl
        have e4 : X 67 = .agg (bs z32) := hk 67 rfl
        refine ⟨guard_ok (guard_none rfl) hk, gives_store 30 (.tmp 14) (.tmp 67) rfl (.pointer (some ⟨gs, 0, none⟩)) (.agg (bs z32)) e1 e4 (e3.stores 30 _ HSz.out (by rw [e30]; rfl) (bs_one _)) ⟨below_setRow hW gs _ e2, fun k u _ hlv hu => ?_, fun k hk => by cases hk⟩⟩
        by_cases hv0 : k = 13
        · subst hv0
          obtain ⟨g2, zs2, q1, q2, q3, q4⟩ : ∃ g2 zs2, u = .pointer (some ⟨g2, 0, none⟩) ∧ W0.heap.size ≤ g2 ∧ Blk W g2 30 zs2 ∧ zs2.size = 32 := hu
          by_cases hgg : g2 = gs
          · subst hgg
            exact ⟨g2, _, q1, q2, q3.row _, rfl⟩
          · exact ⟨g2, zs2, q1, q2, q3.rowOther _ hgg, q4⟩
        by_cases hv1 : k = 14
        · subst hv1
          obtain ⟨g2, zs2, q1, q2, q3, q4⟩ : ∃ g2 zs2, u = .pointer (some ⟨g2, 0, none⟩) ∧ W0.heap.size ≤ g2 ∧ Blk W g2 30 zs2 ∧ zs2.size = 32 := hu
          by_cases hgg : g2 = gs
          · subst hgg
            exact ⟨g2, _, q1, q2, q3.row _, rfl⟩
          · exact ⟨g2, zs2, q1, q2, q3.rowOther _ hgg, q4⟩
        by_cases hd59 : k = 59
        · subst hd59
          exact absurd (hlv.symm.trans (by kernel_rfl)) (by decide : ¬ (true = false))
        by_cases hd61 : k = 61
        · subst hd61
          exact absurd (hlv.symm.trans (by kernel_rfl)) (by decide : ¬ (true = false))
        by_cases hd63 : k = 63
        · subst hd63
          exact absurd (hlv.symm.trans (by kernel_rfl)) (by decide : ¬ (true = false))
        by_cases hd64 : k = 64
        · subst hd64
          exact absurd (hlv.symm.trans (by kernel_rfl)) (by decide : ¬ (true = false))
        simp only [factsOf_ne hv0, factsOf_ne hv1, factsOf_ne hd59, factsOf_ne hd61, factsOf_ne hd63, factsOf_ne hd64] at hu ⊢
        refine facts_keep (fun q hq u hu => ?_) k _ hu
        simp only [List.mem_cons, List.not_mem_nil, or_false] at hq
        rcases hq with rfl | rfl | rfl | rfl | rfl | rfl | rfl | rfl | rfl | rfl | rfl | rfl | rfl
        all_goals exact hu
      case c20 => exact ask_copy (guard_none rfl) (.tmp 68) (.inr rfl) (by intro k hk; cases hk; rfl)
    intro a' W2 hW hd' hs' hf'
    have t0 : a'.tmps.getD 0 undef = .int .i64 n := hf' 0 rfl
    have t1 : a'.tmps.getD 1 undef = .slice a q c := hf' 1 rfl
    have t2 : a'.tmps.getD 2 undef = .int .i64 (M : Int) := hf' 2 rfl
    have t7 : a'.tmps.getD 7 undef = .pointer (some ⟨w.heap.size, 0, none⟩) := hf' 7 rfl
    have t9 : a'.tmps.getD 9 undef = .int .u64 (q : Int) := hf' 9 rfl
    have t10 : a'.tmps.getD 10 undef = .pointer (some ⟨g1, 0, none⟩) := hf' 10 rfl
    have t11 : a'.tmps.getD 11 undef = .slice pa p pc := hf' 11 rfl
    have t12 : a'.tmps.getD 12 undef = .int .i64 0 := hf' 12 rfl
    have t15 : a'.tmps.getD 15 undef = .int .i64 4 := hf' 15 rfl
    obtain ⟨us', hus, ha'⟩ := act_open 102 a' hs' hd'
    rw [← hus] at t0 t1 t2 t7 t9 t10 t11 t12 t15
    have el : ((List.range 102).map us').toArray = #[.int .i64 n, .slice a q c, .int .i64 (M : Int), us' 3, us' 4, us' 5, us' 6, .pointer (some ⟨w.heap.size, 0, none⟩), us' 8, .int .u64 (q : Int), .pointer (some ⟨g1, 0, none⟩), .slice pa p pc, .int .i64 0, us' 13, us' 14, .int .i64 4, us' 16, us' 17, us' 18, us' 19, us' 20, us' 21, us' 22, us' 23, us' 24, us' 25, us' 26, us' 27, us' 28, us' 29, us' 30, us' 31, us' 32, us' 33, us' 34, us' 35, us' 36, us' 37, us' 38, us' 39, us' 40, us' 41, us' 42, us' 43, us' 44, us' 45, us' 46, us' 47, us' 48, us' 49, us' 50, us' 51, us' 52, us' 53, us' 54, us' 55, us' 56, us' 57, us' 58, us' 59, us' 60, us' 61, us' 62, us' 63, us' 64, us' 65, us' 66, us' 67, us' 68, us' 69, us' 70, us' 71, us' 72, us' 73, us' 74, us' 75, us' 76, us' 77, us' 78, us' 79, us' 80, us' 81, us' 82, us' 83, us' 84, us' 85, us' 86, us' 87, us' 88, us' 89, us' 90, us' 91, us' 92, us' 93, us' 94, us' 95, us' 96, us' 97, us' 98, us' 99, us' 100, us' 101] := by
      show #[us' 0, us' 1, us' 2, us' 3, us' 4, us' 5, us' 6, us' 7, us' 8, us' 9, us' 10, us' 11, us' 12, us' 13, us' 14, us' 15, us' 16, us' 17, us' 18, us' 19, us' 20, us' 21, us' 22, us' 23, us' 24, us' 25, us' 26, us' 27, us' 28, us' 29, us' 30, us' 31, us' 32, us' 33, us' 34, us' 35, us' 36, us' 37, us' 38, us' 39, us' 40, us' 41, us' 42, us' 43, us' 44, us' 45, us' 46, us' 47, us' 48, us' 49, us' 50, us' 51, us' 52, us' 53, us' 54, us' 55, us' 56, us' 57, us' 58, us' 59, us' 60, us' 61, us' 62, us' 63, us' 64, us' 65, us' 66, us' 67, us' 68, us' 69, us' 70, us' 71, us' 72, us' 73, us' 74, us' 75, us' 76, us' 77, us' 78, us' 79, us' 80, us' 81, us' 82, us' 83, us' 84, us' 85, us' 86, us' 87, us' 88, us' 89, us' 90, us' 91, us' 92, us' 93, us' 94, us' 95, us' 96, us' 97, us' 98, us' 99, us' 100, us' 101] = _
      rw [t0, t1, t2, t7, t9, t10, t11, t12, t15]
    rw [el] at ha'
    subst ha'
    clear hus t0 t1 t2 t7 t9 t10 t11 t12 t15 el hf' hs' hd'
    have HW2 := Lib.hid (HW0.out.keep hW)
    have HU2 := Lib.hid (HU.out.below (Nat.le_refl _) hW)
    clear hW hG hB hgr HW0 HBx HU HLong
    have hgz := HGz.out
    rw [← HPp.out] at hgz
    by_cases hp0 : p = 0
    · have hMe : M = q := hgz.1 hp0
      subst hMe
      subst hp0
      have hcm : IntKind.u64.wrap (M : Int) = (M : Int) := by rw [IntKind.wrap_u64]; omega
      clear hgz
      go_wp2
      go_ret
      exact ⟨rfl, HW2.out.2.2⟩
    · have hMn : M ≠ q := fun h => hp0 (hgz.2 h)
      have hMl : (M : Int) < (q : Int) := by omega
      have hpz : ((p : Int) == 0) = false := by simpa using hp0
      have hpp : 0 < p := by omega
      obtain ⟨vs, hvs⟩ : ∃ v, v = sliced pa 1 p pc 32 := ⟨_, rfl⟩
      have HVs := Lib.hid (show ∀ W, (Instr.sliceAt 22 (.slice pa p pc) (some (.int .i64 1)) none none).run Tryd.prog W = .ok vs W from fun W => by rw [hvs]; exact slice_hs_from pa p pc 1 (by omega) W)
      have hsub := HU2.out.sub 1 p (by omega) (Nat.le_refl _)
      rw [List.take_of_length_le (by rw [← HPp.out]; exact Nat.le_refl _), ← hvs] at hsub
      have HShort := Lib.hid (fun (W : World) (hW : Below W2.heap.size W2 W) => HShort1.out vs W (hsub.below (Nat.le_refl _) hW) (HW2.out.2.2.trans (hW.mono HW2.out.2.2.size)))
      rw [HCs.out (by rw [← HPp.out]; exact hpp)] at HShort
      clear hvs hsub HShort1 HCs hgz hMn hp0
      obtain ⟨W0, rfl⟩ : ∃ W0 : World, W0 = W2 := ⟨_, rfl⟩
      have HW0 := Lib.hid HW2.out
      go_upto_region 16 with fail
      have hG : ∀ W W' : World, Below W0.heap.size W0 W → Below W.heap.size W W' → Below W0.heap.size W0 W' := fun W W' h h' => h.trans (h'.mono h.size)
      have hB : ∀ W : World, Below W0.heap.size W0 W → W0.heap.size ≤ W.heap.size := fun W h => h.size
      refine region_by [(16, var32F W0.heap.size), (17, var32F W0.heap.size), (83, .is (.int .i64 n)), (84, .is (.int .i64 (M : Int))), (85, .is (.int .u64 (M : Int))), (86, .is (.int .u64 (q : Int))), (87, .is (.agg (bs O))), (88, .is (.slice pa p pc)), (89, .is vs), (90, .is (.tuple #[.agg (bs z32), .agg (bs z32), .int .i64 2])), (82, .is (.tuple #[.agg (bs z32), .agg (bs z32), .int .i64 2])), (91, .is (.agg (bs z32))), (92, .is (.agg (bs z32))), (93, .is (.int .i64 2)), (18, .is (.int .i64 2))] [0, 1, 2, 7, 9, 10, 11, 12, 18] (fun W => Below W0.heap.size W0 W) (by kernel_rfl) (by kernel_rfl) (by kernel_rfl) (by kernel_rfl) (by kernel_rfl) ((Below.refl _ _).drew) ?_ ?_
      · refine ⟨?c0, ?c1, ?c2, ?c3, ?c4, ?c5, ?c6, ?c7, ?c8, ?c9, ?c10, ?c11, ?c12, ?c13, ?c14, ?c15, ?c16, trivial⟩
        case c0 => exact ask_copy (guard_none rfl) (.tmp 0) (.inl rfl) (by intro k hk; cases hk; rfl)
        case c1 => exact ask_copy (guard_none rfl) (.tmp 2) (.inl rfl) (by intro k hk; cases hk; rfl)
        case c2 => exact ask_conv_iu (guard_none rfl) (.tmp 84) M (by omega) rfl rfl (by intro k hk; cases hk; rfl)
        case c3 => exact ask_copy (guard_none rfl) (.tmp 9) (.inl rfl) (by intro k hk; cases hk; rfl)
        case c4 => exact ask_load (guard_none rfl) _ (.tmp 10) (.pointer (some ⟨g1, 0, none⟩)) (.agg (bs O)) rfl rfl (by intro k hk; cases hk; rfl) (fun W hW => (HW0.out.keep hW).2.1.loads 30 _ Tryd.underlying30 rfl HSO.out)
        case c5 => exact ask_copy (guard_none rfl) (.tmp 11) (.inl rfl) (by intro k hk; cases hk; rfl)
        case c6 => exact ask_slice (guard_none rfl) 22 (.tmp 88) (some (.const (.int .i64 1))) none none (.slice pa p pc) vs (some (.int .i64 1)) none none rfl rfl rfl rfl rfl (by intro k hk; cases hk; rfl) HVs.out
        case c7 => exact ask_call hG (guard_none rfl) _ _ _ #[.int .i64 n, .int .u64 (M : Int), .int .u64 (q : Int), .agg (bs O), vs] (.is (.tuple #[.agg (bs z32), .agg (bs z32), .int .i64 2])) rfl (by kernel_rfl) rfl rfl (by intro k hk; cases hk; rfl) (fun W hW => (HShort.out W hW).mono fun e w' h => ⟨_, h.1, rfl, h.2⟩)
        case c8 => exact ask_copy (guard_none rfl) (.tmp 90) (.inl rfl) (by intro k hk; cases hk; rfl)
        case c9 => exact ask_exec (guard_none rfl) (.agg (bs z32)) rfl rfl (by intro k hk; cases hk; rfl) (fun W hW => rfl)
        case c10 => exact ask_exec (guard_none rfl) (.agg (bs z32)) rfl rfl (by intro k hk; cases hk; rfl) (fun W hW => rfl)
        case c11 => exact ask_exec (guard_none rfl) (.int .i64 2) rfl rfl (by intro k hk; cases hk; rfl) (fun W hW => rfl)
        case c12 => exact ask_alloc hG (guard_none rfl) _ (.agg (bs (List.replicate 32 0))) (var32F W0.heap.size) rfl (fun W => by kernel_rfl) (by intro k hk; cases hk; rfl) (fun W hW => ⟨_, _, rfl, hB W hW, Blk.new W _ _, rfl⟩)
        case c13 => exact ask_alloc hG (guard_none rfl) _ (.agg (bs (List.replicate 32 0))) (var32F W0.heap.size) rfl (fun W => by kernel_rfl) (by intro k hk; cases hk; rfl) (fun W hW => ⟨_, _, rfl, hB W hW, Blk.new W _ _, rfl⟩)
        case c14 =>
          intro X W hW hk
          obtain ⟨gs, zs, e1, e2, e3, e30⟩ : ∃ gs zs, X 16 = .pointer (some ⟨gs, 0, none⟩) ∧ W0.heap.size ≤ gs ∧ Blk W gs 30 zs ∧ zs.size = 32 := hk 16 rfl
          have e4 : X 91 = .agg (bs z32) := hk 91 rfl
          refine ⟨guard_ok (guard_none rfl) hk, gives_store 30 (.tmp 16) (.tmp 91) rfl (.pointer (some ⟨gs, 0, none⟩)) (.agg (bs z32)) e1 e4 (e3.stores 30 _ HSz.out (by rw [e30]; rfl) (bs_one _)) ⟨below_setRow hW gs _ e2, fun k u _ hlv hu => ?_, fun k hk => by cases hk⟩⟩
          by_cases hv0 : k = 16
          · subst hv0
            obtain ⟨g2, zs2, q1, q2, q3, q4⟩ : ∃ g2 zs2, u = .pointer (some ⟨g2, 0, none⟩) ∧ W0.heap.size ≤ g2 ∧ Blk W g2 30 zs2 ∧ zs2.size = 32 := hu
            by_cases hgg : g2 = gs
            · subst hgg
              exact ⟨g2, _, q1, q2, q3.row _, rfl⟩
            · exact ⟨g2, zs2, q1, q2, q3.rowOther _ hgg, q4⟩
          by_cases hv1 : k = 17
          · subst hv1
            obtain ⟨g2, zs2, q1, q2, q3, q4⟩ : ∃ g2 zs2, u = .pointer (some ⟨g2, 0, none⟩) ∧ W0.heap.size ≤ g2 ∧ Blk W g2 30 zs2 ∧ zs2.size = 32 := hu
            by_cases hgg : g2 = gs
            · subst hgg
              exact ⟨g2, _, q1, q2, q3.row _, rfl⟩
            · exact ⟨g2, zs2, q1, q2, q3.rowOther _ hgg, q4⟩
          simp only [factsOf_ne hv0, factsOf_ne hv1] at hu ⊢
          refine facts_keep (fun q hq u hu => ?_) k _ hu
          simp only [List.mem_cons, List.not_mem_nil, or_false] at hq
          rcases hq with rfl | rfl | rfl | rfl | rfl | rfl | rfl | rfl | rfl | rfl | rfl | rfl | rfl
          all_goals exact hu
        case c15 =>
          intro X W hW hk
          obtain ⟨gs, zs, e1, e2, e3, e30⟩ : ∃ gs zs, X 17 = .pointer (some ⟨gs, 0, none⟩) ∧ W0.heap.size ≤ gs ∧ Blk W gs 30 zs ∧ zs.size = 32 := hk 17 rfl
          have e4 : X 92 = .agg (bs z32) := hk 92 rfl
          refine ⟨guard_ok (guard_none rfl) hk, gives_store 30 (.tmp 17) (.tmp 92) rfl (.pointer (some ⟨gs, 0, none⟩)) (.agg (bs z32)) e1 e4 (e3.stores 30 _ HSz.out (by rw [e30]; rfl) (bs_one _)) ⟨below_setRow hW gs _ e2, fun k u _ hlv hu => ?_, fun k hk => by cases hk⟩⟩
          by_cases hv0 : k = 16
          · subst hv0
            obtain ⟨g2, zs2, q1, q2, q3, q4⟩ : ∃ g2 zs2, u = .pointer (some ⟨g2, 0, none⟩) ∧ W0.heap.size ≤ g2 ∧ Blk W g2 30 zs2 ∧ zs2.size = 32 := hu
            by_cases hgg : g2 = gs
            · subst hgg
              exact ⟨g2, _, q1, q2, q3.row _, rfl⟩
            · exact ⟨g2, zs2, q1, q2, q3.rowOther _ hgg, q4⟩
          by_cases hv1 : k = 17
          · subst hv1
            obtain ⟨g2, zs2, q1, q2, q3, q4⟩ : ∃ g2 zs2, u = .pointer (some ⟨g2, 0, none⟩) ∧ W0.heap.size ≤ g2 ∧ Blk W g2 30 zs2 ∧ zs2.size = 32 := hu
            by_cases hgg : g2 = gs
            · subst hgg
              exact ⟨g2, _, q1, q2, q3.row _, rfl⟩
            · exact ⟨g2, zs2, q1, q2, q3.rowOther _ hgg, q4⟩
          simp only [factsOf_ne hv0, factsOf_ne hv1] at hu ⊢
          refine facts_keep (fun q hq u hu => ?_) k _ hu
          simp only [List.mem_cons, List.not_mem_nil, or_false] at hq
          rcases hq with rfl | rfl | rfl | rfl | rfl | rfl | rfl | rfl | rfl | rfl | rfl | rfl | rfl
          all_goals exact hu
        case c16 => exact ask_copy (guard_none rfl) (.tmp 93) (.inr rfl) (by intro k hk; cases hk; rfl)
      intro a' W2 hW hd' hs' hf'
      have t0 : a'.tmps.getD 0 undef = .int .i64 n := hf' 0 rfl
      have t1 : a'.tmps.getD 1 undef = .slice a q c := hf' 1 rfl
      have t2 : a'.tmps.getD 2 undef = .int .i64 (M : Int) := hf' 2 rfl
      have t7 : a'.tmps.getD 7 undef = .pointer (some ⟨w.heap.size, 0, none⟩) := hf' 7 rfl
      have t9 : a'.tmps.getD 9 undef = .int .u64 (q : Int) := hf' 9 rfl
      have t10 : a'.tmps.getD 10 undef = .pointer (some ⟨g1, 0, none⟩) := hf' 10 rfl
      have t11 : a'.tmps.getD 11 undef = .slice pa p pc := hf' 11 rfl
      have t12 : a'.tmps.getD 12 undef = .int .i64 0 := hf' 12 rfl
      have t18 : a'.tmps.getD 18 undef = .int .i64 2 := hf' 18 rfl
      obtain ⟨us', hus, ha'⟩ := act_open 102 a' hs' hd'
      rw [← hus] at t0 t1 t2 t7 t9 t10 t11 t12 t18
      have el : ((List.range 102).map us').toArray = #[.int .i64 n, .slice a q c, .int .i64 (M : Int), us' 3, us' 4, us' 5, us' 6, .pointer (some ⟨w.heap.size, 0, none⟩), us' 8, .int .u64 (q : Int), .pointer (some ⟨g1, 0, none⟩), .slice pa p pc, .int .i64 0, us' 13, us' 14, us' 15, us' 16, us' 17, .int .i64 2, us' 19, us' 20, us' 21, us' 22, us' 23, us' 24, us' 25, us' 26, us' 27, us' 28, us' 29, us' 30, us' 31, us' 32, us' 33, us' 34, us' 35, us' 36, us' 37, us' 38, us' 39, us' 40, us' 41, us' 42, us' 43, us' 44, us' 45, us' 46, us' 47, us' 48, us' 49, us' 50, us' 51, us' 52, us' 53, us' 54, us' 55, us' 56, us' 57, us' 58, us' 59, us' 60, us' 61, us' 62, us' 63, us' 64, us' 65, us' 66, us' 67, us' 68, us' 69, us' 70, us' 71, us' 72, us' 73, us' 74, us' 75, us' 76, us' 77, us' 78, us' 79, us' 80, us' 81, us' 82, us' 83, us' 84, us' 85, us' 86, us' 87, us' 88, us' 89, us' 90, us' 91, us' 92, us' 93, us' 94, us' 95, us' 96, us' 97, us' 98, us' 99, us' 100, us' 101] := by
        show #[us' 0, us' 1, us' 2, us' 3, us' 4, us' 5, us' 6, us' 7, us' 8, us' 9, us' 10, us' 11, us' 12, us' 13, us' 14, us' 15, us' 16, us' 17, us' 18, us' 19, us' 20, us' 21, us' 22, us' 23, us' 24, us' 25, us' 26, us' 27, us' 28, us' 29, us' 30, us' 31, us' 32, us' 33, us' 34, us' 35, us' 36, us' 37, us' 38, us' 39, us' 40, us' 41, us' 42, us' 43, us' 44, us' 45, us' 46, us' 47, us' 48, us' 49, us' 50, us' 51, us' 52, us' 53, us' 54, us' 55, us' 56, us' 57, us' 58, us' 59, us' 60, us' 61, us' 62, us' 63, us' 64, us' 65, us' 66, us' 67, us' 68, us' 69, us' 70, us' 71, us' 72, us' 73, us' 74, us' 75, us' 76, us' 77, us' 78, us' 79, us' 80, us' 81, us' 82, us' 83, us' 84, us' 85, us' 86, us' 87, us' 88, us' 89, us' 90, us' 91, us' 92, us' 93, us' 94, us' 95, us' 96, us' 97, us' 98, us' 99, us' 100, us' 101] = _
        rw [t0, t1, t2, t7, t9, t10, t11, t12, t18]
      rw [el] at ha'
      subst ha'
      clear hus t0 t1 t2 t7 t9 t10 t11 t12 t18 el hf' hs' hd'
      have HB3 := Lib.hid (HW0.out.2.2.trans (hW.mono HW0.out.2.2.size))
      clear hW hG hB HW0 HW2 HU2 HShort HVs
      have HCm := Lib.hid (show IntKind.u64.wrap (M : Int) = (M : Int) by rw [IntKind.wrap_u64]; omega)
      go_wp2
      go_ret
      exact ⟨rfl, HB3.out⟩
  · obtain ⟨q, hmq⟩ : ∃ q, q = m := ⟨_, rfl⟩
    rw [← hmq] at hv hc h60 hm ⊢
    have hq60 : q ≤ 60 := by omega
    clear hmq
    by_cases hqz : q = 0
    · subst hqz
      have HZ := Lib.hid (fun (W : World) => HP.out.size 0 0 W (by decide) (by decide))
      rw [show growS 0 0 = 0 by rw [growS, if_pos (.inl rfl)]] at HZ
      clear hv ht hp hn hx hq1 hm hc
      go_enter Tryd.func12, Tryd.ntmps12
      go_wp2_with fail
      have hb0 : Below w.heap.size w (w.alloc (.cells (bs x) 30)) := (Below.refl _ _).alloc (Nat.le_refl _) _
      refine (awake16_any HP.out HQ.out _ (HT.out.below (Nat.le_refl _) hb0)).mono ?_
      rintro e W1 ⟨rfl, hb1⟩
      have HB1 := Lib.hid (hb0.trans (hb1.mono (by simp)))
      have HK1 := Lib.hid ((Blk.new w 30 (bs x)).keep hb1)
      clear hb0 hb1
      go_wp2_with fail
      refine (HZ.out _).mono ?_
      rintro e W2 ⟨rfl, hb2⟩
      have HB2 := Lib.hid (HB1.out.trans (hb2.mono HB1.out.size))
      clear hb2 HB1 HZ
      go_wp2
      go_ret
      exact ⟨rfl, HB2.out⟩
    · have HVg := Lib.hid hv
      have HG := Lib.hid hm
      have hq0 : ((q : Int) == 0) = false := by simpa using hqz
      have hqp : 0 < q := by omega
      clear hv hm ht hp hn hx hq1 hqz
      obtain ⟨M, hM, hM1, hMq⟩ := one_place i q hqp (by omega)
      obtain ⟨Ps, hpr, hpl, hcl⟩ := grow_climbs n hs M q hM1 hMq HG.out
      have hgz := growS_zero M q hM1 hMq
      rw [← hpl] at hgz
      have hP65 : Ps.length ≤ 65 := by rw [hpl]; exact growS_65 M q (by omega)
      have htl : (hs.take M).length = M := by rw [List.length_take, ← HG.out]; omega
      have hv3 : Hss w (.slice a M c) (hs.take M) := by
        have := HVg.out.sub 0 M (by omega) (by omega)
        rw [sliced_zero3] at this
        simpa using this
      obtain ⟨O, hO, hO32⟩ : ∃ O, O = rootH n (hs.take M) ∧ O.length = 32 := ⟨_, rfl, rootH_length _ _ hv3.all⟩
      have HProve := Lib.hid (fun (W : World) (hW : Below w.heap.size w W) => HP.out.prove n hs (M : Int) (q : Int) (.slice a q c) W HN.out (by unfold I64; omega) (by unfold I64; omega) (by rw [← HG.out]; omega) (HVg.out.below (Nat.le_refl _) hW) (HT.out.below (Nat.le_refl _) hW))
      rw [hpr] at HProve
      have HRootO := Lib.hid (fun (W : World) (hW : Below w.heap.size w W) => HQ.out.root n (hs.take M) (.slice a M c) W HN.out (hv3.below (Nat.le_refl _) hW) (by rw [htl]; omega) (HT.out.below (Nat.le_refl _) hW))
      rw [← hO] at HRootO
      have hclong : climbGR n O M q (Ps ++ [x]) = ((z32, z32), 4) := by rw [climbGR, if_neg (by omega), if_neg (by rw [List.length_append, hpl]; simp), if_pos (by rw [List.length_append, hpl]; simp)]
      have HLong := Lib.hid (fun (v : Value) (W : World) (hv : Hss W v (Ps ++ [x])) (hW : Below w.heap.size w W) => HP.out.climb n O M q (Ps ++ [x]) v W HN.out hO32 (by omega) (by omega) hv (by rw [List.length_append, List.length_singleton]; omega) (HT.out.below (Nat.le_refl _) hW))
      rw [hclong] at HLong
      have hcshort : 0 < Ps.length → climbGR n O M q (Ps.drop 1) = ((z32, z32), 2) := fun h => by rw [climbGR, if_neg (by omega), if_pos (by rw [List.length_drop, ← hpl]; omega)]
      have HShort1 := Lib.hid (fun (v : Value) (W : World) (hv : Hss W v (Ps.drop 1)) (hW : Below w.heap.size w W) => HP.out.climb n O M q (Ps.drop 1) v W HN.out hO32 (by omega) (by omega) hv (by rw [List.length_drop]; omega) (HT.out.below (Nat.le_refl _) hW))
      have HCs := Lib.hid hcshort
      have HSO := Lib.hid (size_hash (cs := bs O) (by rw [bs_size, hO32]))
      have HSz := Lib.hid (size_hash (cs := bs z32) (by rw [bs_size]; rfl))
      have HOS := Lib.hid (show (bs O).size = 32 by rw [bs_size, hO32])
      have HSl2 := Lib.hid (fun (W : World) => show (Instr.sliceAt 22 (.slice a q c) none (some (.int .i64 (M : Int))) none).run Tryd.prog W = .ok (.slice a M c) W by rw [slice_hs_to a q c M (by omega) W, sliced_zero3])
      have HM := Lib.hid hM
      have HPl := Lib.hid hP65
      have HGz := Lib.hid hgz
      clear hM hpr hpl hcl htl hv3 hO hP65 hO32 hclong hcshort hgz
      go_enter Tryd.func12, Tryd.ntmps12
      go_wp2_with fail
      have hb0 : Below w.heap.size w (w.alloc (.cells (bs x) 30)) := (Below.refl _ _).alloc (Nat.le_refl _) _
      refine (awake16_any HP.out HQ.out _ (HT.out.below (Nat.le_refl _) hb0)).mono ?_
      rintro e W1 ⟨rfl, hb1⟩
      have HB1 := Lib.hid (hb0.trans (hb1.mono (by simp)))
      have HK1 := Lib.hid ((Blk.new w 30 (bs x)).keep hb1)
      clear hb0 hb1
      go_upto_region 5 with fail
      generalize decide (60 < (q : Int)) = z23
      go_upto_region 8 with fail
      go_upto_region 9 with fail
      rw [HM.out]
      go_wp2_with (refine wpList_slice_by rfl 22 (.tmp 40) none (some (.tmp 41)) rfl (.slice a q c) (.slice a M c) none (some (.int .i64 (M : Int))) rfl rfl rfl (HSl2.out _) ?_)
      refine (HRootO.out _ HB1.out).mono ?_
      rintro e W3 ⟨rfl, hb3⟩
      have HB3 := Lib.hid (HB1.out.trans (hb3.mono HB1.out.size))
      have HK3 := Lib.hid (HK1.out.keep hb3)
      clear HB1 HK1 hb3 HRootO HSl2 HM
      go_upto_region 10 with (refine wpList_store_row rfl 30 (.tmp 10) (.tmp 43) rfl W3.heap.size (bs O) rfl rfl 30 _ (Blk.new W3 _ _) HSO.out (by rw [HOS.out]; rfl) (bs_one _) ?_)
      have hbn : Below W3.heap.size W3 ((W3.alloc (.cells (bs (List.replicate 32 0)) 30)).setRow W3.heap.size (bs O)) := below_setRow ((Below.refl _ _).alloc (Nat.le_refl _) _) _ _ (Nat.le_refl _)
      obtain ⟨g1, hg1⟩ : ∃ g, g = W3.heap.size := ⟨_, rfl⟩
      refine world_cut (fun W => GlW w x O g1 W) ⟨HK3.out.keep hbn, by rw [hg1]; exact Blk.row (Blk.new W3 _ _) _, HB3.out.trans (hbn.mono HB3.out.size)⟩ ?_
      rw [← hg1]
      clear hg1 hbn HB3 HK3
      intro W4 hw4
      have HW4 := Lib.hid hw4
      clear hw4
      go_wp2_with fail
      refine (HProve.out _ HW4.out.2.2).mono ?_
      rintro e W0 ⟨u, rfl, hu, hb2⟩
      obtain ⟨pa, pc, rfl, hpc⟩ := hu.form
      obtain ⟨p, hp⟩ : ∃ p, p = Ps.length := ⟨_, rfl⟩
      rw [← hp] at hu hpc ⊢
      have HU := Lib.hid hu
      have HPp := Lib.hid hp
      have HW0 := Lib.hid (HW4.out.keep hb2)
      have HBx := Lib.hid HW0.out.2.2
      clear hu hp hb2 HW4 HProve
      go_upto_region 11 with fail
      have hG : ∀ W W' : World, Below W0.heap.size W0 W → Below W.heap.size W W' → Below W0.heap.size W0 W' := fun W W' h h' => h.trans (h'.mono h.size)
      have hB : ∀ W : World, Below W0.heap.size W0 W → W0.heap.size ≤ W.heap.size := fun W h => h.size
      have hgr : ∀ (W W' : World) (row : Option Nat), Below W0.heap.size W0 W → W.grownBy W' row → (∀ k, row = some k → W0.heap.size ≤ k) → Below W0.heap.size W0 W' := fun W W' row hW hg hrow => hW.grown hg hW.size hrow
      refine region_by [(13, var32F W0.heap.size), (14, var32F W0.heap.size), (59, hlitF W0.heap.size), (61, row2F W0.heap.size Ps), (63, hssF [x]), (64, ohsF W0.heap.size (Ps ++ [x])), (54, .is (.int .i64 n)), (55, .is (.int .i64 (M : Int))), (56, .is (.int .u64 (M : Int))), (57, .is (.int .u64 (q : Int))), (58, .is (.agg (bs O))), (60, .is (.slice pa p pc)), (62, .is (.agg (bs x))), (65, .is (.tuple #[.agg (bs z32), .agg (bs z32), .int .i64 4])), (53, .is (.tuple #[.agg (bs z32), .agg (bs z32), .int .i64 4])), (66, .is (.agg (bs z32))), (67, .is (.agg (bs z32))), (68, .is (.int .i64 4)), (15, .is (.int .i64 4))] [0, 1, 2, 7, 9, 10, 11, 12, 15] (fun W => Below W0.heap.size W0 W) (by kernel_rfl) (by kernel_rfl) (by kernel_rfl) (by kernel_rfl) (by kernel_rfl) ((Below.refl _ _).drew) ?_ ?_
      · refine ⟨?c0, ?c1, ?c2, ?c3, ?c4, ?c5, ?c6, ?c7, ?c8, ?c9, ?c10, ?c11, ?c12, ?c13, ?c14, ?c15, ?c16, ?c17, ?c18, ?c19, ?c20, trivial⟩
        case c0 => exact ask_copy (guard_none rfl) (.tmp 0) (.inl rfl) (by intro k hk; cases hk; rfl)
        case c1 => exact ask_copy (guard_none rfl) (.tmp 2) (.inl rfl) (by intro k hk; cases hk; rfl)
        case c2 => exact ask_conv_iu (guard_none rfl) (.tmp 55) M (by omega) rfl rfl (by intro k hk; cases hk; rfl)
        case c3 => exact ask_copy (guard_none rfl) (.tmp 9) (.inl rfl) (by intro k hk; cases hk; rfl)
        case c4 => exact ask_load (guard_none rfl) _ (.tmp 10) (.pointer (some ⟨g1, 0, none⟩)) (.agg (bs O)) rfl rfl (by intro k hk; cases hk; rfl) (fun W hW => (HW0.out.keep hW).2.1.loads 30 _ Tryd.underlying30 rfl HSO.out)
        case c5 => exact ask_build_none hG (guard_none rfl) _ hB rfl (by intro k hk; cases hk; rfl)
        case c6 => exact ask_copy (guard_none rfl) (.tmp 11) (.inl rfl) (by intro k hk; cases hk; rfl)
        case c7 => exact ask_append_hlit2 hG (guard_none rfl) (.tmp 59) (.tmp 60) _ Ps rfl rfl rfl (fun X W hW hk => by
            have e : X 60 = .slice pa p pc := hk 60 rfl
            show Hss W (X 60) Ps
            rw [e]
            exact HU.out.below (Nat.le_refl _) hW) (by have := HPl.out; omega) (by intro k hk; cases hk; rfl)
        case c8 => exact ask_load (guard_none rfl) _ (.tmp 7) (.pointer (some ⟨w.heap.size, 0, none⟩)) (.agg (bs x)) rfl rfl (by intro k hk; cases hk; rfl) (fun W hW => (HW0.out.keep hW).1.loads 30 _ Tryd.underlying30 rfl HSx.out)
        case c9 => exact ask_build_hash hG (guard_none rfl) _ x (bs x) HX.out rfl rfl rfl (by intro k hk; cases hk; rfl)
        case c10 => exact ask_append_fine [13, 14] (by intro k hk; simp only [List.mem_cons, List.not_mem_nil, or_false] at hk; rcases hk with rfl | rfl <;> exact ⟨_, rfl⟩) (guard_none rfl) (by kernel_rfl) (.tmp 61) (.tmp 63) _ Ps [x] rfl rfl rfl (fun X W hW hk => hk 63 rfl) (by simp) (by have := HPl.out; simp only [List.length_singleton]; omega) hB hgr (by intro k hk; cases hk; rfl)
        case c11 => exact ask_call_by hG (guard_none rfl) _ _ _ (.is (.tuple #[.agg (bs z32), .agg (bs z32), .int .i64 4])) rfl (by kernel_rfl) (by intro k hk; cases hk; rfl) (fun X W hW hk => by
            have e1 : X 54 = .int .i64 n := hk 54 rfl
            have e2 : X 56 = .int .u64 (M : Int) := hk 56 rfl
            have e3 : X 57 = .int .u64 (q : Int) := hk 57 rfl
            have e4 : X 58 = .agg (bs O) := hk 58 rfl
            have e5 : OHs W W0.heap.size (X 64) (Ps ++ [x]) := hk 64 rfl
            show Calls _ _ #[X 54, X 56, X 57, X 58, X 64] W _
            rw [e1, e2, e3, e4]
            exact (HLong.out (X 64) W e5.hss (HBx.out.trans (hW.mono HBx.out.size))).mono fun e w' h => ⟨_, h.1, rfl, h.2⟩)
        case c12 => exact ask_copy (guard_none rfl) (.tmp 65) (.inl rfl) (by intro k hk; cases hk; rfl)
        case c13 => exact ask_exec (guard_none rfl) (.agg (bs z32)) rfl rfl (by intro k hk; cases hk; rfl) (fun W hW => rfl)
        case c14 => exact ask_exec (guard_none rfl) (.agg (bs z32)) rfl rfl (by intro k hk; cases hk; rfl) (fun W hW => rfl)
        case c15 => exact ask_exec (guard_none rfl) (.int .i64 4) rfl rfl (by intro k hk; cases hk; rfl) (fun W hW => rfl)
        case c16 => exact ask_alloc hG (guard_none rfl) _ (.agg (bs (List.replicate 32 0))) (var32F W0.heap.size) rfl (fun W => by kernel_rfl) (by intro k hk; cases hk; rfl) (fun W hW => ⟨_, _, rfl, hB W hW, Blk.new W _ _, rfl⟩)
        case c17 => exact ask_alloc hG (guard_none rfl) _ (.agg (bs (List.replicate 32 0))) (var32F W0.heap.size) rfl (fun W => by kernel_rfl) (by intro k hk; cases hk; rfl) (fun W hW => ⟨_, _, rfl, hB W hW, Blk.new W _ _, rfl⟩)
        case c18 =>
          intro X W hW hk
          obtain ⟨gs, zs, e1, e2, e3, e30⟩ : ∃ gs zs, X 13 = .pointer (some ⟨gs, 0, none⟩) ∧ W0.heap.size ≤ gs ∧ Blk W gs 30 zs ∧ zs.size = 32 := hk 13 rfl
          have e4 : X 66 = .agg (bs z32) := hk 66 rfl
          refine ⟨guard_ok (guard_none rfl) hk, gives_store 30 (.tmp 13) (.tmp 66) rfl (.pointer (some ⟨gs, 0, none⟩)) (.agg (bs z32)) e1 e4 (e3.stores 30 _ HSz.out (by rw [e30]; rfl) (bs_one _)) ⟨below_setRow hW gs _ e2, fun k u _ hlv hu => ?_, fun k hk => by cases hk⟩⟩
          by_cases hv0 : k = 13
          · subst hv0
            obtain ⟨g2, zs2, q1, q2, q3, q4⟩ : ∃ g2 zs2, u = .pointer (some ⟨g2, 0, none⟩) ∧ W0.heap.size ≤ g2 ∧ Blk W g2 30 zs2 ∧ zs2.size = 32 := hu
            by_cases hgg : g2 = gs
            · subst hgg
              exact ⟨g2, _, q1, q2, q3.row _, rfl⟩
            · exact ⟨g2, zs2, q1, q2, q3.rowOther _ hgg, q4⟩
          by_cases hv1 : k = 14
          · subst hv1
            obtain ⟨g2, zs2, q1, q2, q3, q4⟩ : ∃ g2 zs2, u = .pointer (some ⟨g2, 0, none⟩) ∧ W0.heap.size ≤ g2 ∧ Blk W g2 30 zs2 ∧ zs2.size = 32 := hu
            by_cases hgg : g2 = gs
            · subst hgg
              exact ⟨g2, _, q1, q2, q3.row _, rfl⟩
            · exact ⟨g2, zs2, q1, q2, q3.rowOther _ hgg, q4⟩
          by_cases hd59 : k = 59
          · subst hd59
            exact absurd (hlv.symm.trans (by kernel_rfl)) (by decide : ¬ (true = false))
          by_cases hd61 : k = 61
          · subst hd61
            exact absurd (hlv.symm.trans (by kernel_rfl)) (by decide : ¬ (true = false))
          by_cases hd63 : k = 63
          · subst hd63
            exact absurd (hlv.symm.trans (by kernel_rfl)) (by decide : ¬ (true = false))
          by_cases hd64 : k = 64
          · subst hd64
            exact absurd (hlv.symm.trans (by kernel_rfl)) (by decide : ¬ (true = false))
          simp only [factsOf_ne hv0, factsOf_ne hv1, factsOf_ne hd59, factsOf_ne hd61, factsOf_ne hd63, factsOf_ne hd64] at hu ⊢
          refine facts_keep (fun q hq u hu => ?_) k _ hu
          simp only [List.mem_cons, List.not_mem_nil, or_false] at hq
          rcases hq with rfl | rfl | rfl | rfl | rfl | rfl | rfl | rfl | rfl | rfl | rfl | rfl | rfl
          all_goals exact hu
        case c19 =>
          intro X W hW hk
          obtain ⟨gs, zs, e1, e2, e3, e30⟩ : ∃ gs zs, X 14 = .pointer (some ⟨gs, 0, none⟩) ∧ W0.heap.size ≤ gs ∧ Blk W gs 30 zs ∧ zs.size = 32 := hk 14 rfl
          have e4 : X 67 = .agg (bs z32) := hk 67 rfl
          refine ⟨guard_ok (guard_none rfl) hk, gives_store 30 (.tmp 14) (.tmp 67) rfl (.pointer (some ⟨gs, 0, none⟩)) (.agg (bs z32)) e1 e4 (e3.stores 30 _ HSz.out (by rw [e30]; rfl) (bs_one _)) ⟨below_setRow hW gs _ e2, fun k u _ hlv hu => ?_, fun k hk => by cases hk⟩⟩
          by_cases hv0 : k = 13
          · subst hv0
            obtain ⟨g2, zs2, q1, q2, q3, q4⟩ : ∃ g2 zs2, u = .pointer (some ⟨g2, 0, none⟩) ∧ W0.heap.size ≤ g2 ∧ Blk W g2 30 zs2 ∧ zs2.size = 32 := hu
            by_cases hgg : g2 = gs
            · subst hgg
              exact ⟨g2, _, q1, q2, q3.row _, rfl⟩
            · exact ⟨g2, zs2, q1, q2, q3.rowOther _ hgg, q4⟩
          by_cases hv1 : k = 14
          · subst hv1
            obtain ⟨g2, zs2, q1, q2, q3, q4⟩ : ∃ g2 zs2, u = .pointer (some ⟨g2, 0, none⟩) ∧ W0.heap.size ≤ g2 ∧ Blk W g2 30 zs2 ∧ zs2.size = 32 := hu
            by_cases hgg : g2 = gs
            · subst hgg
              exact ⟨g2, _, q1, q2, q3.row _, rfl⟩
            · exact ⟨g2, zs2, q1, q2, q3.rowOther _ hgg, q4⟩
          by_cases hd59 : k = 59
          · subst hd59
            exact absurd (hlv.symm.trans (by kernel_rfl)) (by decide : ¬ (true = false))
          by_cases hd61 : k = 61
          · subst hd61
            exact absurd (hlv.symm.trans (by kernel_rfl)) (by decide : ¬ (true = false))
          by_cases hd63 : k = 63
          · subst hd63
            exact absurd (hlv.symm.trans (by kernel_rfl)) (by decide : ¬ (true = false))
          by_cases hd64 : k = 64
          · subst hd64
            exact absurd (hlv.symm.trans (by kernel_rfl)) (by decide : ¬ (true = false))
          simp only [factsOf_ne hv0, factsOf_ne hv1, factsOf_ne hd59, factsOf_ne hd61, factsOf_ne hd63, factsOf_ne hd64] at hu ⊢
          refine facts_keep (fun q hq u hu => ?_) k _ hu
          simp only [List.mem_cons, List.not_mem_nil, or_false] at hq
          rcases hq with rfl | rfl | rfl | rfl | rfl | rfl | rfl | rfl | rfl | rfl | rfl | rfl | rfl
          all_goals exact hu
        case c20 => exact ask_copy (guard_none rfl) (.tmp 68) (.inr rfl) (by intro k hk; cases hk; rfl)
      intro a' W2 hW hd' hs' hf'
      have t0 : a'.tmps.getD 0 undef = .int .i64 n := hf' 0 rfl
      have t1 : a'.tmps.getD 1 undef = .slice a q c := hf' 1 rfl
      have t2 : a'.tmps.getD 2 undef = .int .i64 (M : Int) := hf' 2 rfl
      have t7 : a'.tmps.getD 7 undef = .pointer (some ⟨w.heap.size, 0, none⟩) := hf' 7 rfl
      have t9 : a'.tmps.getD 9 undef = .int .u64 (q : Int) := hf' 9 rfl
      have t10 : a'.tmps.getD 10 undef = .pointer (some ⟨g1, 0, none⟩) := hf' 10 rfl
      have t11 : a'.tmps.getD 11 undef = .slice pa p pc := hf' 11 rfl
      have t12 : a'.tmps.getD 12 undef = .int .i64 0 := hf' 12 rfl
      have t15 : a'.tmps.getD 15 undef = .int .i64 4 := hf' 15 rfl
      obtain ⟨us', hus, ha'⟩ := act_open 102 a' hs' hd'
      rw [← hus] at t0 t1 t2 t7 t9 t10 t11 t12 t15
      have el : ((List.range 102).map us').toArray = #[.int .i64 n, .slice a q c, .int .i64 (M : Int), us' 3, us' 4, us' 5, us' 6, .pointer (some ⟨w.heap.size, 0, none⟩), us' 8, .int .u64 (q : Int), .pointer (some ⟨g1, 0, none⟩), .slice pa p pc, .int .i64 0, us' 13, us' 14, .int .i64 4, us' 16, us' 17, us' 18, us' 19, us' 20, us' 21, us' 22, us' 23, us' 24, us' 25, us' 26, us' 27, us' 28, us' 29, us' 30, us' 31, us' 32, us' 33, us' 34, us' 35, us' 36, us' 37, us' 38, us' 39, us' 40, us' 41, us' 42, us' 43, us' 44, us' 45, us' 46, us' 47, us' 48, us' 49, us' 50, us' 51, us' 52, us' 53, us' 54, us' 55, us' 56, us' 57, us' 58, us' 59, us' 60, us' 61, us' 62, us' 63, us' 64, us' 65, us' 66, us' 67, us' 68, us' 69, us' 70, us' 71, us' 72, us' 73, us' 74, us' 75, us' 76, us' 77, us' 78, us' 79, us' 80, us' 81, us' 82, us' 83, us' 84, us' 85, us' 86, us' 87, us' 88, us' 89, us' 90, us' 91, us' 92, us' 93, us' 94, us' 95, us' 96, us' 97, us' 98, us' 99, us' 100, us' 101] := by
        show #[us' 0, us' 1, us' 2, us' 3, us' 4, us' 5, us' 6, us' 7, us' 8, us' 9, us' 10, us' 11, us' 12, us' 13, us' 14, us' 15, us' 16, us' 17, us' 18, us' 19, us' 20, us' 21, us' 22, us' 23, us' 24, us' 25, us' 26, us' 27, us' 28, us' 29, us' 30, us' 31, us' 32, us' 33, us' 34, us' 35, us' 36, us' 37, us' 38, us' 39, us' 40, us' 41, us' 42, us' 43, us' 44, us' 45, us' 46, us' 47, us' 48, us' 49, us' 50, us' 51, us' 52, us' 53, us' 54, us' 55, us' 56, us' 57, us' 58, us' 59, us' 60, us' 61, us' 62, us' 63, us' 64, us' 65, us' 66, us' 67, us' 68, us' 69, us' 70, us' 71, us' 72, us' 73, us' 74, us' 75, us' 76, us' 77, us' 78, us' 79, us' 80, us' 81, us' 82, us' 83, us' 84, us' 85, us' 86, us' 87, us' 88, us' 89, us' 90, us' 91, us' 92, us' 93, us' 94, us' 95, us' 96, us' 97, us' 98, us' 99, us' 100, us' 101] = _
        rw [t0, t1, t2, t7, t9, t10, t11, t12, t15]
      rw [el] at ha'
      subst ha'
      clear hus t0 t1 t2 t7 t9 t10 t11 t12 t15 el hf' hs' hd'
      have HW2 := Lib.hid (HW0.out.keep hW)
      have HU2 := Lib.hid (HU.out.below (Nat.le_refl _) hW)
      clear hW hG hB hgr HW0 HBx HU HLong
      have hgz := HGz.out
      rw [← HPp.out] at hgz
      by_cases hp0 : p = 0
      · have hMe : M = q := hgz.1 hp0
        subst hMe
        subst hp0
        have hcm : IntKind.u64.wrap (M : Int) = (M : Int) := by rw [IntKind.wrap_u64]; omega
        clear hgz
        go_wp2
        go_ret
        exact ⟨rfl, HW2.out.2.2⟩
      · have hMn : M ≠ q := fun h => hp0 (hgz.2 h)
        have hMl : (M : Int) < (q : Int) := by omega
        have hpz : ((p : Int) == 0) = false := by simpa using hp0
        have hpp : 0 < p := by omega
        obtain ⟨vs, hvs⟩ : ∃ v, v = sliced pa 1 p pc 32 := ⟨_, rfl⟩
        have HVs := Lib.hid (show ∀ W, (Instr.sliceAt 22 (.slice pa p pc) (some (.int .i64 1)) none none).run Tryd.prog W = .ok vs W from fun W => by rw [hvs]; exact slice_hs_from pa p pc 1 (by omega) W)
        have hsub := HU2.out.sub 1 p (by omega) (Nat.le_refl _)
        rw [List.take_of_length_le (by rw [← HPp.out]; exact Nat.le_refl _), ← hvs] at hsub
        have HShort := Lib.hid (fun (W : World) (hW : Below W2.heap.size W2 W) => HShort1.out vs W (hsub.below (Nat.le_refl _) hW) (HW2.out.2.2.trans (hW.mono HW2.out.2.2.size)))
        rw [HCs.out (by rw [← HPp.out]; exact hpp)] at HShort
        clear hvs hsub HShort1 HCs hgz hMn hp0
        obtain ⟨W0, rfl⟩ : ∃ W0 : World, W0 = W2 := ⟨_, rfl⟩
        have HW0 := Lib.hid HW2.out
        go_upto_region 16 with fail
        have hG : ∀ W W' : World, Below W0.heap.size W0 W → Below W.heap.size W W' → Below W0.heap.size W0 W' := fun W W' h h' => h.trans (h'.mono h.size)
        have hB : ∀ W : World, Below W0.heap.size W0 W → W0.heap.size ≤ W.heap.size := fun W h => h.size
        refine region_by [(16, var32F W0.heap.size), (17, var32F W0.heap.size), (83, .is (.int .i64 n)), (84, .is (.int .i64 (M : Int))), (85, .is (.int .u64 (M : Int))), (86, .is (.int .u64 (q : Int))), (87, .is (.agg (bs O))), (88, .is (.slice pa p pc)), (89, .is vs), (90, .is (.tuple #[.agg (bs z32), .agg (bs z32), .int .i64 2])), (82, .is (.tuple #[.agg (bs z32), .agg (bs z32), .int .i64 2])), (91, .is (.agg (bs z32))), (92, .is (.agg (bs z32))), (93, .is (.int .i64 2)), (18, .is (.int .i64 2))] [0, 1, 2, 7, 9, 10, 11, 12, 18] (fun W => Below W0.heap.size W0 W) (by kernel_rfl) (by kernel_rfl) (by kernel_rfl) (by kernel_rfl) (by kernel_rfl) ((Below.refl _ _).drew) ?_ ?_
        · refine ⟨?c0, ?c1, ?c2, ?c3, ?c4, ?c5, ?c6, ?c7, ?c8, ?c9, ?c10, ?c11, ?c12, ?c13, ?c14, ?c15, ?c16, trivial⟩
          case c0 => exact ask_copy (guard_none rfl) (.tmp 0) (.inl rfl) (by intro k hk; cases hk; rfl)
          case c1 => exact ask_copy (guard_none rfl) (.tmp 2) (.inl rfl) (by intro k hk; cases hk; rfl)
          case c2 => exact ask_conv_iu (guard_none rfl) (.tmp 84) M (by omega) rfl rfl (by intro k hk; cases hk; rfl)
          case c3 => exact ask_copy (guard_none rfl) (.tmp 9) (.inl rfl) (by intro k hk; cases hk; rfl)
          case c4 => exact ask_load (guard_none rfl) _ (.tmp 10) (.pointer (some ⟨g1, 0, none⟩)) (.agg (bs O)) rfl rfl (by intro k hk; cases hk; rfl) (fun W hW => (HW0.out.keep hW).2.1.loads 30 _ Tryd.underlying30 rfl HSO.out)
          case c5 => exact ask_copy (guard_none rfl) (.tmp 11) (.inl rfl) (by intro k hk; cases hk; rfl)
          case c6 => exact ask_slice (guard_none rfl) 22 (.tmp 88) (some (.const (.int .i64 1))) none none (.slice pa p pc) vs (some (.int .i64 1)) none none rfl rfl rfl rfl rfl (by intro k hk; cases hk; rfl) HVs.out
          case c7 => exact ask_call hG (guard_none rfl) _ _ _ #[.int .i64 n, .int .u64 (M : Int), .int .u64 (q : Int), .agg (bs O), vs] (.is (.tuple #[.agg (bs z32), .agg (bs z32), .int .i64 2])) rfl (by kernel_rfl) rfl rfl (by intro k hk; cases hk; rfl) (fun W hW => (HShort.out W hW).mono fun e w' h => ⟨_, h.1, rfl, h.2⟩)
          case c8 => exact ask_copy (guard_none rfl) (.tmp 90) (.inl rfl) (by intro k hk; cases hk; rfl)
          case c9 => exact ask_exec (guard_none rfl) (.agg (bs z32)) rfl rfl (by intro k hk; cases hk; rfl) (fun W hW => rfl)
          case c10 => exact ask_exec (guard_none rfl) (.agg (bs z32)) rfl rfl (by intro k hk; cases hk; rfl) (fun W hW => rfl)
          case c11 => exact ask_exec (guard_none rfl) (.int .i64 2) rfl rfl (by intro k hk; cases hk; rfl) (fun W hW => rfl)
          case c12 => exact ask_alloc hG (guard_none rfl) _ (.agg (bs (List.replicate 32 0))) (var32F W0.heap.size) rfl (fun W => by kernel_rfl) (by intro k hk; cases hk; rfl) (fun W hW => ⟨_, _, rfl, hB W hW, Blk.new W _ _, rfl⟩)
          case c13 => exact ask_alloc hG (guard_none rfl) _ (.agg (bs (List.replicate 32 0))) (var32F W0.heap.size) rfl (fun W => by kernel_rfl) (by intro k hk; cases hk; rfl) (fun W hW => ⟨_, _, rfl, hB W hW, Blk.new W _ _, rfl⟩)
          case c14 =>
            intro X W hW hk
            obtain ⟨gs, zs, e1, e2, e3, e30⟩ : ∃ gs zs, X 16 = .pointer (some ⟨gs, 0, none⟩) ∧ W0.heap.size ≤ gs ∧ Blk W gs 30 zs ∧ zs.size = 32 := hk 16 rfl
            have e4 : X 91 = .agg (bs z32) := hk 91 rfl
            refine ⟨guard_ok (guard_none rfl) hk, gives_store 30 (.tmp 16) (.tmp 91) rfl (.pointer (some ⟨gs, 0, none⟩)) (.agg (bs z32)) e1 e4 (e3.stores 30 _ HSz.out (by rw [e30]; rfl) (bs_one _)) ⟨below_setRow hW gs _ e2, fun k u _ hlv hu => ?_, fun k hk => by cases hk⟩⟩
            by_cases hv0 : k = 16
            · subst hv0
              obtain ⟨g2, zs2, q1, q2, q3, q4⟩ : ∃ g2 zs2, u = .pointer (some ⟨g2, 0, none⟩) ∧ W0.heap.size ≤ g2 ∧ Blk W g2 30 zs2 ∧ zs2.size = 32 := hu
              by_cases hgg : g2 = gs
              · subst hgg
                exact ⟨g2, _, q1, q2, q3.row _, rfl⟩
              · exact ⟨g2, zs2, q1, q2, q3.rowOther _ hgg, q4⟩
            by_cases hv1 : k = 17
            · subst hv1
              obtain ⟨g2, zs2, q1, q2, q3, q4⟩ : ∃ g2 zs2, u = .pointer (some ⟨g2, 0, none⟩) ∧ W0.heap.size ≤ g2 ∧ Blk W g2 30 zs2 ∧ zs2.size = 32 := hu
              by_cases hgg : g2 = gs
              · subst hgg
                exact ⟨g2, _, q1, q2, q3.row _, rfl⟩
              · exact ⟨g2, zs2, q1, q2, q3.rowOther _ hgg, q4⟩
            simp only [factsOf_ne hv0, factsOf_ne hv1] at hu ⊢
            refine facts_keep (fun q hq u hu => ?_) k _ hu
            simp only [List.mem_cons, List.not_mem_nil, or_false] at hq
            rcases hq with rfl | rfl | rfl | rfl | rfl | rfl | rfl | rfl | rfl | rfl | rfl | rfl | rfl
            all_goals exact hu
          case c15 =>
            intro X W hW hk
            obtain ⟨gs, zs, e1, e2, e3, e30⟩ : ∃ gs zs, X 17 = .pointer (some ⟨gs, 0, none⟩) ∧ W0.heap.size ≤ gs ∧ Blk W gs 30 zs ∧ zs.size = 32 := hk 17 rfl
            have e4 : X 92 = .agg (bs z32) := hk 92 rfl
            refine ⟨guard_ok (guard_none rfl) hk, gives_store 30 (.tmp 17) (.tmp 92) rfl (.pointer (some ⟨gs, 0, none⟩)) (.agg (bs z32)) e1 e4 (e3.stores 30 _ HSz.out (by rw [e30]; rfl) (bs_one _)) ⟨below_setRow hW gs _ e2, fun k u _ hlv hu => ?_, fun k hk => by cases hk⟩⟩
            by_cases hv0 : k = 16
            · subst hv0
              obtain ⟨g2, zs2, q1, q2, q3, q4⟩ : ∃ g2 zs2, u = .pointer (some ⟨g2, 0, none⟩) ∧ W0.heap.size ≤ g2 ∧ Blk W g2 30 zs2 ∧ zs2.size = 32 := hu
              by_cases hgg : g2 = gs
              · subst hgg
                exact ⟨g2, _, q1, q2, q3.row _, rfl⟩
              · exact ⟨g2, zs2, q1, q2, q3.rowOther _ hgg, q4⟩
            by_cases hv1 : k = 17
            · subst hv1
              obtain ⟨g2, zs2, q1, q2, q3, q4⟩ : ∃ g2 zs2, u = .pointer (some ⟨g2, 0, none⟩) ∧ W0.heap.size ≤ g2 ∧ Blk W g2 30 zs2 ∧ zs2.size = 32 := hu
              by_cases hgg : g2 = gs
              · subst hgg
                exact ⟨g2, _, q1, q2, q3.row _, rfl⟩
              · exact ⟨g2, zs2, q1, q2, q3.rowOther _ hgg, q4⟩
            simp only [factsOf_ne hv0, factsOf_ne hv1] at hu ⊢
            refine facts_keep (fun q hq u hu => ?_) k _ hu
            simp only [List.mem_cons, List.not_mem_nil, or_false] at hq
            rcases hq with rfl | rfl | rfl | rfl | rfl | rfl | rfl | rfl | rfl | rfl | rfl | rfl | rfl
            all_goals exact hu
          case c16 => exact ask_copy (guard_none rfl) (.tmp 93) (.inr rfl) (by intro k hk; cases hk; rfl)
        intro a' W2 hW hd' hs' hf'
        have t0 : a'.tmps.getD 0 undef = .int .i64 n := hf' 0 rfl
        have t1 : a'.tmps.getD 1 undef = .slice a q c := hf' 1 rfl
        have t2 : a'.tmps.getD 2 undef = .int .i64 (M : Int) := hf' 2 rfl
        have t7 : a'.tmps.getD 7 undef = .pointer (some ⟨w.heap.size, 0, none⟩) := hf' 7 rfl
        have t9 : a'.tmps.getD 9 undef = .int .u64 (q : Int) := hf' 9 rfl
        have t10 : a'.tmps.getD 10 undef = .pointer (some ⟨g1, 0, none⟩) := hf' 10 rfl
        have t11 : a'.tmps.getD 11 undef = .slice pa p pc := hf' 11 rfl
        have t12 : a'.tmps.getD 12 undef = .int .i64 0 := hf' 12 rfl
        have t18 : a'.tmps.getD 18 undef = .int .i64 2 := hf' 18 rfl
        obtain ⟨us', hus, ha'⟩ := act_open 102 a' hs' hd'
        rw [← hus] at t0 t1 t2 t7 t9 t10 t11 t12 t18
        have el : ((List.range 102).map us').toArray = #[.int .i64 n, .slice a q c, .int .i64 (M : Int), us' 3, us' 4, us' 5, us' 6, .pointer (some ⟨w.heap.size, 0, none⟩), us' 8, .int .u64 (q : Int), .pointer (some ⟨g1, 0, none⟩), .slice pa p pc, .int .i64 0, us' 13, us' 14, us' 15, us' 16, us' 17, .int .i64 2, us' 19, us' 20, us' 21, us' 22, us' 23, us' 24, us' 25, us' 26, us' 27, us' 28, us' 29, us' 30, us' 31, us' 32, us' 33, us' 34, us' 35, us' 36, us' 37, us' 38, us' 39, us' 40, us' 41, us' 42, us' 43, us' 44, us' 45, us' 46, us' 47, us' 48, us' 49, us' 50, us' 51, us' 52, us' 53, us' 54, us' 55, us' 56, us' 57, us' 58, us' 59, us' 60, us' 61, us' 62, us' 63, us' 64, us' 65, us' 66, us' 67, us' 68, us' 69, us' 70, us' 71, us' 72, us' 73, us' 74, us' 75, us' 76, us' 77, us' 78, us' 79, us' 80, us' 81, us' 82, us' 83, us' 84, us' 85, us' 86, us' 87, us' 88, us' 89, us' 90, us' 91, us' 92, us' 93, us' 94, us' 95, us' 96, us' 97, us' 98, us' 99, us' 100, us' 101] := by
          show #[us' 0, us' 1, us' 2, us' 3, us' 4, us' 5, us' 6, us' 7, us' 8, us' 9, us' 10, us' 11, us' 12, us' 13, us' 14, us' 15, us' 16, us' 17, us' 18, us' 19, us' 20, us' 21, us' 22, us' 23, us' 24, us' 25, us' 26, us' 27, us' 28, us' 29, us' 30, us' 31, us' 32, us' 33, us' 34, us' 35, us' 36, us' 37, us' 38, us' 39, us' 40, us' 41, us' 42, us' 43, us' 44, us' 45, us' 46, us' 47, us' 48, us' 49, us' 50, us' 51, us' 52, us' 53, us' 54, us' 55, us' 56, us' 57, us' 58, us' 59, us' 60, us' 61, us' 62, us' 63, us' 64, us' 65, us' 66, us' 67, us' 68, us' 69, us' 70, us' 71, us' 72, us' 73, us' 74, us' 75, us' 76, us' 77, us' 78, us' 79, us' 80, us' 81, us' 82, us' 83, us' 84, us' 85, us' 86, us' 87, us' 88, us' 89, us' 90, us' 91, us' 92, us' 93, us' 94, us' 95, us' 96, us' 97, us' 98, us' 99, us' 100, us' 101] = _
          rw [t0, t1, t2, t7, t9, t10, t11, t12, t18]
        rw [el] at ha'
        subst ha'
        clear hus t0 t1 t2 t7 t9 t10 t11 t12 t18 el hf' hs' hd'
        have HB3 := Lib.hid (HW0.out.2.2.trans (hW.mono HW0.out.2.2.size))
        clear hW hG hB HW0 HW2 HU2 HShort HVs
        have HCm := Lib.hid (show IntKind.u64.wrap (M : Int) = (M : Int) by rw [IntKind.wrap_u64]; omega)
        go_wp2
        go_ret
        exact ⟨rfl, HB3.out⟩
end Go.Proofs.YtdhfabjkpffhnabDoor

