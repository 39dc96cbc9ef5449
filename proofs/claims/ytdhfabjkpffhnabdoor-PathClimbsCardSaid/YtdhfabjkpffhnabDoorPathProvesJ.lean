/- PathProves: the walk. -/
import Derived.Test.YtdhfabjkpffhnabDoorPathSpecJ
import Derived.Test.YtdhfabjkpffhnabDoorLeafRootsJ
namespace Go.Proofs.YtdhfabjkpffhnabDoor
set_option maxRecDepth 20000
open Go.RowKit ShaMath LeafMath PathMath Reg

theorem proveR_64 (n : Int) (hs : List Hs) (i N : Int) (hl : hs.length ≤ 1000000) : (proveR n hs i N).1.length ≤ 64 := by
  unfold proveR
  split
  · simp
  · next h =>
    show (proveP n (hs.take N.toNat) i.toNat).length ≤ 64
    have ht : (hs.take N.toNat).length = N.toNat := by rw [List.length_take]; omega
    rw [proveP_length n N.toNat _ _ ht (by omega)]
    exact sizeP_64 _ _ (by omega)

set_option maxHeartbeats 1000000 in
set_option maxRecDepth 100000 in
theorem pathProves_walk (hp : PathProg) (hq : LeafProg) (n : Int) (hn : I64 n) (hs : List Hs) (v : Value) (i N : Int) (hi : I64 i) (hN : I64 N) (w : World) (hv : Hss w v hs) (ht : Tabs w) (hk : Consts w) :
    Calls Tryd.prog 3 #[.int .i64 n, v, .int .i64 i, .int .i64 N] w fun e w' => e = .returned (.bool true) ∧ Below w.heap.size w w' := by
  obtain ⟨a, c, rfl, hc⟩ := hv.form
  obtain ⟨m, hm⟩ : ∃ m, m = hs.length := ⟨_, rfl⟩
  rw [← hm] at hv hc ⊢
  have HT := Lib.hid ht
  have HK := Lib.hid hk
  have HP := Lib.hid hp
  have HQ := Lib.hid hq
  have HN := Lib.hid hn
  have HI := Lib.hid hi
  have HNN := Lib.hid hN
  by_cases h200 : 200 < m
  · have hv2 : Hss w (.slice a 200 c) (hs.take 200) := by
      have := hv.sub 0 200 (by omega) (by omega)
      rw [sliced_zero] at this
      simpa using this
    have hl2 : (hs.take 200).length = 200 := by rw [List.length_take]; omega
    have hsl : ∀ W, (Instr.sliceAt 22 (.slice a m c) none (some (.int .i64 200)) none).run Tryd.prog W = .ok (.slice a 200 c) W := fun W => by
      have := slice_hs_to a m c 200 (by omega) W
      rwa [sliced_zero] at this
    obtain ⟨hs2, hhs2⟩ : ∃ h, h = hs.take 200 := ⟨_, rfl⟩
    rw [← hhs2] at hv2 hl2
    have HV := Lib.hid hv2
    have HL := Lib.hid hl2
    have HSl := Lib.hid hsl
    have h200b : 200 < m := h200
    clear hv hv2 hl2 hsl hhs2 hm ht hk hp hq hn hi hN
    go_enter Tryd.func3, Tryd.ntmps3
    go_wp2_with fail
    refine (awake15_any HP.out HQ.out _ HT.out).mono ?_
    rintro e W1 ⟨rfl, hb1⟩
    have hb0 : Below W1.heap.size W1 (W1.alloc (.cells #[] 30)) := (Below.refl _ _).alloc (Nat.le_refl _) _
    have A1 := Lib.hid (append_hs (B := w.heap.size) (by have := hb1.size; simp; omega) (ohs_empty W1 w.heap.size hb1.size) ((HV.out.below (Nat.le_refl _) hb1).below (Nat.le_refl _) hb0) (by rw [HL.out]; simp))
    have HB1 := Lib.hid hb1
    clear hb1 hb0
    have hsl := HSl.out
    go_upto_region 6 with (at_builtin; refine wpList_append_by rfl (.tmp 21) (.tmp 22) 22 rfl _ _ rfl rfl _ A1.out ?_; rintro v5 W2 ⟨hr5, hb2⟩; (have HR5 := Lib.hid hr5); (have HB2 := Lib.hid hb2); clear hr5 hb2)
    have hr := HR5.out
    rw [List.nil_append] at hr
    have hbel : Below w.heap.size w W2 := lit_below HB1.out HB2.out
    have HSelf := Lib.hid hr.hss
    have HV2 := Lib.hid (HV.out.below (Nat.le_refl _) hbel)
    obtain ⟨P, hP⟩ : ∃ P, P = (proveR n hs2 i N).1 := ⟨_, rfl⟩
    obtain ⟨E, hE⟩ : ∃ E, E = (proveR n hs2 i N).2 := ⟨_, rfl⟩
    have hPl : P.length ≤ 64 := by rw [hP]; exact proveR_64 n hs2 i N (by rw [HL.out]; omega)
    have H1 := Lib.hid (HP.out.prove n hs2 i N v5 W2 HN.out HI.out HNN.out (by rw [HL.out]; omega) hr.hss (HT.out.below (Nat.le_refl _) hbel))
    have H2 := Lib.hid (fun (W : World) (hW : Below W2.heap.size W2 W) => refprove_any n HN.out hs2 i N (.slice a 200 c) W HI.out HNN.out (by rw [HL.out]; omega) (HV2.out.below (Nat.le_refl _) hW) ((HK.out.below (Nat.le_refl _) hbel).below (Nat.le_refl _) hW))
    have H4 := Lib.hid (fun (W : World) (hW : Below W2.heap.size W2 W) => refhashes_any _ _ hs2 hs2 W (HSelf.out.below (Nat.le_refl _) hW) (HV2.out.below (Nat.le_refl _) hW) (by rw [HL.out]; omega) (by rw [HL.out]; omega))
    rw [← hP, ← hE] at H1
    rw [← hP, ← hE] at H2
    simp only [decide_true] at H4
    have HB := Lib.hid hbel
    have HPl := Lib.hid hPl
    clear hr hbel A1 HB1 HB2 HR5 hP hE hPl
    go_wp2_with fail
    refine H1.out.mono ?_
    rintro e W3 ⟨u1, rfl, hu1, hb3⟩
    have HB3 := Lib.hid hb3
    have HU1 := Lib.hid hu1
    clear hb3 hu1 H1
    go_wp2_with fail
    refine (H2.out _ HB3.out).mono ?_
    rintro e W4 ⟨u2, rfl, hu2, hb4⟩
    have HB4 := Lib.hid (HB3.out.trans (hb4.mono HB3.out.size))
    have H3 := Lib.hid (refhashes_any u1 u2 P P W4 (HU1.out.below (Nat.le_refl _) hb4) hu2.hss (by have := HPl.out; omega) (by have := HPl.out; omega))
    simp only [decide_true] at H3
    clear hb4 hu2 H2 HB3 HU1
    go_wp2_with fail
    refine H3.out.mono ?_
    rintro e W5 ⟨rfl, hb5⟩
    have HB5 := Lib.hid (HB4.out.trans (hb5.mono HB4.out.size))
    clear hb5 H3 HB4
    go_wp2_with fail
    refine (H4.out _ HB5.out).mono ?_
    rintro e W6 ⟨rfl, hb6⟩
    have HB6 := Lib.hid (HB5.out.trans (hb6.mono HB5.out.size))
    clear hb6 H4 HB5
    go_wp2
    go_ret
    exact ⟨rfl, HB.out.trans (HB6.out.mono HB.out.size)⟩
  · have HV := Lib.hid hv
    have HL := Lib.hid hm.symm
    have hm200 : m ≤ 200 := by omega
    clear hv hm ht hk hp hq hn hi hN
    go_enter Tryd.func3, Tryd.ntmps3
    go_wp2_with fail
    refine (awake15_any HP.out HQ.out _ HT.out).mono ?_
    rintro e W1 ⟨rfl, hb1⟩
    have hb0 : Below W1.heap.size W1 (W1.alloc (.cells #[] 30)) := (Below.refl _ _).alloc (Nat.le_refl _) _
    have A1 := Lib.hid (append_hs (B := w.heap.size) (by have := hb1.size; simp; omega) (ohs_empty W1 w.heap.size hb1.size) ((HV.out.below (Nat.le_refl _) hb1).below (Nat.le_refl _) hb0) (by rw [HL.out]; simp; omega))
    have HB1 := Lib.hid hb1
    clear hb1 hb0
    go_upto_region 6 with (at_builtin; refine wpList_append_by rfl (.tmp 21) (.tmp 22) 22 rfl _ _ rfl rfl _ A1.out ?_; rintro v5 W2 ⟨hr5, hb2⟩; (have HR5 := Lib.hid hr5); (have HB2 := Lib.hid hb2); clear hr5 hb2)
    have hr := HR5.out
    rw [List.nil_append] at hr
    have hbel : Below w.heap.size w W2 := lit_below HB1.out HB2.out
    have HSelf := Lib.hid hr.hss
    have HV2 := Lib.hid (HV.out.below (Nat.le_refl _) hbel)
    obtain ⟨P, hP⟩ : ∃ P, P = (proveR n hs i N).1 := ⟨_, rfl⟩
    obtain ⟨E, hE⟩ : ∃ E, E = (proveR n hs i N).2 := ⟨_, rfl⟩
    have hPl : P.length ≤ 64 := by rw [hP]; exact proveR_64 n hs i N (by rw [HL.out]; omega)
    have H1 := Lib.hid (HP.out.prove n hs i N v5 W2 HN.out HI.out HNN.out (by rw [HL.out]; omega) hr.hss (HT.out.below (Nat.le_refl _) hbel))
    have H2 := Lib.hid (fun (W : World) (hW : Below W2.heap.size W2 W) => refprove_any n HN.out hs i N (.slice a m c) W HI.out HNN.out (by rw [HL.out]; omega) (HV2.out.below (Nat.le_refl _) hW) ((HK.out.below (Nat.le_refl _) hbel).below (Nat.le_refl _) hW))
    have H4 := Lib.hid (fun (W : World) (hW : Below W2.heap.size W2 W) => refhashes_any _ _ hs hs W (HSelf.out.below (Nat.le_refl _) hW) (HV2.out.below (Nat.le_refl _) hW) (by rw [HL.out]; omega) (by rw [HL.out]; omega))
    rw [← hP, ← hE] at H1
    rw [← hP, ← hE] at H2
    simp only [decide_true] at H4
    have HB := Lib.hid hbel
    have HPl := Lib.hid hPl
    clear hr hbel A1 HB1 HB2 HR5 hP hE hPl
    go_wp2_with fail
    refine H1.out.mono ?_
    rintro e W3 ⟨u1, rfl, hu1, hb3⟩
    have HB3 := Lib.hid hb3
    have HU1 := Lib.hid hu1
    clear hb3 hu1 H1
    go_wp2_with fail
    refine (H2.out _ HB3.out).mono ?_
    rintro e W4 ⟨u2, rfl, hu2, hb4⟩
    have HB4 := Lib.hid (HB3.out.trans (hb4.mono HB3.out.size))
    have H3 := Lib.hid (refhashes_any u1 u2 P P W4 (HU1.out.below (Nat.le_refl _) hb4) hu2.hss (by have := HPl.out; omega) (by have := HPl.out; omega))
    simp only [decide_true] at H3
    clear hb4 hu2 H2 HB3 HU1
    go_wp2_with fail
    refine H3.out.mono ?_
    rintro e W5 ⟨rfl, hb5⟩
    have HB5 := Lib.hid (HB4.out.trans (hb5.mono HB4.out.size))
    clear hb5 H3 HB4
    go_wp2_with fail
    refine (H4.out _ HB5.out).mono ?_
    rintro e W6 ⟨rfl, hb6⟩
    have HB6 := Lib.hid (HB5.out.trans (hb6.mono HB5.out.size))
    clear hb6 H4 HB5
    go_wp2
    go_ret
    exact ⟨rfl, HB.out.trans (HB6.out.mono HB.out.size)⟩
end Go.Proofs.YtdhfabjkpffhnabDoor

