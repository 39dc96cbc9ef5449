/- LeafRoots: the walk. -/
import Derived.Test.YtdhfabjkpffhnaaDoorLeafSpecJ
namespace Go.Proofs.YtdhfabjkpffhnaaDoor
set_option maxRecDepth 20000
open Go.RowKit ShaMath LeafMath Reg

/-- append onto a literal that was just made. -/
theorem lit_below {w W1 W2 : World} {o : Obj} (hb : Below w.heap.size w W1) (hg : (W1.alloc o).grownBy W2 (Value.slice (some ⟨W1.heap.size, 0, none⟩) 0 0).ownBlock) : Below w.heap.size w W2 := by
  have hs := hb.size
  have h1 : Below w.heap.size w (W1.alloc o) := hb.alloc hs _
  refine h1.trans (((Below.refl w.heap.size _).grown hg (by simp; omega) fun k hk => ?_).mono (Nat.le_refl _))
  have e : W1.heap.size = k := by simpa [Value.ownBlock] using hk
  omega

set_option maxHeartbeats 1000000 in
set_option maxRecDepth 100000 in
theorem leafRoots_walk (hp : LeafProg) (hdp : DataProg) (n : Int) (hn : I64 n) (hs : List Hs) (v : Value) (w : World) (hv : Hss w v hs) (ht : Tabs w) (hk : Consts w) :
    Calls Tryd.prog 4 #[.int .i64 n, v] w fun e w' => e = .returned (.bool true) ∧ Below w.heap.size w w' := by
  obtain ⟨a, c, rfl, hc⟩ := hv.form
  obtain ⟨m, hm⟩ : ∃ m, m = hs.length := ⟨_, rfl⟩
  rw [← hm] at hv hc ⊢
  have HT := Lib.hid ht
  have HK := Lib.hid hk
  have HP := Lib.hid hp
  have HDt := Lib.hid hdp
  have HN := Lib.hid hn
  by_cases h300 : 300 < m
  · have hv2 : Hss w (.slice a 300 c) (hs.take 300) := by
      have := hv.sub 0 300 (by omega) (by omega)
      rw [sliced_zero] at this
      simpa using this
    have hl2 : (hs.take 300).length = 300 := by rw [List.length_take]; omega
    have hsl : ∀ W, (Instr.sliceAt 30 (.slice a m c) none (some (.int .i64 300)) none).run Tryd.prog W = .ok (.slice a 300 c) W := fun W => by
      have := slice_hs_to a m c 300 (by omega) W
      rwa [sliced_zero] at this
    obtain ⟨hs2, hhs2⟩ : ∃ h, h = hs.take 300 := ⟨_, rfl⟩
    rw [← hhs2] at hv2 hl2
    have HV := Lib.hid hv2
    have HL := Lib.hid hl2
    have HSl := Lib.hid hsl
    clear hv hv2 hl2 hsl hhs2 hm ht hk hp hdp hn
    go_enter Tryd.func4, Tryd.ntmps4
    go_wp2_with fail
    refine (awake14_any HP.out HDt.out _ HT.out).mono ?_
    rintro e W1 ⟨rfl, hb1⟩
    have hb0 : Below W1.heap.size W1 (W1.alloc (.cells #[] 24)) := (Below.refl _ _).alloc (Nat.le_refl _) _
    have A1 := Lib.hid (append_hs (B := w.heap.size) (by have := hb1.size; simp; omega) (ohs_empty W1 w.heap.size hb1.size) ((HV.out.below (Nat.le_refl _) hb1).below (Nat.le_refl _) hb0) (by rw [HL.out]; simp))
    have HB1 := Lib.hid hb1
    have HB0 := Lib.hid hb0
    clear hb1 hb0
    have hsl := HSl.out
    go_upto_region 6 with (at_builtin; refine wpList_append_by rfl (.tmp 13) (.tmp 14) 30 rfl _ _ rfl rfl _ A1.out ?_; rintro v5 W2 ⟨hr5, hb2⟩; (have HR5 := Lib.hid hr5); (have HB2 := Lib.hid hb2); clear hr5 hb2)
    have hr := HR5.out
    rw [List.nil_append] at hr
    have hbel : Below w.heap.size w W2 := lit_below HB1.out HB2.out
    obtain ⟨a5, c5, rfl, _⟩ := hr.hss.form
    obtain ⟨X, hX, hX32⟩ : ∃ X, X = rootH n hs2 ∧ X.length = 32 := ⟨_, rfl, rootH_length _ _ hr.1⟩
    have HSelf := Lib.hid hr.hss
    have HV2 := Lib.hid (HV.out.below (Nat.le_refl _) hbel)
    have H1 := Lib.hid (HP.out.root n hs2 _ W2 HN.out hr.hss (by rw [HL.out]; omega) (HT.out.below (Nat.le_refl _) hbel))
    have H2 := Lib.hid (fun (W : World) (hW : Below W2.heap.size W2 W) => refroot_any n HN.out _ hs2 (.slice a 300 c) W HL.out (HV2.out.below (Nat.le_refl _) hW) (by omega) ((HK.out.below (Nat.le_refl _) hbel).below (Nat.le_refl _) hW))
    have H3 := Lib.hid (fun (W : World) (hW : Below W2.heap.size W2 W) => refhashes_any _ _ hs2 hs2 W (HSelf.out.below (Nat.le_refl _) hW) (HV2.out.below (Nat.le_refl _) hW) (by rw [HL.out]; omega) (by rw [HL.out]; omega))
    rw [← hX] at H1 H2
    simp only [decide_true] at H3
    obtain ⟨cx, hcx, _, _⟩ := hash_cells X hX32
    have HEq := Lib.hid (fun W => eq_same W X hX32)
    rw [← hcx] at H1 H2 HEq
    have HB := Lib.hid hbel
    clear hr hbel hX hX32 hcx A1 HB0 HB1 HB2 HR5
    go_wp2_with fail
    refine H1.out.mono ?_
    rintro e W3 ⟨rfl, hb3⟩
    have HB3 := Lib.hid hb3
    clear hb3 H1
    go_wp2_with fail
    refine (H2.out _ HB3.out).mono ?_
    rintro e W4 ⟨rfl, hb4⟩
    have HB4 := Lib.hid (HB3.out.trans (hb4.mono HB3.out.size))
    have heq := HEq.out
    clear hb4 H2 HB3
    go_wp2_with fail
    clear heq
    refine (H3.out _ HB4.out).mono ?_
    rintro e W5 ⟨rfl, hb5⟩
    have HB5 := Lib.hid (HB4.out.trans (hb5.mono HB4.out.size))
    clear hb5 H3 HB4
    go_wp2
    go_ret
    exact ⟨rfl, HB.out.trans (HB5.out.mono HB.out.size)⟩
  · have HV := Lib.hid hv
    have HL := Lib.hid hm.symm
    have hm300 : m ≤ 300 := by omega
    clear hv hm ht hk hp hdp hn
    go_enter Tryd.func4, Tryd.ntmps4
    go_wp2_with fail
    refine (awake14_any HP.out HDt.out _ HT.out).mono ?_
    rintro e W1 ⟨rfl, hb1⟩
    have hb0 : Below W1.heap.size W1 (W1.alloc (.cells #[] 24)) := (Below.refl _ _).alloc (Nat.le_refl _) _
    have A1 := Lib.hid (append_hs (B := w.heap.size) (by have := hb1.size; simp; omega) (ohs_empty W1 w.heap.size hb1.size) ((HV.out.below (Nat.le_refl _) hb1).below (Nat.le_refl _) hb0) (by rw [HL.out]; simp; omega))
    have HB1 := Lib.hid hb1
    have HB0 := Lib.hid hb0
    clear hb1 hb0
    go_upto_region 6 with (at_builtin; refine wpList_append_by rfl (.tmp 13) (.tmp 14) 30 rfl _ _ rfl rfl _ A1.out ?_; rintro v5 W2 ⟨hr5, hb2⟩; (have HR5 := Lib.hid hr5); (have HB2 := Lib.hid hb2); clear hr5 hb2)
    have hr := HR5.out
    rw [List.nil_append] at hr
    have hbel : Below w.heap.size w W2 := lit_below HB1.out HB2.out
    obtain ⟨a5, c5, rfl, _⟩ := hr.hss.form
    obtain ⟨X, hX, hX32⟩ : ∃ X, X = rootH n hs ∧ X.length = 32 := ⟨_, rfl, rootH_length _ _ hr.1⟩
    have HSelf := Lib.hid hr.hss
    have HV2 := Lib.hid (HV.out.below (Nat.le_refl _) hbel)
    have H1 := Lib.hid (HP.out.root n hs _ W2 HN.out hr.hss (by rw [HL.out]; omega) (HT.out.below (Nat.le_refl _) hbel))
    have H2 := Lib.hid (fun (W : World) (hW : Below W2.heap.size W2 W) => refroot_any n HN.out _ hs (.slice a m c) W HL.out (HV2.out.below (Nat.le_refl _) hW) (by omega) ((HK.out.below (Nat.le_refl _) hbel).below (Nat.le_refl _) hW))
    have H3 := Lib.hid (fun (W : World) (hW : Below W2.heap.size W2 W) => refhashes_any _ _ hs hs W (HSelf.out.below (Nat.le_refl _) hW) (HV2.out.below (Nat.le_refl _) hW) (by rw [HL.out]; omega) (by rw [HL.out]; omega))
    rw [← hX] at H1 H2
    simp only [decide_true] at H3
    obtain ⟨cx, hcx, _, _⟩ := hash_cells X hX32
    have HEq := Lib.hid (fun W => eq_same W X hX32)
    rw [← hcx] at H1 H2 HEq
    have HB := Lib.hid hbel
    clear hr hbel hX hX32 hcx A1 HB0 HB1 HB2 HR5
    go_wp2_with fail
    refine H1.out.mono ?_
    rintro e W3 ⟨rfl, hb3⟩
    have HB3 := Lib.hid hb3
    clear hb3 H1
    go_wp2_with fail
    refine (H2.out _ HB3.out).mono ?_
    rintro e W4 ⟨rfl, hb4⟩
    have HB4 := Lib.hid (HB3.out.trans (hb4.mono HB3.out.size))
    have heq := HEq.out
    clear hb4 H2 HB3
    go_wp2_with fail
    clear heq
    refine (H3.out _ HB4.out).mono ?_
    rintro e W5 ⟨rfl, hb5⟩
    have HB5 := Lib.hid (HB4.out.trans (hb5.mono HB4.out.size))
    clear hb5 H3 HB4
    go_wp2
    go_ret
    exact ⟨rfl, HB.out.trans (HB5.out.mono HB.out.size)⟩
end Go.Proofs.YtdhfabjkpffhnaaDoor

