/- Joined: LeafGrows, LeafGrowsBig, RngLast. -/
import Derived.Test.YtdhfabjkpffhnaaDoorJS
import Derived.Test.YtdhfabjkpffhnaaDoorJP
import Derived.Test.YtdhfabjkpffhnaaDoorLeafAllJ
import Derived.Test.YtdhfabjkpffhnaaDoorKC
/- LeafGrows: the walk. -/
namespace Go.Proofs.YtdhfabjkpffhnaaDoor
set_option maxRecDepth 20000
open Go.RowKit ShaMath LeafMath Reg

/-- Between two leaves: i are pushed. -/
def GrAt (n : Int) (hs : List Hs) (w : World) (g : Nat) (s : Value) (wr : World) : Prop :=
  ∃ (i : Nat) (pa : Option Addr) (p pc : Nat), i ≤ hs.length ∧ s = .int .i64 (i : Int) ∧ Blk wr g 36 (rngC i (.slice pa p pc)) ∧ Hss wr (.slice pa p pc) (peaks n (hs.take i)) ∧ Below w.heap.size w wr

/-- In the midst of the peaks: t leaves stand under the first k. -/
def Gr2At (n : Int) (hs : List Hs) (i : Nat) (Pk : List Hs) (W0 : World) (s9 s10 : Value) (wr : World) : Prop :=
  ∃ t k : Nat, t ≤ i ∧ k ≤ Pk.length ∧ s9 = .int .i64 (t : Int) ∧ s10 = .int .i64 (k : Int) ∧ Pk.drop k = peaks n ((hs.take i).drop t) ∧ Below W0.heap.size W0 wr
def Gr3At (d : Nat) (w2 : World) (s : Value) (wr : World) : Prop := ∃ q j : Nat, q = 2 ^ j ∧ q ≤ d ∧ s = .int .i64 (q : Int) ∧ wr = w2
/-- The other range's peaks are written over: k of them. -/
def Gr4At (i : Nat) (w : World) (g5 g12 g14 go on oc : Nat) (na : Option Addr) (nn nc S1 : Nat) (Q1 : List Hs) (B : Nat) (pa : Option Addr) (p pc : Nat) (s : Value) (wr : World) : Prop :=
  ∃ (k : Nat) (cur : Array Value), k ≤ on ∧ s = .int .i64 (k : Int) ∧ Blk wr go 24 cur ∧ cur.size = oc * 32 ∧ Blk wr g12 36 (rngC S1 (.slice (some ⟨go, 0, none⟩) on oc)) ∧ Blk wr g14 36 (rngC S1 (.slice na nn nc)) ∧
    OHs wr B (.slice na nn nc) Q1 ∧ Blk wr g5 36 (rngC i (.slice pa p pc)) ∧ Below w.heap.size w wr
theorem ones_pos : ∀ (m : Nat), 0 < m → 0 < ones m := by
  intro m
  induction m using Nat.strongRecOn with
  | ind m ih =>
    intro h
    rw [ones_more]
    by_cases h1 : m % 2 = 1
    · omega
    · have := ih (m / 2) (by omega) (by omega)
      omega

set_option maxHeartbeats 8000000 in
set_option maxRecDepth 100000 in
theorem leafGrows_small (hp : LeafProg) (hdp : DataProg) (hrng : RngProg) (n : Int) (hn : I64 n) (hs0 : List Hs) (a : Option Addr) (m c : Nat) (w : World) (hv0 : Hss w (.slice a m c) hs0) (hm : m = hs0.length) (hmc : m ≤ c) (h70 : m ≤ 70) (ht : Tabs w) (hbu : Bru w) :
    Calls Tryd.prog 6 #[.int .i64 n, .slice a m c] w fun e w' => e = .returned (.bool true) ∧ Below w.heap.size w w' := by
  obtain ⟨hs, hhs⟩ : ∃ h, h = hs0 := ⟨_, rfl⟩
  have hv : Hss w (.slice a m c) hs := by rw [hhs]; exact hv0
  obtain ⟨M, hM⟩ : ∃ M, M = hs.length := ⟨_, rfl⟩
  obtain rfl : m = M := by rw [hm, hM, hhs]
  have hmc' := hmc
  have hM70 : m ≤ 70 := by omega
  have HV := Lib.hid hv
  have HM := Lib.hid hM
  have HT := Lib.hid ht
  have HP := Lib.hid hp
  have HDt := Lib.hid hdp
  have HRng := Lib.hid hrng
  have HBu := Lib.hid hbu
  have HN := Lib.hid hn
  clear hv hM ht hp hdp hrng hbu hn hv0 hm hhs
  go_enter Tryd.func6, Tryd.ntmps6
  go_wp2_with fail
  refine (awake14_any HP.out HDt.out _ HT.out).mono ?_
  rintro e W1 ⟨rfl, hb1⟩
  have HB1 := Lib.hid hb1
  clear hb1
  go_upto_region 6 with fail
  obtain ⟨g5, hg5⟩ : ∃ g, g = W1.heap.size := ⟨_, rfl⟩
  have hge5 : w.heap.size ≤ g5 := by rw [hg5]; exact HB1.out.size
  refine world_cut (fun W => Blk W g5 36 (rngC 0 (.slice none 0 0)) ∧ Below w.heap.size w W) ⟨by rw [hg5]; exact Blk.new W1 _ _, HB1.out.alloc HB1.out.size _⟩ ?_
  rw [← hg5]
  have HG5 := Lib.hid hge5
  clear hg5 hge5 HB1
  rintro W2 ⟨hb5, hbw⟩
  have hstart : GrAt n hs w g5 (.int .i64 0) W2 := ⟨0, none, 0, 0, Nat.zero_le _, rfl, hb5, by rw [List.take_zero, peaks_nil]; exact Hss.none _, hbw⟩
  have HStart := Lib.hid hstart
  clear hstart hb5 hbw
  go_wp2
  go_loopw [6] (fun s6 wr => GrAt n hs w g5 s6 wr) (fun s6 _ => m + 1 - (intOf s6).toNat)
  case atStart => exact HStart.out
  case round =>
    obtain ⟨i, pa, p, pc, hi, rfl, hb5, hpk, hbw⟩ := hrel
    have hiM : i ≤ m := by have := HM.out; omega
    obtain ⟨Pk, hPk⟩ : ∃ Pk, Pk = peaks n (hs.take i) := ⟨_, rfl⟩
    have htl : (hs.take i).length = i := by rw [List.length_take]; omega
    have hPl : Pk.length = ones i := by rw [hPk, peaks_length n _ _ rfl, htl]
    rw [← hPk] at hpk
    have hpp : p = Pk.length := by
      obtain ⟨a', c', e, _⟩ := hpk.form
      cases e
      rfl
    have hpl64 : p ≤ 64 := by rw [hpp, hPl]; exact ones_64 i (by omega)
    have h32 : All32 (hs.take i) := HV.out.all.take i
    obtain ⟨X, hX, hX32⟩ : ∃ X, X = rootH n (hs.take i) ∧ X.length = 32 := ⟨_, rfl, rootH_length _ _ h32⟩
    have hpeakR : peakR n i Pk = (X, 0) := by rw [peakR, if_pos hPl, hPk, peakF_peaks n _ _ rfl, hX]
    have HBw := Lib.hid hbw
    have HF5w := Lib.hid hb5
    have HPkw := Lib.hid hpk
    have HXd := Lib.hid hX
    have HX := Lib.hid hX32
    have HSX := Lib.hid (size_hash (cs := bs X) (by rw [bs_size, hX32]))
    have HPk := Lib.hid hPk
    have HPl := Lib.hid hPl
    have HPp := Lib.hid hpp
    have H32 := Lib.hid h32
    have HTl := Lib.hid htl
    have HPeak := Lib.hid (HRng.out.peak n i (.slice pa p pc) Pk wr HN.out hpk (by omega) (by rw [← hpp]; omega) (HT.out.below (Nat.le_refl _) hbw))
    rw [hpeakR] at HPeak
    clear hi hb5 hpk hbw hPk htl hPl hpp h32 hX hX32 hpeakR HStart
    go_wp2_with (refine wpList_load_row rfl 36 (.tmp 5) rfl g5 rfl 36 (rngC i (.slice pa p pc)) (0, 0) _ HF5w.out Tryd.underlying36 rfl (size_rng _ _) ?_)
    refine HPeak.out.mono ?_
    rintro e Y3 ⟨rfl, hb⟩
    have HB := Lib.hid hb
    clear hb HPeak
    go_upto_region 10 with (refine wpList_store_row rfl 24 (.tmp 7) (.tmp 34) rfl Y3.heap.size (bs X) rfl rfl 24 _ (Blk.new Y3 _ _) HSX.out (by rw [bs_size, HX.out]; rfl) (bs_one _) ?_)
    obtain ⟨g7, hg7⟩ : ∃ g, g = Y3.heap.size := ⟨_, rfl⟩
    have hnew := fun zs cs => HB.out.trans ((below_new Y3 zs cs 24).mono HB.out.size)
    refine world_cut (fun W => Blk W g7 24 (bs X) ∧ Below wr.heap.size wr W) ⟨by rw [hg7]; exact Blk.row (Blk.new Y3 _ _) _, hnew _ _⟩ ?_
    rw [← hg7]
    clear hg7 hnew HB
    rintro W0 ⟨h7, hb⟩
    have HF7 := Lib.hid h7
    have HF5 := Lib.hid (HF5w.out.keep hb)
    have HPkk := Lib.hid (HPkw.out.below (Nat.le_refl _) hb)
    have HBx := Lib.hid (HBw.out.trans (hb.mono HBw.out.size))
    clear h7 hb HF5w HPkw HBw
    obtain ⟨wo, rfl⟩ : ∃ wo : World, wo = wr := ⟨_, rfl⟩
    have HVi := Lib.hid (show Hss w (.slice a i c) (hs.take i) by
      have := HV.out.sub 0 i (by omega) hiM
      rw [sliced_zero] at this
      simpa using this)
    have PRoot := Lib.hid (fun (W : World) (hW : Below W0.heap.size W0 W) => HP.out.root n (hs.take i) (.slice a i c) W HN.out (HVi.out.below (Nat.le_refl _) (HBx.out.trans (hW.mono HBx.out.size))) (by rw [HTl.out]; omega) (HT.out.below (Nat.le_refl _) (HBx.out.trans (hW.mono HBx.out.size))))
    rw [← HXd.out] at PRoot
    have PRight := Lib.hid (fun (W : World) (_ : Below W0.heap.size W0 W) => HRng.out.right i p pc pa W (by omega))
    rw [show decide (p = ones i) = true by rw [HPp.out, HPl.out]; simp] at PRight
    have HSl := Lib.hid (fun (W : World) => show (Instr.sliceAt 30 (.slice a m c) none (some (.int .i64 (i : Int))) none).run Tryd.prog W = .ok (.slice a i c) W by
      have h := slice_hs_to a m c i (by omega) W
      rwa [sliced_zero] at h)
    have hG : ∀ W W' : World, Below W0.heap.size W0 W → Below W.heap.size W W' → Below W0.heap.size W0 W' := fun W W' h h' => h.trans (h'.mono h.size)
    refine region_by [(36, .is (.int .i64 0)), (37, .is (.bool false)), (38, .is (.bool false)), (39, .is (.agg (bs X))), (40, .is (.int .i64 n)), (41, .is (.slice a m c)), (42, .is (.int .i64 (i : Int))), (43, .is (.slice a i c)), (44, .is (.agg (bs X))), (45, .is (.bool false)), (46, .is (.bool false)), (47, .is (.bool false)), (48, .is (.pointer (some ⟨g5, 0, none⟩))), (49, .is (.int .u64 (i : Int))), (50, .is (.int .i64 (i : Int))), (51, .is (.int .u64 (i : Int))), (52, .is (.bool false)), (53, .is (.bool false)), (54, .is (.bool false)), (55, .is (.agg (rngC i (.slice pa p pc)))), (56, .is (.bool true)), (57, .is (.bool false)), (58, .is (.bool false))] [0, 1, 2, 3, 5, 6, 7, 8, 17, 18, 19, 20, 21, 22, 23, 58] (fun W => Below W0.heap.size W0 W) (by kernel_rfl) (by kernel_rfl) (by kernel_rfl) (by kernel_rfl) (by kernel_rfl) ((Below.refl _ _).drew) ?_ ?_
    · refine ⟨?c0, ?c1, ?c2, ?c3, ?c4, ?c5, ?c6, ?c7, ?c8, ?c9, ?c10, ?c11, ?c12, ?c13, ?c14, ?c15, ?c16, ?c17, ?c18, ?c19, ?c20, ?c21, ?c22, trivial⟩
      case c0 => exact ask_copy (guard_none rfl) (.tmp 8) (.inl rfl) (by intro k hk; cases hk; rfl)
      case c1 => exact ask_bin (guard_none rfl) .neq _ _ (.tmp 36) (.const (.int .i64 0)) (.int .i64 0) (.int .i64 0) (.bool false) rfl rfl rfl (by intro k hk; cases hk; rfl) (neq_int _ _ _ _ _)
      case c2 => exact ask_copy (guard_none rfl) (.tmp 37) (.inl rfl) (by intro k hk; cases hk; rfl)
      case c3 => exact ask_load (guard_some rfl rfl rfl) _ (.tmp 7) (.pointer (some ⟨g7, 0, none⟩)) (.agg (bs X)) rfl rfl (by intro k hk; cases hk; rfl) (fun W hW => (HF7.out.keep hW).loads 24 _ Tryd.underlying24 rfl HSX.out)
      case c4 => exact ask_copy (guard_some rfl rfl rfl) (.tmp 0) (.inl rfl) (by intro k hk; cases hk; rfl)
      case c5 => exact ask_copy (guard_some rfl rfl rfl) (.tmp 1) (.inl rfl) (by intro k hk; cases hk; rfl)
      case c6 => exact ask_copy (guard_some rfl rfl rfl) (.tmp 6) (.inl rfl) (by intro k hk; cases hk; rfl)
      case c7 => exact ask_slice (guard_some rfl rfl rfl) _ (.tmp 41) none (some (.tmp 42)) none (.slice a m c) (.slice a i c) none (some (.int .i64 (i : Int))) none rfl rfl rfl rfl rfl (by intro k hk; cases hk; rfl) (HSl.out)
      case c8 => exact ask_call hG (guard_some rfl rfl rfl) _ _ _ #[.int .i64 n, .slice a i c] (.is (.agg (bs X))) rfl (by kernel_rfl) rfl rfl (by intro k hk; cases hk; rfl) (fun W hW => (PRoot.out W hW).mono fun e w' h => ⟨_, h.1, rfl, h.2⟩)
      case c9 => exact ask_bin (guard_some rfl rfl rfl) .neq _ _ (.tmp 39) (.tmp 44) (.agg (bs X)) (.agg (bs X)) (.bool false) rfl rfl rfl (by intro k hk; cases hk; rfl) (neq_hash _ _ X HX.out)
      case c10 => exact ask_pick (guard_none rfl) (.tmp 38) (.const (.bool true)) (.tmp 45) false rfl rfl (by intro k hk; cases hk; rfl)
      case c11 => exact ask_copy (guard_none rfl) (.tmp 46) (.inl rfl) (by intro k hk; cases hk; rfl)
      case c12 => exact ask_field (guard_some rfl rfl rfl) _ (.tmp 5) 0 (.pointer (some ⟨g5, 0, none⟩)) (.pointer (some ⟨g5, 0, none⟩)) rfl rfl (by intro k hk; cases hk; rfl) (fun W => by kernel_rfl)
      case c13 => exact ask_load (guard_some rfl rfl rfl) _ (.tmp 48) (.pointer (some ⟨g5, 0, none⟩)) (.int .u64 (i : Int)) rfl rfl (by intro k hk; cases hk; rfl) (fun W hW => load_u64 W _ _ (by rw [(HF5.out.keep hW).cell]; rfl))
      case c14 => exact ask_copy (guard_some rfl rfl rfl) (.tmp 6) (.inl rfl) (by intro k hk; cases hk; rfl)
      case c15 => exact ask_conv_iu (guard_some rfl rfl rfl) (.tmp 50) i (by omega) rfl rfl (by intro k hk; cases hk; rfl)
      case c16 => exact ask_bin (guard_some rfl rfl rfl) .neq _ _ (.tmp 49) (.tmp 51) (.int .u64 (i : Int)) (.int .u64 (i : Int)) (.bool false) rfl rfl rfl (by intro k hk; cases hk; rfl) (neq_int _ _ _ _ _)
      case c17 => exact ask_pick (guard_none rfl) (.tmp 47) (.const (.bool true)) (.tmp 52) false rfl rfl (by intro k hk; cases hk; rfl)
      case c18 => exact ask_copy (guard_none rfl) (.tmp 53) (.inl rfl) (by intro k hk; cases hk; rfl)
      case c19 => exact ask_load (guard_some rfl rfl rfl) _ (.tmp 5) (.pointer (some ⟨g5, 0, none⟩)) (.agg (rngC i (.slice pa p pc))) rfl rfl (by intro k hk; cases hk; rfl) (fun W hW => (HF5.out.keep hW).loads 36 _ Tryd.underlying36 rfl (size_rng _ _))
      case c20 => exact ask_call hG (guard_some rfl rfl rfl) _ _ _ #[.agg (rngC i (.slice pa p pc))] (.is (.bool true)) rfl (by kernel_rfl) rfl rfl (by intro k hk; cases hk; rfl) (fun W hW => (PRight.out W hW).mono fun e w' h => ⟨_, h.1, rfl, h.2⟩)
      case c21 => exact ask_exec (guard_some rfl rfl rfl) (.bool false) rfl rfl (by intro k hk; cases hk; rfl) (fun W hW => by kernel_rfl)
      case c22 => exact ask_pick (guard_none rfl) (.tmp 54) (.const (.bool true)) (.tmp 57) false rfl rfl (by intro k hk; cases hk; rfl)
    · intro a' Wb hW hd' hs' hf'
      have t0 : a'.tmps.getD 0 undef = .int .i64 n := hf' 0 rfl
      have t1 : a'.tmps.getD 1 undef = .slice a m c := hf' 1 rfl
      have t2 : a'.tmps.getD 2 undef = undef := hf' 2 rfl
      have t3 : a'.tmps.getD 3 undef = undef := hf' 3 rfl
      have t5 : a'.tmps.getD 5 undef = .pointer (some ⟨g5, 0, none⟩) := hf' 5 rfl
      have t6 : a'.tmps.getD 6 undef = .int .i64 (i : Int) := hf' 6 rfl
      have t7 : a'.tmps.getD 7 undef = .pointer (some ⟨g7, 0, none⟩) := hf' 7 rfl
      have t8 : a'.tmps.getD 8 undef = .int .i64 0 := hf' 8 rfl
      have t17 : a'.tmps.getD 17 undef = .bool true := hf' 17 rfl
      have t18 : a'.tmps.getD 18 undef = .bool false := hf' 18 rfl
      have t19 : a'.tmps.getD 19 undef = .slice a m c := hf' 19 rfl
      have t20 : a'.tmps.getD 20 undef = .int .i64 (m : Int) := hf' 20 rfl
      have t21 : a'.tmps.getD 21 undef = .bool (decide (70 < (m : Int))) := hf' 21 rfl
      have t22 : a'.tmps.getD 22 undef = undef := hf' 22 rfl
      have t23 : a'.tmps.getD 23 undef = undef := hf' 23 rfl
      have t58 : a'.tmps.getD 58 undef = .bool false := hf' 58 rfl
      obtain ⟨us', hus, ha'⟩ := act_open 141 a' hs' hd'
      rw [← hus] at t0 t1 t2 t3 t5 t6 t7 t8 t17 t18 t19 t20 t21 t22 t23 t58
      have el : ((List.range 141).map us').toArray = #[.int .i64 n, .slice a m c, undef, undef, us' 4, .pointer (some ⟨g5, 0, none⟩), .int .i64 (i : Int), .pointer (some ⟨g7, 0, none⟩), .int .i64 0, us' 9, us' 10, us' 11, us' 12, us' 13, us' 14, us' 15, us' 16, .bool true, .bool false, .slice a m c, .int .i64 (m : Int), .bool (decide (70 < (m : Int))), undef, undef, us' 24, us' 25, us' 26, us' 27, us' 28, us' 29, us' 30, us' 31, us' 32, us' 33, us' 34, us' 35, us' 36, us' 37, us' 38, us' 39, us' 40, us' 41, us' 42, us' 43, us' 44, us' 45, us' 46, us' 47, us' 48, us' 49, us' 50, us' 51, us' 52, us' 53, us' 54, us' 55, us' 56, us' 57, .bool false, us' 59, us' 60, us' 61, us' 62, us' 63, us' 64, us' 65, us' 66, us' 67, us' 68, us' 69, us' 70, us' 71, us' 72, us' 73, us' 74, us' 75, us' 76, us' 77, us' 78, us' 79, us' 80, us' 81, us' 82, us' 83, us' 84, us' 85, us' 86, us' 87, us' 88, us' 89, us' 90, us' 91, us' 92, us' 93, us' 94, us' 95, us' 96, us' 97, us' 98, us' 99, us' 100, us' 101, us' 102, us' 103, us' 104, us' 105, us' 106, us' 107, us' 108, us' 109, us' 110, us' 111, us' 112, us' 113, us' 114, us' 115, us' 116, us' 117, us' 118, us' 119, us' 120, us' 121, us' 122, us' 123, us' 124, us' 125, us' 126, us' 127, us' 128, us' 129, us' 130, us' 131, us' 132, us' 133, us' 134, us' 135, us' 136, us' 137, us' 138, us' 139, us' 140] := by
        show #[us' 0, us' 1, us' 2, us' 3, us' 4, us' 5, us' 6, us' 7, us' 8, us' 9, us' 10, us' 11, us' 12, us' 13, us' 14, us' 15, us' 16, us' 17, us' 18, us' 19, us' 20, us' 21, us' 22, us' 23, us' 24, us' 25, us' 26, us' 27, us' 28, us' 29, us' 30, us' 31, us' 32, us' 33, us' 34, us' 35, us' 36, us' 37, us' 38, us' 39, us' 40, us' 41, us' 42, us' 43, us' 44, us' 45, us' 46, us' 47, us' 48, us' 49, us' 50, us' 51, us' 52, us' 53, us' 54, us' 55, us' 56, us' 57, us' 58, us' 59, us' 60, us' 61, us' 62, us' 63, us' 64, us' 65, us' 66, us' 67, us' 68, us' 69, us' 70, us' 71, us' 72, us' 73, us' 74, us' 75, us' 76, us' 77, us' 78, us' 79, us' 80, us' 81, us' 82, us' 83, us' 84, us' 85, us' 86, us' 87, us' 88, us' 89, us' 90, us' 91, us' 92, us' 93, us' 94, us' 95, us' 96, us' 97, us' 98, us' 99, us' 100, us' 101, us' 102, us' 103, us' 104, us' 105, us' 106, us' 107, us' 108, us' 109, us' 110, us' 111, us' 112, us' 113, us' 114, us' 115, us' 116, us' 117, us' 118, us' 119, us' 120, us' 121, us' 122, us' 123, us' 124, us' 125, us' 126, us' 127, us' 128, us' 129, us' 130, us' 131, us' 132, us' 133, us' 134, us' 135, us' 136, us' 137, us' 138, us' 139, us' 140] = _
        rw [t0, t1, t2, t3, t5, t6, t7, t8, t17, t18, t19, t20, t21, t22, t23, t58]
      rw [el] at ha'
      subst ha'
      clear hus t0 t1 t2 t3 t5 t6 t7 t8 t17 t18 t19 t20 t21 t22 t23 t58 el hf' hs' hd'
      have HF5 := Lib.hid (HF5.out.keep hW)
      have HPkk := Lib.hid (HPkk.out.below (Nat.le_refl _) hW)
      have HBx := Lib.hid (HBx.out.trans (hW.mono HBx.out.size))
      clear hW hG PRoot PRight HSl HF7
      have hstart2 : Gr2At n hs i Pk Wb (.int .i64 0) (.int .i64 0) Wb := ⟨0, 0, Nat.zero_le _, Nat.zero_le _, rfl, rfl, by rw [List.drop_zero, List.drop_zero]; exact HPk.out, Below.refl _ _⟩
      have HStart2 := Lib.hid hstart2
      clear hstart2
      go_wp2
      go_loopw [9, 10] (fun s9 s10 wr => Gr2At n hs i Pk Wb s9 s10 wr) (fun _ s10 _ => p - (intOf s10).toNat)
      case atStart => exact HStart2.out
      case round =>
        obtain ⟨t, k, hti, hkp, rfl, rfl, hdr, hb2⟩ := hrel
        obtain ⟨w2, rfl⟩ : ∃ w2 : World, w2 = wr := ⟨_, rfl⟩
        have HF52 := Lib.hid (HF5.out.keep hb2)
        have HPk2 := Lib.hid (HPkk.out.below (Nat.le_refl _) hb2)
        have HB2 := Lib.hid hb2
        have HBx2 := Lib.hid (HBx.out.trans (hb2.mono HBx.out.size))
        have HW2s := Lib.hid (show w.heap.size ≤ w2.heap.size from HBx2.out.size)
        have HDr := Lib.hid hdr
        have hkp2 : k ≤ p := by rw [HPp.out]; exact hkp
        clear hdr hb2 hkp HStart2
        by_cases hkk : k < p
        · have hd1 : t < i := by
            rcases Nat.lt_or_ge t i with h | h
            · exact h
            · exfalso
              have h1 := HDr.out
              rw [List.drop_of_length_le (l := hs.take i) (by rw [HTl.out]; exact h), peaks_nil] at h1
              have h2 := congrArg List.length h1
              rw [List.length_drop, ← HPp.out] at h2
              simp at h2
              omega
          obtain ⟨d, hd⟩ : ∃ d : Nat, (i : Int) - (t : Int) = (d : Int) := ⟨i - t, by omega⟩
          have HDd := Lib.hid (show d = i - t by omega)
          have hdb : 1 ≤ d ∧ d ≤ 70 := by omega
          obtain ⟨Y, hY⟩ : ∃ Y, Pk[k]? = some Y := ⟨Pk[k]'(by rw [← HPp.out]; exact hkk), List.getElem?_eq_getElem _⟩
          obtain ⟨pad, rfl, _⟩ := HPk2.out.load hY
          have hY32 := HPk2.out.all.get hY
          have c1 : w2.cell? ⟨g5, 1, none⟩ = some (.slice (some pad) p pc) := by rw [HF52.out.cell]; rfl
          have HYd := Lib.hid hY
          have HY := Lib.hid hY32
          clear hY hY32
          go_wp2
          clear c1
          have hstart3 : Gr3At d w2 (.int .i64 1) w2 := ⟨1, 0, rfl, hdb.1, rfl, rfl⟩
          have HStart3 := Lib.hid hstart3
          clear hstart3
          go_loopw [11] (fun s11 w3 => Gr3At d w2 s11 w3) (fun s11 _ => d - (intOf s11).toNat)
          case atStart => exact HStart3.out
          case round =>
            obtain ⟨q, j, hq, hqd, rfl, hw3⟩ := hrel
            obtain rfl : w2 = wr := hw3.symm
            have HQ := Lib.hid hq
            have hq1 : 1 ≤ q := by rw [hq]; exact Nat.pow_pos (by decide)
            have hqb : q ≤ 70 := by omega
            obtain ⟨q2, hq2⟩ : ∃ q2 : Nat, (q : Int) * 2 = (q2 : Int) := ⟨q * 2, by omega⟩
            have HQ2 := Lib.hid (show q2 = q * 2 by omega)
            have hq2b : q2 ≤ 140 := by omega
            clear hq HStart3
            by_cases hqq : q2 ≤ d
            · go_wp2
              go_roundw
              case rel => exact ⟨q2, j + 1, by rw [HQ2.out, HQ.out, Nat.pow_succ], hqq, rfl, rfl⟩
              case measure =>
                have := HQ2.out
                simp [intOf]
                omega
            · obtain ⟨e1, he1⟩ : ∃ e1 : Nat, (t : Int) + (q : Int) = (e1 : Int) := ⟨t + q, by omega⟩
              have hE1n : e1 = t + q := by omega
              have he1i : e1 ≤ i := by have := HDd.out; omega
              obtain ⟨vs, hvs⟩ : ∃ vs, vs = sliced a t e1 c 32 := ⟨_, rfl⟩
              have hrl : ((hs.take i).drop t).length = d := by rw [List.length_drop, HTl.out, HDd.out]
              have htop := peaks_top n _ ((hs.take i).drop t) j rfl (by rw [hrl, ← HQ.out]; exact hqd) (by rw [hrl, ← HQ.out]; have := HQ2.out; omega)
              rw [← HDr.out, ← HQ.out] at htop
              have hYr : Y = rootH n (((hs.take i).drop t).take q) := by
                obtain ⟨h1, h2⟩ := List.getElem?_eq_some_iff.1 HYd.out
                rw [List.drop_eq_getElem_cons h1, h2] at htop
                exact (List.cons.inj htop).1
              have hdr2 : Pk.drop (k + 1) = peaks n ((hs.take i).drop e1) := by
                obtain ⟨h1, h2⟩ := List.getElem?_eq_some_iff.1 HYd.out
                rw [List.drop_eq_getElem_cons h1] at htop
                rw [(List.cons.inj htop).2, List.drop_drop, hE1n]
              have hsub : ((hs.take i).drop t).take q = (hs.take e1).drop t := by
                rw [List.take_drop, List.take_take, ← hE1n, show min e1 i = e1 by omega]
              have h1s : Hss w vs ((hs.take e1).drop t) := by rw [hvs]; exact HV.out.sub t e1 (by omega) (by omega)
              have HDr2 := Lib.hid hdr2
              have HE1 := Lib.hid he1
              have HE1b := Lib.hid (show -4611686018427387904 ≤ (e1 : Int) ∧ (e1 : Int) ≤ 4611686018427387904 by omega)
              have HSl := Lib.hid (fun (W : World) => show (Instr.sliceAt 30 (.slice a m c) (some (.int .i64 (t : Int))) (some (.int .i64 (e1 : Int))) none).run Tryd.prog W = .ok vs W by rw [hvs]; exact slice_hs_mid a m c t e1 (by omega) (by omega) W)
              have PRoot := Lib.hid (fun (W : World) (hW : Below w2.heap.size w2 W) => HP.out.root n ((hs.take e1).drop t) vs W HN.out (h1s.below (Nat.le_refl _) (HBx2.out.trans (hW.mono HBx2.out.size))) (by rw [List.length_drop, List.length_take]; omega) (HT.out.below (Nat.le_refl _) (HBx2.out.trans (hW.mono HBx2.out.size))))
              rw [← hsub, ← hYr] at PRoot
              have HIx := Lib.hid (fun W => hss_index W pad p pc k hkk)
              have HLd := Lib.hid (fun (W : World) (hW : Below w2.heap.size w2 W) => load_hash W (pad.add (k * 32)) Y HY.out fun j u hj => by
                obtain ⟨ad2, e, h⟩ := (HPk2.out.below (Nat.le_refl _) hW).load HYd.out
                cases e
                exact h j u hj)
              have HF5 := HF52
              have hG : ∀ W W' : World, Below w2.heap.size w2 W → Below W.heap.size W W' → Below w2.heap.size w2 W' := fun W W' h h' => h.trans (h'.mono h.size)
              clear htop hYr hdr2 hsub h1s hvs hrl hE1n
              go_upto_region 19 with fail
              refine region_by [(74, .is (.pointer (some ⟨g5, 1, none⟩))), (75, .is (.slice (some pad) p pc)), (76, .is (.int .i64 (k : Int))), (77, .is (.pointer (some (pad.add (k * 32))))), (78, .is (.agg (bs Y))), (79, .is (.int .i64 n)), (80, .is (.slice a m c)), (81, .is (.int .i64 (t : Int))), (82, .is (.int .i64 (t : Int))), (83, .is (.int .i64 (q : Int))), (84, .is (.int .i64 (e1 : Int))), (85, .is vs), (86, .is (.agg (bs Y))), (87, .is (.bool false))] [0, 1, 2, 3, 5, 6, 7, 8, 9, 10, 11, 12, 13, 14, 15, 16, 17, 18, 19, 20, 21, 22, 23, 24, 25, 26, 27, 28, 29, 30, 31, 32, 33, 34, 35, 36, 37, 38, 39, 40, 41, 42, 43, 44, 45, 46, 47, 48, 49, 50, 51, 52, 53, 54, 55, 56, 57, 58, 87, 91, 92, 93, 94, 95, 96, 97, 98, 99, 100, 101, 102, 103, 104, 105, 106, 107, 108, 109, 110, 111, 112, 113, 114, 115, 116, 117, 118, 119, 120, 121, 122, 123, 124, 125, 126, 127, 128, 129, 130, 131, 132, 133, 134, 135, 136, 137, 138, 139, 140] (fun W => Below w2.heap.size w2 W) (by kernel_rfl) (by kernel_rfl) (by kernel_rfl) (by kernel_rfl) (by kernel_rfl) ((Below.refl _ _).drew) ?_ ?_
              · refine ⟨?c0, ?c1, ?c2, ?c3, ?c4, ?c5, ?c6, ?c7, ?c8, ?c9, ?c10, ?c11, ?c12, ?c13, trivial⟩
                case c0 => exact ask_field (guard_none rfl) _ (.tmp 5) 1 (.pointer (some ⟨g5, 0, none⟩)) (.pointer (some ⟨g5, 1, none⟩)) rfl rfl (by intro k hk; cases hk; rfl) (fun W => by kernel_rfl)
                case c1 => exact ask_load (guard_none rfl) _ (.tmp 74) (.pointer (some ⟨g5, 1, none⟩)) (.slice (some pad) p pc) rfl rfl (by intro k hk; cases hk; rfl) (fun W hW => load_hl W _ _ (by rw [(HF5.out.keep hW).cell]; rfl))
                case c2 => exact ask_copy (guard_none rfl) (.tmp 10) (.inl rfl) (by intro k hk; cases hk; rfl)
                case c3 => exact ask_idx (guard_none rfl) _ (.tmp 75) (.tmp 76) (.slice (some pad) p pc) (.int .i64 (k : Int)) (.pointer (some (pad.add (k * 32)))) rfl rfl rfl (by intro k hk; cases hk; rfl) HIx.out
                case c4 => exact ask_load (guard_none rfl) _ (.tmp 77) (.pointer (some (pad.add (k * 32)))) (.agg (bs Y)) rfl rfl (by intro k hk; cases hk; rfl) (fun W hW => HLd.out W hW)
                case c5 => exact ask_copy (guard_none rfl) (.tmp 0) (.inl rfl) (by intro k hk; cases hk; rfl)
                case c6 => exact ask_copy (guard_none rfl) (.tmp 1) (.inl rfl) (by intro k hk; cases hk; rfl)
                case c7 => exact ask_copy (guard_none rfl) (.tmp 9) (.inl rfl) (by intro k hk; cases hk; rfl)
                case c8 => exact ask_copy (guard_none rfl) (.tmp 9) (.inl rfl) (by intro k hk; cases hk; rfl)
                case c9 => exact ask_copy (guard_none rfl) (.tmp 11) (.inl rfl) (by intro k hk; cases hk; rfl)
                case c10 => exact ask_bin (guard_none rfl) .add _ _ (.tmp 82) (.tmp 83) (.int .i64 (t : Int)) (.int .i64 (q : Int)) (.int .i64 (e1 : Int)) rfl rfl rfl (by intro k hk; cases hk; rfl) (fun W => add_i64 _ _ _ _ _ _ HE1.out HE1b.out W)
                case c11 => exact ask_slice (guard_none rfl) _ (.tmp 80) (some (.tmp 81)) (some (.tmp 84)) none (.slice a m c) vs (some (.int .i64 (t : Int))) (some (.int .i64 (e1 : Int))) none rfl rfl rfl rfl rfl (by intro k hk; cases hk; rfl) (HSl.out)
                case c12 => exact ask_call hG (guard_none rfl) _ _ _ #[.int .i64 n, vs] (.is (.agg (bs Y))) rfl (by kernel_rfl) rfl rfl (by intro k hk; cases hk; rfl) (fun W hW => (PRoot.out W hW).mono fun e w' h => ⟨_, h.1, rfl, h.2⟩)
                case c13 => exact ask_bin (guard_none rfl) .neq _ _ (.tmp 78) (.tmp 86) (.agg (bs Y)) (.agg (bs Y)) (.bool false) rfl rfl rfl (by intro k hk; cases hk; rfl) (neq_hash _ _ Y HY.out)
              · intro a' Wc hW hd' hs' hf'
                have t0 : a'.tmps.getD 0 undef = .int .i64 n := hf' 0 rfl
                have t1 : a'.tmps.getD 1 undef = .slice a m c := hf' 1 rfl
                have t2 : a'.tmps.getD 2 undef = undef := hf' 2 rfl
                have t3 : a'.tmps.getD 3 undef = undef := hf' 3 rfl
                have t5 : a'.tmps.getD 5 undef = .pointer (some ⟨g5, 0, none⟩) := hf' 5 rfl
                have t6 : a'.tmps.getD 6 undef = .int .i64 (i : Int) := hf' 6 rfl
                have t7 : a'.tmps.getD 7 undef = .pointer (some ⟨g7, 0, none⟩) := hf' 7 rfl
                have t8 : a'.tmps.getD 8 undef = .int .i64 0 := hf' 8 rfl
                have t9 : a'.tmps.getD 9 undef = .int .i64 (t : Int) := hf' 9 rfl
                have t10 : a'.tmps.getD 10 undef = .int .i64 (k : Int) := hf' 10 rfl
                have t11 : a'.tmps.getD 11 undef = .int .i64 (q : Int) := hf' 11 rfl
                have t12 : a'.tmps.getD 12 undef = us' 12 := hf' 12 rfl
                have t13 : a'.tmps.getD 13 undef = us' 13 := hf' 13 rfl
                have t14 : a'.tmps.getD 14 undef = us' 14 := hf' 14 rfl
                have t15 : a'.tmps.getD 15 undef = us' 15 := hf' 15 rfl
                have t16 : a'.tmps.getD 16 undef = us' 16 := hf' 16 rfl
                have t17 : a'.tmps.getD 17 undef = .bool true := hf' 17 rfl
                have t18 : a'.tmps.getD 18 undef = .bool false := hf' 18 rfl
                have t19 : a'.tmps.getD 19 undef = .slice a m c := hf' 19 rfl
                have t20 : a'.tmps.getD 20 undef = .int .i64 (m : Int) := hf' 20 rfl
                have t21 : a'.tmps.getD 21 undef = .bool (decide (70 < (m : Int))) := hf' 21 rfl
                have t22 : a'.tmps.getD 22 undef = undef := hf' 22 rfl
                have t23 : a'.tmps.getD 23 undef = undef := hf' 23 rfl
                have t24 : a'.tmps.getD 24 undef = us' 24 := hf' 24 rfl
                have t25 : a'.tmps.getD 25 undef = us' 25 := hf' 25 rfl
                have t26 : a'.tmps.getD 26 undef = us' 26 := hf' 26 rfl
                have t27 : a'.tmps.getD 27 undef = us' 27 := hf' 27 rfl
                have t28 : a'.tmps.getD 28 undef = us' 28 := hf' 28 rfl
                have t29 : a'.tmps.getD 29 undef = us' 29 := hf' 29 rfl
                have t30 : a'.tmps.getD 30 undef = us' 30 := hf' 30 rfl
                have t31 : a'.tmps.getD 31 undef = us' 31 := hf' 31 rfl
                have t32 : a'.tmps.getD 32 undef = us' 32 := hf' 32 rfl
                have t33 : a'.tmps.getD 33 undef = us' 33 := hf' 33 rfl
                have t34 : a'.tmps.getD 34 undef = us' 34 := hf' 34 rfl
                have t35 : a'.tmps.getD 35 undef = us' 35 := hf' 35 rfl
                have t36 : a'.tmps.getD 36 undef = us' 36 := hf' 36 rfl
                have t37 : a'.tmps.getD 37 undef = us' 37 := hf' 37 rfl
                have t38 : a'.tmps.getD 38 undef = us' 38 := hf' 38 rfl
                have t39 : a'.tmps.getD 39 undef = us' 39 := hf' 39 rfl
                have t40 : a'.tmps.getD 40 undef = us' 40 := hf' 40 rfl
                have t41 : a'.tmps.getD 41 undef = us' 41 := hf' 41 rfl
                have t42 : a'.tmps.getD 42 undef = us' 42 := hf' 42 rfl
                have t43 : a'.tmps.getD 43 undef = us' 43 := hf' 43 rfl
                have t44 : a'.tmps.getD 44 undef = us' 44 := hf' 44 rfl
                have t45 : a'.tmps.getD 45 undef = us' 45 := hf' 45 rfl
                have t46 : a'.tmps.getD 46 undef = us' 46 := hf' 46 rfl
                have t47 : a'.tmps.getD 47 undef = us' 47 := hf' 47 rfl
                have t48 : a'.tmps.getD 48 undef = us' 48 := hf' 48 rfl
                have t49 : a'.tmps.getD 49 undef = us' 49 := hf' 49 rfl
                have t50 : a'.tmps.getD 50 undef = us' 50 := hf' 50 rfl
                have t51 : a'.tmps.getD 51 undef = us' 51 := hf' 51 rfl
                have t52 : a'.tmps.getD 52 undef = us' 52 := hf' 52 rfl
                have t53 : a'.tmps.getD 53 undef = us' 53 := hf' 53 rfl
                have t54 : a'.tmps.getD 54 undef = us' 54 := hf' 54 rfl
                have t55 : a'.tmps.getD 55 undef = us' 55 := hf' 55 rfl
                have t56 : a'.tmps.getD 56 undef = us' 56 := hf' 56 rfl
                have t57 : a'.tmps.getD 57 undef = us' 57 := hf' 57 rfl
                have t58 : a'.tmps.getD 58 undef = .bool false := hf' 58 rfl
                have t87 : a'.tmps.getD 87 undef = .bool false := hf' 87 rfl
                have t91 : a'.tmps.getD 91 undef = us' 91 := hf' 91 rfl
                have t92 : a'.tmps.getD 92 undef = us' 92 := hf' 92 rfl
                have t93 : a'.tmps.getD 93 undef = us' 93 := hf' 93 rfl
                have t94 : a'.tmps.getD 94 undef = us' 94 := hf' 94 rfl
                have t95 : a'.tmps.getD 95 undef = us' 95 := hf' 95 rfl
                have t96 : a'.tmps.getD 96 undef = us' 96 := hf' 96 rfl
                have t97 : a'.tmps.getD 97 undef = us' 97 := hf' 97 rfl
                have t98 : a'.tmps.getD 98 undef = us' 98 := hf' 98 rfl
                have t99 : a'.tmps.getD 99 undef = us' 99 := hf' 99 rfl
                have t100 : a'.tmps.getD 100 undef = us' 100 := hf' 100 rfl
                have t101 : a'.tmps.getD 101 undef = us' 101 := hf' 101 rfl
                have t102 : a'.tmps.getD 102 undef = us' 102 := hf' 102 rfl
                have t103 : a'.tmps.getD 103 undef = us' 103 := hf' 103 rfl
                have t104 : a'.tmps.getD 104 undef = us' 104 := hf' 104 rfl
                have t105 : a'.tmps.getD 105 undef = us' 105 := hf' 105 rfl
                have t106 : a'.tmps.getD 106 undef = us' 106 := hf' 106 rfl
                have t107 : a'.tmps.getD 107 undef = us' 107 := hf' 107 rfl
                have t108 : a'.tmps.getD 108 undef = us' 108 := hf' 108 rfl
                have t109 : a'.tmps.getD 109 undef = us' 109 := hf' 109 rfl
                have t110 : a'.tmps.getD 110 undef = us' 110 := hf' 110 rfl
                have t111 : a'.tmps.getD 111 undef = us' 111 := hf' 111 rfl
                have t112 : a'.tmps.getD 112 undef = us' 112 := hf' 112 rfl
                have t113 : a'.tmps.getD 113 undef = us' 113 := hf' 113 rfl
                have t114 : a'.tmps.getD 114 undef = us' 114 := hf' 114 rfl
                have t115 : a'.tmps.getD 115 undef = us' 115 := hf' 115 rfl
                have t116 : a'.tmps.getD 116 undef = us' 116 := hf' 116 rfl
                have t117 : a'.tmps.getD 117 undef = us' 117 := hf' 117 rfl
                have t118 : a'.tmps.getD 118 undef = us' 118 := hf' 118 rfl
                have t119 : a'.tmps.getD 119 undef = us' 119 := hf' 119 rfl
                have t120 : a'.tmps.getD 120 undef = us' 120 := hf' 120 rfl
                have t121 : a'.tmps.getD 121 undef = us' 121 := hf' 121 rfl
                have t122 : a'.tmps.getD 122 undef = us' 122 := hf' 122 rfl
                have t123 : a'.tmps.getD 123 undef = us' 123 := hf' 123 rfl
                have t124 : a'.tmps.getD 124 undef = us' 124 := hf' 124 rfl
                have t125 : a'.tmps.getD 125 undef = us' 125 := hf' 125 rfl
                have t126 : a'.tmps.getD 126 undef = us' 126 := hf' 126 rfl
                have t127 : a'.tmps.getD 127 undef = us' 127 := hf' 127 rfl
                have t128 : a'.tmps.getD 128 undef = us' 128 := hf' 128 rfl
                have t129 : a'.tmps.getD 129 undef = us' 129 := hf' 129 rfl
                have t130 : a'.tmps.getD 130 undef = us' 130 := hf' 130 rfl
                have t131 : a'.tmps.getD 131 undef = us' 131 := hf' 131 rfl
                have t132 : a'.tmps.getD 132 undef = us' 132 := hf' 132 rfl
                have t133 : a'.tmps.getD 133 undef = us' 133 := hf' 133 rfl
                have t134 : a'.tmps.getD 134 undef = us' 134 := hf' 134 rfl
                have t135 : a'.tmps.getD 135 undef = us' 135 := hf' 135 rfl
                have t136 : a'.tmps.getD 136 undef = us' 136 := hf' 136 rfl
                have t137 : a'.tmps.getD 137 undef = us' 137 := hf' 137 rfl
                have t138 : a'.tmps.getD 138 undef = us' 138 := hf' 138 rfl
                have t139 : a'.tmps.getD 139 undef = us' 139 := hf' 139 rfl
                have t140 : a'.tmps.getD 140 undef = us' 140 := hf' 140 rfl
                obtain ⟨vs', hus, ha'⟩ := act_open 141 a' hs' hd'
                rw [← hus] at t0 t1 t2 t3 t5 t6 t7 t8 t9 t10 t11 t12 t13 t14 t15 t16 t17 t18 t19 t20 t21 t22 t23 t24 t25 t26 t27 t28 t29 t30 t31 t32 t33 t34 t35 t36 t37 t38 t39 t40 t41 t42 t43 t44 t45 t46 t47 t48 t49 t50 t51 t52 t53 t54 t55 t56 t57 t58 t87 t91 t92 t93 t94 t95 t96 t97 t98 t99 t100 t101 t102 t103 t104 t105 t106 t107 t108 t109 t110 t111 t112 t113 t114 t115 t116 t117 t118 t119 t120 t121 t122 t123 t124 t125 t126 t127 t128 t129 t130 t131 t132 t133 t134 t135 t136 t137 t138 t139 t140
                have el : ((List.range 141).map vs').toArray = #[.int .i64 n, .slice a m c, undef, undef, vs' 4, .pointer (some ⟨g5, 0, none⟩), .int .i64 (i : Int), .pointer (some ⟨g7, 0, none⟩), .int .i64 0, .int .i64 (t : Int), .int .i64 (k : Int), .int .i64 (q : Int), us' 12, us' 13, us' 14, us' 15, us' 16, .bool true, .bool false, .slice a m c, .int .i64 (m : Int), .bool (decide (70 < (m : Int))), undef, undef, us' 24, us' 25, us' 26, us' 27, us' 28, us' 29, us' 30, us' 31, us' 32, us' 33, us' 34, us' 35, us' 36, us' 37, us' 38, us' 39, us' 40, us' 41, us' 42, us' 43, us' 44, us' 45, us' 46, us' 47, us' 48, us' 49, us' 50, us' 51, us' 52, us' 53, us' 54, us' 55, us' 56, us' 57, .bool false, vs' 59, vs' 60, vs' 61, vs' 62, vs' 63, vs' 64, vs' 65, vs' 66, vs' 67, vs' 68, vs' 69, vs' 70, vs' 71, vs' 72, vs' 73, vs' 74, vs' 75, vs' 76, vs' 77, vs' 78, vs' 79, vs' 80, vs' 81, vs' 82, vs' 83, vs' 84, vs' 85, vs' 86, .bool false, vs' 88, vs' 89, vs' 90, us' 91, us' 92, us' 93, us' 94, us' 95, us' 96, us' 97, us' 98, us' 99, us' 100, us' 101, us' 102, us' 103, us' 104, us' 105, us' 106, us' 107, us' 108, us' 109, us' 110, us' 111, us' 112, us' 113, us' 114, us' 115, us' 116, us' 117, us' 118, us' 119, us' 120, us' 121, us' 122, us' 123, us' 124, us' 125, us' 126, us' 127, us' 128, us' 129, us' 130, us' 131, us' 132, us' 133, us' 134, us' 135, us' 136, us' 137, us' 138, us' 139, us' 140] := by
                  show #[vs' 0, vs' 1, vs' 2, vs' 3, vs' 4, vs' 5, vs' 6, vs' 7, vs' 8, vs' 9, vs' 10, vs' 11, vs' 12, vs' 13, vs' 14, vs' 15, vs' 16, vs' 17, vs' 18, vs' 19, vs' 20, vs' 21, vs' 22, vs' 23, vs' 24, vs' 25, vs' 26, vs' 27, vs' 28, vs' 29, vs' 30, vs' 31, vs' 32, vs' 33, vs' 34, vs' 35, vs' 36, vs' 37, vs' 38, vs' 39, vs' 40, vs' 41, vs' 42, vs' 43, vs' 44, vs' 45, vs' 46, vs' 47, vs' 48, vs' 49, vs' 50, vs' 51, vs' 52, vs' 53, vs' 54, vs' 55, vs' 56, vs' 57, vs' 58, vs' 59, vs' 60, vs' 61, vs' 62, vs' 63, vs' 64, vs' 65, vs' 66, vs' 67, vs' 68, vs' 69, vs' 70, vs' 71, vs' 72, vs' 73, vs' 74, vs' 75, vs' 76, vs' 77, vs' 78, vs' 79, vs' 80, vs' 81, vs' 82, vs' 83, vs' 84, vs' 85, vs' 86, vs' 87, vs' 88, vs' 89, vs' 90, vs' 91, vs' 92, vs' 93, vs' 94, vs' 95, vs' 96, vs' 97, vs' 98, vs' 99, vs' 100, vs' 101, vs' 102, vs' 103, vs' 104, vs' 105, vs' 106, vs' 107, vs' 108, vs' 109, vs' 110, vs' 111, vs' 112, vs' 113, vs' 114, vs' 115, vs' 116, vs' 117, vs' 118, vs' 119, vs' 120, vs' 121, vs' 122, vs' 123, vs' 124, vs' 125, vs' 126, vs' 127, vs' 128, vs' 129, vs' 130, vs' 131, vs' 132, vs' 133, vs' 134, vs' 135, vs' 136, vs' 137, vs' 138, vs' 139, vs' 140] = _
                  rw [t0, t1, t2, t3, t5, t6, t7, t8, t9, t10, t11, t12, t13, t14, t15, t16, t17, t18, t19, t20, t21, t22, t23, t24, t25, t26, t27, t28, t29, t30, t31, t32, t33, t34, t35, t36, t37, t38, t39, t40, t41, t42, t43, t44, t45, t46, t47, t48, t49, t50, t51, t52, t53, t54, t55, t56, t57, t58, t87, t91, t92, t93, t94, t95, t96, t97, t98, t99, t100, t101, t102, t103, t104, t105, t106, t107, t108, t109, t110, t111, t112, t113, t114, t115, t116, t117, t118, t119, t120, t121, t122, t123, t124, t125, t126, t127, t128, t129, t130, t131, t132, t133, t134, t135, t136, t137, t138, t139, t140]
                rw [el] at ha'
                subst ha'
                clear hus t0 t1 t2 t3 t5 t6 t7 t8 t9 t10 t11 t12 t13 t14 t15 t16 t17 t18 t19 t20 t21 t22 t23 t24 t25 t26 t27 t28 t29 t30 t31 t32 t33 t34 t35 t36 t37 t38 t39 t40 t41 t42 t43 t44 t45 t46 t47 t48 t49 t50 t51 t52 t53 t54 t55 t56 t57 t58 t87 t91 t92 t93 t94 t95 t96 t97 t98 t99 t100 t101 t102 t103 t104 t105 t106 t107 t108 t109 t110 t111 t112 t113 t114 t115 t116 t117 t118 t119 t120 t121 t122 t123 t124 t125 t126 t127 t128 t129 t130 t131 t132 t133 t134 t135 t136 t137 t138 t139 t140 el hf' hs' hd'
                have HWc := Lib.hid hW
                clear hW hG PRoot HIx HLd HSl
                have he1' := HE1.out
                go_wp2
                go_roundw
                case rel => exact ⟨e1, k + 1, he1i, by have := HPp.out; omega, rfl, by simp, HDr2.out, HB2.out.trans (HWc.out.mono HB2.out.size)⟩
                case measure => simp [intOf]; omega
        · obtain rfl : p = k := by omega
          have hend : i = t := by
            have h1 := HDr.out
            rw [List.drop_of_length_le (l := Pk) (by rw [HPp.out]; exact Nat.le_refl _)] at h1
            rcases Nat.lt_or_ge t i with h | h
            · exfalso
              have h2 := peaks_length n _ ((hs.take i).drop t) rfl
              rw [← h1, List.length_drop, HTl.out] at h2
              have h3 := ones_pos (i - t) (by omega)
              simp at h2
              omega
            · omega
          subst hend
          have c1 : w2.cell? ⟨g5, 1, none⟩ = some (.slice pa p pc) := by rw [HF52.out.cell]; rfl
          by_cases hend2 : i = m
          · go_wp2
            go_ret
            exact ⟨rfl, HBx2.out⟩
          · have hlt : i < m := by omega
            have hne : ¬ (i : Int) = (m : Int) := by omega
            obtain ⟨y, hy⟩ : ∃ y, hs[i]? = some y := ⟨hs[i]'(by have := HM.out; omega), List.getElem?_eq_getElem _⟩
            obtain ⟨lad, rfl, _⟩ := HV.out.load hy
            have hy32 := HV.out.all.get hy
            obtain ⟨S1, hS1⟩ : ∃ S1, S1 = i + 1 := ⟨_, rfl⟩
            have hpk1 : peaks n (hs.take (i + 1)) = merge n i Pk y := by
              obtain ⟨q1, q2⟩ := List.getElem?_eq_some_iff.1 hy
              rw [List.take_succ_eq_append_getElem q1, q2, peaks_push n _ _ y rfl, HTl.out, ← HPk.out]
            obtain ⟨Q1, hQ1⟩ : ∃ Q, Q = merge n i Pk y := ⟨_, rfl⟩
            obtain ⟨seven, hseven⟩ : ∃ x : Hs, x = 7 :: List.replicate 31 0 := ⟨_, rfl⟩
            have h7l : seven.length = 32 := by rw [hseven]; rfl
            obtain ⟨Q7, hQ7⟩ : ∃ Q, Q = merge n i Pk seven := ⟨_, rfl⟩
            have hi63 : i < 9223372036854775808 := by omega
            have hr7 : pushR n i Pk seven = ((S1, Q7), 0) := by rw [pushR, if_pos ⟨HPl.out, hi63⟩, hS1, hQ7]
            have hr1 : pushR n i Pk y = ((S1, Q1), 0) := by rw [pushR, if_pos ⟨HPl.out, hi63⟩, hS1, hQ1]
            have hQ7pos : 0 < Q7.length := by rw [hQ7]; exact merge_pos _ _ _ _
            have hQ7len : Q7.length ≤ 65 := by rw [hQ7]; have := merge_len n i Pk seven; have := HPp.out; omega
            have P7 := Lib.hid (HRng.out.push n i (.slice pa p pc) Pk seven w2 HN.out HPk2.out h7l (by omega) (by have := HPp.out; omega) (HT.out.below (Nat.le_refl _) HBx2.out) (HBu.out.below (Nat.le_refl _) HBx2.out))
            simp only [hr7] at P7
            rw [hseven, show bs (7 :: List.replicate 31 0) = #[.int .u8 7, .int .u8 0, .int .u8 0, .int .u8 0, .int .u8 0, .int .u8 0, .int .u8 0, .int .u8 0, .int .u8 0, .int .u8 0, .int .u8 0, .int .u8 0, .int .u8 0, .int .u8 0, .int .u8 0, .int .u8 0, .int .u8 0, .int .u8 0, .int .u8 0, .int .u8 0, .int .u8 0, .int .u8 0, .int .u8 0, .int .u8 0, .int .u8 0, .int .u8 0, .int .u8 0, .int .u8 0, .int .u8 0, .int .u8 0, .int .u8 0, .int .u8 0] from rfl] at P7
            have HPush0 := Lib.hid (fun (W : World) (hW : Below w2.heap.size w2 W) => HRng.out.push n i (.slice pa p pc) Pk y W HN.out (HPk2.out.below (Nat.le_refl _) hW) hy32 (by omega) (by have := HPp.out; omega) (HT.out.below (Nat.le_refl _) (HBx2.out.trans (hW.mono HBx2.out.size))) (HBu.out.below (Nat.le_refl _) (HBx2.out.trans (hW.mono HBx2.out.size))))
            simp only [hr1] at HPush0
            have HS1 := Lib.hid hS1
            have HQ1 := Lib.hid (hpk1.trans hQ1.symm)
            have HQ7 := Lib.hid hQ7pos
            have HQ7l := Lib.hid hQ7len
            have HYy := Lib.hid hy
            have HY32 := Lib.hid hy32
            clear hy hy32 hS1 hpk1 hQ1 hseven h7l hQ7 hr7 hr1 hQ7pos hQ7len HF5 HPkk HBx HB2 HDr
            go_upto_region 24 with fail
            clear c1
            go_wp2_with (refine wpList_load_row rfl 36 (.tmp 5) rfl g5 rfl 36 (rngC i (.slice pa p pc)) (0, 0) _ HF52.out Tryd.underlying36 rfl (size_rng _ _) ?_)
            refine P7.out.mono ?_
            rintro e Y4 ⟨ov, rfl, hq, hb⟩
            obtain ⟨go, cur0, ho1, -, hgo, hbo, hoc, hcs⟩ : ∃ go cur, ov = .slice (some ⟨go, 0, none⟩) Q7.length (cur.size / 32) ∧ True ∧ w2.heap.size ≤ go ∧ Blk Y4 go 24 cur ∧ Q7.length ≤ cur.size / 32 ∧ cur.size = cur.size / 32 * 32 := by
              obtain ⟨oa, oc, e⟩ := hq.slice
              subst e
              obtain ⟨g, cur, q1, q2, q3, q4, q5, q6⟩ := hq.blk HQ7.out
              subst q1
              exact ⟨g, cur, by rw [q6, Nat.mul_div_cancel _ (by decide)], trivial, q3, q4, by rw [q6, Nat.mul_div_cancel _ (by decide)]; exact q5, by rw [q6, Nat.mul_div_cancel _ (by decide)]⟩
            subst ho1
            obtain ⟨oc, hocd⟩ : ∃ oc, oc = cur0.size / 32 := ⟨_, rfl⟩
            obtain ⟨on, hon⟩ : ∃ on, on = Q7.length := ⟨_, rfl⟩
            have h65 := HQ7l.out
            rw [← hon] at h65
            rw [← hocd, ← hon] at hoc
            rw [← hocd] at hcs
            rw [← hocd, ← hon]
            have HBo := Lib.hid hbo
            have HCs := Lib.hid hcs
            have HGo := Lib.hid hgo
            have HB4 := Lib.hid hb
            have honc : on ≤ oc := hoc
            have honb : on ≤ 65 := h65
            clear hq hb hbo hcs hgo hocd hon hoc h65 P7 HQ7 HQ7l
            go_upto_region 25 with (refine wpList_store_row rfl 36 (.tmp 12) (.tmp 103) rfl Y4.heap.size (rngC S1 (.slice (some ⟨go, 0, none⟩) on oc)) rfl rfl 36 _ (Blk.new Y4 _ _) (size_rng _ _) rfl (rng_one _ _ _ _) ?_)
            obtain ⟨g12, hg12⟩ : ∃ g, g = Y4.heap.size := ⟨_, rfl⟩
            have hnew := fun zs cs => HB4.out.trans ((below_new Y4 zs cs 36).mono HB4.out.size)
            refine world_cut (fun W => Blk W g12 36 (rngC S1 (.slice (some ⟨go, 0, none⟩) on oc)) ∧ Blk W go 24 cur0 ∧ Below w2.heap.size w2 W) ⟨by rw [hg12]; exact Blk.row (Blk.new Y4 _ _) _, HBo.out.keep (below_new Y4 _ _ _), hnew _ _⟩ ?_
            rw [← hg12]
            clear hg12 hnew HB4 HBo
            rintro W0 ⟨h12, hbo, hb⟩
            have HF12 := Lib.hid h12
            have HBo := Lib.hid hbo
            have HF5 := Lib.hid (HF52.out.keep hb)
            have HB02 := Lib.hid hb
            have HBx := Lib.hid (HBx2.out.trans (hb.mono HBx2.out.size))
            have HGo2 := Lib.hid (show go < W0.heap.size from hbo.lt)
            clear h12 hbo hb HF52 HPk2
            have PPush := Lib.hid (fun (W : World) (hW : Below W0.heap.size W0 W) => HPush0.out W (HB02.out.trans (hW.mono HB02.out.size)))
            have HIx := Lib.hid (fun W => hss_index W lad m c i hlt)
            have HLd := Lib.hid (fun (W : World) (hW : Below W0.heap.size W0 W) => load_hash W (lad.add (i * 32)) y HY32.out fun j u hj => by
              obtain ⟨ad2, e, h⟩ := (HV.out.below (Nat.le_refl _) (HBx.out.trans (hW.mono HBx.out.size))).load HYy.out
              cases e
              exact h j u hj)
            have hG : ∀ W W' : World, Below W0.heap.size W0 W → Below W.heap.size W W' → Below W0.heap.size W0 W' := fun W W' h h' => h.trans (h'.mono h.size)
            clear HPush0 HBx2 HB02
            refine region_fill_by 11 _ (fun b => [(14, (if b then filF W0.heap.size S1 Q1 else varF W0.heap.size 36 (rngC 0 (.slice none 0 0)))), (106, .is (.int .i64 n)), (107, .is (.agg (rngC i (.slice pa p pc)))), (108, .is (.slice (some lad) m c)), (109, .is (.int .i64 (i : Int))), (110, .is (.pointer (some (lad.add (i * 32))))), (111, .is (.agg (bs y))), (112, tupF W0.heap.size S1 Q1), (105, tupF W0.heap.size S1 Q1), (113, rng1F W0.heap.size S1 Q1), (114, .is (.int .i64 0)), (15, .is (.int .i64 0))]) [0, 1, 2, 3, 4, 5, 6, 12, 13, 14, 15, 17, 18, 19, 20, 21, 22, 23] (fun W => Below W0.heap.size W0 W) (by kernel_rfl) (by kernel_rfl) (by kernel_rfl) (by kernel_rfl) (by kernel_rfl) ((Below.refl _ _).drew) rfl rfl ?_ ?_ ?_
            · refine ⟨?c0, ?c1, ?c2, ?c3, ?c4, ?c5, ?c6, ?c7, ?c8, ?c9, ?c10, ?c11, ?c12, trivial⟩
              case c0 => exact .inr (.inl fun b => ask_copy (guard_none rfl) (.tmp 0) (.inl rfl) (by intro k hk; cases hk; rfl))
              case c1 => exact .inr (.inl fun b => ask_load (guard_none rfl) _ (.tmp 5) (.pointer (some ⟨g5, 0, none⟩)) (.agg (rngC i (.slice pa p pc))) rfl rfl (by intro k hk; cases hk; rfl) (fun W hW => (HF5.out.keep hW).loads 36 _ Tryd.underlying36 rfl (size_rng _ _)))
              case c2 => exact .inr (.inl fun b => ask_copy (guard_none rfl) (.tmp 1) (.inl rfl) (by intro k hk; cases hk; rfl))
              case c3 => exact .inr (.inl fun b => ask_copy (guard_none rfl) (.tmp 6) (.inl rfl) (by intro k hk; cases hk; rfl))
              case c4 => exact .inr (.inl fun b => ask_idx (guard_none rfl) _ (.tmp 108) (.tmp 109) (.slice (some lad) m c) (.int .i64 (i : Int)) (.pointer (some (lad.add (i * 32)))) rfl rfl rfl (by intro k hk; cases hk; rfl) HIx.out)
              case c5 => exact .inr (.inl fun b => ask_load (guard_none rfl) _ (.tmp 110) (.pointer (some (lad.add (i * 32)))) (.agg (bs y)) rfl rfl (by intro k hk; cases hk; rfl) (fun W hW => HLd.out W hW))
              case c6 => exact .inr (.inl fun b => ask_call hG (guard_none rfl) _ _ _ #[.int .i64 n, .agg (rngC i (.slice pa p pc)), .agg (bs y)] (tupF W0.heap.size S1 Q1) rfl (by kernel_rfl) rfl rfl (by intro k hk; cases hk; rfl) (fun W hW => (PPush.out W hW).mono fun e w' h => by obtain ⟨v', h1, h2, h3⟩ := h; exact ⟨_, h1, ⟨v', rfl, h2.lower hW.size⟩, h3⟩))
              case c7 => exact .inr (.inl fun b => ask_copy (guard_none rfl) (.tmp 112) (.inl rfl) (by intro k hk; cases hk; rfl))
              case c8 => exact .inr (.inl fun b => ask_extract0 hG (guard_none rfl) (.tmp 105) _ _ _ rfl rfl (by intro k hk; cases hk; rfl))
              case c9 => exact .inr (.inl fun b => ask_extract1 (guard_none rfl) (.tmp 105) _ _ _ rfl rfl (by intro k hk; cases hk; rfl))
              case c10 => exact .inr (.inr ⟨by kernel_rfl, ask_alloc hG (guard_none rfl) _ (.agg (rngC 0 (.slice none 0 0))) (varF W0.heap.size 36 (rngC 0 (.slice none 0 0))) rfl (fun W => by kernel_rfl) (by intro k hk; cases hk; rfl) (fun W hW => ⟨_, rfl, hW.size, Blk.new W _ _⟩)⟩)
              case c11 => exact .inl rfl
              case c12 => exact .inr (.inl fun b => ask_copy (guard_none rfl) (.tmp 114) (.inr rfl) (by intro k hk; cases hk; rfl))
            · intro x W hW hk
              obtain ⟨g, e1, e2, e3⟩ : ∃ g, x 14 = .pointer (some ⟨g, 0, none⟩) ∧ W0.heap.size ≤ g ∧ Blk W g 36 (rngC 0 (.slice none 0 0)) := hk 14 rfl
              obtain ⟨v', e4, e5⟩ : ∃ v', x 113 = .agg (rngC S1 v') ∧ OHs W W0.heap.size v' Q1 := hk 113 rfl
              obtain ⟨va, vc, rfl⟩ := e5.slice
              refine ⟨guard_ok (guard_none rfl) hk, gives_store 36 (.tmp 14) (.tmp 113) rfl (.pointer (some ⟨g, 0, none⟩)) (.agg (rngC S1 (.slice va Q1.length vc))) e1 e4 (e3.stores 36 _ (size_rng _ _) rfl (rng_one _ _ _ _)) ⟨below_setRow hW g _ e2, fun k _ hu => ?_⟩⟩
              by_cases h14 : k = 14
              · subst h14
                exact ⟨g, _, e1, e2, e3.row _, e5.farR e3⟩
              · simp only [factsOf_ne h14] at hu ⊢
                refine facts_keep (fun q hq u hu => ?_) k _ hu
                simp only [List.mem_cons, List.not_mem_nil, or_false] at hq
                rcases hq with rfl | rfl | rfl | rfl | rfl | rfl | rfl | rfl | rfl | rfl | rfl
                all_goals first
                  | exact hu
                  | (obtain ⟨v2, q1, q2⟩ := hu; exact ⟨v2, q1, q2.farR e3⟩)
            · intro a' We hW hd' hs' hf'
              have t14 : ∃ g v, a'.tmps.getD 14 undef = .pointer (some ⟨g, 0, none⟩) ∧ W0.heap.size ≤ g ∧ Blk We g 36 (rngC S1 v) ∧ OHs We W0.heap.size v Q1 := hf' 14 rfl
              have t0 : a'.tmps.getD 0 undef = .int .i64 n := hf' 0 rfl
              have t1 : a'.tmps.getD 1 undef = .slice (some lad) m c := hf' 1 rfl
              have t2 : a'.tmps.getD 2 undef = undef := hf' 2 rfl
              have t3 : a'.tmps.getD 3 undef = undef := hf' 3 rfl
              have t4 : a'.tmps.getD 4 undef = u4 := hf' 4 rfl
              have t5 : a'.tmps.getD 5 undef = .pointer (some ⟨g5, 0, none⟩) := hf' 5 rfl
              have t6 : a'.tmps.getD 6 undef = .int .i64 (i : Int) := hf' 6 rfl
              have t12 : a'.tmps.getD 12 undef = .pointer (some ⟨g12, 0, none⟩) := hf' 12 rfl
              have t13 : a'.tmps.getD 13 undef = .int .i64 0 := hf' 13 rfl
              have t15 : a'.tmps.getD 15 undef = .int .i64 0 := hf' 15 rfl
              have t17 : a'.tmps.getD 17 undef = .bool true := hf' 17 rfl
              have t18 : a'.tmps.getD 18 undef = .bool false := hf' 18 rfl
              have t19 : a'.tmps.getD 19 undef = .slice (some lad) m c := hf' 19 rfl
              have t20 : a'.tmps.getD 20 undef = .int .i64 (m : Int) := hf' 20 rfl
              have t21 : a'.tmps.getD 21 undef = .bool (decide (70 < (m : Int))) := hf' 21 rfl
              have t22 : a'.tmps.getD 22 undef = undef := hf' 22 rfl
              have t23 : a'.tmps.getD 23 undef = undef := hf' 23 rfl
              obtain ⟨ws', hus, ha'⟩ := act_open 141 a' hs' hd'
              rw [← hus] at t14 t0 t1 t2 t3 t4 t5 t6 t12 t13 t15 t17 t18 t19 t20 t21 t22 t23
              have el : ((List.range 141).map ws').toArray = #[.int .i64 n, .slice (some lad) m c, undef, undef, u4, .pointer (some ⟨g5, 0, none⟩), .int .i64 (i : Int), ws' 7, ws' 8, ws' 9, ws' 10, ws' 11, .pointer (some ⟨g12, 0, none⟩), .int .i64 0, ws' 14, .int .i64 0, ws' 16, .bool true, .bool false, .slice (some lad) m c, .int .i64 (m : Int), .bool (decide (70 < (m : Int))), undef, undef, ws' 24, ws' 25, ws' 26, ws' 27, ws' 28, ws' 29, ws' 30, ws' 31, ws' 32, ws' 33, ws' 34, ws' 35, ws' 36, ws' 37, ws' 38, ws' 39, ws' 40, ws' 41, ws' 42, ws' 43, ws' 44, ws' 45, ws' 46, ws' 47, ws' 48, ws' 49, ws' 50, ws' 51, ws' 52, ws' 53, ws' 54, ws' 55, ws' 56, ws' 57, ws' 58, ws' 59, ws' 60, ws' 61, ws' 62, ws' 63, ws' 64, ws' 65, ws' 66, ws' 67, ws' 68, ws' 69, ws' 70, ws' 71, ws' 72, ws' 73, ws' 74, ws' 75, ws' 76, ws' 77, ws' 78, ws' 79, ws' 80, ws' 81, ws' 82, ws' 83, ws' 84, ws' 85, ws' 86, ws' 87, ws' 88, ws' 89, ws' 90, ws' 91, ws' 92, ws' 93, ws' 94, ws' 95, ws' 96, ws' 97, ws' 98, ws' 99, ws' 100, ws' 101, ws' 102, ws' 103, ws' 104, ws' 105, ws' 106, ws' 107, ws' 108, ws' 109, ws' 110, ws' 111, ws' 112, ws' 113, ws' 114, ws' 115, ws' 116, ws' 117, ws' 118, ws' 119, ws' 120, ws' 121, ws' 122, ws' 123, ws' 124, ws' 125, ws' 126, ws' 127, ws' 128, ws' 129, ws' 130, ws' 131, ws' 132, ws' 133, ws' 134, ws' 135, ws' 136, ws' 137, ws' 138, ws' 139, ws' 140] := by
                show #[ws' 0, ws' 1, ws' 2, ws' 3, ws' 4, ws' 5, ws' 6, ws' 7, ws' 8, ws' 9, ws' 10, ws' 11, ws' 12, ws' 13, ws' 14, ws' 15, ws' 16, ws' 17, ws' 18, ws' 19, ws' 20, ws' 21, ws' 22, ws' 23, ws' 24, ws' 25, ws' 26, ws' 27, ws' 28, ws' 29, ws' 30, ws' 31, ws' 32, ws' 33, ws' 34, ws' 35, ws' 36, ws' 37, ws' 38, ws' 39, ws' 40, ws' 41, ws' 42, ws' 43, ws' 44, ws' 45, ws' 46, ws' 47, ws' 48, ws' 49, ws' 50, ws' 51, ws' 52, ws' 53, ws' 54, ws' 55, ws' 56, ws' 57, ws' 58, ws' 59, ws' 60, ws' 61, ws' 62, ws' 63, ws' 64, ws' 65, ws' 66, ws' 67, ws' 68, ws' 69, ws' 70, ws' 71, ws' 72, ws' 73, ws' 74, ws' 75, ws' 76, ws' 77, ws' 78, ws' 79, ws' 80, ws' 81, ws' 82, ws' 83, ws' 84, ws' 85, ws' 86, ws' 87, ws' 88, ws' 89, ws' 90, ws' 91, ws' 92, ws' 93, ws' 94, ws' 95, ws' 96, ws' 97, ws' 98, ws' 99, ws' 100, ws' 101, ws' 102, ws' 103, ws' 104, ws' 105, ws' 106, ws' 107, ws' 108, ws' 109, ws' 110, ws' 111, ws' 112, ws' 113, ws' 114, ws' 115, ws' 116, ws' 117, ws' 118, ws' 119, ws' 120, ws' 121, ws' 122, ws' 123, ws' 124, ws' 125, ws' 126, ws' 127, ws' 128, ws' 129, ws' 130, ws' 131, ws' 132, ws' 133, ws' 134, ws' 135, ws' 136, ws' 137, ws' 138, ws' 139, ws' 140] = _
                rw [t0, t1, t2, t3, t4, t5, t6, t12, t13, t15, t17, t18, t19, t20, t21, t22, t23]
              rw [el] at ha'
              subst ha'
              clear hus t0 t1 t2 t3 t4 t5 t6 t12 t13 t15 t17 t18 t19 t20 t21 t22 t23 el hf' hs' hd'
              obtain ⟨g14, nv, e14, hg14, hb14, ho14⟩ := t14
              rw [e14]
              clear e14
              obtain ⟨na, nc, rfl⟩ := ho14.slice
              obtain ⟨nn, hnn⟩ : ∃ k, k = Q1.length := ⟨_, rfl⟩
              rw [← hnn] at hb14 ho14
              have hb12 := HF12.out.keep hW
              have c12 : We.cell? ⟨g12, 0, none⟩ = some (.int .u64 (S1 : Int)) := by rw [hb12.cell]; rfl
              have c14 : We.cell? ⟨g14, 0, none⟩ = some (.int .u64 (S1 : Int)) := by rw [hb14.cell]; rfl
              have hstart4 : Gr4At i w g5 g12 g14 go on oc na nn nc S1 Q1 W0.heap.size pa p pc (.int .i64 0) We := ⟨0, cur0, Nat.zero_le _, rfl, HBo.out.keep hW, HCs.out, hb12, hb14, ho14, HF5.out.keep hW, HBx.out.trans (hW.mono HBx.out.size)⟩
              have HStart4 := Lib.hid hstart4
              clear hstart4 hb12 hb14 ho14 hnn hW hG PPush HIx HLd HF12 HBo HF5 HBx
              go_wp2
              clear c12 c14
              go_loopw [16] (fun s16 wr => Gr4At i w g5 g12 g14 go on oc na nn nc S1 Q1 W0.heap.size pa p pc s16 wr) (fun s16 _ => on - (intOf s16).toNat)
              case atStart => exact HStart4.out
              case round =>
                obtain ⟨k, cur, hk, rfl, hbo, hcs, hb12, hb14, ho14, hb5, hbw⟩ := hrel
                have c1 : wr.cell? ⟨g12, 1, none⟩ = some (.slice (some ⟨go, 0, none⟩) on oc) := by rw [hb12.cell]; rfl
                clear HStart4
                by_cases hkk : k < on
                · have hix : ∀ W, (Instr.indexAt 30 (.slice (some ⟨go, 0, none⟩) on oc) (.int .i64 (k : Int))).run Tryd.prog W = .ok (.pointer (some ⟨go, k * 32, none⟩)) W := fun W => by
                    have h := hss_index W ⟨go, 0, none⟩ on oc k hkk
                    rwa [addr_add, Nat.zero_add] at h
                  obtain ⟨cur', hst, hcs'⟩ := store_hash hbo hcs (show k < oc by omega) (8 :: List.replicate 31 0) rfl
                  have HSt := Lib.hid hst
                  have hrow : Blk (wr.setRow go cur') go 24 cur' := hbo.row cur'
                  have n12 : g12 ≠ go := by
                    rintro rfl
                    unfold Blk at hb12 hbo
                    rw [hb12] at hbo
                    cases hbo
                  have n14 : g14 ≠ go := by
                    rintro rfl
                    unfold Blk at hb14 hbo
                    rw [hb14] at hbo
                    cases hbo
                  have n5 : g5 ≠ go := by
                    rintro rfl
                    unfold Blk at hb5 hbo
                    rw [hb5] at hbo
                    cases hbo
                  have hnext : Gr4At i w g5 g12 g14 go on oc na nn nc S1 Q1 W0.heap.size pa p pc (.int .i64 ((k + 1 : Nat) : Int)) (wr.setRow go cur') := ⟨k + 1, cur', hkk, rfl, hrow, hcs', hb12.rowOther _ n12, hb14.rowOther _ n14, ho14.farLow HGo2.out, hb5.rowOther _ n5, below_setRow hbw _ _ (by have := HGo.out; have := HW2s.out; omega)⟩
                  have HNext := Lib.hid hnext
                  clear hst hcs' hrow n12 n14 n5 hnext hbo hcs hb12 hb14 ho14 hb5 hbw
                  go_wp2_with (refine wpList_store_by rfl 24 (.tmp 139) (.tmp 138) rfl (.pointer (some ⟨go, k * 32, none⟩)) (.agg (bs (8 :: List.replicate 31 0))) rfl rfl _ HSt.out ?_)
                  go_roundw
                  case rel => exact HNext.out
                  case measure => simp [intOf]; omega
                · obtain rfl : on = k := by omega
                  have HF14 := Lib.hid hb14
                  have HF5 := Lib.hid hb5
                  have HO := Lib.hid ho14
                  have HBw := Lib.hid hbw
                  clear hbo hcs hb12 hb14 ho14 hb5 hbw
                  go_wp2_with (first
                    | (refine wpList_load_row rfl 36 (.tmp 14) rfl g14 rfl 36 (rngC S1 (.slice na nn nc)) (0, 0) _ HF14.out Tryd.underlying36 rfl (size_rng _ _) ?_)
                    | (refine wpList_store_row rfl 36 (.tmp 5) (.tmp 140) rfl g5 (rngC S1 (.slice na nn nc)) rfl rfl 36 _ HF5.out (size_rng _ _) rfl (rng_one _ _ _ _) ?_))
                  have hnext : GrAt n hs w g5 (.int .i64 ((i + 1 : Nat) : Int)) (wr.setRow g5 (rngC S1 (.slice na nn nc))) := ⟨i + 1, na, nn, nc, by have := HM.out; omega, rfl, by rw [← HS1.out]; exact HF5.out.row _, by rw [HQ1.out]; exact (HO.out.farR HF5.out).hss, below_setRow HBw.out _ _ HG5.out⟩
                  have HNext := Lib.hid hnext
                  clear hnext
                  go_roundw
                  case rel => exact HNext.out
                  case measure => simp [intOf]; omega
end Go.Proofs.YtdhfabjkpffhnaaDoor

/- LeafGrows: the walk, of more than 70 leaves. -/
namespace Go.Proofs.YtdhfabjkpffhnaaDoor
set_option maxRecDepth 20000
open Go.RowKit ShaMath LeafMath Reg

set_option maxHeartbeats 8000000 in
set_option maxRecDepth 100000 in
theorem leafGrows_big (hp : LeafProg) (hdp : DataProg) (hrng : RngProg) (n : Int) (hn : I64 n) (hs0 : List Hs) (a : Option Addr) (m c : Nat) (w : World) (hv0 : Hss w (.slice a m c) hs0) (hm : m = hs0.length) (hmc : m ≤ c) (h70 : 70 < m) (ht : Tabs w) (hbu : Bru w) :
    Calls Tryd.prog 6 #[.int .i64 n, .slice a m c] w fun e w' => e = .returned (.bool true) ∧ Below w.heap.size w w' := by
  obtain ⟨hs, hhs⟩ : ∃ h, h = hs0.take 70 := ⟨_, rfl⟩
  have hl70 : hs.length = 70 := by rw [hhs, List.length_take]; omega
  have hv1 : Hss w (.slice a 70 c) hs := by
    have := hv0.sub 0 70 (by omega) (by omega)
    rw [sliced_zero] at this
    rw [hhs]
    simpa using this
  obtain ⟨M, hM⟩ : ∃ M, M = hs.length := ⟨_, rfl⟩
  have hM' : M = 70 := by rw [hM, hl70]
  have hv : Hss w (.slice a M c) hs := by rw [hM']; exact hv1
  have hmc' : M ≤ c := by omega
  have hsl : ∀ W, (Instr.sliceAt 30 (.slice a m c) none (some (.int .i64 70)) none).run Tryd.prog W = .ok (.slice a M c) W := fun W => by
    rw [hM']
    have := slice_hs_to a m c 70 (by omega) W
    rwa [sliced_zero] at this
  have hM70 : M ≤ 70 := by omega
  have HV := Lib.hid hv
  have HM := Lib.hid hM
  have HT := Lib.hid ht
  have HP := Lib.hid hp
  have HDt := Lib.hid hdp
  have HRng := Lib.hid hrng
  have HBu := Lib.hid hbu
  have HN := Lib.hid hn
  clear hv hM ht hp hdp hrng hbu hn hv0 hm hhs hl70 hv1 hM'
  go_enter Tryd.func6, Tryd.ntmps6
  go_wp2_with fail
  refine (awake14_any HP.out HDt.out _ HT.out).mono ?_
  rintro e W1 ⟨rfl, hb1⟩
  have HB1 := Lib.hid hb1
  clear hb1
  go_upto_region 6 with fail
  rw [show decide ((70 : Int) < (m : Int)) = true from decide_eq_true (by omega)]
  clear hsl h70
  obtain ⟨g5, hg5⟩ : ∃ g, g = W1.heap.size := ⟨_, rfl⟩
  have hge5 : w.heap.size ≤ g5 := by rw [hg5]; exact HB1.out.size
  refine world_cut (fun W => Blk W g5 36 (rngC 0 (.slice none 0 0)) ∧ Below w.heap.size w W) ⟨by rw [hg5]; exact Blk.new W1 _ _, HB1.out.alloc HB1.out.size _⟩ ?_
  rw [← hg5]
  have HG5 := Lib.hid hge5
  clear hg5 hge5 HB1
  rintro W2 ⟨hb5, hbw⟩
  have hstart : GrAt n hs w g5 (.int .i64 0) W2 := ⟨0, none, 0, 0, Nat.zero_le _, rfl, hb5, by rw [List.take_zero, peaks_nil]; exact Hss.none _, hbw⟩
  have HStart := Lib.hid hstart
  clear hstart hb5 hbw
  go_wp2
  go_loopw [6] (fun s6 wr => GrAt n hs w g5 s6 wr) (fun s6 _ => M + 1 - (intOf s6).toNat)
  case atStart => exact HStart.out
  case round =>
    obtain ⟨i, pa, p, pc, hi, rfl, hb5, hpk, hbw⟩ := hrel
    have hiM : i ≤ M := by have := HM.out; omega
    obtain ⟨Pk, hPk⟩ : ∃ Pk, Pk = peaks n (hs.take i) := ⟨_, rfl⟩
    have htl : (hs.take i).length = i := by rw [List.length_take]; omega
    have hPl : Pk.length = ones i := by rw [hPk, peaks_length n _ _ rfl, htl]
    rw [← hPk] at hpk
    have hpp : p = Pk.length := by
      obtain ⟨a', c', e, _⟩ := hpk.form
      cases e
      rfl
    have hpl64 : p ≤ 64 := by rw [hpp, hPl]; exact ones_64 i (by omega)
    have h32 : All32 (hs.take i) := HV.out.all.take i
    obtain ⟨X, hX, hX32⟩ : ∃ X, X = rootH n (hs.take i) ∧ X.length = 32 := ⟨_, rfl, rootH_length _ _ h32⟩
    have hpeakR : peakR n i Pk = (X, 0) := by rw [peakR, if_pos hPl, hPk, peakF_peaks n _ _ rfl, hX]
    have HBw := Lib.hid hbw
    have HF5w := Lib.hid hb5
    have HPkw := Lib.hid hpk
    have HXd := Lib.hid hX
    have HX := Lib.hid hX32
    have HSX := Lib.hid (size_hash (cs := bs X) (by rw [bs_size, hX32]))
    have HPk := Lib.hid hPk
    have HPl := Lib.hid hPl
    have HPp := Lib.hid hpp
    have H32 := Lib.hid h32
    have HTl := Lib.hid htl
    have HPeak := Lib.hid (HRng.out.peak n i (.slice pa p pc) Pk wr HN.out hpk (by omega) (by rw [← hpp]; omega) (HT.out.below (Nat.le_refl _) hbw))
    rw [hpeakR] at HPeak
    clear hi hb5 hpk hbw hPk htl hPl hpp h32 hX hX32 hpeakR HStart
    go_wp2_with (refine wpList_load_row rfl 36 (.tmp 5) rfl g5 rfl 36 (rngC i (.slice pa p pc)) (0, 0) _ HF5w.out Tryd.underlying36 rfl (size_rng _ _) ?_)
    refine HPeak.out.mono ?_
    rintro e Y3 ⟨rfl, hb⟩
    have HB := Lib.hid hb
    clear hb HPeak
    go_upto_region 10 with (refine wpList_store_row rfl 24 (.tmp 7) (.tmp 34) rfl Y3.heap.size (bs X) rfl rfl 24 _ (Blk.new Y3 _ _) HSX.out (by rw [bs_size, HX.out]; rfl) (bs_one _) ?_)
    obtain ⟨g7, hg7⟩ : ∃ g, g = Y3.heap.size := ⟨_, rfl⟩
    have hnew := fun zs cs => HB.out.trans ((below_new Y3 zs cs 24).mono HB.out.size)
    refine world_cut (fun W => Blk W g7 24 (bs X) ∧ Below wr.heap.size wr W) ⟨by rw [hg7]; exact Blk.row (Blk.new Y3 _ _) _, hnew _ _⟩ ?_
    rw [← hg7]
    clear hg7 hnew HB
    rintro W0 ⟨h7, hb⟩
    have HF7 := Lib.hid h7
    have HF5 := Lib.hid (HF5w.out.keep hb)
    have HPkk := Lib.hid (HPkw.out.below (Nat.le_refl _) hb)
    have HBx := Lib.hid (HBw.out.trans (hb.mono HBw.out.size))
    clear h7 hb HF5w HPkw HBw
    obtain ⟨wo, rfl⟩ : ∃ wo : World, wo = wr := ⟨_, rfl⟩
    have HVi := Lib.hid (show Hss w (.slice a i c) (hs.take i) by
      have := HV.out.sub 0 i (by omega) hiM
      rw [sliced_zero] at this
      simpa using this)
    have PRoot := Lib.hid (fun (W : World) (hW : Below W0.heap.size W0 W) => HP.out.root n (hs.take i) (.slice a i c) W HN.out (HVi.out.below (Nat.le_refl _) (HBx.out.trans (hW.mono HBx.out.size))) (by rw [HTl.out]; omega) (HT.out.below (Nat.le_refl _) (HBx.out.trans (hW.mono HBx.out.size))))
    rw [← HXd.out] at PRoot
    have PRight := Lib.hid (fun (W : World) (_ : Below W0.heap.size W0 W) => HRng.out.right i p pc pa W (by omega))
    rw [show decide (p = ones i) = true by rw [HPp.out, HPl.out]; simp] at PRight
    have HSl := Lib.hid (fun (W : World) => show (Instr.sliceAt 30 (.slice a M c) none (some (.int .i64 (i : Int))) none).run Tryd.prog W = .ok (.slice a i c) W by
      have h := slice_hs_to a M c i (by omega) W
      rwa [sliced_zero] at h)
    have hG : ∀ W W' : World, Below W0.heap.size W0 W → Below W.heap.size W W' → Below W0.heap.size W0 W' := fun W W' h h' => h.trans (h'.mono h.size)
    refine region_by [(36, .is (.int .i64 0)), (37, .is (.bool false)), (38, .is (.bool false)), (39, .is (.agg (bs X))), (40, .is (.int .i64 n)), (41, .is (.slice a M c)), (42, .is (.int .i64 (i : Int))), (43, .is (.slice a i c)), (44, .is (.agg (bs X))), (45, .is (.bool false)), (46, .is (.bool false)), (47, .is (.bool false)), (48, .is (.pointer (some ⟨g5, 0, none⟩))), (49, .is (.int .u64 (i : Int))), (50, .is (.int .i64 (i : Int))), (51, .is (.int .u64 (i : Int))), (52, .is (.bool false)), (53, .is (.bool false)), (54, .is (.bool false)), (55, .is (.agg (rngC i (.slice pa p pc)))), (56, .is (.bool true)), (57, .is (.bool false)), (58, .is (.bool false))] [0, 1, 2, 3, 5, 6, 7, 8, 17, 18, 19, 20, 21, 22, 23, 58] (fun W => Below W0.heap.size W0 W) (by kernel_rfl) (by kernel_rfl) (by kernel_rfl) (by kernel_rfl) (by kernel_rfl) ((Below.refl _ _).drew) ?_ ?_
    · refine ⟨?c0, ?c1, ?c2, ?c3, ?c4, ?c5, ?c6, ?c7, ?c8, ?c9, ?c10, ?c11, ?c12, ?c13, ?c14, ?c15, ?c16, ?c17, ?c18, ?c19, ?c20, ?c21, ?c22, trivial⟩
      case c0 => exact ask_copy (guard_none rfl) (.tmp 8) (.inl rfl) (by intro k hk; cases hk; rfl)
      case c1 => exact ask_bin (guard_none rfl) .neq _ _ (.tmp 36) (.const (.int .i64 0)) (.int .i64 0) (.int .i64 0) (.bool false) rfl rfl rfl (by intro k hk; cases hk; rfl) (neq_int _ _ _ _ _)
      case c2 => exact ask_copy (guard_none rfl) (.tmp 37) (.inl rfl) (by intro k hk; cases hk; rfl)
      case c3 => exact ask_load (guard_some rfl rfl rfl) _ (.tmp 7) (.pointer (some ⟨g7, 0, none⟩)) (.agg (bs X)) rfl rfl (by intro k hk; cases hk; rfl) (fun W hW => (HF7.out.keep hW).loads 24 _ Tryd.underlying24 rfl HSX.out)
      case c4 => exact ask_copy (guard_some rfl rfl rfl) (.tmp 0) (.inl rfl) (by intro k hk; cases hk; rfl)
      case c5 => exact ask_copy (guard_some rfl rfl rfl) (.tmp 1) (.inl rfl) (by intro k hk; cases hk; rfl)
      case c6 => exact ask_copy (guard_some rfl rfl rfl) (.tmp 6) (.inl rfl) (by intro k hk; cases hk; rfl)
      case c7 => exact ask_slice (guard_some rfl rfl rfl) _ (.tmp 41) none (some (.tmp 42)) none (.slice a M c) (.slice a i c) none (some (.int .i64 (i : Int))) none rfl rfl rfl rfl rfl (by intro k hk; cases hk; rfl) (HSl.out)
      case c8 => exact ask_call hG (guard_some rfl rfl rfl) _ _ _ #[.int .i64 n, .slice a i c] (.is (.agg (bs X))) rfl (by kernel_rfl) rfl rfl (by intro k hk; cases hk; rfl) (fun W hW => (PRoot.out W hW).mono fun e w' h => ⟨_, h.1, rfl, h.2⟩)
      case c9 => exact ask_bin (guard_some rfl rfl rfl) .neq _ _ (.tmp 39) (.tmp 44) (.agg (bs X)) (.agg (bs X)) (.bool false) rfl rfl rfl (by intro k hk; cases hk; rfl) (neq_hash _ _ X HX.out)
      case c10 => exact ask_pick (guard_none rfl) (.tmp 38) (.const (.bool true)) (.tmp 45) false rfl rfl (by intro k hk; cases hk; rfl)
      case c11 => exact ask_copy (guard_none rfl) (.tmp 46) (.inl rfl) (by intro k hk; cases hk; rfl)
      case c12 => exact ask_field (guard_some rfl rfl rfl) _ (.tmp 5) 0 (.pointer (some ⟨g5, 0, none⟩)) (.pointer (some ⟨g5, 0, none⟩)) rfl rfl (by intro k hk; cases hk; rfl) (fun W => by kernel_rfl)
      case c13 => exact ask_load (guard_some rfl rfl rfl) _ (.tmp 48) (.pointer (some ⟨g5, 0, none⟩)) (.int .u64 (i : Int)) rfl rfl (by intro k hk; cases hk; rfl) (fun W hW => load_u64 W _ _ (by rw [(HF5.out.keep hW).cell]; rfl))
      case c14 => exact ask_copy (guard_some rfl rfl rfl) (.tmp 6) (.inl rfl) (by intro k hk; cases hk; rfl)
      case c15 => exact ask_conv_iu (guard_some rfl rfl rfl) (.tmp 50) i (by omega) rfl rfl (by intro k hk; cases hk; rfl)
      case c16 => exact ask_bin (guard_some rfl rfl rfl) .neq _ _ (.tmp 49) (.tmp 51) (.int .u64 (i : Int)) (.int .u64 (i : Int)) (.bool false) rfl rfl rfl (by intro k hk; cases hk; rfl) (neq_int _ _ _ _ _)
      case c17 => exact ask_pick (guard_none rfl) (.tmp 47) (.const (.bool true)) (.tmp 52) false rfl rfl (by intro k hk; cases hk; rfl)
      case c18 => exact ask_copy (guard_none rfl) (.tmp 53) (.inl rfl) (by intro k hk; cases hk; rfl)
      case c19 => exact ask_load (guard_some rfl rfl rfl) _ (.tmp 5) (.pointer (some ⟨g5, 0, none⟩)) (.agg (rngC i (.slice pa p pc))) rfl rfl (by intro k hk; cases hk; rfl) (fun W hW => (HF5.out.keep hW).loads 36 _ Tryd.underlying36 rfl (size_rng _ _))
      case c20 => exact ask_call hG (guard_some rfl rfl rfl) _ _ _ #[.agg (rngC i (.slice pa p pc))] (.is (.bool true)) rfl (by kernel_rfl) rfl rfl (by intro k hk; cases hk; rfl) (fun W hW => (PRight.out W hW).mono fun e w' h => ⟨_, h.1, rfl, h.2⟩)
      case c21 => exact ask_exec (guard_some rfl rfl rfl) (.bool false) rfl rfl (by intro k hk; cases hk; rfl) (fun W hW => by kernel_rfl)
      case c22 => exact ask_pick (guard_none rfl) (.tmp 54) (.const (.bool true)) (.tmp 57) false rfl rfl (by intro k hk; cases hk; rfl)
    · intro a' Wb hW hd' hs' hf'
      have t0 : a'.tmps.getD 0 undef = .int .i64 n := hf' 0 rfl
      have t1 : a'.tmps.getD 1 undef = .slice a M c := hf' 1 rfl
      have t2 : a'.tmps.getD 2 undef = undef := hf' 2 rfl
      have t3 : a'.tmps.getD 3 undef = undef := hf' 3 rfl
      have t5 : a'.tmps.getD 5 undef = .pointer (some ⟨g5, 0, none⟩) := hf' 5 rfl
      have t6 : a'.tmps.getD 6 undef = .int .i64 (i : Int) := hf' 6 rfl
      have t7 : a'.tmps.getD 7 undef = .pointer (some ⟨g7, 0, none⟩) := hf' 7 rfl
      have t8 : a'.tmps.getD 8 undef = .int .i64 0 := hf' 8 rfl
      have t17 : a'.tmps.getD 17 undef = .bool true := hf' 17 rfl
      have t18 : a'.tmps.getD 18 undef = .bool false := hf' 18 rfl
      have t19 : a'.tmps.getD 19 undef = .slice a m c := hf' 19 rfl
      have t20 : a'.tmps.getD 20 undef = .int .i64 (m : Int) := hf' 20 rfl
      have t21 : a'.tmps.getD 21 undef = .bool true := hf' 21 rfl
      have t22 : a'.tmps.getD 22 undef = .slice a m c := hf' 22 rfl
      have t23 : a'.tmps.getD 23 undef = .slice a M c := hf' 23 rfl
      have t58 : a'.tmps.getD 58 undef = .bool false := hf' 58 rfl
      obtain ⟨us', hus, ha'⟩ := act_open 141 a' hs' hd'
      rw [← hus] at t0 t1 t2 t3 t5 t6 t7 t8 t17 t18 t19 t20 t21 t22 t23 t58
      have el : ((List.range 141).map us').toArray = #[.int .i64 n, .slice a M c, undef, undef, us' 4, .pointer (some ⟨g5, 0, none⟩), .int .i64 (i : Int), .pointer (some ⟨g7, 0, none⟩), .int .i64 0, us' 9, us' 10, us' 11, us' 12, us' 13, us' 14, us' 15, us' 16, .bool true, .bool false, .slice a m c, .int .i64 (m : Int), .bool true, .slice a m c, .slice a M c, us' 24, us' 25, us' 26, us' 27, us' 28, us' 29, us' 30, us' 31, us' 32, us' 33, us' 34, us' 35, us' 36, us' 37, us' 38, us' 39, us' 40, us' 41, us' 42, us' 43, us' 44, us' 45, us' 46, us' 47, us' 48, us' 49, us' 50, us' 51, us' 52, us' 53, us' 54, us' 55, us' 56, us' 57, .bool false, us' 59, us' 60, us' 61, us' 62, us' 63, us' 64, us' 65, us' 66, us' 67, us' 68, us' 69, us' 70, us' 71, us' 72, us' 73, us' 74, us' 75, us' 76, us' 77, us' 78, us' 79, us' 80, us' 81, us' 82, us' 83, us' 84, us' 85, us' 86, us' 87, us' 88, us' 89, us' 90, us' 91, us' 92, us' 93, us' 94, us' 95, us' 96, us' 97, us' 98, us' 99, us' 100, us' 101, us' 102, us' 103, us' 104, us' 105, us' 106, us' 107, us' 108, us' 109, us' 110, us' 111, us' 112, us' 113, us' 114, us' 115, us' 116, us' 117, us' 118, us' 119, us' 120, us' 121, us' 122, us' 123, us' 124, us' 125, us' 126, us' 127, us' 128, us' 129, us' 130, us' 131, us' 132, us' 133, us' 134, us' 135, us' 136, us' 137, us' 138, us' 139, us' 140] := by
        show #[us' 0, us' 1, us' 2, us' 3, us' 4, us' 5, us' 6, us' 7, us' 8, us' 9, us' 10, us' 11, us' 12, us' 13, us' 14, us' 15, us' 16, us' 17, us' 18, us' 19, us' 20, us' 21, us' 22, us' 23, us' 24, us' 25, us' 26, us' 27, us' 28, us' 29, us' 30, us' 31, us' 32, us' 33, us' 34, us' 35, us' 36, us' 37, us' 38, us' 39, us' 40, us' 41, us' 42, us' 43, us' 44, us' 45, us' 46, us' 47, us' 48, us' 49, us' 50, us' 51, us' 52, us' 53, us' 54, us' 55, us' 56, us' 57, us' 58, us' 59, us' 60, us' 61, us' 62, us' 63, us' 64, us' 65, us' 66, us' 67, us' 68, us' 69, us' 70, us' 71, us' 72, us' 73, us' 74, us' 75, us' 76, us' 77, us' 78, us' 79, us' 80, us' 81, us' 82, us' 83, us' 84, us' 85, us' 86, us' 87, us' 88, us' 89, us' 90, us' 91, us' 92, us' 93, us' 94, us' 95, us' 96, us' 97, us' 98, us' 99, us' 100, us' 101, us' 102, us' 103, us' 104, us' 105, us' 106, us' 107, us' 108, us' 109, us' 110, us' 111, us' 112, us' 113, us' 114, us' 115, us' 116, us' 117, us' 118, us' 119, us' 120, us' 121, us' 122, us' 123, us' 124, us' 125, us' 126, us' 127, us' 128, us' 129, us' 130, us' 131, us' 132, us' 133, us' 134, us' 135, us' 136, us' 137, us' 138, us' 139, us' 140] = _
        rw [t0, t1, t2, t3, t5, t6, t7, t8, t17, t18, t19, t20, t21, t22, t23, t58]
      rw [el] at ha'
      subst ha'
      clear hus t0 t1 t2 t3 t5 t6 t7 t8 t17 t18 t19 t20 t21 t22 t23 t58 el hf' hs' hd'
      have HF5 := Lib.hid (HF5.out.keep hW)
      have HPkk := Lib.hid (HPkk.out.below (Nat.le_refl _) hW)
      have HBx := Lib.hid (HBx.out.trans (hW.mono HBx.out.size))
      clear hW hG PRoot PRight HSl HF7
      have hstart2 : Gr2At n hs i Pk Wb (.int .i64 0) (.int .i64 0) Wb := ⟨0, 0, Nat.zero_le _, Nat.zero_le _, rfl, rfl, by rw [List.drop_zero, List.drop_zero]; exact HPk.out, Below.refl _ _⟩
      have HStart2 := Lib.hid hstart2
      clear hstart2
      go_wp2
      go_loopw [9, 10] (fun s9 s10 wr => Gr2At n hs i Pk Wb s9 s10 wr) (fun _ s10 _ => p - (intOf s10).toNat)
      case atStart => exact HStart2.out
      case round =>
        obtain ⟨t, k, hti, hkp, rfl, rfl, hdr, hb2⟩ := hrel
        obtain ⟨w2, rfl⟩ : ∃ w2 : World, w2 = wr := ⟨_, rfl⟩
        have HF52 := Lib.hid (HF5.out.keep hb2)
        have HPk2 := Lib.hid (HPkk.out.below (Nat.le_refl _) hb2)
        have HB2 := Lib.hid hb2
        have HBx2 := Lib.hid (HBx.out.trans (hb2.mono HBx.out.size))
        have HW2s := Lib.hid (show w.heap.size ≤ w2.heap.size from HBx2.out.size)
        have HDr := Lib.hid hdr
        have hkp2 : k ≤ p := by rw [HPp.out]; exact hkp
        clear hdr hb2 hkp HStart2
        by_cases hkk : k < p
        · have hd1 : t < i := by
            rcases Nat.lt_or_ge t i with h | h
            · exact h
            · exfalso
              have h1 := HDr.out
              rw [List.drop_of_length_le (l := hs.take i) (by rw [HTl.out]; exact h), peaks_nil] at h1
              have h2 := congrArg List.length h1
              rw [List.length_drop, ← HPp.out] at h2
              simp at h2
              omega
          obtain ⟨d, hd⟩ : ∃ d : Nat, (i : Int) - (t : Int) = (d : Int) := ⟨i - t, by omega⟩
          have HDd := Lib.hid (show d = i - t by omega)
          have hdb : 1 ≤ d ∧ d ≤ 70 := by omega
          obtain ⟨Y, hY⟩ : ∃ Y, Pk[k]? = some Y := ⟨Pk[k]'(by rw [← HPp.out]; exact hkk), List.getElem?_eq_getElem _⟩
          obtain ⟨pad, rfl, _⟩ := HPk2.out.load hY
          have hY32 := HPk2.out.all.get hY
          have c1 : w2.cell? ⟨g5, 1, none⟩ = some (.slice (some pad) p pc) := by rw [HF52.out.cell]; rfl
          have HYd := Lib.hid hY
          have HY := Lib.hid hY32
          clear hY hY32
          go_wp2
          clear c1
          have hstart3 : Gr3At d w2 (.int .i64 1) w2 := ⟨1, 0, rfl, hdb.1, rfl, rfl⟩
          have HStart3 := Lib.hid hstart3
          clear hstart3
          go_loopw [11] (fun s11 w3 => Gr3At d w2 s11 w3) (fun s11 _ => d - (intOf s11).toNat)
          case atStart => exact HStart3.out
          case round =>
            obtain ⟨q, j, hq, hqd, rfl, hw3⟩ := hrel
            obtain rfl : w2 = wr := hw3.symm
            have HQ := Lib.hid hq
            have hq1 : 1 ≤ q := by rw [hq]; exact Nat.pow_pos (by decide)
            have hqb : q ≤ 70 := by omega
            obtain ⟨q2, hq2⟩ : ∃ q2 : Nat, (q : Int) * 2 = (q2 : Int) := ⟨q * 2, by omega⟩
            have HQ2 := Lib.hid (show q2 = q * 2 by omega)
            have hq2b : q2 ≤ 140 := by omega
            clear hq HStart3
            by_cases hqq : q2 ≤ d
            · go_wp2
              go_roundw
              case rel => exact ⟨q2, j + 1, by rw [HQ2.out, HQ.out, Nat.pow_succ], hqq, rfl, rfl⟩
              case measure =>
                have := HQ2.out
                simp [intOf]
                omega
            · obtain ⟨e1, he1⟩ : ∃ e1 : Nat, (t : Int) + (q : Int) = (e1 : Int) := ⟨t + q, by omega⟩
              have hE1n : e1 = t + q := by omega
              have he1i : e1 ≤ i := by have := HDd.out; omega
              obtain ⟨vs, hvs⟩ : ∃ vs, vs = sliced a t e1 c 32 := ⟨_, rfl⟩
              have hrl : ((hs.take i).drop t).length = d := by rw [List.length_drop, HTl.out, HDd.out]
              have htop := peaks_top n _ ((hs.take i).drop t) j rfl (by rw [hrl, ← HQ.out]; exact hqd) (by rw [hrl, ← HQ.out]; have := HQ2.out; omega)
              rw [← HDr.out, ← HQ.out] at htop
              have hYr : Y = rootH n (((hs.take i).drop t).take q) := by
                obtain ⟨h1, h2⟩ := List.getElem?_eq_some_iff.1 HYd.out
                rw [List.drop_eq_getElem_cons h1, h2] at htop
                exact (List.cons.inj htop).1
              have hdr2 : Pk.drop (k + 1) = peaks n ((hs.take i).drop e1) := by
                obtain ⟨h1, h2⟩ := List.getElem?_eq_some_iff.1 HYd.out
                rw [List.drop_eq_getElem_cons h1] at htop
                rw [(List.cons.inj htop).2, List.drop_drop, hE1n]
              have hsub : ((hs.take i).drop t).take q = (hs.take e1).drop t := by
                rw [List.take_drop, List.take_take, ← hE1n, show min e1 i = e1 by omega]
              have h1s : Hss w vs ((hs.take e1).drop t) := by rw [hvs]; exact HV.out.sub t e1 (by omega) (by omega)
              have HDr2 := Lib.hid hdr2
              have HE1 := Lib.hid he1
              have HE1b := Lib.hid (show -4611686018427387904 ≤ (e1 : Int) ∧ (e1 : Int) ≤ 4611686018427387904 by omega)
              have HSl := Lib.hid (fun (W : World) => show (Instr.sliceAt 30 (.slice a M c) (some (.int .i64 (t : Int))) (some (.int .i64 (e1 : Int))) none).run Tryd.prog W = .ok vs W by rw [hvs]; exact slice_hs_mid a M c t e1 (by omega) (by omega) W)
              have PRoot := Lib.hid (fun (W : World) (hW : Below w2.heap.size w2 W) => HP.out.root n ((hs.take e1).drop t) vs W HN.out (h1s.below (Nat.le_refl _) (HBx2.out.trans (hW.mono HBx2.out.size))) (by rw [List.length_drop, List.length_take]; omega) (HT.out.below (Nat.le_refl _) (HBx2.out.trans (hW.mono HBx2.out.size))))
              rw [← hsub, ← hYr] at PRoot
              have HIx := Lib.hid (fun W => hss_index W pad p pc k hkk)
              have HLd := Lib.hid (fun (W : World) (hW : Below w2.heap.size w2 W) => load_hash W (pad.add (k * 32)) Y HY.out fun j u hj => by
                obtain ⟨ad2, e, h⟩ := (HPk2.out.below (Nat.le_refl _) hW).load HYd.out
                cases e
                exact h j u hj)
              have HF5 := HF52
              have hG : ∀ W W' : World, Below w2.heap.size w2 W → Below W.heap.size W W' → Below w2.heap.size w2 W' := fun W W' h h' => h.trans (h'.mono h.size)
              clear htop hYr hdr2 hsub h1s hvs hrl hE1n
              go_upto_region 19 with fail
              refine region_by [(74, .is (.pointer (some ⟨g5, 1, none⟩))), (75, .is (.slice (some pad) p pc)), (76, .is (.int .i64 (k : Int))), (77, .is (.pointer (some (pad.add (k * 32))))), (78, .is (.agg (bs Y))), (79, .is (.int .i64 n)), (80, .is (.slice a M c)), (81, .is (.int .i64 (t : Int))), (82, .is (.int .i64 (t : Int))), (83, .is (.int .i64 (q : Int))), (84, .is (.int .i64 (e1 : Int))), (85, .is vs), (86, .is (.agg (bs Y))), (87, .is (.bool false))] [0, 1, 2, 3, 5, 6, 7, 8, 9, 10, 11, 12, 13, 14, 15, 16, 17, 18, 19, 20, 21, 22, 23, 24, 25, 26, 27, 28, 29, 30, 31, 32, 33, 34, 35, 36, 37, 38, 39, 40, 41, 42, 43, 44, 45, 46, 47, 48, 49, 50, 51, 52, 53, 54, 55, 56, 57, 58, 87, 91, 92, 93, 94, 95, 96, 97, 98, 99, 100, 101, 102, 103, 104, 105, 106, 107, 108, 109, 110, 111, 112, 113, 114, 115, 116, 117, 118, 119, 120, 121, 122, 123, 124, 125, 126, 127, 128, 129, 130, 131, 132, 133, 134, 135, 136, 137, 138, 139, 140] (fun W => Below w2.heap.size w2 W) (by kernel_rfl) (by kernel_rfl) (by kernel_rfl) (by kernel_rfl) (by kernel_rfl) ((Below.refl _ _).drew) ?_ ?_
              · refine ⟨?c0, ?c1, ?c2, ?c3, ?c4, ?c5, ?c6, ?c7, ?c8, ?c9, ?c10, ?c11, ?c12, ?c13, trivial⟩
                case c0 => exact ask_field (guard_none rfl) _ (.tmp 5) 1 (.pointer (some ⟨g5, 0, none⟩)) (.pointer (some ⟨g5, 1, none⟩)) rfl rfl (by intro k hk; cases hk; rfl) (fun W => by kernel_rfl)
                case c1 => exact ask_load (guard_none rfl) _ (.tmp 74) (.pointer (some ⟨g5, 1, none⟩)) (.slice (some pad) p pc) rfl rfl (by intro k hk; cases hk; rfl) (fun W hW => load_hl W _ _ (by rw [(HF5.out.keep hW).cell]; rfl))
                case c2 => exact ask_copy (guard_none rfl) (.tmp 10) (.inl rfl) (by intro k hk; cases hk; rfl)
                case c3 => exact ask_idx (guard_none rfl) _ (.tmp 75) (.tmp 76) (.slice (some pad) p pc) (.int .i64 (k : Int)) (.pointer (some (pad.add (k * 32)))) rfl rfl rfl (by intro k hk; cases hk; rfl) HIx.out
                case c4 => exact ask_load (guard_none rfl) _ (.tmp 77) (.pointer (some (pad.add (k * 32)))) (.agg (bs Y)) rfl rfl (by intro k hk; cases hk; rfl) (fun W hW => HLd.out W hW)
                case c5 => exact ask_copy (guard_none rfl) (.tmp 0) (.inl rfl) (by intro k hk; cases hk; rfl)
                case c6 => exact ask_copy (guard_none rfl) (.tmp 1) (.inl rfl) (by intro k hk; cases hk; rfl)
                case c7 => exact ask_copy (guard_none rfl) (.tmp 9) (.inl rfl) (by intro k hk; cases hk; rfl)
                case c8 => exact ask_copy (guard_none rfl) (.tmp 9) (.inl rfl) (by intro k hk; cases hk; rfl)
                case c9 => exact ask_copy (guard_none rfl) (.tmp 11) (.inl rfl) (by intro k hk; cases hk; rfl)
                case c10 => exact ask_bin (guard_none rfl) .add _ _ (.tmp 82) (.tmp 83) (.int .i64 (t : Int)) (.int .i64 (q : Int)) (.int .i64 (e1 : Int)) rfl rfl rfl (by intro k hk; cases hk; rfl) (fun W => add_i64 _ _ _ _ _ _ HE1.out HE1b.out W)
                case c11 => exact ask_slice (guard_none rfl) _ (.tmp 80) (some (.tmp 81)) (some (.tmp 84)) none (.slice a M c) vs (some (.int .i64 (t : Int))) (some (.int .i64 (e1 : Int))) none rfl rfl rfl rfl rfl (by intro k hk; cases hk; rfl) (HSl.out)
                case c12 => exact ask_call hG (guard_none rfl) _ _ _ #[.int .i64 n, vs] (.is (.agg (bs Y))) rfl (by kernel_rfl) rfl rfl (by intro k hk; cases hk; rfl) (fun W hW => (PRoot.out W hW).mono fun e w' h => ⟨_, h.1, rfl, h.2⟩)
                case c13 => exact ask_bin (guard_none rfl) .neq _ _ (.tmp 78) (.tmp 86) (.agg (bs Y)) (.agg (bs Y)) (.bool false) rfl rfl rfl (by intro k hk; cases hk; rfl) (neq_hash _ _ Y HY.out)
              · intro a' Wc hW hd' hs' hf'
                have t0 : a'.tmps.getD 0 undef = .int .i64 n := hf' 0 rfl
                have t1 : a'.tmps.getD 1 undef = .slice a M c := hf' 1 rfl
                have t2 : a'.tmps.getD 2 undef = undef := hf' 2 rfl
                have t3 : a'.tmps.getD 3 undef = undef := hf' 3 rfl
                have t5 : a'.tmps.getD 5 undef = .pointer (some ⟨g5, 0, none⟩) := hf' 5 rfl
                have t6 : a'.tmps.getD 6 undef = .int .i64 (i : Int) := hf' 6 rfl
                have t7 : a'.tmps.getD 7 undef = .pointer (some ⟨g7, 0, none⟩) := hf' 7 rfl
                have t8 : a'.tmps.getD 8 undef = .int .i64 0 := hf' 8 rfl
                have t9 : a'.tmps.getD 9 undef = .int .i64 (t : Int) := hf' 9 rfl
                have t10 : a'.tmps.getD 10 undef = .int .i64 (k : Int) := hf' 10 rfl
                have t11 : a'.tmps.getD 11 undef = .int .i64 (q : Int) := hf' 11 rfl
                have t12 : a'.tmps.getD 12 undef = us' 12 := hf' 12 rfl
                have t13 : a'.tmps.getD 13 undef = us' 13 := hf' 13 rfl
                have t14 : a'.tmps.getD 14 undef = us' 14 := hf' 14 rfl
                have t15 : a'.tmps.getD 15 undef = us' 15 := hf' 15 rfl
                have t16 : a'.tmps.getD 16 undef = us' 16 := hf' 16 rfl
                have t17 : a'.tmps.getD 17 undef = .bool true := hf' 17 rfl
                have t18 : a'.tmps.getD 18 undef = .bool false := hf' 18 rfl
                have t19 : a'.tmps.getD 19 undef = .slice a m c := hf' 19 rfl
                have t20 : a'.tmps.getD 20 undef = .int .i64 (m : Int) := hf' 20 rfl
                have t21 : a'.tmps.getD 21 undef = .bool true := hf' 21 rfl
                have t22 : a'.tmps.getD 22 undef = .slice a m c := hf' 22 rfl
                have t23 : a'.tmps.getD 23 undef = .slice a M c := hf' 23 rfl
                have t24 : a'.tmps.getD 24 undef = us' 24 := hf' 24 rfl
                have t25 : a'.tmps.getD 25 undef = us' 25 := hf' 25 rfl
                have t26 : a'.tmps.getD 26 undef = us' 26 := hf' 26 rfl
                have t27 : a'.tmps.getD 27 undef = us' 27 := hf' 27 rfl
                have t28 : a'.tmps.getD 28 undef = us' 28 := hf' 28 rfl
                have t29 : a'.tmps.getD 29 undef = us' 29 := hf' 29 rfl
                have t30 : a'.tmps.getD 30 undef = us' 30 := hf' 30 rfl
                have t31 : a'.tmps.getD 31 undef = us' 31 := hf' 31 rfl
                have t32 : a'.tmps.getD 32 undef = us' 32 := hf' 32 rfl
                have t33 : a'.tmps.getD 33 undef = us' 33 := hf' 33 rfl
                have t34 : a'.tmps.getD 34 undef = us' 34 := hf' 34 rfl
                have t35 : a'.tmps.getD 35 undef = us' 35 := hf' 35 rfl
                have t36 : a'.tmps.getD 36 undef = us' 36 := hf' 36 rfl
                have t37 : a'.tmps.getD 37 undef = us' 37 := hf' 37 rfl
                have t38 : a'.tmps.getD 38 undef = us' 38 := hf' 38 rfl
                have t39 : a'.tmps.getD 39 undef = us' 39 := hf' 39 rfl
                have t40 : a'.tmps.getD 40 undef = us' 40 := hf' 40 rfl
                have t41 : a'.tmps.getD 41 undef = us' 41 := hf' 41 rfl
                have t42 : a'.tmps.getD 42 undef = us' 42 := hf' 42 rfl
                have t43 : a'.tmps.getD 43 undef = us' 43 := hf' 43 rfl
                have t44 : a'.tmps.getD 44 undef = us' 44 := hf' 44 rfl
                have t45 : a'.tmps.getD 45 undef = us' 45 := hf' 45 rfl
                have t46 : a'.tmps.getD 46 undef = us' 46 := hf' 46 rfl
                have t47 : a'.tmps.getD 47 undef = us' 47 := hf' 47 rfl
                have t48 : a'.tmps.getD 48 undef = us' 48 := hf' 48 rfl
                have t49 : a'.tmps.getD 49 undef = us' 49 := hf' 49 rfl
                have t50 : a'.tmps.getD 50 undef = us' 50 := hf' 50 rfl
                have t51 : a'.tmps.getD 51 undef = us' 51 := hf' 51 rfl
                have t52 : a'.tmps.getD 52 undef = us' 52 := hf' 52 rfl
                have t53 : a'.tmps.getD 53 undef = us' 53 := hf' 53 rfl
                have t54 : a'.tmps.getD 54 undef = us' 54 := hf' 54 rfl
                have t55 : a'.tmps.getD 55 undef = us' 55 := hf' 55 rfl
                have t56 : a'.tmps.getD 56 undef = us' 56 := hf' 56 rfl
                have t57 : a'.tmps.getD 57 undef = us' 57 := hf' 57 rfl
                have t58 : a'.tmps.getD 58 undef = .bool false := hf' 58 rfl
                have t87 : a'.tmps.getD 87 undef = .bool false := hf' 87 rfl
                have t91 : a'.tmps.getD 91 undef = us' 91 := hf' 91 rfl
                have t92 : a'.tmps.getD 92 undef = us' 92 := hf' 92 rfl
                have t93 : a'.tmps.getD 93 undef = us' 93 := hf' 93 rfl
                have t94 : a'.tmps.getD 94 undef = us' 94 := hf' 94 rfl
                have t95 : a'.tmps.getD 95 undef = us' 95 := hf' 95 rfl
                have t96 : a'.tmps.getD 96 undef = us' 96 := hf' 96 rfl
                have t97 : a'.tmps.getD 97 undef = us' 97 := hf' 97 rfl
                have t98 : a'.tmps.getD 98 undef = us' 98 := hf' 98 rfl
                have t99 : a'.tmps.getD 99 undef = us' 99 := hf' 99 rfl
                have t100 : a'.tmps.getD 100 undef = us' 100 := hf' 100 rfl
                have t101 : a'.tmps.getD 101 undef = us' 101 := hf' 101 rfl
                have t102 : a'.tmps.getD 102 undef = us' 102 := hf' 102 rfl
                have t103 : a'.tmps.getD 103 undef = us' 103 := hf' 103 rfl
                have t104 : a'.tmps.getD 104 undef = us' 104 := hf' 104 rfl
                have t105 : a'.tmps.getD 105 undef = us' 105 := hf' 105 rfl
                have t106 : a'.tmps.getD 106 undef = us' 106 := hf' 106 rfl
                have t107 : a'.tmps.getD 107 undef = us' 107 := hf' 107 rfl
                have t108 : a'.tmps.getD 108 undef = us' 108 := hf' 108 rfl
                have t109 : a'.tmps.getD 109 undef = us' 109 := hf' 109 rfl
                have t110 : a'.tmps.getD 110 undef = us' 110 := hf' 110 rfl
                have t111 : a'.tmps.getD 111 undef = us' 111 := hf' 111 rfl
                have t112 : a'.tmps.getD 112 undef = us' 112 := hf' 112 rfl
                have t113 : a'.tmps.getD 113 undef = us' 113 := hf' 113 rfl
                have t114 : a'.tmps.getD 114 undef = us' 114 := hf' 114 rfl
                have t115 : a'.tmps.getD 115 undef = us' 115 := hf' 115 rfl
                have t116 : a'.tmps.getD 116 undef = us' 116 := hf' 116 rfl
                have t117 : a'.tmps.getD 117 undef = us' 117 := hf' 117 rfl
                have t118 : a'.tmps.getD 118 undef = us' 118 := hf' 118 rfl
                have t119 : a'.tmps.getD 119 undef = us' 119 := hf' 119 rfl
                have t120 : a'.tmps.getD 120 undef = us' 120 := hf' 120 rfl
                have t121 : a'.tmps.getD 121 undef = us' 121 := hf' 121 rfl
                have t122 : a'.tmps.getD 122 undef = us' 122 := hf' 122 rfl
                have t123 : a'.tmps.getD 123 undef = us' 123 := hf' 123 rfl
                have t124 : a'.tmps.getD 124 undef = us' 124 := hf' 124 rfl
                have t125 : a'.tmps.getD 125 undef = us' 125 := hf' 125 rfl
                have t126 : a'.tmps.getD 126 undef = us' 126 := hf' 126 rfl
                have t127 : a'.tmps.getD 127 undef = us' 127 := hf' 127 rfl
                have t128 : a'.tmps.getD 128 undef = us' 128 := hf' 128 rfl
                have t129 : a'.tmps.getD 129 undef = us' 129 := hf' 129 rfl
                have t130 : a'.tmps.getD 130 undef = us' 130 := hf' 130 rfl
                have t131 : a'.tmps.getD 131 undef = us' 131 := hf' 131 rfl
                have t132 : a'.tmps.getD 132 undef = us' 132 := hf' 132 rfl
                have t133 : a'.tmps.getD 133 undef = us' 133 := hf' 133 rfl
                have t134 : a'.tmps.getD 134 undef = us' 134 := hf' 134 rfl
                have t135 : a'.tmps.getD 135 undef = us' 135 := hf' 135 rfl
                have t136 : a'.tmps.getD 136 undef = us' 136 := hf' 136 rfl
                have t137 : a'.tmps.getD 137 undef = us' 137 := hf' 137 rfl
                have t138 : a'.tmps.getD 138 undef = us' 138 := hf' 138 rfl
                have t139 : a'.tmps.getD 139 undef = us' 139 := hf' 139 rfl
                have t140 : a'.tmps.getD 140 undef = us' 140 := hf' 140 rfl
                obtain ⟨vs', hus, ha'⟩ := act_open 141 a' hs' hd'
                rw [← hus] at t0 t1 t2 t3 t5 t6 t7 t8 t9 t10 t11 t12 t13 t14 t15 t16 t17 t18 t19 t20 t21 t22 t23 t24 t25 t26 t27 t28 t29 t30 t31 t32 t33 t34 t35 t36 t37 t38 t39 t40 t41 t42 t43 t44 t45 t46 t47 t48 t49 t50 t51 t52 t53 t54 t55 t56 t57 t58 t87 t91 t92 t93 t94 t95 t96 t97 t98 t99 t100 t101 t102 t103 t104 t105 t106 t107 t108 t109 t110 t111 t112 t113 t114 t115 t116 t117 t118 t119 t120 t121 t122 t123 t124 t125 t126 t127 t128 t129 t130 t131 t132 t133 t134 t135 t136 t137 t138 t139 t140
                have el : ((List.range 141).map vs').toArray = #[.int .i64 n, .slice a M c, undef, undef, vs' 4, .pointer (some ⟨g5, 0, none⟩), .int .i64 (i : Int), .pointer (some ⟨g7, 0, none⟩), .int .i64 0, .int .i64 (t : Int), .int .i64 (k : Int), .int .i64 (q : Int), us' 12, us' 13, us' 14, us' 15, us' 16, .bool true, .bool false, .slice a m c, .int .i64 (m : Int), .bool true, .slice a m c, .slice a M c, us' 24, us' 25, us' 26, us' 27, us' 28, us' 29, us' 30, us' 31, us' 32, us' 33, us' 34, us' 35, us' 36, us' 37, us' 38, us' 39, us' 40, us' 41, us' 42, us' 43, us' 44, us' 45, us' 46, us' 47, us' 48, us' 49, us' 50, us' 51, us' 52, us' 53, us' 54, us' 55, us' 56, us' 57, .bool false, vs' 59, vs' 60, vs' 61, vs' 62, vs' 63, vs' 64, vs' 65, vs' 66, vs' 67, vs' 68, vs' 69, vs' 70, vs' 71, vs' 72, vs' 73, vs' 74, vs' 75, vs' 76, vs' 77, vs' 78, vs' 79, vs' 80, vs' 81, vs' 82, vs' 83, vs' 84, vs' 85, vs' 86, .bool false, vs' 88, vs' 89, vs' 90, us' 91, us' 92, us' 93, us' 94, us' 95, us' 96, us' 97, us' 98, us' 99, us' 100, us' 101, us' 102, us' 103, us' 104, us' 105, us' 106, us' 107, us' 108, us' 109, us' 110, us' 111, us' 112, us' 113, us' 114, us' 115, us' 116, us' 117, us' 118, us' 119, us' 120, us' 121, us' 122, us' 123, us' 124, us' 125, us' 126, us' 127, us' 128, us' 129, us' 130, us' 131, us' 132, us' 133, us' 134, us' 135, us' 136, us' 137, us' 138, us' 139, us' 140] := by
                  show #[vs' 0, vs' 1, vs' 2, vs' 3, vs' 4, vs' 5, vs' 6, vs' 7, vs' 8, vs' 9, vs' 10, vs' 11, vs' 12, vs' 13, vs' 14, vs' 15, vs' 16, vs' 17, vs' 18, vs' 19, vs' 20, vs' 21, vs' 22, vs' 23, vs' 24, vs' 25, vs' 26, vs' 27, vs' 28, vs' 29, vs' 30, vs' 31, vs' 32, vs' 33, vs' 34, vs' 35, vs' 36, vs' 37, vs' 38, vs' 39, vs' 40, vs' 41, vs' 42, vs' 43, vs' 44, vs' 45, vs' 46, vs' 47, vs' 48, vs' 49, vs' 50, vs' 51, vs' 52, vs' 53, vs' 54, vs' 55, vs' 56, vs' 57, vs' 58, vs' 59, vs' 60, vs' 61, vs' 62, vs' 63, vs' 64, vs' 65, vs' 66, vs' 67, vs' 68, vs' 69, vs' 70, vs' 71, vs' 72, vs' 73, vs' 74, vs' 75, vs' 76, vs' 77, vs' 78, vs' 79, vs' 80, vs' 81, vs' 82, vs' 83, vs' 84, vs' 85, vs' 86, vs' 87, vs' 88, vs' 89, vs' 90, vs' 91, vs' 92, vs' 93, vs' 94, vs' 95, vs' 96, vs' 97, vs' 98, vs' 99, vs' 100, vs' 101, vs' 102, vs' 103, vs' 104, vs' 105, vs' 106, vs' 107, vs' 108, vs' 109, vs' 110, vs' 111, vs' 112, vs' 113, vs' 114, vs' 115, vs' 116, vs' 117, vs' 118, vs' 119, vs' 120, vs' 121, vs' 122, vs' 123, vs' 124, vs' 125, vs' 126, vs' 127, vs' 128, vs' 129, vs' 130, vs' 131, vs' 132, vs' 133, vs' 134, vs' 135, vs' 136, vs' 137, vs' 138, vs' 139, vs' 140] = _
                  rw [t0, t1, t2, t3, t5, t6, t7, t8, t9, t10, t11, t12, t13, t14, t15, t16, t17, t18, t19, t20, t21, t22, t23, t24, t25, t26, t27, t28, t29, t30, t31, t32, t33, t34, t35, t36, t37, t38, t39, t40, t41, t42, t43, t44, t45, t46, t47, t48, t49, t50, t51, t52, t53, t54, t55, t56, t57, t58, t87, t91, t92, t93, t94, t95, t96, t97, t98, t99, t100, t101, t102, t103, t104, t105, t106, t107, t108, t109, t110, t111, t112, t113, t114, t115, t116, t117, t118, t119, t120, t121, t122, t123, t124, t125, t126, t127, t128, t129, t130, t131, t132, t133, t134, t135, t136, t137, t138, t139, t140]
                rw [el] at ha'
                subst ha'
                clear hus t0 t1 t2 t3 t5 t6 t7 t8 t9 t10 t11 t12 t13 t14 t15 t16 t17 t18 t19 t20 t21 t22 t23 t24 t25 t26 t27 t28 t29 t30 t31 t32 t33 t34 t35 t36 t37 t38 t39 t40 t41 t42 t43 t44 t45 t46 t47 t48 t49 t50 t51 t52 t53 t54 t55 t56 t57 t58 t87 t91 t92 t93 t94 t95 t96 t97 t98 t99 t100 t101 t102 t103 t104 t105 t106 t107 t108 t109 t110 t111 t112 t113 t114 t115 t116 t117 t118 t119 t120 t121 t122 t123 t124 t125 t126 t127 t128 t129 t130 t131 t132 t133 t134 t135 t136 t137 t138 t139 t140 el hf' hs' hd'
                have HWc := Lib.hid hW
                clear hW hG PRoot HIx HLd HSl
                have he1' := HE1.out
                go_wp2
                go_roundw
                case rel => exact ⟨e1, k + 1, he1i, by have := HPp.out; omega, rfl, by simp, HDr2.out, HB2.out.trans (HWc.out.mono HB2.out.size)⟩
                case measure => simp [intOf]; omega
        · obtain rfl : p = k := by omega
          have hend : i = t := by
            have h1 := HDr.out
            rw [List.drop_of_length_le (l := Pk) (by rw [HPp.out]; exact Nat.le_refl _)] at h1
            rcases Nat.lt_or_ge t i with h | h
            · exfalso
              have h2 := peaks_length n _ ((hs.take i).drop t) rfl
              rw [← h1, List.length_drop, HTl.out] at h2
              have h3 := ones_pos (i - t) (by omega)
              simp at h2
              omega
            · omega
          subst hend
          have c1 : w2.cell? ⟨g5, 1, none⟩ = some (.slice pa p pc) := by rw [HF52.out.cell]; rfl
          by_cases hend2 : i = M
          · go_wp2
            go_ret
            exact ⟨rfl, HBx2.out⟩
          · have hlt : i < M := by omega
            have hne : ¬ (i : Int) = (M : Int) := by omega
            obtain ⟨y, hy⟩ : ∃ y, hs[i]? = some y := ⟨hs[i]'(by have := HM.out; omega), List.getElem?_eq_getElem _⟩
            obtain ⟨lad, rfl, _⟩ := HV.out.load hy
            have hy32 := HV.out.all.get hy
            obtain ⟨S1, hS1⟩ : ∃ S1, S1 = i + 1 := ⟨_, rfl⟩
            have hpk1 : peaks n (hs.take (i + 1)) = merge n i Pk y := by
              obtain ⟨q1, q2⟩ := List.getElem?_eq_some_iff.1 hy
              rw [List.take_succ_eq_append_getElem q1, q2, peaks_push n _ _ y rfl, HTl.out, ← HPk.out]
            obtain ⟨Q1, hQ1⟩ : ∃ Q, Q = merge n i Pk y := ⟨_, rfl⟩
            obtain ⟨seven, hseven⟩ : ∃ x : Hs, x = 7 :: List.replicate 31 0 := ⟨_, rfl⟩
            have h7l : seven.length = 32 := by rw [hseven]; rfl
            obtain ⟨Q7, hQ7⟩ : ∃ Q, Q = merge n i Pk seven := ⟨_, rfl⟩
            have hi63 : i < 9223372036854775808 := by omega
            have hr7 : pushR n i Pk seven = ((S1, Q7), 0) := by rw [pushR, if_pos ⟨HPl.out, hi63⟩, hS1, hQ7]
            have hr1 : pushR n i Pk y = ((S1, Q1), 0) := by rw [pushR, if_pos ⟨HPl.out, hi63⟩, hS1, hQ1]
            have hQ7pos : 0 < Q7.length := by rw [hQ7]; exact merge_pos _ _ _ _
            have hQ7len : Q7.length ≤ 65 := by rw [hQ7]; have := merge_len n i Pk seven; have := HPp.out; omega
            have P7 := Lib.hid (HRng.out.push n i (.slice pa p pc) Pk seven w2 HN.out HPk2.out h7l (by omega) (by have := HPp.out; omega) (HT.out.below (Nat.le_refl _) HBx2.out) (HBu.out.below (Nat.le_refl _) HBx2.out))
            simp only [hr7] at P7
            rw [hseven, show bs (7 :: List.replicate 31 0) = #[.int .u8 7, .int .u8 0, .int .u8 0, .int .u8 0, .int .u8 0, .int .u8 0, .int .u8 0, .int .u8 0, .int .u8 0, .int .u8 0, .int .u8 0, .int .u8 0, .int .u8 0, .int .u8 0, .int .u8 0, .int .u8 0, .int .u8 0, .int .u8 0, .int .u8 0, .int .u8 0, .int .u8 0, .int .u8 0, .int .u8 0, .int .u8 0, .int .u8 0, .int .u8 0, .int .u8 0, .int .u8 0, .int .u8 0, .int .u8 0, .int .u8 0, .int .u8 0] from rfl] at P7
            have HPush0 := Lib.hid (fun (W : World) (hW : Below w2.heap.size w2 W) => HRng.out.push n i (.slice pa p pc) Pk y W HN.out (HPk2.out.below (Nat.le_refl _) hW) hy32 (by omega) (by have := HPp.out; omega) (HT.out.below (Nat.le_refl _) (HBx2.out.trans (hW.mono HBx2.out.size))) (HBu.out.below (Nat.le_refl _) (HBx2.out.trans (hW.mono HBx2.out.size))))
            simp only [hr1] at HPush0
            have HS1 := Lib.hid hS1
            have HQ1 := Lib.hid (hpk1.trans hQ1.symm)
            have HQ7 := Lib.hid hQ7pos
            have HQ7l := Lib.hid hQ7len
            have HYy := Lib.hid hy
            have HY32 := Lib.hid hy32
            clear hy hy32 hS1 hpk1 hQ1 hseven h7l hQ7 hr7 hr1 hQ7pos hQ7len HF5 HPkk HBx HB2 HDr
            go_upto_region 24 with fail
            clear c1
            go_wp2_with (refine wpList_load_row rfl 36 (.tmp 5) rfl g5 rfl 36 (rngC i (.slice pa p pc)) (0, 0) _ HF52.out Tryd.underlying36 rfl (size_rng _ _) ?_)
            refine P7.out.mono ?_
            rintro e Y4 ⟨ov, rfl, hq, hb⟩
            obtain ⟨go, cur0, ho1, -, hgo, hbo, hoc, hcs⟩ : ∃ go cur, ov = .slice (some ⟨go, 0, none⟩) Q7.length (cur.size / 32) ∧ True ∧ w2.heap.size ≤ go ∧ Blk Y4 go 24 cur ∧ Q7.length ≤ cur.size / 32 ∧ cur.size = cur.size / 32 * 32 := by
              obtain ⟨oa, oc, e⟩ := hq.slice
              subst e
              obtain ⟨g, cur, q1, q2, q3, q4, q5, q6⟩ := hq.blk HQ7.out
              subst q1
              exact ⟨g, cur, by rw [q6, Nat.mul_div_cancel _ (by decide)], trivial, q3, q4, by rw [q6, Nat.mul_div_cancel _ (by decide)]; exact q5, by rw [q6, Nat.mul_div_cancel _ (by decide)]⟩
            subst ho1
            obtain ⟨oc, hocd⟩ : ∃ oc, oc = cur0.size / 32 := ⟨_, rfl⟩
            obtain ⟨on, hon⟩ : ∃ on, on = Q7.length := ⟨_, rfl⟩
            have h65 := HQ7l.out
            rw [← hon] at h65
            rw [← hocd, ← hon] at hoc
            rw [← hocd] at hcs
            rw [← hocd, ← hon]
            have HBo := Lib.hid hbo
            have HCs := Lib.hid hcs
            have HGo := Lib.hid hgo
            have HB4 := Lib.hid hb
            have honc : on ≤ oc := hoc
            have honb : on ≤ 65 := h65
            clear hq hb hbo hcs hgo hocd hon hoc h65 P7 HQ7 HQ7l
            go_upto_region 25 with (refine wpList_store_row rfl 36 (.tmp 12) (.tmp 103) rfl Y4.heap.size (rngC S1 (.slice (some ⟨go, 0, none⟩) on oc)) rfl rfl 36 _ (Blk.new Y4 _ _) (size_rng _ _) rfl (rng_one _ _ _ _) ?_)
            obtain ⟨g12, hg12⟩ : ∃ g, g = Y4.heap.size := ⟨_, rfl⟩
            have hnew := fun zs cs => HB4.out.trans ((below_new Y4 zs cs 36).mono HB4.out.size)
            refine world_cut (fun W => Blk W g12 36 (rngC S1 (.slice (some ⟨go, 0, none⟩) on oc)) ∧ Blk W go 24 cur0 ∧ Below w2.heap.size w2 W) ⟨by rw [hg12]; exact Blk.row (Blk.new Y4 _ _) _, HBo.out.keep (below_new Y4 _ _ _), hnew _ _⟩ ?_
            rw [← hg12]
            clear hg12 hnew HB4 HBo
            rintro W0 ⟨h12, hbo, hb⟩
            have HF12 := Lib.hid h12
            have HBo := Lib.hid hbo
            have HF5 := Lib.hid (HF52.out.keep hb)
            have HB02 := Lib.hid hb
            have HBx := Lib.hid (HBx2.out.trans (hb.mono HBx2.out.size))
            have HGo2 := Lib.hid (show go < W0.heap.size from hbo.lt)
            clear h12 hbo hb HF52 HPk2
            have PPush := Lib.hid (fun (W : World) (hW : Below W0.heap.size W0 W) => HPush0.out W (HB02.out.trans (hW.mono HB02.out.size)))
            have HIx := Lib.hid (fun W => hss_index W lad M c i hlt)
            have HLd := Lib.hid (fun (W : World) (hW : Below W0.heap.size W0 W) => load_hash W (lad.add (i * 32)) y HY32.out fun j u hj => by
              obtain ⟨ad2, e, h⟩ := (HV.out.below (Nat.le_refl _) (HBx.out.trans (hW.mono HBx.out.size))).load HYy.out
              cases e
              exact h j u hj)
            have hG : ∀ W W' : World, Below W0.heap.size W0 W → Below W.heap.size W W' → Below W0.heap.size W0 W' := fun W W' h h' => h.trans (h'.mono h.size)
            clear HPush0 HBx2 HB02
            refine region_fill_by 11 _ (fun b => [(14, (if b then filF W0.heap.size S1 Q1 else varF W0.heap.size 36 (rngC 0 (.slice none 0 0)))), (106, .is (.int .i64 n)), (107, .is (.agg (rngC i (.slice pa p pc)))), (108, .is (.slice (some lad) M c)), (109, .is (.int .i64 (i : Int))), (110, .is (.pointer (some (lad.add (i * 32))))), (111, .is (.agg (bs y))), (112, tupF W0.heap.size S1 Q1), (105, tupF W0.heap.size S1 Q1), (113, rng1F W0.heap.size S1 Q1), (114, .is (.int .i64 0)), (15, .is (.int .i64 0))]) [0, 1, 2, 3, 4, 5, 6, 12, 13, 14, 15, 17, 18, 19, 20, 21, 22, 23] (fun W => Below W0.heap.size W0 W) (by kernel_rfl) (by kernel_rfl) (by kernel_rfl) (by kernel_rfl) (by kernel_rfl) ((Below.refl _ _).drew) rfl rfl ?_ ?_ ?_
            · refine ⟨?c0, ?c1, ?c2, ?c3, ?c4, ?c5, ?c6, ?c7, ?c8, ?c9, ?c10, ?c11, ?c12, trivial⟩
              case c0 => exact .inr (.inl fun b => ask_copy (guard_none rfl) (.tmp 0) (.inl rfl) (by intro k hk; cases hk; rfl))
              case c1 => exact .inr (.inl fun b => ask_load (guard_none rfl) _ (.tmp 5) (.pointer (some ⟨g5, 0, none⟩)) (.agg (rngC i (.slice pa p pc))) rfl rfl (by intro k hk; cases hk; rfl) (fun W hW => (HF5.out.keep hW).loads 36 _ Tryd.underlying36 rfl (size_rng _ _)))
              case c2 => exact .inr (.inl fun b => ask_copy (guard_none rfl) (.tmp 1) (.inl rfl) (by intro k hk; cases hk; rfl))
              case c3 => exact .inr (.inl fun b => ask_copy (guard_none rfl) (.tmp 6) (.inl rfl) (by intro k hk; cases hk; rfl))
              case c4 => exact .inr (.inl fun b => ask_idx (guard_none rfl) _ (.tmp 108) (.tmp 109) (.slice (some lad) M c) (.int .i64 (i : Int)) (.pointer (some (lad.add (i * 32)))) rfl rfl rfl (by intro k hk; cases hk; rfl) HIx.out)
              case c5 => exact .inr (.inl fun b => ask_load (guard_none rfl) _ (.tmp 110) (.pointer (some (lad.add (i * 32)))) (.agg (bs y)) rfl rfl (by intro k hk; cases hk; rfl) (fun W hW => HLd.out W hW))
              case c6 => exact .inr (.inl fun b => ask_call hG (guard_none rfl) _ _ _ #[.int .i64 n, .agg (rngC i (.slice pa p pc)), .agg (bs y)] (tupF W0.heap.size S1 Q1) rfl (by kernel_rfl) rfl rfl (by intro k hk; cases hk; rfl) (fun W hW => (PPush.out W hW).mono fun e w' h => by obtain ⟨v', h1, h2, h3⟩ := h; exact ⟨_, h1, ⟨v', rfl, h2.lower hW.size⟩, h3⟩))
              case c7 => exact .inr (.inl fun b => ask_copy (guard_none rfl) (.tmp 112) (.inl rfl) (by intro k hk; cases hk; rfl))
              case c8 => exact .inr (.inl fun b => ask_extract0 hG (guard_none rfl) (.tmp 105) _ _ _ rfl rfl (by intro k hk; cases hk; rfl))
              case c9 => exact .inr (.inl fun b => ask_extract1 (guard_none rfl) (.tmp 105) _ _ _ rfl rfl (by intro k hk; cases hk; rfl))
              case c10 => exact .inr (.inr ⟨by kernel_rfl, ask_alloc hG (guard_none rfl) _ (.agg (rngC 0 (.slice none 0 0))) (varF W0.heap.size 36 (rngC 0 (.slice none 0 0))) rfl (fun W => by kernel_rfl) (by intro k hk; cases hk; rfl) (fun W hW => ⟨_, rfl, hW.size, Blk.new W _ _⟩)⟩)
              case c11 => exact .inl rfl
              case c12 => exact .inr (.inl fun b => ask_copy (guard_none rfl) (.tmp 114) (.inr rfl) (by intro k hk; cases hk; rfl))
            · intro x W hW hk
              obtain ⟨g, e1, e2, e3⟩ : ∃ g, x 14 = .pointer (some ⟨g, 0, none⟩) ∧ W0.heap.size ≤ g ∧ Blk W g 36 (rngC 0 (.slice none 0 0)) := hk 14 rfl
              obtain ⟨v', e4, e5⟩ : ∃ v', x 113 = .agg (rngC S1 v') ∧ OHs W W0.heap.size v' Q1 := hk 113 rfl
              obtain ⟨va, vc, rfl⟩ := e5.slice
              refine ⟨guard_ok (guard_none rfl) hk, gives_store 36 (.tmp 14) (.tmp 113) rfl (.pointer (some ⟨g, 0, none⟩)) (.agg (rngC S1 (.slice va Q1.length vc))) e1 e4 (e3.stores 36 _ (size_rng _ _) rfl (rng_one _ _ _ _)) ⟨below_setRow hW g _ e2, fun k _ hu => ?_⟩⟩
              by_cases h14 : k = 14
              · subst h14
                exact ⟨g, _, e1, e2, e3.row _, e5.farR e3⟩
              · simp only [factsOf_ne h14] at hu ⊢
                refine facts_keep (fun q hq u hu => ?_) k _ hu
                simp only [List.mem_cons, List.not_mem_nil, or_false] at hq
                rcases hq with rfl | rfl | rfl | rfl | rfl | rfl | rfl | rfl | rfl | rfl | rfl
                all_goals first
                  | exact hu
                  | (obtain ⟨v2, q1, q2⟩ := hu; exact ⟨v2, q1, q2.farR e3⟩)
            · intro a' We hW hd' hs' hf'
              have t14 : ∃ g v, a'.tmps.getD 14 undef = .pointer (some ⟨g, 0, none⟩) ∧ W0.heap.size ≤ g ∧ Blk We g 36 (rngC S1 v) ∧ OHs We W0.heap.size v Q1 := hf' 14 rfl
              have t0 : a'.tmps.getD 0 undef = .int .i64 n := hf' 0 rfl
              have t1 : a'.tmps.getD 1 undef = .slice (some lad) M c := hf' 1 rfl
              have t2 : a'.tmps.getD 2 undef = undef := hf' 2 rfl
              have t3 : a'.tmps.getD 3 undef = undef := hf' 3 rfl
              have t4 : a'.tmps.getD 4 undef = u4 := hf' 4 rfl
              have t5 : a'.tmps.getD 5 undef = .pointer (some ⟨g5, 0, none⟩) := hf' 5 rfl
              have t6 : a'.tmps.getD 6 undef = .int .i64 (i : Int) := hf' 6 rfl
              have t12 : a'.tmps.getD 12 undef = .pointer (some ⟨g12, 0, none⟩) := hf' 12 rfl
              have t13 : a'.tmps.getD 13 undef = .int .i64 0 := hf' 13 rfl
              have t15 : a'.tmps.getD 15 undef = .int .i64 0 := hf' 15 rfl
              have t17 : a'.tmps.getD 17 undef = .bool true := hf' 17 rfl
              have t18 : a'.tmps.getD 18 undef = .bool false := hf' 18 rfl
              have t19 : a'.tmps.getD 19 undef = .slice (some lad) m c := hf' 19 rfl
              have t20 : a'.tmps.getD 20 undef = .int .i64 (m : Int) := hf' 20 rfl
              have t21 : a'.tmps.getD 21 undef = .bool true := hf' 21 rfl
              have t22 : a'.tmps.getD 22 undef = .slice (some lad) m c := hf' 22 rfl
              have t23 : a'.tmps.getD 23 undef = .slice (some lad) M c := hf' 23 rfl
              obtain ⟨ws', hus, ha'⟩ := act_open 141 a' hs' hd'
              rw [← hus] at t14 t0 t1 t2 t3 t4 t5 t6 t12 t13 t15 t17 t18 t19 t20 t21 t22 t23
              have el : ((List.range 141).map ws').toArray = #[.int .i64 n, .slice (some lad) M c, undef, undef, u4, .pointer (some ⟨g5, 0, none⟩), .int .i64 (i : Int), ws' 7, ws' 8, ws' 9, ws' 10, ws' 11, .pointer (some ⟨g12, 0, none⟩), .int .i64 0, ws' 14, .int .i64 0, ws' 16, .bool true, .bool false, .slice (some lad) m c, .int .i64 (m : Int), .bool true, .slice (some lad) m c, .slice (some lad) M c, ws' 24, ws' 25, ws' 26, ws' 27, ws' 28, ws' 29, ws' 30, ws' 31, ws' 32, ws' 33, ws' 34, ws' 35, ws' 36, ws' 37, ws' 38, ws' 39, ws' 40, ws' 41, ws' 42, ws' 43, ws' 44, ws' 45, ws' 46, ws' 47, ws' 48, ws' 49, ws' 50, ws' 51, ws' 52, ws' 53, ws' 54, ws' 55, ws' 56, ws' 57, ws' 58, ws' 59, ws' 60, ws' 61, ws' 62, ws' 63, ws' 64, ws' 65, ws' 66, ws' 67, ws' 68, ws' 69, ws' 70, ws' 71, ws' 72, ws' 73, ws' 74, ws' 75, ws' 76, ws' 77, ws' 78, ws' 79, ws' 80, ws' 81, ws' 82, ws' 83, ws' 84, ws' 85, ws' 86, ws' 87, ws' 88, ws' 89, ws' 90, ws' 91, ws' 92, ws' 93, ws' 94, ws' 95, ws' 96, ws' 97, ws' 98, ws' 99, ws' 100, ws' 101, ws' 102, ws' 103, ws' 104, ws' 105, ws' 106, ws' 107, ws' 108, ws' 109, ws' 110, ws' 111, ws' 112, ws' 113, ws' 114, ws' 115, ws' 116, ws' 117, ws' 118, ws' 119, ws' 120, ws' 121, ws' 122, ws' 123, ws' 124, ws' 125, ws' 126, ws' 127, ws' 128, ws' 129, ws' 130, ws' 131, ws' 132, ws' 133, ws' 134, ws' 135, ws' 136, ws' 137, ws' 138, ws' 139, ws' 140] := by
                show #[ws' 0, ws' 1, ws' 2, ws' 3, ws' 4, ws' 5, ws' 6, ws' 7, ws' 8, ws' 9, ws' 10, ws' 11, ws' 12, ws' 13, ws' 14, ws' 15, ws' 16, ws' 17, ws' 18, ws' 19, ws' 20, ws' 21, ws' 22, ws' 23, ws' 24, ws' 25, ws' 26, ws' 27, ws' 28, ws' 29, ws' 30, ws' 31, ws' 32, ws' 33, ws' 34, ws' 35, ws' 36, ws' 37, ws' 38, ws' 39, ws' 40, ws' 41, ws' 42, ws' 43, ws' 44, ws' 45, ws' 46, ws' 47, ws' 48, ws' 49, ws' 50, ws' 51, ws' 52, ws' 53, ws' 54, ws' 55, ws' 56, ws' 57, ws' 58, ws' 59, ws' 60, ws' 61, ws' 62, ws' 63, ws' 64, ws' 65, ws' 66, ws' 67, ws' 68, ws' 69, ws' 70, ws' 71, ws' 72, ws' 73, ws' 74, ws' 75, ws' 76, ws' 77, ws' 78, ws' 79, ws' 80, ws' 81, ws' 82, ws' 83, ws' 84, ws' 85, ws' 86, ws' 87, ws' 88, ws' 89, ws' 90, ws' 91, ws' 92, ws' 93, ws' 94, ws' 95, ws' 96, ws' 97, ws' 98, ws' 99, ws' 100, ws' 101, ws' 102, ws' 103, ws' 104, ws' 105, ws' 106, ws' 107, ws' 108, ws' 109, ws' 110, ws' 111, ws' 112, ws' 113, ws' 114, ws' 115, ws' 116, ws' 117, ws' 118, ws' 119, ws' 120, ws' 121, ws' 122, ws' 123, ws' 124, ws' 125, ws' 126, ws' 127, ws' 128, ws' 129, ws' 130, ws' 131, ws' 132, ws' 133, ws' 134, ws' 135, ws' 136, ws' 137, ws' 138, ws' 139, ws' 140] = _
                rw [t0, t1, t2, t3, t4, t5, t6, t12, t13, t15, t17, t18, t19, t20, t21, t22, t23]
              rw [el] at ha'
              subst ha'
              clear hus t0 t1 t2 t3 t4 t5 t6 t12 t13 t15 t17 t18 t19 t20 t21 t22 t23 el hf' hs' hd'
              obtain ⟨g14, nv, e14, hg14, hb14, ho14⟩ := t14
              rw [e14]
              clear e14
              obtain ⟨na, nc, rfl⟩ := ho14.slice
              obtain ⟨nn, hnn⟩ : ∃ k, k = Q1.length := ⟨_, rfl⟩
              rw [← hnn] at hb14 ho14
              have hb12 := HF12.out.keep hW
              have c12 : We.cell? ⟨g12, 0, none⟩ = some (.int .u64 (S1 : Int)) := by rw [hb12.cell]; rfl
              have c14 : We.cell? ⟨g14, 0, none⟩ = some (.int .u64 (S1 : Int)) := by rw [hb14.cell]; rfl
              have hstart4 : Gr4At i w g5 g12 g14 go on oc na nn nc S1 Q1 W0.heap.size pa p pc (.int .i64 0) We := ⟨0, cur0, Nat.zero_le _, rfl, HBo.out.keep hW, HCs.out, hb12, hb14, ho14, HF5.out.keep hW, HBx.out.trans (hW.mono HBx.out.size)⟩
              have HStart4 := Lib.hid hstart4
              clear hstart4 hb12 hb14 ho14 hnn hW hG PPush HIx HLd HF12 HBo HF5 HBx
              go_wp2
              clear c12 c14
              go_loopw [16] (fun s16 wr => Gr4At i w g5 g12 g14 go on oc na nn nc S1 Q1 W0.heap.size pa p pc s16 wr) (fun s16 _ => on - (intOf s16).toNat)
              case atStart => exact HStart4.out
              case round =>
                obtain ⟨k, cur, hk, rfl, hbo, hcs, hb12, hb14, ho14, hb5, hbw⟩ := hrel
                have c1 : wr.cell? ⟨g12, 1, none⟩ = some (.slice (some ⟨go, 0, none⟩) on oc) := by rw [hb12.cell]; rfl
                clear HStart4
                by_cases hkk : k < on
                · have hix : ∀ W, (Instr.indexAt 30 (.slice (some ⟨go, 0, none⟩) on oc) (.int .i64 (k : Int))).run Tryd.prog W = .ok (.pointer (some ⟨go, k * 32, none⟩)) W := fun W => by
                    have h := hss_index W ⟨go, 0, none⟩ on oc k hkk
                    rwa [addr_add, Nat.zero_add] at h
                  obtain ⟨cur', hst, hcs'⟩ := store_hash hbo hcs (show k < oc by omega) (8 :: List.replicate 31 0) rfl
                  have HSt := Lib.hid hst
                  have hrow : Blk (wr.setRow go cur') go 24 cur' := hbo.row cur'
                  have n12 : g12 ≠ go := by
                    rintro rfl
                    unfold Blk at hb12 hbo
                    rw [hb12] at hbo
                    cases hbo
                  have n14 : g14 ≠ go := by
                    rintro rfl
                    unfold Blk at hb14 hbo
                    rw [hb14] at hbo
                    cases hbo
                  have n5 : g5 ≠ go := by
                    rintro rfl
                    unfold Blk at hb5 hbo
                    rw [hb5] at hbo
                    cases hbo
                  have hnext : Gr4At i w g5 g12 g14 go on oc na nn nc S1 Q1 W0.heap.size pa p pc (.int .i64 ((k + 1 : Nat) : Int)) (wr.setRow go cur') := ⟨k + 1, cur', hkk, rfl, hrow, hcs', hb12.rowOther _ n12, hb14.rowOther _ n14, ho14.farLow HGo2.out, hb5.rowOther _ n5, below_setRow hbw _ _ (by have := HGo.out; have := HW2s.out; omega)⟩
                  have HNext := Lib.hid hnext
                  clear hst hcs' hrow n12 n14 n5 hnext hbo hcs hb12 hb14 ho14 hb5 hbw
                  go_wp2_with (refine wpList_store_by rfl 24 (.tmp 139) (.tmp 138) rfl (.pointer (some ⟨go, k * 32, none⟩)) (.agg (bs (8 :: List.replicate 31 0))) rfl rfl _ HSt.out ?_)
                  go_roundw
                  case rel => exact HNext.out
                  case measure => simp [intOf]; omega
                · obtain rfl : on = k := by omega
                  have HF14 := Lib.hid hb14
                  have HF5 := Lib.hid hb5
                  have HO := Lib.hid ho14
                  have HBw := Lib.hid hbw
                  clear hbo hcs hb12 hb14 ho14 hb5 hbw
                  go_wp2_with (first
                    | (refine wpList_load_row rfl 36 (.tmp 14) rfl g14 rfl 36 (rngC S1 (.slice na nn nc)) (0, 0) _ HF14.out Tryd.underlying36 rfl (size_rng _ _) ?_)
                    | (refine wpList_store_row rfl 36 (.tmp 5) (.tmp 140) rfl g5 (rngC S1 (.slice na nn nc)) rfl rfl 36 _ HF5.out (size_rng _ _) rfl (rng_one _ _ _ _) ?_))
                  have hnext : GrAt n hs w g5 (.int .i64 ((i + 1 : Nat) : Int)) (wr.setRow g5 (rngC S1 (.slice na nn nc))) := ⟨i + 1, na, nn, nc, by have := HM.out; omega, rfl, by rw [← HS1.out]; exact HF5.out.row _, by rw [HQ1.out]; exact (HO.out.farR HF5.out).hss, below_setRow HBw.out _ _ HG5.out⟩
                  have HNext := Lib.hid hnext
                  clear hnext
                  go_roundw
                  case rel => exact HNext.out
                  case measure => simp [intOf]; omega

theorem leafGrows_walk (hp : LeafProg) (hdp : DataProg) (hrng : RngProg) (n : Int) (hn : I64 n) (hs : List Hs) (v : Value) (w : World) (hv : Hss w v hs) (ht : Tabs w) (hbu : Bru w) :
    Calls Tryd.prog 6 #[.int .i64 n, v] w fun e w' => e = .returned (.bool true) ∧ Below w.heap.size w w' := by
  obtain ⟨a, c, rfl, hc⟩ := hv.form
  by_cases h : hs.length ≤ 70
  · exact leafGrows_small hp hdp hrng n hn hs a hs.length c w hv rfl hc h ht hbu
  · exact leafGrows_big hp hdp hrng n hn hs a hs.length c w hv rfl hc (by omega) ht hbu
end Go.Proofs.YtdhfabjkpffhnaaDoor

/- Layer 14's laws on ranges, whatever they are given. -/
namespace Go.Proofs.YtdhfabjkpffhnaaDoor
set_option maxRecDepth 20000
open Go.ChangeShapes Go.WideShapes Go.ChangeAt Go.RowKit ShaMath LeafMath

theorem leafPushes_all (W : World) (t : Tabs W ∧ Bru W ∧ Consts W) (n : Int) (wn : (Lit.int .i64 n).wf = true) (s : Nat) (hs : s < 18446744073709551616) (v : Value) (ps : List Hs) (hv : Hss W v ps) (hl : ps.length ≤ 4398046510976) (h : Hs) (hh : h.length = 32) :
    Calls Tryd.prog 5 #[.int .i64 n, .agg (rngC s v), .agg (bs h)] W fun e w' => e = .returned (.bool true) ∧ Below W.heap.size W w' :=
  leafPushes_walk leafProg dataProg rngProg n (int_i64 wn) s hs v ps h W hv (by omega) hh t.1 t.2.1 t.2.2

theorem leafGrows_all (W : World) (t : Tabs W ∧ Bru W) (n : Int) (wn : (Lit.int .i64 n).wf = true) (hs : List Hs) (v : Value) (hv : Hss W v hs) (_ : hs.length ≤ 4398046510976) :
    Calls Tryd.prog 6 #[.int .i64 n, v] W fun e w' => e = .returned (.bool true) ∧ Below W.heap.size W w' :=
  leafGrows_walk leafProg dataProg rngProg n (int_i64 wn) hs v W hv t.1 t.2
end Go.Proofs.YtdhfabjkpffhnaaDoor

