/- LeafHashes: the walk. -/
import Derived.Test.YtdhfabjkpffhnaaDoorLeafSpecJ
namespace Go.Proofs.YtdhfabjkpffhnaaDoor
set_option maxRecDepth 20000
open Go.RowKit ShaMath LeafMath Reg

set_option maxHeartbeats 1000000 in
set_option maxRecDepth 100000 in
theorem leafHashes_walk (hp : LeafProg) (hdp : DataProg) (n : Int) (hn : I64 n) (d : List UInt8) (a : Option Addr) (len cap : Nat) (x y : Hs) (w : World) (hd : Bys w (.slice a len cap) d) (hll : d.length = len) (hc : len ≤ cap) (hl : len ≤ 140737488351232) (hx : x.length = 32) (hy : y.length = 32) (ht : Tabs w) (hk : Consts w) :
    Calls Tryd.prog 3 #[.int .i64 n, .slice a len cap, .agg (bs x), .agg (bs y)] w fun e w' => e = .returned (.bool true) ∧ Below w.heap.size w w' := by
  have h2 := Two32.new w x y
  obtain ⟨E, hE, hE32⟩ : ∃ E, E = emptyH n ∧ E.length = 32 := ⟨_, rfl, emptyH_length _⟩
  obtain ⟨F, hF, hF32⟩ : ∃ F, F = leafH n d ∧ F.length = 32 := ⟨_, rfl, leafH_length _ _⟩
  obtain ⟨M, hM, hM32⟩ : ∃ M, M = nodeH n x y ∧ M.length = 32 := ⟨_, rfl, nodeH_length _ _ _⟩
  have H2 := Lib.hid h2
  have HT := Lib.hid ht
  have HK := Lib.hid hk
  have HD := Lib.hid hd
  have HLL := Lib.hid hll
  have HP := Lib.hid hp
  have HDt := Lib.hid hdp
  have HN := Lib.hid hn
  have HE := Lib.hid hE32
  have HF := Lib.hid hF32
  have HM := Lib.hid hM32
  have HEe := Lib.hid hE
  have HFe := Lib.hid hF
  have HMe := Lib.hid hM
  have HX := Lib.hid hx
  have HY := Lib.hid hy
  clear hp hdp hn hd hll hx hy ht hk hE hF hM hE32 hF32 hM32 h2
  go_enter Tryd.func3, Tryd.ntmps3
  go_upto_region 1 with fail
  refine world_cut (fun W => Two32 w x y W) H2.out ?_
  clear H2
  intro W1 hW1
  have HW1 := Lib.hid hW1
  clear hW1
  go_wp2_with fail
  refine (awake14_any HP.out HDt.out _ (HT.out.below (Nat.le_refl _) HW1.out.2.2)).mono ?_
  rintro e W2 ⟨rfl, hb2⟩
  have HW2 := Lib.hid (HW1.out.keep hb2)
  clear hb2 HW1
  have hb0 : Below W2.heap.size W2 (W2.alloc (.cells #[] 5)) := (Below.refl _ _).alloc (Nat.le_refl _) _
  have hs2 := HW2.out.2.2.size
  have A1 := Lib.hid (append_lit (B := w.heap.size) (g := W2.heap.size) (w := W2.alloc (.cells #[] 5)) hs2 (heap_alloc_new W2 _) ((HD.out.below (Nat.le_refl _) HW2.out.2.2).below (Nat.le_refl _) hb0) (by rw [HLL.out]; omega))
  have HB0 := Lib.hid hb0
  clear hb0
  go_upto_region 4 with (at_builtin; refine wpList_append_by rfl (.tmp 12) (.tmp 13) 22 rfl _ _ rfl rfl _ A1.out ?_; rintro v3 W0 ⟨hr3, hb3⟩; (have HR3 := Lib.hid hr3); (have HB3 := Lib.hid hb3); clear hr3 hb3)
  have hW0 : Two32 w x y W0 := (HW2.out.keep HB0.out).keep HB3.out
  have hsl : ∃ a3 c3, v3 = .slice a3 len c3 ∧ len ≤ c3 := by
    rcases HR3.out.2 with ⟨h1, h0⟩ | ⟨g, cap, cur, h1, _, _, h2, _⟩
    · have h00 : len = 0 := by rw [← HLL.out]; exact h0
      subst h00
      exact ⟨none, 0, h1, Nat.le_refl _⟩
    · rw [HLL.out] at h1 h2
      exact ⟨_, _, h1, h2⟩
  obtain ⟨a3, c3, rfl, hnc⟩ := hsl
  have HV3 := Lib.hid HR3.out.bys
  have HV0 := Lib.hid (HD.out.below (Nat.le_refl _) hW0.2.2)
  have HBx := Lib.hid hW0.1
  have HBy := Lib.hid hW0.2.1
  have HSx := Lib.hid (size_hash (cs := bs x) (by rw [bs_size]; exact HX.out))
  have HSy := Lib.hid (size_hash (cs := bs y) (by rw [bs_size]; exact HY.out))
  have HT0 := Lib.hid (HT.out.below (Nat.le_refl _) hW0.2.2)
  have HK0 := Lib.hid (HK.out.below (Nat.le_refl _) hW0.2.2)
  have PE := Lib.hid (fun (W : World) (hW : Below W0.heap.size W0 W) => HP.out.empty n W HN.out (HT0.out.below (Nat.le_refl _) hW))
  have RE := Lib.hid (fun (W : World) (hW : Below W0.heap.size W0 W) => refempty_any n W HN.out (HK0.out.below (Nat.le_refl _) hW))
  have PF := Lib.hid (fun (W : World) (hW : Below W0.heap.size W0 W) => HDt.out.leaf n d (.slice a3 len c3) W HN.out (HV3.out.below (Nat.le_refl _) hW) ⟨_, _, _, rfl, hnc⟩ (by rw [HLL.out]; omega) (HT0.out.below (Nat.le_refl _) hW))
  have RF := Lib.hid (fun (W : World) (hW : Below W0.heap.size W0 W) => refleaf_any n d (.slice a len cap) W (HV0.out.below (Nat.le_refl _) hW) (by rw [HLL.out]; omega) HN.out (HK0.out.below (Nat.le_refl _) hW))
  have PM := Lib.hid (fun (W : World) (hW : Below W0.heap.size W0 W) => HP.out.node n x y W HN.out HX.out HY.out (HT0.out.below (Nat.le_refl _) hW))
  have RM := Lib.hid (fun (W : World) (hW : Below W0.heap.size W0 W) => refnode_any n x y W HX.out HY.out HN.out (HK0.out.below (Nat.le_refl _) hW))
  rw [← HEe.out] at PE RE
  rw [← HFe.out] at PF RF
  rw [← HMe.out] at PM RM
  have HB := Lib.hid hW0.2.2
  have hG : ∀ W W' : World, Below W0.heap.size W0 W → Below W.heap.size W W' → Below W0.heap.size W0 W' := fun W W' h h' => h.trans (h'.mono h.size)
  clear hW0 A1 HB0 HB3 HW2 HR3 hnc
  refine region_by [(15, .is (.int .i64 n)), (16, .is (.agg (bs E))), (17, .is (.int .i64 n)), (18, .is (.agg (bs E))), (19, .is (.bool true)), (20, .is (.bool true)), (21, .is (.int .i64 n)), (22, .is (.slice a3 len c3)), (23, .is (.agg (bs F))), (24, .is (.int .i64 n)), (25, .is (.slice a len cap)), (26, .is (.agg (bs F))), (27, .is (.bool true)), (28, .is (.bool true)), (29, .is (.bool true)), (30, .is (.int .i64 n)), (31, .is (.agg (bs x))), (32, .is (.agg (bs y))), (33, .is (.agg (bs M))), (34, .is (.int .i64 n)), (35, .is (.agg (bs x))), (36, .is (.agg (bs y))), (37, .is (.agg (bs M))), (38, .is (.bool true)), (39, .is (.bool true)), (40, .is (.bool true)), (41, .is (.slice a3 len c3)), (42, .is (.string ⟨d.toArray⟩)), (43, .is (.slice a len cap)), (44, .is (.string ⟨d.toArray⟩)), (45, .is (.bool true)), (46, .is (.bool true)), (8, .is (.bool true))] [8] (fun W => Below W0.heap.size W0 W) (by kernel_rfl) (by kernel_rfl) (by kernel_rfl) (by kernel_rfl) (by kernel_rfl) ((Below.refl _ _).drew) ?_ ?_
  · refine ⟨?c0, ?c1, ?c2, ?c3, ?c4, ?c5, ?c6, ?c7, ?c8, ?c9, ?c10, ?c11, ?c12, ?c13, ?c14, ?c15, ?c16, ?c17, ?c18, ?c19, ?c20, ?c21, ?c22, ?c23, ?c24, ?c25, ?c26, ?c27, ?c28, ?c29, ?c30, ?c31, ?c32, trivial⟩
    case c0 => exact ask_copy (guard_none rfl) (.tmp 0) (.inl rfl) (by intro k hk; cases hk; rfl)
    case c1 => exact ask_call hG (guard_none rfl) _ _ _ #[.int .i64 n] (.is (.agg (bs E))) rfl (by kernel_rfl) rfl rfl (by intro k hk; cases hk; rfl) (fun W hW => (PE.out W hW).mono fun e w' h => ⟨_, h.1, rfl, h.2⟩)
    case c2 => exact ask_copy (guard_none rfl) (.tmp 0) (.inl rfl) (by intro k hk; cases hk; rfl)
    case c3 => exact ask_call hG (guard_none rfl) _ _ _ #[.int .i64 n] (.is (.agg (bs E))) rfl (by kernel_rfl) rfl rfl (by intro k hk; cases hk; rfl) (fun W hW => (RE.out W hW).mono fun e w' h => ⟨_, h.1, rfl, h.2⟩)
    case c4 => exact ask_bin (guard_none rfl) .eql _ _ (.tmp 16) (.tmp 18) (.agg (bs E)) (.agg (bs E)) (.bool true) rfl rfl rfl (by intro k hk; cases hk; rfl) (eql_hash _ _ E HE.out)
    case c5 => exact ask_copy (guard_none rfl) (.tmp 19) (.inl rfl) (by intro k hk; cases hk; rfl)
    case c6 => exact ask_copy (guard_some rfl rfl rfl) (.tmp 0) (.inl rfl) (by intro k hk; cases hk; rfl)
    case c7 => exact ask_copy (guard_some rfl rfl rfl) (.tmp 9) (.inl rfl) (by intro k hk; cases hk; rfl)
    case c8 => exact ask_call hG (guard_some rfl rfl rfl) _ _ _ #[.int .i64 n, .slice a3 len c3] (.is (.agg (bs F))) rfl (by kernel_rfl) rfl rfl (by intro k hk; cases hk; rfl) (fun W hW => (PF.out W hW).mono fun e w' h => ⟨_, h.1, rfl, h.2⟩)
    case c9 => exact ask_copy (guard_some rfl rfl rfl) (.tmp 0) (.inl rfl) (by intro k hk; cases hk; rfl)
    case c10 => exact ask_copy (guard_some rfl rfl rfl) (.tmp 1) (.inl rfl) (by intro k hk; cases hk; rfl)
    case c11 => exact ask_call hG (guard_some rfl rfl rfl) _ _ _ #[.int .i64 n, .slice a len cap] (.is (.agg (bs F))) rfl (by kernel_rfl) rfl rfl (by intro k hk; cases hk; rfl) (fun W hW => (RF.out W hW).mono fun e w' h => ⟨_, h.1, rfl, h.2⟩)
    case c12 => exact ask_bin (guard_some rfl rfl rfl) .eql _ _ (.tmp 23) (.tmp 26) (.agg (bs F)) (.agg (bs F)) (.bool true) rfl rfl rfl (by intro k hk; cases hk; rfl) (eql_hash _ _ F HF.out)
    case c13 => exact ask_pick (guard_none rfl) (.tmp 20) (.tmp 27) (.const (.bool false)) true rfl rfl (by intro k hk; cases hk; rfl)
    case c14 => exact ask_copy (guard_none rfl) (.tmp 28) (.inl rfl) (by intro k hk; cases hk; rfl)
    case c15 => exact ask_copy (guard_some rfl rfl rfl) (.tmp 0) (.inl rfl) (by intro k hk; cases hk; rfl)
    case c16 => exact ask_load (guard_some rfl rfl rfl) _ (.tmp 6) (.pointer (some ⟨w.heap.size, 0, none⟩)) (.agg (bs x)) rfl rfl (by intro k hk; cases hk; rfl) (fun W hW => (HBx.out.keep hW).loads 24 _ Tryd.underlying24 rfl HSx.out)
    case c17 => exact ask_load (guard_some rfl rfl rfl) _ (.tmp 7) (.pointer (some ⟨w.heap.size + 1, 0, none⟩)) (.agg (bs y)) rfl rfl (by intro k hk; cases hk; rfl) (fun W hW => (HBy.out.keep hW).loads 24 _ Tryd.underlying24 rfl HSy.out)
    case c18 => exact ask_call hG (guard_some rfl rfl rfl) _ _ _ #[.int .i64 n, .agg (bs x), .agg (bs y)] (.is (.agg (bs M))) rfl (by kernel_rfl) rfl rfl (by intro k hk; cases hk; rfl) (fun W hW => (PM.out W hW).mono fun e w' h => ⟨_, h.1, rfl, h.2⟩)
    case c19 => exact ask_copy (guard_some rfl rfl rfl) (.tmp 0) (.inl rfl) (by intro k hk; cases hk; rfl)
    case c20 => exact ask_load (guard_some rfl rfl rfl) _ (.tmp 6) (.pointer (some ⟨w.heap.size, 0, none⟩)) (.agg (bs x)) rfl rfl (by intro k hk; cases hk; rfl) (fun W hW => (HBx.out.keep hW).loads 24 _ Tryd.underlying24 rfl HSx.out)
    case c21 => exact ask_load (guard_some rfl rfl rfl) _ (.tmp 7) (.pointer (some ⟨w.heap.size + 1, 0, none⟩)) (.agg (bs y)) rfl rfl (by intro k hk; cases hk; rfl) (fun W hW => (HBy.out.keep hW).loads 24 _ Tryd.underlying24 rfl HSy.out)
    case c22 => exact ask_call hG (guard_some rfl rfl rfl) _ _ _ #[.int .i64 n, .agg (bs x), .agg (bs y)] (.is (.agg (bs M))) rfl (by kernel_rfl) rfl rfl (by intro k hk; cases hk; rfl) (fun W hW => (RM.out W hW).mono fun e w' h => ⟨_, h.1, rfl, h.2⟩)
    case c23 => exact ask_bin (guard_some rfl rfl rfl) .eql _ _ (.tmp 33) (.tmp 37) (.agg (bs M)) (.agg (bs M)) (.bool true) rfl rfl rfl (by intro k hk; cases hk; rfl) (eql_hash _ _ M HM.out)
    case c24 => exact ask_pick (guard_none rfl) (.tmp 29) (.tmp 38) (.const (.bool false)) true rfl rfl (by intro k hk; cases hk; rfl)
    case c25 => exact ask_copy (guard_none rfl) (.tmp 39) (.inl rfl) (by intro k hk; cases hk; rfl)
    case c26 => exact ask_copy (guard_some rfl rfl rfl) (.tmp 9) (.inl rfl) (by intro k hk; cases hk; rfl)
    case c27 => exact ask_string_is (guard_some rfl rfl rfl) _ (.slice a3 len c3) d rfl (fun W hW => HV3.out.below (Nat.le_refl _) hW) rfl (by intro k hk; cases hk; rfl)
    case c28 => exact ask_copy (guard_some rfl rfl rfl) (.tmp 1) (.inl rfl) (by intro k hk; cases hk; rfl)
    case c29 => exact ask_string_is (guard_some rfl rfl rfl) _ (.slice a len cap) d rfl (fun W hW => HV0.out.below (Nat.le_refl _) hW) rfl (by intro k hk; cases hk; rfl)
    case c30 => exact ask_same (guard_some rfl rfl rfl) (.tmp 42) (.tmp 44) _ _ _ rfl rfl rfl (by intro k hk; cases hk; rfl)
    case c31 => exact ask_pick (guard_none rfl) (.tmp 40) (.tmp 45) (.const (.bool false)) true rfl rfl (by intro k hk; cases hk; rfl)
    case c32 => exact ask_copy (guard_none rfl) (.tmp 46) (.inr rfl) (by intro k hk; cases hk; rfl)
  · intro a' W hW hd' hs' hf'
    have t8 : a'.tmps.getD 8 undef = .bool true := hf' 8 rfl
    obtain ⟨us', hus, ha'⟩ := act_open 47 a' hs' hd'
    rw [← hus] at t8
    have el : ((List.range 47).map us').toArray = #[us' 0, us' 1, us' 2, us' 3, us' 4, us' 5, us' 6, us' 7, .bool true, us' 9, us' 10, us' 11, us' 12, us' 13, us' 14, us' 15, us' 16, us' 17, us' 18, us' 19, us' 20, us' 21, us' 22, us' 23, us' 24, us' 25, us' 26, us' 27, us' 28, us' 29, us' 30, us' 31, us' 32, us' 33, us' 34, us' 35, us' 36, us' 37, us' 38, us' 39, us' 40, us' 41, us' 42, us' 43, us' 44, us' 45, us' 46] := by
      show #[us' 0, us' 1, us' 2, us' 3, us' 4, us' 5, us' 6, us' 7, us' 8, us' 9, us' 10, us' 11, us' 12, us' 13, us' 14, us' 15, us' 16, us' 17, us' 18, us' 19, us' 20, us' 21, us' 22, us' 23, us' 24, us' 25, us' 26, us' 27, us' 28, us' 29, us' 30, us' 31, us' 32, us' 33, us' 34, us' 35, us' 36, us' 37, us' 38, us' 39, us' 40, us' 41, us' 42, us' 43, us' 44, us' 45, us' 46] = _
      rw [t8]
    rw [el] at ha'
    subst ha'
    clear hus t8 el hf' hs' hd'
    have HW := Lib.hid hW
    clear hW hG
    go_wp2
    go_ret
    exact ⟨rfl, HB.out.trans (HW.out.mono HB.out.size)⟩
end Go.Proofs.YtdhfabjkpffhnaaDoor

