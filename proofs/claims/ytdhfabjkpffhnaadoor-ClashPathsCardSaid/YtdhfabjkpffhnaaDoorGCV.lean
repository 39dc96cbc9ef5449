/- Joined: ClashTell, ClashFew, ClashSpec, ClashLen. -/
import Derived.Test.YtdhfabjkpffhnaaDoorGCZ
import Derived.Test.YtdhfabjkpffhnaaDoorGCW
import Derived.Test.YtdhfabjkpffhnaaDoorSkipC
import Derived.Test.YtdhfabjkpffhnaaDoorLeafSpecC
/- Layer 17's reference: Clash; the law's comparison of two answers. -/
namespace Go.Proofs.YtdhfabjkpffhnaaDoor
set_option maxRecDepth 20000
open Go.RowKit ShaMath LeafMath ClashMath Reg

theorem neq_strs (t : TypeId) (s u : Operand) (X Y : ByteArray) (b : Bool) (h : (X.toList == Y.toList) = !b) (W : World) : (do eqGuard .neq t s u (.string X) (.string Y); binOp .neq t (.string X) (.string Y) : Sem Value).run Tryd.prog W = .ok (.bool b) W := by
  obtain rfl : b = !(X.toList == Y.toList) := by rw [h, Bool.not_not]
  simp [eqGuard, binOp, go_sem, Op.stringOp]

set_option maxHeartbeats 1000000 in
set_option maxRecDepth 100000 in
theorem refclash_any (n : Int) (hn : I64 n) (u : Value) (p : Bs × Bs) (w : World) (hp : PairB w u p) (h1 : p.1.length ≤ 1000000) (h2 : p.2.length ≤ 1000000) (hk : Consts w) :
    Calls Tryd.prog 43 #[.int .i64 n, u] w fun e w' => e = .returned (.bool (isClash n p)) ∧ Below w.heap.size w w' := by
  obtain ⟨l, r⟩ := p
  obtain ⟨a, c, a', c', rfl, hl, hr⟩ := hp
  simp only at hl hr h1 h2 ⊢
  obtain ⟨l1, hl1⟩ : ∃ m, m = l.length := ⟨_, rfl⟩
  obtain ⟨l2, hl2⟩ : ∃ m, m = r.length := ⟨_, rfl⟩
  rw [← hl1] at hl h1 ⊢
  rw [← hl2] at hr h2 ⊢
  obtain ⟨X, Y, hX, hY, hXY⟩ := strs_of l r
  have HXs := Lib.hid hX
  have HYs := Lib.hid hY
  have HL := Lib.hid hl
  have HR := Lib.hid hr
  by_cases hne : l = r
  · have e : isClash n (l, r) = false := by simp [isClash, hne]
    rw [e]
    have HXY := Lib.hid (show (X.toList == Y.toList) = !false by rw [hXY]; exact decide_eq_true hne)
    clear hX hY hXY hne hk hn hl hr hl1 hl2 e
    go_enter Tryd.func43, Tryd.ntmps43
    go_upto_region 1 with fail
    refine world_cut (fun W => Blk W w.heap.size 51 (prC a l1 c a' l2 c') ∧ Below w.heap.size w W) ⟨Blk.new w _ _, (Below.refl _ _).alloc (Nat.le_refl _) _⟩ ?_
    intro W1 hW1
    have hG : ∀ W W' : World, (Blk W w.heap.size 51 (prC a l1 c a' l2 c') ∧ Below w.heap.size w W) → Below W.heap.size W W' → (Blk W' w.heap.size 51 (prC a l1 c a' l2 c') ∧ Below w.heap.size w W') := fun W W' h h' => ⟨h.1.keep h', h.2.trans (h'.mono h.2.size)⟩
    refine region_skip [(5, .is (.pointer (some ⟨w.heap.size, 0, none⟩))), (6, .is (.slice a l1 c)), (7, .is (.string X)), (8, .is (.pointer (some ⟨w.heap.size, 1, none⟩))), (9, .is (.slice a' l2 c')), (10, .is (.string Y)), (11, .is (.bool false)), (12, .is (.bool false)), (13, .is undef), (14, .is undef), (15, .is undef), (16, .is undef), (17, .is undef), (18, .is undef), (19, .is undef), (20, .is undef), (21, .is undef), (22, .is undef), (23, .is undef), (24, .is (.bool false)), (4, .is (.bool false))] [4] (fun W => Blk W w.heap.size 51 (prC a l1 c a' l2 c') ∧ Below w.heap.size w W) (by kernel_rfl) (by kernel_rfl) (by kernel_rfl) (by kernel_rfl) (by kernel_rfl) (hG _ _ hW1 (Below.refl _ _).drew) ?_ ?_
    · refine ⟨?c0, ?c1, ?c2, ?c3, ?c4, ?c5, ?c6, ?c7, ?c8, ?c9, ?c10, ?c11, ?c12, ?c13, ?c14, ?c15, ?c16, ?c17, ?c18, ?c19, ?c20, trivial⟩
      case c0 => exact runs (ask_field (guard_none rfl) _ (.tmp 3) 0 (.pointer (some ⟨w.heap.size, 0, none⟩)) (.pointer (some ⟨w.heap.size, 0, none⟩)) rfl rfl (by intro k hk; cases hk; rfl) (fun W => by kernel_rfl))
      case c1 => exact runs (ask_load (guard_none rfl) _ (.tmp 5) (.pointer (some ⟨w.heap.size, 0, none⟩)) (.slice a l1 c) rfl rfl (by intro k hk; cases hk; rfl) (fun W hW => load_txt W _ _ (by rw [hW.1.cell]; rfl)))
      case c2 => exact runs (ask_conv_bys (guard_none rfl) (.tmp 6) l X HXs.out rfl (fun y W hW hk => by
      have e : y 6 = (.slice a l1 c) := hk 6 rfl
      show Bys W (y 6) l
      rw [e]
      exact HL.out.below (Nat.le_refl _) hW.2) (by intro k hk; cases hk; rfl))
      case c3 => exact runs (ask_field (guard_none rfl) _ (.tmp 3) 1 (.pointer (some ⟨w.heap.size, 0, none⟩)) (.pointer (some ⟨w.heap.size, 1, none⟩)) rfl rfl (by intro k hk; cases hk; rfl) (fun W => by kernel_rfl))
      case c4 => exact runs (ask_load (guard_none rfl) _ (.tmp 8) (.pointer (some ⟨w.heap.size, 1, none⟩)) (.slice a' l2 c') rfl rfl (by intro k hk; cases hk; rfl) (fun W hW => load_txt W _ _ (by rw [hW.1.cell]; rfl)))
      case c5 => exact runs (ask_conv_bys (guard_none rfl) (.tmp 9) r Y HYs.out rfl (fun y W hW hk => by
      have e : y 9 = (.slice a' l2 c') := hk 9 rfl
      show Bys W (y 9) r
      rw [e]
      exact HR.out.below (Nat.le_refl _) hW.2) (by intro k hk; cases hk; rfl))
      case c6 => exact runs (ask_bin (guard_none rfl) .neq _ _ (.tmp 7) (.tmp 10) (.string X) (.string Y) (.bool false) rfl rfl rfl (by intro k hk; cases hk; rfl) (neq_strs _ _ _ X Y false HXY.out))
      case c7 => exact runs (ask_copy (guard_none rfl) (.tmp 11) (.inl rfl) (by intro k hk; cases hk; rfl))
      case c8 => exact skips 7 true 12 (.bool false) rfl rfl rfl (by simp) (by intro k hk; cases hk; rfl)
      case c9 => exact skips 7 true 12 (.bool false) rfl rfl rfl (by simp) (by intro k hk; cases hk; rfl)
      case c10 => exact skips 7 true 12 (.bool false) rfl rfl rfl (by simp) (by intro k hk; cases hk; rfl)
      case c11 => exact skips 7 true 12 (.bool false) rfl rfl rfl (by simp) (by intro k hk; cases hk; rfl)
      case c12 => exact skips 7 true 12 (.bool false) rfl rfl rfl (by simp) (by intro k hk; cases hk; rfl)
      case c13 => exact skips 7 true 12 (.bool false) rfl rfl rfl (by simp) (by intro k hk; cases hk; rfl)
      case c14 => exact skips 7 true 12 (.bool false) rfl rfl rfl (by simp) (by intro k hk; cases hk; rfl)
      case c15 => exact skips 7 true 12 (.bool false) rfl rfl rfl (by simp) (by intro k hk; cases hk; rfl)
      case c16 => exact skips 7 true 12 (.bool false) rfl rfl rfl (by simp) (by intro k hk; cases hk; rfl)
      case c17 => exact skips 7 true 12 (.bool false) rfl rfl rfl (by simp) (by intro k hk; cases hk; rfl)
      case c18 => exact skips 7 true 12 (.bool false) rfl rfl rfl (by simp) (by intro k hk; cases hk; rfl)
      case c19 => exact runs (ask_pick (guard_none rfl) (.tmp 12) (.tmp 23) (.const (.bool false)) false rfl rfl (by intro k hk; cases hk; rfl))
      case c20 => exact runs (ask_copy (guard_none rfl) (.tmp 24) (.inr rfl) (by intro k hk; cases hk; rfl))
    · intro z' W hW hd' hs' hf'
      have t4 : z'.tmps.getD 4 undef = .bool false := hf' 4 rfl
      obtain ⟨us', hus, ha'⟩ := act_open 25 z' hs' hd'
      rw [← hus] at t4
      have el : ((List.range 25).map us').toArray = #[us' 0, us' 1, us' 2, us' 3, .bool false, us' 5, us' 6, us' 7, us' 8, us' 9, us' 10, us' 11, us' 12, us' 13, us' 14, us' 15, us' 16, us' 17, us' 18, us' 19, us' 20, us' 21, us' 22, us' 23, us' 24] := by
        show #[us' 0, us' 1, us' 2, us' 3, us' 4, us' 5, us' 6, us' 7, us' 8, us' 9, us' 10, us' 11, us' 12, us' 13, us' 14, us' 15, us' 16, us' 17, us' 18, us' 19, us' 20, us' 21, us' 22, us' 23, us' 24] = _
        rw [t4]
      rw [el] at ha'
      subst ha'
      clear hus t4 el hf' hs' hd'
      have HB := Lib.hid hW.2
      clear hW hG hW1
      go_wp2
      go_ret
      exact ⟨rfl, HB.out⟩
  · obtain ⟨H1, hH1⟩ : ∃ H, H = ShaMath.hash l := ⟨_, rfl⟩
    obtain ⟨H2, hH2⟩ : ∃ H, H = ShaMath.hash r := ⟨_, rfl⟩
    obtain ⟨N1, hN1, hN132⟩ : ∃ N, N = hashW n l ∧ N.length = 32 := ⟨_, rfl, hashW_length _ _⟩
    obtain ⟨N2, hN2, hN232⟩ : ∃ N, N = hashW n r ∧ N.length = 32 := ⟨_, rfl, hashW_length _ _⟩
    have e : isClash n (l, r) = (N1 == N2) := by
      rw [isClash, ← hN1, ← hN2, show (l != r) = true by simpa using hne, Bool.true_and]
    rw [e]
    have HXY := Lib.hid (show (X.toList == Y.toList) = !true by rw [hXY]; exact decide_eq_false hne)
    have HS1 := Lib.hid (fun (W : World) (hW : Below w.heap.size w W) => refsum_any l a l1 c W (hl.below (Nat.le_refl _) hW) hl1.symm (by omega) (hk.below (Nat.le_refl _) hW))
    have HS2 := Lib.hid (fun (W : World) (hW : Below w.heap.size w W) => refsum_any r a' l2 c' W (hr.below (Nat.le_refl _) hW) hl2.symm (by omega) (hk.below (Nat.le_refl _) hW))
    rw [← hH1] at HS1
    rw [← hH2] at HS2
    have HN1 := Lib.hid (fun (W : World) => refnarrow_any H1 n W (by rw [hH1]; exact hash_length l) hn)
    have HN2 := Lib.hid (fun (W : World) => refnarrow_any H2 n W (by rw [hH2]; exact hash_length r) hn)
    rw [show narrowL H1 n = N1 by rw [hH1, hN1]; rfl] at HN1
    rw [show narrowL H2 n = N2 by rw [hH2, hN2]; rfl] at HN2
    have HN132 := Lib.hid hN132
    have HN232 := Lib.hid hN232
    clear hX hY hXY hne hk hn hl hr hl1 hl2 hH1 hH2 hN1 hN2 hN132 hN232 e
    go_enter Tryd.func43, Tryd.ntmps43
    go_upto_region 1 with fail
    refine world_cut (fun W => Blk W w.heap.size 51 (prC a l1 c a' l2 c') ∧ Below w.heap.size w W) ⟨Blk.new w _ _, (Below.refl _ _).alloc (Nat.le_refl _) _⟩ ?_
    intro W1 hW1
    have hG : ∀ W W' : World, (Blk W w.heap.size 51 (prC a l1 c a' l2 c') ∧ Below w.heap.size w W) → Below W.heap.size W W' → (Blk W' w.heap.size 51 (prC a l1 c a' l2 c') ∧ Below w.heap.size w W') := fun W W' h h' => ⟨h.1.keep h', h.2.trans (h'.mono h.2.size)⟩
    refine region_skip [(5, .is (.pointer (some ⟨w.heap.size, 0, none⟩))), (6, .is (.slice a l1 c)), (7, .is (.string X)), (8, .is (.pointer (some ⟨w.heap.size, 1, none⟩))), (9, .is (.slice a' l2 c')), (10, .is (.string Y)), (11, .is (.bool true)), (12, .is (.bool true)), (13, .is (.pointer (some ⟨w.heap.size, 0, none⟩))), (14, .is (.slice a l1 c)), (15, .is (.agg (bs H1))), (16, .is (.int .i64 n)), (17, .is (.agg (bs N1))), (18, .is (.pointer (some ⟨w.heap.size, 1, none⟩))), (19, .is (.slice a' l2 c')), (20, .is (.agg (bs H2))), (21, .is (.int .i64 n)), (22, .is (.agg (bs N2))), (23, .is (.bool (N1 == N2))), (24, .is (.bool (N1 == N2))), (4, .is (.bool (N1 == N2)))] [4] (fun W => Blk W w.heap.size 51 (prC a l1 c a' l2 c') ∧ Below w.heap.size w W) (by kernel_rfl) (by kernel_rfl) (by kernel_rfl) (by kernel_rfl) (by kernel_rfl) (hG _ _ hW1 (Below.refl _ _).drew) ?_ ?_
    · refine ⟨?c0, ?c1, ?c2, ?c3, ?c4, ?c5, ?c6, ?c7, ?c8, ?c9, ?c10, ?c11, ?c12, ?c13, ?c14, ?c15, ?c16, ?c17, ?c18, ?c19, ?c20, trivial⟩
      case c0 => exact runs (ask_field (guard_none rfl) _ (.tmp 3) 0 (.pointer (some ⟨w.heap.size, 0, none⟩)) (.pointer (some ⟨w.heap.size, 0, none⟩)) rfl rfl (by intro k hk; cases hk; rfl) (fun W => by kernel_rfl))
      case c1 => exact runs (ask_load (guard_none rfl) _ (.tmp 5) (.pointer (some ⟨w.heap.size, 0, none⟩)) (.slice a l1 c) rfl rfl (by intro k hk; cases hk; rfl) (fun W hW => load_txt W _ _ (by rw [hW.1.cell]; rfl)))
      case c2 => exact runs (ask_conv_bys (guard_none rfl) (.tmp 6) l X HXs.out rfl (fun y W hW hk => by
      have e : y 6 = (.slice a l1 c) := hk 6 rfl
      show Bys W (y 6) l
      rw [e]
      exact HL.out.below (Nat.le_refl _) hW.2) (by intro k hk; cases hk; rfl))
      case c3 => exact runs (ask_field (guard_none rfl) _ (.tmp 3) 1 (.pointer (some ⟨w.heap.size, 0, none⟩)) (.pointer (some ⟨w.heap.size, 1, none⟩)) rfl rfl (by intro k hk; cases hk; rfl) (fun W => by kernel_rfl))
      case c4 => exact runs (ask_load (guard_none rfl) _ (.tmp 8) (.pointer (some ⟨w.heap.size, 1, none⟩)) (.slice a' l2 c') rfl rfl (by intro k hk; cases hk; rfl) (fun W hW => load_txt W _ _ (by rw [hW.1.cell]; rfl)))
      case c5 => exact runs (ask_conv_bys (guard_none rfl) (.tmp 9) r Y HYs.out rfl (fun y W hW hk => by
      have e : y 9 = (.slice a' l2 c') := hk 9 rfl
      show Bys W (y 9) r
      rw [e]
      exact HR.out.below (Nat.le_refl _) hW.2) (by intro k hk; cases hk; rfl))
      case c6 => exact runs (ask_bin (guard_none rfl) .neq _ _ (.tmp 7) (.tmp 10) (.string X) (.string Y) (.bool true) rfl rfl rfl (by intro k hk; cases hk; rfl) (neq_strs _ _ _ X Y true HXY.out))
      case c7 => exact runs (ask_copy (guard_none rfl) (.tmp 11) (.inl rfl) (by intro k hk; cases hk; rfl))
      case c8 => exact runs (ask_field (guard_some rfl rfl rfl) _ (.tmp 3) 0 (.pointer (some ⟨w.heap.size, 0, none⟩)) (.pointer (some ⟨w.heap.size, 0, none⟩)) rfl rfl (by intro k hk; cases hk; rfl) (fun W => by kernel_rfl))
      case c9 => exact runs (ask_load (guard_some rfl rfl rfl) _ (.tmp 13) (.pointer (some ⟨w.heap.size, 0, none⟩)) (.slice a l1 c) rfl rfl (by intro k hk; cases hk; rfl) (fun W hW => load_txt W _ _ (by rw [hW.1.cell]; rfl)))
      case c10 => exact runs (ask_call hG (guard_some rfl rfl rfl) _ _ _ #[.slice a l1 c] (.is (.agg (bs H1))) rfl (by kernel_rfl) rfl rfl (by intro k hk; cases hk; rfl) (fun W hW => (HS1.out W hW.2).mono fun e w' h => ⟨_, h.1, rfl, h.2⟩))
      case c11 => exact runs (ask_copy (guard_some rfl rfl rfl) (.tmp 0) (.inl rfl) (by intro k hk; cases hk; rfl))
      case c12 => exact runs (ask_call hG (guard_some rfl rfl rfl) _ _ _ #[.agg (bs H1), .int .i64 n] (.is (.agg (bs N1))) rfl (by kernel_rfl) rfl rfl (by intro k hk; cases hk; rfl) (fun W hW => (HN1.out W).mono fun e w' h => ⟨_, h.1, rfl, h.2⟩))
      case c13 => exact runs (ask_field (guard_some rfl rfl rfl) _ (.tmp 3) 1 (.pointer (some ⟨w.heap.size, 0, none⟩)) (.pointer (some ⟨w.heap.size, 1, none⟩)) rfl rfl (by intro k hk; cases hk; rfl) (fun W => by kernel_rfl))
      case c14 => exact runs (ask_load (guard_some rfl rfl rfl) _ (.tmp 18) (.pointer (some ⟨w.heap.size, 1, none⟩)) (.slice a' l2 c') rfl rfl (by intro k hk; cases hk; rfl) (fun W hW => load_txt W _ _ (by rw [hW.1.cell]; rfl)))
      case c15 => exact runs (ask_call hG (guard_some rfl rfl rfl) _ _ _ #[.slice a' l2 c'] (.is (.agg (bs H2))) rfl (by kernel_rfl) rfl rfl (by intro k hk; cases hk; rfl) (fun W hW => (HS2.out W hW.2).mono fun e w' h => ⟨_, h.1, rfl, h.2⟩))
      case c16 => exact runs (ask_copy (guard_some rfl rfl rfl) (.tmp 0) (.inl rfl) (by intro k hk; cases hk; rfl))
      case c17 => exact runs (ask_call hG (guard_some rfl rfl rfl) _ _ _ #[.agg (bs H2), .int .i64 n] (.is (.agg (bs N2))) rfl (by kernel_rfl) rfl rfl (by intro k hk; cases hk; rfl) (fun W hW => (HN2.out W).mono fun e w' h => ⟨_, h.1, rfl, h.2⟩))
      case c18 => exact runs (ask_bin (guard_some rfl rfl rfl) .eql _ _ (.tmp 17) (.tmp 22) (.agg (bs N1)) (.agg (bs N2)) (.bool (N1 == N2)) rfl rfl rfl (by intro k hk; cases hk; rfl) (fun W => eql_hash2 _ _ N1 N2 HN132.out HN232.out W))
      case c19 => exact runs (ask_pick (guard_none rfl) (.tmp 12) (.tmp 23) (.const (.bool false)) true rfl rfl (by intro k hk; cases hk; rfl))
      case c20 => exact runs (ask_copy (guard_none rfl) (.tmp 24) (.inr rfl) (by intro k hk; cases hk; rfl))
    · intro z' W hW hd' hs' hf'
      have t4 : z'.tmps.getD 4 undef = .bool (N1 == N2) := hf' 4 rfl
      obtain ⟨us', hus, ha'⟩ := act_open 25 z' hs' hd'
      rw [← hus] at t4
      have el : ((List.range 25).map us').toArray = #[us' 0, us' 1, us' 2, us' 3, .bool (N1 == N2), us' 5, us' 6, us' 7, us' 8, us' 9, us' 10, us' 11, us' 12, us' 13, us' 14, us' 15, us' 16, us' 17, us' 18, us' 19, us' 20, us' 21, us' 22, us' 23, us' 24] := by
        show #[us' 0, us' 1, us' 2, us' 3, us' 4, us' 5, us' 6, us' 7, us' 8, us' 9, us' 10, us' 11, us' 12, us' 13, us' 14, us' 15, us' 16, us' 17, us' 18, us' 19, us' 20, us' 21, us' 22, us' 23, us' 24] = _
        rw [t4]
      rw [el] at ha'
      subst ha'
      clear hus t4 el hf' hs' hd'
      have HB := Lib.hid hW.2
      clear hW hG hW1
      go_wp2
      go_ret
      exact ⟨rfl, HB.out⟩

set_option maxHeartbeats 1000000 in
set_option maxRecDepth 100000 in
/-- Two answers that are one, and a clash where they say so. -/
theorem same17_any (n : Int) (hn : I64 n) (u u' : Value) (p : Bs × Bs) (E : Nat) (w : World) (hp : PairB w u p) (hp' : PairB w u' p) (h1 : p.1.length ≤ 1000000) (h2 : p.2.length ≤ 1000000) (hE : decide (E = 0) = isClash n p) (hk : Consts w) :
    Calls Tryd.prog 36 #[.int .i64 n, u, .int .i64 (E : Int), u', .int .i64 (E : Int)] w fun e w' => e = .returned (.bool true) ∧ Below w.heap.size w w' := by
  have HC := Lib.hid (fun (W : World) (hW : Below w.heap.size w W) => refclash_any n hn u p W (hp.below hW) h1 h2 (hk.below (Nat.le_refl _) hW))
  rw [← hE] at HC
  obtain ⟨b, hb⟩ : ∃ b, b = decide (E = 0) := ⟨_, rfl⟩
  rw [← hb] at HC
  have hEb : ((E : Int) == 0) = b := by rw [hb]; by_cases h : E = 0 <;> simp [h]
  obtain ⟨l, r⟩ := p
  obtain ⟨a, c, a', c', rfl, hl, hr⟩ := hp
  obtain ⟨d, f, d', f', rfl, hl', hr'⟩ := hp'
  simp only at hl hr hl' hr' h1 h2 HC ⊢
  obtain ⟨l1, hl1⟩ : ∃ m, m = l.length := ⟨_, rfl⟩
  obtain ⟨l2, hl2⟩ : ∃ m, m = r.length := ⟨_, rfl⟩
  rw [← hl1, ← hl2] at HC ⊢
  rw [← hl1] at hl hl'
  rw [← hl2] at hr hr'
  obtain ⟨X, hX⟩ : ∃ X : ByteArray, X = ⟨l.toArray⟩ := ⟨_, rfl⟩
  obtain ⟨Y, hY⟩ : ∃ Y : ByteArray, Y = ⟨r.toArray⟩ := ⟨_, rfl⟩
  have hxx : (X.toList == X.toList) = true := beq_self_eq_true _
  have hyy : (Y.toList == Y.toList) = true := beq_self_eq_true _
  have HL := Lib.hid hl
  have HR := Lib.hid hr
  have HL2 := Lib.hid hl'
  have HR2 := Lib.hid hr'
  have HXs := Lib.hid hX
  have HYs := Lib.hid hY
  clear hl hr hl' hr' hX hY hl1 hl2 hb hE hk hn h1 h2
  go_enter Tryd.func36, Tryd.ntmps36
  go_upto_region 1 with fail
  refine world_cut (fun W => Blk W w.heap.size 51 (prC a l1 c a' l2 c') ∧ Blk W (w.heap.size + 1) 51 (prC d l1 f d' l2 f') ∧ Below w.heap.size w W) ⟨(Blk.new w _ _).alloc _, Blk.newAt _ _ _ _ _ (by simp) rfl, ((Below.refl _ _).alloc (Nat.le_refl _) _).alloc (by simp) _⟩ ?_
  rintro W1 ⟨hb1, hb2, hw1⟩
  have c0 : W1.cell? ⟨w.heap.size, 0, none⟩ = some (.slice a l1 c) := by rw [hb1.cell]; rfl
  have c1 : W1.cell? ⟨w.heap.size, 1, none⟩ = some (.slice a' l2 c') := by rw [hb1.cell]; rfl
  have c2 : W1.cell? ⟨w.heap.size + 1, 0, none⟩ = some (.slice d l1 f) := by rw [hb2.cell]; rfl
  have c3 : W1.cell? ⟨w.heap.size + 1, 1, none⟩ = some (.slice d' l2 f') := by rw [hb2.cell]; rfl
  have e0 := conv_bys (HL.out.below (Nat.le_refl _) hw1)
  have e1 := conv_bys (HR.out.below (Nat.le_refl _) hw1)
  have e2 := conv_bys (HL2.out.below (Nat.le_refl _) hw1)
  have e3 := conv_bys (HR2.out.below (Nat.le_refl _) hw1)
  rw [← HXs.out] at e0 e2
  rw [← HYs.out] at e1 e3
  have HB1 := Lib.hid hb1
  have HW1 := Lib.hid hw1
  clear hb1 hb2 hw1
  go_wp2_with (refine wpList_load_guarded rfl 51 (.tmp 6) rfl _ (.agg (prC a l1 c a' l2 c')) rfl (HB1.out.loads 51 _ Tryd.underlying51 rfl (size_pair _ _ _ _ _ _)) ?_)
  clear c0 c1 c2 c3 e0 e1 e2 e3
  refine (HC.out _ HW1.out).mono ?_
  rintro e W2 ⟨rfl, hb2⟩
  have HB2 := Lib.hid (HW1.out.trans (hb2.mono HW1.out.size))
  clear hb2 HB1
  go_wp2
  go_ret
  exact ⟨by simp, HB2.out⟩
end Go.Proofs.YtdhfabjkpffhnaaDoor

/- Layer 17's law: few. -/
namespace Go.Proofs.YtdhfabjkpffhnaaDoor
set_option maxRecDepth 20000
open Go.RowKit ShaMath LeafMath ClashMath Reg

def fewS (T : List Bs) : Nat := (T.map fun t => 50 + min t.length 1048576).sum

theorem fewS_le (T : List Bs) : fewS T ≤ T.length * 1048626 ∧ T.length * 50 ≤ fewS T := by
  unfold fewS
  induction T with
  | nil => simp
  | cons t T ih =>
    simp only [List.map_cons, List.sum_cons, List.length_cons]
    omega
theorem fewS_mem (T : List Bs) : ∀ t ∈ T, 50 + min t.length 1048576 ≤ fewS T := by
  unfold fewS
  induction T with
  | nil => intro t h; cases h
  | cons x T ih =>
    intro t h
    simp only [List.map_cons, List.sum_cons]
    rcases List.mem_cons.1 h with rfl | h
    · omega
    · have := ih t h
      omega
theorem fewS_shorts {T : List Bs} (h : fewS T ≤ 4000) : Shorts T := by
  refine ⟨?_, fun t ht => ?_⟩
  · have := (fewS_le T).2
    omega
  · have := fewS_mem T t ht
    omega
theorem fewS_take (T : List Bs) (i : Nat) (t : Bs) (h : T[i]? = some t) : fewS (T.take (i + 1)) = fewS (T.take i) + (50 + min t.length 1048576) := by
  unfold fewS
  rw [List.take_add_one, h]
  simp

def FewAt (T : List Bs) (w : World) (s3 s4 : Value) (wr : World) : Prop := ∃ i : Nat, i ≤ T.length ∧ s3 = .int .i64 (fewS (T.take i) : Int) ∧ s4 = .int .i64 (i : Int) ∧ wr = w

theorem few17_any (T : List Bs) (v : Value) (w : World) (hv : Txs w v T) (hl : T.length ≤ 5864062014976) :
    Calls Tryd.prog 33 #[v] w fun e w' => e = .returned (.bool (decide (fewS T ≤ 4000))) ∧ w' = w := by
  obtain ⟨a, c, rfl, hlc⟩ := hv.form
  obtain ⟨m, hm⟩ : ∃ m, m = T.length := ⟨_, rfl⟩
  rw [← hm] at hv hlc hl ⊢
  have hstart : FewAt T w (.int .i64 0) (.int .i64 0) w := ⟨0, Nat.zero_le _, rfl, rfl, rfl⟩
  have HS := Lib.hid hstart
  have HV := Lib.hid hv
  have HM := Lib.hid hm
  clear hv hm hstart
  go_enter Tryd.func33, Tryd.ntmps33
  go_wp2
  go_loopw [3, 4] (fun s3 s4 wr => FewAt T w s3 s4 wr) (fun _ s4 _ => (match s4 with | .int _ z => m - z.toNat | _ => 0))
  case atStart => exact HS.out
  case round =>
    obtain ⟨i, hi, rfl, rfl, rfl⟩ := hrel
    rw [← HM.out] at hi
    clear HS
    have hsum := (fewS_le (T.take i)).1
    rw [List.length_take, ← HM.out, Nat.min_eq_left hi] at hsum
    by_cases him : i < m
    · obtain ⟨t, ht⟩ : ∃ t, T[i]? = some t := ⟨T[i]'(by rw [← HM.out]; exact him), List.getElem?_eq_getElem _⟩
      obtain ⟨ad, A, C, e, hc, hx⟩ := HV.out.at_ ht
      subst e
      have HNext := Lib.hid (fewS_take T i t ht)
      obtain ⟨S, hS⟩ : ∃ S, S = fewS (T.take i) := ⟨_, rfl⟩
      rw [← hS] at HNext hsum ⊢
      obtain ⟨lt, hlt⟩ : ∃ l, l = t.length := ⟨_, rfl⟩
      rw [← hlt] at HNext hc
      obtain ⟨q, hq⟩ : ∃ q : Nat, q = min lt 1048576 := ⟨_, rfl⟩
      rw [← hq] at HNext
      have hq2 : q ≤ 1048576 := by omega
      have hmin : min (lt : Int) 1048576 = (q : Int) := by omega
      have hS2 : S ≤ 6149300000000000000 := by omega
      clear hx ht hlt hS hq hsum
      go_wp2
      go_roundw
      case rel => exact ⟨i + 1, by rw [← HM.out]; omega, by rw [HNext.out]; congr 1; omega, by simp, rfl⟩
      case measure => simp; omega
    · have him2 : i = m := by omega
      subst him2
      have HE := Lib.hid (show fewS (T.take i) = fewS T by rw [HM.out, List.take_length])
      rw [HE.out] at hsum ⊢
      obtain ⟨S, hS⟩ : ∃ S, S = fewS T := ⟨_, rfl⟩
      rw [← hS] at hsum ⊢
      have hd : decide ((S : Int) ≤ 4000) = decide (S ≤ 4000) := by by_cases h : S ≤ 4000 <;> simp [h] <;> omega
      have HSs := Lib.hid hS.symm
      clear hS
      go_wp2
      go_ret
      exact ⟨by rw [HSs.out]; rfl, rfl⟩
end Go.Proofs.YtdhfabjkpffhnaaDoor

/- What the program's functions of layer 17 are to answer; the fixed answers that its laws begin with. -/
namespace Go.Proofs.YtdhfabjkpffhnaaDoor
set_option maxRecDepth 20000
open Go.RowKit ShaMath LeafMath PathMath GrowthMath ClashMath Reg

structure ClashProg : Prop where
  lists : ∀ (n : Int) (a b : List Bs) (va vb : Value) (w : World), I64 n → Txs w va a → Txs w vb b → Shorts a → Shorts b → Tabs w →
    Calls Tryd.prog 34 #[.int .i64 n, va, vb] w fun e w' => ∃ u, e = .returned (.tuple #[u, .int .i64 ((listsT n a b).2 : Int)]) ∧ PairB w' u (listsT n a b).1 ∧ Below w.heap.size w w'
  path : ∀ (n : Int) (T : List Bs) (i : Nat) (x : Bs) (ps : List Hs) (v vx vp : Value) (w : World), I64 n → Txs w v T → Shorts T → i < 18446744073709551616 → Bys w vx x → x.length ≤ 4000 → Hss w vp ps → ps.length ≤ 80 → Tabs w →
    Calls Tryd.prog 37 #[.int .i64 n, v, .int .u64 (i : Int), vx, vp] w fun e w' => ∃ u, e = .returned (.tuple #[u, .int .i64 ((pathC n T i x ps).2 : Int)]) ∧ PairB w' u (pathC n T i x ps).1 ∧ Below w.heap.size w w'
  growth : ∀ (n : Int) (T : List Bs) (m : Nat) (h : Hs) (ps : List Hs) (v vp : Value) (w : World), I64 n → Txs w v T → Shorts T → m < 18446744073709551616 → h.length = 32 → Hss w vp ps → ps.length ≤ 80 → Tabs w →
    Calls Tryd.prog 39 #[.int .i64 n, v, .int .u64 (m : Int), .agg (bs h), vp] w fun e w' => ∃ u, e = .returned (.tuple #[u, .int .i64 ((growC n T m h ps).2 : Int)]) ∧ PairB w' u (growC n T m h ps).1 ∧ Below w.heap.size w w'

/-! ### Hashes without bits -/

theorem part_zero (i : Nat) (hi : i < 32) : ShaMath.part 0 i = 0 := by
  have h : ∀ j : Fin 32, ShaMath.part 0 j = 0 := by decide +kernel
  exact h ⟨i, hi⟩
theorem hashW_zero (t : List UInt8) : hashW 0 t = z32 := by
  refine List.eq_replicate_iff.2 ⟨hashW_length _ _, fun b hb => ?_⟩
  obtain ⟨i, hi, rfl⟩ := List.mem_map.1 (show b ∈ narrowL (ShaMath.hash t) 0 from hb)
  rw [part_zero i (List.mem_range.1 hi), and_none]

theorem wake17 : listsT 0 [[1]] [[2]] = (([0, 1], [0, 2]), 0) := by
  have h1 : rootT 0 [[1]] = z32 := by rw [rootT_one]; exact hashW_zero _
  have h2 : rootT 0 [[2]] = z32 := by rw [rootT_one]; exact hashW_zero _
  rw [listsT, if_neg (by simp), if_neg (by rw [h1, h2]; simp), if_neg (by simp), downT_ne 0 [[1]] [[2]] (by rw [hashedT_one, hashedT_one]; simp), hashedT_one, hashedT_one]

/-- A list of one text of one byte. -/
theorem txs_lit {W : World} {g g' : Nat} {b : UInt8} (h1 : Blk W g 5 #[bv b]) (h2 : Blk W g' 22 #[.slice (some ⟨g, 0, none⟩) 1 1]) : Txs W (.slice (some ⟨g', 0, none⟩) 1 1) [[b]] := by
  refine ⟨_, _, rfl, Nat.le_refl _, fun i t hi => ?_⟩
  obtain ⟨rfl, rfl⟩ : i = 0 ∧ t = [b] := by
    match i, hi with
    | 0, hi => simp at hi; exact ⟨rfl, hi.symm⟩
    | _ + 1, hi => simp at hi
  refine ⟨_, some ⟨g, 0, none⟩, 1, rfl, by rw [addr_add, h2.cell]; rfl, .inr ⟨_, _, rfl, fun j hj => ?_⟩⟩
  obtain rfl : j = 0 := by simp at hj; omega
  rw [addr_add, h1.cell]
  rfl
theorem shorts_one (b : UInt8) : Shorts [[b]] := ⟨by simp, fun t ht => by simp at ht; subst ht; simp⟩
theorem i0 : I64 0 := by unfold I64; omega

set_option maxHeartbeats 1000000 in
set_option maxRecDepth 100000 in
theorem awake17_any (hp : ClashProg) (w : World) (ht : Tabs w) : Calls Tryd.prog 32 #[] w fun e w' => e = .returned (.bool true) ∧ Below w.heap.size w w' := by
  obtain ⟨W1, hW1⟩ : ∃ W1 : World, W1 = (((w.alloc (.cells #[bv 1] 5)).alloc (.cells #[.slice (some ⟨w.heap.size, 0, none⟩) 1 1] 22)).alloc (.cells #[bv 2] 5)).alloc (.cells #[.slice (some ⟨w.heap.size + 1 + 1, 0, none⟩) 1 1] 22) := ⟨_, rfl⟩
  have hb1 : Below w.heap.size w W1 := by
    rw [hW1]
    exact (((((Below.refl _ _).alloc (Nat.le_refl _) _).alloc (by simp) _).alloc (by simp; omega) _).alloc (by simp; omega) _)
  have k0 : Blk W1 w.heap.size 5 #[bv 1] := by rw [hW1]; exact (((Blk.new w _ _).alloc _).alloc _).alloc _
  have k1 : Blk W1 (w.heap.size + 1) 22 #[.slice (some ⟨w.heap.size, 0, none⟩) 1 1] := by rw [hW1]; exact ((Blk.newAt _ _ _ _ _ (by simp) rfl).alloc _).alloc _
  have k2 : Blk W1 (w.heap.size + 1 + 1) 5 #[bv 2] := by rw [hW1]; exact (Blk.newAt _ _ _ _ _ (by simp) rfl).alloc _
  have k3 : Blk W1 (w.heap.size + 1 + 1 + 1) 22 #[.slice (some ⟨w.heap.size + 1 + 1, 0, none⟩) 1 1] := by rw [hW1]; exact Blk.newAt _ _ _ _ _ (by simp) rfl
  have hl := hp.lists 0 [[1]] [[2]] _ _ W1 i0 (txs_lit k0 k1) (txs_lit k2 k3) (shorts_one 1) (shorts_one 2) (ht.below (Nat.le_refl _) hb1)
  rw [wake17] at hl
  have HW1 := Lib.hid hW1
  rw [hW1] at hl
  have HL := Lib.hid hl
  have HB1 := Lib.hid hb1
  clear hp ht k0 k1 k2 k3 hb1 hW1 hl
  go_enter Tryd.func32, Tryd.ntmps32
  go_wp2_with fail
  refine HL.out.mono ?_
  rw [← HW1.out]
  rintro e W2 ⟨u, rfl, hpb, hb2⟩
  obtain ⟨a, c, a', c', rfl, hl, hr⟩ := hpb
  have HB2 := Lib.hid (HB1.out.trans (hb2.mono HB1.out.size))
  have HLl := Lib.hid hl
  have HRr := Lib.hid hr
  clear hl hr hb2 HB1 HL HW1
  go_upto_region 2 with (refine wpList_store_row rfl 51 (.tmp 1) (.tmp 9) rfl W2.heap.size (prC a 2 c a' 2 c') rfl rfl 51 _ (Blk.new W2 _ _) (size_pair _ _ _ _ _ _) rfl (pair_one _ _ _ _ _ _) ?_)
  refine world_cut (fun W => Blk W W2.heap.size 51 (prC a 2 c a' 2 c') ∧ Bys W (.slice a 2 c) [0, 1] ∧ Bys W (.slice a' 2 c') [0, 2] ∧ Below w.heap.size w W) ⟨Blk.row (Blk.new W2 _ _) _, HLl.out.below (Nat.le_refl _) (below_new W2 _ _ _), HRr.out.below (Nat.le_refl _) (below_new W2 _ _ _), HB2.out.trans ((below_new W2 _ _ _).mono HB2.out.size)⟩ ?_
  rintro W3 ⟨hb, hl, hr, hw⟩
  have c0 : W3.cell? ⟨W2.heap.size, 0, none⟩ = some (.slice a 2 c) := by rw [hb.cell]; rfl
  have c1 : W3.cell? ⟨W2.heap.size, 1, none⟩ = some (.slice a' 2 c') := by rw [hb.cell]; rfl
  have e0 : (convert 22 9 (.slice a 2 c)).run Tryd.prog W3 = .ok (.string ⟨#[0, 1]⟩) W3 := conv_bys hl
  have e1 : (convert 22 9 (.slice a' 2 c')).run Tryd.prog W3 = .ok (.string ⟨#[0, 2]⟩) W3 := conv_bys hr
  have HW := Lib.hid hw
  clear hb hl hr hw HB2 HLl HRr
  go_wp2
  go_ret
  exact ⟨rfl, HW.out⟩
end Go.Proofs.YtdhfabjkpffhnaaDoor

/- How long the texts are that layer 17 answers. -/
namespace Go.Proofs.YtdhfabjkpffhnaaDoor
set_option maxRecDepth 20000
open Go.RowKit ShaMath LeafMath PathMath GrowthMath ClashMath

theorem hashedT_len (n : Int) {T : List Bs} (h : Shorts T) : (hashedT n T).length ≤ 4001 := by
  by_cases h1 : T.length = 1
  · match T, h1 with
    | [t], _ =>
      have := h.each t (by simp)
      rw [hashedT_one, List.length_cons]
      omega
  · rw [hashedT, if_neg h1, nodeT, List.length_cons, List.length_append, rootT_length, rootT_length]
    omega
theorem lastD_len {p : List Hs} (hp : ∀ x ∈ p, x.length = 32) : (p.getLastD []).length ≤ 32 := by
  by_cases h : 0 < p.length
  · rw [last_32 hp h]; omega
  · obtain rfl := List.eq_nil_of_length_eq_zero (by omega : p.length = 0)
    simp
theorem nodeT_len {l r : Hs} (h1 : l.length ≤ 32) (h2 : r.length ≤ 32) : (nodeT l r).length ≤ 4001 := by
  rw [nodeT, List.length_cons, List.length_append]
  omega

theorem down_len (n : Int) : ∀ (m : Nat) (a b : List Bs) (p : Bs × Bs), a.length = m → Shorts a → Shorts b → downT n a b = some p → p.1.length ≤ 4001 ∧ p.2.length ≤ 4001 := by
  intro m
  induction m using Nat.strongRecOn with
  | ind m ih =>
    intro a b p ha hsa hsb hd
    by_cases hne : hashedT n a = hashedT n b
    · by_cases h2 : 2 ≤ a.length
      · have hk := splitN_lt h2
        have hk0 := splitN_pos a.length
        rw [downT_more n a b hne h2] at hd
        cases hx : downT n (a.take (splitN a.length)) (b.take (splitN a.length)) with
        | some q =>
          rw [hx] at hd
          cases hd
          exact ih (splitN a.length) (by omega) _ _ _ (by rw [List.length_take]; omega) (hsa.take _) (hsb.take _) hx
        | none =>
          rw [hx] at hd
          exact ih (m - splitN a.length) (by omega) _ _ _ (by rw [List.length_drop]; omega) (hsa.drop _) (hsb.drop _) hd
      · rw [downT_one n a b hne (by omega)] at hd
        cases hd
    · rw [downT_ne n a b hne] at hd
      cases hd
      exact ⟨hashedT_len n hsa, hashedT_len n hsb⟩
theorem lists_len (n : Int) {a b : List Bs} (hsa : Shorts a) (hsb : Shorts b) : (listsT n a b).1.1.length ≤ 1000000 ∧ (listsT n a b).1.2.length ≤ 1000000 := by
  unfold listsT
  split
  · simp
  · split
    · simp
    · split
      · simp
      · cases hd : downT n a b with
        | none => simp
        | some p =>
          have := down_len n a.length a b p rfl hsa hsb hd
          exact ⟨by simp only; omega, by simp only; omega⟩

theorem path_len (n : Int) : ∀ (m : Nat) (T : List Bs) (i : Nat) (x : Bs) (p : List Hs), T.length = m → Shorts T → x.length ≤ 4000 → (∀ y ∈ p, y.length = 32) → (pathT n T i x p).1.length ≤ 4001 ∧ (pathT n T i x p).2.length ≤ 4001 := by
  intro m
  induction m using Nat.strongRecOn with
  | ind m ih =>
    intro T i x p hm hT hx hp
    by_cases h2 : 2 ≤ T.length
    · have hk := splitN_lt h2
      have hk0 := splitN_pos T.length
      by_cases hik : i < splitN T.length
      · rw [pathT_left n T i x p h2 hik]
        split
        · exact ⟨hashedT_len n hT, nodeT_len (by rw [climbP_length _ _ _ _ _ (leafH_length _ _)]; omega) (lastD_len hp)⟩
        · exact ih (splitN T.length) (by omega) _ _ _ _ (by rw [List.length_take]; omega) (hT.take _) hx (dropLast_32 hp)
      · rw [pathT_right n T i x p h2 hik]
        split
        · exact ⟨hashedT_len n hT, nodeT_len (lastD_len hp) (by rw [climbP_length _ _ _ _ _ (leafH_length _ _)]; omega)⟩
        · exact ih (m - splitN T.length) (by omega) _ _ _ _ (by rw [List.length_drop]; omega) (hT.drop _) hx (dropLast_32 hp)
    · rw [pathT_one n T i x p (by omega)]
      have : (T.headD []).length ≤ 4000 := by
        match T, h2 with
        | [], _ => simp
        | [t], _ => exact hT.each t (by simp)
        | _ :: _ :: _, h => simp at h
      simp only [List.length_cons]
      omega
theorem pathC_len (n : Int) {T : List Bs} {i : Nat} {x : Bs} {p : List Hs} (hT : Shorts T) (hx : x.length ≤ 4000) (hp : ∀ y ∈ p, y.length = 32) : (pathC n T i x p).1.1.length ≤ 1000000 ∧ (pathC n T i x p).1.2.length ≤ 1000000 := by
  unfold pathC
  split
  · simp
  · split
    · simp
    · split
      · simp
      · have := path_len n T.length T i x p rfl hT hx hp
        exact ⟨by simp only; omega, by simp only; omega⟩

theorem newer_len (n : Int) (m M : Nat) (h : Hs) (p : List Hs) (b : Bool) (hh : h.length = 32) (hp : ∀ y ∈ p, y.length = 32) : (newerT n m M h p b).length ≤ 32 := by
  unfold newerT
  rw [showG]
  split
  · split
    · simp only; rw [nodeH_length]; omega
    · simp only; rw [nodeH_length]; omega
  · split
    · simp only; omega
    · match p, hp with
      | [], _ => simp
      | y :: _, hp => simp only [List.headD_cons]; rw [hp y (by simp)]; omega
theorem grow_len (n : Int) : ∀ (M : Nat) (T : List Bs) (m : Nat) (h : Hs) (p : List Hs) (b : Bool) (q : Bs × Bs), T.length = M → Shorts T → h.length = 32 → (∀ y ∈ p, y.length = 32) → growT n T m h p b = some q → q.1.length ≤ 4001 ∧ q.2.length ≤ 4001 := by
  intro M
  induction M using Nat.strongRecOn with
  | ind M ih =>
    intro T m h p b q hM hT hh hp hq
    by_cases hm : m < T.length
    · by_cases h2 : 2 ≤ T.length
      · have hk := splitN_lt h2
        have hk0 := splitN_pos T.length
        by_cases hik : m ≤ splitN T.length
        · rw [growT_left n T m h p b hm h2 hik] at hq
          split at hq
          · cases hq
            exact ⟨hashedT_len n hT, nodeT_len (newer_len n _ _ _ _ _ hh (dropLast_32 hp)) (lastD_len hp)⟩
          · exact ih (splitN T.length) (by omega) _ _ _ _ _ _ (by rw [List.length_take]; omega) (hT.take _) hh (dropLast_32 hp) hq
        · rw [growT_right n T m h p b hm h2 hik] at hq
          split at hq
          · cases hq
            exact ⟨hashedT_len n hT, nodeT_len (lastD_len hp) (newer_len n _ _ _ _ _ hh (dropLast_32 hp))⟩
          · exact ih (M - splitN T.length) (by omega) _ _ _ _ _ _ (by rw [List.length_drop]; omega) (hT.drop _) hh (dropLast_32 hp) hq
      · rw [growT, dif_neg (by omega)] at hq
        cases hq
    · rw [growT_all n T m h p b (by omega)] at hq
      cases hq
theorem growC_len (n : Int) {T : List Bs} {m : Nat} {h : Hs} {p : List Hs} (hT : Shorts T) (hh : h.length = 32) (hp : ∀ y ∈ p, y.length = 32) : (growC n T m h p).1.1.length ≤ 1000000 ∧ (growC n T m h p).1.2.length ≤ 1000000 := by
  unfold growC
  split
  · simp
  · split
    · simp
    · split
      · simp
      · cases hq : growT n T m h p true with
        | none => simp
        | some q =>
          have := grow_len n T.length T m h p true q rfl hT hh hp hq
          exact ⟨by simp only; omega, by simp only; omega⟩
end Go.Proofs.YtdhfabjkpffhnaaDoor

