/- The law CmdSames, walked. -/
import Derived.Test.YtleoiklcddkgdaaCmdLays
namespace Go.Proofs.Ytleoiklcddkgdaa
open Go.RowKit BinMath CmdMath Reg

/-- A copy of the entry. -/
def isEnt (e : Ent) : Fact := .sat (fun v W => ∃ a ca b cb, v = .agg (entC e a ca b cb) ∧ Has W e a ca b cb) fun _ _ _ ⟨a, ca, b, cb, h1, h2⟩ hb => ⟨a, ca, b, cb, h1, h2.below (Nat.le_refl _) hb⟩

theorem putR_zero {e : Ent} {l : List UInt8} (h : putR e = (l, 0)) : formed e = true ∧ putL e = l := by
  unfold putR at h
  by_cases hf : formed e = true
  · rw [if_pos hf] at h
    exact ⟨hf, (Prod.mk.inj h).1⟩
  · rw [if_neg hf] at h
    simp at h

set_option maxHeartbeats 4000000 in
set_option maxRecDepth 100000 in
theorem sames_all (w : World) (e : Ent) (a b : Option Addr) (ca cb : Nat) (he : Has w e a ca b cb) (hm8 : e.m.length ≤ 17592186043904) (f : Ent) (a' b' : Option Addr) (ca' cb' : Nat) (hf : Has w f a' ca' b' cb') :
    Calls Try.prog 7 #[.agg (entC e a ca b cb), .agg (entC f a' ca' b' cb')] w fun e w' => e = .returned (.bool true) ∧ Below w.heap.size w w' := by
  obtain ⟨S, hS⟩ : ∃ S, S = decide (e = f) := ⟨_, rfl⟩
  obtain ⟨l, c, hlc⟩ : ∃ l c, putR e = (l, c) := ⟨_, _, rfl⟩
  obtain ⟨l', c', hlc'⟩ : ∃ l c, putR f = (l, c) := ⟨_, _, rfl⟩
  have HLC := Lib.hid hlc
  have HLC' := Lib.hid hlc'
  have HS := Lib.hid hS
  have HS' := Lib.hid (show S = decide (f = e) by rw [hS]; exact decide_eq_decide.2 ⟨fun h => h.symm, fun h => h.symm⟩)
  have b1 : Below w.heap.size w ((w.alloc (.cells (entC e a ca b cb) 26)).alloc (.cells (entC f a' ca' b' cb') 26)) := ((Below.refl _ _).alloc (Nat.le_refl _) _).alloc (by simp) _
  have E0 := Lib.hid (show Blk ((w.alloc (.cells (entC e a ca b cb) 26)).alloc (.cells (entC f a' ca' b' cb') 26)) w.heap.size 26 (entC e a ca b cb) from (Blk.new w _ _).alloc _)
  have F0 := Lib.hid (show Blk ((w.alloc (.cells (entC e a ca b cb) 26)).alloc (.cells (entC f a' ca' b' cb') 26)) (w.heap.size + 1) 26 (entC f a' ca' b' cb') from by have := Blk.new (w.alloc (.cells (entC e a ca b cb) 26)) 26 (entC f a' ca' b' cb'); simpa using this)
  have HX0 := Lib.hid he
  have HY0 := Lib.hid hf
  have HB0 := Lib.hid b1
  clear he hf b1 hS hlc hlc'
  go_enter Try.func7, Try.ntmps7
  go_wp2_with fail
  refine (awake_any _).mono ?_
  rintro r w1 ⟨rfl, hb1⟩
  have E1 := Lib.hid (E0.out.keep hb1)
  have F1 := Lib.hid (F0.out.keep hb1)
  have HB1 := Lib.hid (HB0.out.trans (hb1.mono HB0.out.size))
  have HX1 := Lib.hid (HX0.out.below (Nat.le_refl _) HB1.out)
  have HY1 := Lib.hid (HY0.out.below (Nat.le_refl _) HB1.out)
  clear hb1
  go_wp2_with (first | (refine wpList_load_by rfl 26 (.tmp 2) rfl _ _ rfl (E1.out.loads 26 _ Try.underlying26 rfl (entC_size _ _ _ _ _)) ?_) | (refine wpList_load_by rfl 26 (.tmp 3) rfl _ _ rfl (F1.out.loads 26 _ Try.underlying26 rfl (entC_size _ _ _ _ _)) ?_))
  have HS0 := Lib.hid (same_any e f _ _ _ _ _ _ _ _ w1 HX1.out HY1.out)
  refine HS0.out.mono ?_
  rintro r w2 ⟨rfl, hb⟩
  rw [← HS.out]
  have EB2' := Lib.hid (E1.out.keep hb)
  have EB3' := Lib.hid (F1.out.keep hb)
  have HB2 := Lib.hid (HB1.out.trans (hb.mono HB1.out.size))
  have HX := Lib.hid (HX1.out.below (Nat.le_refl _) hb)
  have HY := Lib.hid (HY1.out.below (Nat.le_refl _) hb)
  clear hb HS0
  obtain ⟨g2, hg2⟩ : ∃ g2, g2 = w.heap.size := ⟨_, rfl⟩
  obtain ⟨g3, hg3⟩ : ∃ g3, g3 = w.heap.size + 1 := ⟨_, rfl⟩
  have EB2 : Hid (Blk w2 g2 26 (entC e a ca b cb)) := by rw [hg2]; exact EB2'.out
  have EB3 : Hid (Blk w2 g3 26 (entC f a' ca' b' cb')) := by rw [hg3]; exact EB3'.out
  have HRS : Hid (∀ W, Below w2.heap.size w2 W → Calls Try.prog 16 #[.agg (entC e a ca b cb), .agg (entC f a' ca' b' cb')] W fun r w' => r = .returned (.bool S) ∧ Below W.heap.size W w') := Lib.hid fun W hW => by rw [HS.out]; exact refSame_any e f _ _ _ _ _ _ _ _ W (HX.out.below (Nat.le_refl _) hW) (HY.out.below (Nat.le_refl _) hW)
  have HYS : Hid (∀ W, Below w2.heap.size w2 W → Calls Try.prog 19 #[.agg (entC f a' ca' b' cb'), .agg (entC e a ca b cb)] W fun r w' => r = .returned (.bool S) ∧ Below W.heap.size W w') := Lib.hid fun W hW => by rw [HS'.out]; exact same_any f e _ _ _ _ _ _ _ _ W (HY.out.below (Nat.le_refl _) hW) (HX.out.below (Nat.le_refl _) hW)
  go_upto_region 4 with fail
  rw [← hg3, ← hg2]
  clear hg2 hg3
  have hG : ∀ W W' : World, Below w2.heap.size w2 W → Below W.heap.size W W' → Below w2.heap.size w2 W' := fun W W' hW hb => hW.trans (hb.mono hW.size)
  refine region_by [(15, .is (.bool S)), (16, .is (.agg (entC e a ca b cb))), (17, .is (.agg (entC f a' ca' b' cb'))), (18, .is (.bool S)), (19, .is (.bool false)), (20, .is (.bool false)), (21, .is (.bool S)), (22, .is (.agg (entC f a' ca' b' cb'))), (23, .is (.agg (entC e a ca b cb))), (24, .is (.bool S)), (25, .is (.bool false)), (26, .is (.bool false)), (27, .is (.bool false)), (28, .is (.agg (entC e a ca b cb))), (29, .is (.agg (entC e a ca b cb))), (30, isEnt e), (31, .is (.bool true)), (32, .is (.bool false)), (33, .is (.bool false))] [2, 3, 5, 33] (fun W => Below w2.heap.size w2 W) (by kernel_rfl) (by kernel_rfl) (by kernel_rfl) (by kernel_rfl) (by kernel_rfl) ((Below.refl _ _).drew) ?_ ?_
  · refine ⟨?c0, ?c1, ?c2, ?c3, ?c4, ?c5, ?c6, ?c7, ?c8, ?c9, ?c10, ?c11, ?c12, ?c13, ?c14, ?c15, ?c16, ?c17, ?c18, trivial⟩
    case c0 => exact ask_copy (guard_none rfl) (.tmp 5) (.inl rfl) (by intro k hk; cases hk; rfl)
    case c1 => exact ask_load (guard_none rfl) _ (.tmp 2) (.pointer (some ⟨g2, 0, none⟩)) (.agg (entC e a ca b cb)) rfl rfl (by intro k hk; cases hk; rfl) (fun W hW => ((EB2.out).keep hW).loads 26 _ Try.underlying26 rfl (entC_size _ _ _ _ _))
    case c2 => exact ask_load (guard_none rfl) _ (.tmp 3) (.pointer (some ⟨g3, 0, none⟩)) (.agg (entC f a' ca' b' cb')) rfl rfl (by intro k hk; cases hk; rfl) (fun W hW => ((EB3.out).keep hW).loads 26 _ Try.underlying26 rfl (entC_size _ _ _ _ _))
    case c3 => exact ask_call hG (guard_none rfl) _ _ _ #[.agg (entC e a ca b cb), .agg (entC f a' ca' b' cb')] (.is (.bool S)) rfl (by kernel_rfl) rfl rfl (by intro k hk; cases hk; rfl) (fun W hW => (HRS.out W hW).mono fun e w' h => ⟨_, h.1, rfl, h.2⟩)
    case c4 => exact ask_bin (guard_none rfl) _ _ _ _ _ _ _ _ rfl rfl rfl (by intro k hk; cases hk; rfl) (neq_bool _ _ S)
    case c5 => exact ask_copy (guard_none rfl) (.tmp 19) (.inl rfl) (by intro k hk; cases hk; rfl)
    case c6 => exact ask_copy (guard_some rfl rfl rfl) (.tmp 5) (.inl rfl) (by intro k hk; cases hk; rfl)
    case c7 => exact ask_load (guard_some rfl rfl rfl) _ (.tmp 3) (.pointer (some ⟨g3, 0, none⟩)) (.agg (entC f a' ca' b' cb')) rfl rfl (by intro k hk; cases hk; rfl) (fun W hW => ((EB3.out).keep hW).loads 26 _ Try.underlying26 rfl (entC_size _ _ _ _ _))
    case c8 => exact ask_load (guard_some rfl rfl rfl) _ (.tmp 2) (.pointer (some ⟨g2, 0, none⟩)) (.agg (entC e a ca b cb)) rfl rfl (by intro k hk; cases hk; rfl) (fun W hW => ((EB2.out).keep hW).loads 26 _ Try.underlying26 rfl (entC_size _ _ _ _ _))
    case c9 => exact ask_call hG (guard_some rfl rfl rfl) _ _ _ #[.agg (entC f a' ca' b' cb'), .agg (entC e a ca b cb)] (.is (.bool S)) rfl (by kernel_rfl) rfl rfl (by intro k hk; cases hk; rfl) (fun W hW => (HYS.out W hW).mono fun e w' h => ⟨_, h.1, rfl, h.2⟩)
    case c10 => exact ask_bin (guard_some rfl rfl rfl) _ _ _ _ _ _ _ _ rfl rfl rfl (by intro k hk; cases hk; rfl) (neq_bool _ _ S)
    case c11 => exact ask_pick (guard_none rfl) (.tmp 20) (.const (.bool true)) (.tmp 25) false rfl rfl (by intro k hk; cases hk; rfl)
    case c12 => exact ask_copy (guard_none rfl) (.tmp 26) (.inl rfl) (by intro k hk; cases hk; rfl)
    case c13 => exact ask_load (guard_some rfl rfl rfl) _ (.tmp 2) (.pointer (some ⟨g2, 0, none⟩)) (.agg (entC e a ca b cb)) rfl rfl (by intro k hk; cases hk; rfl) (fun W hW => ((EB2.out).keep hW).loads 26 _ Try.underlying26 rfl (entC_size _ _ _ _ _))
    case c14 => exact ask_load (guard_some rfl rfl rfl) _ (.tmp 2) (.pointer (some ⟨g2, 0, none⟩)) (.agg (entC e a ca b cb)) rfl rfl (by intro k hk; cases hk; rfl) (fun W hW => ((EB2.out).keep hW).loads 26 _ Try.underlying26 rfl (entC_size _ _ _ _ _))
    case c15 => exact ask_call hG (guard_some rfl rfl rfl) _ _ _ #[.agg (entC e a ca b cb)] (isEnt e) rfl (by kernel_rfl) rfl rfl (by intro k hk; cases hk; rfl) (fun W hW => (copied_any e _ _ _ _ W (HX.out.below (Nat.le_refl _) hW) hm8).mono fun r w' ⟨a3, ca3, b3, cb3, h1, h2, h3⟩ => ⟨_, h1, ⟨a3, ca3, b3, cb3, rfl, h2⟩, h3⟩)
    case c16 => exact ask_call_by hG (guard_some rfl rfl rfl) _ _ _ (.is (.bool true)) rfl (by kernel_rfl) (by intro k hk; cases hk; rfl) (fun x W hW hk => by
      have e1 : x 28 = .agg (entC e a ca b cb) := hk 28 rfl
      obtain ⟨a3, ca3, b3, cb3, e2, h2⟩ := hk 30 rfl
      show Calls _ _ #[x 28, x 30] W _
      rw [e1, e2]
      exact (same_self e _ _ _ _ _ _ _ _ W (HX.out.below (Nat.le_refl _) hW) h2).mono fun r w' h => ⟨_, h.1, rfl, h.2⟩)
    case c17 => exact ask_exec (guard_some rfl rfl rfl) (.bool false) rfl rfl (by intro k hk; cases hk; rfl) (fun W hW => by kernel_rfl)
    case c18 => exact ask_pick (guard_none rfl) (.tmp 27) (.const (.bool true)) (.tmp 32) false rfl rfl (by intro k hk; cases hk; rfl)
  intro af w3 hW hd' hs' hf'
  have t2 : af.tmps.getD 2 undef = .pointer (some ⟨g2, 0, none⟩) := hf' 2 rfl
  have t3 : af.tmps.getD 3 undef = .pointer (some ⟨g3, 0, none⟩) := hf' 3 rfl
  have t5 : af.tmps.getD 5 undef = .bool S := hf' 5 rfl
  have t33 : af.tmps.getD 33 undef = .bool false := hf' 33 rfl
  obtain ⟨us, hus, haf⟩ := act_open 59 af hs' hd'
  rw [← hus] at t2 t3 t5 t33
  have el : ((List.range 59).map us).toArray = #[us 0, us 1, us 2, us 3, us 4, us 5, us 6, us 7, us 8, us 9, us 10, us 11, us 12, us 13, us 14, us 15, us 16, us 17, us 18, us 19, us 20, us 21, us 22, us 23, us 24, us 25, us 26, us 27, us 28, us 29, us 30, us 31, us 32, us 33, us 34, us 35, us 36, us 37, us 38, us 39, us 40, us 41, us 42, us 43, us 44, us 45, us 46, us 47, us 48, us 49, us 50, us 51, us 52, us 53, us 54, us 55, us 56, us 57, us 58] := rfl
  rw [el] at haf
  subst haf
  rw [t2, t3, t5, t33]
  have HW := Lib.hid hW
  clear hus t2 t3 t5 t33 el hf' hs' hd' hW hG
  have HB3 := Lib.hid (HB2.out.trans (HW.out.mono HB2.out.size))
  have EB2w := Lib.hid (EB2.out.keep HW.out)
  have EB3w := Lib.hid (EB3.out.keep HW.out)
  have HX3 := Lib.hid (HX.out.below (Nat.le_refl _) HW.out)
  have HY3 := Lib.hid (HY.out.below (Nat.le_refl _) HW.out)
  go_wp2_with (refine wpList_load_by rfl 26 (.tmp 2) rfl _ _ rfl (EB2w.out.loads 26 _ Try.underlying26 rfl (entC_size _ _ _ _ _)) ?_)
  refine (put_is HLC.out HX3.out).mono ?_
  rintro r w4 ⟨v6, rfl, hr, hb⟩
  have HV6 := Lib.hid hr
  have HB4 := Lib.hid (HB3.out.trans (hb.mono HB3.out.size))
  have EB34 := Lib.hid (EB3w.out.keep hb)
  have HY4 := Lib.hid (HY3.out.below (Nat.le_refl _) hb)
  clear hr hb
  go_wp2_with (refine wpList_load_by rfl 26 (.tmp 3) rfl _ _ rfl (EB34.out.loads 26 _ Try.underlying26 rfl (entC_size _ _ _ _ _)) ?_)
  refine (put_is HLC'.out HY4.out).mono ?_
  rintro r w5 ⟨v8, rfl, hr, hb⟩
  have c2 := conv_bys hr
  have c1 := conv_bys (HV6.out.below (Nat.le_refl _) hb)
  have HB5 := Lib.hid (HB4.out.trans (hb.mono HB4.out.size))
  clear hr hb
  obtain ⟨X, hX⟩ : ∃ X : ByteArray, X = ⟨l.toArray⟩ := ⟨_, rfl⟩
  obtain ⟨Y, hY⟩ : ∃ Y : ByteArray, Y = ⟨l'.toArray⟩ := ⟨_, rfl⟩
  rw [← hX] at c1
  rw [← hY] at c2
  have HXe := Lib.hid hX
  have HYe := Lib.hid hY
  clear hX hY
  by_cases hc : c = 0
  · subst hc
    have hcz : (((0 : Nat) : Int) != 0) = false := rfl
    by_cases hc' : c' = 0
    · subst hc'
      obtain ⟨hfe, hpe⟩ := putR_zero HLC.out
      obtain ⟨hff, hpf⟩ := putR_zero HLC'.out
      have hXY : (X.toList == Y.toList) = S := by
        rw [HXe.out, HYe.out, ByteArray.toList_mk, ByteArray.toList_mk, HS.out, ← hpe, ← hpf]
        by_cases h : e = f
        · rw [decide_eq_true h, h]; exact beq_self_eq_true _
        · rw [decide_eq_false h]; exact beq_false_of_ne fun h2 => h (putL_inj HX0.out.ok HY0.out.ok hfe hff h2)
      clear hfe hpe hff hpf
      cases S with
      | true =>
        go_wp2
        go_ret
        exact ⟨rfl, HB5.out⟩
      | false =>
        go_wp2
        go_ret
        exact ⟨rfl, HB5.out⟩
    · have hcz' : ((c' : Int) != 0) = true := by simp; omega
      clear c1 c2
      go_wp2
      go_ret
      exact ⟨rfl, HB5.out⟩
  · have hcz : ((c : Int) != 0) = true := by simp; omega
    clear c1 c2
    go_wp2
    go_ret
    exact ⟨rfl, HB5.out⟩

end Go.Proofs.Ytleoiklcddkgdaa
