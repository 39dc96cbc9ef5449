/- Joined: MsgLays, MsgReads, MsgBack, MsgCuts, MsgSames, MsgOpen, MsgLast. -/
import Derived.Test.YtidapdooiibfnaaXE
import Derived.Test.YtidapdooiibfnaaXD
import Derived.Test.YtidapdooiibfnaaHK
import Derived.Deep.Slices
import Derived.OpenShut
import Derived.SizedLaws
/- The law MsgLays, walked. -/
namespace Go.Proofs.Ytidapdooiibfnaa
set_option maxRecDepth 20000
open Go.RowKit BinMath CmdMath Reg
open MsgMath (Mg getM putM formedM)

set_option maxHeartbeats 4000000 in
set_option maxRecDepth 100000 in
theorem msg_lays_all (hp : MsgProg) (w : World) (m : Mg) (ve vm vg : Value) (us : List EE) (he : MHas w m ve vm vg us) (hu8 : us.length ≤ 1759218604390) (hm8 : m.m.length ≤ 17592186043904) (he8 : ∀ u ∈ us, u.e.m.length ≤ 17592186043904) :
    Calls Try.prog 3 #[.agg (mgC m ve vm vg)] w fun e w' => e = .returned (.bool true) ∧ Below w.heap.size w w' := by
  obtain ⟨l, c, hlc⟩ : ∃ l c, putMR m = (l, c) := ⟨_, _, rfl⟩
  obtain ⟨F, hF⟩ : ∃ F, F = formedM m := ⟨_, rfl⟩
  have HLC := Lib.hid hlc
  have HF := Lib.hid hF
  have b1 : Below w.heap.size w (w.alloc (.cells (mgC m ve vm vg) 27)) := (Below.refl _ _).alloc (Nat.le_refl _) _
  have E0 := Lib.hid (Blk.new w 27 (mgC m ve vm vg))
  have HH0 := Lib.hid he
  have HB0 := Lib.hid b1
  clear he b1 hlc hF
  go_enter Try.func3, Try.ntmps3
  go_wp2_with fail
  refine (wake18_any hp _).mono ?_
  rintro r w1 ⟨rfl, hb1⟩
  have E1 := Lib.hid (E0.out.keep hb1)
  have HB1 := Lib.hid (HB0.out.trans (hb1.mono HB0.out.size))
  have HH1 := Lib.hid (HH0.out.below (Nat.le_refl _) HB1.out)
  clear hb1
  go_wp2_with (refine wpList_load_by rfl 27 (.tmp 1) rfl _ _ rfl (E1.out.loads 27 _ Try.underlying27 rfl (mgC_info _ _ _ _)) ?_)
  refine (msgCopied_any m _ _ _ us w1 HH1.out hu8 hm8 he8).mono ?_
  rintro r w2 ⟨ve3, vm3, vg3, us3, rfl, hh, hb⟩
  have HO2 := Lib.hid hh
  have E2 := Lib.hid (E1.out.keep hb)
  have HB2 := Lib.hid (HB1.out.trans (hb.mono HB1.out.size))
  have HH2 := Lib.hid (HH1.out.below (Nat.le_refl _) hb)
  clear hh hb
  go_wp2_with (first | (refine wpList_store_all rfl 27 (.tmp 3) (.tmp 11) rfl w2.heap.size (mgC m ve3 vm3 vg3) rfl rfl 27 zeroM (Blk.new w2 _ _) (mgC_info _ _ _ _) rfl (mgC_one HO2.out) ?_; intro w3 hb hos; (have O3 := Lib.hid hb); (have hbb := below_two ((Below.refl w2.heap.size w2).alloc (Nat.le_refl _) (.cells zeroM 27)) hos (fun k hk e => by omega) (by rw [World.size_alloc]; omega)); (have E3 := Lib.hid (E2.out.keep hbb)); (have HB3 := Lib.hid (HB2.out.trans (hbb.mono HB2.out.size))); (have HO3 := Lib.hid (HO2.out.below (Nat.le_refl _) hbb)); (have HH3 := Lib.hid (HH2.out.below (Nat.le_refl _) hbb)); clear hb hos hbb) | (refine wpList_load_by rfl 27 (.tmp 3) rfl _ _ rfl (O3.out.loads 27 _ Try.underlying27 rfl (mgC_info _ _ _ _)) ?_))
  refine (hp.put_is HLC.out HO3.out).mono ?_
  rintro r w4 ⟨a4, k4, rfl, hr, -, hb⟩
  obtain ⟨v4, hv4⟩ : ∃ v4, v4 = Value.slice a4 l.length k4 := ⟨_, rfl⟩
  rw [← hv4] at hr ⊢
  clear hv4
  have HV4' := Lib.hid hr
  have E4 := Lib.hid (E3.out.keep hb)
  have O4 := Lib.hid (O3.out.keep hb)
  have HB4 := Lib.hid (HB3.out.trans (hb.mono HB3.out.size))
  have HO4 := Lib.hid (HO3.out.below (Nat.le_refl _) hb)
  have HH4 := Lib.hid (HH3.out.below (Nat.le_refl _) hb)
  clear hr hb
  go_wp2_with (refine wpList_load_by rfl 27 (.tmp 1) rfl _ _ rfl (E4.out.loads 27 _ Try.underlying27 rfl (mgC_info _ _ _ _)) ?_)
  refine (refMsgPut_is HLC.out HH4.out).mono ?_
  rintro r w5 ⟨v6, rfl, hr, hb⟩
  have HV6 := Lib.hid hr
  have HV4 := Lib.hid (HV4'.out.below (Nat.le_refl _) hb)
  have EB1 := Lib.hid (E4.out.keep hb)
  have EB3 := Lib.hid (O4.out.keep hb)
  have HB5 := Lib.hid (HB4.out.trans (hb.mono HB4.out.size))
  have HO5 := Lib.hid (HO4.out.below (Nat.le_refl _) hb)
  have HH5 := Lib.hid (HH4.out.below (Nat.le_refl _) hb)
  clear hr hb
  obtain ⟨g1, hg1⟩ : ∃ g1, g1 = w.heap.size := ⟨_, rfl⟩
  obtain ⟨g3, hg3⟩ : ∃ g3, g3 = w2.heap.size := ⟨_, rfl⟩
  rw [← hg1] at EB1
  rw [← hg3] at EB3
  have HForm : Hid (∀ W, Below w5.heap.size w5 W → Calls Try.prog 12 #[.agg (mgC m ve3 vm3 vg3)] W fun r w' => r = .returned (.bool F) ∧ Below W.heap.size W w') := Lib.hid fun W hW => by rw [HF.out]; exact hp.formed m _ _ _ us3 W (HO5.out.below (Nat.le_refl _) hW)
  have HRForm : Hid (∀ W, Below w5.heap.size w5 W → Calls Try.prog 13 #[.agg (mgC m ve vm vg)] W fun r w' => r = .returned (.bool F) ∧ Below W.heap.size W w') := Lib.hid fun W hW => by rw [HF.out]; exact refMsgFormed_any m _ _ _ us W (HH5.out.below (Nat.le_refl _) hW)
  have HSame : Hid (∀ W, Below w5.heap.size w5 W → Calls Try.prog 14 #[.agg (mgC m ve3 vm3 vg3), .agg (mgC m ve vm vg)] W fun r w' => r = .returned (.bool true) ∧ Below W.heap.size W w') := Lib.hid fun W hW => refMsgSame_self m (HO5.out.below (Nat.le_refl _) hW) (HH5.out.below (Nat.le_refl _) hW)
  go_upto_region 6 with fail
  rw [← hg1, ← hg3]
  clear hg1 hg3
  have hG : ∀ W W' : World, Below w5.heap.size w5 W → Below W.heap.size W W' → Below w5.heap.size w5 W' := fun W W' hW hb => hW.trans (hb.mono hW.size)
  refine region_by [(22, .is (.agg (mgC m ve3 vm3 vg3))), (23, .is (.bool F)), (24, .is (.agg (mgC m ve vm vg))), (25, .is (.bool F)), (26, .is (.bool true)), (27, .is (.bool true)), (28, .is (.int .i64 (c : Int))), (29, .is (.int .i64 (c : Int))), (30, .is (.bool true)), (31, .is (.bool true)), (32, .is (.bool true)), (33, .is v4), (34, .is (.string ⟨l.toArray⟩)), (35, .is v6), (36, .is (.string ⟨l.toArray⟩)), (37, .is (.bool true)), (38, .is (.bool true)), (39, .is (.bool true)), (40, .is (.agg (mgC m ve3 vm3 vg3))), (41, .is (.agg (mgC m ve vm vg))), (42, .is (.bool true)), (43, .is (.bool true)), (2, .is (.bool true))] [2] (fun W => Below w5.heap.size w5 W) (by kernel_rfl) (by kernel_rfl) (by kernel_rfl) (by kernel_rfl) (by kernel_rfl) ((Below.refl _ _).drew) ?_ ?_
  · refine ⟨?c0, ?c1, ?c2, ?c3, ?c4, ?c5, ?c6, ?c7, ?c8, ?c9, ?c10, ?c11, ?c12, ?c13, ?c14, ?c15, ?c16, ?c17, ?c18, ?c19, ?c20, ?c21, ?c22, trivial⟩
    case c0 => exact ask_load (guard_none rfl) _ (.tmp 3) (.pointer (some ⟨g3, 0, none⟩)) (.agg (mgC m ve3 vm3 vg3)) rfl rfl (by intro k hk; cases hk; rfl) (fun W hW => ((EB3.out).keep hW).loads 27 _ Try.underlying27 rfl (mgC_info _ _ _ _))
    case c1 => exact ask_call hG (guard_none rfl) _ _ _ #[.agg (mgC m ve3 vm3 vg3)] (.is (.bool F)) rfl (by kernel_rfl) rfl rfl (by intro k hk; cases hk; rfl) (fun W hW => (HForm.out W hW).mono fun e w' h => ⟨_, h.1, rfl, h.2⟩)
    case c2 => exact ask_load (guard_none rfl) _ (.tmp 1) (.pointer (some ⟨g1, 0, none⟩)) (.agg (mgC m ve vm vg)) rfl rfl (by intro k hk; cases hk; rfl) (fun W hW => ((EB1.out).keep hW).loads 27 _ Try.underlying27 rfl (mgC_info _ _ _ _))
    case c3 => exact ask_call hG (guard_none rfl) _ _ _ #[.agg (mgC m ve vm vg)] (.is (.bool F)) rfl (by kernel_rfl) rfl rfl (by intro k hk; cases hk; rfl) (fun W hW => (HRForm.out W hW).mono fun e w' h => ⟨_, h.1, rfl, h.2⟩)
    case c4 => exact ask_bin (guard_none rfl) _ _ _ _ _ _ _ _ rfl rfl rfl (by intro k hk; cases hk; rfl) (eql_bool _ _ F)
    case c5 => exact ask_copy (guard_none rfl) (.tmp 26) (.inl rfl) (by intro k hk; cases hk; rfl)
    case c6 => exact ask_copy (guard_some rfl rfl rfl) (.tmp 5) (.inl rfl) (by intro k hk; cases hk; rfl)
    case c7 => exact ask_copy (guard_some rfl rfl rfl) (.tmp 7) (.inl rfl) (by intro k hk; cases hk; rfl)
    case c8 => exact ask_bin (guard_some rfl rfl rfl) _ _ _ _ _ _ _ _ rfl rfl rfl (by intro k hk; cases hk; rfl) (eql_errno _ _ (c : Int))
    case c9 => exact ask_pick (guard_none rfl) (.tmp 27) (.tmp 30) (.const (.bool false)) true rfl rfl (by intro k hk; cases hk; rfl)
    case c10 => exact ask_copy (guard_none rfl) (.tmp 31) (.inl rfl) (by intro k hk; cases hk; rfl)
    case c11 => exact ask_copy (guard_some rfl rfl rfl) (.tmp 4) (.inl rfl) (by intro k hk; cases hk; rfl)
    case c12 => exact ask_string_is (guard_some rfl rfl rfl) (.tmp 33) v4 l rfl (fun W hW => HV4.out.below (Nat.le_refl _) hW) rfl (by intro k hk; cases hk; rfl)
    case c13 => exact ask_copy (guard_some rfl rfl rfl) (.tmp 6) (.inl rfl) (by intro k hk; cases hk; rfl)
    case c14 => exact ask_string_is (guard_some rfl rfl rfl) (.tmp 35) v6 l rfl (fun W hW => HV6.out.below (Nat.le_refl _) hW) rfl (by intro k hk; cases hk; rfl)
    case c15 => exact ask_same (guard_some rfl rfl rfl) (.tmp 34) (.tmp 36) ⟨l.toArray⟩ _ _ rfl rfl rfl (by intro k hk; cases hk; rfl)
    case c16 => exact ask_pick (guard_none rfl) (.tmp 32) (.tmp 37) (.const (.bool false)) true rfl rfl (by intro k hk; cases hk; rfl)
    case c17 => exact ask_copy (guard_none rfl) (.tmp 38) (.inl rfl) (by intro k hk; cases hk; rfl)
    case c18 => exact ask_load (guard_some rfl rfl rfl) _ (.tmp 3) (.pointer (some ⟨g3, 0, none⟩)) (.agg (mgC m ve3 vm3 vg3)) rfl rfl (by intro k hk; cases hk; rfl) (fun W hW => ((EB3.out).keep hW).loads 27 _ Try.underlying27 rfl (mgC_info _ _ _ _))
    case c19 => exact ask_load (guard_some rfl rfl rfl) _ (.tmp 1) (.pointer (some ⟨g1, 0, none⟩)) (.agg (mgC m ve vm vg)) rfl rfl (by intro k hk; cases hk; rfl) (fun W hW => ((EB1.out).keep hW).loads 27 _ Try.underlying27 rfl (mgC_info _ _ _ _))
    case c20 => exact ask_call hG (guard_some rfl rfl rfl) _ _ _ #[.agg (mgC m ve3 vm3 vg3), .agg (mgC m ve vm vg)] (.is (.bool true)) rfl (by kernel_rfl) rfl rfl (by intro k hk; cases hk; rfl) (fun W hW => (HSame.out W hW).mono fun e w' h => ⟨_, h.1, rfl, h.2⟩)
    case c21 => exact ask_pick (guard_none rfl) (.tmp 39) (.tmp 42) (.const (.bool false)) true rfl rfl (by intro k hk; cases hk; rfl)
    case c22 => exact ask_copy (guard_none rfl) (.tmp 43) (.inr rfl) (by intro k hk; cases hk; rfl)
  intro af w6 hW hd' hs' hf'
  have t2 : af.tmps.getD 2 undef = .bool true := hf' 2 rfl
  obtain ⟨us, hus, haf⟩ := act_open 44 af hs' hd'
  rw [← hus] at t2
  have el : ((List.range 44).map us).toArray = #[us 0, us 1, us 2, us 3, us 4, us 5, us 6, us 7, us 8, us 9, us 10, us 11, us 12, us 13, us 14, us 15, us 16, us 17, us 18, us 19, us 20, us 21, us 22, us 23, us 24, us 25, us 26, us 27, us 28, us 29, us 30, us 31, us 32, us 33, us 34, us 35, us 36, us 37, us 38, us 39, us 40, us 41, us 42, us 43] := rfl
  rw [el] at haf
  subst haf
  rw [t2]
  have HW := Lib.hid hW
  clear hus t2 el hf' hs' hd' hW hG
  go_wp2
  go_ret
  exact ⟨rfl, HB5.out.trans (HW.out.mono HB5.out.size)⟩
end Go.Proofs.Ytidapdooiibfnaa

/- The law MsgReads, walked. -/
namespace Go.Proofs.Ytidapdooiibfnaa
set_option maxRecDepth 20000
open Go.RowKit BinMath CmdMath
open MsgMath (Mg getM)

end Go.Proofs.Ytidapdooiibfnaa

/- The law MsgBack, walked. -/
namespace Go.Proofs.Ytidapdooiibfnaa
set_option maxRecDepth 20000
open Go.RowKit BinMath CmdMath
open MsgMath (Mg getM getM_lay putM formedM gMsg)

/-- A reading's fault has a number. -/
def Flt {α : Type} (p : MsgMath.Rd α) : Prop := ∀ l c, p l = .error c → c ≠ 0
theorem Flt.ret {α : Type} (x : α) : Flt (MsgMath.retP x) := fun l c h => by cases h
theorem Flt.fail {α : Type} {k : Nat} (hk : k ≠ 0) : Flt (MsgMath.failP k : MsgMath.Rd α) := fun l c h => by cases h; exact hk
theorem Flt.bind {α β : Type} {p : MsgMath.Rd α} {q : α → MsgMath.Rd β} (hp : Flt p) (hq : ∀ x, Flt (q x)) : Flt (MsgMath.bindP p q) := fun l c h => by
  cases hx : p l with
  | error d => rw [MsgMath.bindP_err hx] at h; cases h; exact hp l _ hx
  | ok w =>
    obtain ⟨x, t⟩ := w
    rw [MsgMath.bindP_ok hx] at h
    exact hq x t c h
end Go.Proofs.Ytidapdooiibfnaa

/- The law MsgCuts, walked. -/
namespace Go.Proofs.Ytidapdooiibfnaa
set_option maxRecDepth 20000
open Go.RowKit BinMath CmdMath
open MsgMath (Mg getM getM_cut getM_more putM formedM)

end Go.Proofs.Ytidapdooiibfnaa

/- The law MsgSames, walked. -/
namespace Go.Proofs.Ytidapdooiibfnaa
set_option maxRecDepth 20000
open Go.RowKit BinMath CmdMath Reg
open MsgMath (Mg getM putM formedM putM_inj)

/-- A copy of the message. -/
def isMsg (m : Mg) : Fact := .sat (fun v W => ∃ ve vm vg us, v = .agg (mgC m ve vm vg) ∧ MHas W m ve vm vg us) fun _ _ _ ⟨ve, vm, vg, us, h1, h2⟩ hb => ⟨ve, vm, vg, us, h1, h2.below (Nat.le_refl _) hb⟩

set_option maxHeartbeats 4000000 in
set_option maxRecDepth 100000 in
theorem msg_sames_all (hp : MsgProg) (w : World) (e : Mg) (ve vm vg : Value) (us1 : List EE) (he : MHas w e ve vm vg us1) (hu8 : us1.length ≤ 1759218604390) (hm8 : e.m.length ≤ 17592186043904) (he8 : ∀ u ∈ us1, u.e.m.length ≤ 17592186043904) (f : Mg) (ve' vm' vg' : Value) (us2 : List EE) (hf : MHas w f ve' vm' vg' us2) :
    Calls Try.prog 7 #[.agg (mgC e ve vm vg), .agg (mgC f ve' vm' vg')] w fun e w' => e = .returned (.bool true) ∧ Below w.heap.size w w' := by
  obtain ⟨S, hS⟩ : ∃ S, S = decide (e = f) := ⟨_, rfl⟩
  obtain ⟨l, c, hlc⟩ : ∃ l c, putMR e = (l, c) := ⟨_, _, rfl⟩
  obtain ⟨l', c', hlc'⟩ : ∃ l c, putMR f = (l, c) := ⟨_, _, rfl⟩
  have HLC := Lib.hid hlc
  have HLC' := Lib.hid hlc'
  have HS := Lib.hid hS
  have HS' := Lib.hid (show S = decide (f = e) by rw [hS]; exact decide_eq_decide.2 ⟨fun h => h.symm, fun h => h.symm⟩)
  have b1 : Below w.heap.size w ((w.alloc (.cells (mgC e ve vm vg) 27)).alloc (.cells (mgC f ve' vm' vg') 27)) := ((Below.refl _ _).alloc (Nat.le_refl _) _).alloc (by simp) _
  have E0 := Lib.hid (show Blk ((w.alloc (.cells (mgC e ve vm vg) 27)).alloc (.cells (mgC f ve' vm' vg') 27)) w.heap.size 27 (mgC e ve vm vg) from (Blk.new w _ _).alloc _)
  have F0 := Lib.hid (show Blk ((w.alloc (.cells (mgC e ve vm vg) 27)).alloc (.cells (mgC f ve' vm' vg') 27)) (w.heap.size + 1) 27 (mgC f ve' vm' vg') from by have := Blk.new (w.alloc (.cells (mgC e ve vm vg) 27)) 27 (mgC f ve' vm' vg'); simpa using this)
  have HX0 := Lib.hid he
  have HY0 := Lib.hid hf
  have HB0 := Lib.hid b1
  clear he hf b1 hS hlc hlc'
  go_enter Try.func7, Try.ntmps7
  go_wp2_with fail
  refine (wake18_any hp _).mono ?_
  rintro r w1 ⟨rfl, hb1⟩
  have E1 := Lib.hid (E0.out.keep hb1)
  have F1 := Lib.hid (F0.out.keep hb1)
  have HB1 := Lib.hid (HB0.out.trans (hb1.mono HB0.out.size))
  have HX1 := Lib.hid (HX0.out.below (Nat.le_refl _) HB1.out)
  have HY1 := Lib.hid (HY0.out.below (Nat.le_refl _) HB1.out)
  clear hb1
  go_wp2_with (first | (refine wpList_load_by rfl 27 (.tmp 2) rfl _ _ rfl (E1.out.loads 27 _ Try.underlying27 rfl (mgC_info _ _ _ _)) ?_) | (refine wpList_load_by rfl 27 (.tmp 3) rfl _ _ rfl (F1.out.loads 27 _ Try.underlying27 rfl (mgC_info _ _ _ _)) ?_))
  have HS0 := Lib.hid (hp.same e f _ _ _ _ _ _ _ _ w1 HX1.out HY1.out)
  refine HS0.out.mono ?_
  rintro r w2 ⟨rfl, hb⟩
  rw [← HS.out]
  have EB2' := Lib.hid (E1.out.keep hb)
  have EB3' := Lib.hid (F1.out.keep hb)
  have HB2 := Lib.hid (HB1.out.trans (hb.mono HB1.out.size))
  have HX := Lib.hid (HX1.out.below (Nat.le_refl _) hb)
  have HY := Lib.hid (HY1.out.below (Nat.le_refl _) hb)
  clear hb HS0
  obtain ⟨g2, hg2⟩ : ∃ g2, g2 = w.heap.size := ⟨_, rfl⟩
  obtain ⟨g3, hg3⟩ : ∃ g3, g3 = w.heap.size + 1 := ⟨_, rfl⟩
  have EB2 : Hid (Blk w2 g2 27 (mgC e ve vm vg)) := by rw [hg2]; exact EB2'.out
  have EB3 : Hid (Blk w2 g3 27 (mgC f ve' vm' vg')) := by rw [hg3]; exact EB3'.out
  have HRS : Hid (∀ W, Below w2.heap.size w2 W → Calls Try.prog 14 #[.agg (mgC e ve vm vg), .agg (mgC f ve' vm' vg')] W fun r w' => r = .returned (.bool S) ∧ Below W.heap.size W w') := Lib.hid fun W hW => by rw [HS.out]; exact refMsgSame_any e f _ _ _ _ _ _ _ _ W (HX.out.below (Nat.le_refl _) hW) (HY.out.below (Nat.le_refl _) hW)
  have HYS : Hid (∀ W, Below w2.heap.size w2 W → Calls Try.prog 17 #[.agg (mgC f ve' vm' vg'), .agg (mgC e ve vm vg)] W fun r w' => r = .returned (.bool S) ∧ Below W.heap.size W w') := Lib.hid fun W hW => by rw [HS'.out]; exact hp.same f e _ _ _ _ _ _ _ _ W (HY.out.below (Nat.le_refl _) hW) (HX.out.below (Nat.le_refl _) hW)
  go_upto_region 4 with fail
  rw [← hg3, ← hg2]
  clear hg2 hg3
  have hG : ∀ W W' : World, Below w2.heap.size w2 W → Below W.heap.size W W' → Below w2.heap.size w2 W' := fun W W' hW hb => hW.trans (hb.mono hW.size)
  refine region_by [(15, .is (.bool S)), (16, .is (.agg (mgC e ve vm vg))), (17, .is (.agg (mgC f ve' vm' vg'))), (18, .is (.bool S)), (19, .is (.bool false)), (20, .is (.bool false)), (21, .is (.bool S)), (22, .is (.agg (mgC f ve' vm' vg'))), (23, .is (.agg (mgC e ve vm vg))), (24, .is (.bool S)), (25, .is (.bool false)), (26, .is (.bool false)), (27, .is (.bool false)), (28, .is (.agg (mgC e ve vm vg))), (29, .is (.agg (mgC e ve vm vg))), (30, isMsg e), (31, .is (.bool true)), (32, .is (.bool false)), (33, .is (.bool false))] [2, 3, 5, 33] (fun W => Below w2.heap.size w2 W) (by kernel_rfl) (by kernel_rfl) (by kernel_rfl) (by kernel_rfl) (by kernel_rfl) ((Below.refl _ _).drew) ?_ ?_
  · refine ⟨?c0, ?c1, ?c2, ?c3, ?c4, ?c5, ?c6, ?c7, ?c8, ?c9, ?c10, ?c11, ?c12, ?c13, ?c14, ?c15, ?c16, ?c17, ?c18, trivial⟩
    case c0 => exact ask_copy (guard_none rfl) (.tmp 5) (.inl rfl) (by intro k hk; cases hk; rfl)
    case c1 => exact ask_load (guard_none rfl) _ (.tmp 2) (.pointer (some ⟨g2, 0, none⟩)) (.agg (mgC e ve vm vg)) rfl rfl (by intro k hk; cases hk; rfl) (fun W hW => ((EB2.out).keep hW).loads 27 _ Try.underlying27 rfl (mgC_info _ _ _ _))
    case c2 => exact ask_load (guard_none rfl) _ (.tmp 3) (.pointer (some ⟨g3, 0, none⟩)) (.agg (mgC f ve' vm' vg')) rfl rfl (by intro k hk; cases hk; rfl) (fun W hW => ((EB3.out).keep hW).loads 27 _ Try.underlying27 rfl (mgC_info _ _ _ _))
    case c3 => exact ask_call hG (guard_none rfl) _ _ _ #[.agg (mgC e ve vm vg), .agg (mgC f ve' vm' vg')] (.is (.bool S)) rfl (by kernel_rfl) rfl rfl (by intro k hk; cases hk; rfl) (fun W hW => (HRS.out W hW).mono fun e w' h => ⟨_, h.1, rfl, h.2⟩)
    case c4 => exact ask_bin (guard_none rfl) _ _ _ _ _ _ _ _ rfl rfl rfl (by intro k hk; cases hk; rfl) (neq_bool _ _ S)
    case c5 => exact ask_copy (guard_none rfl) (.tmp 19) (.inl rfl) (by intro k hk; cases hk; rfl)
    case c6 => exact ask_copy (guard_some rfl rfl rfl) (.tmp 5) (.inl rfl) (by intro k hk; cases hk; rfl)
    case c7 => exact ask_load (guard_some rfl rfl rfl) _ (.tmp 3) (.pointer (some ⟨g3, 0, none⟩)) (.agg (mgC f ve' vm' vg')) rfl rfl (by intro k hk; cases hk; rfl) (fun W hW => ((EB3.out).keep hW).loads 27 _ Try.underlying27 rfl (mgC_info _ _ _ _))
    case c8 => exact ask_load (guard_some rfl rfl rfl) _ (.tmp 2) (.pointer (some ⟨g2, 0, none⟩)) (.agg (mgC e ve vm vg)) rfl rfl (by intro k hk; cases hk; rfl) (fun W hW => ((EB2.out).keep hW).loads 27 _ Try.underlying27 rfl (mgC_info _ _ _ _))
    case c9 => exact ask_call hG (guard_some rfl rfl rfl) _ _ _ #[.agg (mgC f ve' vm' vg'), .agg (mgC e ve vm vg)] (.is (.bool S)) rfl (by kernel_rfl) rfl rfl (by intro k hk; cases hk; rfl) (fun W hW => (HYS.out W hW).mono fun e w' h => ⟨_, h.1, rfl, h.2⟩)
    case c10 => exact ask_bin (guard_some rfl rfl rfl) _ _ _ _ _ _ _ _ rfl rfl rfl (by intro k hk; cases hk; rfl) (neq_bool _ _ S)
    case c11 => exact ask_pick (guard_none rfl) (.tmp 20) (.const (.bool true)) (.tmp 25) false rfl rfl (by intro k hk; cases hk; rfl)
    case c12 => exact ask_copy (guard_none rfl) (.tmp 26) (.inl rfl) (by intro k hk; cases hk; rfl)
    case c13 => exact ask_load (guard_some rfl rfl rfl) _ (.tmp 2) (.pointer (some ⟨g2, 0, none⟩)) (.agg (mgC e ve vm vg)) rfl rfl (by intro k hk; cases hk; rfl) (fun W hW => ((EB2.out).keep hW).loads 27 _ Try.underlying27 rfl (mgC_info _ _ _ _))
    case c14 => exact ask_load (guard_some rfl rfl rfl) _ (.tmp 2) (.pointer (some ⟨g2, 0, none⟩)) (.agg (mgC e ve vm vg)) rfl rfl (by intro k hk; cases hk; rfl) (fun W hW => ((EB2.out).keep hW).loads 27 _ Try.underlying27 rfl (mgC_info _ _ _ _))
    case c15 => exact ask_call hG (guard_some rfl rfl rfl) _ _ _ #[.agg (mgC e ve vm vg)] (isMsg e) rfl (by kernel_rfl) rfl rfl (by intro k hk; cases hk; rfl) (fun W hW => (msgCopied_any e _ _ _ us1 W (HX.out.below (Nat.le_refl _) hW) hu8 hm8 he8).mono fun r w' ⟨ve3, vm3, vg3, us3, h1, h2, h3⟩ => ⟨_, h1, ⟨ve3, vm3, vg3, us3, rfl, h2⟩, h3⟩)
    case c16 => exact ask_call_by hG (guard_some rfl rfl rfl) _ _ _ (.is (.bool true)) rfl (by kernel_rfl) (by intro k hk; cases hk; rfl) (fun x W hW hk => by
      have e1 : x 28 = .agg (mgC e ve vm vg) := hk 28 rfl
      obtain ⟨ve3, vm3, vg3, us3, e2, h2⟩ := hk 30 rfl
      show Calls _ _ #[x 28, x 30] W _
      rw [e1, e2]
      exact (hp.same_self e (HX.out.below (Nat.le_refl _) hW) h2).mono fun r w' h => ⟨_, h.1, rfl, h.2⟩)
    case c17 => exact ask_exec (guard_some rfl rfl rfl) (.bool false) rfl rfl (by intro k hk; cases hk; rfl) (fun W hW => by kernel_rfl)
    case c18 => exact ask_pick (guard_none rfl) (.tmp 27) (.const (.bool true)) (.tmp 32) false rfl rfl (by intro k hk; cases hk; rfl)
  intro af w3 hW hd' hs' hf'
  have t2 : af.tmps.getD 2 undef = .pointer (some ⟨g2, 0, none⟩) := hf' 2 rfl
  have t3 : af.tmps.getD 3 undef = .pointer (some ⟨g3, 0, none⟩) := hf' 3 rfl
  have t5 : af.tmps.getD 5 undef = .bool S := hf' 5 rfl
  have t33 : af.tmps.getD 33 undef = .bool false := hf' 33 rfl
  obtain ⟨us, hus, haf⟩ := act_open 59 af hs' hd'
  rw [← hus] at t2 t3 t5 t33
  have el : ((List.range 59).map us).toArray = #[us 0, us 1, us 2, us 3, us 4, us 5, us 6, us 7, us 8, us 9, us 10, us 11, us 12, us 13, us 14, us 15, us 16, us 17, us 18, us 19, us 20, us 21, us 22, us 23, us 24, us 25, us 26, us 27, us 28, us 29, us 30, us 31, us 32, us 33, us 34, us 35, us 36, us 37, us 38, us 39, us 40, us 41, us 42, us 43, us 44, us 45, us 46, us 47, us 48, us 49, us 50, us 51, us 52, us 53, us 54, us 55, us 56, us 57, us 58] := rfl
  rw [el] at haf
  subst haf
  rw [t2, t3, t5, t33]
  have HW := Lib.hid hW
  clear hus t2 t3 t5 t33 el hf' hs' hd' hW hG
  have HB3 := Lib.hid (HB2.out.trans (HW.out.mono HB2.out.size))
  have EB2w := Lib.hid (EB2.out.keep HW.out)
  have EB3w := Lib.hid (EB3.out.keep HW.out)
  have HX3 := Lib.hid (HX.out.below (Nat.le_refl _) HW.out)
  have HY3 := Lib.hid (HY.out.below (Nat.le_refl _) HW.out)
  go_wp2_with (refine wpList_load_by rfl 27 (.tmp 2) rfl _ _ rfl (EB2w.out.loads 27 _ Try.underlying27 rfl (mgC_info _ _ _ _)) ?_)
  refine (hp.put_is HLC.out HX3.out).mono ?_
  rintro r w4 ⟨a6, k6, rfl, hr, -, hb⟩
  obtain ⟨v6, hv6⟩ : ∃ v6, v6 = Value.slice a6 l.length k6 := ⟨_, rfl⟩
  rw [← hv6] at hr ⊢
  clear hv6
  have HV6 := Lib.hid hr
  have HB4 := Lib.hid (HB3.out.trans (hb.mono HB3.out.size))
  have EB34 := Lib.hid (EB3w.out.keep hb)
  have HY4 := Lib.hid (HY3.out.below (Nat.le_refl _) hb)
  clear hr hb
  go_wp2_with (refine wpList_load_by rfl 27 (.tmp 3) rfl _ _ rfl (EB34.out.loads 27 _ Try.underlying27 rfl (mgC_info _ _ _ _)) ?_)
  refine (hp.put_is HLC'.out HY4.out).mono ?_
  rintro r w5 ⟨a8, k8, rfl, hr, -, hb⟩
  obtain ⟨v8, hv8⟩ : ∃ v8, v8 = Value.slice a8 l'.length k8 := ⟨_, rfl⟩
  rw [← hv8] at hr ⊢
  clear hv8
  have c2 := conv_bys hr
  have c1 := conv_bys (HV6.out.below (Nat.le_refl _) hb)
  have HB5 := Lib.hid (HB4.out.trans (hb.mono HB4.out.size))
  clear hr hb
  obtain ⟨X, hX⟩ : ∃ X : ByteArray, X = ⟨l.toArray⟩ := ⟨_, rfl⟩
  obtain ⟨Y, hY⟩ : ∃ Y : ByteArray, Y = ⟨l'.toArray⟩ := ⟨_, rfl⟩
  rw [← hX] at c1
  rw [← hY] at c2
  have HXe := Lib.hid hX
  have HYe := Lib.hid hY
  clear hX hY
  by_cases hc : c = 0
  · subst hc
    have hcz : (((0 : Nat) : Int) != 0) = false := rfl
    by_cases hc' : c' = 0
    · subst hc'
      obtain ⟨hfe, hpe⟩ := putMR_zero HLC.out
      obtain ⟨hff, hpf⟩ := putMR_zero HLC'.out
      have hXY : (X.toList == Y.toList) = S := by
        rw [HXe.out, HYe.out, ByteArray.toList_mk, ByteArray.toList_mk, HS.out, ← hpe, ← hpf]
        by_cases h : e = f
        · rw [decide_eq_true h, h]; exact beq_self_eq_true _
        · rw [decide_eq_false h]; exact beq_false_of_ne fun h2 => h (putM_inj HX0.out.ok HY0.out.ok hfe hff h2)
      clear hfe hpe hff hpf
      cases S with
      | true =>
        go_wp2
        go_ret
        exact ⟨rfl, HB5.out⟩
      | false =>
        go_wp2
        go_ret
        exact ⟨rfl, HB5.out⟩
    · have hcz' : ((c' : Int) != 0) = true := by simp; omega
      clear c1 c2
      go_wp2
      go_ret
      exact ⟨rfl, HB5.out⟩
  · have hcz : ((c : Int) != 0) = true := by simp; omega
    clear c1 c2
    go_wp2
    go_ret
    exact ⟨rfl, HB5.out⟩

end Go.Proofs.Ytidapdooiibfnaa

/- A message that came in. -/
namespace Go.Proofs.Ytidapdooiibfnaa
set_option maxRecDepth 20000
open Go.RowKit Go.ChangeShapes Go.Deep BinMath
open CmdMath (Ent)
open MsgMath (Mg)

theorem twelve_cells (l : List Value) (h : l.length = 12) : ∃ a b c d e f g i j k m n, l = [a, b, c, d, e, f, g, i, j, k, m, n] := by
  match l, h with
  | [a, b, c, d, e, f, g, i, j, k, m, n], _ => exact ⟨a, b, c, d, e, f, g, i, j, k, m, n, rfl⟩

theorem weights_one {H : Type} {t : TypeId} {d : DataW H} (h : (d.weights Try.prog t).all (· ≤ reachBytes) = true) : (DataW.weightsEach Try.prog [t] [d]).all (· ≤ reachBytes) = true := by
  simpa [DataW.weightsEach] using h

theorem bytes_in {H : Type} {enc : TypeId × Value → H} {W : World} {n : Nat} {u : Value} {y : DataW H × List MemPlace} (f4 : DataW.trod enc Try.prog W 0 (fun _ => true) true n 25 [u] = some y) :
    ∃ A C, ∃ d : List UInt8, u = .slice A d.length C ∧ Bys W (.slice A d.length C) d ∧ ((y.1.weights Try.prog 25).all (· ≤ reachBytes) = true → d.length ≤ 140737488351232) := by
  obtain ⟨yd, yp⟩ := y
  rcases open_ints Try.underlying25 Try.underlying5 (by kernel_rfl) f4 with ⟨hcs, _⟩ | ⟨x', l', c', zs, hcs, _, hl', hm', hz', hx', hcell', hwz'⟩
  · simp at hcs
    subst hcs
    exact ⟨none, 0, [], rfl, .inl ⟨rfl, rfl⟩, fun _ => by simp⟩
  · simp at hcs
    subst hcs
    simp only [if_true] at hz'
    obtain ⟨d, hd, hbd⟩ := IsRow.bys (w := W) (a := some x') (len := l') (cap := c') (zs := zs) (.inr ⟨_, rfl, hl', hm', hz', hcell', hwz'⟩)
    subst hd
    refine ⟨some x', c', d, rfl, hbd, fun hh => ?_⟩
    have hyd : yd = _ := (Prod.mk.inj hx').1
    have hs4 := sized_slice (weights_one hh) (j := 0) (t := 25) (e := 5) (elems := lits .u8 (zs.take d.length)) (spare := lits .u8 (zs.drop d.length)) rfl
      (by rw [← hyd]; rfl) Try.underlying25
    have hb : Try.prog.bytesOf 5 = 1 := by kernel_rfl
    rw [hb] at hs4
    simp only [lits, List.length_map, List.length_take, List.length_drop, reachBytes] at hs4
    omega

theorem nums_in {H : Type} {enc : TypeId × Value → H} {W : World} {n : Nat} {u : Value} {y : DataW H × List MemPlace} (f5 : DataW.trod enc Try.prog W 0 (fun _ => true) true n 24 [u] = some y) :
    ∃ A C, ∃ m : List Nat, u = .slice A m.length C ∧ Nums W (.slice A m.length C) m ∧ (∀ y ∈ m, y < 18446744073709551616) ∧ ((y.1.weights Try.prog 24).all (· ≤ reachBytes) = true → m.length ≤ 17592186043904) := by
  obtain ⟨yd, yp⟩ := y
  rcases open_ints Try.underlying24 Try.underlying22 (by kernel_rfl) f5 with ⟨hcs, _⟩ | ⟨x', l', c', zs, hcs, _, hl', hm', hz', hx', hcell', hwz'⟩
  · simp at hcs
    subst hcs
    exact ⟨none, 0, [], rfl, .inl ⟨rfl, rfl⟩, by simp, fun _ => by simp⟩
  · simp at hcs
    subst hcs
    simp only [if_true] at hz'
    obtain ⟨m, hm, hmb, hbm⟩ := IsRow.nums (w := W) (a := some x') (len := l') (cap := c') (zs := zs) (.inr ⟨_, rfl, hl', hm', hz', hcell', hwz'⟩)
    subst hm
    refine ⟨some x', c', m, rfl, hbm, hmb, fun hh => ?_⟩
    have hyd : yd = _ := (Prod.mk.inj hx').1
    have hs5 := sized_slice (weights_one hh) (j := 0) (t := 24) (e := 22) (elems := lits .u64 (zs.take m.length)) (spare := lits .u64 (zs.drop m.length)) rfl
      (by rw [← hyd]; rfl) Try.underlying24
    have hb : Try.prog.bytesOf 22 = 8 := by kernel_rfl
    rw [hb] at hs5
    simp only [lits, List.length_map, List.length_take, List.length_drop, reachBytes] at hs5
    omega

instance : Inhabited EE := ⟨⟨Ent.zero, none, 0, none, 0⟩⟩

theorem weights_all {H : Type} {e : TypeId} : ∀ {l : List (DataW H)} {d : DataW H}, d ∈ l → ∀ n ∈ d.weights Try.prog e, n ∈ DataW.weightsAll Try.prog e l
  | x :: l, d, hd, n, hn => by
    simp only [DataW.weightsAll, List.mem_append]
    rcases List.mem_cons.1 hd with rfl | h
    · exact .inl hn
    · exact .inr (weights_all h n hn)

/-- A list of entries that came in. -/
theorem els_open {H : Type} {enc : TypeId × Value → H} {W : World} {fuel : Nat} {v : Value} {x : DataW H × List MemPlace}
    (hf : DataW.trod enc Try.prog W 0 (fun _ => true) true fuel 23 [v] = some x) :
    ∃ us : List EE, Els W v us ∧ (∀ u ∈ us, u.e.Ok) ∧ ((x.1.weights Try.prog 23).all (· ≤ reachBytes) = true → HasAll W us ∧ us.length ≤ 1759218604390 ∧ ∀ u ∈ us, u.e.m.length ≤ 17592186043904) := by
  rcases open_slice Try.underlying23 hf with ⟨hcs, _⟩ | ⟨ad, ln, c, m, n, D, Pl, hcs, _, hl, hm, hmm, hx, hel⟩
  · simp at hcs
    subst hcs
    exact ⟨[], .inl ⟨rfl, rfl⟩, by simp, fun _ => ⟨fun u hu => absurd hu List.not_mem_nil, by simp, by simp⟩⟩
  · simp at hcs
    subst hcs
    simp only [if_true] at hmm
    have hC : Try.prog.cellsOf 42 = 6 := by kernel_rfl
    obtain ⟨f, hfp⟩ := choose_lt (α := EE) (n := ln) (p := fun i u => u.e.Ok ∧ Bys W (.slice u.a u.e.d.length u.ca) u.e.d ∧ Nums W (.slice u.b u.e.m.length u.cb) u.e.m ∧
        (((D i).weights Try.prog 42).all (· ≤ reachBytes) = true → u.e.d.length ≤ 140737488351232 ∧ u.e.m.length ≤ 17592186043904) ∧
        ∀ j v, u.cells[j]? = some v → W.cell? ((ad.add (i * 6)).add j) = some v) (fun i hi => by
      obtain ⟨cs', h1, h2⟩ := hel i (by omega)
      rw [hC] at h1
      obtain ⟨-, hlen, hcell⟩ := World.cells?_some h1
      obtain ⟨e, a, ca, b, cb, rfl, ho, hb, hn, hw⟩ := ent_open h2
      refine ⟨⟨e, a, ca, b, cb⟩, ho, hb, hn, hw, fun j v hj => ?_⟩
      have hj6 : j < 6 := (List.getElem?_eq_some_iff.1 hj).1
      have h3 := hcell j hj6
      rw [← hj]
      exact h3)
    have hget : ∀ (i : Nat) (u : EE), ((List.range ln).map f)[i]? = some u → i < ln ∧ u = f i := fun i u hi => by
      rw [List.getElem?_map] at hi
      obtain ⟨j, hj, rfl⟩ := Option.map_eq_some_iff.1 hi
      obtain ⟨hj1, hj2⟩ := List.getElem?_eq_some_iff.1 hj
      simp at hj1 hj2
      subst hj2
      exact ⟨hj1, rfl⟩
    have hmem : ∀ u ∈ (List.range ln).map f, ∃ i, i < ln ∧ u = f i := fun u hu => by
      obtain ⟨i, hi⟩ := List.mem_iff_getElem?.1 hu
      exact ⟨i, hget i u hi⟩
    refine ⟨(List.range ln).map f, .inr ⟨ad, c, by simp, by simp; omega, fun j u hj => ?_⟩, fun u hu => ?_, fun hw => ?_⟩
    · have hjl : j < ln * 6 := by
        have := (List.getElem?_eq_some_iff.1 hj).1
        rw [cells_all] at this
        simpa using this
      have hi : j / 6 < ((List.range ln).map f).length := by simp; omega
      have hd := cells_drop ((List.range ln).map f) (j / 6)
      rw [List.drop_eq_getElem_cons hi, List.flatMap_cons] at hd
      have h4 : (((List.range ln).map f)[j / 6]).cells[j % 6]? = some u := by
        have h5 : ((((List.range ln).map f).flatMap EE.cells).drop (j / 6 * 6))[j % 6]? = some u := by
          rw [List.getElem?_drop, show j / 6 * 6 + j % 6 = j by omega]
          exact hj
        rw [hd, List.getElem?_append_left (by rw [EE.cells_len]; omega)] at h5
        exact h5
      obtain ⟨h7, h8⟩ := hget (j / 6) _ (List.getElem?_eq_getElem hi)
      rw [h8] at h4
      have h6 := (hfp _ h7).2.2.2.2 _ _ h4
      rwa [addr_add_add, show j / 6 * 6 + j % 6 = j by omega] at h6
    · obtain ⟨i, hi, rfl⟩ := hmem u hu
      exact (hfp i hi).1
    · rw [hx] at hw
      simp only [DataW.weights, Try.underlying23, List.all_cons, Bool.and_eq_true, List.all_append] at hw
      obtain ⟨h1, h2, -⟩ := hw
      have hb : Try.prog.bytesOf 42 = 80 := by kernel_rfl
      rw [hb] at h1
      simp only [List.length_map, List.length_range, reachBytes, decide_eq_true_eq] at h1
      have hD : ∀ i, i < ln → ((D i).weights Try.prog 42).all (· ≤ reachBytes) = true := fun i hi =>
        List.all_eq_true.2 fun n hn => List.all_eq_true.1 h2 n (weights_all (List.mem_map.2 ⟨i, List.mem_range.2 hi, rfl⟩) n hn)
      refine ⟨fun u hu => ?_, by simp; omega, fun u hu => ?_⟩
      · obtain ⟨i, hi, rfl⟩ := hmem u hu
        obtain ⟨p1, p2, p3, p4, -⟩ := hfp i hi
        obtain ⟨q1, q2⟩ := p4 (hD i hi)
        exact ⟨p1, p2, p3, q1, Nat.le_trans q2 (by decide)⟩
      · obtain ⟨i, hi, rfl⟩ := hmem u hu
        exact ((hfp i hi).2.2.2.1 (hD i hi)).2

theorem msg_open {H : Type} {enc : TypeId × Value → H} {W : World} {fuel : Nat} {cs : List Value} {x : DataW H × List MemPlace}
    (h : DataW.trod enc Try.prog W 0 (fun _ => true) true fuel 27 cs = some x) :
    ∃ (m : Mg) (ve vm vg : Value) (us : List EE), cs = (mgC m ve vm vg).toList ∧
      ((x.1.weights Try.prog 27).all (· ≤ reachBytes) = true → MHas W m ve vm vg us ∧ us.length ≤ 1759218604390 ∧ m.m.length ≤ 17592186043904 ∧ ∀ u ∈ us, u.e.m.length ≤ 17592186043904) := by
  obtain ⟨xs, n', -, hx, hlen, hxl, hfld⟩ := DataW.trod_struct Try.underlying27 h
  have f0 : DataW.trod enc Try.prog W 0 (fun _ => true) true n' 3 ((cs.drop 0).take (Try.prog.cellsOf 3)) = xs[0]? := hfld 0 _ rfl
  have f1 : DataW.trod enc Try.prog W 0 (fun _ => true) true n' 22 ((cs.drop 1).take (Try.prog.cellsOf 22)) = xs[1]? := hfld 1 _ rfl
  have f2 : DataW.trod enc Try.prog W 0 (fun _ => true) true n' 22 ((cs.drop 2).take (Try.prog.cellsOf 22)) = xs[2]? := hfld 2 _ rfl
  have f3 : DataW.trod enc Try.prog W 0 (fun _ => true) true n' 22 ((cs.drop 3).take (Try.prog.cellsOf 22)) = xs[3]? := hfld 3 _ rfl
  have f4 : DataW.trod enc Try.prog W 0 (fun _ => true) true n' 22 ((cs.drop 4).take (Try.prog.cellsOf 22)) = xs[4]? := hfld 4 _ rfl
  have f5 : DataW.trod enc Try.prog W 0 (fun _ => true) true n' 22 ((cs.drop 5).take (Try.prog.cellsOf 22)) = xs[5]? := hfld 5 _ rfl
  have f6 : DataW.trod enc Try.prog W 0 (fun _ => true) true n' 22 ((cs.drop 6).take (Try.prog.cellsOf 22)) = xs[6]? := hfld 6 _ rfl
  have f7 : DataW.trod enc Try.prog W 0 (fun _ => true) true n' 22 ((cs.drop 7).take (Try.prog.cellsOf 22)) = xs[7]? := hfld 7 _ rfl
  have f8 : DataW.trod enc Try.prog W 0 (fun _ => true) true n' 4 ((cs.drop 8).take (Try.prog.cellsOf 4)) = xs[8]? := hfld 8 _ rfl
  have f9 : DataW.trod enc Try.prog W 0 (fun _ => true) true n' 23 ((cs.drop 9).take (Try.prog.cellsOf 23)) = xs[9]? := hfld 9 _ rfl
  have f10 : DataW.trod enc Try.prog W 0 (fun _ => true) true n' 24 ((cs.drop 10).take (Try.prog.cellsOf 24)) = xs[10]? := hfld 10 _ rfl
  have f11 : DataW.trod enc Try.prog W 0 (fun _ => true) true n' 25 ((cs.drop 11).take (Try.prog.cellsOf 25)) = xs[11]? := hfld 11 _ rfl
  have c0 : Try.prog.cellsOf 3 = 1 := by kernel_rfl
  have c1 : Try.prog.cellsOf 22 = 1 := by kernel_rfl
  have c2 : Try.prog.cellsOf 4 = 1 := by kernel_rfl
  have c3 : Try.prog.cellsOf 23 = 1 := by kernel_rfl
  have c4 : Try.prog.cellsOf 24 = 1 := by kernel_rfl
  have c5 : Try.prog.cellsOf 25 = 1 := by kernel_rfl
  have cr : Try.prog.cellsOf 27 = 12 := by kernel_rfl
  rw [cr] at hlen
  rw [c0] at f0
  rw [c1] at f1 f2 f3 f4 f5 f6 f7
  rw [c2] at f8
  rw [c3] at f9
  rw [c4] at f10
  rw [c5] at f11
  obtain ⟨u0, u1, u2, u3, u4, u5, u6, u7, u8, u9, u10, u11, rfl⟩ := twelve_cells cs hlen
  have l12 : xs.length = 12 := hxl
  rw [List.getElem?_eq_getElem (by omega)] at f0 f1 f2 f3 f4 f5 f6 f7 f8 f9 f10 f11
  obtain ⟨k, e0, -, w0⟩ := DataW.trod_int Try.underlying3 f0
  obtain ⟨k1, e1, -, w1⟩ := DataW.trod_int Try.underlying22 f1
  obtain ⟨k2, e2, -, w2⟩ := DataW.trod_int Try.underlying22 f2
  obtain ⟨k3, e3, -, w3⟩ := DataW.trod_int Try.underlying22 f3
  obtain ⟨k4, e4, -, w4⟩ := DataW.trod_int Try.underlying22 f4
  obtain ⟨k5, e5, -, w5⟩ := DataW.trod_int Try.underlying22 f5
  obtain ⟨k6, e6, -, w6⟩ := DataW.trod_int Try.underlying22 f6
  obtain ⟨k7, e7, -, w7⟩ := DataW.trod_int Try.underlying22 f7
  obtain ⟨b8, e8, -⟩ := DataW.trod_bool Try.underlying4 f8
  simp at e0 e1 e2 e3 e4 e5 e6 e7 e8
  have hk := bounds_i64 w0
  obtain ⟨f, rfl, hf⟩ := u64_nat k1 w1
  obtain ⟨o, rfl, ho⟩ := u64_nat k2 w2
  obtain ⟨t, rfl, ht⟩ := u64_nat k3 w3
  obtain ⟨i, rfl, hi⟩ := u64_nat k4 w4
  obtain ⟨l, rfl, hl⟩ := u64_nat k5 w5
  obtain ⟨c, rfl, hc⟩ := u64_nat k6 w6
  obtain ⟨s, rfl, hs⟩ := u64_nat k7 w7
  subst e0 e1 e2 e3 e4 e5 e6 e7 e8
  have hw : ∀ (j : Nat) (ty : TypeId) (d : DataW H), (x.1.weights Try.prog 27).all (· ≤ reachBytes) = true → [3, 22, 22, 22, 22, 22, 22, 22, 4, 23, 24, 25][j]? = some ty → (xs.map (·.1))[j]? = some d → (d.weights Try.prog ty).all (· ≤ reachBytes) = true := by
    rw [hx]
    simp only [DataW.weights, Try.underlying27]
    exact fun j ty d h h1 h2 => List.all_eq_true.2 fun n hn => List.all_eq_true.1 h n (DataW.weights_mem_each h1 h2 n hn)
  obtain ⟨us, hels, huo, huw⟩ := els_open f9
  obtain ⟨B, E, mm, rfl, hnu, hmb, hml⟩ := nums_in f10
  obtain ⟨A, C, g, rfl, hby, hgl⟩ := bytes_in f11
  refine ⟨⟨k, f, o, t, i, l, c, s, b8, us.map EE.e, mm, g⟩, u9, _, _, us, rfl, fun hh => ?_⟩
  have h9 := huw (hw 9 _ _ hh rfl (by rw [List.getElem?_map, List.getElem?_eq_getElem (by omega)]; rfl))
  have h10 := hml (hw 10 _ _ hh rfl (by rw [List.getElem?_map, List.getElem?_eq_getElem (by omega)]; rfl))
  have h11 := hgl (hw 11 _ _ hh rfl (by rw [List.getElem?_map, List.getElem?_eq_getElem (by omega)]; rfl))
  refine ⟨⟨⟨hk.1, Int.lt_of_le_of_lt hk.2 (by decide), hf, ho, ht, hi, hl, hc, hs, fun e he => ?_, hmb⟩, hels, h9.1, rfl, hnu, hby, by omega, ?_, h11⟩, h9.2.1, h10, h9.2.2⟩
  · obtain ⟨u, hu, rfl⟩ := List.mem_map.1 he
    exact huo u hu
  · exact Nat.le_trans h10 (by decide)
end Go.Proofs.Ytidapdooiibfnaa

/- Layer 18's laws, walked, over what msg's functions are shown to answer. -/
namespace Go.Proofs.Ytidapdooiibfnaa
end Go.Proofs.Ytidapdooiibfnaa

