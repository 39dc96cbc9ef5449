/- The law CmdLays, walked. -/
import Derived.Test.YtleoiklcddkgdaaCmdCopy
import Derived.Test.YtleoiklcddkgdaaFrame
import Derived.Deep.Cut
namespace Go.Proofs.Ytleoiklcddkgdaa
open Go.RowKit BinMath CmdMath Reg

/-- What Put answers: the bytes and the error. -/
def putR (e : Ent) : List UInt8 × Nat := if formed e = true then (putL e, 0) else ([], 1)

theorem put_is {e : Ent} {l : List UInt8} {c : Nat} {a b : Option Addr} {ca cb : Nat} {w : World} (hr : putR e = (l, c)) (he : Has w e a ca b cb) :
    Calls Try.prog 10 #[.agg (entC e a ca b cb)] w fun r w' => ∃ v, r = .returned (.tuple #[v, .int .i64 (c : Int)]) ∧ Bys w' v l ∧ Below w.heap.size w w' := by
  unfold putR at hr
  by_cases hf : formed e = true
  · rw [if_pos hf] at hr
    cases hr
    exact (put_yes e a b ca cb w he hf).mono fun r w' ⟨v, h1, h2, h3⟩ => ⟨v, h1, h2.bys, h3⟩
  · rw [if_neg hf] at hr
    cases hr
    exact (put_no e a b ca cb w he (by simpa using hf)).mono fun r w' ⟨h1, h2⟩ => ⟨_, h1, .inl ⟨rfl, rfl⟩, h2⟩

theorem refput_is {e : Ent} {l : List UInt8} {c : Nat} {a b : Option Addr} {ca cb : Nat} {w : World} (hr : putR e = (l, c)) (he : Has w e a ca b cb) :
    Calls Try.prog 11 #[.agg (entC e a ca b cb)] w fun r w' => ∃ v, r = .returned (.tuple #[v, .int .i64 (c : Int)]) ∧ Bys w' v l ∧ Below w.heap.size w w' := by
  unfold putR at hr
  by_cases hf : formed e = true
  · rw [if_pos hf] at hr
    cases hr
    exact (refput_yes e a b ca cb w he hf).mono fun r w' ⟨v, h1, h2, h3⟩ => ⟨v, h1, h2.bys, h3⟩
  · rw [if_neg hf] at hr
    cases hr
    exact (refput_no e a b ca cb w he (by simpa using hf)).mono fun r w' ⟨h1, h2⟩ => ⟨_, h1, .inl ⟨rfl, rfl⟩, h2⟩

theorem eql_bool (s t : Operand) (b : Bool) (W : World) : (do eqGuard .eql 4 s t (.bool b) (.bool b); binOp .eql 4 (.bool b) (.bool b) : Sem Value).run Try.prog W = .ok (.bool true) W := by
  cases b <;> kernel_rfl

theorem neq_bool (s t : Operand) (b : Bool) (W : World) : (do eqGuard .neq 4 s t (.bool b) (.bool b); binOp .neq 4 (.bool b) (.bool b) : Sem Value).run Try.prog W = .ok (.bool false) W := by
  cases b <;> kernel_rfl

theorem eql_errno (s t : Operand) (c : Int) (W : World) : (do eqGuard .eql 29 s t (.int .i64 c) (.int .i64 c); binOp .eql 29 (.int .i64 c) (.int .i64 c) : Sem Value).run Try.prog W = .ok (.bool true) W := by
  have h : (c == c) = true := beq_self_eq_true c
  simp [eqGuard, go_sem]

set_option maxHeartbeats 4000000 in
set_option maxRecDepth 100000 in
theorem lays_all (w : World) (e : Ent) (a b : Option Addr) (ca cb : Nat) (he : Has w e a ca b cb) (hm8 : e.m.length ≤ 17592186043904) :
    Calls Try.prog 3 #[.agg (entC e a ca b cb)] w fun e w' => e = .returned (.bool true) ∧ Below w.heap.size w w' := by
  obtain ⟨l, c, hlc⟩ : ∃ l c, putR e = (l, c) := ⟨_, _, rfl⟩
  obtain ⟨F, hF⟩ : ∃ F, F = formed e := ⟨_, rfl⟩
  obtain ⟨M, hM⟩ : ∃ M, M = memOk e.m := ⟨_, rfl⟩
  have HLC := Lib.hid hlc
  have HF := Lib.hid hF
  have HM := Lib.hid hM
  have b1 : Below w.heap.size w (w.alloc (.cells (entC e a ca b cb) 26)) := (Below.refl _ _).alloc (Nat.le_refl _) _
  have E0 := Lib.hid (Blk.new w 26 (entC e a ca b cb))
  have HH0 := Lib.hid he
  have HB0 := Lib.hid b1
  clear he b1 hlc hF hM
  go_enter Try.func3, Try.ntmps3
  go_wp2_with fail
  refine (awake_any _).mono ?_
  rintro r w1 ⟨rfl, hb1⟩
  have E1 := Lib.hid (E0.out.keep hb1)
  have HB1 := Lib.hid (HB0.out.trans (hb1.mono HB0.out.size))
  have HH1 := Lib.hid (HH0.out.below (Nat.le_refl _) HB1.out)
  clear hb1
  go_wp2_with (refine wpList_load_by rfl 26 (.tmp 1) rfl _ _ rfl (E1.out.loads 26 _ Try.underlying26 rfl (entC_size _ _ _ _ _)) ?_)
  refine (copied_any e _ _ _ _ w1 HH1.out hm8).mono ?_
  rintro r w2 ⟨a3, ca3, b3, cb3, rfl, hh, hb⟩
  have HO2 := Lib.hid hh
  have E2 := Lib.hid (E1.out.keep hb)
  have HB2 := Lib.hid (HB1.out.trans (hb.mono HB1.out.size))
  have HH2 := Lib.hid (HH1.out.below (Nat.le_refl _) hb)
  clear hh hb
  go_wp2_with (first | (refine wpList_store_all rfl 26 (.tmp 3) (.tmp 11) rfl w2.heap.size (entC e a3 ca3 b3 cb3) rfl rfl 26 zeroC (Blk.new w2 _ _) (entC_size _ _ _ _ _) rfl (by simp [entC, Value.oneCell']) ?_; intro w3 hb hos; (have O3 := Lib.hid hb); (have hbb := below_two ((Below.refl w2.heap.size w2).alloc (Nat.le_refl _) (.cells zeroC 26)) hos (fun k hk e => by omega) (by rw [World.size_alloc]; omega)); (have E3 := Lib.hid (E2.out.keep hbb)); (have HB3 := Lib.hid (HB2.out.trans (hbb.mono HB2.out.size))); (have HO3 := Lib.hid (HO2.out.below (Nat.le_refl _) hbb)); (have HH3 := Lib.hid (HH2.out.below (Nat.le_refl _) hbb)); clear hb hos hbb) | (refine wpList_load_by rfl 26 (.tmp 3) rfl _ _ rfl (O3.out.loads 26 _ Try.underlying26 rfl (entC_size _ _ _ _ _)) ?_))
  refine (put_is HLC.out HO3.out).mono ?_
  rintro r w4 ⟨v4, rfl, hr, hb⟩
  have HV4' := Lib.hid hr
  have E4 := Lib.hid (E3.out.keep hb)
  have O4 := Lib.hid (O3.out.keep hb)
  have HB4 := Lib.hid (HB3.out.trans (hb.mono HB3.out.size))
  have HO4 := Lib.hid (HO3.out.below (Nat.le_refl _) hb)
  have HH4 := Lib.hid (HH3.out.below (Nat.le_refl _) hb)
  clear hr hb
  go_wp2_with (refine wpList_load_by rfl 26 (.tmp 1) rfl _ _ rfl (E4.out.loads 26 _ Try.underlying26 rfl (entC_size _ _ _ _ _)) ?_)
  refine (refput_is HLC.out HH4.out).mono ?_
  rintro r w5 ⟨v6, rfl, hr, hb⟩
  have HV6 := Lib.hid hr
  have HV4 := Lib.hid (HV4'.out.below (Nat.le_refl _) hb)
  have EB1 := Lib.hid (E4.out.keep hb)
  have EB3 := Lib.hid (O4.out.keep hb)
  have HB5 := Lib.hid (HB4.out.trans (hb.mono HB4.out.size))
  have HO5 := Lib.hid (HO4.out.below (Nat.le_refl _) hb)
  have HH5 := Lib.hid (HH4.out.below (Nat.le_refl _) hb)
  clear hr hb
  obtain ⟨g1, hg1⟩ : ∃ g1, g1 = w.heap.size := ⟨_, rfl⟩
  obtain ⟨g3, hg3⟩ : ∃ g3, g3 = w2.heap.size := ⟨_, rfl⟩
  have HG1 := Lib.hid hg1
  rw [← hg1] at EB1
  rw [← hg3] at EB3
  have HForm : Hid (∀ W, Below w5.heap.size w5 W → Calls Try.prog 12 #[.agg (entC e a3 ca3 b3 cb3)] W fun r w' => r = .returned (.bool F) ∧ Below W.heap.size W w') := Lib.hid fun W hW => by rw [HF.out]; exact formed_any e _ _ _ _ W (HO5.out.below (Nat.le_refl _) hW)
  have HRForm : Hid (∀ W, Below w5.heap.size w5 W → Calls Try.prog 13 #[.agg (entC e a ca b cb)] W fun r w' => r = .returned (.bool F) ∧ Below W.heap.size W w') := Lib.hid fun W hW => by rw [HF.out]; exact refFormed_any e _ _ _ _ W (HH5.out.below (Nat.le_refl _) hW)
  have HMem : Hid (∀ W, Below w5.heap.size w5 W → Calls Try.prog 14 #[.slice b3 e.m.length cb3] W fun r w' => r = .returned (.bool M) ∧ Below W.heap.size W w') := Lib.hid fun W hW => by
    rw [HM.out]
    exact (members_any _ e.m W (HO5.out.m.below (Nat.le_refl _) hW) HO5.out.ml HO5.out.ok.m).mono fun r w' ⟨h1, h2⟩ => ⟨h1, h2 ▸ Below.refl _ _⟩
  have HRMem : Hid (∀ W, Below w5.heap.size w5 W → Calls Try.prog 15 #[.slice b e.m.length cb] W fun r w' => r = .returned (.bool M) ∧ Below W.heap.size W w') := Lib.hid fun W hW => by
    rw [HM.out]
    exact (refMembers_any _ e.m W (HH5.out.m.below (Nat.le_refl _) hW) HH5.out.ml).mono fun r w' ⟨h1, n, h2⟩ => ⟨h1, h2 ▸ below_drewN (Below.refl _ _) n⟩
  have HSame : Hid (∀ W, Below w5.heap.size w5 W → Calls Try.prog 16 #[.agg (entC e a3 ca3 b3 cb3), .agg (entC e a ca b cb)] W fun r w' => r = .returned (.bool true) ∧ Below W.heap.size W w') := Lib.hid fun W hW => refSame_self e _ _ _ _ _ _ _ _ W (HO5.out.below (Nat.le_refl _) hW) (HH5.out.below (Nat.le_refl _) hW)
  go_upto_region 6 with fail
  rw [← hg1, ← hg3]
  clear hg1 hg3
  have hG : ∀ W W' : World, Below w5.heap.size w5 W → Below W.heap.size W W' → Below w5.heap.size w5 W' := fun W W' hW hb => hW.trans (hb.mono hW.size)
  refine region_by [(22, .is (.agg (entC e a3 ca3 b3 cb3))), (23, .is (.bool F)), (24, .is (.agg (entC e a ca b cb))), (25, .is (.bool F)), (26, .is (.bool true)), (27, .is (.bool true)), (28, .is (.pointer (some ⟨g3, 5, none⟩))), (29, .is (.slice b3 e.m.length cb3)), (30, .is (.bool M)), (31, .is (.pointer (some ⟨g1, 5, none⟩))), (32, .is (.slice b e.m.length cb)), (33, .is (.bool M)), (34, .is (.bool true)), (35, .is (.bool true)), (36, .is (.bool true)), (37, .is (.int .i64 (c : Int))), (38, .is (.int .i64 (c : Int))), (39, .is (.bool true)), (40, .is (.bool true)), (41, .is (.bool true)), (42, .is v4), (43, .is (.string ⟨l.toArray⟩)), (44, .is v6), (45, .is (.string ⟨l.toArray⟩)), (46, .is (.bool true)), (47, .is (.bool true)), (48, .is (.bool true)), (49, .is (.agg (entC e a3 ca3 b3 cb3))), (50, .is (.agg (entC e a ca b cb))), (51, .is (.bool true)), (52, .is (.bool true)), (2, .is (.bool true))] [2] (fun W => Below w5.heap.size w5 W) (by kernel_rfl) (by kernel_rfl) (by kernel_rfl) (by kernel_rfl) (by kernel_rfl) ((Below.refl _ _).drew) ?_ ?_
  · refine ⟨?c0, ?c1, ?c2, ?c3, ?c4, ?c5, ?c6, ?c7, ?c8, ?c9, ?c10, ?c11, ?c12, ?c13, ?c14, ?c15, ?c16, ?c17, ?c18, ?c19, ?c20, ?c21, ?c22, ?c23, ?c24, ?c25, ?c26, ?c27, ?c28, ?c29, ?c30, ?c31, trivial⟩
    case c0 => exact ask_load (guard_none rfl) _ (.tmp 3) (.pointer (some ⟨g3, 0, none⟩)) (.agg (entC e a3 ca3 b3 cb3)) rfl rfl (by intro k hk; cases hk; rfl) (fun W hW => ((EB3.out).keep hW).loads 26 _ Try.underlying26 rfl (entC_size _ _ _ _ _))
    case c1 => exact ask_call hG (guard_none rfl) _ _ _ #[.agg (entC e a3 ca3 b3 cb3)] (.is (.bool F)) rfl (by kernel_rfl) rfl rfl (by intro k hk; cases hk; rfl) (fun W hW => (HForm.out W hW).mono fun e w' h => ⟨_, h.1, rfl, h.2⟩)
    case c2 => exact ask_load (guard_none rfl) _ (.tmp 1) (.pointer (some ⟨g1, 0, none⟩)) (.agg (entC e a ca b cb)) rfl rfl (by intro k hk; cases hk; rfl) (fun W hW => ((EB1.out).keep hW).loads 26 _ Try.underlying26 rfl (entC_size _ _ _ _ _))
    case c3 => exact ask_call hG (guard_none rfl) _ _ _ #[.agg (entC e a ca b cb)] (.is (.bool F)) rfl (by kernel_rfl) rfl rfl (by intro k hk; cases hk; rfl) (fun W hW => (HRForm.out W hW).mono fun e w' h => ⟨_, h.1, rfl, h.2⟩)
    case c4 => exact ask_bin (guard_none rfl) _ _ _ _ _ _ _ _ rfl rfl rfl (by intro k hk; cases hk; rfl) (eql_bool _ _ F)
    case c5 => exact ask_copy (guard_none rfl) (.tmp 26) (.inl rfl) (by intro k hk; cases hk; rfl)
    case c6 => exact ask_field (guard_some rfl rfl rfl) _ (.tmp 3) 5 (.pointer (some ⟨g3, 0, none⟩)) (.pointer (some ⟨g3, 5, none⟩)) rfl rfl (by intro k hk; cases hk; rfl) (fun W => by kernel_rfl)
    case c7 => exact ask_load (guard_some rfl rfl rfl) _ (.tmp 28) (.pointer (some ⟨g3, 5, none⟩)) (.slice b3 e.m.length cb3) rfl rfl (by intro k hk; cases hk; rfl) (fun W hW => load_nums W _ _ (by rw [((EB3.out).keep hW).cell]; rfl))
    case c8 => exact ask_call hG (guard_some rfl rfl rfl) _ _ _ #[.slice b3 e.m.length cb3] (.is (.bool M)) rfl (by kernel_rfl) rfl rfl (by intro k hk; cases hk; rfl) (fun W hW => (HMem.out W hW).mono fun e w' h => ⟨_, h.1, rfl, h.2⟩)
    case c9 => exact ask_field (guard_some rfl rfl rfl) _ (.tmp 1) 5 (.pointer (some ⟨g1, 0, none⟩)) (.pointer (some ⟨g1, 5, none⟩)) rfl rfl (by intro k hk; cases hk; rfl) (fun W => by kernel_rfl)
    case c10 => exact ask_load (guard_some rfl rfl rfl) _ (.tmp 31) (.pointer (some ⟨g1, 5, none⟩)) (.slice b e.m.length cb) rfl rfl (by intro k hk; cases hk; rfl) (fun W hW => load_nums W _ _ (by rw [((EB1.out).keep hW).cell]; rfl))
    case c11 => exact ask_call hG (guard_some rfl rfl rfl) _ _ _ #[.slice b e.m.length cb] (.is (.bool M)) rfl (by kernel_rfl) rfl rfl (by intro k hk; cases hk; rfl) (fun W hW => (HRMem.out W hW).mono fun e w' h => ⟨_, h.1, rfl, h.2⟩)
    case c12 => exact ask_bin (guard_some rfl rfl rfl) _ _ _ _ _ _ _ _ rfl rfl rfl (by intro k hk; cases hk; rfl) (eql_bool _ _ M)
    case c13 => exact ask_pick (guard_none rfl) (.tmp 27) (.tmp 34) (.const (.bool false)) true rfl rfl (by intro k hk; cases hk; rfl)
    case c14 => exact ask_copy (guard_none rfl) (.tmp 35) (.inl rfl) (by intro k hk; cases hk; rfl)
    case c15 => exact ask_copy (guard_some rfl rfl rfl) (.tmp 5) (.inl rfl) (by intro k hk; cases hk; rfl)
    case c16 => exact ask_copy (guard_some rfl rfl rfl) (.tmp 7) (.inl rfl) (by intro k hk; cases hk; rfl)
    case c17 => exact ask_bin (guard_some rfl rfl rfl) _ _ _ _ _ _ _ _ rfl rfl rfl (by intro k hk; cases hk; rfl) (eql_errno _ _ (c : Int))
    case c18 => exact ask_pick (guard_none rfl) (.tmp 36) (.tmp 39) (.const (.bool false)) true rfl rfl (by intro k hk; cases hk; rfl)
    case c19 => exact ask_copy (guard_none rfl) (.tmp 40) (.inl rfl) (by intro k hk; cases hk; rfl)
    case c20 => exact ask_copy (guard_some rfl rfl rfl) (.tmp 4) (.inl rfl) (by intro k hk; cases hk; rfl)
    case c21 => exact ask_string_is (guard_some rfl rfl rfl) (.tmp 42) v4 l rfl (fun W hW => HV4.out.below (Nat.le_refl _) hW) rfl (by intro k hk; cases hk; rfl)
    case c22 => exact ask_copy (guard_some rfl rfl rfl) (.tmp 6) (.inl rfl) (by intro k hk; cases hk; rfl)
    case c23 => exact ask_string_is (guard_some rfl rfl rfl) (.tmp 44) v6 l rfl (fun W hW => HV6.out.below (Nat.le_refl _) hW) rfl (by intro k hk; cases hk; rfl)
    case c24 => exact ask_same (guard_some rfl rfl rfl) (.tmp 43) (.tmp 45) ⟨l.toArray⟩ _ _ rfl rfl rfl (by intro k hk; cases hk; rfl)
    case c25 => exact ask_pick (guard_none rfl) (.tmp 41) (.tmp 46) (.const (.bool false)) true rfl rfl (by intro k hk; cases hk; rfl)
    case c26 => exact ask_copy (guard_none rfl) (.tmp 47) (.inl rfl) (by intro k hk; cases hk; rfl)
    case c27 => exact ask_load (guard_some rfl rfl rfl) _ (.tmp 3) (.pointer (some ⟨g3, 0, none⟩)) (.agg (entC e a3 ca3 b3 cb3)) rfl rfl (by intro k hk; cases hk; rfl) (fun W hW => ((EB3.out).keep hW).loads 26 _ Try.underlying26 rfl (entC_size _ _ _ _ _))
    case c28 => exact ask_load (guard_some rfl rfl rfl) _ (.tmp 1) (.pointer (some ⟨g1, 0, none⟩)) (.agg (entC e a ca b cb)) rfl rfl (by intro k hk; cases hk; rfl) (fun W hW => ((EB1.out).keep hW).loads 26 _ Try.underlying26 rfl (entC_size _ _ _ _ _))
    case c29 => exact ask_call hG (guard_some rfl rfl rfl) _ _ _ #[.agg (entC e a3 ca3 b3 cb3), .agg (entC e a ca b cb)] (.is (.bool true)) rfl (by kernel_rfl) rfl rfl (by intro k hk; cases hk; rfl) (fun W hW => (HSame.out W hW).mono fun e w' h => ⟨_, h.1, rfl, h.2⟩)
    case c30 => exact ask_pick (guard_none rfl) (.tmp 48) (.tmp 51) (.const (.bool false)) true rfl rfl (by intro k hk; cases hk; rfl)
    case c31 => exact ask_copy (guard_none rfl) (.tmp 52) (.inr rfl) (by intro k hk; cases hk; rfl)
  intro af w6 hW hd' hs' hf'
  have t2 : af.tmps.getD 2 undef = .bool true := hf' 2 rfl
  obtain ⟨us, hus, haf⟩ := act_open 53 af hs' hd'
  rw [← hus] at t2
  have el : ((List.range 53).map us).toArray = #[us 0, us 1, us 2, us 3, us 4, us 5, us 6, us 7, us 8, us 9, us 10, us 11, us 12, us 13, us 14, us 15, us 16, us 17, us 18, us 19, us 20, us 21, us 22, us 23, us 24, us 25, us 26, us 27, us 28, us 29, us 30, us 31, us 32, us 33, us 34, us 35, us 36, us 37, us 38, us 39, us 40, us 41, us 42, us 43, us 44, us 45, us 46, us 47, us 48, us 49, us 50, us 51, us 52] := rfl
  rw [el] at haf
  subst haf
  rw [t2]
  have HW := Lib.hid hW
  clear hus t2 el hf' hs' hd' hW hG
  go_wp2
  go_ret
  exact ⟨rfl, HB5.out.trans (HW.out.mono HB5.out.size)⟩

end Go.Proofs.Ytleoiklcddkgdaa
