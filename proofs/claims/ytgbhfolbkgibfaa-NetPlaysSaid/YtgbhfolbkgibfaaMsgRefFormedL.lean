/- Layer 18's reference: Formed. -/
import Derived.Test.YtgbhfolbkgibfaaMsgBareL
import Derived.Test.YtgbhfolbkgibfaaMsgRefSameL
import Derived.Test.YtgbhfolbkgibfaaLAL
import Derived.Test.YtgbhfolbkgibfaaLAJ
namespace Go.Proofs.Ytgbhfolbkgibfaa
set_option maxRecDepth 20000
open Go.RowKit BinMath CmdMath Reg
open MsgMath (Mg formedM headOk restOk nodeOk)

def bareF (m : Mg) : Fact := .sat (fun v W => ∃ ve vm vg us, v = .agg (mgC (MsgMath.bareM m) ve vm vg) ∧ MHas W (MsgMath.bareM m) ve vm vg us) fun _ _ _ ⟨ve, vm, vg, us, h1, h2⟩ hb => ⟨ve, vm, vg, us, h1, h2.below (Nat.le_refl _) hb⟩

theorem gtrM_u64 (x z : Int) (b : Bool) (hb : decide (z < x) = b) (t : TypeId) (s u : Operand) (W : World) : (do eqGuard .gtr t s u (.int .u64 x) (.int .u64 z); binOp .gtr t (.int .u64 x) (.int .u64 z) : Sem Value).run Try.prog W = .ok (.bool b) W := by
  simp [eqGuard, binOp, go_sem, ← hb]
theorem gtrM_i64 (x z : Int) (b : Bool) (hb : decide (z < x) = b) (t : TypeId) (s u : Operand) (W : World) : (do eqGuard .gtr t s u (.int .i64 x) (.int .i64 z); binOp .gtr t (.int .i64 x) (.int .i64 z) : Sem Value).run Try.prog W = .ok (.bool b) W := by
  simp [eqGuard, binOp, go_sem, ← hb]

theorem formedM_head {m : Mg} (h : headOk m = false) : formedM m = false := by simp [formedM, h]
theorem formedM_rest {m : Mg} (h : restOk m = false) : formedM m = false := by simp [formedM, h]

def FormAtM (us : List EE) (w : World) (s3 : Value) (wr : World) : Prop :=
  ∃ i, i ≤ us.length ∧ s3 = .int .i64 ((i : Nat) : Int) ∧ (∀ u ∈ us.take i, formed u.e = true) ∧ Below w.heap.size w wr

set_option maxHeartbeats 4000000 in
set_option maxRecDepth 100000 in
theorem refMsgFormed_any (m : Mg) (ve vm vg : Value) (us : List EE) (w : World) (hm : MHas w m ve vm vg us) :
    Calls Try.prog 29 #[.agg (mgC m ve vm vg)] w fun r w' => r = .returned (.bool (formedM m)) ∧ Below w.heap.size w w' := by
  obtain ⟨a, ca, rfl⟩ := hm.els.form
  obtain ⟨b, cb, rfl⟩ := hm.ms.shape
  obtain ⟨d, cd, rfl⟩ := hm.gs.shape
  obtain ⟨k, f, o, t, i, l, c, s, y, e, ms, g⟩ := m
  obtain ⟨na, hna⟩ : ∃ n, n = us.length := ⟨_, rfl⟩
  obtain ⟨nb, hnb⟩ : ∃ n, n = ms.length := ⟨_, rfl⟩
  obtain ⟨nd, hnd⟩ : ∃ n, n = g.length := ⟨_, rfl⟩
  have hel := hm.el
  have hen := hm.ents
  have hml := hm.ml
  simp only at hm hel hen hml ⊢
  rw [← hna, ← hnb, ← hnd] at hm
  rw [← hna, ← hnb, ← hnd]
  have HM := Lib.hid hm
  have HNA := Lib.hid hna
  have HND := Lib.hid hnd
  have HEL := Lib.hid hel
  have HEN := Lib.hid hen
  have HML := Lib.hid hml
  have HNB := Lib.hid hnb
  have b1 : Below w.heap.size w (w.alloc (.cells #[.int .i64 k, .int .u64 (f : Int), .int .u64 (o : Int), .int .u64 (t : Int), .int .u64 (i : Int), .int .u64 (l : Int), .int .u64 (c : Int), .int .u64 (s : Int), .bool y, .slice a na ca, .slice b nb cb, .slice d nd cd] 36)) := (Below.refl _ _).alloc (Nat.le_refl _) _
  have HB1 := Lib.hid b1
  clear hm hna hnb hnd hel hen hml b1
  obtain ⟨F, hF⟩ : ∃ F, F = formedM (⟨k, f, o, t, i, l, c, s, y, e, ms, g⟩ : Mg) := ⟨_, rfl⟩
  rw [← hF]
  have HF := Lib.hid hF
  clear hF
  simp only [mgC]
  go_enter Try.func29, Try.ntmps29
  go_upto_region 1 with fail
  refine world_cut (fun W => Below w.heap.size w W ∧ Blk W w.heap.size 36 #[.int .i64 k, .int .u64 (f : Int), .int .u64 (o : Int), .int .u64 (t : Int), .int .u64 (i : Int), .int .u64 (l : Int), .int .u64 (c : Int), .int .u64 (s : Int), .bool y, .slice a na ca, .slice b nb cb, .slice d nd cd] ∧ MHas W (⟨k, f, o, t, i, l, c, s, y, e, ms, g⟩ : Mg) (.slice a na ca) (.slice b nb cb) (.slice d nd cd) us) ⟨HB1.out, Blk.new w _ _, HM.out.below (Nat.le_refl _) HB1.out⟩ ?_
  clear HB1 HM
  rintro w1 ⟨hb1, k1, hm1⟩
  have HB := Lib.hid hb1
  have K1 := Lib.hid k1
  have HM := Lib.hid hm1
  have HLT := Lib.hid k1.lt
  have c0 : w1.cell? ⟨w.heap.size, 0, none⟩ = some (.int .i64 k) := by rw [k1.cell]; rfl
  have c1 : w1.cell? ⟨w.heap.size, 1, none⟩ = some (.int .u64 (f : Int)) := by rw [k1.cell]; rfl
  have c2 : w1.cell? ⟨w.heap.size, 2, none⟩ = some (.int .u64 (o : Int)) := by rw [k1.cell]; rfl
  have c3 : w1.cell? ⟨w.heap.size, 3, none⟩ = some (.int .u64 (t : Int)) := by rw [k1.cell]; rfl
  have c4 : w1.cell? ⟨w.heap.size, 4, none⟩ = some (.int .u64 (i : Int)) := by rw [k1.cell]; rfl
  have c5 : w1.cell? ⟨w.heap.size, 5, none⟩ = some (.int .u64 (l : Int)) := by rw [k1.cell]; rfl
  have c6 : w1.cell? ⟨w.heap.size, 6, none⟩ = some (.int .u64 (c : Int)) := by rw [k1.cell]; rfl
  have c7 : w1.cell? ⟨w.heap.size, 7, none⟩ = some (.int .u64 (s : Int)) := by rw [k1.cell]; rfl
  have c8 : w1.cell? ⟨w.heap.size, 8, none⟩ = some (.bool y) := by rw [k1.cell]; rfl
  have c9 : w1.cell? ⟨w.heap.size, 9, none⟩ = some (.slice a na ca) := by rw [k1.cell]; rfl
  have c10 : w1.cell? ⟨w.heap.size, 10, none⟩ = some (.slice b nb cb) := by rw [k1.cell]; rfl
  have c11 : w1.cell? ⟨w.heap.size, 11, none⟩ = some (.slice d nd cd) := by rw [k1.cell]; rfl
  have C0 := Lib.hid c0
  have C1 := Lib.hid c1
  have C2 := Lib.hid c2
  have C3 := Lib.hid c3
  have C4 := Lib.hid c4
  have C5 := Lib.hid c5
  have C6 := Lib.hid c6
  have C7 := Lib.hid c7
  have C8 := Lib.hid c8
  have C9 := Lib.hid c9
  have C10 := Lib.hid c10
  have C11 := Lib.hid c11
  clear hb1 k1 hm1
  by_cases h0 : k < 1
  · have hr : formedM (⟨k, f, o, t, i, l, c, s, y, e, ms, g⟩ : Mg) = false := formedM_head (by rw [Bool.eq_false_iff]; intro h; simp only [headOk, nodeOk, termOk, Bool.and_eq_true, decide_eq_true_eq] at h; omega)
    have HR := Lib.hid (HF.out.trans hr)
    have q0 : decide (k < 1) = true := decide_eq_true (by omega)
    clear hr h0
    go_wp2
    go_ret
    exact ⟨by rw [HR.out]; rfl, HB.out⟩
  have q0 : decide (k < 1) = false := decide_eq_false (by omega)
  by_cases h1 : 5 < k
  · have hr : formedM (⟨k, f, o, t, i, l, c, s, y, e, ms, g⟩ : Mg) = false := formedM_head (by rw [Bool.eq_false_iff]; intro h; simp only [headOk, nodeOk, termOk, Bool.and_eq_true, decide_eq_true_eq] at h; omega)
    have HR := Lib.hid (HF.out.trans hr)
    have q1 : decide ((5 : Int) < k) = true := decide_eq_true (by omega)
    clear hr h1
    go_wp2
    go_ret
    exact ⟨by rw [HR.out]; rfl, HB.out⟩
  have q1 : decide ((5 : Int) < k) = false := decide_eq_false (by omega)
  by_cases h2 : f < 1
  · have hr : formedM (⟨k, f, o, t, i, l, c, s, y, e, ms, g⟩ : Mg) = false := formedM_head (by rw [Bool.eq_false_iff]; intro h; simp only [headOk, nodeOk, termOk, Bool.and_eq_true, decide_eq_true_eq] at h; omega)
    have HR := Lib.hid (HF.out.trans hr)
    have q2 : decide ((f : Int) < 1) = true := decide_eq_true (by omega)
    clear hr h2
    go_wp2
    go_ret
    exact ⟨by rw [HR.out]; rfl, HB.out⟩
  have q2 : decide ((f : Int) < 1) = false := decide_eq_false (by omega)
  by_cases h3 : 7 < f
  · have hr : formedM (⟨k, f, o, t, i, l, c, s, y, e, ms, g⟩ : Mg) = false := formedM_head (by rw [Bool.eq_false_iff]; intro h; simp only [headOk, nodeOk, termOk, Bool.and_eq_true, decide_eq_true_eq] at h; omega)
    have HR := Lib.hid (HF.out.trans hr)
    have q3 : decide ((7 : Int) < (f : Int)) = true := decide_eq_true (by omega)
    clear hr h3
    go_wp2
    go_ret
    exact ⟨by rw [HR.out]; rfl, HB.out⟩
  have q3 : decide ((7 : Int) < (f : Int)) = false := decide_eq_false (by omega)
  by_cases h4 : o < 1
  · have hr : formedM (⟨k, f, o, t, i, l, c, s, y, e, ms, g⟩ : Mg) = false := formedM_head (by rw [Bool.eq_false_iff]; intro h; simp only [headOk, nodeOk, termOk, Bool.and_eq_true, decide_eq_true_eq] at h; omega)
    have HR := Lib.hid (HF.out.trans hr)
    have q4 : decide ((o : Int) < 1) = true := decide_eq_true (by omega)
    clear hr h4
    go_wp2
    go_ret
    exact ⟨by rw [HR.out]; rfl, HB.out⟩
  have q4 : decide ((o : Int) < 1) = false := decide_eq_false (by omega)
  by_cases h5 : 7 < o
  · have hr : formedM (⟨k, f, o, t, i, l, c, s, y, e, ms, g⟩ : Mg) = false := formedM_head (by rw [Bool.eq_false_iff]; intro h; simp only [headOk, nodeOk, termOk, Bool.and_eq_true, decide_eq_true_eq] at h; omega)
    have HR := Lib.hid (HF.out.trans hr)
    have q5 : decide ((7 : Int) < (o : Int)) = true := decide_eq_true (by omega)
    clear hr h5
    go_wp2
    go_ret
    exact ⟨by rw [HR.out]; rfl, HB.out⟩
  have q5 : decide ((7 : Int) < (o : Int)) = false := decide_eq_false (by omega)
  by_cases h6 : t < 1
  · have hr : formedM (⟨k, f, o, t, i, l, c, s, y, e, ms, g⟩ : Mg) = false := formedM_head (by rw [Bool.eq_false_iff]; intro h; simp only [headOk, nodeOk, termOk, Bool.and_eq_true, decide_eq_true_eq] at h; omega)
    have HR := Lib.hid (HF.out.trans hr)
    have q6 : decide ((t : Int) < 1) = true := decide_eq_true (by omega)
    clear hr h6
    go_wp2
    go_ret
    exact ⟨by rw [HR.out]; rfl, HB.out⟩
  have q6 : decide ((t : Int) < 1) = false := decide_eq_false (by omega)
  by_cases h7 : 4611686018427387904 < t
  · have hr : formedM (⟨k, f, o, t, i, l, c, s, y, e, ms, g⟩ : Mg) = false := formedM_head (by rw [Bool.eq_false_iff]; intro h; simp only [headOk, nodeOk, termOk, Bool.and_eq_true, decide_eq_true_eq] at h; omega)
    have HR := Lib.hid (HF.out.trans hr)
    have q7 : decide ((4611686018427387904 : Int) < (t : Int)) = true := decide_eq_true (by omega)
    clear hr h7
    go_wp2
    go_ret
    exact ⟨by rw [HR.out]; rfl, HB.out⟩
  have q7 : decide ((4611686018427387904 : Int) < (t : Int)) = false := decide_eq_false (by omega)
  have HHead := Lib.hid (show headOk (⟨k, f, o, t, i, l, c, s, y, e, ms, g⟩ : Mg) = true by simp only [headOk, nodeOk, termOk, Bool.and_eq_true, decide_eq_true_eq]; omega)
  clear h0 h1 h2 h3 h4 h5 h6 h7
  go_upto_region 3 with fail
  clear c0 c1 c2 c3 c4 c5 c6 c7 c8 c9 c10 c11 q0 q1 q2 q3 q4 q5 q6 q7
  have hG : ∀ W W' : World, Below w1.heap.size w1 W → Below W.heap.size W W' → Below w1.heap.size w1 W' := fun W W' hW hb => hW.trans (hb.mono hW.size)
  have HBare := Lib.hid (fun (W : World) (hW : Below w1.heap.size w1 W) => refBare_any _ _ _ _ us W (HM.out.below (Nat.le_refl _) hW))
  have HSame := Lib.hid (fun (W : World) (hW : Below w1.heap.size w1 W) (ve' vm' vg' : Value) (us' : List EE) (h : MHas W (MsgMath.bareM (⟨k, f, o, t, i, l, c, s, y, e, ms, g⟩ : Mg)) ve' vm' vg' us') => refMsgSame_any _ _ _ _ _ _ _ _ us us' W (HM.out.below (Nat.le_refl _) hW) h)
  by_cases hS : (⟨k, f, o, t, i, l, c, s, y, e, ms, g⟩ : Mg) = MsgMath.bareM (⟨k, f, o, t, i, l, c, s, y, e, ms, g⟩ : Mg)
  · have HD := Lib.hid (decide_eq_true hS)
    by_cases hI : 4611686018427387904 < i
    · have HI := Lib.hid (show decide ((4611686018427387904 : Int) < (i : Int)) = true from decide_eq_true (by omega))
      have hr : formedM (⟨k, f, o, t, i, l, c, s, y, e, ms, g⟩ : Mg) = false := formedM_rest (by rw [Bool.eq_false_iff]; intro h; simp only [restOk, MsgMath.MT, Bool.and_eq_true, decide_eq_true_eq] at h; omega)
      have HR := Lib.hid (HF.out.trans hr)
      clear hr
      refine region_skip [(42, .is (.agg #[.int .i64 k, .int .u64 (f : Int), .int .u64 (o : Int), .int .u64 (t : Int), .int .u64 (i : Int), .int .u64 (l : Int), .int .u64 (c : Int), .int .u64 (s : Int), .bool y, .slice a na ca, .slice b nb cb, .slice d nd cd])), (43, .is (.agg #[.int .i64 k, .int .u64 (f : Int), .int .u64 (o : Int), .int .u64 (t : Int), .int .u64 (i : Int), .int .u64 (l : Int), .int .u64 (c : Int), .int .u64 (s : Int), .bool y, .slice a na ca, .slice b nb cb, .slice d nd cd])), (44, bareF (⟨k, f, o, t, i, l, c, s, y, e, ms, g⟩ : Mg)), (45, .is (.bool true)), (46, .is (.bool false)), (47, .is (.bool false)), (48, .is (.pointer (some ⟨w.heap.size, 4, none⟩))), (49, .is (.int .u64 (i : Int))), (50, .is (.bool true)), (51, .is (.bool true)), (52, .is (.bool true)), (53, .is undef), (54, .is undef), (55, .is undef), (56, .is (.bool true)), (57, .is (.bool true)), (58, .is undef), (59, .is undef), (60, .is undef), (61, .is (.bool true)), (62, .is (.bool true)), (63, .is undef), (64, .is undef), (65, .is undef), (66, .is undef), (67, .is (.bool true)), (68, .is (.bool true)), (69, .is undef), (70, .is undef), (71, .is undef), (72, .is undef), (73, .is (.bool true))] [1, 73] (fun W => Below w1.heap.size w1 W) (by kernel_rfl) (by kernel_rfl) (by kernel_rfl) (by kernel_rfl) (by kernel_rfl) ((Below.refl _ _).drew) ?_ ?_
      · refine ⟨?c0, ?c1, ?c2, ?c3, ?c4, ?c5, ?c6, ?c7, ?c8, ?c9, ?c10, ?c11, ?c12, ?c13, ?c14, ?c15, ?c16, ?c17, ?c18, ?c19, ?c20, ?c21, ?c22, ?c23, ?c24, ?c25, ?c26, ?c27, ?c28, ?c29, ?c30, ?c31, trivial⟩
        case c0 => exact runs (ask_load (guard_none rfl) _ (.tmp 1) (.pointer (some ⟨w.heap.size, 0, none⟩)) (.agg #[.int .i64 k, .int .u64 (f : Int), .int .u64 (o : Int), .int .u64 (t : Int), .int .u64 (i : Int), .int .u64 (l : Int), .int .u64 (c : Int), .int .u64 (s : Int), .bool y, .slice a na ca, .slice b nb cb, .slice d nd cd]) rfl rfl (by intro k hk; cases hk; rfl) (fun W hW => (K1.out.keep hW).loads 36 _ Try.underlying36 rfl rfl))
        case c1 => exact runs (ask_load (guard_none rfl) _ (.tmp 1) (.pointer (some ⟨w.heap.size, 0, none⟩)) (.agg #[.int .i64 k, .int .u64 (f : Int), .int .u64 (o : Int), .int .u64 (t : Int), .int .u64 (i : Int), .int .u64 (l : Int), .int .u64 (c : Int), .int .u64 (s : Int), .bool y, .slice a na ca, .slice b nb cb, .slice d nd cd]) rfl rfl (by intro k hk; cases hk; rfl) (fun W hW => (K1.out.keep hW).loads 36 _ Try.underlying36 rfl rfl))
        case c2 => exact runs (ask_call hG (guard_none rfl) _ _ _ #[.agg #[.int .i64 k, .int .u64 (f : Int), .int .u64 (o : Int), .int .u64 (t : Int), .int .u64 (i : Int), .int .u64 (l : Int), .int .u64 (c : Int), .int .u64 (s : Int), .bool y, .slice a na ca, .slice b nb cb, .slice d nd cd]] (bareF (⟨k, f, o, t, i, l, c, s, y, e, ms, g⟩ : Mg)) rfl (by kernel_rfl) rfl rfl (by intro k hk; cases hk; rfl) (fun W hW => (HBare.out W hW).mono fun e w' h => by obtain ⟨ve', vm', vg', us', h1, h2, h3⟩ := h; exact ⟨_, h1, ⟨ve', vm', vg', us', rfl, h2⟩, h3⟩))
        case c3 => exact runs (ask_call_by hG (guard_none rfl) _ _ _ (.is (.bool true)) rfl (by kernel_rfl) (by intro k hk; cases hk; rfl) (fun x W hW ht => by have e1 : evalBy x (.tmp 42) = (.agg #[.int .i64 k, .int .u64 (f : Int), .int .u64 (o : Int), .int .u64 (t : Int), .int .u64 (i : Int), .int .u64 (l : Int), .int .u64 (c : Int), .int .u64 (s : Int), .bool y, .slice a na ca, .slice b nb cb, .slice d nd cd]) := told_op ht (.tmp 42) (by simp [Op.operands, Call.operands]); obtain ⟨ve', vm', vg', us', e2, h2⟩ : ∃ ve' vm' vg' us', evalBy x (.tmp 44) = .agg (mgC (MsgMath.bareM (⟨k, f, o, t, i, l, c, s, y, e, ms, g⟩ : Mg)) ve' vm' vg') ∧ MHas W (MsgMath.bareM (⟨k, f, o, t, i, l, c, s, y, e, ms, g⟩ : Mg)) ve' vm' vg' us' := told_op ht (.tmp 44) (by simp [Op.operands, Call.operands]); show Calls Try.prog 22 #[evalBy x (.tmp 42), evalBy x (.tmp 44)] W _; rw [e1, e2]; exact (HSame.out W hW ve' vm' vg' us' h2).mono fun e w' h => ⟨_, h.1, by rw [HD.out]; rfl, h.2⟩))
        case c4 => exact runs (ask_exec (guard_none rfl) (.bool false) rfl rfl (by intro k hk; cases hk; rfl) (fun W hW => by kernel_rfl))
        case c5 => exact runs (ask_copy (guard_none rfl) (.tmp 46) (.inl rfl) (by intro k hk; cases hk; rfl))
        case c6 => exact runs (ask_field (guard_some rfl rfl rfl) _ (.tmp 1) 4 (.pointer (some ⟨w.heap.size, 0, none⟩)) (.pointer (some ⟨w.heap.size, 4, none⟩)) rfl rfl (by intro k hk; cases hk; rfl) (fun W => by kernel_rfl))
        case c7 => exact runs (ask_load (guard_some rfl rfl rfl) _ (.tmp 48) (.pointer (some ⟨w.heap.size, 4, none⟩)) (.int .u64 (i : Int)) rfl rfl (by intro k hk; cases hk; rfl) (fun W hW => load_u64m W _ _ (by rw [hW.cell (p := ⟨w.heap.size, 4, none⟩) HLT.out]; exact C4.out)))
        case c8 => exact runs (ask_bin (guard_some rfl rfl rfl) .gtr _ _ (.tmp 49) (.const (.int .u64 4611686018427387904)) (.int .u64 (i : Int)) (.int .u64 4611686018427387904) (.bool true) rfl rfl rfl (by intro k hk; cases hk; rfl) (fun W => gtrM_u64 _ _ _ HI.out _ _ _ W))
        case c9 => exact runs (ask_pick (guard_none rfl) (.tmp 47) (.const (.bool true)) (.tmp 50) false rfl rfl (by intro k hk; cases hk; rfl))
        case c10 => exact runs (ask_copy (guard_none rfl) (.tmp 51) (.inl rfl) (by intro k hk; cases hk; rfl))
        case c11 => exact skips 10 false 52 (.bool true) rfl rfl rfl (by simp) (by intro k hk; cases hk; rfl)
        case c12 => exact skips 10 false 52 (.bool true) rfl rfl rfl (by simp) (by intro k hk; cases hk; rfl)
        case c13 => exact skips 10 false 52 (.bool true) rfl rfl rfl (by simp) (by intro k hk; cases hk; rfl)
        case c14 => exact runs (ask_pick (guard_none rfl) (.tmp 52) (.const (.bool true)) (.tmp 55) true rfl rfl (by intro k hk; cases hk; rfl))
        case c15 => exact runs (ask_copy (guard_none rfl) (.tmp 56) (.inl rfl) (by intro k hk; cases hk; rfl))
        case c16 => exact skips 15 false 57 (.bool true) rfl rfl rfl (by simp) (by intro k hk; cases hk; rfl)
        case c17 => exact skips 15 false 57 (.bool true) rfl rfl rfl (by simp) (by intro k hk; cases hk; rfl)
        case c18 => exact skips 15 false 57 (.bool true) rfl rfl rfl (by simp) (by intro k hk; cases hk; rfl)
        case c19 => exact runs (ask_pick (guard_none rfl) (.tmp 57) (.const (.bool true)) (.tmp 60) true rfl rfl (by intro k hk; cases hk; rfl))
        case c20 => exact runs (ask_copy (guard_none rfl) (.tmp 61) (.inl rfl) (by intro k hk; cases hk; rfl))
        case c21 => exact skips 20 false 62 (.bool true) rfl rfl rfl (by simp) (by intro k hk; cases hk; rfl)
        case c22 => exact skips 20 false 62 (.bool true) rfl rfl rfl (by simp) (by intro k hk; cases hk; rfl)
        case c23 => exact skips 20 false 62 (.bool true) rfl rfl rfl (by simp) (by intro k hk; cases hk; rfl)
        case c24 => exact skips 20 false 62 (.bool true) rfl rfl rfl (by simp) (by intro k hk; cases hk; rfl)
        case c25 => exact runs (ask_pick (guard_none rfl) (.tmp 62) (.const (.bool true)) (.tmp 66) true rfl rfl (by intro k hk; cases hk; rfl))
        case c26 => exact runs (ask_copy (guard_none rfl) (.tmp 67) (.inl rfl) (by intro k hk; cases hk; rfl))
        case c27 => exact skips 26 false 68 (.bool true) rfl rfl rfl (by simp) (by intro k hk; cases hk; rfl)
        case c28 => exact skips 26 false 68 (.bool true) rfl rfl rfl (by simp) (by intro k hk; cases hk; rfl)
        case c29 => exact skips 26 false 68 (.bool true) rfl rfl rfl (by simp) (by intro k hk; cases hk; rfl)
        case c30 => exact skips 26 false 68 (.bool true) rfl rfl rfl (by simp) (by intro k hk; cases hk; rfl)
        case c31 => exact runs (ask_pick (guard_none rfl) (.tmp 68) (.const (.bool true)) (.tmp 72) true rfl rfl (by intro k hk; cases hk; rfl))
      · intro a' W hW hd' hs' hf'
        have t1 : a'.tmps.getD 1 undef = .pointer (some ⟨w.heap.size, 0, none⟩) := hf' 1 rfl
        have t73 : a'.tmps.getD 73 undef = .bool true := hf' 73 rfl
        obtain ⟨us', hus, ha'⟩ := act_open 96 a' hs' hd'
        rw [← hus] at t1 t73
        have el : ((List.range 96).map us').toArray = #[us' 0, .pointer (some ⟨w.heap.size, 0, none⟩), us' 2, us' 3, us' 4, us' 5, us' 6, us' 7, us' 8, us' 9, us' 10, us' 11, us' 12, us' 13, us' 14, us' 15, us' 16, us' 17, us' 18, us' 19, us' 20, us' 21, us' 22, us' 23, us' 24, us' 25, us' 26, us' 27, us' 28, us' 29, us' 30, us' 31, us' 32, us' 33, us' 34, us' 35, us' 36, us' 37, us' 38, us' 39, us' 40, us' 41, us' 42, us' 43, us' 44, us' 45, us' 46, us' 47, us' 48, us' 49, us' 50, us' 51, us' 52, us' 53, us' 54, us' 55, us' 56, us' 57, us' 58, us' 59, us' 60, us' 61, us' 62, us' 63, us' 64, us' 65, us' 66, us' 67, us' 68, us' 69, us' 70, us' 71, us' 72, .bool true, us' 74, us' 75, us' 76, us' 77, us' 78, us' 79, us' 80, us' 81, us' 82, us' 83, us' 84, us' 85, us' 86, us' 87, us' 88, us' 89, us' 90, us' 91, us' 92, us' 93, us' 94, us' 95] := by
          show #[us' 0, us' 1, us' 2, us' 3, us' 4, us' 5, us' 6, us' 7, us' 8, us' 9, us' 10, us' 11, us' 12, us' 13, us' 14, us' 15, us' 16, us' 17, us' 18, us' 19, us' 20, us' 21, us' 22, us' 23, us' 24, us' 25, us' 26, us' 27, us' 28, us' 29, us' 30, us' 31, us' 32, us' 33, us' 34, us' 35, us' 36, us' 37, us' 38, us' 39, us' 40, us' 41, us' 42, us' 43, us' 44, us' 45, us' 46, us' 47, us' 48, us' 49, us' 50, us' 51, us' 52, us' 53, us' 54, us' 55, us' 56, us' 57, us' 58, us' 59, us' 60, us' 61, us' 62, us' 63, us' 64, us' 65, us' 66, us' 67, us' 68, us' 69, us' 70, us' 71, us' 72, us' 73, us' 74, us' 75, us' 76, us' 77, us' 78, us' 79, us' 80, us' 81, us' 82, us' 83, us' 84, us' 85, us' 86, us' 87, us' 88, us' 89, us' 90, us' 91, us' 92, us' 93, us' 94, us' 95] = _
          rw [t1, t73]
        rw [el] at ha'
        subst ha'
        clear hus t1 t73 el hf' hs' hd'
        go_wp2
        go_ret
        exact ⟨by rw [HR.out]; rfl, HB.out.trans (hW.mono HB.out.size)⟩
    have HI := Lib.hid (show decide ((4611686018427387904 : Int) < (i : Int)) = false from decide_eq_false (by omega))
    by_cases hL : 4611686018427387904 < l
    · have HL := Lib.hid (show decide ((4611686018427387904 : Int) < (l : Int)) = true from decide_eq_true (by omega))
      have hr : formedM (⟨k, f, o, t, i, l, c, s, y, e, ms, g⟩ : Mg) = false := formedM_rest (by rw [Bool.eq_false_iff]; intro h; simp only [restOk, MsgMath.MT, Bool.and_eq_true, decide_eq_true_eq] at h; omega)
      have HR := Lib.hid (HF.out.trans hr)
      clear hr
      refine region_skip [(42, .is (.agg #[.int .i64 k, .int .u64 (f : Int), .int .u64 (o : Int), .int .u64 (t : Int), .int .u64 (i : Int), .int .u64 (l : Int), .int .u64 (c : Int), .int .u64 (s : Int), .bool y, .slice a na ca, .slice b nb cb, .slice d nd cd])), (43, .is (.agg #[.int .i64 k, .int .u64 (f : Int), .int .u64 (o : Int), .int .u64 (t : Int), .int .u64 (i : Int), .int .u64 (l : Int), .int .u64 (c : Int), .int .u64 (s : Int), .bool y, .slice a na ca, .slice b nb cb, .slice d nd cd])), (44, bareF (⟨k, f, o, t, i, l, c, s, y, e, ms, g⟩ : Mg)), (45, .is (.bool true)), (46, .is (.bool false)), (47, .is (.bool false)), (48, .is (.pointer (some ⟨w.heap.size, 4, none⟩))), (49, .is (.int .u64 (i : Int))), (50, .is (.bool false)), (51, .is (.bool false)), (52, .is (.bool false)), (53, .is (.pointer (some ⟨w.heap.size, 5, none⟩))), (54, .is (.int .u64 (l : Int))), (55, .is (.bool true)), (56, .is (.bool true)), (57, .is (.bool true)), (58, .is undef), (59, .is undef), (60, .is undef), (61, .is (.bool true)), (62, .is (.bool true)), (63, .is undef), (64, .is undef), (65, .is undef), (66, .is undef), (67, .is (.bool true)), (68, .is (.bool true)), (69, .is undef), (70, .is undef), (71, .is undef), (72, .is undef), (73, .is (.bool true))] [1, 73] (fun W => Below w1.heap.size w1 W) (by kernel_rfl) (by kernel_rfl) (by kernel_rfl) (by kernel_rfl) (by kernel_rfl) ((Below.refl _ _).drew) ?_ ?_
      · refine ⟨?c0, ?c1, ?c2, ?c3, ?c4, ?c5, ?c6, ?c7, ?c8, ?c9, ?c10, ?c11, ?c12, ?c13, ?c14, ?c15, ?c16, ?c17, ?c18, ?c19, ?c20, ?c21, ?c22, ?c23, ?c24, ?c25, ?c26, ?c27, ?c28, ?c29, ?c30, ?c31, trivial⟩
        case c0 => exact runs (ask_load (guard_none rfl) _ (.tmp 1) (.pointer (some ⟨w.heap.size, 0, none⟩)) (.agg #[.int .i64 k, .int .u64 (f : Int), .int .u64 (o : Int), .int .u64 (t : Int), .int .u64 (i : Int), .int .u64 (l : Int), .int .u64 (c : Int), .int .u64 (s : Int), .bool y, .slice a na ca, .slice b nb cb, .slice d nd cd]) rfl rfl (by intro k hk; cases hk; rfl) (fun W hW => (K1.out.keep hW).loads 36 _ Try.underlying36 rfl rfl))
        case c1 => exact runs (ask_load (guard_none rfl) _ (.tmp 1) (.pointer (some ⟨w.heap.size, 0, none⟩)) (.agg #[.int .i64 k, .int .u64 (f : Int), .int .u64 (o : Int), .int .u64 (t : Int), .int .u64 (i : Int), .int .u64 (l : Int), .int .u64 (c : Int), .int .u64 (s : Int), .bool y, .slice a na ca, .slice b nb cb, .slice d nd cd]) rfl rfl (by intro k hk; cases hk; rfl) (fun W hW => (K1.out.keep hW).loads 36 _ Try.underlying36 rfl rfl))
        case c2 => exact runs (ask_call hG (guard_none rfl) _ _ _ #[.agg #[.int .i64 k, .int .u64 (f : Int), .int .u64 (o : Int), .int .u64 (t : Int), .int .u64 (i : Int), .int .u64 (l : Int), .int .u64 (c : Int), .int .u64 (s : Int), .bool y, .slice a na ca, .slice b nb cb, .slice d nd cd]] (bareF (⟨k, f, o, t, i, l, c, s, y, e, ms, g⟩ : Mg)) rfl (by kernel_rfl) rfl rfl (by intro k hk; cases hk; rfl) (fun W hW => (HBare.out W hW).mono fun e w' h => by obtain ⟨ve', vm', vg', us', h1, h2, h3⟩ := h; exact ⟨_, h1, ⟨ve', vm', vg', us', rfl, h2⟩, h3⟩))
        case c3 => exact runs (ask_call_by hG (guard_none rfl) _ _ _ (.is (.bool true)) rfl (by kernel_rfl) (by intro k hk; cases hk; rfl) (fun x W hW ht => by have e1 : evalBy x (.tmp 42) = (.agg #[.int .i64 k, .int .u64 (f : Int), .int .u64 (o : Int), .int .u64 (t : Int), .int .u64 (i : Int), .int .u64 (l : Int), .int .u64 (c : Int), .int .u64 (s : Int), .bool y, .slice a na ca, .slice b nb cb, .slice d nd cd]) := told_op ht (.tmp 42) (by simp [Op.operands, Call.operands]); obtain ⟨ve', vm', vg', us', e2, h2⟩ : ∃ ve' vm' vg' us', evalBy x (.tmp 44) = .agg (mgC (MsgMath.bareM (⟨k, f, o, t, i, l, c, s, y, e, ms, g⟩ : Mg)) ve' vm' vg') ∧ MHas W (MsgMath.bareM (⟨k, f, o, t, i, l, c, s, y, e, ms, g⟩ : Mg)) ve' vm' vg' us' := told_op ht (.tmp 44) (by simp [Op.operands, Call.operands]); show Calls Try.prog 22 #[evalBy x (.tmp 42), evalBy x (.tmp 44)] W _; rw [e1, e2]; exact (HSame.out W hW ve' vm' vg' us' h2).mono fun e w' h => ⟨_, h.1, by rw [HD.out]; rfl, h.2⟩))
        case c4 => exact runs (ask_exec (guard_none rfl) (.bool false) rfl rfl (by intro k hk; cases hk; rfl) (fun W hW => by kernel_rfl))
        case c5 => exact runs (ask_copy (guard_none rfl) (.tmp 46) (.inl rfl) (by intro k hk; cases hk; rfl))
        case c6 => exact runs (ask_field (guard_some rfl rfl rfl) _ (.tmp 1) 4 (.pointer (some ⟨w.heap.size, 0, none⟩)) (.pointer (some ⟨w.heap.size, 4, none⟩)) rfl rfl (by intro k hk; cases hk; rfl) (fun W => by kernel_rfl))
        case c7 => exact runs (ask_load (guard_some rfl rfl rfl) _ (.tmp 48) (.pointer (some ⟨w.heap.size, 4, none⟩)) (.int .u64 (i : Int)) rfl rfl (by intro k hk; cases hk; rfl) (fun W hW => load_u64m W _ _ (by rw [hW.cell (p := ⟨w.heap.size, 4, none⟩) HLT.out]; exact C4.out)))
        case c8 => exact runs (ask_bin (guard_some rfl rfl rfl) .gtr _ _ (.tmp 49) (.const (.int .u64 4611686018427387904)) (.int .u64 (i : Int)) (.int .u64 4611686018427387904) (.bool false) rfl rfl rfl (by intro k hk; cases hk; rfl) (fun W => gtrM_u64 _ _ _ HI.out _ _ _ W))
        case c9 => exact runs (ask_pick (guard_none rfl) (.tmp 47) (.const (.bool true)) (.tmp 50) false rfl rfl (by intro k hk; cases hk; rfl))
        case c10 => exact runs (ask_copy (guard_none rfl) (.tmp 51) (.inl rfl) (by intro k hk; cases hk; rfl))
        case c11 => exact runs (ask_field (guard_some rfl rfl rfl) _ (.tmp 1) 5 (.pointer (some ⟨w.heap.size, 0, none⟩)) (.pointer (some ⟨w.heap.size, 5, none⟩)) rfl rfl (by intro k hk; cases hk; rfl) (fun W => by kernel_rfl))
        case c12 => exact runs (ask_load (guard_some rfl rfl rfl) _ (.tmp 53) (.pointer (some ⟨w.heap.size, 5, none⟩)) (.int .u64 (l : Int)) rfl rfl (by intro k hk; cases hk; rfl) (fun W hW => load_u64m W _ _ (by rw [hW.cell (p := ⟨w.heap.size, 5, none⟩) HLT.out]; exact C5.out)))
        case c13 => exact runs (ask_bin (guard_some rfl rfl rfl) .gtr _ _ (.tmp 54) (.const (.int .u64 4611686018427387904)) (.int .u64 (l : Int)) (.int .u64 4611686018427387904) (.bool true) rfl rfl rfl (by intro k hk; cases hk; rfl) (fun W => gtrM_u64 _ _ _ HL.out _ _ _ W))
        case c14 => exact runs (ask_pick (guard_none rfl) (.tmp 52) (.const (.bool true)) (.tmp 55) false rfl rfl (by intro k hk; cases hk; rfl))
        case c15 => exact runs (ask_copy (guard_none rfl) (.tmp 56) (.inl rfl) (by intro k hk; cases hk; rfl))
        case c16 => exact skips 15 false 57 (.bool true) rfl rfl rfl (by simp) (by intro k hk; cases hk; rfl)
        case c17 => exact skips 15 false 57 (.bool true) rfl rfl rfl (by simp) (by intro k hk; cases hk; rfl)
        case c18 => exact skips 15 false 57 (.bool true) rfl rfl rfl (by simp) (by intro k hk; cases hk; rfl)
        case c19 => exact runs (ask_pick (guard_none rfl) (.tmp 57) (.const (.bool true)) (.tmp 60) true rfl rfl (by intro k hk; cases hk; rfl))
        case c20 => exact runs (ask_copy (guard_none rfl) (.tmp 61) (.inl rfl) (by intro k hk; cases hk; rfl))
        case c21 => exact skips 20 false 62 (.bool true) rfl rfl rfl (by simp) (by intro k hk; cases hk; rfl)
        case c22 => exact skips 20 false 62 (.bool true) rfl rfl rfl (by simp) (by intro k hk; cases hk; rfl)
        case c23 => exact skips 20 false 62 (.bool true) rfl rfl rfl (by simp) (by intro k hk; cases hk; rfl)
        case c24 => exact skips 20 false 62 (.bool true) rfl rfl rfl (by simp) (by intro k hk; cases hk; rfl)
        case c25 => exact runs (ask_pick (guard_none rfl) (.tmp 62) (.const (.bool true)) (.tmp 66) true rfl rfl (by intro k hk; cases hk; rfl))
        case c26 => exact runs (ask_copy (guard_none rfl) (.tmp 67) (.inl rfl) (by intro k hk; cases hk; rfl))
        case c27 => exact skips 26 false 68 (.bool true) rfl rfl rfl (by simp) (by intro k hk; cases hk; rfl)
        case c28 => exact skips 26 false 68 (.bool true) rfl rfl rfl (by simp) (by intro k hk; cases hk; rfl)
        case c29 => exact skips 26 false 68 (.bool true) rfl rfl rfl (by simp) (by intro k hk; cases hk; rfl)
        case c30 => exact skips 26 false 68 (.bool true) rfl rfl rfl (by simp) (by intro k hk; cases hk; rfl)
        case c31 => exact runs (ask_pick (guard_none rfl) (.tmp 68) (.const (.bool true)) (.tmp 72) true rfl rfl (by intro k hk; cases hk; rfl))
      · intro a' W hW hd' hs' hf'
        have t1 : a'.tmps.getD 1 undef = .pointer (some ⟨w.heap.size, 0, none⟩) := hf' 1 rfl
        have t73 : a'.tmps.getD 73 undef = .bool true := hf' 73 rfl
        obtain ⟨us', hus, ha'⟩ := act_open 96 a' hs' hd'
        rw [← hus] at t1 t73
        have el : ((List.range 96).map us').toArray = #[us' 0, .pointer (some ⟨w.heap.size, 0, none⟩), us' 2, us' 3, us' 4, us' 5, us' 6, us' 7, us' 8, us' 9, us' 10, us' 11, us' 12, us' 13, us' 14, us' 15, us' 16, us' 17, us' 18, us' 19, us' 20, us' 21, us' 22, us' 23, us' 24, us' 25, us' 26, us' 27, us' 28, us' 29, us' 30, us' 31, us' 32, us' 33, us' 34, us' 35, us' 36, us' 37, us' 38, us' 39, us' 40, us' 41, us' 42, us' 43, us' 44, us' 45, us' 46, us' 47, us' 48, us' 49, us' 50, us' 51, us' 52, us' 53, us' 54, us' 55, us' 56, us' 57, us' 58, us' 59, us' 60, us' 61, us' 62, us' 63, us' 64, us' 65, us' 66, us' 67, us' 68, us' 69, us' 70, us' 71, us' 72, .bool true, us' 74, us' 75, us' 76, us' 77, us' 78, us' 79, us' 80, us' 81, us' 82, us' 83, us' 84, us' 85, us' 86, us' 87, us' 88, us' 89, us' 90, us' 91, us' 92, us' 93, us' 94, us' 95] := by
          show #[us' 0, us' 1, us' 2, us' 3, us' 4, us' 5, us' 6, us' 7, us' 8, us' 9, us' 10, us' 11, us' 12, us' 13, us' 14, us' 15, us' 16, us' 17, us' 18, us' 19, us' 20, us' 21, us' 22, us' 23, us' 24, us' 25, us' 26, us' 27, us' 28, us' 29, us' 30, us' 31, us' 32, us' 33, us' 34, us' 35, us' 36, us' 37, us' 38, us' 39, us' 40, us' 41, us' 42, us' 43, us' 44, us' 45, us' 46, us' 47, us' 48, us' 49, us' 50, us' 51, us' 52, us' 53, us' 54, us' 55, us' 56, us' 57, us' 58, us' 59, us' 60, us' 61, us' 62, us' 63, us' 64, us' 65, us' 66, us' 67, us' 68, us' 69, us' 70, us' 71, us' 72, us' 73, us' 74, us' 75, us' 76, us' 77, us' 78, us' 79, us' 80, us' 81, us' 82, us' 83, us' 84, us' 85, us' 86, us' 87, us' 88, us' 89, us' 90, us' 91, us' 92, us' 93, us' 94, us' 95] = _
          rw [t1, t73]
        rw [el] at ha'
        subst ha'
        clear hus t1 t73 el hf' hs' hd'
        go_wp2
        go_ret
        exact ⟨by rw [HR.out]; rfl, HB.out.trans (hW.mono HB.out.size)⟩
    have HL := Lib.hid (show decide ((4611686018427387904 : Int) < (l : Int)) = false from decide_eq_false (by omega))
    by_cases hC : 4611686018427387904 < c
    · have HC := Lib.hid (show decide ((4611686018427387904 : Int) < (c : Int)) = true from decide_eq_true (by omega))
      have hr : formedM (⟨k, f, o, t, i, l, c, s, y, e, ms, g⟩ : Mg) = false := formedM_rest (by rw [Bool.eq_false_iff]; intro h; simp only [restOk, MsgMath.MT, Bool.and_eq_true, decide_eq_true_eq] at h; omega)
      have HR := Lib.hid (HF.out.trans hr)
      clear hr
      refine region_skip [(42, .is (.agg #[.int .i64 k, .int .u64 (f : Int), .int .u64 (o : Int), .int .u64 (t : Int), .int .u64 (i : Int), .int .u64 (l : Int), .int .u64 (c : Int), .int .u64 (s : Int), .bool y, .slice a na ca, .slice b nb cb, .slice d nd cd])), (43, .is (.agg #[.int .i64 k, .int .u64 (f : Int), .int .u64 (o : Int), .int .u64 (t : Int), .int .u64 (i : Int), .int .u64 (l : Int), .int .u64 (c : Int), .int .u64 (s : Int), .bool y, .slice a na ca, .slice b nb cb, .slice d nd cd])), (44, bareF (⟨k, f, o, t, i, l, c, s, y, e, ms, g⟩ : Mg)), (45, .is (.bool true)), (46, .is (.bool false)), (47, .is (.bool false)), (48, .is (.pointer (some ⟨w.heap.size, 4, none⟩))), (49, .is (.int .u64 (i : Int))), (50, .is (.bool false)), (51, .is (.bool false)), (52, .is (.bool false)), (53, .is (.pointer (some ⟨w.heap.size, 5, none⟩))), (54, .is (.int .u64 (l : Int))), (55, .is (.bool false)), (56, .is (.bool false)), (57, .is (.bool false)), (58, .is (.pointer (some ⟨w.heap.size, 6, none⟩))), (59, .is (.int .u64 (c : Int))), (60, .is (.bool true)), (61, .is (.bool true)), (62, .is (.bool true)), (63, .is undef), (64, .is undef), (65, .is undef), (66, .is undef), (67, .is (.bool true)), (68, .is (.bool true)), (69, .is undef), (70, .is undef), (71, .is undef), (72, .is undef), (73, .is (.bool true))] [1, 73] (fun W => Below w1.heap.size w1 W) (by kernel_rfl) (by kernel_rfl) (by kernel_rfl) (by kernel_rfl) (by kernel_rfl) ((Below.refl _ _).drew) ?_ ?_
      · refine ⟨?c0, ?c1, ?c2, ?c3, ?c4, ?c5, ?c6, ?c7, ?c8, ?c9, ?c10, ?c11, ?c12, ?c13, ?c14, ?c15, ?c16, ?c17, ?c18, ?c19, ?c20, ?c21, ?c22, ?c23, ?c24, ?c25, ?c26, ?c27, ?c28, ?c29, ?c30, ?c31, trivial⟩
        case c0 => exact runs (ask_load (guard_none rfl) _ (.tmp 1) (.pointer (some ⟨w.heap.size, 0, none⟩)) (.agg #[.int .i64 k, .int .u64 (f : Int), .int .u64 (o : Int), .int .u64 (t : Int), .int .u64 (i : Int), .int .u64 (l : Int), .int .u64 (c : Int), .int .u64 (s : Int), .bool y, .slice a na ca, .slice b nb cb, .slice d nd cd]) rfl rfl (by intro k hk; cases hk; rfl) (fun W hW => (K1.out.keep hW).loads 36 _ Try.underlying36 rfl rfl))
        case c1 => exact runs (ask_load (guard_none rfl) _ (.tmp 1) (.pointer (some ⟨w.heap.size, 0, none⟩)) (.agg #[.int .i64 k, .int .u64 (f : Int), .int .u64 (o : Int), .int .u64 (t : Int), .int .u64 (i : Int), .int .u64 (l : Int), .int .u64 (c : Int), .int .u64 (s : Int), .bool y, .slice a na ca, .slice b nb cb, .slice d nd cd]) rfl rfl (by intro k hk; cases hk; rfl) (fun W hW => (K1.out.keep hW).loads 36 _ Try.underlying36 rfl rfl))
        case c2 => exact runs (ask_call hG (guard_none rfl) _ _ _ #[.agg #[.int .i64 k, .int .u64 (f : Int), .int .u64 (o : Int), .int .u64 (t : Int), .int .u64 (i : Int), .int .u64 (l : Int), .int .u64 (c : Int), .int .u64 (s : Int), .bool y, .slice a na ca, .slice b nb cb, .slice d nd cd]] (bareF (⟨k, f, o, t, i, l, c, s, y, e, ms, g⟩ : Mg)) rfl (by kernel_rfl) rfl rfl (by intro k hk; cases hk; rfl) (fun W hW => (HBare.out W hW).mono fun e w' h => by obtain ⟨ve', vm', vg', us', h1, h2, h3⟩ := h; exact ⟨_, h1, ⟨ve', vm', vg', us', rfl, h2⟩, h3⟩))
        case c3 => exact runs (ask_call_by hG (guard_none rfl) _ _ _ (.is (.bool true)) rfl (by kernel_rfl) (by intro k hk; cases hk; rfl) (fun x W hW ht => by have e1 : evalBy x (.tmp 42) = (.agg #[.int .i64 k, .int .u64 (f : Int), .int .u64 (o : Int), .int .u64 (t : Int), .int .u64 (i : Int), .int .u64 (l : Int), .int .u64 (c : Int), .int .u64 (s : Int), .bool y, .slice a na ca, .slice b nb cb, .slice d nd cd]) := told_op ht (.tmp 42) (by simp [Op.operands, Call.operands]); obtain ⟨ve', vm', vg', us', e2, h2⟩ : ∃ ve' vm' vg' us', evalBy x (.tmp 44) = .agg (mgC (MsgMath.bareM (⟨k, f, o, t, i, l, c, s, y, e, ms, g⟩ : Mg)) ve' vm' vg') ∧ MHas W (MsgMath.bareM (⟨k, f, o, t, i, l, c, s, y, e, ms, g⟩ : Mg)) ve' vm' vg' us' := told_op ht (.tmp 44) (by simp [Op.operands, Call.operands]); show Calls Try.prog 22 #[evalBy x (.tmp 42), evalBy x (.tmp 44)] W _; rw [e1, e2]; exact (HSame.out W hW ve' vm' vg' us' h2).mono fun e w' h => ⟨_, h.1, by rw [HD.out]; rfl, h.2⟩))
        case c4 => exact runs (ask_exec (guard_none rfl) (.bool false) rfl rfl (by intro k hk; cases hk; rfl) (fun W hW => by kernel_rfl))
        case c5 => exact runs (ask_copy (guard_none rfl) (.tmp 46) (.inl rfl) (by intro k hk; cases hk; rfl))
        case c6 => exact runs (ask_field (guard_some rfl rfl rfl) _ (.tmp 1) 4 (.pointer (some ⟨w.heap.size, 0, none⟩)) (.pointer (some ⟨w.heap.size, 4, none⟩)) rfl rfl (by intro k hk; cases hk; rfl) (fun W => by kernel_rfl))
        case c7 => exact runs (ask_load (guard_some rfl rfl rfl) _ (.tmp 48) (.pointer (some ⟨w.heap.size, 4, none⟩)) (.int .u64 (i : Int)) rfl rfl (by intro k hk; cases hk; rfl) (fun W hW => load_u64m W _ _ (by rw [hW.cell (p := ⟨w.heap.size, 4, none⟩) HLT.out]; exact C4.out)))
        case c8 => exact runs (ask_bin (guard_some rfl rfl rfl) .gtr _ _ (.tmp 49) (.const (.int .u64 4611686018427387904)) (.int .u64 (i : Int)) (.int .u64 4611686018427387904) (.bool false) rfl rfl rfl (by intro k hk; cases hk; rfl) (fun W => gtrM_u64 _ _ _ HI.out _ _ _ W))
        case c9 => exact runs (ask_pick (guard_none rfl) (.tmp 47) (.const (.bool true)) (.tmp 50) false rfl rfl (by intro k hk; cases hk; rfl))
        case c10 => exact runs (ask_copy (guard_none rfl) (.tmp 51) (.inl rfl) (by intro k hk; cases hk; rfl))
        case c11 => exact runs (ask_field (guard_some rfl rfl rfl) _ (.tmp 1) 5 (.pointer (some ⟨w.heap.size, 0, none⟩)) (.pointer (some ⟨w.heap.size, 5, none⟩)) rfl rfl (by intro k hk; cases hk; rfl) (fun W => by kernel_rfl))
        case c12 => exact runs (ask_load (guard_some rfl rfl rfl) _ (.tmp 53) (.pointer (some ⟨w.heap.size, 5, none⟩)) (.int .u64 (l : Int)) rfl rfl (by intro k hk; cases hk; rfl) (fun W hW => load_u64m W _ _ (by rw [hW.cell (p := ⟨w.heap.size, 5, none⟩) HLT.out]; exact C5.out)))
        case c13 => exact runs (ask_bin (guard_some rfl rfl rfl) .gtr _ _ (.tmp 54) (.const (.int .u64 4611686018427387904)) (.int .u64 (l : Int)) (.int .u64 4611686018427387904) (.bool false) rfl rfl rfl (by intro k hk; cases hk; rfl) (fun W => gtrM_u64 _ _ _ HL.out _ _ _ W))
        case c14 => exact runs (ask_pick (guard_none rfl) (.tmp 52) (.const (.bool true)) (.tmp 55) false rfl rfl (by intro k hk; cases hk; rfl))
        case c15 => exact runs (ask_copy (guard_none rfl) (.tmp 56) (.inl rfl) (by intro k hk; cases hk; rfl))
        case c16 => exact runs (ask_field (guard_some rfl rfl rfl) _ (.tmp 1) 6 (.pointer (some ⟨w.heap.size, 0, none⟩)) (.pointer (some ⟨w.heap.size, 6, none⟩)) rfl rfl (by intro k hk; cases hk; rfl) (fun W => by kernel_rfl))
        case c17 => exact runs (ask_load (guard_some rfl rfl rfl) _ (.tmp 58) (.pointer (some ⟨w.heap.size, 6, none⟩)) (.int .u64 (c : Int)) rfl rfl (by intro k hk; cases hk; rfl) (fun W hW => load_u64m W _ _ (by rw [hW.cell (p := ⟨w.heap.size, 6, none⟩) HLT.out]; exact C6.out)))
        case c18 => exact runs (ask_bin (guard_some rfl rfl rfl) .gtr _ _ (.tmp 59) (.const (.int .u64 4611686018427387904)) (.int .u64 (c : Int)) (.int .u64 4611686018427387904) (.bool true) rfl rfl rfl (by intro k hk; cases hk; rfl) (fun W => gtrM_u64 _ _ _ HC.out _ _ _ W))
        case c19 => exact runs (ask_pick (guard_none rfl) (.tmp 57) (.const (.bool true)) (.tmp 60) false rfl rfl (by intro k hk; cases hk; rfl))
        case c20 => exact runs (ask_copy (guard_none rfl) (.tmp 61) (.inl rfl) (by intro k hk; cases hk; rfl))
        case c21 => exact skips 20 false 62 (.bool true) rfl rfl rfl (by simp) (by intro k hk; cases hk; rfl)
        case c22 => exact skips 20 false 62 (.bool true) rfl rfl rfl (by simp) (by intro k hk; cases hk; rfl)
        case c23 => exact skips 20 false 62 (.bool true) rfl rfl rfl (by simp) (by intro k hk; cases hk; rfl)
        case c24 => exact skips 20 false 62 (.bool true) rfl rfl rfl (by simp) (by intro k hk; cases hk; rfl)
        case c25 => exact runs (ask_pick (guard_none rfl) (.tmp 62) (.const (.bool true)) (.tmp 66) true rfl rfl (by intro k hk; cases hk; rfl))
        case c26 => exact runs (ask_copy (guard_none rfl) (.tmp 67) (.inl rfl) (by intro k hk; cases hk; rfl))
        case c27 => exact skips 26 false 68 (.bool true) rfl rfl rfl (by simp) (by intro k hk; cases hk; rfl)
        case c28 => exact skips 26 false 68 (.bool true) rfl rfl rfl (by simp) (by intro k hk; cases hk; rfl)
        case c29 => exact skips 26 false 68 (.bool true) rfl rfl rfl (by simp) (by intro k hk; cases hk; rfl)
        case c30 => exact skips 26 false 68 (.bool true) rfl rfl rfl (by simp) (by intro k hk; cases hk; rfl)
        case c31 => exact runs (ask_pick (guard_none rfl) (.tmp 68) (.const (.bool true)) (.tmp 72) true rfl rfl (by intro k hk; cases hk; rfl))
      · intro a' W hW hd' hs' hf'
        have t1 : a'.tmps.getD 1 undef = .pointer (some ⟨w.heap.size, 0, none⟩) := hf' 1 rfl
        have t73 : a'.tmps.getD 73 undef = .bool true := hf' 73 rfl
        obtain ⟨us', hus, ha'⟩ := act_open 96 a' hs' hd'
        rw [← hus] at t1 t73
        have el : ((List.range 96).map us').toArray = #[us' 0, .pointer (some ⟨w.heap.size, 0, none⟩), us' 2, us' 3, us' 4, us' 5, us' 6, us' 7, us' 8, us' 9, us' 10, us' 11, us' 12, us' 13, us' 14, us' 15, us' 16, us' 17, us' 18, us' 19, us' 20, us' 21, us' 22, us' 23, us' 24, us' 25, us' 26, us' 27, us' 28, us' 29, us' 30, us' 31, us' 32, us' 33, us' 34, us' 35, us' 36, us' 37, us' 38, us' 39, us' 40, us' 41, us' 42, us' 43, us' 44, us' 45, us' 46, us' 47, us' 48, us' 49, us' 50, us' 51, us' 52, us' 53, us' 54, us' 55, us' 56, us' 57, us' 58, us' 59, us' 60, us' 61, us' 62, us' 63, us' 64, us' 65, us' 66, us' 67, us' 68, us' 69, us' 70, us' 71, us' 72, .bool true, us' 74, us' 75, us' 76, us' 77, us' 78, us' 79, us' 80, us' 81, us' 82, us' 83, us' 84, us' 85, us' 86, us' 87, us' 88, us' 89, us' 90, us' 91, us' 92, us' 93, us' 94, us' 95] := by
          show #[us' 0, us' 1, us' 2, us' 3, us' 4, us' 5, us' 6, us' 7, us' 8, us' 9, us' 10, us' 11, us' 12, us' 13, us' 14, us' 15, us' 16, us' 17, us' 18, us' 19, us' 20, us' 21, us' 22, us' 23, us' 24, us' 25, us' 26, us' 27, us' 28, us' 29, us' 30, us' 31, us' 32, us' 33, us' 34, us' 35, us' 36, us' 37, us' 38, us' 39, us' 40, us' 41, us' 42, us' 43, us' 44, us' 45, us' 46, us' 47, us' 48, us' 49, us' 50, us' 51, us' 52, us' 53, us' 54, us' 55, us' 56, us' 57, us' 58, us' 59, us' 60, us' 61, us' 62, us' 63, us' 64, us' 65, us' 66, us' 67, us' 68, us' 69, us' 70, us' 71, us' 72, us' 73, us' 74, us' 75, us' 76, us' 77, us' 78, us' 79, us' 80, us' 81, us' 82, us' 83, us' 84, us' 85, us' 86, us' 87, us' 88, us' 89, us' 90, us' 91, us' 92, us' 93, us' 94, us' 95] = _
          rw [t1, t73]
        rw [el] at ha'
        subst ha'
        clear hus t1 t73 el hf' hs' hd'
        go_wp2
        go_ret
        exact ⟨by rw [HR.out]; rfl, HB.out.trans (hW.mono HB.out.size)⟩
    have HC := Lib.hid (show decide ((4611686018427387904 : Int) < (c : Int)) = false from decide_eq_false (by omega))
    by_cases hE : 4 < na
    · have HE := Lib.hid (show decide ((4 : Int) < (na : Int)) = true from decide_eq_true (by omega))
      have hr : formedM (⟨k, f, o, t, i, l, c, s, y, e, ms, g⟩ : Mg) = false := formedM_rest (by rw [Bool.eq_false_iff]; intro h; simp only [restOk, MsgMath.MT, Bool.and_eq_true, decide_eq_true_eq] at h; have h1 := HEL.out; have h2 := HNA.out; omega)
      have HR := Lib.hid (HF.out.trans hr)
      clear hr
      refine region_skip [(42, .is (.agg #[.int .i64 k, .int .u64 (f : Int), .int .u64 (o : Int), .int .u64 (t : Int), .int .u64 (i : Int), .int .u64 (l : Int), .int .u64 (c : Int), .int .u64 (s : Int), .bool y, .slice a na ca, .slice b nb cb, .slice d nd cd])), (43, .is (.agg #[.int .i64 k, .int .u64 (f : Int), .int .u64 (o : Int), .int .u64 (t : Int), .int .u64 (i : Int), .int .u64 (l : Int), .int .u64 (c : Int), .int .u64 (s : Int), .bool y, .slice a na ca, .slice b nb cb, .slice d nd cd])), (44, bareF (⟨k, f, o, t, i, l, c, s, y, e, ms, g⟩ : Mg)), (45, .is (.bool true)), (46, .is (.bool false)), (47, .is (.bool false)), (48, .is (.pointer (some ⟨w.heap.size, 4, none⟩))), (49, .is (.int .u64 (i : Int))), (50, .is (.bool false)), (51, .is (.bool false)), (52, .is (.bool false)), (53, .is (.pointer (some ⟨w.heap.size, 5, none⟩))), (54, .is (.int .u64 (l : Int))), (55, .is (.bool false)), (56, .is (.bool false)), (57, .is (.bool false)), (58, .is (.pointer (some ⟨w.heap.size, 6, none⟩))), (59, .is (.int .u64 (c : Int))), (60, .is (.bool false)), (61, .is (.bool false)), (62, .is (.bool false)), (63, .is (.pointer (some ⟨w.heap.size, 9, none⟩))), (64, .is (.slice a na ca)), (65, .is (.int .i64 (na : Int))), (66, .is (.bool true)), (67, .is (.bool true)), (68, .is (.bool true)), (69, .is undef), (70, .is undef), (71, .is undef), (72, .is undef), (73, .is (.bool true))] [1, 73] (fun W => Below w1.heap.size w1 W) (by kernel_rfl) (by kernel_rfl) (by kernel_rfl) (by kernel_rfl) (by kernel_rfl) ((Below.refl _ _).drew) ?_ ?_
      · refine ⟨?c0, ?c1, ?c2, ?c3, ?c4, ?c5, ?c6, ?c7, ?c8, ?c9, ?c10, ?c11, ?c12, ?c13, ?c14, ?c15, ?c16, ?c17, ?c18, ?c19, ?c20, ?c21, ?c22, ?c23, ?c24, ?c25, ?c26, ?c27, ?c28, ?c29, ?c30, ?c31, trivial⟩
        case c0 => exact runs (ask_load (guard_none rfl) _ (.tmp 1) (.pointer (some ⟨w.heap.size, 0, none⟩)) (.agg #[.int .i64 k, .int .u64 (f : Int), .int .u64 (o : Int), .int .u64 (t : Int), .int .u64 (i : Int), .int .u64 (l : Int), .int .u64 (c : Int), .int .u64 (s : Int), .bool y, .slice a na ca, .slice b nb cb, .slice d nd cd]) rfl rfl (by intro k hk; cases hk; rfl) (fun W hW => (K1.out.keep hW).loads 36 _ Try.underlying36 rfl rfl))
        case c1 => exact runs (ask_load (guard_none rfl) _ (.tmp 1) (.pointer (some ⟨w.heap.size, 0, none⟩)) (.agg #[.int .i64 k, .int .u64 (f : Int), .int .u64 (o : Int), .int .u64 (t : Int), .int .u64 (i : Int), .int .u64 (l : Int), .int .u64 (c : Int), .int .u64 (s : Int), .bool y, .slice a na ca, .slice b nb cb, .slice d nd cd]) rfl rfl (by intro k hk; cases hk; rfl) (fun W hW => (K1.out.keep hW).loads 36 _ Try.underlying36 rfl rfl))
        case c2 => exact runs (ask_call hG (guard_none rfl) _ _ _ #[.agg #[.int .i64 k, .int .u64 (f : Int), .int .u64 (o : Int), .int .u64 (t : Int), .int .u64 (i : Int), .int .u64 (l : Int), .int .u64 (c : Int), .int .u64 (s : Int), .bool y, .slice a na ca, .slice b nb cb, .slice d nd cd]] (bareF (⟨k, f, o, t, i, l, c, s, y, e, ms, g⟩ : Mg)) rfl (by kernel_rfl) rfl rfl (by intro k hk; cases hk; rfl) (fun W hW => (HBare.out W hW).mono fun e w' h => by obtain ⟨ve', vm', vg', us', h1, h2, h3⟩ := h; exact ⟨_, h1, ⟨ve', vm', vg', us', rfl, h2⟩, h3⟩))
        case c3 => exact runs (ask_call_by hG (guard_none rfl) _ _ _ (.is (.bool true)) rfl (by kernel_rfl) (by intro k hk; cases hk; rfl) (fun x W hW ht => by have e1 : evalBy x (.tmp 42) = (.agg #[.int .i64 k, .int .u64 (f : Int), .int .u64 (o : Int), .int .u64 (t : Int), .int .u64 (i : Int), .int .u64 (l : Int), .int .u64 (c : Int), .int .u64 (s : Int), .bool y, .slice a na ca, .slice b nb cb, .slice d nd cd]) := told_op ht (.tmp 42) (by simp [Op.operands, Call.operands]); obtain ⟨ve', vm', vg', us', e2, h2⟩ : ∃ ve' vm' vg' us', evalBy x (.tmp 44) = .agg (mgC (MsgMath.bareM (⟨k, f, o, t, i, l, c, s, y, e, ms, g⟩ : Mg)) ve' vm' vg') ∧ MHas W (MsgMath.bareM (⟨k, f, o, t, i, l, c, s, y, e, ms, g⟩ : Mg)) ve' vm' vg' us' := told_op ht (.tmp 44) (by simp [Op.operands, Call.operands]); show Calls Try.prog 22 #[evalBy x (.tmp 42), evalBy x (.tmp 44)] W _; rw [e1, e2]; exact (HSame.out W hW ve' vm' vg' us' h2).mono fun e w' h => ⟨_, h.1, by rw [HD.out]; rfl, h.2⟩))
        case c4 => exact runs (ask_exec (guard_none rfl) (.bool false) rfl rfl (by intro k hk; cases hk; rfl) (fun W hW => by kernel_rfl))
        case c5 => exact runs (ask_copy (guard_none rfl) (.tmp 46) (.inl rfl) (by intro k hk; cases hk; rfl))
        case c6 => exact runs (ask_field (guard_some rfl rfl rfl) _ (.tmp 1) 4 (.pointer (some ⟨w.heap.size, 0, none⟩)) (.pointer (some ⟨w.heap.size, 4, none⟩)) rfl rfl (by intro k hk; cases hk; rfl) (fun W => by kernel_rfl))
        case c7 => exact runs (ask_load (guard_some rfl rfl rfl) _ (.tmp 48) (.pointer (some ⟨w.heap.size, 4, none⟩)) (.int .u64 (i : Int)) rfl rfl (by intro k hk; cases hk; rfl) (fun W hW => load_u64m W _ _ (by rw [hW.cell (p := ⟨w.heap.size, 4, none⟩) HLT.out]; exact C4.out)))
        case c8 => exact runs (ask_bin (guard_some rfl rfl rfl) .gtr _ _ (.tmp 49) (.const (.int .u64 4611686018427387904)) (.int .u64 (i : Int)) (.int .u64 4611686018427387904) (.bool false) rfl rfl rfl (by intro k hk; cases hk; rfl) (fun W => gtrM_u64 _ _ _ HI.out _ _ _ W))
        case c9 => exact runs (ask_pick (guard_none rfl) (.tmp 47) (.const (.bool true)) (.tmp 50) false rfl rfl (by intro k hk; cases hk; rfl))
        case c10 => exact runs (ask_copy (guard_none rfl) (.tmp 51) (.inl rfl) (by intro k hk; cases hk; rfl))
        case c11 => exact runs (ask_field (guard_some rfl rfl rfl) _ (.tmp 1) 5 (.pointer (some ⟨w.heap.size, 0, none⟩)) (.pointer (some ⟨w.heap.size, 5, none⟩)) rfl rfl (by intro k hk; cases hk; rfl) (fun W => by kernel_rfl))
        case c12 => exact runs (ask_load (guard_some rfl rfl rfl) _ (.tmp 53) (.pointer (some ⟨w.heap.size, 5, none⟩)) (.int .u64 (l : Int)) rfl rfl (by intro k hk; cases hk; rfl) (fun W hW => load_u64m W _ _ (by rw [hW.cell (p := ⟨w.heap.size, 5, none⟩) HLT.out]; exact C5.out)))
        case c13 => exact runs (ask_bin (guard_some rfl rfl rfl) .gtr _ _ (.tmp 54) (.const (.int .u64 4611686018427387904)) (.int .u64 (l : Int)) (.int .u64 4611686018427387904) (.bool false) rfl rfl rfl (by intro k hk; cases hk; rfl) (fun W => gtrM_u64 _ _ _ HL.out _ _ _ W))
        case c14 => exact runs (ask_pick (guard_none rfl) (.tmp 52) (.const (.bool true)) (.tmp 55) false rfl rfl (by intro k hk; cases hk; rfl))
        case c15 => exact runs (ask_copy (guard_none rfl) (.tmp 56) (.inl rfl) (by intro k hk; cases hk; rfl))
        case c16 => exact runs (ask_field (guard_some rfl rfl rfl) _ (.tmp 1) 6 (.pointer (some ⟨w.heap.size, 0, none⟩)) (.pointer (some ⟨w.heap.size, 6, none⟩)) rfl rfl (by intro k hk; cases hk; rfl) (fun W => by kernel_rfl))
        case c17 => exact runs (ask_load (guard_some rfl rfl rfl) _ (.tmp 58) (.pointer (some ⟨w.heap.size, 6, none⟩)) (.int .u64 (c : Int)) rfl rfl (by intro k hk; cases hk; rfl) (fun W hW => load_u64m W _ _ (by rw [hW.cell (p := ⟨w.heap.size, 6, none⟩) HLT.out]; exact C6.out)))
        case c18 => exact runs (ask_bin (guard_some rfl rfl rfl) .gtr _ _ (.tmp 59) (.const (.int .u64 4611686018427387904)) (.int .u64 (c : Int)) (.int .u64 4611686018427387904) (.bool false) rfl rfl rfl (by intro k hk; cases hk; rfl) (fun W => gtrM_u64 _ _ _ HC.out _ _ _ W))
        case c19 => exact runs (ask_pick (guard_none rfl) (.tmp 57) (.const (.bool true)) (.tmp 60) false rfl rfl (by intro k hk; cases hk; rfl))
        case c20 => exact runs (ask_copy (guard_none rfl) (.tmp 61) (.inl rfl) (by intro k hk; cases hk; rfl))
        case c21 => exact runs (ask_field (guard_some rfl rfl rfl) _ (.tmp 1) 9 (.pointer (some ⟨w.heap.size, 0, none⟩)) (.pointer (some ⟨w.heap.size, 9, none⟩)) rfl rfl (by intro k hk; cases hk; rfl) (fun W => by kernel_rfl))
        case c22 => exact runs (ask_load (guard_some rfl rfl rfl) _ (.tmp 63) (.pointer (some ⟨w.heap.size, 9, none⟩)) (.slice a na ca) rfl rfl (by intro k hk; cases hk; rfl) (fun W hW => load_esm W _ _ (by rw [hW.cell (p := ⟨w.heap.size, 9, none⟩) HLT.out]; exact C9.out)))
        case c23 => exact runs (ask_len (guard_some rfl rfl rfl) (.tmp 64) _ a na ca rfl (by kernel_rfl) rfl (by intro k hk; cases hk; rfl))
        case c24 => exact runs (ask_bin (guard_some rfl rfl rfl) .gtr _ _ (.tmp 65) (.const (.int .i64 4)) (.int .i64 (na : Int)) (.int .i64 4) (.bool true) rfl rfl rfl (by intro k hk; cases hk; rfl) (fun W => gtrM_i64 _ _ _ HE.out _ _ _ W))
        case c25 => exact runs (ask_pick (guard_none rfl) (.tmp 62) (.const (.bool true)) (.tmp 66) false rfl rfl (by intro k hk; cases hk; rfl))
        case c26 => exact runs (ask_copy (guard_none rfl) (.tmp 67) (.inl rfl) (by intro k hk; cases hk; rfl))
        case c27 => exact skips 26 false 68 (.bool true) rfl rfl rfl (by simp) (by intro k hk; cases hk; rfl)
        case c28 => exact skips 26 false 68 (.bool true) rfl rfl rfl (by simp) (by intro k hk; cases hk; rfl)
        case c29 => exact skips 26 false 68 (.bool true) rfl rfl rfl (by simp) (by intro k hk; cases hk; rfl)
        case c30 => exact skips 26 false 68 (.bool true) rfl rfl rfl (by simp) (by intro k hk; cases hk; rfl)
        case c31 => exact runs (ask_pick (guard_none rfl) (.tmp 68) (.const (.bool true)) (.tmp 72) true rfl rfl (by intro k hk; cases hk; rfl))
      · intro a' W hW hd' hs' hf'
        have t1 : a'.tmps.getD 1 undef = .pointer (some ⟨w.heap.size, 0, none⟩) := hf' 1 rfl
        have t73 : a'.tmps.getD 73 undef = .bool true := hf' 73 rfl
        obtain ⟨us', hus, ha'⟩ := act_open 96 a' hs' hd'
        rw [← hus] at t1 t73
        have el : ((List.range 96).map us').toArray = #[us' 0, .pointer (some ⟨w.heap.size, 0, none⟩), us' 2, us' 3, us' 4, us' 5, us' 6, us' 7, us' 8, us' 9, us' 10, us' 11, us' 12, us' 13, us' 14, us' 15, us' 16, us' 17, us' 18, us' 19, us' 20, us' 21, us' 22, us' 23, us' 24, us' 25, us' 26, us' 27, us' 28, us' 29, us' 30, us' 31, us' 32, us' 33, us' 34, us' 35, us' 36, us' 37, us' 38, us' 39, us' 40, us' 41, us' 42, us' 43, us' 44, us' 45, us' 46, us' 47, us' 48, us' 49, us' 50, us' 51, us' 52, us' 53, us' 54, us' 55, us' 56, us' 57, us' 58, us' 59, us' 60, us' 61, us' 62, us' 63, us' 64, us' 65, us' 66, us' 67, us' 68, us' 69, us' 70, us' 71, us' 72, .bool true, us' 74, us' 75, us' 76, us' 77, us' 78, us' 79, us' 80, us' 81, us' 82, us' 83, us' 84, us' 85, us' 86, us' 87, us' 88, us' 89, us' 90, us' 91, us' 92, us' 93, us' 94, us' 95] := by
          show #[us' 0, us' 1, us' 2, us' 3, us' 4, us' 5, us' 6, us' 7, us' 8, us' 9, us' 10, us' 11, us' 12, us' 13, us' 14, us' 15, us' 16, us' 17, us' 18, us' 19, us' 20, us' 21, us' 22, us' 23, us' 24, us' 25, us' 26, us' 27, us' 28, us' 29, us' 30, us' 31, us' 32, us' 33, us' 34, us' 35, us' 36, us' 37, us' 38, us' 39, us' 40, us' 41, us' 42, us' 43, us' 44, us' 45, us' 46, us' 47, us' 48, us' 49, us' 50, us' 51, us' 52, us' 53, us' 54, us' 55, us' 56, us' 57, us' 58, us' 59, us' 60, us' 61, us' 62, us' 63, us' 64, us' 65, us' 66, us' 67, us' 68, us' 69, us' 70, us' 71, us' 72, us' 73, us' 74, us' 75, us' 76, us' 77, us' 78, us' 79, us' 80, us' 81, us' 82, us' 83, us' 84, us' 85, us' 86, us' 87, us' 88, us' 89, us' 90, us' 91, us' 92, us' 93, us' 94, us' 95] = _
          rw [t1, t73]
        rw [el] at ha'
        subst ha'
        clear hus t1 t73 el hf' hs' hd'
        go_wp2
        go_ret
        exact ⟨by rw [HR.out]; rfl, HB.out.trans (hW.mono HB.out.size)⟩
    have HE := Lib.hid (show decide ((4 : Int) < (na : Int)) = false from decide_eq_false (by omega))
    by_cases hZ : 16384 < nd
    · have HZ := Lib.hid (show decide ((16384 : Int) < (nd : Int)) = true from decide_eq_true (by omega))
      have hr : formedM (⟨k, f, o, t, i, l, c, s, y, e, ms, g⟩ : Mg) = false := formedM_rest (by rw [Bool.eq_false_iff]; intro h; simp only [restOk, MsgMath.MT, Bool.and_eq_true, decide_eq_true_eq] at h; have h2 := HND.out; omega)
      have HR := Lib.hid (HF.out.trans hr)
      clear hr
      refine region_skip [(42, .is (.agg #[.int .i64 k, .int .u64 (f : Int), .int .u64 (o : Int), .int .u64 (t : Int), .int .u64 (i : Int), .int .u64 (l : Int), .int .u64 (c : Int), .int .u64 (s : Int), .bool y, .slice a na ca, .slice b nb cb, .slice d nd cd])), (43, .is (.agg #[.int .i64 k, .int .u64 (f : Int), .int .u64 (o : Int), .int .u64 (t : Int), .int .u64 (i : Int), .int .u64 (l : Int), .int .u64 (c : Int), .int .u64 (s : Int), .bool y, .slice a na ca, .slice b nb cb, .slice d nd cd])), (44, bareF (⟨k, f, o, t, i, l, c, s, y, e, ms, g⟩ : Mg)), (45, .is (.bool true)), (46, .is (.bool false)), (47, .is (.bool false)), (48, .is (.pointer (some ⟨w.heap.size, 4, none⟩))), (49, .is (.int .u64 (i : Int))), (50, .is (.bool false)), (51, .is (.bool false)), (52, .is (.bool false)), (53, .is (.pointer (some ⟨w.heap.size, 5, none⟩))), (54, .is (.int .u64 (l : Int))), (55, .is (.bool false)), (56, .is (.bool false)), (57, .is (.bool false)), (58, .is (.pointer (some ⟨w.heap.size, 6, none⟩))), (59, .is (.int .u64 (c : Int))), (60, .is (.bool false)), (61, .is (.bool false)), (62, .is (.bool false)), (63, .is (.pointer (some ⟨w.heap.size, 9, none⟩))), (64, .is (.slice a na ca)), (65, .is (.int .i64 (na : Int))), (66, .is (.bool false)), (67, .is (.bool false)), (68, .is (.bool false)), (69, .is (.pointer (some ⟨w.heap.size, 11, none⟩))), (70, .is (.slice d nd cd)), (71, .is (.int .i64 (nd : Int))), (72, .is (.bool true)), (73, .is (.bool true))] [1, 73] (fun W => Below w1.heap.size w1 W) (by kernel_rfl) (by kernel_rfl) (by kernel_rfl) (by kernel_rfl) (by kernel_rfl) ((Below.refl _ _).drew) ?_ ?_
      · refine ⟨?c0, ?c1, ?c2, ?c3, ?c4, ?c5, ?c6, ?c7, ?c8, ?c9, ?c10, ?c11, ?c12, ?c13, ?c14, ?c15, ?c16, ?c17, ?c18, ?c19, ?c20, ?c21, ?c22, ?c23, ?c24, ?c25, ?c26, ?c27, ?c28, ?c29, ?c30, ?c31, trivial⟩
        case c0 => exact runs (ask_load (guard_none rfl) _ (.tmp 1) (.pointer (some ⟨w.heap.size, 0, none⟩)) (.agg #[.int .i64 k, .int .u64 (f : Int), .int .u64 (o : Int), .int .u64 (t : Int), .int .u64 (i : Int), .int .u64 (l : Int), .int .u64 (c : Int), .int .u64 (s : Int), .bool y, .slice a na ca, .slice b nb cb, .slice d nd cd]) rfl rfl (by intro k hk; cases hk; rfl) (fun W hW => (K1.out.keep hW).loads 36 _ Try.underlying36 rfl rfl))
        case c1 => exact runs (ask_load (guard_none rfl) _ (.tmp 1) (.pointer (some ⟨w.heap.size, 0, none⟩)) (.agg #[.int .i64 k, .int .u64 (f : Int), .int .u64 (o : Int), .int .u64 (t : Int), .int .u64 (i : Int), .int .u64 (l : Int), .int .u64 (c : Int), .int .u64 (s : Int), .bool y, .slice a na ca, .slice b nb cb, .slice d nd cd]) rfl rfl (by intro k hk; cases hk; rfl) (fun W hW => (K1.out.keep hW).loads 36 _ Try.underlying36 rfl rfl))
        case c2 => exact runs (ask_call hG (guard_none rfl) _ _ _ #[.agg #[.int .i64 k, .int .u64 (f : Int), .int .u64 (o : Int), .int .u64 (t : Int), .int .u64 (i : Int), .int .u64 (l : Int), .int .u64 (c : Int), .int .u64 (s : Int), .bool y, .slice a na ca, .slice b nb cb, .slice d nd cd]] (bareF (⟨k, f, o, t, i, l, c, s, y, e, ms, g⟩ : Mg)) rfl (by kernel_rfl) rfl rfl (by intro k hk; cases hk; rfl) (fun W hW => (HBare.out W hW).mono fun e w' h => by obtain ⟨ve', vm', vg', us', h1, h2, h3⟩ := h; exact ⟨_, h1, ⟨ve', vm', vg', us', rfl, h2⟩, h3⟩))
        case c3 => exact runs (ask_call_by hG (guard_none rfl) _ _ _ (.is (.bool true)) rfl (by kernel_rfl) (by intro k hk; cases hk; rfl) (fun x W hW ht => by have e1 : evalBy x (.tmp 42) = (.agg #[.int .i64 k, .int .u64 (f : Int), .int .u64 (o : Int), .int .u64 (t : Int), .int .u64 (i : Int), .int .u64 (l : Int), .int .u64 (c : Int), .int .u64 (s : Int), .bool y, .slice a na ca, .slice b nb cb, .slice d nd cd]) := told_op ht (.tmp 42) (by simp [Op.operands, Call.operands]); obtain ⟨ve', vm', vg', us', e2, h2⟩ : ∃ ve' vm' vg' us', evalBy x (.tmp 44) = .agg (mgC (MsgMath.bareM (⟨k, f, o, t, i, l, c, s, y, e, ms, g⟩ : Mg)) ve' vm' vg') ∧ MHas W (MsgMath.bareM (⟨k, f, o, t, i, l, c, s, y, e, ms, g⟩ : Mg)) ve' vm' vg' us' := told_op ht (.tmp 44) (by simp [Op.operands, Call.operands]); show Calls Try.prog 22 #[evalBy x (.tmp 42), evalBy x (.tmp 44)] W _; rw [e1, e2]; exact (HSame.out W hW ve' vm' vg' us' h2).mono fun e w' h => ⟨_, h.1, by rw [HD.out]; rfl, h.2⟩))
        case c4 => exact runs (ask_exec (guard_none rfl) (.bool false) rfl rfl (by intro k hk; cases hk; rfl) (fun W hW => by kernel_rfl))
        case c5 => exact runs (ask_copy (guard_none rfl) (.tmp 46) (.inl rfl) (by intro k hk; cases hk; rfl))
        case c6 => exact runs (ask_field (guard_some rfl rfl rfl) _ (.tmp 1) 4 (.pointer (some ⟨w.heap.size, 0, none⟩)) (.pointer (some ⟨w.heap.size, 4, none⟩)) rfl rfl (by intro k hk; cases hk; rfl) (fun W => by kernel_rfl))
        case c7 => exact runs (ask_load (guard_some rfl rfl rfl) _ (.tmp 48) (.pointer (some ⟨w.heap.size, 4, none⟩)) (.int .u64 (i : Int)) rfl rfl (by intro k hk; cases hk; rfl) (fun W hW => load_u64m W _ _ (by rw [hW.cell (p := ⟨w.heap.size, 4, none⟩) HLT.out]; exact C4.out)))
        case c8 => exact runs (ask_bin (guard_some rfl rfl rfl) .gtr _ _ (.tmp 49) (.const (.int .u64 4611686018427387904)) (.int .u64 (i : Int)) (.int .u64 4611686018427387904) (.bool false) rfl rfl rfl (by intro k hk; cases hk; rfl) (fun W => gtrM_u64 _ _ _ HI.out _ _ _ W))
        case c9 => exact runs (ask_pick (guard_none rfl) (.tmp 47) (.const (.bool true)) (.tmp 50) false rfl rfl (by intro k hk; cases hk; rfl))
        case c10 => exact runs (ask_copy (guard_none rfl) (.tmp 51) (.inl rfl) (by intro k hk; cases hk; rfl))
        case c11 => exact runs (ask_field (guard_some rfl rfl rfl) _ (.tmp 1) 5 (.pointer (some ⟨w.heap.size, 0, none⟩)) (.pointer (some ⟨w.heap.size, 5, none⟩)) rfl rfl (by intro k hk; cases hk; rfl) (fun W => by kernel_rfl))
        case c12 => exact runs (ask_load (guard_some rfl rfl rfl) _ (.tmp 53) (.pointer (some ⟨w.heap.size, 5, none⟩)) (.int .u64 (l : Int)) rfl rfl (by intro k hk; cases hk; rfl) (fun W hW => load_u64m W _ _ (by rw [hW.cell (p := ⟨w.heap.size, 5, none⟩) HLT.out]; exact C5.out)))
        case c13 => exact runs (ask_bin (guard_some rfl rfl rfl) .gtr _ _ (.tmp 54) (.const (.int .u64 4611686018427387904)) (.int .u64 (l : Int)) (.int .u64 4611686018427387904) (.bool false) rfl rfl rfl (by intro k hk; cases hk; rfl) (fun W => gtrM_u64 _ _ _ HL.out _ _ _ W))
        case c14 => exact runs (ask_pick (guard_none rfl) (.tmp 52) (.const (.bool true)) (.tmp 55) false rfl rfl (by intro k hk; cases hk; rfl))
        case c15 => exact runs (ask_copy (guard_none rfl) (.tmp 56) (.inl rfl) (by intro k hk; cases hk; rfl))
        case c16 => exact runs (ask_field (guard_some rfl rfl rfl) _ (.tmp 1) 6 (.pointer (some ⟨w.heap.size, 0, none⟩)) (.pointer (some ⟨w.heap.size, 6, none⟩)) rfl rfl (by intro k hk; cases hk; rfl) (fun W => by kernel_rfl))
        case c17 => exact runs (ask_load (guard_some rfl rfl rfl) _ (.tmp 58) (.pointer (some ⟨w.heap.size, 6, none⟩)) (.int .u64 (c : Int)) rfl rfl (by intro k hk; cases hk; rfl) (fun W hW => load_u64m W _ _ (by rw [hW.cell (p := ⟨w.heap.size, 6, none⟩) HLT.out]; exact C6.out)))
        case c18 => exact runs (ask_bin (guard_some rfl rfl rfl) .gtr _ _ (.tmp 59) (.const (.int .u64 4611686018427387904)) (.int .u64 (c : Int)) (.int .u64 4611686018427387904) (.bool false) rfl rfl rfl (by intro k hk; cases hk; rfl) (fun W => gtrM_u64 _ _ _ HC.out _ _ _ W))
        case c19 => exact runs (ask_pick (guard_none rfl) (.tmp 57) (.const (.bool true)) (.tmp 60) false rfl rfl (by intro k hk; cases hk; rfl))
        case c20 => exact runs (ask_copy (guard_none rfl) (.tmp 61) (.inl rfl) (by intro k hk; cases hk; rfl))
        case c21 => exact runs (ask_field (guard_some rfl rfl rfl) _ (.tmp 1) 9 (.pointer (some ⟨w.heap.size, 0, none⟩)) (.pointer (some ⟨w.heap.size, 9, none⟩)) rfl rfl (by intro k hk; cases hk; rfl) (fun W => by kernel_rfl))
        case c22 => exact runs (ask_load (guard_some rfl rfl rfl) _ (.tmp 63) (.pointer (some ⟨w.heap.size, 9, none⟩)) (.slice a na ca) rfl rfl (by intro k hk; cases hk; rfl) (fun W hW => load_esm W _ _ (by rw [hW.cell (p := ⟨w.heap.size, 9, none⟩) HLT.out]; exact C9.out)))
        case c23 => exact runs (ask_len (guard_some rfl rfl rfl) (.tmp 64) _ a na ca rfl (by kernel_rfl) rfl (by intro k hk; cases hk; rfl))
        case c24 => exact runs (ask_bin (guard_some rfl rfl rfl) .gtr _ _ (.tmp 65) (.const (.int .i64 4)) (.int .i64 (na : Int)) (.int .i64 4) (.bool false) rfl rfl rfl (by intro k hk; cases hk; rfl) (fun W => gtrM_i64 _ _ _ HE.out _ _ _ W))
        case c25 => exact runs (ask_pick (guard_none rfl) (.tmp 62) (.const (.bool true)) (.tmp 66) false rfl rfl (by intro k hk; cases hk; rfl))
        case c26 => exact runs (ask_copy (guard_none rfl) (.tmp 67) (.inl rfl) (by intro k hk; cases hk; rfl))
        case c27 => exact runs (ask_field (guard_some rfl rfl rfl) _ (.tmp 1) 11 (.pointer (some ⟨w.heap.size, 0, none⟩)) (.pointer (some ⟨w.heap.size, 11, none⟩)) rfl rfl (by intro k hk; cases hk; rfl) (fun W => by kernel_rfl))
        case c28 => exact runs (ask_load (guard_some rfl rfl rfl) _ (.tmp 69) (.pointer (some ⟨w.heap.size, 11, none⟩)) (.slice d nd cd) rfl rfl (by intro k hk; cases hk; rfl) (fun W hW => load_bsm W _ _ (by rw [hW.cell (p := ⟨w.heap.size, 11, none⟩) HLT.out]; exact C11.out)))
        case c29 => exact runs (ask_len (guard_some rfl rfl rfl) (.tmp 70) _ d nd cd rfl (by kernel_rfl) rfl (by intro k hk; cases hk; rfl))
        case c30 => exact runs (ask_bin (guard_some rfl rfl rfl) .gtr _ _ (.tmp 71) (.const (.int .i64 16384)) (.int .i64 (nd : Int)) (.int .i64 16384) (.bool true) rfl rfl rfl (by intro k hk; cases hk; rfl) (fun W => gtrM_i64 _ _ _ HZ.out _ _ _ W))
        case c31 => exact runs (ask_pick (guard_none rfl) (.tmp 68) (.const (.bool true)) (.tmp 72) false rfl rfl (by intro k hk; cases hk; rfl))
      · intro a' W hW hd' hs' hf'
        have t1 : a'.tmps.getD 1 undef = .pointer (some ⟨w.heap.size, 0, none⟩) := hf' 1 rfl
        have t73 : a'.tmps.getD 73 undef = .bool true := hf' 73 rfl
        obtain ⟨us', hus, ha'⟩ := act_open 96 a' hs' hd'
        rw [← hus] at t1 t73
        have el : ((List.range 96).map us').toArray = #[us' 0, .pointer (some ⟨w.heap.size, 0, none⟩), us' 2, us' 3, us' 4, us' 5, us' 6, us' 7, us' 8, us' 9, us' 10, us' 11, us' 12, us' 13, us' 14, us' 15, us' 16, us' 17, us' 18, us' 19, us' 20, us' 21, us' 22, us' 23, us' 24, us' 25, us' 26, us' 27, us' 28, us' 29, us' 30, us' 31, us' 32, us' 33, us' 34, us' 35, us' 36, us' 37, us' 38, us' 39, us' 40, us' 41, us' 42, us' 43, us' 44, us' 45, us' 46, us' 47, us' 48, us' 49, us' 50, us' 51, us' 52, us' 53, us' 54, us' 55, us' 56, us' 57, us' 58, us' 59, us' 60, us' 61, us' 62, us' 63, us' 64, us' 65, us' 66, us' 67, us' 68, us' 69, us' 70, us' 71, us' 72, .bool true, us' 74, us' 75, us' 76, us' 77, us' 78, us' 79, us' 80, us' 81, us' 82, us' 83, us' 84, us' 85, us' 86, us' 87, us' 88, us' 89, us' 90, us' 91, us' 92, us' 93, us' 94, us' 95] := by
          show #[us' 0, us' 1, us' 2, us' 3, us' 4, us' 5, us' 6, us' 7, us' 8, us' 9, us' 10, us' 11, us' 12, us' 13, us' 14, us' 15, us' 16, us' 17, us' 18, us' 19, us' 20, us' 21, us' 22, us' 23, us' 24, us' 25, us' 26, us' 27, us' 28, us' 29, us' 30, us' 31, us' 32, us' 33, us' 34, us' 35, us' 36, us' 37, us' 38, us' 39, us' 40, us' 41, us' 42, us' 43, us' 44, us' 45, us' 46, us' 47, us' 48, us' 49, us' 50, us' 51, us' 52, us' 53, us' 54, us' 55, us' 56, us' 57, us' 58, us' 59, us' 60, us' 61, us' 62, us' 63, us' 64, us' 65, us' 66, us' 67, us' 68, us' 69, us' 70, us' 71, us' 72, us' 73, us' 74, us' 75, us' 76, us' 77, us' 78, us' 79, us' 80, us' 81, us' 82, us' 83, us' 84, us' 85, us' 86, us' 87, us' 88, us' 89, us' 90, us' 91, us' 92, us' 93, us' 94, us' 95] = _
          rw [t1, t73]
        rw [el] at ha'
        subst ha'
        clear hus t1 t73 el hf' hs' hd'
        go_wp2
        go_ret
        exact ⟨by rw [HR.out]; rfl, HB.out.trans (hW.mono HB.out.size)⟩
    have HZ := Lib.hid (show decide ((16384 : Int) < (nd : Int)) = false from decide_eq_false (by omega))
    have HRest := Lib.hid (show restOk (⟨k, f, o, t, i, l, c, s, y, e, ms, g⟩ : Mg) = true by
      have h1 := HEL.out
      have h2 := HNA.out
      have h3 := HND.out
      simp only [restOk, MsgMath.MT, Bool.and_eq_true, decide_eq_true_eq]
      exact ⟨hS, ⟨by omega, by omega, by omega⟩, by omega, by omega⟩)
    have hna4 : na ≤ 4 := by omega
    clear hS hI hL hC hE hZ
    refine region_skip [(42, .is (.agg #[.int .i64 k, .int .u64 (f : Int), .int .u64 (o : Int), .int .u64 (t : Int), .int .u64 (i : Int), .int .u64 (l : Int), .int .u64 (c : Int), .int .u64 (s : Int), .bool y, .slice a na ca, .slice b nb cb, .slice d nd cd])), (43, .is (.agg #[.int .i64 k, .int .u64 (f : Int), .int .u64 (o : Int), .int .u64 (t : Int), .int .u64 (i : Int), .int .u64 (l : Int), .int .u64 (c : Int), .int .u64 (s : Int), .bool y, .slice a na ca, .slice b nb cb, .slice d nd cd])), (44, bareF (⟨k, f, o, t, i, l, c, s, y, e, ms, g⟩ : Mg)), (45, .is (.bool true)), (46, .is (.bool false)), (47, .is (.bool false)), (48, .is (.pointer (some ⟨w.heap.size, 4, none⟩))), (49, .is (.int .u64 (i : Int))), (50, .is (.bool false)), (51, .is (.bool false)), (52, .is (.bool false)), (53, .is (.pointer (some ⟨w.heap.size, 5, none⟩))), (54, .is (.int .u64 (l : Int))), (55, .is (.bool false)), (56, .is (.bool false)), (57, .is (.bool false)), (58, .is (.pointer (some ⟨w.heap.size, 6, none⟩))), (59, .is (.int .u64 (c : Int))), (60, .is (.bool false)), (61, .is (.bool false)), (62, .is (.bool false)), (63, .is (.pointer (some ⟨w.heap.size, 9, none⟩))), (64, .is (.slice a na ca)), (65, .is (.int .i64 (na : Int))), (66, .is (.bool false)), (67, .is (.bool false)), (68, .is (.bool false)), (69, .is (.pointer (some ⟨w.heap.size, 11, none⟩))), (70, .is (.slice d nd cd)), (71, .is (.int .i64 (nd : Int))), (72, .is (.bool false)), (73, .is (.bool false))] [1, 73] (fun W => Below w1.heap.size w1 W) (by kernel_rfl) (by kernel_rfl) (by kernel_rfl) (by kernel_rfl) (by kernel_rfl) ((Below.refl _ _).drew) ?_ ?_
    · refine ⟨?c0, ?c1, ?c2, ?c3, ?c4, ?c5, ?c6, ?c7, ?c8, ?c9, ?c10, ?c11, ?c12, ?c13, ?c14, ?c15, ?c16, ?c17, ?c18, ?c19, ?c20, ?c21, ?c22, ?c23, ?c24, ?c25, ?c26, ?c27, ?c28, ?c29, ?c30, ?c31, trivial⟩
      case c0 => exact runs (ask_load (guard_none rfl) _ (.tmp 1) (.pointer (some ⟨w.heap.size, 0, none⟩)) (.agg #[.int .i64 k, .int .u64 (f : Int), .int .u64 (o : Int), .int .u64 (t : Int), .int .u64 (i : Int), .int .u64 (l : Int), .int .u64 (c : Int), .int .u64 (s : Int), .bool y, .slice a na ca, .slice b nb cb, .slice d nd cd]) rfl rfl (by intro k hk; cases hk; rfl) (fun W hW => (K1.out.keep hW).loads 36 _ Try.underlying36 rfl rfl))
      case c1 => exact runs (ask_load (guard_none rfl) _ (.tmp 1) (.pointer (some ⟨w.heap.size, 0, none⟩)) (.agg #[.int .i64 k, .int .u64 (f : Int), .int .u64 (o : Int), .int .u64 (t : Int), .int .u64 (i : Int), .int .u64 (l : Int), .int .u64 (c : Int), .int .u64 (s : Int), .bool y, .slice a na ca, .slice b nb cb, .slice d nd cd]) rfl rfl (by intro k hk; cases hk; rfl) (fun W hW => (K1.out.keep hW).loads 36 _ Try.underlying36 rfl rfl))
      case c2 => exact runs (ask_call hG (guard_none rfl) _ _ _ #[.agg #[.int .i64 k, .int .u64 (f : Int), .int .u64 (o : Int), .int .u64 (t : Int), .int .u64 (i : Int), .int .u64 (l : Int), .int .u64 (c : Int), .int .u64 (s : Int), .bool y, .slice a na ca, .slice b nb cb, .slice d nd cd]] (bareF (⟨k, f, o, t, i, l, c, s, y, e, ms, g⟩ : Mg)) rfl (by kernel_rfl) rfl rfl (by intro k hk; cases hk; rfl) (fun W hW => (HBare.out W hW).mono fun e w' h => by obtain ⟨ve', vm', vg', us', h1, h2, h3⟩ := h; exact ⟨_, h1, ⟨ve', vm', vg', us', rfl, h2⟩, h3⟩))
      case c3 => exact runs (ask_call_by hG (guard_none rfl) _ _ _ (.is (.bool true)) rfl (by kernel_rfl) (by intro k hk; cases hk; rfl) (fun x W hW ht => by have e1 : evalBy x (.tmp 42) = (.agg #[.int .i64 k, .int .u64 (f : Int), .int .u64 (o : Int), .int .u64 (t : Int), .int .u64 (i : Int), .int .u64 (l : Int), .int .u64 (c : Int), .int .u64 (s : Int), .bool y, .slice a na ca, .slice b nb cb, .slice d nd cd]) := told_op ht (.tmp 42) (by simp [Op.operands, Call.operands]); obtain ⟨ve', vm', vg', us', e2, h2⟩ : ∃ ve' vm' vg' us', evalBy x (.tmp 44) = .agg (mgC (MsgMath.bareM (⟨k, f, o, t, i, l, c, s, y, e, ms, g⟩ : Mg)) ve' vm' vg') ∧ MHas W (MsgMath.bareM (⟨k, f, o, t, i, l, c, s, y, e, ms, g⟩ : Mg)) ve' vm' vg' us' := told_op ht (.tmp 44) (by simp [Op.operands, Call.operands]); show Calls Try.prog 22 #[evalBy x (.tmp 42), evalBy x (.tmp 44)] W _; rw [e1, e2]; exact (HSame.out W hW ve' vm' vg' us' h2).mono fun e w' h => ⟨_, h.1, by rw [HD.out]; rfl, h.2⟩))
      case c4 => exact runs (ask_exec (guard_none rfl) (.bool false) rfl rfl (by intro k hk; cases hk; rfl) (fun W hW => by kernel_rfl))
      case c5 => exact runs (ask_copy (guard_none rfl) (.tmp 46) (.inl rfl) (by intro k hk; cases hk; rfl))
      case c6 => exact runs (ask_field (guard_some rfl rfl rfl) _ (.tmp 1) 4 (.pointer (some ⟨w.heap.size, 0, none⟩)) (.pointer (some ⟨w.heap.size, 4, none⟩)) rfl rfl (by intro k hk; cases hk; rfl) (fun W => by kernel_rfl))
      case c7 => exact runs (ask_load (guard_some rfl rfl rfl) _ (.tmp 48) (.pointer (some ⟨w.heap.size, 4, none⟩)) (.int .u64 (i : Int)) rfl rfl (by intro k hk; cases hk; rfl) (fun W hW => load_u64m W _ _ (by rw [hW.cell (p := ⟨w.heap.size, 4, none⟩) HLT.out]; exact C4.out)))
      case c8 => exact runs (ask_bin (guard_some rfl rfl rfl) .gtr _ _ (.tmp 49) (.const (.int .u64 4611686018427387904)) (.int .u64 (i : Int)) (.int .u64 4611686018427387904) (.bool false) rfl rfl rfl (by intro k hk; cases hk; rfl) (fun W => gtrM_u64 _ _ _ HI.out _ _ _ W))
      case c9 => exact runs (ask_pick (guard_none rfl) (.tmp 47) (.const (.bool true)) (.tmp 50) false rfl rfl (by intro k hk; cases hk; rfl))
      case c10 => exact runs (ask_copy (guard_none rfl) (.tmp 51) (.inl rfl) (by intro k hk; cases hk; rfl))
      case c11 => exact runs (ask_field (guard_some rfl rfl rfl) _ (.tmp 1) 5 (.pointer (some ⟨w.heap.size, 0, none⟩)) (.pointer (some ⟨w.heap.size, 5, none⟩)) rfl rfl (by intro k hk; cases hk; rfl) (fun W => by kernel_rfl))
      case c12 => exact runs (ask_load (guard_some rfl rfl rfl) _ (.tmp 53) (.pointer (some ⟨w.heap.size, 5, none⟩)) (.int .u64 (l : Int)) rfl rfl (by intro k hk; cases hk; rfl) (fun W hW => load_u64m W _ _ (by rw [hW.cell (p := ⟨w.heap.size, 5, none⟩) HLT.out]; exact C5.out)))
      case c13 => exact runs (ask_bin (guard_some rfl rfl rfl) .gtr _ _ (.tmp 54) (.const (.int .u64 4611686018427387904)) (.int .u64 (l : Int)) (.int .u64 4611686018427387904) (.bool false) rfl rfl rfl (by intro k hk; cases hk; rfl) (fun W => gtrM_u64 _ _ _ HL.out _ _ _ W))
      case c14 => exact runs (ask_pick (guard_none rfl) (.tmp 52) (.const (.bool true)) (.tmp 55) false rfl rfl (by intro k hk; cases hk; rfl))
      case c15 => exact runs (ask_copy (guard_none rfl) (.tmp 56) (.inl rfl) (by intro k hk; cases hk; rfl))
      case c16 => exact runs (ask_field (guard_some rfl rfl rfl) _ (.tmp 1) 6 (.pointer (some ⟨w.heap.size, 0, none⟩)) (.pointer (some ⟨w.heap.size, 6, none⟩)) rfl rfl (by intro k hk; cases hk; rfl) (fun W => by kernel_rfl))
      case c17 => exact runs (ask_load (guard_some rfl rfl rfl) _ (.tmp 58) (.pointer (some ⟨w.heap.size, 6, none⟩)) (.int .u64 (c : Int)) rfl rfl (by intro k hk; cases hk; rfl) (fun W hW => load_u64m W _ _ (by rw [hW.cell (p := ⟨w.heap.size, 6, none⟩) HLT.out]; exact C6.out)))
      case c18 => exact runs (ask_bin (guard_some rfl rfl rfl) .gtr _ _ (.tmp 59) (.const (.int .u64 4611686018427387904)) (.int .u64 (c : Int)) (.int .u64 4611686018427387904) (.bool false) rfl rfl rfl (by intro k hk; cases hk; rfl) (fun W => gtrM_u64 _ _ _ HC.out _ _ _ W))
      case c19 => exact runs (ask_pick (guard_none rfl) (.tmp 57) (.const (.bool true)) (.tmp 60) false rfl rfl (by intro k hk; cases hk; rfl))
      case c20 => exact runs (ask_copy (guard_none rfl) (.tmp 61) (.inl rfl) (by intro k hk; cases hk; rfl))
      case c21 => exact runs (ask_field (guard_some rfl rfl rfl) _ (.tmp 1) 9 (.pointer (some ⟨w.heap.size, 0, none⟩)) (.pointer (some ⟨w.heap.size, 9, none⟩)) rfl rfl (by intro k hk; cases hk; rfl) (fun W => by kernel_rfl))
      case c22 => exact runs (ask_load (guard_some rfl rfl rfl) _ (.tmp 63) (.pointer (some ⟨w.heap.size, 9, none⟩)) (.slice a na ca) rfl rfl (by intro k hk; cases hk; rfl) (fun W hW => load_esm W _ _ (by rw [hW.cell (p := ⟨w.heap.size, 9, none⟩) HLT.out]; exact C9.out)))
      case c23 => exact runs (ask_len (guard_some rfl rfl rfl) (.tmp 64) _ a na ca rfl (by kernel_rfl) rfl (by intro k hk; cases hk; rfl))
      case c24 => exact runs (ask_bin (guard_some rfl rfl rfl) .gtr _ _ (.tmp 65) (.const (.int .i64 4)) (.int .i64 (na : Int)) (.int .i64 4) (.bool false) rfl rfl rfl (by intro k hk; cases hk; rfl) (fun W => gtrM_i64 _ _ _ HE.out _ _ _ W))
      case c25 => exact runs (ask_pick (guard_none rfl) (.tmp 62) (.const (.bool true)) (.tmp 66) false rfl rfl (by intro k hk; cases hk; rfl))
      case c26 => exact runs (ask_copy (guard_none rfl) (.tmp 67) (.inl rfl) (by intro k hk; cases hk; rfl))
      case c27 => exact runs (ask_field (guard_some rfl rfl rfl) _ (.tmp 1) 11 (.pointer (some ⟨w.heap.size, 0, none⟩)) (.pointer (some ⟨w.heap.size, 11, none⟩)) rfl rfl (by intro k hk; cases hk; rfl) (fun W => by kernel_rfl))
      case c28 => exact runs (ask_load (guard_some rfl rfl rfl) _ (.tmp 69) (.pointer (some ⟨w.heap.size, 11, none⟩)) (.slice d nd cd) rfl rfl (by intro k hk; cases hk; rfl) (fun W hW => load_bsm W _ _ (by rw [hW.cell (p := ⟨w.heap.size, 11, none⟩) HLT.out]; exact C11.out)))
      case c29 => exact runs (ask_len (guard_some rfl rfl rfl) (.tmp 70) _ d nd cd rfl (by kernel_rfl) rfl (by intro k hk; cases hk; rfl))
      case c30 => exact runs (ask_bin (guard_some rfl rfl rfl) .gtr _ _ (.tmp 71) (.const (.int .i64 16384)) (.int .i64 (nd : Int)) (.int .i64 16384) (.bool false) rfl rfl rfl (by intro k hk; cases hk; rfl) (fun W => gtrM_i64 _ _ _ HZ.out _ _ _ W))
      case c31 => exact runs (ask_pick (guard_none rfl) (.tmp 68) (.const (.bool true)) (.tmp 72) false rfl rfl (by intro k hk; cases hk; rfl))
    · intro a' W hW hd' hs' hf'
      have t1 : a'.tmps.getD 1 undef = .pointer (some ⟨w.heap.size, 0, none⟩) := hf' 1 rfl
      have t73 : a'.tmps.getD 73 undef = .bool false := hf' 73 rfl
      obtain ⟨us', hus, ha'⟩ := act_open 96 a' hs' hd'
      rw [← hus] at t1 t73
      have el : ((List.range 96).map us').toArray = #[us' 0, .pointer (some ⟨w.heap.size, 0, none⟩), us' 2, us' 3, us' 4, us' 5, us' 6, us' 7, us' 8, us' 9, us' 10, us' 11, us' 12, us' 13, us' 14, us' 15, us' 16, us' 17, us' 18, us' 19, us' 20, us' 21, us' 22, us' 23, us' 24, us' 25, us' 26, us' 27, us' 28, us' 29, us' 30, us' 31, us' 32, us' 33, us' 34, us' 35, us' 36, us' 37, us' 38, us' 39, us' 40, us' 41, us' 42, us' 43, us' 44, us' 45, us' 46, us' 47, us' 48, us' 49, us' 50, us' 51, us' 52, us' 53, us' 54, us' 55, us' 56, us' 57, us' 58, us' 59, us' 60, us' 61, us' 62, us' 63, us' 64, us' 65, us' 66, us' 67, us' 68, us' 69, us' 70, us' 71, us' 72, .bool false, us' 74, us' 75, us' 76, us' 77, us' 78, us' 79, us' 80, us' 81, us' 82, us' 83, us' 84, us' 85, us' 86, us' 87, us' 88, us' 89, us' 90, us' 91, us' 92, us' 93, us' 94, us' 95] := by
        show #[us' 0, us' 1, us' 2, us' 3, us' 4, us' 5, us' 6, us' 7, us' 8, us' 9, us' 10, us' 11, us' 12, us' 13, us' 14, us' 15, us' 16, us' 17, us' 18, us' 19, us' 20, us' 21, us' 22, us' 23, us' 24, us' 25, us' 26, us' 27, us' 28, us' 29, us' 30, us' 31, us' 32, us' 33, us' 34, us' 35, us' 36, us' 37, us' 38, us' 39, us' 40, us' 41, us' 42, us' 43, us' 44, us' 45, us' 46, us' 47, us' 48, us' 49, us' 50, us' 51, us' 52, us' 53, us' 54, us' 55, us' 56, us' 57, us' 58, us' 59, us' 60, us' 61, us' 62, us' 63, us' 64, us' 65, us' 66, us' 67, us' 68, us' 69, us' 70, us' 71, us' 72, us' 73, us' 74, us' 75, us' 76, us' 77, us' 78, us' 79, us' 80, us' 81, us' 82, us' 83, us' 84, us' 85, us' 86, us' 87, us' 88, us' 89, us' 90, us' 91, us' 92, us' 93, us' 94, us' 95] = _
        rw [t1, t73]
      rw [el] at ha'
      subst ha'
      clear hus t1 t73 el hf' hs' hd'
      have HBW := Lib.hid hW
      clear hW HD HI HL HC HE HZ HBare HSame hG
      have HStart := Lib.hid (show FormAtM us w1 (.int .i64 0) W from ⟨0, Nat.zero_le _, rfl, fun u hu => by simp at hu, HBW.out⟩)
      go_wp2
      go_loopw [3] (fun s3 wr => FormAtM us w1 s3 wr) (fun s3 _ => na - (intOf s3).toNat)
      case atStart => exact HStart.out
      case round =>
        obtain ⟨j, hj, rfl, hall, hbr⟩ := hrel
        have hin : j ≤ na := by have := HNA.out; omega
        have HBR := Lib.hid hbr
        have HAll := Lib.hid hall
        have c0 : wr.cell? ⟨w.heap.size, 0, none⟩ = some (.int .i64 k) := by rw [hbr.cell (p := ⟨w.heap.size, 0, none⟩) HLT.out]; exact C0.out
        have c9 : wr.cell? ⟨w.heap.size, 9, none⟩ = some (.slice a na ca) := by rw [hbr.cell (p := ⟨w.heap.size, 9, none⟩) HLT.out]; exact C9.out
        have c10 : wr.cell? ⟨w.heap.size, 10, none⟩ = some (.slice b nb cb) := by rw [hbr.cell (p := ⟨w.heap.size, 10, none⟩) HLT.out]; exact C10.out
        clear hj hall hbr HStart
        by_cases hlt : j < na
        · obtain ⟨u, hu⟩ : ∃ u, us[j]? = some u := ⟨us[j]'(by have := HNA.out; omega), List.getElem?_eq_getElem _⟩
          obtain ⟨ad, rfl, hc⟩ := (HM.out.els.below (Nat.le_refl _) HBR.out).load hu
          have HLoad := Lib.hid (load_ent wr (ad.add (j * 6)) u hc)
          have HU := Lib.hid hu
          have HE := Lib.hid ((HM.out.all u (List.mem_of_getElem? hu)).below (Nat.le_refl _) HBR.out)
          have i0 : (0 : Int) ≤ (j : Int) := Int.natCast_nonneg _
          have i1 : (j : Int) < (na : Int) := by omega
          clear hc hu
          go_wp2_with (refine wpList_load_by rfl 62 (.tmp 84) rfl _ _ rfl HLoad.out ?_)
          refine (refFormed_any u.e u.a u.b u.ca u.cb wr HE.out).mono ?_
          rintro r w2 ⟨rfl, hb2⟩
          have HB2 := Lib.hid (HBR.out.trans (hb2.mono HBR.out.size))
          clear hb2
          cases hf : formed u.e with
          | true =>
            have hnext : FormAtM us w1 (.int .i64 ((j + 1 : Nat) : Int)) w2 := ⟨j + 1, by have := HNA.out; omega, rfl, fun x hx => by
              have hlt2 : j < us.length := by have := HNA.out; omega
              rw [List.take_succ_eq_append_getElem hlt2] at hx
              rcases List.mem_append.1 hx with h | h
              · exact HAll.out x h
              · rw [List.mem_singleton.1 h]
                have h2 := HU.out
                rw [List.getElem?_eq_getElem hlt2] at h2
                rw [Option.some.inj h2]
                exact hf, HB2.out⟩
            have HNext := Lib.hid hnext
            clear hnext hf
            go_wp2
            go_roundw
            case rel => exact HNext.out
            case measure => simp [intOf]; omega
          | false =>
            have hfin : formedM (⟨k, f, o, t, i, l, c, s, y, e, ms, g⟩ : Mg) = false := by
              have h1 : e.all formed = false := by
                rw [← HEN.out, List.all_eq_false]
                exact ⟨u.e, List.mem_map.2 ⟨u, List.mem_of_getElem? HU.out, rfl⟩, by simp [hf]⟩
              simp [formedM, h1]
            have HFin := Lib.hid hfin
            clear hfin hf
            go_wp2
            go_ret
            exact ⟨by rw [HF.out, HFin.out]; rfl, HB.out.trans (HB2.out.mono HB.out.size)⟩
        · obtain rfl : j = na := by omega
          have hall : e.all formed = true := by
            rw [← HEN.out, List.all_eq_true]
            intro x hx
            obtain ⟨u, hu, rfl⟩ := List.mem_map.1 hx
            exact HAll.out u (by rw [List.take_of_length_le (by have := HNA.out; omega)]; exact hu)
          by_cases hk5 : k = 5
          · have hfin : formedM (⟨k, f, o, t, i, l, c, s, y, e, ms, g⟩ : Mg) = memOk ms := by
              have h1 := HHead.out
              have h2 := HRest.out
              simp only [formedM]
              rw [h1, h2, hall]
              simp [hk5]
            have HFin := Lib.hid hfin
            have HMem := Lib.hid (refMembers_any _ ms wr (HM.out.below (Nat.le_refl _) HBR.out).ms HML.out)
            have q5 : (k != 5) = false := by simp [hk5]
            clear hfin hk5 hall
            go_wp2_with fail
            refine HMem.out.mono ?_
            rintro r w2 ⟨rfl, nq, rfl⟩
            have HB2 := Lib.hid (below_drewN HBR.out nq)
            clear HMem
            go_wp2
            go_ret
            exact ⟨by rw [HF.out, HFin.out]; rfl, HB.out.trans (HB2.out.mono HB.out.size)⟩
          · have hfin : formedM (⟨k, f, o, t, i, l, c, s, y, e, ms, g⟩ : Mg) = true := by
              have h1 := HHead.out
              have h2 := HRest.out
              simp only [formedM]
              rw [h1, h2, hall]
              simp [hk5]
            have HFin := Lib.hid hfin
            have q5 : (k != 5) = true := by simp [hk5]
            clear hfin hk5 hall
            go_wp2
            go_ret
            exact ⟨by rw [HF.out, HFin.out]; rfl, HB.out.trans (HBR.out.mono HB.out.size)⟩
  · have HD := Lib.hid (decide_eq_false hS)
    have hr : formedM (⟨k, f, o, t, i, l, c, s, y, e, ms, g⟩ : Mg) = false := formedM_rest (by rw [Bool.eq_false_iff]; intro h; simp only [restOk, MsgMath.MT, Bool.and_eq_true, decide_eq_true_eq] at h; exact hS h.1)
    have HR := Lib.hid (HF.out.trans hr)
    clear hr
    refine region_skip [(42, .is (.agg #[.int .i64 k, .int .u64 (f : Int), .int .u64 (o : Int), .int .u64 (t : Int), .int .u64 (i : Int), .int .u64 (l : Int), .int .u64 (c : Int), .int .u64 (s : Int), .bool y, .slice a na ca, .slice b nb cb, .slice d nd cd])), (43, .is (.agg #[.int .i64 k, .int .u64 (f : Int), .int .u64 (o : Int), .int .u64 (t : Int), .int .u64 (i : Int), .int .u64 (l : Int), .int .u64 (c : Int), .int .u64 (s : Int), .bool y, .slice a na ca, .slice b nb cb, .slice d nd cd])), (44, bareF (⟨k, f, o, t, i, l, c, s, y, e, ms, g⟩ : Mg)), (45, .is (.bool false)), (46, .is (.bool true)), (47, .is (.bool true)), (48, .is undef), (49, .is undef), (50, .is undef), (51, .is (.bool true)), (52, .is (.bool true)), (53, .is undef), (54, .is undef), (55, .is undef), (56, .is (.bool true)), (57, .is (.bool true)), (58, .is undef), (59, .is undef), (60, .is undef), (61, .is (.bool true)), (62, .is (.bool true)), (63, .is undef), (64, .is undef), (65, .is undef), (66, .is undef), (67, .is (.bool true)), (68, .is (.bool true)), (69, .is undef), (70, .is undef), (71, .is undef), (72, .is undef), (73, .is (.bool true))] [1, 73] (fun W => Below w1.heap.size w1 W) (by kernel_rfl) (by kernel_rfl) (by kernel_rfl) (by kernel_rfl) (by kernel_rfl) ((Below.refl _ _).drew) ?_ ?_
    · refine ⟨?c0, ?c1, ?c2, ?c3, ?c4, ?c5, ?c6, ?c7, ?c8, ?c9, ?c10, ?c11, ?c12, ?c13, ?c14, ?c15, ?c16, ?c17, ?c18, ?c19, ?c20, ?c21, ?c22, ?c23, ?c24, ?c25, ?c26, ?c27, ?c28, ?c29, ?c30, ?c31, trivial⟩
      case c0 => exact runs (ask_load (guard_none rfl) _ (.tmp 1) (.pointer (some ⟨w.heap.size, 0, none⟩)) (.agg #[.int .i64 k, .int .u64 (f : Int), .int .u64 (o : Int), .int .u64 (t : Int), .int .u64 (i : Int), .int .u64 (l : Int), .int .u64 (c : Int), .int .u64 (s : Int), .bool y, .slice a na ca, .slice b nb cb, .slice d nd cd]) rfl rfl (by intro k hk; cases hk; rfl) (fun W hW => (K1.out.keep hW).loads 36 _ Try.underlying36 rfl rfl))
      case c1 => exact runs (ask_load (guard_none rfl) _ (.tmp 1) (.pointer (some ⟨w.heap.size, 0, none⟩)) (.agg #[.int .i64 k, .int .u64 (f : Int), .int .u64 (o : Int), .int .u64 (t : Int), .int .u64 (i : Int), .int .u64 (l : Int), .int .u64 (c : Int), .int .u64 (s : Int), .bool y, .slice a na ca, .slice b nb cb, .slice d nd cd]) rfl rfl (by intro k hk; cases hk; rfl) (fun W hW => (K1.out.keep hW).loads 36 _ Try.underlying36 rfl rfl))
      case c2 => exact runs (ask_call hG (guard_none rfl) _ _ _ #[.agg #[.int .i64 k, .int .u64 (f : Int), .int .u64 (o : Int), .int .u64 (t : Int), .int .u64 (i : Int), .int .u64 (l : Int), .int .u64 (c : Int), .int .u64 (s : Int), .bool y, .slice a na ca, .slice b nb cb, .slice d nd cd]] (bareF (⟨k, f, o, t, i, l, c, s, y, e, ms, g⟩ : Mg)) rfl (by kernel_rfl) rfl rfl (by intro k hk; cases hk; rfl) (fun W hW => (HBare.out W hW).mono fun e w' h => by obtain ⟨ve', vm', vg', us', h1, h2, h3⟩ := h; exact ⟨_, h1, ⟨ve', vm', vg', us', rfl, h2⟩, h3⟩))
      case c3 => exact runs (ask_call_by hG (guard_none rfl) _ _ _ (.is (.bool false)) rfl (by kernel_rfl) (by intro k hk; cases hk; rfl) (fun x W hW ht => by have e1 : evalBy x (.tmp 42) = (.agg #[.int .i64 k, .int .u64 (f : Int), .int .u64 (o : Int), .int .u64 (t : Int), .int .u64 (i : Int), .int .u64 (l : Int), .int .u64 (c : Int), .int .u64 (s : Int), .bool y, .slice a na ca, .slice b nb cb, .slice d nd cd]) := told_op ht (.tmp 42) (by simp [Op.operands, Call.operands]); obtain ⟨ve', vm', vg', us', e2, h2⟩ : ∃ ve' vm' vg' us', evalBy x (.tmp 44) = .agg (mgC (MsgMath.bareM (⟨k, f, o, t, i, l, c, s, y, e, ms, g⟩ : Mg)) ve' vm' vg') ∧ MHas W (MsgMath.bareM (⟨k, f, o, t, i, l, c, s, y, e, ms, g⟩ : Mg)) ve' vm' vg' us' := told_op ht (.tmp 44) (by simp [Op.operands, Call.operands]); show Calls Try.prog 22 #[evalBy x (.tmp 42), evalBy x (.tmp 44)] W _; rw [e1, e2]; exact (HSame.out W hW ve' vm' vg' us' h2).mono fun e w' h => ⟨_, h.1, by rw [HD.out]; rfl, h.2⟩))
      case c4 => exact runs (ask_exec (guard_none rfl) (.bool true) rfl rfl (by intro k hk; cases hk; rfl) (fun W hW => by kernel_rfl))
      case c5 => exact runs (ask_copy (guard_none rfl) (.tmp 46) (.inl rfl) (by intro k hk; cases hk; rfl))
      case c6 => exact skips 5 false 47 (.bool true) rfl rfl rfl (by simp) (by intro k hk; cases hk; rfl)
      case c7 => exact skips 5 false 47 (.bool true) rfl rfl rfl (by simp) (by intro k hk; cases hk; rfl)
      case c8 => exact skips 5 false 47 (.bool true) rfl rfl rfl (by simp) (by intro k hk; cases hk; rfl)
      case c9 => exact runs (ask_pick (guard_none rfl) (.tmp 47) (.const (.bool true)) (.tmp 50) true rfl rfl (by intro k hk; cases hk; rfl))
      case c10 => exact runs (ask_copy (guard_none rfl) (.tmp 51) (.inl rfl) (by intro k hk; cases hk; rfl))
      case c11 => exact skips 10 false 52 (.bool true) rfl rfl rfl (by simp) (by intro k hk; cases hk; rfl)
      case c12 => exact skips 10 false 52 (.bool true) rfl rfl rfl (by simp) (by intro k hk; cases hk; rfl)
      case c13 => exact skips 10 false 52 (.bool true) rfl rfl rfl (by simp) (by intro k hk; cases hk; rfl)
      case c14 => exact runs (ask_pick (guard_none rfl) (.tmp 52) (.const (.bool true)) (.tmp 55) true rfl rfl (by intro k hk; cases hk; rfl))
      case c15 => exact runs (ask_copy (guard_none rfl) (.tmp 56) (.inl rfl) (by intro k hk; cases hk; rfl))
      case c16 => exact skips 15 false 57 (.bool true) rfl rfl rfl (by simp) (by intro k hk; cases hk; rfl)
      case c17 => exact skips 15 false 57 (.bool true) rfl rfl rfl (by simp) (by intro k hk; cases hk; rfl)
      case c18 => exact skips 15 false 57 (.bool true) rfl rfl rfl (by simp) (by intro k hk; cases hk; rfl)
      case c19 => exact runs (ask_pick (guard_none rfl) (.tmp 57) (.const (.bool true)) (.tmp 60) true rfl rfl (by intro k hk; cases hk; rfl))
      case c20 => exact runs (ask_copy (guard_none rfl) (.tmp 61) (.inl rfl) (by intro k hk; cases hk; rfl))
      case c21 => exact skips 20 false 62 (.bool true) rfl rfl rfl (by simp) (by intro k hk; cases hk; rfl)
      case c22 => exact skips 20 false 62 (.bool true) rfl rfl rfl (by simp) (by intro k hk; cases hk; rfl)
      case c23 => exact skips 20 false 62 (.bool true) rfl rfl rfl (by simp) (by intro k hk; cases hk; rfl)
      case c24 => exact skips 20 false 62 (.bool true) rfl rfl rfl (by simp) (by intro k hk; cases hk; rfl)
      case c25 => exact runs (ask_pick (guard_none rfl) (.tmp 62) (.const (.bool true)) (.tmp 66) true rfl rfl (by intro k hk; cases hk; rfl))
      case c26 => exact runs (ask_copy (guard_none rfl) (.tmp 67) (.inl rfl) (by intro k hk; cases hk; rfl))
      case c27 => exact skips 26 false 68 (.bool true) rfl rfl rfl (by simp) (by intro k hk; cases hk; rfl)
      case c28 => exact skips 26 false 68 (.bool true) rfl rfl rfl (by simp) (by intro k hk; cases hk; rfl)
      case c29 => exact skips 26 false 68 (.bool true) rfl rfl rfl (by simp) (by intro k hk; cases hk; rfl)
      case c30 => exact skips 26 false 68 (.bool true) rfl rfl rfl (by simp) (by intro k hk; cases hk; rfl)
      case c31 => exact runs (ask_pick (guard_none rfl) (.tmp 68) (.const (.bool true)) (.tmp 72) true rfl rfl (by intro k hk; cases hk; rfl))
    · intro a' W hW hd' hs' hf'
      have t1 : a'.tmps.getD 1 undef = .pointer (some ⟨w.heap.size, 0, none⟩) := hf' 1 rfl
      have t73 : a'.tmps.getD 73 undef = .bool true := hf' 73 rfl
      obtain ⟨us', hus, ha'⟩ := act_open 96 a' hs' hd'
      rw [← hus] at t1 t73
      have el : ((List.range 96).map us').toArray = #[us' 0, .pointer (some ⟨w.heap.size, 0, none⟩), us' 2, us' 3, us' 4, us' 5, us' 6, us' 7, us' 8, us' 9, us' 10, us' 11, us' 12, us' 13, us' 14, us' 15, us' 16, us' 17, us' 18, us' 19, us' 20, us' 21, us' 22, us' 23, us' 24, us' 25, us' 26, us' 27, us' 28, us' 29, us' 30, us' 31, us' 32, us' 33, us' 34, us' 35, us' 36, us' 37, us' 38, us' 39, us' 40, us' 41, us' 42, us' 43, us' 44, us' 45, us' 46, us' 47, us' 48, us' 49, us' 50, us' 51, us' 52, us' 53, us' 54, us' 55, us' 56, us' 57, us' 58, us' 59, us' 60, us' 61, us' 62, us' 63, us' 64, us' 65, us' 66, us' 67, us' 68, us' 69, us' 70, us' 71, us' 72, .bool true, us' 74, us' 75, us' 76, us' 77, us' 78, us' 79, us' 80, us' 81, us' 82, us' 83, us' 84, us' 85, us' 86, us' 87, us' 88, us' 89, us' 90, us' 91, us' 92, us' 93, us' 94, us' 95] := by
        show #[us' 0, us' 1, us' 2, us' 3, us' 4, us' 5, us' 6, us' 7, us' 8, us' 9, us' 10, us' 11, us' 12, us' 13, us' 14, us' 15, us' 16, us' 17, us' 18, us' 19, us' 20, us' 21, us' 22, us' 23, us' 24, us' 25, us' 26, us' 27, us' 28, us' 29, us' 30, us' 31, us' 32, us' 33, us' 34, us' 35, us' 36, us' 37, us' 38, us' 39, us' 40, us' 41, us' 42, us' 43, us' 44, us' 45, us' 46, us' 47, us' 48, us' 49, us' 50, us' 51, us' 52, us' 53, us' 54, us' 55, us' 56, us' 57, us' 58, us' 59, us' 60, us' 61, us' 62, us' 63, us' 64, us' 65, us' 66, us' 67, us' 68, us' 69, us' 70, us' 71, us' 72, us' 73, us' 74, us' 75, us' 76, us' 77, us' 78, us' 79, us' 80, us' 81, us' 82, us' 83, us' 84, us' 85, us' 86, us' 87, us' 88, us' 89, us' 90, us' 91, us' 92, us' 93, us' 94, us' 95] = _
        rw [t1, t73]
      rw [el] at ha'
      subst ha'
      clear hus t1 t73 el hf' hs' hd'
      go_wp2
      go_ret
      exact ⟨by rw [HR.out]; rfl, HB.out.trans (hW.mono HB.out.size)⟩
end Go.Proofs.Ytgbhfolbkgibfaa

