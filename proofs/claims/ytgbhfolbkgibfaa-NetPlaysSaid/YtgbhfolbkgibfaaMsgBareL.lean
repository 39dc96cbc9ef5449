/- Layer 18's reference: bare. -/
import Derived.Test.YtgbhfolbkgibfaaLAO
import Derived.Test.YtgbhfolbkgibfaaLAW
namespace Go.Proofs.Ytgbhfolbkgibfaa
set_option maxRecDepth 20000
open Go.RowKit BinMath CmdMath Reg
open MsgMath (Mg)

theorem load_u64m (W : World) (p : Addr) (v : Value) (h : W.cell? p = some v) : (Instr.loadAt 31 (.pointer (some p))).run Try.prog W = .ok v W := by
  have hagg : (isAgg 31).run Try.prog W = .ok false W := by kernel_rfl
  simp [Instr.loadAt, Instr.sureAddr, loadVar, Sem.run_bind, hagg, h]
theorem load_boolm (W : World) (p : Addr) (v : Value) (h : W.cell? p = some v) : (Instr.loadAt 4 (.pointer (some p))).run Try.prog W = .ok v W := by
  have hagg : (isAgg 4).run Try.prog W = .ok false W := by kernel_rfl
  simp [Instr.loadAt, Instr.sureAddr, loadVar, Sem.run_bind, hagg, h]
theorem load_esm (W : World) (p : Addr) (v : Value) (h : W.cell? p = some v) : (Instr.loadAt 32 (.pointer (some p))).run Try.prog W = .ok v W := by
  have hagg : (isAgg 32).run Try.prog W = .ok false W := by kernel_rfl
  simp [Instr.loadAt, Instr.sureAddr, loadVar, Sem.run_bind, hagg, h]
theorem load_nsm (W : World) (p : Addr) (v : Value) (h : W.cell? p = some v) : (Instr.loadAt 33 (.pointer (some p))).run Try.prog W = .ok v W := by
  have hagg : (isAgg 33).run Try.prog W = .ok false W := by kernel_rfl
  simp [Instr.loadAt, Instr.sureAddr, loadVar, Sem.run_bind, hagg, h]
theorem load_bsm (W : World) (p : Addr) (v : Value) (h : W.cell? p = some v) : (Instr.loadAt 34 (.pointer (some p))).run Try.prog W = .ok v W := by
  have hagg : (isAgg 34).run Try.prog W = .ok false W := by kernel_rfl
  simp [Instr.loadAt, Instr.sureAddr, loadVar, Sem.run_bind, hagg, h]
def isFact : Fact → Bool
  | .is _ => true
  | _ => false

/-- Values last. -/
theorem facts_is {l : List (Tmp × Fact)} {a : Act} (h : (l.all fun p => isFact p.2) = true) (k : Tmp) (u : Value) (W W' : World) (hu : (factsOf l a k).holds u W) : (factsOf l a k).holds u W' := by
  refine facts_keep (W := W) (fun p hp u hu => ?_) k u hu
  have h1 := List.all_eq_true.1 h p hp
  cases hq : p.2 with
  | is v => rw [hq] at hu; exact hu
  | _ => rw [hq] at h1; simp [isFact] at h1

set_option maxHeartbeats 2000000 in
theorem bare_0 (k : Int) (q1 : (k == 1) = false) (q2 : (k == 2) = false) (q3 : (k == 3) = false) (q4 : (k == 4) = false) (q5 : (k == 5) = false) (f o t i l c s : Nat) (y : Bool) (a b d : Option Addr) (na nb nd ca cb cd : Nat) (w : World) :
    Calls Try.prog 39 #[.agg (#[.int .i64 k, .int .u64 (f : Int), .int .u64 (o : Int), .int .u64 (t : Int), .int .u64 (i : Int), .int .u64 (l : Int), .int .u64 (c : Int), .int .u64 (s : Int), .bool y, .slice a na ca, .slice b nb cb, .slice d nd cd])] w fun r w' => r = .returned (.agg (#[.int .i64 k, .int .u64 (f : Int), .int .u64 (o : Int), .int .u64 (t : Int), .int .u64 0, .int .u64 0, .int .u64 0, .int .u64 0, .bool false, .slice none 0 0, .slice none 0 0, .slice none 0 0])) ∧ Below w.heap.size w w' := by
  go_enter Try.func39, Try.ntmps39
  go_upto_region 2 with fail
  refine world_cut (fun W => Below w.heap.size w W ∧ Blk W w.heap.size 36 (#[.int .i64 k, .int .u64 (f : Int), .int .u64 (o : Int), .int .u64 (t : Int), .int .u64 (i : Int), .int .u64 (l : Int), .int .u64 (c : Int), .int .u64 (s : Int), .bool y, .slice a na ca, .slice b nb cb, .slice d nd cd]) ∧ Blk W (w.heap.size + 1) 36 (#[.int .i64 0, .int .u64 0, .int .u64 0, .int .u64 0, .int .u64 0, .int .u64 0, .int .u64 0, .int .u64 0, .bool false, .slice none 0 0, .slice none 0 0, .slice none 0 0]) ∧ Blk W (w.heap.size + 1 + 1) 36 (#[.int .i64 k, .int .u64 (f : Int), .int .u64 (o : Int), .int .u64 (t : Int), .int .u64 0, .int .u64 0, .int .u64 0, .int .u64 0, .bool false, .slice none 0 0, .slice none 0 0, .slice none 0 0])) ⟨((Below.refl w.heap.size w).alloc (Nat.le_refl _) _).alloc (by simp) _ |>.alloc (by simp; omega) _, ((Blk.new w _ _).alloc _).alloc _, (Blk.newAt _ _ _ _ _ (by simp) rfl).alloc _, Blk.newAt _ _ _ _ _ (by simp) rfl⟩ ?_
  rintro w1 ⟨hb1, k1, k2, k3⟩
  have HB := Lib.hid hb1
  have K1 := Lib.hid k1
  have K2 := Lib.hid k2
  have K3 := Lib.hid k3
  have c0 : w1.cell? ⟨w.heap.size, 0, none⟩ = some (.int .i64 k) := by rw [k1.cell]; rfl
  clear hb1 k1 k2 k3
  go_wp2_with (first | (refine wpList_load_by rfl 36 (.tmp 3) rfl _ _ rfl (K3.out.loads 36 _ Try.underlying36 rfl rfl) ?_) | (refine wpList_store_all rfl 36 (.tmp 2) (.tmp 73) rfl (w.heap.size + 1) (#[.int .i64 k, .int .u64 (f : Int), .int .u64 (o : Int), .int .u64 (t : Int), .int .u64 0, .int .u64 0, .int .u64 0, .int .u64 0, .bool false, .slice none 0 0, .slice none 0 0, .slice none 0 0]) rfl rfl 36 _ K2.out rfl rfl (by simp [Value.oneCell']) ?_; intro w9 hb9 hos9; (have HZ := Lib.hid hb9); (have HB9 := Lib.hid (below_two HB.out hos9 (fun k hk e => by omega) (by have := K2.out.lt; omega))); clear hb9 hos9))
  exact bodyPost_ret (v := .agg (#[.int .i64 k, .int .u64 (f : Int), .int .u64 (o : Int), .int .u64 (t : Int), .int .u64 0, .int .u64 0, .int .u64 0, .int .u64 0, .bool false, .slice none 0 0, .slice none 0 0, .slice none 0 0])) (results_cell_row rfl _ _ (w.heap.size + 1) 36 _ (0, 0) _ rfl HZ.out Try.underlying36 rfl rfl) rfl ⟨rfl, HB9.out⟩

set_option maxHeartbeats 2000000 in
theorem bare_1 (f o t i l c s : Nat) (y : Bool) (a b d : Option Addr) (na nb nd ca cb cd : Nat) (w : World) :
    Calls Try.prog 39 #[.agg (#[.int .i64 1, .int .u64 (f : Int), .int .u64 (o : Int), .int .u64 (t : Int), .int .u64 (i : Int), .int .u64 (l : Int), .int .u64 (c : Int), .int .u64 (s : Int), .bool y, .slice a na ca, .slice b nb cb, .slice d nd cd])] w fun r w' => r = .returned (.agg (#[.int .i64 1, .int .u64 (f : Int), .int .u64 (o : Int), .int .u64 (t : Int), .int .u64 (i : Int), .int .u64 (l : Int), .int .u64 0, .int .u64 0, .bool false, .slice none 0 0, .slice none 0 0, .slice none 0 0])) ∧ Below w.heap.size w w' := by
  go_enter Try.func39, Try.ntmps39
  go_upto_region 2 with fail
  refine world_cut (fun W => Below w.heap.size w W ∧ Blk W w.heap.size 36 (#[.int .i64 1, .int .u64 (f : Int), .int .u64 (o : Int), .int .u64 (t : Int), .int .u64 (i : Int), .int .u64 (l : Int), .int .u64 (c : Int), .int .u64 (s : Int), .bool y, .slice a na ca, .slice b nb cb, .slice d nd cd]) ∧ Blk W (w.heap.size + 1) 36 (#[.int .i64 0, .int .u64 0, .int .u64 0, .int .u64 0, .int .u64 0, .int .u64 0, .int .u64 0, .int .u64 0, .bool false, .slice none 0 0, .slice none 0 0, .slice none 0 0]) ∧ Blk W (w.heap.size + 1 + 1) 36 (#[.int .i64 1, .int .u64 (f : Int), .int .u64 (o : Int), .int .u64 (t : Int), .int .u64 0, .int .u64 0, .int .u64 0, .int .u64 0, .bool false, .slice none 0 0, .slice none 0 0, .slice none 0 0])) ⟨((Below.refl w.heap.size w).alloc (Nat.le_refl _) _).alloc (by simp) _ |>.alloc (by simp; omega) _, ((Blk.new w _ _).alloc _).alloc _, (Blk.newAt _ _ _ _ _ (by simp) rfl).alloc _, Blk.newAt _ _ _ _ _ (by simp) rfl⟩ ?_
  rintro w1 ⟨hb1, k1, k2, k3⟩
  have HB := Lib.hid hb1
  have K1 := Lib.hid k1
  have K2 := Lib.hid k2
  have K3 := Lib.hid k3
  have c0 : w1.cell? ⟨w.heap.size, 0, none⟩ = some (.int .i64 1) := by rw [k1.cell]; rfl
  clear hb1 k1 k2 k3
  go_upto_region 4 with fail
  refine region_by_l [(17, .is (.pointer (some ⟨w.heap.size, 4, none⟩))), (18, .is (.int .u64 (i : Int))), (19, .is (.pointer (some ⟨w.heap.size, 5, none⟩))), (20, .is (.int .u64 (l : Int))), (21, .is (.pointer (some ⟨(w.heap.size + 1 + 1), 4, none⟩))), (22, .is (.pointer (some ⟨(w.heap.size + 1 + 1), 5, none⟩)))] [1, 2, 3] (Sts w1 (w.heap.size + 1 + 1) 36 (#[.int .i64 1, .int .u64 (f : Int), .int .u64 (o : Int), .int .u64 (t : Int), .int .u64 0, .int .u64 0, .int .u64 0, .int .u64 0, .bool false, .slice none 0 0, .slice none 0 0, .slice none 0 0]) [(5, 4, (.int .u64 (i : Int))), (7, 5, (.int .u64 (l : Int)))]) (by kernel_rfl) (by kernel_rfl) (by kernel_rfl) (by kernel_rfl) (by kernel_rfl) (Sts.start ((OnlyS.refl _ w1).drew) (K3.out.keep ((Below.refl _ _).drew))) ?_ ?_
  · refine ⟨?c0, ?c1, ?c2, ?c3, ?c4, ?c5, ?c6, ?c7, trivial⟩
    case c0 => exact askedL_none (by kernel_rfl) (fun L => ask_field (guard_none rfl) _ (.tmp 1) 4 (.pointer (some ⟨w.heap.size, 0, none⟩)) (.pointer (some ⟨w.heap.size, 4, none⟩)) rfl rfl (by intro k hk; cases hk; rfl) (fun W => by kernel_rfl))
    case c1 => exact askedL_none (by kernel_rfl) (fun L => ask_load (guard_none rfl) _ (.tmp 17) (.pointer (some ⟨w.heap.size, 4, none⟩)) (.int .u64 (i : Int)) rfl rfl (by intro k hk; cases hk; rfl) (fun W hW => load_u64m W _ _ (by rw [(K1.out.onlyS hW.os (by omega)).cell]; rfl)))
    case c2 => exact askedL_none (by kernel_rfl) (fun L => ask_field (guard_none rfl) _ (.tmp 1) 5 (.pointer (some ⟨w.heap.size, 0, none⟩)) (.pointer (some ⟨w.heap.size, 5, none⟩)) rfl rfl (by intro k hk; cases hk; rfl) (fun W => by kernel_rfl))
    case c3 => exact askedL_none (by kernel_rfl) (fun L => ask_load (guard_none rfl) _ (.tmp 19) (.pointer (some ⟨w.heap.size, 5, none⟩)) (.int .u64 (l : Int)) rfl rfl (by intro k hk; cases hk; rfl) (fun W hW => load_u64m W _ _ (by rw [(K1.out.onlyS hW.os (by omega)).cell]; rfl)))
    case c4 => exact askedL_none (by kernel_rfl) (fun L => ask_field (guard_none rfl) _ (.tmp 3) 4 (.pointer (some ⟨(w.heap.size + 1 + 1), 0, none⟩)) (.pointer (some ⟨(w.heap.size + 1 + 1), 4, none⟩)) rfl rfl (by intro k hk; cases hk; rfl) (fun W => by kernel_rfl))
    case c5 => exact askedL_store (guard_none rfl) _ (.tmp 21) (.tmp 18) 4 (.int .u64 (i : Int)) rfl rfl rfl rfl (facts_is (by simp [isFact])) (by decide) (by simp) rfl (by kernel_rfl) (by simp) (by simp) (by simp)
    case c6 => exact askedL_none (by kernel_rfl) (fun L => ask_field (guard_none rfl) _ (.tmp 3) 5 (.pointer (some ⟨(w.heap.size + 1 + 1), 0, none⟩)) (.pointer (some ⟨(w.heap.size + 1 + 1), 5, none⟩)) rfl rfl (by intro k hk; cases hk; rfl) (fun W => by kernel_rfl))
    case c7 => exact askedL_store (guard_none rfl) _ (.tmp 22) (.tmp 20) 5 (.int .u64 (l : Int)) rfl rfl rfl rfl (facts_is (by simp [isFact])) (by decide) (by simp) rfl (by kernel_rfl) (by simp) (by simp) (by simp)
  · intro L af W hL hW hd' hs' hf'
    have t1 : af.tmps.getD 1 undef = (.pointer (some ⟨w.heap.size, 0, none⟩)) := hf' 1 rfl
    have t2 : af.tmps.getD 2 undef = (.pointer (some ⟨(w.heap.size + 1), 0, none⟩)) := hf' 2 rfl
    have t3 : af.tmps.getD 3 undef = (.pointer (some ⟨(w.heap.size + 1 + 1), 0, none⟩)) := hf' 3 rfl
    obtain ⟨us, hus, haf⟩ := act_open 74 af hs' hd'
    rw [← hus] at t1 t2 t3
    have el : ((List.range 74).map us).toArray = #[us 0, us 1, us 2, us 3, us 4, us 5, us 6, us 7, us 8, us 9, us 10, us 11, us 12, us 13, us 14, us 15, us 16, us 17, us 18, us 19, us 20, us 21, us 22, us 23, us 24, us 25, us 26, us 27, us 28, us 29, us 30, us 31, us 32, us 33, us 34, us 35, us 36, us 37, us 38, us 39, us 40, us 41, us 42, us 43, us 44, us 45, us 46, us 47, us 48, us 49, us 50, us 51, us 52, us 53, us 54, us 55, us 56, us 57, us 58, us 59, us 60, us 61, us 62, us 63, us 64, us 65, us 66, us 67, us 68, us 69, us 70, us 71, us 72, us 73] := rfl
    rw [el] at haf
    subst haf
    rw [t1, t2, t3]
    obtain ⟨hos, hk4⟩ := hW.ended hL (by kernel_rfl) (#[.int .i64 1, .int .u64 (f : Int), .int .u64 (o : Int), .int .u64 (t : Int), .int .u64 (i : Int), .int .u64 (l : Int), .int .u64 0, .int .u64 0, .bool false, .slice none 0 0, .slice none 0 0, .slice none 0 0]) rfl (by simp only [List.size_toArray, List.length_cons, List.length_nil]; intro j hj; rcases j with _ | _ | _ | _ | _ | _ | _ | _ | _ | _ | _ | _ | j <;> first | rfl | omega)
    have K4 := Lib.hid hk4
    have K5 := Lib.hid (K2.out.onlyS hos (by omega))
    have HB2 := Lib.hid (below_two HB.out hos (fun k hk e => by omega) (by have := K3.out.lt; omega))
    clear hus t1 t2 t3 el hf' hs' hd' hW hos hk4 hL
    go_wp2_with (first | (refine wpList_load_by rfl 36 (.tmp 3) rfl _ _ rfl (K4.out.loads 36 _ Try.underlying36 rfl rfl) ?_) | (refine wpList_store_all rfl 36 (.tmp 2) (.tmp 73) rfl (w.heap.size + 1) (#[.int .i64 1, .int .u64 (f : Int), .int .u64 (o : Int), .int .u64 (t : Int), .int .u64 (i : Int), .int .u64 (l : Int), .int .u64 0, .int .u64 0, .bool false, .slice none 0 0, .slice none 0 0, .slice none 0 0]) rfl rfl 36 _ K5.out rfl rfl (by simp [Value.oneCell']) ?_; intro w9 hb9 hos9; (have HZ := Lib.hid hb9); (have HB9 := Lib.hid (below_two HB2.out hos9 (fun k hk e => by omega) (by have := K5.out.lt; omega))); clear hb9 hos9))
    exact bodyPost_ret (v := .agg (#[.int .i64 1, .int .u64 (f : Int), .int .u64 (o : Int), .int .u64 (t : Int), .int .u64 (i : Int), .int .u64 (l : Int), .int .u64 0, .int .u64 0, .bool false, .slice none 0 0, .slice none 0 0, .slice none 0 0])) (results_cell_row rfl _ _ (w.heap.size + 1) 36 _ (0, 0) _ rfl HZ.out Try.underlying36 rfl rfl) rfl ⟨rfl, HB9.out⟩

set_option maxHeartbeats 2000000 in
theorem bare_2 (f o t i l c s : Nat) (y : Bool) (a b d : Option Addr) (na nb nd ca cb cd : Nat) (w : World) :
    Calls Try.prog 39 #[.agg (#[.int .i64 2, .int .u64 (f : Int), .int .u64 (o : Int), .int .u64 (t : Int), .int .u64 (i : Int), .int .u64 (l : Int), .int .u64 (c : Int), .int .u64 (s : Int), .bool y, .slice a na ca, .slice b nb cb, .slice d nd cd])] w fun r w' => r = .returned (.agg (#[.int .i64 2, .int .u64 (f : Int), .int .u64 (o : Int), .int .u64 (t : Int), .int .u64 0, .int .u64 0, .int .u64 0, .int .u64 0, .bool y, .slice none 0 0, .slice none 0 0, .slice none 0 0])) ∧ Below w.heap.size w w' := by
  go_enter Try.func39, Try.ntmps39
  go_upto_region 2 with fail
  refine world_cut (fun W => Below w.heap.size w W ∧ Blk W w.heap.size 36 (#[.int .i64 2, .int .u64 (f : Int), .int .u64 (o : Int), .int .u64 (t : Int), .int .u64 (i : Int), .int .u64 (l : Int), .int .u64 (c : Int), .int .u64 (s : Int), .bool y, .slice a na ca, .slice b nb cb, .slice d nd cd]) ∧ Blk W (w.heap.size + 1) 36 (#[.int .i64 0, .int .u64 0, .int .u64 0, .int .u64 0, .int .u64 0, .int .u64 0, .int .u64 0, .int .u64 0, .bool false, .slice none 0 0, .slice none 0 0, .slice none 0 0]) ∧ Blk W (w.heap.size + 1 + 1) 36 (#[.int .i64 2, .int .u64 (f : Int), .int .u64 (o : Int), .int .u64 (t : Int), .int .u64 0, .int .u64 0, .int .u64 0, .int .u64 0, .bool false, .slice none 0 0, .slice none 0 0, .slice none 0 0])) ⟨((Below.refl w.heap.size w).alloc (Nat.le_refl _) _).alloc (by simp) _ |>.alloc (by simp; omega) _, ((Blk.new w _ _).alloc _).alloc _, (Blk.newAt _ _ _ _ _ (by simp) rfl).alloc _, Blk.newAt _ _ _ _ _ (by simp) rfl⟩ ?_
  rintro w1 ⟨hb1, k1, k2, k3⟩
  have HB := Lib.hid hb1
  have K1 := Lib.hid k1
  have K2 := Lib.hid k2
  have K3 := Lib.hid k3
  have c0 : w1.cell? ⟨w.heap.size, 0, none⟩ = some (.int .i64 2) := by rw [k1.cell]; rfl
  have c8 : w1.cell? ⟨w.heap.size, 8, none⟩ = some (.bool y) := by rw [k1.cell]; rfl
  clear hb1 k1 k2 k3
  go_wp2_with (first | (refine wpList_store_fld rfl 4 (.tmp 27) (.tmp 26) rfl (w.heap.size + 1 + 1) 8 (.bool y) rfl rfl 36 _ (#[.int .i64 2, .int .u64 (f : Int), .int .u64 (o : Int), .int .u64 (t : Int), .int .u64 0, .int .u64 0, .int .u64 0, .int .u64 0, .bool y, .slice none 0 0, .slice none 0 0, .slice none 0 0]) K3.out (by simp) rfl (by kernel_rfl) rfl ?_; intro w2 hb2 hos2; (have K4 := Lib.hid hb2); (have K5 := Lib.hid (K2.out.onlyS hos2 (by omega))); (have HB2 := Lib.hid (below_two HB.out hos2 (fun k hk e => by omega) (by have := K3.out.lt; omega))); clear hb2 hos2) | (refine wpList_load_by rfl 36 (.tmp 3) rfl _ _ rfl (K4.out.loads 36 _ Try.underlying36 rfl rfl) ?_) | (refine wpList_store_all rfl 36 (.tmp 2) (.tmp 73) rfl (w.heap.size + 1) (#[.int .i64 2, .int .u64 (f : Int), .int .u64 (o : Int), .int .u64 (t : Int), .int .u64 0, .int .u64 0, .int .u64 0, .int .u64 0, .bool y, .slice none 0 0, .slice none 0 0, .slice none 0 0]) rfl rfl 36 _ K5.out rfl rfl (by simp [Value.oneCell']) ?_; intro w9 hb9 hos9; (have HZ := Lib.hid hb9); (have HB9 := Lib.hid (below_two HB2.out hos9 (fun k hk e => by omega) (by have := K5.out.lt; omega))); clear hb9 hos9))
  exact bodyPost_ret (v := .agg (#[.int .i64 2, .int .u64 (f : Int), .int .u64 (o : Int), .int .u64 (t : Int), .int .u64 0, .int .u64 0, .int .u64 0, .int .u64 0, .bool y, .slice none 0 0, .slice none 0 0, .slice none 0 0])) (results_cell_row rfl _ _ (w.heap.size + 1) 36 _ (0, 0) _ rfl HZ.out Try.underlying36 rfl rfl) rfl ⟨rfl, HB9.out⟩

set_option maxHeartbeats 2000000 in
theorem bare_3 (f o t i l c s : Nat) (y : Bool) (a b d : Option Addr) (na nb nd ca cb cd : Nat) (w : World) :
    Calls Try.prog 39 #[.agg (#[.int .i64 3, .int .u64 (f : Int), .int .u64 (o : Int), .int .u64 (t : Int), .int .u64 (i : Int), .int .u64 (l : Int), .int .u64 (c : Int), .int .u64 (s : Int), .bool y, .slice a na ca, .slice b nb cb, .slice d nd cd])] w fun r w' => r = .returned (.agg (#[.int .i64 3, .int .u64 (f : Int), .int .u64 (o : Int), .int .u64 (t : Int), .int .u64 (i : Int), .int .u64 (l : Int), .int .u64 (c : Int), .int .u64 (s : Int), .bool false, .slice a na ca, .slice none 0 0, .slice none 0 0])) ∧ Below w.heap.size w w' := by
  go_enter Try.func39, Try.ntmps39
  go_upto_region 2 with fail
  refine world_cut (fun W => Below w.heap.size w W ∧ Blk W w.heap.size 36 (#[.int .i64 3, .int .u64 (f : Int), .int .u64 (o : Int), .int .u64 (t : Int), .int .u64 (i : Int), .int .u64 (l : Int), .int .u64 (c : Int), .int .u64 (s : Int), .bool y, .slice a na ca, .slice b nb cb, .slice d nd cd]) ∧ Blk W (w.heap.size + 1) 36 (#[.int .i64 0, .int .u64 0, .int .u64 0, .int .u64 0, .int .u64 0, .int .u64 0, .int .u64 0, .int .u64 0, .bool false, .slice none 0 0, .slice none 0 0, .slice none 0 0]) ∧ Blk W (w.heap.size + 1 + 1) 36 (#[.int .i64 3, .int .u64 (f : Int), .int .u64 (o : Int), .int .u64 (t : Int), .int .u64 0, .int .u64 0, .int .u64 0, .int .u64 0, .bool false, .slice none 0 0, .slice none 0 0, .slice none 0 0])) ⟨((Below.refl w.heap.size w).alloc (Nat.le_refl _) _).alloc (by simp) _ |>.alloc (by simp; omega) _, ((Blk.new w _ _).alloc _).alloc _, (Blk.newAt _ _ _ _ _ (by simp) rfl).alloc _, Blk.newAt _ _ _ _ _ (by simp) rfl⟩ ?_
  rintro w1 ⟨hb1, k1, k2, k3⟩
  have HB := Lib.hid hb1
  have K1 := Lib.hid k1
  have K2 := Lib.hid k2
  have K3 := Lib.hid k3
  have c0 : w1.cell? ⟨w.heap.size, 0, none⟩ = some (.int .i64 3) := by rw [k1.cell]; rfl
  clear hb1 k1 k2 k3
  go_upto_region 8 with fail
  refine region_by_l [(30, .is (.pointer (some ⟨w.heap.size, 4, none⟩))), (31, .is (.int .u64 (i : Int))), (32, .is (.pointer (some ⟨w.heap.size, 5, none⟩))), (33, .is (.int .u64 (l : Int))), (34, .is (.pointer (some ⟨w.heap.size, 6, none⟩))), (35, .is (.int .u64 (c : Int))), (36, .is (.pointer (some ⟨w.heap.size, 7, none⟩))), (37, .is (.int .u64 (s : Int))), (38, .is (.pointer (some ⟨w.heap.size, 9, none⟩))), (39, .is (.slice a na ca)), (40, .is (.pointer (some ⟨(w.heap.size + 1 + 1), 4, none⟩))), (41, .is (.pointer (some ⟨(w.heap.size + 1 + 1), 5, none⟩))), (42, .is (.pointer (some ⟨(w.heap.size + 1 + 1), 6, none⟩))), (43, .is (.pointer (some ⟨(w.heap.size + 1 + 1), 7, none⟩))), (44, .is (.pointer (some ⟨(w.heap.size + 1 + 1), 9, none⟩)))] [1, 2, 3] (Sts w1 (w.heap.size + 1 + 1) 36 (#[.int .i64 3, .int .u64 (f : Int), .int .u64 (o : Int), .int .u64 (t : Int), .int .u64 0, .int .u64 0, .int .u64 0, .int .u64 0, .bool false, .slice none 0 0, .slice none 0 0, .slice none 0 0]) [(11, 4, (.int .u64 (i : Int))), (13, 5, (.int .u64 (l : Int))), (15, 6, (.int .u64 (c : Int))), (17, 7, (.int .u64 (s : Int))), (19, 9, (.slice a na ca))]) (by kernel_rfl) (by kernel_rfl) (by kernel_rfl) (by kernel_rfl) (by kernel_rfl) (Sts.start ((OnlyS.refl _ w1).drew) (K3.out.keep ((Below.refl _ _).drew))) ?_ ?_
  · refine ⟨?c0, ?c1, ?c2, ?c3, ?c4, ?c5, ?c6, ?c7, ?c8, ?c9, ?c10, ?c11, ?c12, ?c13, ?c14, ?c15, ?c16, ?c17, ?c18, ?c19, trivial⟩
    case c0 => exact askedL_none (by kernel_rfl) (fun L => ask_field (guard_none rfl) _ (.tmp 1) 4 (.pointer (some ⟨w.heap.size, 0, none⟩)) (.pointer (some ⟨w.heap.size, 4, none⟩)) rfl rfl (by intro k hk; cases hk; rfl) (fun W => by kernel_rfl))
    case c1 => exact askedL_none (by kernel_rfl) (fun L => ask_load (guard_none rfl) _ (.tmp 30) (.pointer (some ⟨w.heap.size, 4, none⟩)) (.int .u64 (i : Int)) rfl rfl (by intro k hk; cases hk; rfl) (fun W hW => load_u64m W _ _ (by rw [(K1.out.onlyS hW.os (by omega)).cell]; rfl)))
    case c2 => exact askedL_none (by kernel_rfl) (fun L => ask_field (guard_none rfl) _ (.tmp 1) 5 (.pointer (some ⟨w.heap.size, 0, none⟩)) (.pointer (some ⟨w.heap.size, 5, none⟩)) rfl rfl (by intro k hk; cases hk; rfl) (fun W => by kernel_rfl))
    case c3 => exact askedL_none (by kernel_rfl) (fun L => ask_load (guard_none rfl) _ (.tmp 32) (.pointer (some ⟨w.heap.size, 5, none⟩)) (.int .u64 (l : Int)) rfl rfl (by intro k hk; cases hk; rfl) (fun W hW => load_u64m W _ _ (by rw [(K1.out.onlyS hW.os (by omega)).cell]; rfl)))
    case c4 => exact askedL_none (by kernel_rfl) (fun L => ask_field (guard_none rfl) _ (.tmp 1) 6 (.pointer (some ⟨w.heap.size, 0, none⟩)) (.pointer (some ⟨w.heap.size, 6, none⟩)) rfl rfl (by intro k hk; cases hk; rfl) (fun W => by kernel_rfl))
    case c5 => exact askedL_none (by kernel_rfl) (fun L => ask_load (guard_none rfl) _ (.tmp 34) (.pointer (some ⟨w.heap.size, 6, none⟩)) (.int .u64 (c : Int)) rfl rfl (by intro k hk; cases hk; rfl) (fun W hW => load_u64m W _ _ (by rw [(K1.out.onlyS hW.os (by omega)).cell]; rfl)))
    case c6 => exact askedL_none (by kernel_rfl) (fun L => ask_field (guard_none rfl) _ (.tmp 1) 7 (.pointer (some ⟨w.heap.size, 0, none⟩)) (.pointer (some ⟨w.heap.size, 7, none⟩)) rfl rfl (by intro k hk; cases hk; rfl) (fun W => by kernel_rfl))
    case c7 => exact askedL_none (by kernel_rfl) (fun L => ask_load (guard_none rfl) _ (.tmp 36) (.pointer (some ⟨w.heap.size, 7, none⟩)) (.int .u64 (s : Int)) rfl rfl (by intro k hk; cases hk; rfl) (fun W hW => load_u64m W _ _ (by rw [(K1.out.onlyS hW.os (by omega)).cell]; rfl)))
    case c8 => exact askedL_none (by kernel_rfl) (fun L => ask_field (guard_none rfl) _ (.tmp 1) 9 (.pointer (some ⟨w.heap.size, 0, none⟩)) (.pointer (some ⟨w.heap.size, 9, none⟩)) rfl rfl (by intro k hk; cases hk; rfl) (fun W => by kernel_rfl))
    case c9 => exact askedL_none (by kernel_rfl) (fun L => ask_load (guard_none rfl) _ (.tmp 38) (.pointer (some ⟨w.heap.size, 9, none⟩)) (.slice a na ca) rfl rfl (by intro k hk; cases hk; rfl) (fun W hW => load_esm W _ _ (by rw [(K1.out.onlyS hW.os (by omega)).cell]; rfl)))
    case c10 => exact askedL_none (by kernel_rfl) (fun L => ask_field (guard_none rfl) _ (.tmp 3) 4 (.pointer (some ⟨(w.heap.size + 1 + 1), 0, none⟩)) (.pointer (some ⟨(w.heap.size + 1 + 1), 4, none⟩)) rfl rfl (by intro k hk; cases hk; rfl) (fun W => by kernel_rfl))
    case c11 => exact askedL_store (guard_none rfl) _ (.tmp 40) (.tmp 31) 4 (.int .u64 (i : Int)) rfl rfl rfl rfl (facts_is (by simp [isFact])) (by decide) (by simp) rfl (by kernel_rfl) (by simp) (by simp) (by simp)
    case c12 => exact askedL_none (by kernel_rfl) (fun L => ask_field (guard_none rfl) _ (.tmp 3) 5 (.pointer (some ⟨(w.heap.size + 1 + 1), 0, none⟩)) (.pointer (some ⟨(w.heap.size + 1 + 1), 5, none⟩)) rfl rfl (by intro k hk; cases hk; rfl) (fun W => by kernel_rfl))
    case c13 => exact askedL_store (guard_none rfl) _ (.tmp 41) (.tmp 33) 5 (.int .u64 (l : Int)) rfl rfl rfl rfl (facts_is (by simp [isFact])) (by decide) (by simp) rfl (by kernel_rfl) (by simp) (by simp) (by simp)
    case c14 => exact askedL_none (by kernel_rfl) (fun L => ask_field (guard_none rfl) _ (.tmp 3) 6 (.pointer (some ⟨(w.heap.size + 1 + 1), 0, none⟩)) (.pointer (some ⟨(w.heap.size + 1 + 1), 6, none⟩)) rfl rfl (by intro k hk; cases hk; rfl) (fun W => by kernel_rfl))
    case c15 => exact askedL_store (guard_none rfl) _ (.tmp 42) (.tmp 35) 6 (.int .u64 (c : Int)) rfl rfl rfl rfl (facts_is (by simp [isFact])) (by decide) (by simp) rfl (by kernel_rfl) (by simp) (by simp) (by simp)
    case c16 => exact askedL_none (by kernel_rfl) (fun L => ask_field (guard_none rfl) _ (.tmp 3) 7 (.pointer (some ⟨(w.heap.size + 1 + 1), 0, none⟩)) (.pointer (some ⟨(w.heap.size + 1 + 1), 7, none⟩)) rfl rfl (by intro k hk; cases hk; rfl) (fun W => by kernel_rfl))
    case c17 => exact askedL_store (guard_none rfl) _ (.tmp 43) (.tmp 37) 7 (.int .u64 (s : Int)) rfl rfl rfl rfl (facts_is (by simp [isFact])) (by decide) (by simp) rfl (by kernel_rfl) (by simp) (by simp) (by simp)
    case c18 => exact askedL_none (by kernel_rfl) (fun L => ask_field (guard_none rfl) _ (.tmp 3) 9 (.pointer (some ⟨(w.heap.size + 1 + 1), 0, none⟩)) (.pointer (some ⟨(w.heap.size + 1 + 1), 9, none⟩)) rfl rfl (by intro k hk; cases hk; rfl) (fun W => by kernel_rfl))
    case c19 => exact askedL_store (guard_none rfl) _ (.tmp 44) (.tmp 39) 9 (.slice a na ca) rfl rfl rfl rfl (facts_is (by simp [isFact])) (by decide) (by simp) rfl (by kernel_rfl) (by simp) (by simp) (by simp)
  · intro L af W hL hW hd' hs' hf'
    have t1 : af.tmps.getD 1 undef = (.pointer (some ⟨w.heap.size, 0, none⟩)) := hf' 1 rfl
    have t2 : af.tmps.getD 2 undef = (.pointer (some ⟨(w.heap.size + 1), 0, none⟩)) := hf' 2 rfl
    have t3 : af.tmps.getD 3 undef = (.pointer (some ⟨(w.heap.size + 1 + 1), 0, none⟩)) := hf' 3 rfl
    obtain ⟨us, hus, haf⟩ := act_open 74 af hs' hd'
    rw [← hus] at t1 t2 t3
    have el : ((List.range 74).map us).toArray = #[us 0, us 1, us 2, us 3, us 4, us 5, us 6, us 7, us 8, us 9, us 10, us 11, us 12, us 13, us 14, us 15, us 16, us 17, us 18, us 19, us 20, us 21, us 22, us 23, us 24, us 25, us 26, us 27, us 28, us 29, us 30, us 31, us 32, us 33, us 34, us 35, us 36, us 37, us 38, us 39, us 40, us 41, us 42, us 43, us 44, us 45, us 46, us 47, us 48, us 49, us 50, us 51, us 52, us 53, us 54, us 55, us 56, us 57, us 58, us 59, us 60, us 61, us 62, us 63, us 64, us 65, us 66, us 67, us 68, us 69, us 70, us 71, us 72, us 73] := rfl
    rw [el] at haf
    subst haf
    rw [t1, t2, t3]
    obtain ⟨hos, hk4⟩ := hW.ended hL (by kernel_rfl) (#[.int .i64 3, .int .u64 (f : Int), .int .u64 (o : Int), .int .u64 (t : Int), .int .u64 (i : Int), .int .u64 (l : Int), .int .u64 (c : Int), .int .u64 (s : Int), .bool false, .slice a na ca, .slice none 0 0, .slice none 0 0]) rfl (by simp only [List.size_toArray, List.length_cons, List.length_nil]; intro j hj; rcases j with _ | _ | _ | _ | _ | _ | _ | _ | _ | _ | _ | _ | j <;> first | rfl | omega)
    have K4 := Lib.hid hk4
    have K5 := Lib.hid (K2.out.onlyS hos (by omega))
    have HB2 := Lib.hid (below_two HB.out hos (fun k hk e => by omega) (by have := K3.out.lt; omega))
    clear hus t1 t2 t3 el hf' hs' hd' hW hos hk4 hL
    go_wp2_with (first | (refine wpList_load_by rfl 36 (.tmp 3) rfl _ _ rfl (K4.out.loads 36 _ Try.underlying36 rfl rfl) ?_) | (refine wpList_store_all rfl 36 (.tmp 2) (.tmp 73) rfl (w.heap.size + 1) (#[.int .i64 3, .int .u64 (f : Int), .int .u64 (o : Int), .int .u64 (t : Int), .int .u64 (i : Int), .int .u64 (l : Int), .int .u64 (c : Int), .int .u64 (s : Int), .bool false, .slice a na ca, .slice none 0 0, .slice none 0 0]) rfl rfl 36 _ K5.out rfl rfl (by simp [Value.oneCell']) ?_; intro w9 hb9 hos9; (have HZ := Lib.hid hb9); (have HB9 := Lib.hid (below_two HB2.out hos9 (fun k hk e => by omega) (by have := K5.out.lt; omega))); clear hb9 hos9))
    exact bodyPost_ret (v := .agg (#[.int .i64 3, .int .u64 (f : Int), .int .u64 (o : Int), .int .u64 (t : Int), .int .u64 (i : Int), .int .u64 (l : Int), .int .u64 (c : Int), .int .u64 (s : Int), .bool false, .slice a na ca, .slice none 0 0, .slice none 0 0])) (results_cell_row rfl _ _ (w.heap.size + 1) 36 _ (0, 0) _ rfl HZ.out Try.underlying36 rfl rfl) rfl ⟨rfl, HB9.out⟩

set_option maxHeartbeats 2000000 in
theorem bare_4 (f o t i l c s : Nat) (y : Bool) (a b d : Option Addr) (na nb nd ca cb cd : Nat) (w : World) :
    Calls Try.prog 39 #[.agg (#[.int .i64 4, .int .u64 (f : Int), .int .u64 (o : Int), .int .u64 (t : Int), .int .u64 (i : Int), .int .u64 (l : Int), .int .u64 (c : Int), .int .u64 (s : Int), .bool y, .slice a na ca, .slice b nb cb, .slice d nd cd])] w fun r w' => r = .returned (.agg (#[.int .i64 4, .int .u64 (f : Int), .int .u64 (o : Int), .int .u64 (t : Int), .int .u64 (i : Int), .int .u64 0, .int .u64 0, .int .u64 (s : Int), .bool y, .slice none 0 0, .slice none 0 0, .slice none 0 0])) ∧ Below w.heap.size w w' := by
  go_enter Try.func39, Try.ntmps39
  go_upto_region 2 with fail
  refine world_cut (fun W => Below w.heap.size w W ∧ Blk W w.heap.size 36 (#[.int .i64 4, .int .u64 (f : Int), .int .u64 (o : Int), .int .u64 (t : Int), .int .u64 (i : Int), .int .u64 (l : Int), .int .u64 (c : Int), .int .u64 (s : Int), .bool y, .slice a na ca, .slice b nb cb, .slice d nd cd]) ∧ Blk W (w.heap.size + 1) 36 (#[.int .i64 0, .int .u64 0, .int .u64 0, .int .u64 0, .int .u64 0, .int .u64 0, .int .u64 0, .int .u64 0, .bool false, .slice none 0 0, .slice none 0 0, .slice none 0 0]) ∧ Blk W (w.heap.size + 1 + 1) 36 (#[.int .i64 4, .int .u64 (f : Int), .int .u64 (o : Int), .int .u64 (t : Int), .int .u64 0, .int .u64 0, .int .u64 0, .int .u64 0, .bool false, .slice none 0 0, .slice none 0 0, .slice none 0 0])) ⟨((Below.refl w.heap.size w).alloc (Nat.le_refl _) _).alloc (by simp) _ |>.alloc (by simp; omega) _, ((Blk.new w _ _).alloc _).alloc _, (Blk.newAt _ _ _ _ _ (by simp) rfl).alloc _, Blk.newAt _ _ _ _ _ (by simp) rfl⟩ ?_
  rintro w1 ⟨hb1, k1, k2, k3⟩
  have HB := Lib.hid hb1
  have K1 := Lib.hid k1
  have K2 := Lib.hid k2
  have K3 := Lib.hid k3
  have c0 : w1.cell? ⟨w.heap.size, 0, none⟩ = some (.int .i64 4) := by rw [k1.cell]; rfl
  clear hb1 k1 k2 k3
  go_upto_region 10 with fail
  refine region_by_l [(47, .is (.pointer (some ⟨w.heap.size, 8, none⟩))), (48, .is (.bool y)), (49, .is (.pointer (some ⟨w.heap.size, 4, none⟩))), (50, .is (.int .u64 (i : Int))), (51, .is (.pointer (some ⟨w.heap.size, 7, none⟩))), (52, .is (.int .u64 (s : Int))), (53, .is (.pointer (some ⟨(w.heap.size + 1 + 1), 8, none⟩))), (54, .is (.pointer (some ⟨(w.heap.size + 1 + 1), 4, none⟩))), (55, .is (.pointer (some ⟨(w.heap.size + 1 + 1), 7, none⟩)))] [1, 2, 3] (Sts w1 (w.heap.size + 1 + 1) 36 (#[.int .i64 4, .int .u64 (f : Int), .int .u64 (o : Int), .int .u64 (t : Int), .int .u64 0, .int .u64 0, .int .u64 0, .int .u64 0, .bool false, .slice none 0 0, .slice none 0 0, .slice none 0 0]) [(7, 8, (.bool y)), (9, 4, (.int .u64 (i : Int))), (11, 7, (.int .u64 (s : Int)))]) (by kernel_rfl) (by kernel_rfl) (by kernel_rfl) (by kernel_rfl) (by kernel_rfl) (Sts.start ((OnlyS.refl _ w1).drew) (K3.out.keep ((Below.refl _ _).drew))) ?_ ?_
  · refine ⟨?c0, ?c1, ?c2, ?c3, ?c4, ?c5, ?c6, ?c7, ?c8, ?c9, ?c10, ?c11, trivial⟩
    case c0 => exact askedL_none (by kernel_rfl) (fun L => ask_field (guard_none rfl) _ (.tmp 1) 8 (.pointer (some ⟨w.heap.size, 0, none⟩)) (.pointer (some ⟨w.heap.size, 8, none⟩)) rfl rfl (by intro k hk; cases hk; rfl) (fun W => by kernel_rfl))
    case c1 => exact askedL_none (by kernel_rfl) (fun L => ask_load (guard_none rfl) _ (.tmp 47) (.pointer (some ⟨w.heap.size, 8, none⟩)) (.bool y) rfl rfl (by intro k hk; cases hk; rfl) (fun W hW => load_boolm W _ _ (by rw [(K1.out.onlyS hW.os (by omega)).cell]; rfl)))
    case c2 => exact askedL_none (by kernel_rfl) (fun L => ask_field (guard_none rfl) _ (.tmp 1) 4 (.pointer (some ⟨w.heap.size, 0, none⟩)) (.pointer (some ⟨w.heap.size, 4, none⟩)) rfl rfl (by intro k hk; cases hk; rfl) (fun W => by kernel_rfl))
    case c3 => exact askedL_none (by kernel_rfl) (fun L => ask_load (guard_none rfl) _ (.tmp 49) (.pointer (some ⟨w.heap.size, 4, none⟩)) (.int .u64 (i : Int)) rfl rfl (by intro k hk; cases hk; rfl) (fun W hW => load_u64m W _ _ (by rw [(K1.out.onlyS hW.os (by omega)).cell]; rfl)))
    case c4 => exact askedL_none (by kernel_rfl) (fun L => ask_field (guard_none rfl) _ (.tmp 1) 7 (.pointer (some ⟨w.heap.size, 0, none⟩)) (.pointer (some ⟨w.heap.size, 7, none⟩)) rfl rfl (by intro k hk; cases hk; rfl) (fun W => by kernel_rfl))
    case c5 => exact askedL_none (by kernel_rfl) (fun L => ask_load (guard_none rfl) _ (.tmp 51) (.pointer (some ⟨w.heap.size, 7, none⟩)) (.int .u64 (s : Int)) rfl rfl (by intro k hk; cases hk; rfl) (fun W hW => load_u64m W _ _ (by rw [(K1.out.onlyS hW.os (by omega)).cell]; rfl)))
    case c6 => exact askedL_none (by kernel_rfl) (fun L => ask_field (guard_none rfl) _ (.tmp 3) 8 (.pointer (some ⟨(w.heap.size + 1 + 1), 0, none⟩)) (.pointer (some ⟨(w.heap.size + 1 + 1), 8, none⟩)) rfl rfl (by intro k hk; cases hk; rfl) (fun W => by kernel_rfl))
    case c7 => exact askedL_store (guard_none rfl) _ (.tmp 53) (.tmp 48) 8 (.bool y) rfl rfl rfl rfl (facts_is (by simp [isFact])) (by decide) (by simp) rfl (by kernel_rfl) (by simp) (by simp) (by simp)
    case c8 => exact askedL_none (by kernel_rfl) (fun L => ask_field (guard_none rfl) _ (.tmp 3) 4 (.pointer (some ⟨(w.heap.size + 1 + 1), 0, none⟩)) (.pointer (some ⟨(w.heap.size + 1 + 1), 4, none⟩)) rfl rfl (by intro k hk; cases hk; rfl) (fun W => by kernel_rfl))
    case c9 => exact askedL_store (guard_none rfl) _ (.tmp 54) (.tmp 50) 4 (.int .u64 (i : Int)) rfl rfl rfl rfl (facts_is (by simp [isFact])) (by decide) (by simp) rfl (by kernel_rfl) (by simp) (by simp) (by simp)
    case c10 => exact askedL_none (by kernel_rfl) (fun L => ask_field (guard_none rfl) _ (.tmp 3) 7 (.pointer (some ⟨(w.heap.size + 1 + 1), 0, none⟩)) (.pointer (some ⟨(w.heap.size + 1 + 1), 7, none⟩)) rfl rfl (by intro k hk; cases hk; rfl) (fun W => by kernel_rfl))
    case c11 => exact askedL_store (guard_none rfl) _ (.tmp 55) (.tmp 52) 7 (.int .u64 (s : Int)) rfl rfl rfl rfl (facts_is (by simp [isFact])) (by decide) (by simp) rfl (by kernel_rfl) (by simp) (by simp) (by simp)
  · intro L af W hL hW hd' hs' hf'
    have t1 : af.tmps.getD 1 undef = (.pointer (some ⟨w.heap.size, 0, none⟩)) := hf' 1 rfl
    have t2 : af.tmps.getD 2 undef = (.pointer (some ⟨(w.heap.size + 1), 0, none⟩)) := hf' 2 rfl
    have t3 : af.tmps.getD 3 undef = (.pointer (some ⟨(w.heap.size + 1 + 1), 0, none⟩)) := hf' 3 rfl
    obtain ⟨us, hus, haf⟩ := act_open 74 af hs' hd'
    rw [← hus] at t1 t2 t3
    have el : ((List.range 74).map us).toArray = #[us 0, us 1, us 2, us 3, us 4, us 5, us 6, us 7, us 8, us 9, us 10, us 11, us 12, us 13, us 14, us 15, us 16, us 17, us 18, us 19, us 20, us 21, us 22, us 23, us 24, us 25, us 26, us 27, us 28, us 29, us 30, us 31, us 32, us 33, us 34, us 35, us 36, us 37, us 38, us 39, us 40, us 41, us 42, us 43, us 44, us 45, us 46, us 47, us 48, us 49, us 50, us 51, us 52, us 53, us 54, us 55, us 56, us 57, us 58, us 59, us 60, us 61, us 62, us 63, us 64, us 65, us 66, us 67, us 68, us 69, us 70, us 71, us 72, us 73] := rfl
    rw [el] at haf
    subst haf
    rw [t1, t2, t3]
    obtain ⟨hos, hk4⟩ := hW.ended hL (by kernel_rfl) (#[.int .i64 4, .int .u64 (f : Int), .int .u64 (o : Int), .int .u64 (t : Int), .int .u64 (i : Int), .int .u64 0, .int .u64 0, .int .u64 (s : Int), .bool y, .slice none 0 0, .slice none 0 0, .slice none 0 0]) rfl (by simp only [List.size_toArray, List.length_cons, List.length_nil]; intro j hj; rcases j with _ | _ | _ | _ | _ | _ | _ | _ | _ | _ | _ | _ | j <;> first | rfl | omega)
    have K4 := Lib.hid hk4
    have K5 := Lib.hid (K2.out.onlyS hos (by omega))
    have HB2 := Lib.hid (below_two HB.out hos (fun k hk e => by omega) (by have := K3.out.lt; omega))
    clear hus t1 t2 t3 el hf' hs' hd' hW hos hk4 hL
    go_wp2_with (first | (refine wpList_load_by rfl 36 (.tmp 3) rfl _ _ rfl (K4.out.loads 36 _ Try.underlying36 rfl rfl) ?_) | (refine wpList_store_all rfl 36 (.tmp 2) (.tmp 73) rfl (w.heap.size + 1) (#[.int .i64 4, .int .u64 (f : Int), .int .u64 (o : Int), .int .u64 (t : Int), .int .u64 (i : Int), .int .u64 0, .int .u64 0, .int .u64 (s : Int), .bool y, .slice none 0 0, .slice none 0 0, .slice none 0 0]) rfl rfl 36 _ K5.out rfl rfl (by simp [Value.oneCell']) ?_; intro w9 hb9 hos9; (have HZ := Lib.hid hb9); (have HB9 := Lib.hid (below_two HB2.out hos9 (fun k hk e => by omega) (by have := K5.out.lt; omega))); clear hb9 hos9))
    exact bodyPost_ret (v := .agg (#[.int .i64 4, .int .u64 (f : Int), .int .u64 (o : Int), .int .u64 (t : Int), .int .u64 (i : Int), .int .u64 0, .int .u64 0, .int .u64 (s : Int), .bool y, .slice none 0 0, .slice none 0 0, .slice none 0 0])) (results_cell_row rfl _ _ (w.heap.size + 1) 36 _ (0, 0) _ rfl HZ.out Try.underlying36 rfl rfl) rfl ⟨rfl, HB9.out⟩

set_option maxHeartbeats 2000000 in
theorem bare_5 (f o t i l c s : Nat) (y : Bool) (a b d : Option Addr) (na nb nd ca cb cd : Nat) (w : World) :
    Calls Try.prog 39 #[.agg (#[.int .i64 5, .int .u64 (f : Int), .int .u64 (o : Int), .int .u64 (t : Int), .int .u64 (i : Int), .int .u64 (l : Int), .int .u64 (c : Int), .int .u64 (s : Int), .bool y, .slice a na ca, .slice b nb cb, .slice d nd cd])] w fun r w' => r = .returned (.agg (#[.int .i64 5, .int .u64 (f : Int), .int .u64 (o : Int), .int .u64 (t : Int), .int .u64 (i : Int), .int .u64 (l : Int), .int .u64 0, .int .u64 (s : Int), .bool false, .slice none 0 0, .slice b nb cb, .slice d nd cd])) ∧ Below w.heap.size w w' := by
  go_enter Try.func39, Try.ntmps39
  go_upto_region 2 with fail
  refine world_cut (fun W => Below w.heap.size w W ∧ Blk W w.heap.size 36 (#[.int .i64 5, .int .u64 (f : Int), .int .u64 (o : Int), .int .u64 (t : Int), .int .u64 (i : Int), .int .u64 (l : Int), .int .u64 (c : Int), .int .u64 (s : Int), .bool y, .slice a na ca, .slice b nb cb, .slice d nd cd]) ∧ Blk W (w.heap.size + 1) 36 (#[.int .i64 0, .int .u64 0, .int .u64 0, .int .u64 0, .int .u64 0, .int .u64 0, .int .u64 0, .int .u64 0, .bool false, .slice none 0 0, .slice none 0 0, .slice none 0 0]) ∧ Blk W (w.heap.size + 1 + 1) 36 (#[.int .i64 5, .int .u64 (f : Int), .int .u64 (o : Int), .int .u64 (t : Int), .int .u64 0, .int .u64 0, .int .u64 0, .int .u64 0, .bool false, .slice none 0 0, .slice none 0 0, .slice none 0 0])) ⟨((Below.refl w.heap.size w).alloc (Nat.le_refl _) _).alloc (by simp) _ |>.alloc (by simp; omega) _, ((Blk.new w _ _).alloc _).alloc _, (Blk.newAt _ _ _ _ _ (by simp) rfl).alloc _, Blk.newAt _ _ _ _ _ (by simp) rfl⟩ ?_
  rintro w1 ⟨hb1, k1, k2, k3⟩
  have HB := Lib.hid hb1
  have K1 := Lib.hid k1
  have K2 := Lib.hid k2
  have K3 := Lib.hid k3
  have c0 : w1.cell? ⟨w.heap.size, 0, none⟩ = some (.int .i64 5) := by rw [k1.cell]; rfl
  clear hb1 k1 k2 k3
  go_upto_region 12 with fail
  refine region_by_l [(58, .is (.pointer (some ⟨w.heap.size, 4, none⟩))), (59, .is (.int .u64 (i : Int))), (60, .is (.pointer (some ⟨w.heap.size, 5, none⟩))), (61, .is (.int .u64 (l : Int))), (62, .is (.pointer (some ⟨w.heap.size, 7, none⟩))), (63, .is (.int .u64 (s : Int))), (64, .is (.pointer (some ⟨w.heap.size, 10, none⟩))), (65, .is (.slice b nb cb)), (66, .is (.pointer (some ⟨w.heap.size, 11, none⟩))), (67, .is (.slice d nd cd)), (68, .is (.pointer (some ⟨(w.heap.size + 1 + 1), 4, none⟩))), (69, .is (.pointer (some ⟨(w.heap.size + 1 + 1), 5, none⟩))), (70, .is (.pointer (some ⟨(w.heap.size + 1 + 1), 7, none⟩))), (71, .is (.pointer (some ⟨(w.heap.size + 1 + 1), 10, none⟩))), (72, .is (.pointer (some ⟨(w.heap.size + 1 + 1), 11, none⟩)))] [1, 2, 3] (Sts w1 (w.heap.size + 1 + 1) 36 (#[.int .i64 5, .int .u64 (f : Int), .int .u64 (o : Int), .int .u64 (t : Int), .int .u64 0, .int .u64 0, .int .u64 0, .int .u64 0, .bool false, .slice none 0 0, .slice none 0 0, .slice none 0 0]) [(11, 4, (.int .u64 (i : Int))), (13, 5, (.int .u64 (l : Int))), (15, 7, (.int .u64 (s : Int))), (17, 10, (.slice b nb cb)), (19, 11, (.slice d nd cd))]) (by kernel_rfl) (by kernel_rfl) (by kernel_rfl) (by kernel_rfl) (by kernel_rfl) (Sts.start ((OnlyS.refl _ w1).drew) (K3.out.keep ((Below.refl _ _).drew))) ?_ ?_
  · refine ⟨?c0, ?c1, ?c2, ?c3, ?c4, ?c5, ?c6, ?c7, ?c8, ?c9, ?c10, ?c11, ?c12, ?c13, ?c14, ?c15, ?c16, ?c17, ?c18, ?c19, trivial⟩
    case c0 => exact askedL_none (by kernel_rfl) (fun L => ask_field (guard_none rfl) _ (.tmp 1) 4 (.pointer (some ⟨w.heap.size, 0, none⟩)) (.pointer (some ⟨w.heap.size, 4, none⟩)) rfl rfl (by intro k hk; cases hk; rfl) (fun W => by kernel_rfl))
    case c1 => exact askedL_none (by kernel_rfl) (fun L => ask_load (guard_none rfl) _ (.tmp 58) (.pointer (some ⟨w.heap.size, 4, none⟩)) (.int .u64 (i : Int)) rfl rfl (by intro k hk; cases hk; rfl) (fun W hW => load_u64m W _ _ (by rw [(K1.out.onlyS hW.os (by omega)).cell]; rfl)))
    case c2 => exact askedL_none (by kernel_rfl) (fun L => ask_field (guard_none rfl) _ (.tmp 1) 5 (.pointer (some ⟨w.heap.size, 0, none⟩)) (.pointer (some ⟨w.heap.size, 5, none⟩)) rfl rfl (by intro k hk; cases hk; rfl) (fun W => by kernel_rfl))
    case c3 => exact askedL_none (by kernel_rfl) (fun L => ask_load (guard_none rfl) _ (.tmp 60) (.pointer (some ⟨w.heap.size, 5, none⟩)) (.int .u64 (l : Int)) rfl rfl (by intro k hk; cases hk; rfl) (fun W hW => load_u64m W _ _ (by rw [(K1.out.onlyS hW.os (by omega)).cell]; rfl)))
    case c4 => exact askedL_none (by kernel_rfl) (fun L => ask_field (guard_none rfl) _ (.tmp 1) 7 (.pointer (some ⟨w.heap.size, 0, none⟩)) (.pointer (some ⟨w.heap.size, 7, none⟩)) rfl rfl (by intro k hk; cases hk; rfl) (fun W => by kernel_rfl))
    case c5 => exact askedL_none (by kernel_rfl) (fun L => ask_load (guard_none rfl) _ (.tmp 62) (.pointer (some ⟨w.heap.size, 7, none⟩)) (.int .u64 (s : Int)) rfl rfl (by intro k hk; cases hk; rfl) (fun W hW => load_u64m W _ _ (by rw [(K1.out.onlyS hW.os (by omega)).cell]; rfl)))
    case c6 => exact askedL_none (by kernel_rfl) (fun L => ask_field (guard_none rfl) _ (.tmp 1) 10 (.pointer (some ⟨w.heap.size, 0, none⟩)) (.pointer (some ⟨w.heap.size, 10, none⟩)) rfl rfl (by intro k hk; cases hk; rfl) (fun W => by kernel_rfl))
    case c7 => exact askedL_none (by kernel_rfl) (fun L => ask_load (guard_none rfl) _ (.tmp 64) (.pointer (some ⟨w.heap.size, 10, none⟩)) (.slice b nb cb) rfl rfl (by intro k hk; cases hk; rfl) (fun W hW => load_nsm W _ _ (by rw [(K1.out.onlyS hW.os (by omega)).cell]; rfl)))
    case c8 => exact askedL_none (by kernel_rfl) (fun L => ask_field (guard_none rfl) _ (.tmp 1) 11 (.pointer (some ⟨w.heap.size, 0, none⟩)) (.pointer (some ⟨w.heap.size, 11, none⟩)) rfl rfl (by intro k hk; cases hk; rfl) (fun W => by kernel_rfl))
    case c9 => exact askedL_none (by kernel_rfl) (fun L => ask_load (guard_none rfl) _ (.tmp 66) (.pointer (some ⟨w.heap.size, 11, none⟩)) (.slice d nd cd) rfl rfl (by intro k hk; cases hk; rfl) (fun W hW => load_bsm W _ _ (by rw [(K1.out.onlyS hW.os (by omega)).cell]; rfl)))
    case c10 => exact askedL_none (by kernel_rfl) (fun L => ask_field (guard_none rfl) _ (.tmp 3) 4 (.pointer (some ⟨(w.heap.size + 1 + 1), 0, none⟩)) (.pointer (some ⟨(w.heap.size + 1 + 1), 4, none⟩)) rfl rfl (by intro k hk; cases hk; rfl) (fun W => by kernel_rfl))
    case c11 => exact askedL_store (guard_none rfl) _ (.tmp 68) (.tmp 59) 4 (.int .u64 (i : Int)) rfl rfl rfl rfl (facts_is (by simp [isFact])) (by decide) (by simp) rfl (by kernel_rfl) (by simp) (by simp) (by simp)
    case c12 => exact askedL_none (by kernel_rfl) (fun L => ask_field (guard_none rfl) _ (.tmp 3) 5 (.pointer (some ⟨(w.heap.size + 1 + 1), 0, none⟩)) (.pointer (some ⟨(w.heap.size + 1 + 1), 5, none⟩)) rfl rfl (by intro k hk; cases hk; rfl) (fun W => by kernel_rfl))
    case c13 => exact askedL_store (guard_none rfl) _ (.tmp 69) (.tmp 61) 5 (.int .u64 (l : Int)) rfl rfl rfl rfl (facts_is (by simp [isFact])) (by decide) (by simp) rfl (by kernel_rfl) (by simp) (by simp) (by simp)
    case c14 => exact askedL_none (by kernel_rfl) (fun L => ask_field (guard_none rfl) _ (.tmp 3) 7 (.pointer (some ⟨(w.heap.size + 1 + 1), 0, none⟩)) (.pointer (some ⟨(w.heap.size + 1 + 1), 7, none⟩)) rfl rfl (by intro k hk; cases hk; rfl) (fun W => by kernel_rfl))
    case c15 => exact askedL_store (guard_none rfl) _ (.tmp 70) (.tmp 63) 7 (.int .u64 (s : Int)) rfl rfl rfl rfl (facts_is (by simp [isFact])) (by decide) (by simp) rfl (by kernel_rfl) (by simp) (by simp) (by simp)
    case c16 => exact askedL_none (by kernel_rfl) (fun L => ask_field (guard_none rfl) _ (.tmp 3) 10 (.pointer (some ⟨(w.heap.size + 1 + 1), 0, none⟩)) (.pointer (some ⟨(w.heap.size + 1 + 1), 10, none⟩)) rfl rfl (by intro k hk; cases hk; rfl) (fun W => by kernel_rfl))
    case c17 => exact askedL_store (guard_none rfl) _ (.tmp 71) (.tmp 65) 10 (.slice b nb cb) rfl rfl rfl rfl (facts_is (by simp [isFact])) (by decide) (by simp) rfl (by kernel_rfl) (by simp) (by simp) (by simp)
    case c18 => exact askedL_none (by kernel_rfl) (fun L => ask_field (guard_none rfl) _ (.tmp 3) 11 (.pointer (some ⟨(w.heap.size + 1 + 1), 0, none⟩)) (.pointer (some ⟨(w.heap.size + 1 + 1), 11, none⟩)) rfl rfl (by intro k hk; cases hk; rfl) (fun W => by kernel_rfl))
    case c19 => exact askedL_store (guard_none rfl) _ (.tmp 72) (.tmp 67) 11 (.slice d nd cd) rfl rfl rfl rfl (facts_is (by simp [isFact])) (by decide) (by simp) rfl (by kernel_rfl) (by simp) (by simp) (by simp)
  · intro L af W hL hW hd' hs' hf'
    have t1 : af.tmps.getD 1 undef = (.pointer (some ⟨w.heap.size, 0, none⟩)) := hf' 1 rfl
    have t2 : af.tmps.getD 2 undef = (.pointer (some ⟨(w.heap.size + 1), 0, none⟩)) := hf' 2 rfl
    have t3 : af.tmps.getD 3 undef = (.pointer (some ⟨(w.heap.size + 1 + 1), 0, none⟩)) := hf' 3 rfl
    obtain ⟨us, hus, haf⟩ := act_open 74 af hs' hd'
    rw [← hus] at t1 t2 t3
    have el : ((List.range 74).map us).toArray = #[us 0, us 1, us 2, us 3, us 4, us 5, us 6, us 7, us 8, us 9, us 10, us 11, us 12, us 13, us 14, us 15, us 16, us 17, us 18, us 19, us 20, us 21, us 22, us 23, us 24, us 25, us 26, us 27, us 28, us 29, us 30, us 31, us 32, us 33, us 34, us 35, us 36, us 37, us 38, us 39, us 40, us 41, us 42, us 43, us 44, us 45, us 46, us 47, us 48, us 49, us 50, us 51, us 52, us 53, us 54, us 55, us 56, us 57, us 58, us 59, us 60, us 61, us 62, us 63, us 64, us 65, us 66, us 67, us 68, us 69, us 70, us 71, us 72, us 73] := rfl
    rw [el] at haf
    subst haf
    rw [t1, t2, t3]
    obtain ⟨hos, hk4⟩ := hW.ended hL (by kernel_rfl) (#[.int .i64 5, .int .u64 (f : Int), .int .u64 (o : Int), .int .u64 (t : Int), .int .u64 (i : Int), .int .u64 (l : Int), .int .u64 0, .int .u64 (s : Int), .bool false, .slice none 0 0, .slice b nb cb, .slice d nd cd]) rfl (by simp only [List.size_toArray, List.length_cons, List.length_nil]; intro j hj; rcases j with _ | _ | _ | _ | _ | _ | _ | _ | _ | _ | _ | _ | j <;> first | rfl | omega)
    have K4 := Lib.hid hk4
    have K5 := Lib.hid (K2.out.onlyS hos (by omega))
    have HB2 := Lib.hid (below_two HB.out hos (fun k hk e => by omega) (by have := K3.out.lt; omega))
    clear hus t1 t2 t3 el hf' hs' hd' hW hos hk4 hL
    go_wp2_with (first | (refine wpList_load_by rfl 36 (.tmp 3) rfl _ _ rfl (K4.out.loads 36 _ Try.underlying36 rfl rfl) ?_) | (refine wpList_store_all rfl 36 (.tmp 2) (.tmp 73) rfl (w.heap.size + 1) (#[.int .i64 5, .int .u64 (f : Int), .int .u64 (o : Int), .int .u64 (t : Int), .int .u64 (i : Int), .int .u64 (l : Int), .int .u64 0, .int .u64 (s : Int), .bool false, .slice none 0 0, .slice b nb cb, .slice d nd cd]) rfl rfl 36 _ K5.out rfl rfl (by simp [Value.oneCell']) ?_; intro w9 hb9 hos9; (have HZ := Lib.hid hb9); (have HB9 := Lib.hid (below_two HB2.out hos9 (fun k hk e => by omega) (by have := K5.out.lt; omega))); clear hb9 hos9))
    exact bodyPost_ret (v := .agg (#[.int .i64 5, .int .u64 (f : Int), .int .u64 (o : Int), .int .u64 (t : Int), .int .u64 (i : Int), .int .u64 (l : Int), .int .u64 0, .int .u64 (s : Int), .bool false, .slice none 0 0, .slice b nb cb, .slice d nd cd])) (results_cell_row rfl _ _ (w.heap.size + 1) 36 _ (0, 0) _ rfl HZ.out Try.underlying36 rfl rfl) rfl ⟨rfl, HB9.out⟩

theorem bare_ok {m : Mg} (h : m.Ok) : (MsgMath.bareM m).Ok := by
  unfold MsgMath.bareM
  repeat' split
  all_goals
    refine ⟨h.kl, h.kh, h.f, h.o, h.t, ?_, ?_, ?_, ?_, ?_, ?_⟩ <;> first | exact h.i | exact h.l | exact h.c | exact h.s | exact h.e | exact h.m | (simp; done) | decide

theorem els_nil (w : World) : Els w (.slice none 0 0) [] := .inl ⟨rfl, rfl⟩
theorem hasAll_nil (w : World) : HasAll w [] := fun _ hu => absurd hu List.not_mem_nil

/-- bare: a message with the fields of its kind alone. -/
theorem refBare_any (m : Mg) (ve vm vg : Value) (us : List EE) (w : World) (hm : MHas w m ve vm vg us) :
    Calls Try.prog 39 #[.agg (mgC m ve vm vg)] w fun r w' => ∃ ve' vm' vg' us', r = .returned (.agg (mgC (MsgMath.bareM m) ve' vm' vg')) ∧ MHas w' (MsgMath.bareM m) ve' vm' vg' us' ∧ Below w.heap.size w w' := by
  obtain ⟨a, ca, rfl⟩ := hm.els.form
  obtain ⟨b, cb, rfl⟩ := hm.ms.shape
  obtain ⟨d, cd, rfl⟩ := hm.gs.shape
  have hok := bare_ok hm.ok
  obtain ⟨k, f, o, t, i, l, c, s, y, e, ms, g⟩ := m
  by_cases h1 : k = 1
  · subst h1
    have e1 : MsgMath.bareM ⟨1, f, o, t, i, l, c, s, y, e, ms, g⟩ = ⟨1, f, o, t, i, l, 0, 0, false, [], [], []⟩ := rfl
    rw [e1] at hok ⊢
    refine (bare_1 f o t i l c s y a b d us.length ms.length g.length ca cb cd w).mono ?_
    rintro r w' ⟨rfl, hb⟩
    exact ⟨_, _, _, [], rfl, ⟨hok, els_nil _, hasAll_nil _, rfl, .inl ⟨rfl, rfl⟩, .inl ⟨rfl, rfl⟩, by simp, by simp, by simp⟩, hb⟩
  by_cases h2 : k = 2
  · subst h2
    have e1 : MsgMath.bareM ⟨2, f, o, t, i, l, c, s, y, e, ms, g⟩ = ⟨2, f, o, t, 0, 0, 0, 0, y, [], [], []⟩ := rfl
    rw [e1] at hok ⊢
    refine (bare_2 f o t i l c s y a b d us.length ms.length g.length ca cb cd w).mono ?_
    rintro r w' ⟨rfl, hb⟩
    exact ⟨_, _, _, [], rfl, ⟨hok, els_nil _, hasAll_nil _, rfl, .inl ⟨rfl, rfl⟩, .inl ⟨rfl, rfl⟩, by simp, by simp, by simp⟩, hb⟩
  by_cases h3 : k = 3
  · subst h3
    have e1 : MsgMath.bareM ⟨3, f, o, t, i, l, c, s, y, e, ms, g⟩ = ⟨3, f, o, t, i, l, c, s, false, e, [], []⟩ := rfl
    rw [e1] at hok ⊢
    refine (bare_3 f o t i l c s y a b d us.length ms.length g.length ca cb cd w).mono ?_
    rintro r w' ⟨rfl, hb⟩
    exact ⟨_, _, _, us, rfl, ⟨hok, hm.els.below (Nat.le_refl _) hb, hm.all.below (Nat.le_refl _) hb, hm.ents, .inl ⟨rfl, rfl⟩, .inl ⟨rfl, rfl⟩, hm.ul, by simp, by simp⟩, hb⟩
  by_cases h4 : k = 4
  · subst h4
    have e1 : MsgMath.bareM ⟨4, f, o, t, i, l, c, s, y, e, ms, g⟩ = ⟨4, f, o, t, i, 0, 0, s, y, [], [], []⟩ := rfl
    rw [e1] at hok ⊢
    refine (bare_4 f o t i l c s y a b d us.length ms.length g.length ca cb cd w).mono ?_
    rintro r w' ⟨rfl, hb⟩
    exact ⟨_, _, _, [], rfl, ⟨hok, els_nil _, hasAll_nil _, rfl, .inl ⟨rfl, rfl⟩, .inl ⟨rfl, rfl⟩, by simp, by simp, by simp⟩, hb⟩
  by_cases h5 : k = 5
  · subst h5
    have e1 : MsgMath.bareM ⟨5, f, o, t, i, l, c, s, y, e, ms, g⟩ = ⟨5, f, o, t, i, l, 0, s, false, [], ms, g⟩ := rfl
    rw [e1] at hok ⊢
    refine (bare_5 f o t i l c s y a b d us.length ms.length g.length ca cb cd w).mono ?_
    rintro r w' ⟨rfl, hb⟩
    exact ⟨_, _, _, [], rfl, ⟨hok, els_nil _, hasAll_nil _, rfl, hm.ms.below (Nat.le_refl _) hb, hm.gs.below (Nat.le_refl _) hb, by simp, hm.ml, hm.gl⟩, hb⟩
  have e1 : MsgMath.bareM ⟨k, f, o, t, i, l, c, s, y, e, ms, g⟩ = ⟨k, f, o, t, 0, 0, 0, 0, false, [], [], []⟩ := by
    unfold MsgMath.bareM
    rw [if_neg h1, if_neg h2, if_neg h3, if_neg h4, if_neg h5]
  rw [e1] at hok ⊢
  refine (bare_0 k (beq_false_of_ne h1) (beq_false_of_ne h2) (beq_false_of_ne h3) (beq_false_of_ne h4) (beq_false_of_ne h5) f o t i l c s y a b d us.length ms.length g.length ca cb cd w).mono ?_
  rintro r w' ⟨rfl, hb⟩
  exact ⟨_, _, _, [], rfl, ⟨hok, els_nil _, hasAll_nil _, rfl, .inl ⟨rfl, rfl⟩, .inl ⟨rfl, rfl⟩, by simp, by simp, by simp⟩, hb⟩
end Go.Proofs.Ytgbhfolbkgibfaa

