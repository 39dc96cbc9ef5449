/- Joined: NetTake, MsgOpen. -/
import Derived.Test.YtgbhfolbkgibfaaLBD
import Derived.Test.YtgbhfolbkgibfaaLateTailsL
import Derived.Test.YtgbhfolbkgibfaaLAO
import Derived.Deep.Slices
import Derived.OpenShut
import Derived.SizedLaws
/- Layer 19's reference: Take. -/
namespace Go.Proofs.Ytgbhfolbkgibfaa
set_option maxRecDepth 20000
open Go.RowKit Go.Maps BinMath NetMath Reg
open MsgMath (Mg formedM)

/-- A list of messages, wherever it lies. -/
def Mls (w : World) (v : Value) (xs : List MM) : Prop :=
  (v = .slice none 0 0 ∧ xs = []) ∨ ∃ ad cap, v = .slice (some ad) xs.length cap ∧ ∀ j u, (xs.flatMap MM.cells)[j]? = some u → w.cell? (ad.add j) = some u

theorem mms_take (xs : List MM) (i : Nat) : (xs.flatMap MM.cells).take (i * 12) = (xs.take i).flatMap MM.cells := by
  induction xs generalizing i with
  | nil => simp
  | cons u us ih =>
    cases i with
    | zero => simp
    | succ i =>
      rw [List.flatMap_cons, List.take_succ_cons, List.flatMap_cons, ← ih i, show (i + 1) * 12 = u.cells.length + i * 12 by rw [MM.cells_len]; omega, List.take_length_add_append]

theorem mms_one {xs : List MM} {w : World} (h : MMHas w xs) : ∀ v ∈ xs.flatMap MM.cells, v.oneCell' = true := fun v hv => by
  obtain ⟨x, hx, hv⟩ := List.mem_flatMap.1 hv
  exact mm_one (h x hx) v hv

theorem MRow.cells {w : World} {B : Nat} {a : Option Addr} {n c : Nat} {xs : List MM} (h : MRow w B (.slice a n c) xs) (hn : xs.length = n) : (a = none ∧ xs = [] ∧ c = 0) ∨ ∃ g, a = some ⟨g, 0, none⟩ ∧ n ≤ c ∧ ∀ j u, (xs.flatMap MM.cells)[j]? = some u → w.cell? ⟨g, j, none⟩ = some u := by
  subst hn
  have h0 := h
  rcases h.2 with ⟨hv, hn0⟩ | ⟨g, cap, cur, hv, hbg, hg, hnc, hcm, hcs, htake⟩
  · simp only [Value.slice.injEq] at hv
    exact .inl ⟨hv.1, List.eq_nil_of_length_eq_zero hn0, hv.2.2⟩
  · simp only [Value.slice.injEq] at hv
    obtain ⟨rfl, -, rfl⟩ := hv
    refine .inr ⟨g, rfl, hnc, fun j u hj => ?_⟩
    have h1 := World.ownsRow.cells (g := g) h0 rfl j u hj
    rwa [addr_add, Nat.zero_add] at h1

/-- Its first i. -/
theorem MRow.first {w : World} {B : Nat} {a : Option Addr} {n c : Nat} {xs : List MM} (h : MRow w B (.slice a n c) xs) (hn : xs.length = n) (i : Nat) (hi : i ≤ n) : Mls w (.slice a i c) (xs.take i) := by
  rcases h.cells hn with ⟨rfl, rfl, rfl⟩ | ⟨g, rfl, -, hc⟩
  · have : i = 0 := by simp at hn; omega
    subst this
    exact .inl ⟨rfl, rfl⟩
  · refine .inr ⟨⟨g, 0, none⟩, c, by rw [List.length_take, Nat.min_eq_left (by omega)], fun j u hj => ?_⟩
    rw [addr_add, Nat.zero_add]
    rw [← mms_take, List.getElem?_take] at hj
    split at hj
    · exact hc j u hj
    · cases hj
/-- Those from i on. -/
theorem MRow.from_ {w : World} {B : Nat} {a : Option Addr} {n c : Nat} {xs : List MM} (h : MRow w B (.slice a n c) xs) (hn : xs.length = n) (i : Nat) (hi : i ≤ n) : Mls w (sliced a i n c 12) (xs.drop i) := by
  rcases h.cells hn with ⟨rfl, rfl, rfl⟩ | ⟨g, rfl, hnc, hc⟩
  · have : i = 0 := by simp at hn; omega
    subst this
    have : n = 0 := by simpa using hn.symm
    subst this
    exact .inl ⟨by simp [sliced], rfl⟩
  · unfold sliced
    by_cases hci : c = i
    · rw [if_pos hci]
      refine .inr ⟨⟨g, 0, none⟩, c - i, by rw [List.length_drop, hn], fun j u hj => ?_⟩
      rw [List.drop_of_length_le (by omega)] at hj
      simp at hj
    · rw [if_neg hci]
      refine .inr ⟨⟨g, i * 12, none⟩, c - i, by rw [List.length_drop, hn]; simp [addr_add], fun j u hj => ?_⟩
      rw [addr_add]
      rw [← mms_drop, List.getElem?_drop] at hj
      exact hc _ u hj

theorem slice_ml_to (a : Option Addr) (n c k : Nat) (hk : k ≤ c) (W : World) : (Instr.sliceAt 27 (.slice a n c) none (some (.int .i64 (k : Int))) none).run Try.prog W = .ok (.slice a k c) W := by
  have hs : (Go.sizeOf 36).run Try.prog W = .ok 12 W := by kernel_rfl
  have ht : Try.prog.underlying 27 = some (.slice (Try.prog.elem 27)) := by rw [elem_msgs]; exact Try.underlying27
  rw [run_sliceAt_slice _ _ _ _ _ _ ht, run_slice_h _ _ _ _ _ ht .i64 (k : Int) (by omega) (by omega), elem_msgs, hs]
  cases a with
  | none => simp [Result.andThen, sliced]
  | some ad => simp [Result.andThen, sliced, Addr.add]
theorem slice_ml_from (a : Option Addr) (n c k : Nat) (hk : k ≤ n) (W : World) : (Instr.sliceAt 27 (.slice a n c) (some (.int .i64 (k : Int))) none none).run Try.prog W = .ok (sliced a k n c 12) W := by
  have hs : (Go.sizeOf 36).run Try.prog W = .ok 12 W := by kernel_rfl
  have ht : Try.prog.underlying 27 = some (.slice (Try.prog.elem 27)) := by rw [elem_msgs]; exact Try.underlying27
  rw [run_sliceAt_slice _ _ _ _ _ _ ht, run_slice_l _ _ _ _ _ ht .i64 (k : Int) (by omega) (by omega), elem_msgs, hs]
  rfl

/-- append(v, y...), v the call's own. -/
theorem append_mms {w : World} {B : Nat} {v y : Value} {xs ys : List MM} (hB : B ≤ w.heap.size) (h : MRow w B v xs) (hy : Mls w y ys) (hone : ∀ u ∈ ys.flatMap MM.cells, u.oneCell' = true) (hl : xs.length + ys.length ≤ 1000) :
    ∃ v' w', (Builtin.append_ #[27, 27] 27 #[v, y]).run Try.prog w = .ok v' w' ∧ MRow w' B v' (xs ++ ys) ∧ w.grownBy w' v.ownBlock := by
  obtain ⟨i0, hi, hz0, hz1, hz2⟩ := info_parts info_msg12
  rcases hy with ⟨rfl, rfl⟩ | ⟨ad, cap, rfl, hc⟩
  · refine ⟨v, w, run_append_owned_none (P := Try.prog) (w := w) B _ _ _ i0 12 Try.underlying27 hi v xs.length (xs.flatMap MM.cells) h, by rw [List.append_nil]; exact h, ⟨rfl, rfl, rfl, Nat.le_refl _, fun _ _ _ => rfl⟩⟩
  · obtain ⟨v', w', hr, h1, h2, -⟩ := run_append_own (P := Try.prog) w B 27 27 36 i0 (.agg zeroM) 12 144 Try.underlying27 hi hz0 hz1 hz2 rfl (by decide) v xs.length (xs.flatMap MM.cells) h ad ys.length cap (ys.flatMap MM.cells) (mms_len ys) hc hone (by unfold maxLen; omega) (by omega) hB
    refine ⟨v', w', hr, ?_, h2⟩
    unfold MRow
    rw [List.length_append, List.flatMap_append]
    exact h1

section
variable {ops : Array Oper} {tab : List (List Nat)} {fin : List Tmp} {G : World → Prop} {f : Tmp → Fact} {i : Nat} {o : Oper}
theorem ask_build_ml (hG : ∀ W W', G W → Below W.heap.size W W' → G W') (hg : guardOk ops f o) (B : Nat) (hB : ∀ W, G W → B ≤ W.heap.size) (ho : o.op = .buildSlice 27 0 #[]) (hd : ∀ k, o.dst = some k → f k = newF B []) : Asked Try.prog ops tab fin G f i o := by
  refine ask_grow hG hg fun x W hW hk => ?_
  have hr : (Instr.buildSlice 27 0 #[]).run Try.prog W = .ok (.slice (some ⟨W.heap.size, 0, none⟩) 0 0) (W.alloc (.cells #[] 36)) := by
    simp [Instr.buildSlice, run_underlying Try.underlying27, Result.andThen, Instr.fill, newRow, Array.range_zero']
  refine gives_value (v := .slice (some ⟨W.heap.size, 0, none⟩) 0 0) (w' := W.alloc (.cells #[] 36)) ?_ ⟨(Below.refl _ _).alloc (Nat.le_refl _) _, fun k hk => by rw [hd k hk]; exact ⟨rfl, .inr ⟨W.heap.size, 0, #[], rfl, hB W hW, heap_alloc_new W _, Nat.le_refl _, by decide, rfl, rfl⟩⟩⟩
  simp [execOp, ho, hr, Result.andThen]

theorem ask_append_mms (hg : guardOk ops f o) (hst : stillBut2 ops tab fin f i o = true) (s t : Operand) (B : Nat) (xs ys : List MM) (y : Value) (hty : o.type = 27)
    (ho : o.op = .call { callee := .builtin .append, args := #[s, t], argTypes := #[27, 27] }) (hs : opFact f s = newF B xs) (ht : opFact f t = .is y) (hy : ∀ W, G W → Mls W y ys) (hone : ∀ u ∈ ys.flatMap MM.cells, u.oneCell' = true) (hl : xs.length + ys.length ≤ 1000)
    (hBG : ∀ W, G W → B ≤ W.heap.size) (hGg : ∀ W W' row, G W → W.grownBy W' row → (∀ k, row = some k → B ≤ k) → G W') (hd : ∀ k, o.dst = some k → f k = newF B (xs ++ ys)) : Asked2 Try.prog ops tab fin G f i o := by
  refine ask_write2 hg hst fun x W hW hk => ?_
  have h1 := told_op hk s (by rw [ho]; simp [Op.operands, Call.operands])
  rw [hs] at h1
  have h1 : MRow W B (evalBy x s) xs := h1
  have e2 := evalBy_opVal hk t (by rw [ho]; simp [Op.operands, Call.operands]) ht
  obtain ⟨v', w', hr, h2, h3⟩ := append_mms (hBG W hW) h1 (hy W hW) hone hl
  refine gives_value (v := v') (w' := w') ?_ ⟨hGg W w' _ hW h3 (fun k hk => (World.ownsRow.lt h1 k hk).1), fun k hk => by rw [hd k hk]; exact h2⟩
  simp [execOp, ho, resolve, invoke, builtin, hty, e2, hr, Result.andThen]
end

theorem add_i64n (i : Nat) (h : i < 1000000) (W : World) : (do eqGuard .add 3 (.tmp 29) (.const (.int .i64 1)) (.int .i64 (i : Int)) (.int .i64 1); binOp .add 3 (.int .i64 (i : Int)) (.int .i64 1) : Sem Value).run Try.prog W = .ok (.int .i64 ((i + 1 : Nat) : Int)) W := by
  have e : IntKind.i64.wrap ((i : Int) + 1) = ((i + 1 : Nat) : Int) := by rw [IntKind.wrap_i64]; omega
  simp [eqGuard, go_sem, e]

/-- How Take ends where there is such a place. -/
def RTook (R : Nat) (vW : Value) (xs' : List MM) (x : MM) (w : World) (e : Ending) (w' : World) : Prop :=
  e = .returned (.tuple #[.agg (mgC x.m x.ve x.vm x.vg), .int .i64 0]) ∧ (∃ vL', Blk w' R 30 #[vL', vW] ∧ MRow w' w.heap.size vL' xs') ∧ OnlyS (fun k => k = R) w w'

set_option maxHeartbeats 4000000 in
theorem refTake_in (R : Nat) (n : Nt) (vL vW : Value) (xs : List MM) (i : Nat) (x : MM) (w : World) (h : RNet w R n vL vW xs) (hx : xs[i]? = some x) :
    Calls Try.prog 14 #[.pointer (some ⟨R, 0, none⟩), .int .i64 (i : Int)] w (RTook R vW (xs.take i ++ xs.drop (i + 1)) x w) := by
  have hhas : x.Has w := h.has x (List.mem_of_getElem? hx)
  have hil := (List.getElem?_eq_some_iff.1 hx).1
  obtain ⟨w0, hw0⟩ : ∃ w0, w0 = w.alloc (.cells zeroM 36) := ⟨_, rfl⟩
  have hb0 : Below w.heap.size w w0 := by rw [hw0]; exact (Below.refl _ _).alloc (Nat.le_refl _) _
  have h0 := h.below hb0
  have HAt := Lib.hid (refAt_in R vL vW xs i x w0 h0.blk h0.row hx (hhas.below (Nat.le_refl _) hb0))
  have HZ0 := Lib.hid (show Blk w0 w.heap.size 36 zeroM by rw [hw0]; exact Blk.new w _ _)
  have hs0 : w0.heap.size = w.heap.size + 1 := by rw [hw0]; simp
  obtain ⟨m, ve, vm, vg, us⟩ := x
  have hm : MHas w0 m ve vm vg us := hhas.below (Nat.le_refl _) hb0
  have hRw : R < w.heap.size := h.blk.lt
  obtain ⟨a, c, rfl⟩ := h.row.form
  obtain ⟨l, hl⟩ : ∃ l, l = xs.length := ⟨_, rfl⟩
  have HLn := Lib.hid hl.symm
  have HL1 := Lib.hid (show xs.length ≤ 256 from h.ll)
  have HIl := Lib.hid (show i < l by omega)
  have HLc := Lib.hid (show l ≤ c by
    rcases h.row.2 with ⟨h1, h0⟩ | ⟨g, cap, cur, h1, -, -, hn, -⟩
    · omega
    · cases h1
      omega)
  have HRow0 := Lib.hid (show MRow w0 0 (.slice a l c) xs by have := h0.row; rwa [← hl] at this)
  have HR0 := Lib.hid (show Blk w0 R 30 #[.slice a l c, vW] by have := h0.blk; rwa [← hl] at this)
  have HOne := Lib.hid (mms_one h.has)
  have HM := Lib.hid hm
  have HB00 := Lib.hid hb0
  have HW0 := Lib.hid hw0
  have HS0 := Lib.hid hs0
  clear hm hx hhas h h0 hl hil hb0 hw0 hs0
  simp only at HAt
  go_enter Try.func14, Try.ntmps14
  go_wp2_with fail
  have e0 : w0 = w.alloc (.cells #[.int .i64 0, .int .u64 0, .int .u64 0, .int .u64 0, .int .u64 0, .int .u64 0, .int .u64 0, .int .u64 0, .bool false, .slice none 0 0, .slice none 0 0, .slice none 0 0] 36) := HW0.out
  rw [← e0]
  clear e0 HW0
  refine HAt.out.mono ?_
  rintro e w2 ⟨rfl, hb⟩
  have HB0 := Lib.hid hb
  have HM2 := Lib.hid (HM.out.below (Nat.le_refl _) hb)
  clear hb
  go_upto_region 3 with (refine wpList_store_all rfl 36 (.tmp 6) (.tmp 12) rfl w2.heap.size (mgC m ve vm vg) rfl rfl 36 zeroM (Blk.new w2 36 zeroM) (mgM_info _ _ _ _) rfl (by rw [← Array.all_toList, List.all_eq_true]; exact mm_one (x := ⟨m, ve, vm, vg, us⟩) HM2.out) ?_; intro w3 hb hos; (have HE3 := Lib.hid hb); (have HW3 := Lib.hid (show Below w2.heap.size w2 w3 from ((Below.refl _ _).alloc (Nat.le_refl _) _).trans (hos.below (fun k hk e => by have e : k = w2.heap.size := e; omega) (by simp)))); clear hb hos)
  have HB2' := Lib.hid (show Below w0.heap.size w0 w3 from HB0.out.trans (HW3.out.mono HB0.out.size))
  have HB2 := Lib.hid (show Below w.heap.size w w3 from HB00.out.trans (HB2'.out.mono HB00.out.size))
  have HR3 := Lib.hid (HR0.out.keep HB2'.out)
  have HZ3 := Lib.hid (HZ0.out.keep HB2'.out)
  have HLd := Lib.hid (fun (W : World) (hW : Below w3.heap.size w3 W) => load_ml W ⟨R, 0, none⟩ (.slice a l c) (by rw [(HR3.out.keep hW).cell]; rfl))
  have HRow := Lib.hid (show MRow w3 0 (.slice a l c) xs from ownsRow_to HRow0.out fun k hk => HB2'.out.block k (World.ownsRow.lt HRow0.out k hk).2)
  have HSz := Lib.hid (show w.heap.size ≤ w3.heap.size from HB2.out.size)
  have hel : w2.heap.size < w3.heap.size := HE3.out.lt
  have hzl : w.heap.size < w2.heap.size := by have := HB0.out.size; have := HS0.out; omega
  obtain ⟨E, hE⟩ : ∃ E, E = w2.heap.size := ⟨_, rfl⟩
  rw [← hE] at HE3 ⊢
  have HEl := Lib.hid (show w.heap.size < E ∧ E < w3.heap.size by omega)
  clear hE hel hzl
  have HAdd := Lib.hid (fun W => add_i64n i (by have := HIl.out; have := HL1.out; have := HLn.out; omega) W)
  have hG : ∀ W W' : World, Below w3.heap.size w3 W → Below W.heap.size W W' → Below w3.heap.size w3 W' := fun W W' hW hb => hW.trans (hb.mono hW.size)
  have hGg : ∀ (W W' : World) (row : Option Nat), Below w3.heap.size w3 W → W.grownBy W' row → (∀ k, row = some k → w3.heap.size ≤ k) → Below w3.heap.size w3 W' := fun W W' row hW hg hr => hW.grown hg hW.size hr
  refine region_latetails_by 19 [(16, .is (.pointer (some ⟨R, 0, none⟩))), (17, newF w3.heap.size []), (18, .is (.pointer (some ⟨R, 0, none⟩))), (19, .is (.pointer (some ⟨R, 0, none⟩))), (20, .is (.pointer (some ⟨R, 0, none⟩))), (21, .is (.slice a l c)), (22, .is (.int .i64 (i : Int))), (23, .is (.slice a i c)), (24, newF w3.heap.size ([] ++ xs.take i)), (25, .is (.pointer (some ⟨R, 0, none⟩))), (26, .is (.pointer (some ⟨R, 0, none⟩))), (27, .is (.pointer (some ⟨R, 0, none⟩))), (28, .is (.slice a l c)), (29, .is (.int .i64 (i : Int))), (30, .is (.int .i64 ((i + 1 : Nat) : Int))), (31, .is (sliced a (i + 1) l c 12)), (32, newF w3.heap.size ([] ++ xs.take i ++ xs.drop (i + 1))), (33, .is (.pointer (some ⟨R, 0, none⟩))), (34, .is (.pointer (some ⟨R, 0, none⟩)))] [0, 1, 2, 3, 4, 5, 6, 7, 32, 34] (fun W => Below w3.heap.size w3 W) (by kernel_rfl) (by kernel_rfl) (by kernel_rfl) (by kernel_rfl) (by kernel_rfl) (by decide) (by kernel_rfl) ((Below.refl _ _).drew) ?_ ?_
  · refine ⟨?c0, ?c1, ?c2, ?c3, ?c4, ?c5, ?c6, ?c7, ?c8, ?c9, ?c10, ?c11, ?c12, ?c13, ?c14, ?c15, ?c16, ?c17, ?c18, trivial⟩
    case c0 => exact Asked.late (ask_copy (guard_none rfl) (.tmp 0) (.inl rfl) (by intro k hk; cases hk; rfl))
    case c1 => exact Asked.late (ask_build_ml hG (guard_none rfl) w3.heap.size (fun W hW => hW.size) rfl (by intro k hk; cases hk; rfl))
    case c2 => exact Asked.late (ask_copy (guard_none rfl) (.tmp 0) (.inl rfl) (by intro k hk; cases hk; rfl))
    case c3 => exact Asked.late (ask_exec (guard_none rfl) (.pointer (some ⟨R, 0, none⟩)) rfl rfl (by intro k hk; cases hk; rfl) (fun W hW => by kernel_rfl))
    case c4 => exact Asked.late (ask_field (guard_none rfl) _ (.tmp 19) 0 (.pointer (some ⟨R, 0, none⟩)) (.pointer (some ⟨R, 0, none⟩)) rfl rfl (by intro k hk; cases hk; rfl) (fun W => by kernel_rfl))
    case c5 => exact Asked.late (ask_load (guard_none rfl) _ (.tmp 20) (.pointer (some ⟨R, 0, none⟩)) (.slice a l c) rfl rfl (by intro k hk; cases hk; rfl) (fun W hW => HLd.out W hW))
    case c6 => exact Asked.late (ask_copy (guard_none rfl) (.tmp 1) (.inl rfl) (by intro k hk; cases hk; rfl))
    case c7 => exact Asked.late (ask_slice (guard_none rfl) _ (.tmp 21) none (some (.tmp 22)) none (.slice a l c) (.slice a i c) none (some (.int .i64 (i : Int))) none rfl rfl rfl rfl rfl (by intro k hk; cases hk; rfl) (fun W => slice_ml_to a l c i (by have := HIl.out; have := HLc.out; omega) W))
    case c8 => exact ask_append_mms (guard_none rfl) (by kernel_rfl) (.tmp 17) (.tmp 23) w3.heap.size [] (xs.take i) (.slice a i c) (by kernel_rfl) rfl rfl rfl (fun W hW => MRow.first (ownsRow_keep HRow.out hW) HLn.out i (Nat.le_of_lt HIl.out)) (fun u hu => HOne.out u (by rw [← mms_take] at hu; exact List.mem_of_mem_take hu)) (by have := HL1.out; simp only [List.length_nil, List.length_take]; omega) (fun W hW => hW.size) hGg (by intro k hk; cases hk; rfl)
    case c9 => exact Asked.late (ask_copy (guard_none rfl) (.tmp 0) (.inl rfl) (by intro k hk; cases hk; rfl))
    case c10 => exact Asked.late (ask_exec (guard_none rfl) (.pointer (some ⟨R, 0, none⟩)) rfl rfl (by intro k hk; cases hk; rfl) (fun W hW => by kernel_rfl))
    case c11 => exact Asked.late (ask_field (guard_none rfl) _ (.tmp 26) 0 (.pointer (some ⟨R, 0, none⟩)) (.pointer (some ⟨R, 0, none⟩)) rfl rfl (by intro k hk; cases hk; rfl) (fun W => by kernel_rfl))
    case c12 => exact Asked.late (ask_load (guard_none rfl) _ (.tmp 27) (.pointer (some ⟨R, 0, none⟩)) (.slice a l c) rfl rfl (by intro k hk; cases hk; rfl) (fun W hW => HLd.out W hW))
    case c13 => exact Asked.late (ask_copy (guard_none rfl) (.tmp 1) (.inl rfl) (by intro k hk; cases hk; rfl))
    case c14 => exact Asked.late (ask_bin (guard_none rfl) .add _ _ (.tmp 29) (.const (.int .i64 1)) (.int .i64 (i : Int)) (.int .i64 1) (.int .i64 ((i + 1 : Nat) : Int)) rfl rfl rfl (by intro k hk; cases hk; rfl) (fun W => HAdd.out W))
    case c15 => exact Asked.late (ask_slice (guard_none rfl) _ (.tmp 28) (some (.tmp 30)) none none (.slice a l c) (sliced a (i + 1) l c 12) (some (.int .i64 ((i + 1 : Nat) : Int))) none none rfl rfl rfl rfl rfl (by intro k hk; cases hk; rfl) (fun W => slice_ml_from a l c (i + 1) HIl.out W))
    case c16 => exact ask_append_mms (guard_none rfl) (by kernel_rfl) (.tmp 24) (.tmp 31) w3.heap.size ([] ++ xs.take i) (xs.drop (i + 1)) (sliced a (i + 1) l c 12) (by kernel_rfl) rfl rfl rfl (fun W hW => MRow.from_ (ownsRow_keep HRow.out hW) HLn.out (i + 1) HIl.out) (fun u hu => HOne.out u (by rw [← mms_drop] at hu; exact List.mem_of_mem_drop hu)) (by have := HL1.out; simp only [List.nil_append, List.length_take, List.length_drop]; omega) (fun W hW => hW.size) hGg (by intro k hk; cases hk; rfl)
    case c17 => exact Asked.late (ask_exec (guard_none rfl) (.pointer (some ⟨R, 0, none⟩)) rfl rfl (by intro k hk; cases hk; rfl) (fun W hW => by kernel_rfl))
    case c18 => exact Asked.late (ask_field (guard_none rfl) _ (.tmp 33) 0 (.pointer (some ⟨R, 0, none⟩)) (.pointer (some ⟨R, 0, none⟩)) rfl rfl (by intro k hk; cases hk; rfl) (fun W => by kernel_rfl))
  intro a' W hW hd' hs' hf'
  have t0 : a'.tmps.getD 0 undef = .pointer (some ⟨R, 0, none⟩) := hf' 0 rfl
  have t1 : a'.tmps.getD 1 undef = .int .i64 (i : Int) := hf' 1 rfl
  have t2 : a'.tmps.getD 2 undef = undef := hf' 2 rfl
  have t3 : a'.tmps.getD 3 undef = undef := hf' 3 rfl
  have t4 : a'.tmps.getD 4 undef = .pointer (some ⟨w.heap.size, 0, none⟩) := hf' 4 rfl
  have t5 : a'.tmps.getD 5 undef = .int .i64 0 := hf' 5 rfl
  have t6 : a'.tmps.getD 6 undef = .pointer (some ⟨E, 0, none⟩) := hf' 6 rfl
  have t7 : a'.tmps.getD 7 undef = .int .i64 0 := hf' 7 rfl
  have hrow : MRow W w3.heap.size (a'.tmps.getD 32 undef) ([] ++ xs.take i ++ xs.drop (i + 1)) := hf' 32 rfl
  rw [List.nil_append] at hrow
  have tp : a'.tmps.getD 34 undef = .pointer (some ⟨R, 0, none⟩) := hf' 34 rfl
  obtain ⟨us', hus, ha'⟩ := act_open 37 a' hs' hd'
  rw [← hus] at hrow tp t0 t1 t2 t3 t4 t5 t6 t7
  have el : ((List.range 37).map us').toArray = #[us' 0, us' 1, us' 2, us' 3, us' 4, us' 5, us' 6, us' 7, us' 8, us' 9, us' 10, us' 11, us' 12, us' 13, us' 14, us' 15, us' 16, us' 17, us' 18, us' 19, us' 20, us' 21, us' 22, us' 23, us' 24, us' 25, us' 26, us' 27, us' 28, us' 29, us' 30, us' 31, us' 32, us' 33, us' 34, us' 35, us' 36] := rfl
  rw [el] at ha'
  subst ha'
  rw [t0, t1, t2, t3, t4, t5, t6, t7, tp]
  obtain ⟨v', hv'⟩ : ∃ v', v' = us' 32 := ⟨_, rfl⟩
  rw [← hv'] at hrow ⊢
  obtain ⟨na, nc, hvs⟩ := hrow.form
  obtain ⟨nl, hnl⟩ : ∃ nl, nl = (xs.take i ++ xs.drop (i + 1)).length := ⟨_, rfl⟩
  rw [← hnl] at hvs
  subst hvs
  have HNew := Lib.hid hrow
  have HW := Lib.hid hW
  clear hrow hW hd' hs' hf' hus el hv' hnl tp t0 t1 t2 t3 t4 t5 t6 t7
  simp only [List.drop_succ_cons, List.drop_zero]
  go_upto_region 4 with (refine wpList_store_fld rfl 27 (.tmp 34) (.tmp 32) rfl R 0 (.slice na nl nc) rfl rfl 30 #[.slice a l c, vW] #[.slice na nl nc, vW] (HR3.out.keep HW.out) (by simp) rfl (by kernel_rfl) rfl ?_; intro w5 hb ho; (have HZ := Lib.hid hb); (have HO := Lib.hid ho); clear hb ho)
  have HZ5 := Lib.hid ((HZ3.out.keep HW.out).onlyS HO.out (fun e => by have e : w.heap.size = R := e; omega))
  have HE5 := Lib.hid ((HE3.out.keep HW.out).onlyS HO.out (fun e => by have e : E = R := e; have := HEl.out; omega))
  go_wp2_with (first
    | (refine wpList_load_by rfl 36 (.tmp 6) rfl _ (.agg (mgC m ve vm vg)) rfl (Blk.loads (P := Try.prog) HE5.out 36 _ Try.underlying36 rfl (mgM_info _ _ _ _)) ?_)
    | (refine wpList_store_all rfl 36 (.tmp 4) (.tmp 35) rfl w.heap.size (mgC m ve vm vg) rfl rfl 36 zeroM HZ5.out (mgM_info _ _ _ _) rfl (by rw [← Array.all_toList, List.all_eq_true]; exact mm_one (x := ⟨m, ve, vm, vg, us⟩) HM2.out) ?_; intro w6 hb ho; (have HY := Lib.hid hb); (have HO6 := Lib.hid ho); clear hb ho))
  refine bodyPost_ret (v := .tuple #[.agg (mgC m ve vm vg), .int .i64 0]) (ret_msg rfl _ _ w.heap.size (mgC m ve vm vg) _ rfl rfl rfl HY.out) rfl ?_
  have hr5 := HNew.out
  have hR6 : ¬ R = w.heap.size := by omega
  refine ⟨rfl, ⟨_, HZ.out.onlyS HO6.out hR6, ?_⟩, ?_⟩
  · have h6 : MRow w6 w3.heap.size (.slice na nl nc) (xs.take i ++ xs.drop (i + 1)) := ownsRow_to hr5 fun k hk => by
      have h7 := World.ownsRow.lt hr5 k hk
      rw [HO6.out.block k (Nat.lt_of_lt_of_le h7.2 HO.out.size) (fun e => by have e : k = w.heap.size := e; have h8 := h7.1; have := HEl.out; omega), HO.out.block k h7.2 (fun e => by have e : k = R := e; have h8 := h7.1; have := HSz.out; omega)]
    exact ⟨h6.1, h6.2.elim .inl fun ⟨g, cap, cur, hv, hb, r⟩ => .inr ⟨g, cap, cur, hv, Nat.le_trans HSz.out hb, r⟩⟩
  · exact ((OnlyS.of_below (S := fun k => k = R) (HB2.out.trans (HW.out.mono HB2.out.size)) fun _ hk _ => hk).trans HO.out).then HO6.out (fun k hk e => by have e : k = w.heap.size := e; omega)

set_option maxHeartbeats 2000000 in
theorem refTake_out (R : Nat) (n : Nt) (vL vW : Value) (xs : List MM) (i : Int) (w : World) (h : RNet w R n vL vW xs) (hi : ¬ (0 ≤ i ∧ i < xs.length)) :
    Calls Try.prog 14 #[.pointer (some ⟨R, 0, none⟩), .int .i64 i] w fun e w' => e = .returned (.tuple #[.agg zeroM, .int .i64 9]) ∧ Below w.heap.size w w' := by
  obtain ⟨w0, hw0⟩ : ∃ w0, w0 = w.alloc (.cells zeroM 36) := ⟨_, rfl⟩
  have hb0 : Below w.heap.size w w0 := by rw [hw0]; exact (Below.refl _ _).alloc (Nat.le_refl _) _
  have h0 := h.below hb0
  have HAt := Lib.hid (refAt_out R vL vW xs i w0 h0.blk h0.row hi)
  have HZ0 := Lib.hid (show Blk w0 w.heap.size 36 zeroM by rw [hw0]; exact Blk.new w _ _)
  have HS0 := Lib.hid (show w0.heap.size = w.heap.size + 1 by rw [hw0]; simp)
  have HB00 := Lib.hid hb0
  have HW0 := Lib.hid hw0
  clear h h0 hi hb0 hw0
  go_enter Try.func14, Try.ntmps14
  go_wp2_with fail
  have e0 : w0 = w.alloc (.cells #[.int .i64 0, .int .u64 0, .int .u64 0, .int .u64 0, .int .u64 0, .int .u64 0, .int .u64 0, .int .u64 0, .bool false, .slice none 0 0, .slice none 0 0, .slice none 0 0] 36) := HW0.out
  rw [← e0]
  clear e0 HW0
  refine HAt.out.mono ?_
  rintro e w2 ⟨rfl, hb⟩
  have HB0 := Lib.hid (HB00.out.trans (hb.mono HB00.out.size))
  have HZ2 := Lib.hid (HZ0.out.keep hb)
  have HSz := Lib.hid (show w.heap.size < w2.heap.size by have := hb.size; have := HS0.out; omega)
  clear hb
  go_wp2_with (first
    | (refine wpList_store_all rfl 36 (.tmp 6) (.tmp 12) rfl w2.heap.size zeroM rfl rfl 36 zeroM (Blk.new w2 36 zeroM) (mgM_info _ _ _ _) rfl zeroM_one ?_; intro w3 hb hos; (have HE3 := Lib.hid hb); (have HW3 := Lib.hid (show Below w2.heap.size w2 w3 from ((Below.refl _ _).alloc (Nat.le_refl _) _).trans (hos.below (fun k hk e => by have e : k = w2.heap.size := e; omega) (by simp)))); clear hb hos)
    | (refine wpList_load_by rfl 36 (.tmp 6) rfl _ (.agg zeroM) rfl (Blk.loads (P := Try.prog) HE3.out 36 _ Try.underlying36 rfl (mgM_info _ _ _ _)) ?_)
    | (refine wpList_store_all rfl 36 (.tmp 4) (.tmp 35) rfl w.heap.size zeroM rfl rfl 36 zeroM (HZ2.out.keep HW3.out) (mgM_info _ _ _ _) rfl zeroM_one ?_; intro w6 hb ho; (have HY := Lib.hid hb); (have HO6 := Lib.hid ho); clear hb ho))
  exact bodyPost_ret (v := .tuple #[.agg zeroM, .int .i64 9]) (ret_msg rfl _ _ w.heap.size zeroM _ rfl rfl rfl HY.out) rfl ⟨rfl, (HB0.out.trans (HW3.out.mono (Nat.le_of_lt HSz.out))).trans (HO6.out.below (fun k hk e => by have e : k = w.heap.size := e; omega) (Nat.le_trans (Nat.le_of_lt HSz.out) HW3.out.size))⟩
end Go.Proofs.Ytgbhfolbkgibfaa

/- A message that came in. -/
namespace Go.Proofs.Ytgbhfolbkgibfaa
set_option maxRecDepth 20000
open Go.RowKit Go.ChangeShapes Go.Deep BinMath
open CmdMath (Ent)
open MsgMath (Mg)

theorem twelve_cells (l : List Value) (h : l.length = 12) : ∃ a b c d e f g i j k m n, l = [a, b, c, d, e, f, g, i, j, k, m, n] := by
  match l, h with
  | [a, b, c, d, e, f, g, i, j, k, m, n], _ => exact ⟨a, b, c, d, e, f, g, i, j, k, m, n, rfl⟩

theorem weights_one {H : Type} {t : TypeId} {d : DataW H} (h : (d.weights Try.prog t).all (· ≤ reachBytes) = true) : (DataW.weightsEach Try.prog [t] [d]).all (· ≤ reachBytes) = true := by
  simpa [DataW.weightsEach] using h

theorem bytes_in {H : Type} {enc : TypeId × Value → H} {W : World} {n : Nat} {u : Value} {y : DataW H × List MemPlace} (f4 : DataW.trod enc Try.prog W 0 (fun _ => true) true n 34 [u] = some y) :
    ∃ A C, ∃ d : List UInt8, u = .slice A d.length C ∧ Bys W (.slice A d.length C) d ∧ ((y.1.weights Try.prog 34).all (· ≤ reachBytes) = true → d.length ≤ 140737488351232) := by
  obtain ⟨yd, yp⟩ := y
  rcases open_ints Try.underlying34 Try.underlying5 (by kernel_rfl) f4 with ⟨hcs, _⟩ | ⟨x', l', c', zs, hcs, _, hl', hm', hz', hx', hcell', hwz'⟩
  · simp at hcs
    subst hcs
    exact ⟨none, 0, [], rfl, .inl ⟨rfl, rfl⟩, fun _ => by simp⟩
  · simp at hcs
    subst hcs
    simp only [if_true] at hz'
    obtain ⟨d, hd, hbd⟩ := IsRow.bys (w := W) (a := some x') (len := l') (cap := c') (zs := zs) (.inr ⟨_, rfl, hl', hm', hz', hcell', hwz'⟩)
    subst hd
    refine ⟨some x', c', d, rfl, hbd, fun hh => ?_⟩
    have hyd : yd = _ := (Prod.mk.inj hx').1
    have hs4 := sized_slice (weights_one hh) (j := 0) (t := 34) (e := 5) (elems := lits .u8 (zs.take d.length)) (spare := lits .u8 (zs.drop d.length)) rfl
      (by rw [← hyd]; rfl) Try.underlying34
    have hb : Try.prog.bytesOf 5 = 1 := by kernel_rfl
    rw [hb] at hs4
    simp only [lits, List.length_map, List.length_take, List.length_drop, reachBytes] at hs4
    omega

theorem nums_in {H : Type} {enc : TypeId × Value → H} {W : World} {n : Nat} {u : Value} {y : DataW H × List MemPlace} (f5 : DataW.trod enc Try.prog W 0 (fun _ => true) true n 33 [u] = some y) :
    ∃ A C, ∃ m : List Nat, u = .slice A m.length C ∧ Nums W (.slice A m.length C) m ∧ (∀ y ∈ m, y < 18446744073709551616) ∧ ((y.1.weights Try.prog 33).all (· ≤ reachBytes) = true → m.length ≤ 17592186043904) := by
  obtain ⟨yd, yp⟩ := y
  rcases open_ints Try.underlying33 Try.underlying31 (by kernel_rfl) f5 with ⟨hcs, _⟩ | ⟨x', l', c', zs, hcs, _, hl', hm', hz', hx', hcell', hwz'⟩
  · simp at hcs
    subst hcs
    exact ⟨none, 0, [], rfl, .inl ⟨rfl, rfl⟩, by simp, fun _ => by simp⟩
  · simp at hcs
    subst hcs
    simp only [if_true] at hz'
    obtain ⟨m, hm, hmb, hbm⟩ := IsRow.nums (w := W) (a := some x') (len := l') (cap := c') (zs := zs) (.inr ⟨_, rfl, hl', hm', hz', hcell', hwz'⟩)
    subst hm
    refine ⟨some x', c', m, rfl, hbm, hmb, fun hh => ?_⟩
    have hyd : yd = _ := (Prod.mk.inj hx').1
    have hs5 := sized_slice (weights_one hh) (j := 0) (t := 33) (e := 31) (elems := lits .u64 (zs.take m.length)) (spare := lits .u64 (zs.drop m.length)) rfl
      (by rw [← hyd]; rfl) Try.underlying33
    have hb : Try.prog.bytesOf 31 = 8 := by kernel_rfl
    rw [hb] at hs5
    simp only [lits, List.length_map, List.length_take, List.length_drop, reachBytes] at hs5
    omega

instance : Inhabited EE := ⟨⟨Ent.zero, none, 0, none, 0⟩⟩

theorem weights_all {H : Type} {e : TypeId} : ∀ {l : List (DataW H)} {d : DataW H}, d ∈ l → ∀ n ∈ d.weights Try.prog e, n ∈ DataW.weightsAll Try.prog e l
  | x :: l, d, hd, n, hn => by
    simp only [DataW.weightsAll, List.mem_append]
    rcases List.mem_cons.1 hd with rfl | h
    · exact .inl hn
    · exact .inr (weights_all h n hn)

/-- A list of entries that came in. -/
theorem els_open {H : Type} {enc : TypeId × Value → H} {W : World} {fuel : Nat} {v : Value} {x : DataW H × List MemPlace}
    (hf : DataW.trod enc Try.prog W 0 (fun _ => true) true fuel 32 [v] = some x) :
    ∃ us : List EE, Els W v us ∧ (∀ u ∈ us, u.e.Ok) ∧ ((x.1.weights Try.prog 32).all (· ≤ reachBytes) = true → HasAll W us ∧ us.length ≤ 1759218604390 ∧ ∀ u ∈ us, u.e.m.length ≤ 17592186043904) := by
  rcases open_slice Try.underlying32 hf with ⟨hcs, _⟩ | ⟨ad, ln, c, m, n, D, Pl, hcs, _, hl, hm, hmm, hx, hel⟩
  · simp at hcs
    subst hcs
    exact ⟨[], .inl ⟨rfl, rfl⟩, by simp, fun _ => ⟨fun u hu => absurd hu List.not_mem_nil, by simp, by simp⟩⟩
  · simp at hcs
    subst hcs
    simp only [if_true] at hmm
    have hC : Try.prog.cellsOf 62 = 6 := by kernel_rfl
    obtain ⟨f, hfp⟩ := choose_lt (α := EE) (n := ln) (p := fun i u => u.e.Ok ∧ Bys W (.slice u.a u.e.d.length u.ca) u.e.d ∧ Nums W (.slice u.b u.e.m.length u.cb) u.e.m ∧
        (((D i).weights Try.prog 62).all (· ≤ reachBytes) = true → u.e.d.length ≤ 140737488351232 ∧ u.e.m.length ≤ 17592186043904) ∧
        ∀ j v, u.cells[j]? = some v → W.cell? ((ad.add (i * 6)).add j) = some v) (fun i hi => by
      obtain ⟨cs', h1, h2⟩ := hel i (by omega)
      rw [hC] at h1
      obtain ⟨-, hlen, hcell⟩ := World.cells?_some h1
      obtain ⟨e, a, ca, b, cb, rfl, ho, hb, hn, hw⟩ := ent_open h2
      refine ⟨⟨e, a, ca, b, cb⟩, ho, hb, hn, hw, fun j v hj => ?_⟩
      have hj6 : j < 6 := (List.getElem?_eq_some_iff.1 hj).1
      have h3 := hcell j hj6
      rw [← hj]
      exact h3)
    have hget : ∀ (i : Nat) (u : EE), ((List.range ln).map f)[i]? = some u → i < ln ∧ u = f i := fun i u hi => by
      rw [List.getElem?_map] at hi
      obtain ⟨j, hj, rfl⟩ := Option.map_eq_some_iff.1 hi
      obtain ⟨hj1, hj2⟩ := List.getElem?_eq_some_iff.1 hj
      simp at hj1 hj2
      subst hj2
      exact ⟨hj1, rfl⟩
    have hmem : ∀ u ∈ (List.range ln).map f, ∃ i, i < ln ∧ u = f i := fun u hu => by
      obtain ⟨i, hi⟩ := List.mem_iff_getElem?.1 hu
      exact ⟨i, hget i u hi⟩
    refine ⟨(List.range ln).map f, .inr ⟨ad, c, by simp, by simp; omega, fun j u hj => ?_⟩, fun u hu => ?_, fun hw => ?_⟩
    · have hjl : j < ln * 6 := by
        have := (List.getElem?_eq_some_iff.1 hj).1
        rw [cells_all] at this
        simpa using this
      have hi : j / 6 < ((List.range ln).map f).length := by simp; omega
      have hd := cells_drop ((List.range ln).map f) (j / 6)
      rw [List.drop_eq_getElem_cons hi, List.flatMap_cons] at hd
      have h4 : (((List.range ln).map f)[j / 6]).cells[j % 6]? = some u := by
        have h5 : ((((List.range ln).map f).flatMap EE.cells).drop (j / 6 * 6))[j % 6]? = some u := by
          rw [List.getElem?_drop, show j / 6 * 6 + j % 6 = j by omega]
          exact hj
        rw [hd, List.getElem?_append_left (by rw [EE.cells_len]; omega)] at h5
        exact h5
      obtain ⟨h7, h8⟩ := hget (j / 6) _ (List.getElem?_eq_getElem hi)
      rw [h8] at h4
      have h6 := (hfp _ h7).2.2.2.2 _ _ h4
      rwa [addr_add_add, show j / 6 * 6 + j % 6 = j by omega] at h6
    · obtain ⟨i, hi, rfl⟩ := hmem u hu
      exact (hfp i hi).1
    · rw [hx] at hw
      simp only [DataW.weights, Try.underlying32, List.all_cons, Bool.and_eq_true, List.all_append] at hw
      obtain ⟨h1, h2, -⟩ := hw
      have hb : Try.prog.bytesOf 62 = 80 := by kernel_rfl
      rw [hb] at h1
      simp only [List.length_map, List.length_range, reachBytes, decide_eq_true_eq] at h1
      have hD : ∀ i, i < ln → ((D i).weights Try.prog 62).all (· ≤ reachBytes) = true := fun i hi =>
        List.all_eq_true.2 fun n hn => List.all_eq_true.1 h2 n (weights_all (List.mem_map.2 ⟨i, List.mem_range.2 hi, rfl⟩) n hn)
      refine ⟨fun u hu => ?_, by simp; omega, fun u hu => ?_⟩
      · obtain ⟨i, hi, rfl⟩ := hmem u hu
        obtain ⟨p1, p2, p3, p4, -⟩ := hfp i hi
        obtain ⟨q1, q2⟩ := p4 (hD i hi)
        exact ⟨p1, p2, p3, q1, Nat.le_trans q2 (by decide)⟩
      · obtain ⟨i, hi, rfl⟩ := hmem u hu
        exact ((hfp i hi).2.2.2.1 (hD i hi)).2

theorem msg_open {H : Type} {enc : TypeId × Value → H} {W : World} {fuel : Nat} {cs : List Value} {x : DataW H × List MemPlace}
    (h : DataW.trod enc Try.prog W 0 (fun _ => true) true fuel 36 cs = some x) :
    ∃ (m : Mg) (ve vm vg : Value) (us : List EE), cs = (mgC m ve vm vg).toList ∧
      ((x.1.weights Try.prog 36).all (· ≤ reachBytes) = true → MHas W m ve vm vg us ∧ us.length ≤ 1759218604390 ∧ m.m.length ≤ 17592186043904 ∧ ∀ u ∈ us, u.e.m.length ≤ 17592186043904) := by
  obtain ⟨xs, n', -, hx, hlen, hxl, hfld⟩ := DataW.trod_struct Try.underlying36 h
  have f0 : DataW.trod enc Try.prog W 0 (fun _ => true) true n' 3 ((cs.drop 0).take (Try.prog.cellsOf 3)) = xs[0]? := hfld 0 _ rfl
  have f1 : DataW.trod enc Try.prog W 0 (fun _ => true) true n' 31 ((cs.drop 1).take (Try.prog.cellsOf 31)) = xs[1]? := hfld 1 _ rfl
  have f2 : DataW.trod enc Try.prog W 0 (fun _ => true) true n' 31 ((cs.drop 2).take (Try.prog.cellsOf 31)) = xs[2]? := hfld 2 _ rfl
  have f3 : DataW.trod enc Try.prog W 0 (fun _ => true) true n' 31 ((cs.drop 3).take (Try.prog.cellsOf 31)) = xs[3]? := hfld 3 _ rfl
  have f4 : DataW.trod enc Try.prog W 0 (fun _ => true) true n' 31 ((cs.drop 4).take (Try.prog.cellsOf 31)) = xs[4]? := hfld 4 _ rfl
  have f5 : DataW.trod enc Try.prog W 0 (fun _ => true) true n' 31 ((cs.drop 5).take (Try.prog.cellsOf 31)) = xs[5]? := hfld 5 _ rfl
  have f6 : DataW.trod enc Try.prog W 0 (fun _ => true) true n' 31 ((cs.drop 6).take (Try.prog.cellsOf 31)) = xs[6]? := hfld 6 _ rfl
  have f7 : DataW.trod enc Try.prog W 0 (fun _ => true) true n' 31 ((cs.drop 7).take (Try.prog.cellsOf 31)) = xs[7]? := hfld 7 _ rfl
  have f8 : DataW.trod enc Try.prog W 0 (fun _ => true) true n' 4 ((cs.drop 8).take (Try.prog.cellsOf 4)) = xs[8]? := hfld 8 _ rfl
  have f9 : DataW.trod enc Try.prog W 0 (fun _ => true) true n' 32 ((cs.drop 9).take (Try.prog.cellsOf 32)) = xs[9]? := hfld 9 _ rfl
  have f10 : DataW.trod enc Try.prog W 0 (fun _ => true) true n' 33 ((cs.drop 10).take (Try.prog.cellsOf 33)) = xs[10]? := hfld 10 _ rfl
  have f11 : DataW.trod enc Try.prog W 0 (fun _ => true) true n' 34 ((cs.drop 11).take (Try.prog.cellsOf 34)) = xs[11]? := hfld 11 _ rfl
  have c0 : Try.prog.cellsOf 3 = 1 := by kernel_rfl
  have c1 : Try.prog.cellsOf 31 = 1 := by kernel_rfl
  have c2 : Try.prog.cellsOf 4 = 1 := by kernel_rfl
  have c3 : Try.prog.cellsOf 32 = 1 := by kernel_rfl
  have c4 : Try.prog.cellsOf 33 = 1 := by kernel_rfl
  have c5 : Try.prog.cellsOf 34 = 1 := by kernel_rfl
  have cr : Try.prog.cellsOf 36 = 12 := by kernel_rfl
  rw [cr] at hlen
  rw [c0] at f0
  rw [c1] at f1 f2 f3 f4 f5 f6 f7
  rw [c2] at f8
  rw [c3] at f9
  rw [c4] at f10
  rw [c5] at f11
  obtain ⟨u0, u1, u2, u3, u4, u5, u6, u7, u8, u9, u10, u11, rfl⟩ := twelve_cells cs hlen
  have l12 : xs.length = 12 := hxl
  rw [List.getElem?_eq_getElem (by omega)] at f0 f1 f2 f3 f4 f5 f6 f7 f8 f9 f10 f11
  obtain ⟨k, e0, -, w0⟩ := DataW.trod_int Try.underlying3 f0
  obtain ⟨k1, e1, -, w1⟩ := DataW.trod_int Try.underlying31 f1
  obtain ⟨k2, e2, -, w2⟩ := DataW.trod_int Try.underlying31 f2
  obtain ⟨k3, e3, -, w3⟩ := DataW.trod_int Try.underlying31 f3
  obtain ⟨k4, e4, -, w4⟩ := DataW.trod_int Try.underlying31 f4
  obtain ⟨k5, e5, -, w5⟩ := DataW.trod_int Try.underlying31 f5
  obtain ⟨k6, e6, -, w6⟩ := DataW.trod_int Try.underlying31 f6
  obtain ⟨k7, e7, -, w7⟩ := DataW.trod_int Try.underlying31 f7
  obtain ⟨b8, e8, -⟩ := DataW.trod_bool Try.underlying4 f8
  simp at e0 e1 e2 e3 e4 e5 e6 e7 e8
  have hk := bounds_i64 w0
  obtain ⟨f, rfl, hf⟩ := u64_nat k1 w1
  obtain ⟨o, rfl, ho⟩ := u64_nat k2 w2
  obtain ⟨t, rfl, ht⟩ := u64_nat k3 w3
  obtain ⟨i, rfl, hi⟩ := u64_nat k4 w4
  obtain ⟨l, rfl, hl⟩ := u64_nat k5 w5
  obtain ⟨c, rfl, hc⟩ := u64_nat k6 w6
  obtain ⟨s, rfl, hs⟩ := u64_nat k7 w7
  subst e0 e1 e2 e3 e4 e5 e6 e7 e8
  have hw : ∀ (j : Nat) (ty : TypeId) (d : DataW H), (x.1.weights Try.prog 36).all (· ≤ reachBytes) = true → [3, 31, 31, 31, 31, 31, 31, 31, 4, 32, 33, 34][j]? = some ty → (xs.map (·.1))[j]? = some d → (d.weights Try.prog ty).all (· ≤ reachBytes) = true := by
    rw [hx]
    simp only [DataW.weights, Try.underlying36]
    exact fun j ty d h h1 h2 => List.all_eq_true.2 fun n hn => List.all_eq_true.1 h n (DataW.weights_mem_each h1 h2 n hn)
  obtain ⟨us, hels, huo, huw⟩ := els_open f9
  obtain ⟨B, E, mm, rfl, hnu, hmb, hml⟩ := nums_in f10
  obtain ⟨A, C, g, rfl, hby, hgl⟩ := bytes_in f11
  refine ⟨⟨k, f, o, t, i, l, c, s, b8, us.map EE.e, mm, g⟩, u9, _, _, us, rfl, fun hh => ?_⟩
  have h9 := huw (hw 9 _ _ hh rfl (by rw [List.getElem?_map, List.getElem?_eq_getElem (by omega)]; rfl))
  have h10 := hml (hw 10 _ _ hh rfl (by rw [List.getElem?_map, List.getElem?_eq_getElem (by omega)]; rfl))
  have h11 := hgl (hw 11 _ _ hh rfl (by rw [List.getElem?_map, List.getElem?_eq_getElem (by omega)]; rfl))
  refine ⟨⟨⟨hk.1, Int.lt_of_le_of_lt hk.2 (by decide), hf, ho, ht, hi, hl, hc, hs, fun e he => ?_, hmb⟩, hels, h9.1, rfl, hnu, hby, by omega, ?_, h11⟩, h9.2.1, h10, h9.2.2⟩
  · obtain ⟨u, hu, rfl⟩ := List.mem_map.1 he
    exact huo u hu
  · exact Nat.le_trans h10 (by decide)
end Go.Proofs.Ytgbhfolbkgibfaa

