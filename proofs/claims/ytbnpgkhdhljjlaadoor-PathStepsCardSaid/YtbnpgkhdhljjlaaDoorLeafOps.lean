/- Lists of hashes in drawn regions; hashes held against each other; ranges as values. -/
import Derived.Test.YtbnpgkhdhljjlaaDoorLeafRefRoot
import Derived.Test.YtbnpgkhdhljjlaaDoorTails
import Derived.Great.BuildSlice
namespace Go.Proofs.YtbnpgkhdhljjlaaDoor
set_option maxRecDepth 20000
open Go.RowKit ShaMath LeafMath Reg

theorem neq_hash2 (s t : Operand) (X Y : List UInt8) (hX : X.length = 32) (hY : Y.length = 32) (W : World) : (do eqGuard .neq 25 s t (.agg (bs X)) (.agg (bs Y)); binOp .neq 25 (.agg (bs X)) (.agg (bs Y)) : Sem Value).run Tryd.prog W = .ok (.bool (!(X == Y))) W := by
  rw [Sem.run_bind, run_eqGuard_agg W .neq 25 s t _ _ (by kernel_rfl), Result.andThen_ok, run_neq_struct, eq_hash W X Y hX hY]
  rfl
theorem eql_hash2 (s t : Operand) (X Y : List UInt8) (hX : X.length = 32) (hY : Y.length = 32) (W : World) : (do eqGuard .eql 25 s t (.agg (bs X)) (.agg (bs Y)); binOp .eql 25 (.agg (bs X)) (.agg (bs Y)) : Sem Value).run Tryd.prog W = .ok (.bool (X == Y)) W := by
  rw [Sem.run_bind, run_eqGuard_agg W .eql 25 s t _ _ (by kernel_rfl), Result.andThen_ok, run_eql_struct, eq_hash W X Y hX hY]
  rfl

theorem sub_i64 (x y z : Int) (t : TypeId) (a b : Operand) (hz : x - y = z) (hb : -4611686018427387904 ≤ z ∧ z ≤ 4611686018427387904) (W : World) : (do eqGuard .sub t a b (.int .i64 x) (.int .i64 y); binOp .sub t (.int .i64 x) (.int .i64 y) : Sem Value).run Tryd.prog W = .ok (.int .i64 z) W := by
  have h : IntKind.i64.wrap (x - y) = z := by
    rw [IntKind.wrap_i64]
    omega
  simp [eqGuard, binOp, go_sem, h]

/-- 'v[i]' of hashes. -/
theorem hss_index (W : World) (ad : Addr) (n c i : Nat) (hi : i < n) : (Instr.indexAt 22 (.slice (some ad) n c) (.int .i64 (i : Int))).run Tryd.prog W = .ok (.pointer (some (ad.add (i * 32)))) W := by
  have ht : Tryd.prog.underlying 22 = some (.slice (Tryd.prog.elem 22)) := by rw [elem_hss]; exact Tryd.underlying22
  rw [run_indexAt_slice (h := ht), if_pos (by omega), elem_hss, size_hss]
  simp [Result.andThen]

theorem build_hash (W : World) (cs : Array Value) (hc : cs.size = 32) : (Instr.buildSlice 22 1 #[(0, .agg cs)]).run Tryd.prog W = .ok (.slice (some ⟨W.heap.size, 0, none⟩) 1 1) (W.alloc (.cells cs 25)) := by
  obtain ⟨i, hi, hz0, hz1, hz2⟩ := info_parts info_hash
  refine run_buildSlice W _ _ 1 _ cs i _ Tryd.underlying22 hi hz0 (by rw [hz1]; decide) (by rw [hz1]; decide) ?_
  rw [hz1]
  have := Go.Great.fill_whole (s := 32) (by decide) [.agg cs] ((Array.range (1 * 32)).map ((Value.agg (bs (List.replicate 32 0))).cells[· % (Value.agg (bs (List.replicate 32 0))).cells.size]!)) (by simp [Value.cells, hc]) (by simp)
  simpa [Value.cells] using this

theorem hss_new (W : World) (x : Hs) (hx : x.length = 32) : Hss (W.alloc (.cells (bs x) 25)) (.slice (some ⟨W.heap.size, 0, none⟩) 1 1) [x] :=
  ⟨All32.one hx, .inr ⟨_, 1, rfl, Nat.le_refl _, fun j u hj => by
    rw [addr_add, Nat.zero_add, (Blk.new W 25 (bs x)).cell]
    rw [hcells_single] at hj
    simpa [bs, hcs] using hj⟩⟩

def hssF (hs : List Hs) : Fact := .sat (fun v W => Hss W v hs) (fun _ _ _ h hb => h.below (Nat.le_refl _) hb)
def ohsF (B : Nat) (hs : List Hs) : Fact := .sat (fun v W => OHs W B v hs) (fun _ _ _ h hb => h.below hb)

/-- append([]api.Hash{}, x...): an empty row of the call's own. -/
theorem ohs_empty (W : World) (B : Nat) (hB : B ≤ W.heap.size) : OHs (W.alloc (.cells #[] 25)) B (.slice (some ⟨W.heap.size, 0, none⟩) 0 0) [] :=
  ⟨All32.nil, rfl, .inr ⟨W.heap.size, 0, #[], rfl, hB, heap_alloc_new W _, Nat.le_refl _, by unfold maxLen; omega, rfl, rfl⟩⟩

/-- append([]api.Hash{}, x...): nothing that was there is written. -/
theorem append_hlit {w : World} {B g : Nat} {x : Value} {hs : List Hs} (hB : B ≤ g) (hg : w.heap[g]? = some (.cells #[] 25 (0, 0))) (hx : Hss w x hs) (hlen : hs.length ≤ 4398046511104) :
    ∃ v' w', (Builtin.append_ #[22, 22] 22 #[.slice (some ⟨g, 0, none⟩) 0 0, x]).run Tryd.prog w = .ok v' w' ∧ OHs w' B v' hs ∧ Below w.heap.size w w' := by
  obtain ⟨i0, hi, hz0, hz1, hz2⟩ := info_parts info_hash
  have hlt : g < w.heap.size := (Array.getElem?_eq_some_iff.1 hg).1
  have hrow : w.ownsRow B 25 32 (.slice (some ⟨g, 0, none⟩) 0 0) 0 [] := ⟨rfl, .inr ⟨g, 0, #[], rfl, hB, hg, Nat.le_refl _, by unfold maxLen; omega, rfl, rfl⟩⟩
  have hall := hx.all
  rcases hx.at_ with ⟨rfl, rfl⟩ | ⟨ad, cap, rfl, hlc, hc⟩
  · exact ⟨_, w, run_append_owned_none (P := Tryd.prog) (w := w) B _ _ _ i0 32 Tryd.underlying22 hi _ 0 [] hrow, ⟨All32.nil, hrow⟩, Below.refl _ _⟩
  · by_cases hl : hs = []
    · subst hl
      have hr := run_append_room (P := Tryd.prog) w 22 22 25 i0 Tryd.underlying22 hi g 0 0 #[] hg ad 0 cap [] (by simp) (by simp) (by simp) (by omega) (by simp)
      refine ⟨_, _, hr, ⟨All32.nil, ?_⟩, ⟨rfl, rfl, rfl, by simp, fun k hk => ?_⟩⟩
      · refine ⟨rfl, .inr ⟨g, 0, #[], rfl, hB, ?_, Nat.le_refl _, by unfold maxLen; omega, rfl, rfl⟩⟩
        simpa using setRow_heap w g #[] _ 25 _ hg
      · by_cases hkg : k = g
        · subst hkg
          rw [hg]
          simpa using setRow_heap w k #[] _ 25 _ hg
        · exact setRow_other w g k _ hkg
    · have hpos : 0 < hs.length := List.length_pos_iff.2 hl
      have hcl := hcells_len hall
      have hr := run_append_grow (P := Tryd.prog) w 22 22 25 i0 (.agg (bs (List.replicate 32 0))) Tryd.underlying22 hi hz0 ⟨g, 0, none⟩ 0 0 [] (by simp) (by simp) ad hs.length cap (hcells hs) (by rw [hz1]; exact hcl) hc (by omega) (by omega) (growslice_fits (by omega) (by rw [hz2]; omega))
      refine ⟨_, _, hr, ⟨hall, ?_⟩, (Below.refl _ _).drew.alloc (Nat.le_refl _) _⟩
      have hge := grownCap_ge w (0 + hs.length) 0 25
      have hle := grownCap_le_maxLen w (0 + hs.length) 0 25 (by unfold maxLen; omega)
      refine ⟨hcl, .inr ⟨w.heap.size, _, _, by rw [Nat.zero_add], by omega, heap_alloc_new w.drew _, by omega, hle, ?_, ?_⟩⟩
      · have hz32 : (Value.agg (bs (List.replicate 32 0))).cells.size = 32 := rfl
        simp only [List.nil_append, List.append_toArray, Array.size_append, List.size_toArray, size_zeroCells, hz32, hcl]
        rw [← Nat.add_mul]
        congr 1
        omega
      · simp only [List.nil_append, List.append_toArray, Array.toList_append]
        rw [← hcl]
        simp

def hlitF (B : Nat) : Fact := .sat (fun v W => ∃ g, v = .slice (some ⟨g, 0, none⟩) 0 0 ∧ B ≤ g ∧ W.heap[g]? = some (.cells #[] 25 (0, 0))) fun _ _ _ ⟨g, h1, h2, h3⟩ hb => ⟨g, h1, h2, by rw [hb.block g (Array.getElem?_eq_some_iff.1 h3).1]; exact h3⟩

section
variable {ops : Array Oper} {tab : List (List Nat)} {fin : List Tmp} {G : World → Prop} {f : Tmp → Fact} {i : Nat} {o : Oper}

theorem ask_idx (hg : guardOk ops f o) (ty : TypeId) (s t : Operand) (v x c : Value) (ho : o.op = .indexAddr ty s t) (hs : opFact f s = .is v) (ht : opFact f t = .is x)
    (hd : ∀ k, o.dst = some k → f k = .is c) (hr : ∀ W, (Instr.indexAt ty v x).run Tryd.prog W = .ok c W) : Asked Tryd.prog ops tab fin G f i o := by
  refine ask_val hg c hd fun y W _ hk => ?_
  have e1 := evalBy_opVal hk s (by rw [ho]; simp [Op.operands]) hs
  have e2 := evalBy_opVal hk t (by rw [ho]; simp [Op.operands]) ht
  simp only [execOp, ho, e1, e2, Sem.run_bind, hr W, Result.andThen_ok, Sem.run_pure]

theorem ask_build_hash (hG : ∀ W W', G W → Below W.heap.size W W' → G W') (hg : guardOk ops f o) (s : Operand) (x : Hs) (cs : Array Value) (hx : x.length = 32) (hcs : cs = bs x) (ho : o.op = .buildSlice 22 1 #[(0, s)]) (hs : opFact f s = .is (.agg cs)) (hd : ∀ k, o.dst = some k → f k = hssF [x]) : Asked Tryd.prog ops tab fin G f i o := by
  refine ask_grow hG hg fun y W hW hk => ?_
  have e := evalBy_opVal hk s (by rw [ho]; simp [Op.operands]) hs
  have hr := build_hash W cs (by rw [hcs, bs_size, hx])
  refine gives_value (v := .slice (some ⟨W.heap.size, 0, none⟩) 1 1) (w' := W.alloc (.cells cs 25)) ?_ ⟨(Below.refl _ _).alloc (Nat.le_refl _) _, fun k hk => by rw [hd k hk, hcs]; exact hss_new W x hx⟩
  simp [execOp, ho, hr, e, Result.andThen]

theorem ask_build_none (hG : ∀ W W', G W → Below W.heap.size W W' → G W') (hg : guardOk ops f o) (B : Nat) (hB : ∀ W, G W → B ≤ W.heap.size) (ho : o.op = .buildSlice 22 0 #[]) (hd : ∀ k, o.dst = some k → f k = hlitF B) : Asked Tryd.prog ops tab fin G f i o := by
  refine ask_grow hG hg fun x W hW hk => ?_
  have hr : (Instr.buildSlice 22 0 #[]).run Tryd.prog W = .ok (.slice (some ⟨W.heap.size, 0, none⟩) 0 0) (W.alloc (.cells #[] 25)) := by
    simp [Instr.buildSlice, run_underlying Tryd.underlying22, Result.andThen, Instr.fill, newRow, Array.range_zero']
  refine gives_value (v := .slice (some ⟨W.heap.size, 0, none⟩) 0 0) (w' := W.alloc (.cells #[] 25)) ?_ ⟨(Below.refl _ _).alloc (Nat.le_refl _) _, fun k hk => by rw [hd k hk]; exact ⟨_, rfl, hB W hW, heap_alloc_new W _⟩⟩
  simp [execOp, ho, hr, Result.andThen]

/-- append to an empty literal: nothing that was there is written. -/
theorem ask_append_hlit (hG : ∀ W W', G W → Below W.heap.size W W' → G W') (hg : guardOk ops f o) (s t : Operand) (B : Nat) (l : List Hs) (hty : o.type = 22)
    (ho : o.op = .call { callee := .builtin .append, args := #[s, t], argTypes := #[22, 22] }) (hs : opFact f s = hlitF B) (ht : ∀ x W, G W → Told ops f o x W → Hss W (evalBy x t) l) (hl : l.length ≤ 4398046511104)
    (hd : ∀ k, o.dst = some k → f k = ohsF B l) : Asked Tryd.prog ops tab fin G f i o := by
  refine ask_grow hG hg fun x W hW hk => ?_
  have h1 := told_op hk s (by rw [ho]; simp [Op.operands, Call.operands])
  rw [hs] at h1
  obtain ⟨g, e1, hB, hgw⟩ : ∃ g, evalBy x s = .slice (some ⟨g, 0, none⟩) 0 0 ∧ B ≤ g ∧ W.heap[g]? = some (.cells #[] 25 (0, 0)) := h1
  obtain ⟨v', w', hr, h2, h3⟩ := append_hlit hB hgw (ht x W hW hk) hl
  rw [← hty, ← e1] at hr
  refine gives_value (v := v') (w' := w') ?_ ⟨h3, fun k hk => by rw [hd k hk]; exact h2⟩
  simp only [hty] at hr
  simp [execOp, ho, resolve, invoke, builtin, hty, hr, Result.andThen]

/-- append to a row of the call's own. -/
theorem ask_append_ohs (hg : guardOk ops f o) (hst : stillBut2 ops tab fin f i o = true) (s t : Operand) (B : Nat) (l l' : List Hs) (hty : o.type = 22)
    (ho : o.op = .call { callee := .builtin .append, args := #[s, t], argTypes := #[22, 22] }) (hs : opFact f s = ohsF B l) (ht : ∀ x W, G W → Told ops f o x W → Hss W (evalBy x t) l') (hl : l.length + l'.length ≤ 4398046511104)
    (hBG : ∀ W, G W → B ≤ W.heap.size) (hGg : ∀ W W' row, G W → W.grownBy W' row → (∀ k, row = some k → B ≤ k) → G W')
    (hd : ∀ k, o.dst = some k → f k = ohsF B (l ++ l')) : Asked2 Tryd.prog ops tab fin G f i o := by
  refine ask_write2 hg hst fun x W hW hk => ?_
  have h1 := told_op hk s (by rw [ho]; simp [Op.operands, Call.operands])
  rw [hs] at h1
  have h1 : OHs W B (evalBy x s) l := h1
  obtain ⟨v', w', hr, h2, h3⟩ := append_hs (hBG W hW) h1 (ht x W hW hk) hl
  refine gives_value (v := v') (w' := w') ?_ ⟨hGg W w' _ hW h3 (fun k hk => (World.ownsRow.lt h1.2 k hk).1), fun k hk => ?_⟩
  · simp [execOp, ho, resolve, invoke, builtin, hty, hr, Result.andThen]
  · rw [hd k hk]
    exact h2
end

/-- A range as a value. -/
abbrev rngC (s : Nat) (v : Value) : Array Value := #[.int .u64 (s : Int), v]

theorem ret_range {fn : Func} {p u : Tmp} (h : fn.results = #[.cell p 31, .tmp u]) (tmps : Array Value) (W : World) (g : Nat) (cs : Array Value) (c : Value) (hs : cs.size = 2) (hp : tmps.getD p undef = .pointer (some ⟨g, 0, none⟩)) (hc : tmps.getD u undef = c) (hb : Blk W g 31 cs) :
    (results fn tmps).run Tryd.prog W = .ok (.tuple #[.agg cs, c]) W := by
  have h6 : (Tryd.prog.info? 31).map (·.size) = some 2 := by kernel_rfl
  have hl := run_loadVar_row (P := Tryd.prog) W g 31 31 cs (0, 0) _ hb Tryd.underlying31 rfl (by rw [hs]; exact h6)
  rw [results_cell_tmp h, hp, hc]
  simp [asAddr, Result.andThen, hl]
theorem ret_hash {fn : Func} {p u : Tmp} (h : fn.results = #[.cell p 25, .tmp u]) (tmps : Array Value) (W : World) (g : Nat) (cs : Array Value) (c : Value) (hs : cs.size = 32) (hp : tmps.getD p undef = .pointer (some ⟨g, 0, none⟩)) (hc : tmps.getD u undef = c) (hb : Blk W g 25 cs) :
    (results fn tmps).run Tryd.prog W = .ok (.tuple #[.agg cs, c]) W := by
  have hl := run_loadVar_row (P := Tryd.prog) W g 25 25 cs (0, 0) _ hb Tryd.underlying25 rfl (size_hash hs)
  rw [results_cell_tmp h, hp, hc]
  simp [asAddr, Result.andThen, hl]
end Go.Proofs.YtbnpgkhdhljjlaaDoor
