/- Arms of a walk by whatever is known of a run: loads, stores, copies; parts of a block; operations of a region that load or address. -/
import Derived.Test.YtdhfabjkpffhnaaDoorBlk
import Derived.Test.YtdhfabjkpffhnaaDoorTailC
import Derived.Laws.CopyRow
namespace Go.Proofs.YtdhfabjkpffhnaaDoor
set_option maxRecDepth 20000
open Go.RowKit Reg

theorem wpList_load_by {P : Program} {w : World} {ops : Array Oper} {rest : List Oper} {o : Oper} {a : Act} {Q : Exit → Act → World → Prop} (hgd : o.guard = none) (ty : TypeId) (x : Operand) (ho : o.op = .load ty x)
    (p v : Value) (hx : a.eval x = p) (hr : (Instr.loadAt ty p).run P w = .ok v w) (h : wpList P ops Q rest (a.put o.dst v) w) : wpList P ops Q (o :: rest) a w := by
  refine wpList_plain hgd fun K hK => ?_
  unfold Oper.wp
  simp only [execOp, ho, hx, Sem.run_bind, hr, Result.andThen_ok]
  exact hK _ _ h

theorem wpList_load_guarded {P : Program} {w : World} {ops : Array Oper} {rest : List Oper} {o : Oper} {a : Act} {Q : Exit → Act → World → Prop} (hgd : Region.wanted o (yielded ops a.tmps) = true) (ty : TypeId) (x : Operand) (ho : o.op = .load ty x)
    (p v : Value) (hx : a.eval x = p) (hr : (Instr.loadAt ty p).run P w = .ok v w) (h : wpList P ops Q rest (a.put o.dst v) w) : wpList P ops Q (o :: rest) a w := by
  refine wpList_step fun K hK => ?_
  rw [if_pos hgd]
  unfold Oper.wp
  simp only [execOp, ho, hx, Sem.run_bind, hr, Result.andThen_ok]
  exact hK _ _ h

theorem wpList_store_by {P : Program} {w : World} {ops : Array Oper} {rest : List Oper} {o : Oper} {a : Act} {Q : Exit → Act → World → Prop} (hgd : o.guard = none) (ty : TypeId) (x y : Operand) (ho : o.op = .store ty x y)
    (p v : Value) (hx : a.eval x = p) (hy : a.eval y = v) (w' : World) (hr : (Instr.storeAt ty p v).run P w = .ok () w') (h : wpList P ops Q rest (a.put o.dst undef) w') : wpList P ops Q (o :: rest) a w := by
  refine wpList_plain hgd fun K hK => ?_
  unfold Oper.wp
  simp only [execOp, ho, hx, hy, Sem.run_bind, hr, Result.andThen_ok]
  exact hK _ _ h

theorem wpList_copy_by {P : Program} {w : World} {ops : Array Oper} {rest : List Oper} {o : Oper} {a : Act} {Q : Exit → Act → World → Prop} (hgd : o.guard = none) (s x : Operand) (t : TypeId)
    (ho : o.op = .call { callee := .builtin .copy, args := #[s, x], argTypes := #[t, t] }) (v y c : Value) (w' : World) (hs : a.eval s = v) (hx : a.eval x = y)
    (hr : (Builtin.copy_ #[t, t] o.type #[v, y]).run P w = .ok c w') (h : wpList P ops Q rest (a.put o.dst c) w') : wpList P ops Q (o :: rest) a w := by
  refine wpList_plain hgd fun K hK => ?_
  unfold Oper.wp
  simp [execOp, ho, resolve, invoke, builtin, hs, hx, hr, Result.andThen]
  exact hK _ _ h

/-- A frame told slot by slot. -/
theorem frame_cut {P : Program} {c : Code} {Q : Exit → Act → World → Prop} {a : Act} {W : World} (n : Nat) (hs : a.tmps.size = n) (hd : a.defers = [])
    (h : ∀ us : Nat → Value, (∀ i, us i = a.tmps.getD i undef) → c.wp P Q ⟨((List.range n).map us).toArray, []⟩ W) : c.wp P Q a W := by
  obtain ⟨us, h1, h2⟩ := act_open n a hs hd
  rw [h2]
  exact h us h1

/-- A part of a block, loaded. -/
theorem Blk.loadsAt {P : Program} {W : World} {g : Nat} {t : TypeId} {cs : Array Value} (h : Blk W g t cs) (ty : TypeId) (d : TypeDesc) (o n : Nat) (vs : List Value) (hu : P.underlying ty = some d)
    (hd : (match d with | .struct _ | .array _ _ => true | _ => false) = true) (hi : (P.info? ty).map (·.size) = some vs.length) (hv : ∀ j u, vs[j]? = some u → cs[o + j]? = some u) (hn : n = o) :
    (Instr.loadAt ty (.pointer (some ⟨g, n, none⟩))).run P W = .ok (.agg vs.toArray) W := by
  subst hn
  have hl : (loadCells ⟨g, n, none⟩ vs.length).run P W = .ok vs.toArray W :=
    run_loadCells_list (P := P) W ⟨g, n, none⟩ vs (fun j v hj => by rw [addr_add, h.cell]; exact hv j v hj)
  cases hq : P.info? ty with
  | none => simp [hq] at hi
  | some i =>
    have hs : i.size = vs.length := by simpa [hq] using hi
    have hagg : (isAgg ty).run P W = .ok true W := by
      unfold isAgg
      rw [Sem.run_bind, run_underlying hu W]
      cases d <;> simp_all
    simp [Instr.loadAt, Instr.sureAddr, loadVar, Sem.run_bind, hagg, sizeOf, typeInfo, hq, hs, hl]

/-- Cells of a variable that is known cell by cell. -/
theorem loads_cells {P : Program} {W : World} (ad : Addr) (ty : TypeId) (d : TypeDesc) (vs : List Value) (hu : P.underlying ty = some d)
    (hd : (match d with | .struct _ | .array _ _ => true | _ => false) = true) (hi : (P.info? ty).map (·.size) = some vs.length) (hv : ∀ j u, vs[j]? = some u → W.cell? (ad.add j) = some u) :
    (Instr.loadAt ty (.pointer (some ad))).run P W = .ok (.agg vs.toArray) W := by
  have hl : (loadCells ad vs.length).run P W = .ok vs.toArray W := run_loadCells_list (P := P) W ad vs hv
  cases hq : P.info? ty with
  | none => simp [hq] at hi
  | some i =>
    have hs : i.size = vs.length := by simpa [hq] using hi
    have hagg : (isAgg ty).run P W = .ok true W := by
      unfold isAgg
      rw [Sem.run_bind, run_underlying hu W]
      cases d <;> simp_all
    simp [Instr.loadAt, Instr.sureAddr, loadVar, Sem.run_bind, hagg, sizeOf, typeInfo, hq, hs, hl]

/-- What a block holds where a part of it is written. -/
def patch (cs : Array Value) (o : Nat) (vs : List Value) : Array Value := (cs.toList.take o ++ vs ++ cs.toList.drop (o + vs.length)).toArray

theorem Blk.storesAt {P : Program} {W : World} {g : Nat} {t : TypeId} {cs : Array Value} (h : Blk W g t cs) (ty : TypeId) (o : Nat) (vs : List Value) (hi : (P.info? ty).map (·.size) = some vs.length) (hfit : o + vs.length ≤ cs.size)
    (h1 : ∀ v ∈ vs, v.oneCell' = true) : (Instr.storeAt ty (.pointer (some ⟨g, o, none⟩)) (.agg vs.toArray)).run P W = .ok () (W.setRow g (patch cs o vs)) := by
  have hst := run_storeCells_at P g o t vs 0 cs W h (by simpa using hfit) h1
  cases hq : P.info? ty with
  | none => simp [hq] at hi
  | some i =>
    have hs : i.size = vs.length := by simpa [hq] using hi
    simp [Instr.storeAt, Instr.sureAddr, storeVar, Sem.run_bind, sizeOf, typeInfo, hq, hs, Value.cells, hst, patch]

/-- A part of bytes, as slicing gives it. -/
theorem bys_sliced (a : Option Addr) (len cap lo hi : Nat) (l : List UInt8) (W : World) (h : Bys W (.slice a len cap) l) (h1 : lo ≤ hi) (h2 : hi ≤ len) (hc : len ≤ cap) :
    Bys W (.slice (if cap = lo then a else a.map (·.add (lo * 1))) (hi - lo) (cap - lo)) ((l.take hi).drop lo) := by
  rcases h with ⟨e, rfl⟩ | ⟨ad, c, e, hcell⟩
  · simp at e
    obtain ⟨rfl, rfl, rfl⟩ := e
    have : lo = 0 := by omega
    subst this
    have : hi = 0 := by omega
    subst this
    exact .inl ⟨by simp, by simp⟩
  · simp at e
    obtain ⟨rfl, rfl, rfl⟩ := e
    have el : ((l.take hi).drop lo).length = hi - lo := by rw [List.length_drop, List.length_take]; omega
    by_cases hcl : cap = lo
    · have hz : hi - lo = 0 := by omega
      refine .inr ⟨ad, cap - lo, by rw [if_pos hcl, el], fun i hi' => by rw [el] at hi'; omega⟩
    · refine .inr ⟨ad.add lo, cap - lo, by rw [if_neg hcl, el]; simp, fun i hi' => ?_⟩
      rw [el] at hi'
      have e2 : (ad.add lo).add i = ad.add (lo + i) := by
        unfold Addr.add
        by_cases hl : lo = 0
        · subst hl; simp
        · by_cases hi0 : i = 0
          · subst hi0; simp [hl]
          · simp [hl, hi0]; omega
      rw [e2, hcell (lo + i) (by omega)]
      simp [List.getElem_drop, List.getElem_take]

/-- 's[n:]' of bytes. -/
theorem bys_from (a : Option Addr) (len cap n : Nat) (l : List UInt8) (W : World) (h : Bys W (.slice a len cap) l) (hlen : l.length = len) (hc : len ≤ cap) (hn : n ≤ len) :
    ∃ a', (∀ W', (Instr.sliceAt 22 (.slice a len cap) (some (.int .i64 (n : Int))) none none).run Tryd.prog W' = .ok (.slice a' (len - n) (cap - n)) W') ∧ Bys W (.slice a' (len - n) (cap - n)) (l.drop n) := by
  have ht : Tryd.prog.underlying 22 = some (.slice (Tryd.prog.elem 22)) := by rw [elem_bytes]; exact Tryd.underlying22
  refine ⟨if cap = n then a else a.map (·.add (n * 1)), fun W' => ?_, ?_⟩
  · rw [run_sliceAt_slice _ _ _ _ _ _ ht, run_slice_l _ _ _ _ _ ht .i64 (n : Int) (by omega) (by omega), elem_bytes, size_byte]
    simp only [Result.andThen_ok, Int.toNat_natCast]
    rfl
  · have := bys_sliced a len cap n len l W h hn (Nat.le_refl _) hc
    rwa [List.take_of_length_le (by omega)] at this

/-- 's[lo:hi]' of bytes. -/
theorem bys_mid (a : Option Addr) (len cap lo hi : Nat) (l : List UInt8) (W : World) (h : Bys W (.slice a len cap) l) (h1 : lo ≤ hi) (h2 : hi ≤ len) (hc : len ≤ cap) :
    ∃ a', (∀ W', (Instr.sliceAt 22 (.slice a len cap) (some (.int .i64 (lo : Int))) (some (.int .i64 (hi : Int))) none).run Tryd.prog W' = .ok (.slice a' (hi - lo) (cap - lo)) W') ∧ Bys W (.slice a' (hi - lo) (cap - lo)) ((l.take hi).drop lo) := by
  have ht : Tryd.prog.underlying 22 = some (.slice (Tryd.prog.elem 22)) := by rw [elem_bytes]; exact Tryd.underlying22
  refine ⟨if cap = lo then a else a.map (·.add (lo * 1)), fun W' => ?_, bys_sliced a len cap lo hi l W h h1 h2 hc⟩
  rw [run_sliceAt_slice _ _ _ _ _ _ ht, run_slice_lh _ _ _ _ _ ht .i64 .i64 (lo : Int) (hi : Int) (by omega) (by omega) (by omega), elem_bytes, size_byte]
  simp only [Result.andThen_ok, Int.toNat_natCast]
  rfl

section
variable {P : Program} {ops : Array Oper} {tab : List (List Nat)} {fin : List Tmp} {G : World → Prop} {f : Tmp → Fact} {i : Nat} {o : Oper}

theorem ask_load (hg : guardOk ops f o) (ty : TypeId) (s : Operand) (p v : Value) (ho : o.op = .load ty s) (hs : opFact f s = .is p) (hd : ∀ k, o.dst = some k → f k = .is v)
    (hr : ∀ W, G W → (Instr.loadAt ty p).run P W = .ok v W) : Asked P ops tab fin G f i o := by
  refine ask_read hg s p v hs (by rw [ho]; simp [Op.operands]) hd fun x W hW e => ?_
  simp only [execOp, ho, e, Sem.run_bind, hr W hW, Result.andThen_ok, Sem.run_pure]

theorem ask_field (hg : guardOk ops f o) (ty : TypeId) (s : Operand) (n : Nat) (p v : Value) (ho : o.op = .fieldAddr ty s n) (hs : opFact f s = .is p) (hd : ∀ k, o.dst = some k → f k = .is v)
    (hr : ∀ W, (Instr.fieldAt ty p n).run P W = .ok v W) : Asked P ops tab fin G f i o := by
  refine ask_read hg s p v hs (by rw [ho]; simp [Op.operands]) hd fun x W hW e => ?_
  simp only [execOp, ho, e, Sem.run_bind, hr W, Result.andThen_ok, Sem.run_pure]

/-- A call by its contract, whatever is known of its operands. -/
theorem ask_call_by (hG : ∀ W W', G W → Below W.heap.size W W' → G W') (hg : guardOk ops f o) (n : FuncId) (ss : Array Operand) (ts : Array TypeId) (fd : Fact)
    (ho : o.op = .call { callee := .value (.func n), args := ss, argTypes := ts }) (hfn : ((P.funcs[n]?).map fun fn => (fn.name == "runtime.NumGoroutine", fn.body.isNone)) = some (false, false)) (hd : ∀ k, o.dst = some k → f k = fd)
    (h : ∀ x W, G W → Told ops f o x W → Calls P n (ss.toList.map (evalBy x)).toArray W fun e W' => ∃ v, e = .returned v ∧ fd.holds v W' ∧ Below W.heap.size W W') : Asked P ops tab fin G f i o := by
  refine ask_grow hG hg fun x W hW ht => ?_
  have em : ss.map (evalBy x) = (ss.toList.map (evalBy x)).toArray := by
    apply Array.toList_inj.1
    simp
  refine gives_enter (f := n) (args := (ss.toList.map (evalBy x)).toArray) (w' := W) ?_ ((h x W hW ht).mono fun e W' ⟨v, h1, h2, h3⟩ => ⟨v, h1, h3, fun k hk => by rw [hd k hk]; exact h2⟩)
  obtain ⟨fn, hf, hp⟩ := Option.map_eq_some_iff.1 hfn
  simp only [Prod.mk.injEq] at hp
  have e : execOp (evalBy x) o = callFunc n (#[] ++ ss.map (evalBy x) ++ #[]) := by
    obtain ⟨dst, op, type, pos, after, guard⟩ := o
    simp only at ho
    subst ho
    rfl
  rw [e, em]
  have h1 : fn.name ≠ "runtime.NumGoroutine" := by simpa using hp.1
  have h2 : fn.body ≠ none := by intro hh; have := hp.2; rw [hh] at this; cases this
  simp [callFunc, hf, h1, h2]

/-- A variable made. -/
theorem ask_alloc (hG : ∀ W W', G W → Below W.heap.size W W' → G W') (hg : guardOk ops f o) (ty : TypeId) (zs : Value) (fd : Fact) (ho : o.op = .alloc ty) (hz : ∀ W, (zeroValue ty).run P W = .ok zs W) (hd : ∀ k, o.dst = some k → f k = fd)
    (h : ∀ W, G W → fd.holds (.pointer (some ⟨W.heap.size, 0, none⟩)) (W.alloc (.cells zs.cells ty))) : Asked P ops tab fin G f i o := by
  refine ask_grow hG hg fun x W hW _ => ?_
  refine gives_value (v := .pointer (some ⟨W.heap.size, 0, none⟩)) (w' := W.alloc (.cells zs.cells ty)) ?_ ⟨(Below.refl _ _).alloc (Nat.le_refl _) _, fun k hk => by rw [hd k hk]; exact h W hW⟩
  simp [execOp, ho, Instr.alloc, hz, newVar, newRow, Result.andThen]

end
end Go.Proofs.YtdhfabjkpffhnaaDoor

