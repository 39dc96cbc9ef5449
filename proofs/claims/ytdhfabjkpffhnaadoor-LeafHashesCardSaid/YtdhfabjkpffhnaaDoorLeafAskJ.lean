/- Parts of lists, ranges and variables in drawn regions. -/
import Derived.Test.YtdhfabjkpffhnaaDoorLeafRootsJ
namespace Go.Proofs.YtdhfabjkpffhnaaDoor
set_option maxRecDepth 20000
open Go.RowKit ShaMath LeafMath Reg

theorem eql_bool_same (s t : Operand) (b : Bool) (W : World) : (do eqGuard .eql 4 s t (.bool b) (.bool b); binOp .eql 4 (.bool b) (.bool b) : Sem Value).run Tryd.prog W = .ok (.bool true) W := by
  cases b <;> kernel_rfl
theorem eql_int (t : TypeId) (s u : Operand) (k : IntKind) (z : Int) (W : World) : (do eqGuard .eql t s u (.int k z) (.int k z); binOp .eql t (.int k z) (.int k z) : Sem Value).run Tryd.prog W = .ok (.bool true) W := by
  simp [eqGuard, binOp, go_sem]
theorem neq_int (t : TypeId) (s u : Operand) (k : IntKind) (z : Int) (W : World) : (do eqGuard .neq t s u (.int k z) (.int k z); binOp .neq t (.int k z) (.int k z) : Sem Value).run Tryd.prog W = .ok (.bool false) W := by
  simp [eqGuard, binOp, go_sem]
theorem add_i64 (x y z : Int) (t : TypeId) (a b : Operand) (hz : x + y = z) (hb : -4611686018427387904 ≤ z ∧ z ≤ 4611686018427387904) (W : World) : (do eqGuard .add t a b (.int .i64 x) (.int .i64 y); binOp .add t (.int .i64 x) (.int .i64 y) : Sem Value).run Tryd.prog W = .ok (.int .i64 z) W := by
  have h : IntKind.i64.wrap (x + y) = z := by
    rw [IntKind.wrap_i64]
    omega
  simp [eqGuard, binOp, go_sem, h]

theorem build_rng (s : Nat) (a : Option Addr) (n c : Nat) (W : World) : (Instr.build 36 #[(0, .int .u64 (s : Int)), (1, .slice a n c)]).run Tryd.prog W = .ok (.agg (rngC s (.slice a n c))) W := by kernel_rfl

theorem below_new (W : World) (zs cs : Array Value) (t : TypeId) : Below W.heap.size W ((W.alloc (.cells zs t)).setRow W.heap.size cs) := below_setRow ((Below.refl _ _).alloc (Nat.le_refl _) _) _ _ (Nat.le_refl _)

/-- The first m of a row of the call's own. -/
def prefF (B m : Nat) (hs : List Hs) : Fact := .sat (fun v W => ∃ a c, v = .slice a m c ∧ OHs W B (.slice a hs.length c) hs) fun _ _ _ ⟨a, c, h1, h2⟩ hb => ⟨a, c, h1, h2.below hb⟩
/-- A range over them. -/
def rngF (B s m : Nat) (hs : List Hs) : Fact := .sat (fun v W => ∃ a c, v = .agg (rngC s (.slice a m c)) ∧ OHs W B (.slice a hs.length c) hs) fun _ _ _ ⟨a, c, h1, h2⟩ hb => ⟨a, c, h1, h2.below hb⟩
/-- A new variable. -/
def varF (B : Nat) (t : TypeId) (zs : Array Value) : Fact := .sat (fun v W => ∃ g, v = .pointer (some ⟨g, 0, none⟩) ∧ B ≤ g ∧ Blk W g t zs) fun _ _ _ ⟨g, h1, h2, h3⟩ hb => ⟨g, h1, h2, h3.keep hb⟩

section
variable {ops : Array Oper} {tab : List (List Nat)} {fin : List Tmp} {G : World → Prop} {f : Tmp → Fact} {i : Nat} {o : Oper}

theorem ask_build1 (hg : guardOk ops f o) (ty : TypeId) (k : Nat) (s : Operand) (v c : Value) (ho : o.op = .build ty #[(k, s)]) (hs : opFact f s = .is v) (hd : ∀ k, o.dst = some k → f k = .is c)
    (hr : ∀ W, (Instr.build ty #[(k, v)]).run Tryd.prog W = .ok c W) : Asked Tryd.prog ops tab fin G f i o := by
  refine ask_val hg c hd fun y W _ hk => ?_
  have e1 := evalBy_opVal hk s (by rw [ho]; simp [Op.operands]) hs
  simp [execOp, ho, e1, hr W, Result.andThen]

theorem ask_slice_pref (hG : ∀ W W', G W → Below W.heap.size W W' → G W') (hg : guardOk ops f o) (s t : Operand) (B m : Nat) (hs : List Hs) (ho : o.op = .slice 30 s none (some t) none) (h1 : opFact f s = ohsF B hs) (h2 : opFact f t = .is (.int .i64 (m : Int))) (hm : m ≤ hs.length) (h0 : 0 < hs.length)
    (hd : ∀ k, o.dst = some k → f k = prefF B m hs) : Asked Tryd.prog ops tab fin G f i o := by
  refine ask_grow hG hg fun y W hW hk => ?_
  have e1 := told_op hk s (by rw [ho]; simp [Op.operands])
  rw [h1] at e1
  have e1 : OHs W B (evalBy y s) hs := e1
  have e2 := evalBy_opVal hk t (by rw [ho]; simp [Op.operands]) h2
  obtain ⟨g, c, e, hc, _⟩ := e1.form h0
  have hr := slice_hs_to (some ⟨g, 0, none⟩) hs.length c m (by omega) W
  rw [sliced_zero] at hr
  refine gives_value (v := .slice (some ⟨g, 0, none⟩) m c) (w' := W) ?_ ⟨Below.refl _ _, fun k hk => by rw [hd k hk]; exact ⟨_, c, rfl, by rw [← e]; exact e1⟩⟩
  simp only [execOp, ho, e, e2, Option.map_none, Option.map_some]
  rw [Sem.run_bind, hr]
  rfl

theorem ask_build_rng (hG : ∀ W W', G W → Below W.heap.size W W' → G W') (hg : guardOk ops f o) (s t : Operand) (B z m : Nat) (hs : List Hs) (ho : o.op = .build 36 #[(0, s), (1, t)]) (h1 : opFact f s = .is (.int .u64 (z : Int))) (h2 : opFact f t = prefF B m hs)
    (hd : ∀ k, o.dst = some k → f k = rngF B z m hs) : Asked Tryd.prog ops tab fin G f i o := by
  refine ask_grow hG hg fun y W hW hk => ?_
  have e2 := told_op hk t (by rw [ho]; simp [Op.operands])
  rw [h2] at e2
  obtain ⟨a, c, e, hc⟩ : ∃ a c, evalBy y t = .slice a m c ∧ OHs W B (.slice a hs.length c) hs := e2
  have e1 := evalBy_opVal hk s (by rw [ho]; simp [Op.operands]) h1
  refine gives_value (v := .agg (rngC z (.slice a m c))) (w' := W) ?_ ⟨Below.refl _ _, fun k hk => by rw [hd k hk]; exact ⟨a, c, rfl, hc⟩⟩
  have hr := build_rng z a m c W
  simp [execOp, ho, e1, e, hr, Result.andThen]
end
/-- What survives that a row of hashes grows: a block of another type. -/
theorem OHs.keepR {W W' : World} {B g : Nat} {v : Value} {hs : List Hs} {zs : Array Value} (h : OHs W B v hs) (hg : W.grownBy W' v.ownBlock) (hb : Blk W g 36 zs) : Blk W' g 36 zs := by
  unfold Blk at *
  rw [← hb]
  refine hg.block g (Array.getElem?_eq_some_iff.1 hb).1 fun e => ?_
  rcases h.2.2 with ⟨rfl, _⟩ | ⟨k, cap, cur, rfl, _, hk, _⟩
  · simp [Value.ownBlock] at e
  · have e2 : g = k := by simpa [Value.ownBlock] using e
    subst e2
    rw [hb] at hk
    cases hk

section
variable {ops : Array Oper} {tab : List (List Nat)} {fin : List Tmp} {G : World → Prop} {f : Tmp → Fact} {i : Nat} {o : Oper}

def stillBut3 (ops : Array Oper) (tab : List (List Nat)) (fin : List Tmp) (f : Tmp → Fact) (i : Nat) (o : Oper) (keeps : List Tmp) : Bool :=
  (fin ++ ops.toList.flatMap (·.looksAt ops)).all fun k => o.dst == some k || !live2 ops tab fin i k || (f k).still || keeps.contains k

theorem still_but3 {keeps : List Tmp} (h : stillBut3 ops tab fin f i o keeps = true) (k : Tmp) (hne : o.dst ≠ some k) (hl0 : live2 ops tab fin i k = true) : (f k).still = true ∨ k ∈ keeps := by
  have hl : live ops tab fin i k = true := by
    have h2 := hl0
    unfold live2 at h2
    rw [Bool.and_eq_true] at h2
    exact h2.1
  unfold stillBut3 at h
  have hm : k ∈ fin ++ ops.toList.flatMap (·.looksAt ops) := by
    unfold live at hl
    rw [Bool.or_eq_true] at hl
    rcases hl with hl | hl
    · exact List.mem_append_left _ (by simpa using hl)
    · obtain ⟨j, hj, h1⟩ := List.any_eq_true.1 hl
      refine List.mem_append_right _ (List.mem_flatMap.2 ?_)
      have hjl : j < ops.size := List.mem_range.1 hj
      refine ⟨ops[j], by simp, ?_⟩
      simp only [Array.getElem?_eq_getElem hjl, Bool.and_eq_true] at h1
      simpa using h1.1.1
  have := List.all_eq_true.1 h k hm
  simpa [hl0, hne] using this

theorem ask_write3 {P : Program} {keeps : List Tmp} (Rel : World → World → Prop) (hkeep : ∀ k, k ∈ keeps → ∀ u W W', Rel W W' → (f k).holds u W → (f k).holds u W') (hg : guardOk ops f o) (hs : stillBut3 ops tab fin f i o keeps = true)
    (h : ∀ x W, G W → Told ops f o x W → gives P o x W (fun v W' => Rel W W' ∧ G W' ∧ ∀ k, o.dst = some k → (f k).holds v W')) : Asked2 P ops tab fin G f i o := by
  intro x W hW hk
  refine ⟨guard_ok hg hk, ?_⟩
  have hlive : ∀ (W' : World), Rel W W' → ∀ k u, o.dst ≠ some k → live2 ops tab fin i k = true → (f k).holds u W → (f k).holds u W' := fun W' hr k u hne hl hu => by
    rcases still_but3 hs k hne hl with h1 | h1
    · exact Fact.stays h1 hu
    · exact hkeep k h1 u W W' hr hu
  refine gives_imp (h x W hW hk) fun v w' ⟨q0, q1, q2⟩ => ⟨q1, fun k u hd hl hu => hlive w' q0 k u hd hl hu, q2⟩

/-- append to a row of the call's own; blocks of other types stay. -/
theorem ask_append_ohs3 (keeps : List Tmp) (hkeep : ∀ k, k ∈ keeps → ∃ B t zs, f k = varF B 36 zs ∧ t = 36) (hg : guardOk ops f o) (hst : stillBut3 ops tab fin f i o keeps = true) (s t : Operand) (B : Nat) (l l' : List Hs) (hty : o.type = 30)
    (ho : o.op = .call { callee := .builtin .append, args := #[s, t], argTypes := #[30, 30] }) (hs : opFact f s = ohsF B l) (ht : ∀ x W, G W → Told ops f o x W → Hss W (evalBy x t) l') (hl : l.length + l'.length ≤ 4398046511104)
    (hBG : ∀ W, G W → B ≤ W.heap.size) (hGg : ∀ W W' row, G W → W.grownBy W' row → (∀ k, row = some k → B ≤ k) → G W')
    (hd : ∀ k, o.dst = some k → f k = ohsF B (l ++ l')) : Asked2 Tryd.prog ops tab fin G f i o := by
  refine ask_write3 (keeps := keeps) (fun W W' => ∃ v hs, OHs W B v hs ∧ W.grownBy W' v.ownBlock) (fun k hk u W W' hr hu => ?_) hg hst fun x W hW hk => ?_
  · obtain ⟨v, hs, h1, h2⟩ := hr
    obtain ⟨B', _, zs, e, _⟩ := hkeep k hk
    rw [e] at hu ⊢
    obtain ⟨g, e1, e2, e3⟩ : ∃ g, u = .pointer (some ⟨g, 0, none⟩) ∧ B' ≤ g ∧ Blk W g 36 zs := hu
    exact ⟨g, e1, e2, h1.keepR h2 e3⟩
  · have h1 := told_op hk s (by rw [ho]; simp [Op.operands, Call.operands])
    rw [hs] at h1
    have h1 : OHs W B (evalBy x s) l := h1
    obtain ⟨v', w', hr, h2, h3⟩ := append_hs (hBG W hW) h1 (ht x W hW hk) hl
    refine gives_value (v := v') (w' := w') ?_ ⟨⟨_, _, h1, h3⟩, hGg W w' _ hW h3 (fun k hk => (World.ownsRow.lt h1.2 k hk).1), fun k hk => ?_⟩
    · simp [execOp, ho, resolve, invoke, builtin, hty, hr, Result.andThen]
    · rw [hd k hk]
      exact h2
end
end Go.Proofs.YtdhfabjkpffhnaaDoor

