/- Parts of lists, ranges and variables in drawn regions. -/
import Derived.Test.YtdhfabjkpffhnabDoorLeafRootsJ
namespace Go.Proofs.YtdhfabjkpffhnabDoor
set_option maxRecDepth 20000
open Go.RowKit ShaMath LeafMath Reg

theorem eql_bool_same (s t : Operand) (b : Bool) (W : World) : (do eqGuard .eql 4 s t (.bool b) (.bool b); binOp .eql 4 (.bool b) (.bool b) : Sem Value).run Tryd.prog W = .ok (.bool true) W := by
  cases b <;> kernel_rfl
theorem eql_int (t : TypeId) (s u : Operand) (k : IntKind) (z : Int) (W : World) : (do eqGuard .eql t s u (.int k z) (.int k z); binOp .eql t (.int k z) (.int k z) : Sem Value).run Tryd.prog W = .ok (.bool true) W := by
  simp [eqGuard, binOp, go_sem]
theorem neq_int (t : TypeId) (s u : Operand) (k : IntKind) (z : Int) (W : World) : (do eqGuard .neq t s u (.int k z) (.int k z); binOp .neq t (.int k z) (.int k z) : Sem Value).run Tryd.prog W = .ok (.bool false) W := by
  simp [eqGuard, binOp, go_sem]
theorem add_i64 (x y z : Int) (t : TypeId) (a b : Operand) (hz : x + y = z) (hb : -4611686018427387904 ≤ z ∧ z ≤ 4611686018427387904) (W : World) : (do eqGuard .add t a b (.int .i64 x) (.int .i64 y); binOp .add t (.int .i64 x) (.int .i64 y) : Sem Value).run Tryd.prog W = .ok (.int .i64 z) W := by
  have h : IntKind.i64.wrap (x + y) = z := by
    rw [IntKind.wrap_i64]
    omega
  simp [eqGuard, binOp, go_sem, h]

theorem below_new (W : World) (zs cs : Array Value) (t : TypeId) : Below W.heap.size W ((W.alloc (.cells zs t)).setRow W.heap.size cs) := below_setRow ((Below.refl _ _).alloc (Nat.le_refl _) _) _ _ (Nat.le_refl _)

/-- The first m of a row of the call's own. -/
def prefF (B m : Nat) (hs : List Hs) : Fact := .sat (fun v W => ∃ a c, v = .slice a m c ∧ OHs W B (.slice a hs.length c) hs) fun _ _ _ ⟨a, c, h1, h2⟩ hb => ⟨a, c, h1, h2.below hb⟩
/-- A range over them. -/
def rngF (B s m : Nat) (hs : List Hs) : Fact := .sat (fun v W => ∃ a c, v = .agg (rngC s (.slice a m c)) ∧ OHs W B (.slice a hs.length c) hs) fun _ _ _ ⟨a, c, h1, h2⟩ hb => ⟨a, c, h1, h2.below hb⟩
/-- A new variable. -/
def varF (B : Nat) (t : TypeId) (zs : Array Value) : Fact := .sat (fun v W => ∃ g, v = .pointer (some ⟨g, 0, none⟩) ∧ B ≤ g ∧ Blk W g t zs) fun _ _ _ ⟨g, h1, h2, h3⟩ hb => ⟨g, h1, h2, h3.keep hb⟩

section
variable {ops : Array Oper} {tab : List (List Nat)} {fin : List Tmp} {G : World → Prop} {f : Tmp → Fact} {i : Nat} {o : Oper}

theorem ask_build1 (hg : guardOk ops f o) (ty : TypeId) (k : Nat) (s : Operand) (v c : Value) (ho : o.op = .build ty #[(k, s)]) (hs : opFact f s = .is v) (hd : ∀ k, o.dst = some k → f k = .is c)
    (hr : ∀ W, (Instr.build ty #[(k, v)]).run Tryd.prog W = .ok c W) : Asked Tryd.prog ops tab fin G f i o := by
  refine ask_val hg c hd fun y W _ hk => ?_
  have e1 := evalBy_opVal hk s (by rw [ho]; simp [Op.operands]) hs
  simp [execOp, ho, e1, hr W, Result.andThen]

theorem ask_slice_pref (hG : ∀ W W', G W → Below W.heap.size W W' → G W') (hg : guardOk ops f o) (s t : Operand) (B m : Nat) (hs : List Hs) (ho : o.op = .slice 22 s none (some t) none) (h1 : opFact f s = ohsF B hs) (h2 : opFact f t = .is (.int .i64 (m : Int))) (hm : m ≤ hs.length) (h0 : 0 < hs.length)
    (hd : ∀ k, o.dst = some k → f k = prefF B m hs) : Asked Tryd.prog ops tab fin G f i o := by
  refine ask_grow hG hg fun y W hW hk => ?_
  have e1 := told_op hk s (by rw [ho]; simp [Op.operands])
  rw [h1] at e1
  have e1 : OHs W B (evalBy y s) hs := e1
  have e2 := evalBy_opVal hk t (by rw [ho]; simp [Op.operands]) h2
  obtain ⟨g, c, e, hc, _⟩ := e1.form h0
  have hr := slice_hs_to (some ⟨g, 0, none⟩) hs.length c m (by omega) W
  rw [sliced_zero] at hr
  refine gives_value (v := .slice (some ⟨g, 0, none⟩) m c) (w' := W) ?_ ⟨Below.refl _ _, fun k hk => by rw [hd k hk]; exact ⟨_, c, rfl, by rw [← e]; exact e1⟩⟩
  simp only [execOp, ho, e, e2, Option.map_none, Option.map_some]
  rw [Sem.run_bind, hr]
  rfl

end
section
variable {ops : Array Oper} {tab : List (List Nat)} {fin : List Tmp} {G : World → Prop} {f : Tmp → Fact} {i : Nat} {o : Oper}

def stillBut3 (ops : Array Oper) (tab : List (List Nat)) (fin : List Tmp) (f : Tmp → Fact) (i : Nat) (o : Oper) (keeps : List Tmp) : Bool :=
  (fin ++ ops.toList.flatMap (·.looksAt ops)).all fun k => o.dst == some k || !live2 ops tab fin i k || (f k).still || keeps.contains k

theorem still_but3 {keeps : List Tmp} (h : stillBut3 ops tab fin f i o keeps = true) (k : Tmp) (hne : o.dst ≠ some k) (hl0 : live2 ops tab fin i k = true) : (f k).still = true ∨ k ∈ keeps := by
  have hl : live ops tab fin i k = true := by
    have h2 := hl0
    unfold live2 at h2
    rw [Bool.and_eq_true] at h2
    exact h2.1
  unfold stillBut3 at h
  have hm : k ∈ fin ++ ops.toList.flatMap (·.looksAt ops) := by
    unfold live at hl
    rw [Bool.or_eq_true] at hl
    rcases hl with hl | hl
    · exact List.mem_append_left _ (by simpa using hl)
    · obtain ⟨j, hj, h1⟩ := List.any_eq_true.1 hl
      refine List.mem_append_right _ (List.mem_flatMap.2 ?_)
      have hjl : j < ops.size := List.mem_range.1 hj
      refine ⟨ops[j], by simp, ?_⟩
      simp only [Array.getElem?_eq_getElem hjl, Bool.and_eq_true] at h1
      simpa using h1.1.1
  have := List.all_eq_true.1 h k hm
  simpa [hl0, hne] using this

theorem ask_write3 {P : Program} {keeps : List Tmp} (Rel : World → World → Prop) (hkeep : ∀ k, k ∈ keeps → ∀ u W W', Rel W W' → (f k).holds u W → (f k).holds u W') (hg : guardOk ops f o) (hs : stillBut3 ops tab fin f i o keeps = true)
    (h : ∀ x W, G W → Told ops f o x W → gives P o x W (fun v W' => Rel W W' ∧ G W' ∧ ∀ k, o.dst = some k → (f k).holds v W')) : Asked2 P ops tab fin G f i o := by
  intro x W hW hk
  refine ⟨guard_ok hg hk, ?_⟩
  have hlive : ∀ (W' : World), Rel W W' → ∀ k u, o.dst ≠ some k → live2 ops tab fin i k = true → (f k).holds u W → (f k).holds u W' := fun W' hr k u hne hl hu => by
    rcases still_but3 hs k hne hl with h1 | h1
    · exact Fact.stays h1 hu
    · exact hkeep k h1 u W W' hr hu
  refine gives_imp (h x W hW hk) fun v w' ⟨q0, q1, q2⟩ => ⟨q1, fun k u hd hl hu => hlive w' q0 k u hd hl hu, q2⟩

end
end Go.Proofs.YtdhfabjkpffhnabDoor

