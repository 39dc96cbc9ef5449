/- Joined: Facts, RefRaw, BinOwn, Texts, Tail. -/
import Derived.Test.YtgbhfolbkgibfaaRegion
import Derived.Test.YtgbhfolbkgibfaaLAB
import Derived.Test.YtgbhfolbkgibfaaLAF
import Derived.Deep.Matrix
import Derived.OpenShut
/- The facts that regions are told by: a value, the bytes of a slice, a row of the call's own. -/
namespace Go.Proofs.Ytgbhfolbkgibfaa
set_option maxRecDepth 20000
open Go.RowKit Reg

/-- append in a walk, by whatever is known of its run. -/
theorem wpList_append_by {P : Program} {w : World} {ops : Array Oper} {rest : List Oper} {o : Oper} {a : Act} {Q : Exit → Act → World → Prop} (hgd : o.guard = none) (s x : Operand) (t : TypeId)
    (ho : o.op = .call { callee := .builtin .append, args := #[s, x], argTypes := #[t, t] }) (v y : Value) (hs : a.eval s = v) (hx : a.eval x = y) (R : Value → World → Prop)
    (hr : ∃ v' w', (Builtin.append_ #[t, t] o.type #[v, y]).run P w = .ok v' w' ∧ R v' w')
    (h : ∀ v' w', R v' w' → wpList P ops Q rest (a.put o.dst v') w') : wpList P ops Q (o :: rest) a w := by
  obtain ⟨v', w', hrun, hR⟩ := hr
  refine wpList_plain hgd fun K hK => ?_
  unfold Oper.wp
  simp [execOp, ho, resolve, invoke, builtin, hs, hx, hrun, Result.andThen]
  exact hK _ _ (h v' w' hR)

/-- The shape of a row that isn't empty. -/
theorem Row.shape {w : World} {B : Nat} {v : Value} {l : List UInt8} (h : Row w B v l) (hl : l ≠ []) : ∃ g cap, v = .slice (some ⟨g, 0, none⟩) l.length cap ∧ B ≤ g ∧ g < w.heap.size ∧ l.length ≤ cap ∧ cap ≤ maxLen := by
  rcases h.2 with ⟨_, h0⟩ | ⟨g, cap, cur, hv, hB, hg, hn, hm, hs, ht⟩
  · exact absurd (List.eq_nil_of_length_eq_zero h0) hl
  · exact ⟨g, cap, hv, hB, (Array.getElem?_eq_some_iff.1 hg).1, hn, hm⟩

/-- A beginning of a slice. -/
theorem Bys.take {w : World} {a : Option Addr} {len cap : Nat} {l : List UInt8} (h : Bys w (.slice a len cap) l) (k : Nat) (hk : k ≤ l.length) : Bys w (.slice a k cap) (l.take k) := by
  rcases h with ⟨h1, rfl⟩ | ⟨ad, cap', h1, hc⟩
  · simp at h1 hk
    obtain ⟨rfl, rfl, rfl⟩ := h1
    subst hk
    exact .inl ⟨rfl, rfl⟩
  · simp at h1
    obtain ⟨rfl, rfl, rfl⟩ := h1
    have e : (l.take k).length = k := by rw [List.length_take]; omega
    refine .inr ⟨ad, cap, by rw [e], fun i hi => ?_⟩
    rw [e] at hi
    rw [hc i (by omega)]
    simp

theorem byte_bys (w : World) (c : UInt8) : Bys (w.alloc (.cells #[bv c] 5)) (.slice (some ⟨w.heap.size, 0, none⟩) 1 1) [c] :=
  .inr ⟨⟨w.heap.size, 0, none⟩, 1, rfl, fun i hi => by
    obtain rfl : i = 0 := by simp at hi; exact hi
    simp [Addr.add, World.cell?_alloc_at]⟩

inductive Fact
  | is (v : Value)
  | bys (l : List UInt8)
  | row (B : Nat) (l : List UInt8)
  | lit (B : Nat)
  | any
  | sat (p : Value → World → Prop) (h : ∀ v W W', p v W → Below W.heap.size W W' → p v W')

def Fact.holds : Fact → Value → World → Prop
  | .is c, v, _ => v = c
  | .bys l, v, w => Bys w v l
  | .row B l, v, w => Row w B v l
  | .lit B, v, w => ∃ g, v = .slice (some ⟨g, 0, none⟩) 0 0 ∧ B ≤ g ∧ w.heap[g]? = some (.cells #[] 5 (0, 0))
  | .any, _, _ => True
  | .sat p _, v, w => p v w

/-- It speaks of no memory. -/
def Fact.still : Fact → Bool
  | .is _ | .any => true
  | _ => false

theorem Row.below {w w' : World} {B : Nat} {v : Value} {l : List UInt8} (h : Row w B v l) (hb : Below w.heap.size w w') : Row w' B v l := by
  rcases h with ⟨h1, h2⟩
  refine ⟨h1, ?_⟩
  rcases h2 with h2 | ⟨g, cap, cur, hv, hB, hg, r⟩
  · exact .inl h2
  · have hlt : g < w.heap.size := (Array.getElem?_eq_some_iff.1 hg).1
    exact .inr ⟨g, cap, cur, hv, hB, by rw [hb.block g hlt]; exact hg, r⟩

theorem Fact.below {f : Fact} {w w' : World} {v : Value} (h : f.holds v w) (hb : Below w.heap.size w w') : f.holds v w' := by
  cases f with
  | is c => exact h
  | bys l => exact Bys.below h (Nat.le_refl _) hb
  | row B l => exact Row.below h hb
  | lit B =>
    obtain ⟨g, h1, h2, h3⟩ := h
    exact ⟨g, h1, h2, by rw [hb.block g (Array.getElem?_eq_some_iff.1 h3).1]; exact h3⟩
  | any => trivial
  | sat p hp => exact hp _ _ _ h hb

theorem Fact.stays {f : Fact} {w w' : World} {v : Value} (hf : f.still = true) (h : f.holds v w) : f.holds v w' := by
  cases f <;> first | exact h | trivial | cases hf

def factsOf (l : List (Tmp × Fact)) (a : Act) (k : Tmp) : Fact := (l.lookup k).getD (.is (a.tmps.getD k undef))

def opFact (f : Tmp → Fact) : Operand → Fact
  | .tmp k => f k
  | .const v => .is v
  | .global g => .is (.pointer (some ⟨g, 0, none⟩))
  | .func n => .is (.func (.func n) #[] #[])

/-- The guard is known to say yes. -/
def guardOk (ops : Array Oper) (f : Tmp → Fact) (o : Oper) : Prop :=
  match o.guard with
  | none => True
  | some (j, b) => ∃ d, (ops[j]?).bind (·.dst) = some d ∧ f d = .is (.bool b)

theorem guard_none {ops : Array Oper} {f : Tmp → Fact} {o : Oper} (h : o.guard = none) : guardOk ops f o := by
  unfold guardOk; rw [h]; trivial

theorem guard_some {ops : Array Oper} {f : Tmp → Fact} {o : Oper} {j : Nat} {b : Bool} {d : Tmp} (h : o.guard = some (j, b)) (hd : (ops[j]?).bind (·.dst) = some d) (hf : f d = .is (.bool b)) : guardOk ops f o := by
  unfold guardOk; rw [h]; exact ⟨d, hd, hf⟩

/-- An operand's value, where it is known. -/
def opVal (f : Tmp → Fact) (s : Operand) : Value := match opFact f s with
  | .is v => v
  | _ => undef

def isIs : Fact → Bool
  | .is _ => true
  | _ => false

section
variable {P : Program} {ops : Array Oper} {tab : List (List Nat)} {fin : List Tmp} {G : World → Prop} {f : Tmp → Fact} {i : Nat} {o : Oper}

/-- What an operation may lean on. -/
def Told (ops : Array Oper) (f : Tmp → Fact) (o : Oper) (x : Tmp → Value) (W : World) : Prop := ∀ k, (o.looksAt ops).contains k = true → (f k).holds (x k) W

def Asked (P : Program) (ops : Array Oper) (tab : List (List Nat)) (fin : List Tmp) (G : World → Prop) (f : Tmp → Fact) (i : Nat) (o : Oper) : Prop :=
  asked P ops tab fin G (fun k v W => (f k).holds v W) i o

theorem guard_ok {x : Tmp → Value} {W : World} (hg : guardOk ops f o) (hk : Told ops f o x W) : wantedBy ops o x := by
  unfold guardOk at hg
  unfold wantedBy
  cases hgd : o.guard with
  | none => trivial
  | some p =>
    obtain ⟨j, b⟩ := p
    rw [hgd] at hg
    obtain ⟨d, hd, hf⟩ := hg
    refine ⟨d, hd, ?_⟩
    have h := hk d (by simp [Oper.looksAt, hgd, hd])
    rw [hf] at h
    exact h

theorem ask_grow (hG : ∀ W W', G W → Below W.heap.size W W' → G W') (hg : guardOk ops f o)
    (h : ∀ x W, G W → Told ops f o x W → gives P o x W (fun v W' => Below W.heap.size W W' ∧ ∀ k, o.dst = some k → (f k).holds v W')) : Asked P ops tab fin G f i o := by
  intro x W hW hk
  refine ⟨guard_ok hg hk, ?_⟩
  have := h x W hW hk
  unfold gives at *
  generalize (execOp (evalBy x) o).run P W = r at *
  cases r with
  | ok n w' =>
    cases n <;> simp only [givesUpon] at this ⊢
    case value v => exact ⟨hG _ _ hW this.1, fun k u _ _ hu => Fact.below hu this.1, this.2⟩
    case skip => exact ⟨hG _ _ hW this.1, fun k u _ _ hu => Fact.below hu this.1, this.2⟩
    case enter g args => exact this.mono fun e w'' ⟨v, he, h1, h2⟩ => ⟨v, he, hG _ _ hW h1, fun k u _ _ hu => Fact.below hu h1, h2⟩
  | halt x w' => simp only [givesUpon] at this

theorem ask_val (hg : guardOk ops f o) (c : Value) (hd : ∀ k, o.dst = some k → f k = .is c) (h : ∀ x W, G W → Told ops f o x W → (execOp (evalBy x) o).run P W = .ok (.value c) W) : Asked P ops tab fin G f i o := by
  intro x W hW hk
  exact ⟨guard_ok hg hk, gives_value (h x W hW hk) ⟨hW, fun k u _ _ hu => hu, fun k hk => by show (f k).holds _ _; rw [hd k hk]; rfl⟩⟩

/-- An operation that may write what no later one looks at. -/
def stillBut (ops : Array Oper) (tab : List (List Nat)) (fin : List Tmp) (f : Tmp → Fact) (i : Nat) (o : Oper) : Bool :=
  (fin ++ ops.toList.flatMap (·.looksAt ops)).all fun k => o.dst == some k || !live ops tab fin i k || (f k).still

theorem still_but (h : stillBut ops tab fin f i o = true) (k : Tmp) (hne : o.dst ≠ some k) (hl : live ops tab fin i k = true) : (f k).still = true := by
  unfold stillBut at h
  have hm : k ∈ fin ++ ops.toList.flatMap (·.looksAt ops) := by
    unfold live at hl
    rw [Bool.or_eq_true] at hl
    rcases hl with hl | hl
    · exact List.mem_append_left _ (by simpa using hl)
    · obtain ⟨j, hj, h1⟩ := List.any_eq_true.1 hl
      refine List.mem_append_right _ (List.mem_flatMap.2 ?_)
      have hjl : j < ops.size := List.mem_range.1 hj
      refine ⟨ops[j], by simp, ?_⟩
      simp only [Array.getElem?_eq_getElem hjl, Bool.and_eq_true] at h1
      simpa using h1.1.1
  have := List.all_eq_true.1 h k hm
  simpa [hl, hne] using this

theorem ask_write (hg : guardOk ops f o) (hs : stillBut ops tab fin f i o = true)
    (h : ∀ x W, G W → Told ops f o x W → gives P o x W (fun v W' => G W' ∧ ∀ k, o.dst = some k → (f k).holds v W')) : Asked P ops tab fin G f i o := by
  intro x W hW hk
  refine ⟨guard_ok hg hk, ?_⟩
  have := h x W hW hk
  unfold gives at *
  generalize (execOp (evalBy x) o).run P W = r at *
  cases r with
  | ok n w' =>
    cases n <;> simp only [givesUpon] at this ⊢
    case value v => exact ⟨this.1, fun k u hne hl hu => Fact.stays (still_but hs k hne hl) hu, this.2⟩
    case skip => exact ⟨this.1, fun k u hne hl hu => Fact.stays (still_but hs k hne hl) hu, this.2⟩
    case enter g args => exact this.mono fun e w'' ⟨v, he, h1, h2⟩ => ⟨v, he, h1, fun k u hne hl hu => Fact.stays (still_but hs k hne hl) hu, h2⟩
  | halt x w' => simp only [givesUpon] at this

theorem told_op {x : Tmp → Value} {W : World} (hk : Told ops f o x W) (s : Operand) (hs : s ∈ o.op.operands.toList) : (opFact f s).holds (evalBy x s) W := by
  cases s with
  | tmp k => exact hk k (by simp only [Oper.looksAt, List.contains_eq_mem, decide_eq_true_eq]; exact List.mem_append_left _ (List.mem_filterMap.2 ⟨_, hs, rfl⟩))
  | const v => exact rfl
  | global g => exact rfl
  | func n => exact rfl

theorem ask_copy (hg : guardOk ops f o) (s : Operand) (ho : o.op = .move s ∨ o.op = .assign s) (hd : ∀ k, o.dst = some k → f k = opFact f s) : Asked P ops tab fin G f i o := by
  intro x W hW hk
  refine ⟨guard_ok hg hk, ?_⟩
  have hs : (opFact f s).holds (evalBy x s) W := told_op hk s (by rcases ho with ho | ho <;> rw [ho] <;> simp [Op.operands])
  refine gives_value (v := evalBy x s) (w' := W) ?_ ⟨hW, fun k u _ _ hu => hu, fun k hk => by show (f k).holds _ _; rw [hd k hk]; exact hs⟩
  rcases ho with ho | ho <;> simp [execOp, ho]

/-- Every operand is known; the operation leaves the memory alone. -/
theorem ask_exec (hg : guardOk ops f o) (c : Value) (hns : (match o.op with | .select .. => false | _ => true) = true) (hk : (o.op.operands.toList.all fun s => isIs (opFact f s)) = true) (hd : ∀ k, o.dst = some k → f k = .is c)
    (hrun : ∀ W, G W → (execOp (opVal f) o).run P W = .ok (.value c) W) : Asked P ops tab fin G f i o := by
  refine ask_val hg c hd fun x W hW ht => ?_
  have e : execOp (evalBy x) o = execOp (opVal f) o := execOp_congr o (fun cs b h => by rw [h] at hns; cases hns) fun s hs => by
    have h1 := told_op ht s (by simpa using hs)
    have h2 := List.all_eq_true.1 hk s (by simpa using hs)
    unfold opVal
    cases hf : opFact f s with
    | is v => rw [hf] at h1; exact h1
    | _ => rw [hf] at h2; cases h2
  rw [e]
  exact hrun W hW

theorem evalBy_opVal {x : Tmp → Value} {W : World} (hk : Told ops f o x W) (s : Operand) (hs : s ∈ o.op.operands.toList) {v : Value} (h : opFact f s = .is v) : evalBy x s = v := by
  have h1 := told_op hk s hs
  rw [h] at h1
  exact h1

theorem ask_bin (hg : guardOk ops f o) (b : BinOp) (ty tz : TypeId) (s t : Operand) (v1 v2 c : Value) (ho : o.op = .binOp b ty s t tz) (hs : opFact f s = .is v1) (ht : opFact f t = .is v2) (hd : ∀ k, o.dst = some k → f k = .is c)
    (hrun : ∀ W, (do eqGuard b ty s t v1 v2; binOp b ty v1 v2 : Sem Value).run P W = .ok c W) : Asked P ops tab fin G f i o := by
  refine ask_val hg c hd fun x W hW hk => ?_
  have e1 := evalBy_opVal hk s (by rw [ho]; simp [Op.operands]) hs
  have e2 := evalBy_opVal hk t (by rw [ho]; simp [Op.operands]) ht
  simp only [execOp, ho, e1, e2]
  rw [Sem.run_bind, hrun W]
  rfl

theorem ask_len (hg : guardOk ops f o) (s : Operand) (t : TypeId) (a : Option Addr) (n cap : Nat) (ho : o.op = .call { callee := .builtin .len, args := #[s], argTypes := #[t] }) (ht : P.underlying t = some (.slice (P.elem t))) (hs : opFact f s = .is (.slice a n cap))
    (hd : ∀ k, o.dst = some k → f k = .is (.int .i64 n)) : Asked P ops tab fin G f i o := by
  refine ask_val hg _ hd fun x W hW hk => ?_
  have e1 := evalBy_opVal hk s (by rw [ho]; simp [Op.operands, Call.operands]) hs
  have hr := run_len_slice (P := P) W t o.type a n cap ht
  simp [execOp, ho, resolve, invoke, builtin, e1, hr, Result.andThen, goInt]

theorem ask_slice (hg : guardOk ops f o) (ty : TypeId) (s : Operand) (lo hi mx : Option Operand) (v c : Value) (lo' hi' mx' : Option Value) (ho : o.op = .slice ty s lo hi mx) (hs : opFact f s = .is v) (hlo : lo.map (opFact f) = lo'.map .is) (hhi : hi.map (opFact f) = hi'.map .is) (hmx : mx.map (opFact f) = mx'.map .is) (hd : ∀ k, o.dst = some k → f k = .is c)
    (hrun : ∀ W, (Instr.sliceAt ty v lo' hi' mx').run P W = .ok c W) : Asked P ops tab fin G f i o := by
  refine ask_val hg c hd fun x W hW hk => ?_
  have e1 := evalBy_opVal hk s (by rw [ho]; simp [Op.operands]) hs
  have hop : ∀ (y : Option Operand) (y' : Option Value), (∀ q, y = some q → q ∈ o.op.operands.toList) → y.map (opFact f) = y'.map .is → y.map (evalBy x) = y' := by
    intro y y' hq h
    cases y with
    | none => cases y' with
      | none => rfl
      | some _ => cases h
    | some q => cases y' with
      | none => cases h
      | some q' =>
        simp at h
        simp [evalBy_opVal hk q (hq q rfl) h]
  have e2 := hop lo lo' (fun q h => by rw [ho, h]; simp [Op.operands]) hlo
  have e3 := hop hi hi' (fun q h => by rw [ho, h]; simp [Op.operands]) hhi
  have e4 := hop mx mx' (fun q h => by rw [ho, h]; simp [Op.operands]) hmx
  simp only [execOp, ho, e1, e2, e3, e4]
  rw [Sem.run_bind, hrun W]
  rfl

/-- 'c && a', 'c || a' with what c is known to be. -/
theorem ask_pick (hg : guardOk ops f o) (c a b : Operand) (t : Bool) (ho : o.op = .pick c a b) (hc : opFact f c = .is (.bool t)) (hd : ∀ k, o.dst = some k → f k = opFact f (if t then a else b)) : Asked P ops tab fin G f i o := by
  intro x W hW hk
  refine ⟨guard_ok hg hk, ?_⟩
  have h1 : evalBy x c = .bool t := by
    have := told_op hk c (by rw [ho]; simp [Op.operands])
    rw [hc] at this
    exact this
  have hs : (opFact f (if t then a else b)).holds (evalBy x (if t then a else b)) W := told_op hk _ (by rw [ho]; cases t <;> simp [Op.operands])
  refine gives_value (v := evalBy x (if t then a else b)) (w' := W) ?_ ⟨hW, fun k u _ _ hu => hu, fun k hk => by show (f k).holds _ _; rw [hd k hk]; exact hs⟩
  cases t <;> simp [execOp, ho, h1, asBool]

/-- append to what `[]byte{}` made. -/
theorem ask_append_lit (hG : ∀ W W', G W → Below W.heap.size W W' → G W') (hg : guardOk ops f o) (s t : Operand) (B : Nat) (l : List UInt8) (hty : o.type = 34)
    (ho : o.op = .call { callee := .builtin .append, args := #[s, t], argTypes := #[34, 34] }) (hs : opFact f s = .lit B) (ht : ∀ x W, G W → Told ops f o x W → Bys W (evalBy x t) l) (hl : l.length ≤ 140737488355328)
    (hd : ∀ k, o.dst = some k → f k = .row B l ∨ f k = .bys l) : Asked Try.prog ops tab fin G f i o := by
  refine ask_grow hG hg fun x W hW hk => ?_
  have h1 := told_op hk s (by rw [ho]; simp [Op.operands, Call.operands])
  rw [hs] at h1
  obtain ⟨g, e1, hB, hgw⟩ := h1
  obtain ⟨v', w', hr, h2, h3⟩ := append_lit hB hgw (ht x W hW hk) hl
  rw [← hty, ← e1] at hr
  refine gives_value (v := v') (w' := w') ?_ ⟨h3, fun k hk => ?_⟩
  · simp only [hty] at hr
    simp [execOp, ho, resolve, invoke, builtin, hty, hr, Result.andThen]
  · rcases hd k hk with h | h <;> rw [h]
    · exact h2
    · exact h2.bys

theorem range_one : Array.range 1 = #[0] := by apply Array.ext'; simp [List.range_succ]

theorem ask_build_lit (hG : ∀ W W', G W → Below W.heap.size W W' → G W') (hg : guardOk ops f o) (B : Nat) (hB : ∀ W, G W → B ≤ W.heap.size) (ho : o.op = .buildSlice 34 0 #[]) (hd : ∀ k, o.dst = some k → f k = .lit B) : Asked Try.prog ops tab fin G f i o := by
  refine ask_grow hG hg fun x W hW hk => ?_
  have hr : (Instr.buildSlice 34 0 #[]).run Try.prog W = .ok (.slice (some ⟨W.heap.size, 0, none⟩) 0 0) (W.alloc (.cells #[] 5)) := by
    simp [Instr.buildSlice, run_underlying Try.underlying34, Result.andThen, Instr.fill, newRow, Array.range_zero']
  refine gives_value (v := .slice (some ⟨W.heap.size, 0, none⟩) 0 0) (w' := W.alloc (.cells #[] 5)) ?_ ⟨(Below.refl _ _).alloc (Nat.le_refl _) _, fun k hk => by rw [hd k hk]; exact ⟨_, rfl, hB W hW, heap_alloc_new W _⟩⟩
  simp [execOp, ho, hr, Result.andThen]

theorem ask_build_one (hG : ∀ W W', G W → Below W.heap.size W W' → G W') (hg : guardOk ops f o) (s : Operand) (c : UInt8) (ho : o.op = .buildSlice 34 1 #[(0, s)]) (hs : opFact f s = .is (bv c)) (hd : ∀ k, o.dst = some k → f k = .bys [c]) : Asked Try.prog ops tab fin G f i o := by
  refine ask_grow hG hg fun x W hW hk => ?_
  have e := evalBy_opVal hk s (by rw [ho]; simp [Op.operands]) hs
  have hz : (zeroValue 5).run Try.prog W = .ok (.int .u8 0) W := by kernel_rfl
  have hr : (Instr.buildSlice 34 1 #[(0, bv c)]).run Try.prog W = .ok (.slice (some ⟨W.heap.size, 0, none⟩) 1 1) (W.alloc (.cells #[bv c] 5)) := by
    simp [Instr.buildSlice, run_underlying Try.underlying34, Result.andThen, hz, Instr.fill, newRow, bv, Value.cells, range_one]
  refine gives_value (v := .slice (some ⟨W.heap.size, 0, none⟩) 1 1) (w' := W.alloc (.cells #[bv c] 5)) ?_ ⟨(Below.refl _ _).alloc (Nat.le_refl _) _, fun k hk => by rw [hd k hk]; exact byte_bys W c⟩
  simp [execOp, ho, hr, e, Result.andThen]

/-- A call of a Go function, met by its contract. -/
theorem ask_call (hG : ∀ W W', G W → Below W.heap.size W W' → G W') (hg : guardOk ops f o) (n : FuncId) (ss : Array Operand) (ts : Array TypeId) (args : Array Value) (fd : Fact)
    (ho : o.op = .call { callee := .value (.func n), args := ss, argTypes := ts }) (hfn : ((P.funcs[n]?).map fun fn => (fn.name == "runtime.NumGoroutine", fn.body.isNone)) = some (false, false))
    (hk : (ss.toList.all fun s => isIs (opFact f s)) = true) (hargs : ss.toList.map (opVal f) = args.toList) (hd : ∀ k, o.dst = some k → f k = fd)
    (h : ∀ W, G W → Calls P n args W fun e W' => ∃ v, e = .returned v ∧ fd.holds v W' ∧ Below W.heap.size W W') : Asked P ops tab fin G f i o := by
  refine ask_grow hG hg fun x W hW ht => ?_
  have ea : ss.map (evalBy x) = args := by
    have hargs' : ss.map (opVal f) = args := by
      apply Array.toList_inj.1
      rw [Array.toList_map, hargs]
    rw [← hargs']
    refine Array.map_congr_left fun s hs => ?_
    have h1 := told_op ht s (by rw [ho]; simp [Op.operands, Call.operands, hs])
    have h2 := List.all_eq_true.1 hk s (by simpa using hs)
    unfold opVal
    cases hf : opFact f s with
    | is v => rw [hf] at h1; exact h1
    | _ => rw [hf] at h2; cases h2
  refine gives_enter (f := n) (args := args) (w' := W) ?_ ((h W hW).mono fun e W' ⟨v, h1, h2, h3⟩ => ⟨v, h1, h3, fun k hk => by rw [hd k hk]; exact h2⟩)
  obtain ⟨fn, hf, hp⟩ := Option.map_eq_some_iff.1 hfn
  simp only [Prod.mk.injEq] at hp
  have e : execOp (evalBy x) o = callFunc n (#[] ++ ss.map (evalBy x) ++ #[]) := by
    obtain ⟨dst, op, type, pos, after, guard⟩ := o
    simp only at ho
    subst ho
    rfl
  rw [e, ea]
  have h1 : fn.name ≠ "runtime.NumGoroutine" := by simpa using hp.1
  have h2 : fn.body ≠ none := by intro hh; have := hp.2; rw [hh] at this; cases this
  simp [callFunc, hf, h1, h2]

def AskedAll (P : Program) (ops : Array Oper) (tab : List (List Nat)) (fin : List Tmp) (G : World → Prop) (f : Tmp → Fact) : Nat → List Oper → Prop
  | _, [] => True
  | i, o :: r => Asked P ops tab fin G f i o ∧ AskedAll P ops tab fin G f (i + 1) r

theorem asked_of_all : ∀ (l : List Oper) (n : Nat), AskedAll P ops tab fin G f n l → ∀ (i : Nat) (o : Oper), l[i]? = some o → Asked P ops tab fin G f (n + i) o
  | [], _, _, i, o, h => by simp at h
  | _ :: r, n, h, 0, o, hi => by
    simp at hi
    subst hi
    exact h.1
  | _ :: r, n, h, i + 1, o, hi => by
    have := asked_of_all r (n + 1) h.2 i o (by simpa using hi)
    rwa [show n + (i + 1) = n + 1 + i by omega]

end

/-- A region by its facts: those of slots that it writes are listed; the others are as they stand. -/
theorem region_by {P : Program} {ops : Array Oper} {id : Nat} {a : Act} {w : World} {Q : Exit → Act → World → Prop} (l : List (Tmp × Fact)) (fin : List Tmp) (G : World → Prop)
    (hm : P.follows .mixedOrders = true) (hs : sound ops = true) (ht : tableOk ops (table ops) = true) (hd : (ops.all fun o => (o.dst.map fun d => decide (d < a.tmps.size)).getD true) = true)
    (hl : (l.all fun p => ops.any fun o => o.dst == some p.1) = true) (hG : G w.drew)
    (hops : AskedAll P ops (table ops) fin G (factsOf l a) 0 ops.toList)
    (hend : ∀ a' W, G W → a'.defers = a.defers → a'.tmps.size = a.tmps.size → (∀ k, fin.contains k = true → (factsOf l a k).holds (a'.tmps.getD k undef) W) → Q .normal a' W) : (Code.region id ops true).wp P Q a w := by
  refine wp_region_facts (table ops) fin G (fun k v W => (factsOf l a k).holds v W) hm hs ht hd hG (fun k => ?_) (fun i o hi => ?_) hend
  · cases hk : l.lookup k with
    | none => left; simp [factsOf, hk, Fact.holds]
    | some fk =>
      right
      have hmem : (k, fk) ∈ l := by
        clear hl hops hend
        induction l with
        | nil => simp at hk
        | cons p l ih =>
          obtain ⟨p1, p2⟩ := p
          rw [List.lookup_cons] at hk
          by_cases hkp : (k == p1) = true
          · rw [hkp] at hk
            simp at hk hkp
            subst hk hkp
            simp
          · simp only [hkp] at hk
            exact List.mem_cons_of_mem _ (ih hk)
      exact List.all_eq_true.1 hl _ hmem
  · have := asked_of_all ops.toList 0 hops i o (by simpa using hi)
    rwa [Nat.zero_add] at this

/-- An operation that looks at one operand that is known. -/
theorem ask_read {P : Program} {ops : Array Oper} {tab : List (List Nat)} {fin : List Tmp} {K : World → Prop} {f : Tmp → Fact} {i : Nat} {o : Oper} (hg : guardOk ops f o) (s : Operand) (v c : Value) (hs : opFact f s = .is v) (hmem : s ∈ o.op.operands.toList) (hd : ∀ k, o.dst = some k → f k = .is c)
    (h : ∀ (x : Tmp → Value) W, K W → evalBy x s = v → (execOp (evalBy x) o).run P W = .ok (.value c) W) : Asked P ops tab fin K f i o :=
  ask_val hg c hd fun x W hW hk => h x W hW (evalBy_opVal hk s hmem hs)

/-- A frame laid open. -/
theorem act_open (n : Nat) (b : Act) (hs : b.tmps.size = n) (hd : b.defers = []) : ∃ us : Nat → Value, (∀ i, us i = b.tmps.getD i undef) ∧ b = ⟨((List.range n).map us).toArray, []⟩ := by
  refine ⟨fun i => b.tmps.getD i undef, fun _ => rfl, ?_⟩
  obtain ⟨tmps, defers⟩ := b
  simp only at hs hd
  subst hd
  congr 1
  apply Array.ext
  · simp [hs]
  · intro i h1 h2
    simp [Array.getD, h1]

end Go.Proofs.Ytgbhfolbkgibfaa

/- The reference's reader: a text. -/
namespace Go.Proofs.Ytgbhfolbkgibfaa
set_option maxRecDepth 20000
open Go.RowKit BinMath Reg
variable {G : Nat} {a : Option Addr} {cap : Nat}

theorem addr_add_add (ad : Addr) (i j : Nat) : (ad.add i).add j = ad.add (i + j) := by
  by_cases hi : i = 0
  · subst hi; simp [Addr.add]
  · by_cases hj : j = 0
    · subst hj; simp [Addr.add]
    · simp [Addr.add, hi, hj, Nat.add_assoc]

end Go.Proofs.Ytgbhfolbkgibfaa

/- New, told by where its memory lies; loops that count up the bytes of a row. -/
namespace Go.Proofs.Ytgbhfolbkgibfaa
set_option maxRecDepth 20000
open Go.RowKit BinMath

end Go.Proofs.Ytgbhfolbkgibfaa

/- Slices of texts that came in; what is known of the bulk of what came in. -/
namespace Go.Proofs.Ytgbhfolbkgibfaa
set_option maxRecDepth 20000
open Go.ChangeShapes Go.WideShapes Go.ChangeAt Go.RowKit Go.Deep

namespace Bulk
theorem pos {H : Type} (d : DataW H) : 1 ≤ Rows.uptoBulk d := by
  cases d with
  | lit l => cases l <;> simp [Rows.uptoBulk]
  | _ => simp [Rows.uptoBulk]

theorem places {H : Type} : ∀ l : List (DataW H), l.length ≤ Rows.uptoBulkAll l
  | [] => by simp [Rows.uptoBulkAll]
  | d :: r => by
    have h1 := pos d
    have h2 := places r
    simp only [Rows.uptoBulkAll, List.length_cons]
    omega

theorem part {H : Type} {d : DataW H} : ∀ {l : List (DataW H)}, d ∈ l → Rows.uptoBulk d ≤ Rows.uptoBulkAll l
  | x :: r, h => by
    simp only [Rows.uptoBulkAll]
    rcases List.mem_cons.1 h with rfl | h
    · omega
    · have := part h
      omega

theorem elems {H : Type} (l r : List (DataW H)) : Rows.uptoBulkAll l ≤ Rows.uptoBulk (.slice l r) := by
  simp only [Rows.uptoBulk]; omega
end Bulk

/-- The texts that came in. -/
def TextsAt (w : World) (a : Option Addr) (T : List (List UInt8)) : Prop := ∀ (i : Nat) (t : List UInt8), T[i]? = some t → t.length ≤ 1048576 ∧ ∃ ad A C, a = some ad ∧ w.cell? (ad.add i) = some (.slice A t.length C) ∧ Bys w (.slice A t.length C) t

theorem TextsAt.below {w w' : World} {a : Option Addr} {T : List (List UInt8)} (h : TextsAt w a T) (hb : Below w.heap.size w w') : TextsAt w' a T := fun i n hi => by
  obtain ⟨h1, ad, A, C, h2, h3, h4⟩ := h i n hi
  exact ⟨h1, ad, A, C, h2, by rw [hb.cell (World.block_lt_of_cell? w _ h3)]; exact h3, h4.below (Nat.le_refl _) hb⟩

end Go.Proofs.Ytgbhfolbkgibfaa

/- A region that draws its order, told by facts, with one operation behind all the others: what that one does is walked. -/
namespace Go.Proofs.Ytgbhfolbkgibfaa
set_option maxRecDepth 20000
open Go.RowKit Reg

theorem any_of_inv_tail {P : Program} {ops : Array Oper} {tab : List (List Nat)} {fin : List Tmp} {G : World → Prop} {F : Tmp → Value → World → Prop} {a0 : Act} {Q : Exit → Act → World → Prop} (n : Nat) (ol : Oper)
    (hs : sound ops = true) (ht : tableOk ops tab = true) (hn : ops[n]? = some ol) (hsize : ops.size = n + 1) (hgd : ol.guard = none) (hall : ((List.range n).all fun j => (preds ops n).contains j || (tab.getD n []).contains j) = true)
    (hdl : ol.dst = none) (hd : ∀ (i : Nat) (o : Oper), ops[i]? = some o → ∀ d, o.dst = some d → d < a0.tmps.size)
    (hops : ∀ (i : Nat) (o : Oper), ops[i]? = some o → i < n → asked P ops tab fin G F i o)
    (hend : ∀ a W, G W → a.defers = a0.defers → a.tmps.size = a0.tmps.size → (∀ k, fin.contains k = true → F k (a.tmps.getD k undef) W) → wpList P ops Q [ol] a W) :
    ∀ (fuel : Nat) (listed : Array Bool) (a : Act) (W : World), left listed ≤ fuel → listed.getD n false = false → Inv ops fin G F a0 listed a W → wpAny P .any ops Q fuel listed a W := by
  have hlt : n < ops.size := by omega
  have unl : ∀ (listed : Array Bool), listed.size = ops.size → listed.getD n false = false → listed.getD n true = false := fun listed hl h => by
    rw [Array.getD_eq_getD_getElem?, Array.getElem?_eq_getElem (by omega)] at h ⊢
    exact h
  intro fuel
  induction fuel with
  | zero =>
    intro listed a W hf hnl h
    have := left_set (unl listed h.lsize hnl)
    omega
  | succ fuel ih =>
    intro listed a W hf hnl h
    refine ⟨fun hr => ?_, fun i hi => ?_⟩
    · have := all_listed hs h.lsize hr n hlt
      rw [hnl] at this
      cases this
    obtain ⟨hun, o, ho, hpre⟩ := mem_ready.1 hi
    have hil : i < ops.size := (Array.getElem?_eq_some_iff.1 ho).1
    have hun' : listed.getD i false = false := by
      rw [Array.getD_eq_getD_getElem?, Array.getElem?_eq_getElem (by rw [h.lsize]; exact hil)] at hun ⊢
      exact hun
    have hsd := sound_edge hs ho
    have hp : ∀ j ∈ preds ops i, listed.getD j false = true := fun j hj => by
      obtain ⟨e, he, hb, rfl⟩ := (mem_preds ho).1 hj
      exact hpre e he hb
    by_cases hin : i = n
    · subst hin
      rw [hn] at ho
      cases ho
      have hbelow : ∀ j, j < i → listed.getD j false = true := fun j hj => by
        have h1 := List.all_eq_true.1 hall j (List.mem_range.2 hj)
        rw [Bool.or_eq_true] at h1
        rcases h1 with h1 | h1
        · exact hp j (by simpa using h1)
        · exact table_listed ht h.down i hil hp j (by simpa using h1)
      have hfin : ∀ k, fin.contains k = true → F k (a.tmps.getD k undef) W := fun k hk => h.facts k (fun j oj hj hdj => by
        have hjl : j < ops.size := (Array.getElem?_eq_some_iff.1 hj).1
        have hjn : j ≠ i := by
          rintro rfl
          rw [hn] at hj
          cases hj
          rw [hdl] at hdj
          cases hdj
        exact hbelow j (by omega)) (.inl hk)
      have hw := hend a W h.grown h.defers h.size hfin
      have hwant : Region.wanted ol (yielded ops a.tmps) = true := by unfold Region.wanted; rw [hgd]
      unfold wpOp
      simp only [hn, hwant, if_true]
      unfold wpList at hw
      simp only [hwant, if_true] at hw
      have hdone : ∀ a' w', Q .normal a' w' → wpAny P .any ops Q fuel (listed.setIfInBounds i true) a' w' := fun a' w' hq => by
        have hready : Region.ready .any ops (listed.setIfInBounds i true) = [] := by
          cases hq : Region.ready .any ops (listed.setIfInBounds i true) with
          | nil => rfl
          | cons j js =>
            exfalso
            have hj : j ∈ Region.ready .any ops (listed.setIfInBounds i true) := by rw [hq]; simp
            obtain ⟨hju, oj, hoj, _⟩ := mem_ready.1 hj
            have hjl : j < ops.size := (Array.getElem?_eq_some_iff.1 hoj).1
            have h1 : (listed.setIfInBounds i true).getD j false = true := by
              by_cases hji : j = i
              · subst hji
                exact set_self (by rw [h.lsize]; exact hjl)
              · exact set_mem (hbelow j (by omega))
            have hjs : j < (listed.setIfInBounds i true).size := by simp [h.lsize]; exact hjl
            rw [Array.getD_eq_getD_getElem?, Array.getElem?_eq_getElem hjs] at h1 hju
            simp only [Option.getD_some] at h1 hju
            rw [h1] at hju
            cases hju
        cases fuel with
        | zero => exact ⟨hready, hq⟩
        | succ f => exact ⟨fun _ => hq, fun j hj => by rw [hready] at hj; cases hj⟩
      rcases hw with hw | hw
      · exact .inl (Oper.wp_mono hdone hw)
      · exact .inr hw
    · have hF : ∀ k, (o.looksAt ops).contains k = true → F k (a.tmps.getD k undef) W := fun k hk => h.facts k (fun j oj hj hdj => by
        obtain ⟨e, he, hb, rfl⟩ := hsd.2 k (by simpa using hk) j oj hj hdj
        exact hpre e he hb) (.inr ⟨i, o, ho, hk, hun'⟩)
      obtain ⟨hw, hg⟩ := hops i o ho (by omega) (fun t => a.tmps.getD t undef) W h.grown hF
      unfold wpOp
      simp only [ho, wanted_of hw, if_true]
      refine .inl (wp_of_gives hg fun v w' ⟨h1, h2, h3⟩ => ih _ _ _ ?_ ?_ (inv_step ht h ho hp (hd i o ho) h1 h2 h3))
      · have := left_set hun
        omega
      · rw [Array.getD_eq_getD_getElem?, Array.getElem?_setIfInBounds_ne hin, ← Array.getD_eq_getD_getElem?]
        exact hnl

/-- **A REGION BY ITS FACTS, the last operation behind all others.** -/
theorem region_tail_by {P : Program} {ops : Array Oper} {id : Nat} {a : Act} {w : World} {Q : Exit → Act → World → Prop} (n : Nat) (ol : Oper) (l : List (Tmp × Fact)) (fin : List Tmp) (G : World → Prop)
    (hm : P.follows .mixedOrders = true) (hs : sound ops = true) (ht : tableOk ops (table ops) = true) (hd : (ops.all fun o => (o.dst.map fun d => decide (d < a.tmps.size)).getD true) = true)
    (hl : (l.all fun p => ops.any fun o => o.dst == some p.1) = true)
    (hn : ops[n]? = some ol) (hsize : ops.size = n + 1) (hgd : ol.guard = none) (hdl : ol.dst = none) (hall : ((List.range n).all fun j => (preds ops n).contains j || ((table ops).getD n []).contains j) = true) (hG : G w.drew)
    (hops : AskedAll P ops (table ops) fin G (factsOf l a) 0 (ops.toList.take n))
    (hend : ∀ a' W, G W → a'.defers = a.defers → a'.tmps.size = a.tmps.size → (∀ k, fin.contains k = true → (factsOf l a k).holds (a'.tmps.getD k undef) W) → wpList P ops Q [ol] a' W) : (Code.region id ops true).wp P Q a w := by
  refine wp_region_any hm (any_of_inv_tail (tab := table ops) (fin := fin) (G := G) (F := fun k v W => (factsOf l a k).holds v W) (a0 := a) n ol hs ht hn hsize hgd hall hdl ?_ (fun i o hi hin => ?_) hend _ _ _ _ ?_ ?_ ?_)
  · intro i o hi d hdst
    have := Array.all_eq_true_iff_forall_mem.1 hd o (Array.mem_of_getElem? hi)
    simpa [hdst] using this
  · have := asked_of_all (ops.toList.take n) 0 hops i o (by rw [List.getElem?_take, if_pos hin]; simpa using hi)
    rwa [Nat.zero_add] at this
  · unfold Reg.left
    refine Nat.le_trans (List.length_filter_le _ _) (by simp)
  · rw [Array.getD_eq_getD_getElem?]
    simp [Array.getElem?_replicate]
    split <;> simp
  · refine ⟨hG, rfl, rfl, by simp, fun i o hi hl => ?_, fun k hk _ => ?_⟩
    · rw [Array.getD_eq_getD_getElem?] at hl
      simp [Array.getElem?_replicate] at hl
      split at hl <;> simp at hl
    · cases hkl : l.lookup k with
      | none => simp [factsOf, hkl, Fact.holds]
      | some fk =>
        exfalso
        have hmem : (k, fk) ∈ l := by
          clear hl hops hend
          induction l with
          | nil => simp at hkl
          | cons p l ih =>
            obtain ⟨p1, p2⟩ := p
            rw [List.lookup_cons] at hkl
            by_cases hkp : (k == p1) = true
            · rw [hkp] at hkl
              simp at hkl hkp
              subst hkl hkp
              simp
            · simp only [hkp] at hkl
              exact List.mem_cons_of_mem _ (ih hkl)
        have h := List.all_eq_true.1 hl _ hmem
        obtain ⟨o, ho, hdst⟩ := Array.any_eq_true'.1 h
        obtain ⟨i, hi⟩ := Array.mem_iff_getElem?.1 ho
        have := hk i o hi (by simpa using hdst)
        rw [Array.getD_eq_getD_getElem?] at this
        simp [Array.getElem?_replicate] at this
        split at this <;> simp at this

end Go.Proofs.Ytgbhfolbkgibfaa

