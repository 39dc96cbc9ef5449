/- Drawn regions in which calls write, one behind the other, each kept waiting by a guard: slots that tell the world, too. -/
import Derived.Test.YtejmmjlmnfnacaaArms
namespace Go.Proofs.Ytejmmjlmnfnacaa
open Go.RowKit Reg

/-- A value, and what holds of the world from then on. -/
def SatF (c : Value) (Q : World → Prop) (hQ : ∀ W W', Q W → Below W.heap.size W W' → Q W') : Fact := .sat (fun v W => v = c ∧ Q W) (fun _ W W' h hb => ⟨h.1, hQ W W' h.2 hb⟩)

section
variable {P : Program} {ops : Array Oper} {tab : List (List Nat)} {fin : List Tmp} {G : World → Prop} {f : Tmp → Fact} {i : Nat} {o : Oper}

/-- The guard says yes, by what is told. -/
def GuardW (ops : Array Oper) (f : Tmp → Fact) (o : Oper) : Prop := ∀ x W, Told ops f o x W → wantedBy ops o x

theorem guardw_none (h : o.guard = none) : GuardW ops f o := fun x W _ => by unfold wantedBy; rw [h]; trivial

theorem guardw_some {j : Nat} {b : Bool} {d : Tmp} (h : o.guard = some (j, b)) (hd : (ops[j]?).bind (·.dst) = some d) (hf : ∀ v W, (f d).holds v W → v = .bool b) : GuardW ops f o := fun x W hk => by
  unfold wantedBy
  rw [h]
  exact ⟨d, hd, hf _ W (hk d (by simp [Oper.looksAt, h, hd]))⟩

/-- An operation that leaves the memory alone. -/
theorem ask_still (hg : GuardW ops f o) (h : ∀ x W, G W → Told ops f o x W → ∃ c, (execOp (evalBy x) o).run P W = .ok (.value c) W ∧ ∀ k, o.dst = some k → (f k).holds c W) : Asked P ops tab fin G f i o := by
  intro x W hW hk
  obtain ⟨c, h1, h2⟩ := h x W hW hk
  exact ⟨hg x W hk, gives_value h1 ⟨hW, fun k u _ _ hu => hu, h2⟩⟩

theorem askw_val (hg : GuardW ops f o) (c : Value) (hd : ∀ k, o.dst = some k → f k = .is c) (h : ∀ x W, G W → Told ops f o x W → (execOp (evalBy x) o).run P W = .ok (.value c) W) : Asked P ops tab fin G f i o :=
  ask_still hg fun x W hW hk => ⟨c, h x W hW hk, fun k hk => by rw [hd k hk]; rfl⟩

theorem askw_read (hg : GuardW ops f o) (s : Operand) (v c : Value) (hs : opFact f s = .is v) (hmem : s ∈ o.op.operands.toList) (hd : ∀ k, o.dst = some k → f k = .is c)
    (h : ∀ x W, G W → evalBy x s = v → (execOp (evalBy x) o).run P W = .ok (.value c) W) : Asked P ops tab fin G f i o :=
  askw_val hg c hd fun x W hW hk => h x W hW (evalBy_opVal hk s hmem hs)

theorem askw_copy (hg : GuardW ops f o) (s : Operand) (ho : o.op = .move s ∨ o.op = .assign s) (hd : ∀ k, o.dst = some k → f k = opFact f s) : Asked P ops tab fin G f i o := by
  intro x W hW hk
  have hs : (opFact f s).holds (evalBy x s) W := told_op hk s (by rcases ho with ho | ho <;> rw [ho] <;> simp [Op.operands])
  refine ⟨hg x W hk, gives_value (v := evalBy x s) (w' := W) ?_ ⟨hW, fun k u _ _ hu => hu, fun k hk => by show (f k).holds _ _; rw [hd k hk]; exact hs⟩⟩
  rcases ho with ho | ho <;> simp [execOp, ho]

theorem askw_load (hg : GuardW ops f o) (ty : TypeId) (s : Operand) (p v : Value) (ho : o.op = .load ty s) (hs : opFact f s = .is p) (hd : ∀ k, o.dst = some k → f k = .is v)
    (hr : ∀ W, G W → (Instr.loadAt ty p).run P W = .ok v W) : Asked P ops tab fin G f i o := by
  refine askw_read hg s p v hs (by rw [ho]; simp [Op.operands]) hd fun x W hW e => ?_
  simp only [execOp, ho, e, Sem.run_bind, hr W hW, Result.andThen_ok, Sem.run_pure]

theorem askw_field (hg : GuardW ops f o) (ty : TypeId) (s : Operand) (n : Nat) (p v : Value) (ho : o.op = .fieldAddr ty s n) (hs : opFact f s = .is p) (hd : ∀ k, o.dst = some k → f k = .is v)
    (hr : ∀ W, (Instr.fieldAt ty p n).run P W = .ok v W) : Asked P ops tab fin G f i o := by
  refine askw_read hg s p v hs (by rw [ho]; simp [Op.operands]) hd fun x W hW e => ?_
  simp only [execOp, ho, e, Sem.run_bind, hr W, Result.andThen_ok, Sem.run_pure]

theorem askw_exec (hg : GuardW ops f o) (c : Value) (hns : (match o.op with | .select .. => false | _ => true) = true) (hk : (o.op.operands.toList.all fun s => isIs (opFact f s)) = true) (hd : ∀ k, o.dst = some k → f k = .is c)
    (hrun : ∀ W, G W → (execOp (opVal f) o).run P W = .ok (.value c) W) : Asked P ops tab fin G f i o := by
  refine askw_val hg c hd fun x W hW ht => ?_
  have e : execOp (evalBy x) o = execOp (opVal f) o := execOp_congr o (fun cs b h => by rw [h] at hns; cases hns) fun s hs => by
    have h1 := told_op ht s (by simpa using hs)
    have h2 := List.all_eq_true.1 hk s (by simpa using hs)
    unfold opVal
    cases hf : opFact f s with
    | is v => rw [hf] at h1; exact h1
    | _ => rw [hf] at h2; cases h2
  rw [e]
  exact hrun W hW

theorem askw_bin (hg : GuardW ops f o) (b : BinOp) (ty tz : TypeId) (s t : Operand) (v1 v2 c : Value) (ho : o.op = .binOp b ty s t tz) (hs : opFact f s = .is v1) (ht : opFact f t = .is v2) (hd : ∀ k, o.dst = some k → f k = .is c)
    (hrun : ∀ W, (do eqGuard b ty s t v1 v2; binOp b ty v1 v2 : Sem Value).run P W = .ok c W) : Asked P ops tab fin G f i o := by
  refine askw_val hg c hd fun x W hW hk => ?_
  have e1 := evalBy_opVal hk s (by rw [ho]; simp [Op.operands]) hs
  have e2 := evalBy_opVal hk t (by rw [ho]; simp [Op.operands]) ht
  simp only [execOp, ho, e1, e2]
  rw [Sem.run_bind, hrun W]
  rfl

/-- A call that may write: what it leaves keeps what the slots tell. -/
theorem ask_step (hg : GuardW ops f o) (n : FuncId) (ss : Array Operand) (ts : Array TypeId)
    (ho : o.op = .call { callee := .value (.func n), args := ss, argTypes := ts }) (hfn : ((P.funcs[n]?).map fun fn => (fn.name == "runtime.NumGoroutine", fn.body.isNone)) = some (false, false))
    (h : ∀ x W, G W → Told ops f o x W → Calls P n (ss.toList.map (evalBy x)).toArray W fun e W' => ∃ v, e = .returned v ∧ G W' ∧ (∀ k, o.dst = some k → (f k).holds v W') ∧ ∀ k u, (f k).holds u W → (f k).holds u W') : Asked P ops tab fin G f i o := by
  intro x W hW hk
  refine ⟨hg x W hk, ?_⟩
  have em : ss.map (evalBy x) = (ss.toList.map (evalBy x)).toArray := by
    apply Array.toList_inj.1
    simp
  refine gives_enter (f := n) (args := (ss.toList.map (evalBy x)).toArray) (w' := W) ?_ ((h x W hW hk).mono fun e W' ⟨v, h1, h2, h3, h4⟩ => ⟨v, h1, h2, fun k u _ _ hu => h4 k u hu, h3⟩)
  obtain ⟨fn, hf, hp⟩ := Option.map_eq_some_iff.1 hfn
  simp only [Prod.mk.injEq] at hp
  have e : execOp (evalBy x) o = callFunc n (#[] ++ ss.map (evalBy x) ++ #[]) := by
    obtain ⟨dst, op, type, pos, after, guard⟩ := o
    simp only at ho
    subst ho
    rfl
  rw [e, em]
  have h1 : fn.name ≠ "runtime.NumGoroutine" := by simpa using hp.1
  have h2 : fn.body ≠ none := by intro hh; have := hp.2; rw [hh] at this; cases this
  simp [callFunc, hf, h1, h2]
end

/-- Facts that speak of no memory, or of Q, where Q stays. -/
def Fact.goes (W W' : World) : Fact → Prop
  | .is _ => True
  | .sat p _ => ∀ v, p v W → p v W'
  | _ => False

theorem satf_goes {c : Value} {Q : World → Prop} {hQ} {W W' : World} (h : Q W → Q W') : (SatF c Q hQ).goes W W' := fun _ hv => ⟨hv.1, h hv.2⟩

def FactsGo (W W' : World) : List (Tmp × Fact) → Prop
  | [] => True
  | p :: r => p.2.goes W W' ∧ FactsGo W W' r

theorem FactsGo.mem {W W' : World} : ∀ {l : List (Tmp × Fact)}, FactsGo W W' l → ∀ p ∈ l, p.2.goes W W'
  | [], _, p, hp => by cases hp
  | q :: r, h, p, hp => by
    rcases List.mem_cons.1 hp with rfl | hp
    · exact h.1
    · exact h.2.mem p hp

theorem facts_go {l : List (Tmp × Fact)} {a : Act} {W W' : World} (hgo : FactsGo W W' l) (k : Tmp) (u : Value) (hu : (factsOf l a k).holds u W) : (factsOf l a k).holds u W' := by
  have h := hgo.mem
  clear hgo
  unfold factsOf at hu ⊢
  cases hl : l.lookup k with
  | none => rw [hl] at hu; exact hu
  | some fc =>
    rw [hl] at hu
    simp only [Option.getD_some] at hu ⊢
    have hm : ∃ q ∈ l, q.2 = fc := by
      clear h hu
      induction l with
      | nil => simp at hl
      | cons q r ih =>
        rw [List.lookup_cons] at hl
        split at hl
        · exact ⟨q, by simp, by simpa using hl⟩
        · obtain ⟨q', h1, h2⟩ := ih hl
          exact ⟨q', List.mem_cons_of_mem _ h1, h2⟩
    obtain ⟨q, h1, rfl⟩ := hm
    have h2 := h q h1
    cases hf : q.2 with
    | is c => rw [hf] at hu; exact hu
    | sat p hp => rw [hf] at h2 hu; exact h2 _ hu
    | bys l => rw [hf] at h2; exact h2.elim
    | row B l => rw [hf] at h2; exact h2.elim
    | lit B => rw [hf] at h2; exact h2.elim
    | any => rw [hf] at h2; exact h2.elim
end Go.Proofs.Ytejmmjlmnfnacaa
