/- As Guard, where a call need not keep what those make that wait for it. -/
import Derived.Test.YtejmmjlmnfnacaaGuard
import Derived.Test.YtejmmjlmnfnacaaLate
namespace Go.Proofs.Ytejmmjlmnfnacaa
open Go.RowKit Reg

section
variable {P : Program} {ops : Array Oper} {tab : List (List Nat)} {fin : List Tmp} {G : World → Prop} {f : Tmp → Fact} {i : Nat} {o : Oper}

theorem ask_step2 (hg : GuardW ops f o) (n : FuncId) (ss : Array Operand) (ts : Array TypeId)
    (ho : o.op = .call { callee := .value (.func n), args := ss, argTypes := ts }) (hfn : ((P.funcs[n]?).map fun fn => (fn.name == "runtime.NumGoroutine", fn.body.isNone)) = some (false, false))
    (h : ∀ x W, G W → Told ops f o x W → Calls P n (ss.toList.map (evalBy x)).toArray W fun e W' => ∃ v, e = .returned v ∧ G W' ∧ (∀ k, o.dst = some k → (f k).holds v W') ∧ ∀ k u, live2 ops tab fin i k = true → (f k).holds u W → (f k).holds u W') : Asked2 P ops tab fin G f i o := by
  intro x W hW hk
  refine ⟨hg x W hk, ?_⟩
  have em : ss.map (evalBy x) = (ss.toList.map (evalBy x)).toArray := by
    apply Array.toList_inj.1
    simp
  refine gives_enter (f := n) (args := (ss.toList.map (evalBy x)).toArray) (w' := W) ?_ ((h x W hW hk).mono fun e W' ⟨v, h1, h2, h3, h4⟩ => ⟨v, h1, h2, fun k u _ hl hu => h4 k u hl hu, h3⟩)
  obtain ⟨fn, hf, hp⟩ := Option.map_eq_some_iff.1 hfn
  simp only [Prod.mk.injEq] at hp
  have e : execOp (evalBy x) o = callFunc n (#[] ++ ss.map (evalBy x) ++ #[]) := by
    obtain ⟨dst, op, type, pos, after, guard⟩ := o
    simp only at ho
    subst ho
    rfl
  rw [e, em]
  have h1 : fn.name ≠ "runtime.NumGoroutine" := by simpa using hp.1
  have h2 : fn.body ≠ none := by intro hh; have := hp.2; rw [hh] at this; cases this
  simp [callFunc, hf, h1, h2]
end

/-- The facts that are to be kept are. -/
def FactsGo2 (ops : Array Oper) (tab : List (List Nat)) (fin : List Tmp) (i : Nat) (W W' : World) : List (Tmp × Fact) → Prop
  | [] => True
  | p :: r => (live2 ops tab fin i p.1 = true → p.2.goes W W') ∧ FactsGo2 ops tab fin i W W' r

theorem FactsGo2.mem {ops : Array Oper} {tab : List (List Nat)} {fin : List Tmp} {i : Nat} {W W' : World} : ∀ {l : List (Tmp × Fact)}, FactsGo2 ops tab fin i W W' l → ∀ p ∈ l, live2 ops tab fin i p.1 = true → p.2.goes W W'
  | [], _, p, hp => by cases hp
  | q :: r, h, p, hp => by
    rcases List.mem_cons.1 hp with rfl | hp
    · exact h.1
    · exact h.2.mem p hp

theorem facts_go2 {ops : Array Oper} {tab : List (List Nat)} {fin : List Tmp} {i : Nat} {l : List (Tmp × Fact)} {a : Act} {W W' : World} (hgo : FactsGo2 ops tab fin i W W' l) (k : Tmp) (u : Value) (hl2 : live2 ops tab fin i k = true) (hu : (factsOf l a k).holds u W) : (factsOf l a k).holds u W' := by
  have h := hgo.mem
  clear hgo
  unfold factsOf at hu ⊢
  cases hl : l.lookup k with
  | none => rw [hl] at hu; exact hu
  | some fc =>
    rw [hl] at hu
    simp only [Option.getD_some] at hu ⊢
    have hm : (k, fc) ∈ l := by
      clear h hu
      induction l with
      | nil => simp at hl
      | cons q r ih =>
        rw [List.lookup_cons] at hl
        split at hl
        · rename_i hq
          have e1 : k = q.1 := by simpa using hq
          have e2 : q.2 = fc := by simpa using hl
          subst e1 e2
          simp
        · exact List.mem_cons_of_mem _ (ih hl)
    have h2 := h _ hm hl2
    simp only at h2
    cases hf : fc with
    | is c => rw [hf] at hu; exact hu
    | sat p hp => rw [hf] at h2 hu; exact h2 _ hu
    | bys l => rw [hf] at h2; exact h2.elim
    | row B l => rw [hf] at h2; exact h2.elim
    | lit B => rw [hf] at h2; exact h2.elim
    | any => rw [hf] at h2; exact h2.elim
end Go.Proofs.Ytejmmjlmnfnacaa
