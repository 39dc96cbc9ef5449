/- Joined: Stores, Fill, Fill2. -/
import Derived.Test.YtdhfabjkpffhnaaDoorGCR
import Derived.Test.YtdhfabjkpffhnaaDoorGCL
import Derived.Test.YtdhfabjkpffhnaaDoorBlk
/- A region that draws its order, told by facts, some of whose operations write memory in any place among the others: what is told of the world looks at what has come up. -/
namespace Go.Proofs.YtdhfabjkpffhnaaDoor.Reg
set_option maxRecDepth 20000
open Go.RowKit

section
variable {P : Program} {ops : Array Oper} {tab : List (List Nat)} {fin : List Tmp} {f : Tmp → Fact} {i : Nat} {o : Oper}

variable {p q : Nat} {H : Bool → Bool → World → Prop}

end

/-- A store, as an operation of a region. -/
theorem gives_store {P : Program} {o : Oper} {x : Tmp → Value} {W W' : World} {R : Value → World → Prop} (ty : TypeId) (s t : Operand) (ho : o.op = .store ty s t) (p v : Value) (hs : evalBy x s = p) (ht : evalBy x t = v)
    (hr : (Instr.storeAt ty p v).run P W = .ok () W') (hR : R undef W') : gives P o x W R := by
  unfold gives
  simp only [execOp, ho, hs, ht, Sem.run_bind, hr, Result.andThen_ok, Sem.run_pure]
  exact hR

/-- Facts that last, of all slots. -/
theorem facts_keep {l : List (Tmp × Fact)} {a : Act} {W W' : World} (h : ∀ p ∈ l, ∀ u, p.2.holds u W → p.2.holds u W') (k : Tmp) (u : Value) (hu : (factsOf l a k).holds u W) : (factsOf l a k).holds u W' := by
  unfold factsOf at *
  cases hk : l.lookup k with
  | none =>
    rw [hk] at hu
    exact hu
  | some fk =>
    rw [hk] at hu
    have hmem : (k, fk) ∈ l := by
      clear hu h
      induction l with
      | nil => simp at hk
      | cons p l ih =>
        obtain ⟨p1, p2⟩ := p
        rw [List.lookup_cons] at hk
        by_cases hkp : (k == p1) = true
        · rw [hkp] at hk
          simp at hk hkp
          subst hk hkp
          simp
        · simp only [hkp] at hk
          exact List.mem_cons_of_mem _ (ih hk)
    exact h _ hmem u hu

end Go.Proofs.YtdhfabjkpffhnaaDoor.Reg

/- A region that draws its order, told by facts, in which one store changes what is known of a slot that was known before: the facts look at whether it has come up. -/
namespace Go.Proofs.YtdhfabjkpffhnaaDoor.Reg
set_option maxRecDepth 20000
open Go.RowKit

structure InvF (ops : Array Oper) (fin : List Tmp) (G : World → Prop) (FL : Array Bool → Tmp → Value → World → Prop) (a0 : Act) (listed : Array Bool) (a : Act) (W : World) : Prop where
  grown : G W
  defers : a.defers = a0.defers
  size : a.tmps.size = a0.tmps.size
  lsize : listed.size = ops.size
  down : ∀ (i : Nat) (o : Oper), ops[i]? = some o → listed.getD i false = true → ∀ j ∈ preds ops i, listed.getD j false = true
  facts : ∀ k, known ops listed k → wantedStill ops fin listed k → FL listed k (a.tmps.getD k undef) W

def askedF (P : Program) (ops : Array Oper) (tab : List (List Nat)) (fin : List Tmp) (G : World → Prop) (FL : Array Bool → Tmp → Value → World → Prop) (i : Nat) (o : Oper) : Prop :=
  ∀ (x : Tmp → Value) (W : World) (L : Array Bool), L.size = ops.size → L.getD i false = false → (∀ (j : Nat) (oj : Oper), ops[j]? = some oj → L.getD j false = true → ∀ m ∈ preds ops j, L.getD m false = true) → G W → (∀ k, (o.looksAt ops).contains k = true → FL L k (x k) W) →
    wantedBy ops o x ∧ gives P o x W (fun v W' => G W' ∧ (∀ k, o.dst ≠ some k → live ops tab fin i k = true → FL L k (x k) W → FL (L.setIfInBounds i true) k (x k) W') ∧ ∀ k, o.dst = some k → FL (L.setIfInBounds i true) k v W')

theorem inv_step_f {ops : Array Oper} {tab : List (List Nat)} {fin : List Tmp} {G : World → Prop} {FL : Array Bool → Tmp → Value → World → Prop} {a0 a : Act} {listed : Array Bool} {W W' : World} {i : Nat} {o : Oper} {v : Value}
    (ht : tableOk ops tab = true) (h : InvF ops fin G FL a0 listed a W) (hi : ops[i]? = some o) (hp : ∀ j ∈ preds ops i, listed.getD j false = true) (hd : ∀ d, o.dst = some d → d < a0.tmps.size) (hG : G W')
    (hm : ∀ k, o.dst ≠ some k → live ops tab fin i k = true → FL listed k (a.tmps.getD k undef) W → FL (listed.setIfInBounds i true) k (a.tmps.getD k undef) W') (hv : ∀ k, o.dst = some k → FL (listed.setIfInBounds i true) k v W') :
    InvF ops fin G FL a0 (listed.setIfInBounds i true) (a.put o.dst v) W' := by
  have hil : i < ops.size := (Array.getElem?_eq_some_iff.1 hi).1
  refine ⟨hG, ?_, ?_, by simpa using h.lsize, ?_, ?_⟩
  · cases hdst : o.dst <;> simp [Act.put, h.defers]
  · cases hdst : o.dst <;> simp [Act.put, h.size]
  · intro j oj hj hlj m hmj
    rcases mem_set hlj with rfl | hlj
    · exact set_mem (hp m hmj)
    · exact set_mem (h.down j oj hj hlj m hmj)
  · intro k hk hw
    by_cases hkd : o.dst = some k
    · have := hv k hkd
      have hlt : k < a.tmps.size := by rw [h.size]; exact hd k hkd
      rw [hkd]
      simp only [Act.put, Array.getD_eq_getD_getElem?, Array.getElem?_setIfInBounds_self_of_lt hlt, Option.getD_some]
      exact this
    · have e : (a.put o.dst v).tmps.getD k undef = a.tmps.getD k undef := by
        cases hdst : o.dst with
        | none => rfl
        | some d =>
          have : d ≠ k := fun e => hkd (by rw [hdst, e])
          simp only [Act.put, Array.getD_eq_getD_getElem?, Array.getElem?_setIfInBounds_ne this]
      rw [e]
      have hlive : live ops tab fin i k = true := by
        unfold live
        rw [Bool.or_eq_true]
        rcases hw with hw | ⟨j, oj, hj, hl, hun⟩
        · exact .inl hw
        · right
          refine List.any_eq_true.2 ⟨j, List.mem_range.2 (Array.getElem?_eq_some_iff.1 hj).1, ?_⟩
          have hji : j ≠ i := by
            rintro rfl
            rw [set_self (by rw [h.lsize]; exact hil)] at hun
            cases hun
          have hjt : (tab.getD i []).contains j = false := by
            cases hq : (tab.getD i []).contains j with
            | false => rfl
            | true =>
              have h1 := table_listed ht h.down i hil hp j (by simpa using hq)
              rw [set_mem h1] at hun
              cases hun
          have hji' : (j == i) = false := by simpa using hji
          simp only [hj, hl, hjt, hji', Bool.not_false, Bool.and_self]
      refine hm _ hkd hlive (h.facts k (fun j oj hj hdj => ?_) ?_)
      · rcases mem_set (hk j oj hj hdj) with rfl | h2
        · rw [hi] at hj
          cases hj
          exact absurd hdj hkd
        · exact h2
      · rcases hw with hw | ⟨j, oj, hj, hl, hun⟩
        · exact .inl hw
        · refine .inr ⟨j, oj, hj, hl, ?_⟩
          cases hq : listed.getD j false with
          | false => rfl
          | true => rw [set_mem hq] at hun; cases hun

theorem any_of_inv_f {P : Program} {ops : Array Oper} {tab : List (List Nat)} {fin : List Tmp} {G : World → Prop} {FL : Array Bool → Tmp → Value → World → Prop} {a0 : Act} {Q : Exit → Act → World → Prop} (hs : sound ops = true) (ht : tableOk ops tab = true)
    (hd : ∀ (i : Nat) (o : Oper), ops[i]? = some o → ∀ d, o.dst = some d → d < a0.tmps.size)
    (hops : ∀ (i : Nat) (o : Oper), ops[i]? = some o → askedF P ops tab fin G FL i o)
    (hend : ∀ (listed : Array Bool) a W, (∀ i, i < ops.size → listed.getD i false = true) → G W → a.defers = a0.defers → a.tmps.size = a0.tmps.size → (∀ k, fin.contains k = true → FL listed k (a.tmps.getD k undef) W) → Q .normal a W) :
    ∀ (fuel : Nat) (listed : Array Bool) (a : Act) (W : World), left listed ≤ fuel → InvF ops fin G FL a0 listed a W → wpAny P .any ops Q fuel listed a W := by
  have done : ∀ (listed : Array Bool) (a : Act) (W : World), InvF ops fin G FL a0 listed a W → Region.ready .any ops listed = [] → Q .normal a W := fun listed a W h hr =>
    hend listed a W (all_listed hs h.lsize hr) h.grown h.defers h.size fun k hk => h.facts k (fun i o hi _ => all_listed hs h.lsize hr i (Array.getElem?_eq_some_iff.1 hi).1) (.inl hk)
  intro fuel
  induction fuel with
  | zero =>
    intro listed a W hf h
    have hr : Region.ready .any ops listed = [] := by
      cases hq : Region.ready .any ops listed with
      | nil => rfl
      | cons j js =>
        have hj : j ∈ Region.ready .any ops listed := by rw [hq]; simp
        have := left_set (mem_ready.1 hj).1
        omega
    exact ⟨hr, done listed a W h hr⟩
  | succ fuel ih =>
    intro listed a W hf h
    refine ⟨fun hr => done listed a W h hr, fun i hi => ?_⟩
    obtain ⟨hun, o, ho, hall⟩ := mem_ready.1 hi
    have hil : i < ops.size := (Array.getElem?_eq_some_iff.1 ho).1
    have hun' : listed.getD i false = false := by
      rw [Array.getD_eq_getD_getElem?, Array.getElem?_eq_getElem (by rw [h.lsize]; exact hil)] at hun ⊢
      exact hun
    have hsd := sound_edge hs ho
    have hp : ∀ j ∈ preds ops i, listed.getD j false = true := fun j hj => by
      obtain ⟨e, he, hb, rfl⟩ := (mem_preds ho).1 hj
      exact hall e he hb
    have hF : ∀ k, (o.looksAt ops).contains k = true → FL listed k (a.tmps.getD k undef) W := fun k hk => h.facts k (fun j oj hj hdj => by
      obtain ⟨e, he, hb, rfl⟩ := hsd.2 k (by simpa using hk) j oj hj hdj
      exact hall e he hb) (.inr ⟨i, o, ho, hk, hun'⟩)
    obtain ⟨hw, hg⟩ := hops i o ho (fun t => a.tmps.getD t undef) W listed h.lsize hun' h.down h.grown hF
    unfold wpOp
    simp only [ho, wanted_of hw, if_true]
    refine .inl (wp_of_gives hg fun v w' ⟨h1, h2, h3⟩ => ih _ _ _ ?_ (inv_step_f ht h ho hp (hd i o ho) h1 h2 h3))
    have := left_set hun
    omega


theorem wp_region_f {P : Program} {ops : Array Oper} {id : Nat} {a : Act} {w : World} {Q : Exit → Act → World → Prop} (tab : List (List Nat)) (fin : List Tmp) (G : World → Prop) (FL : Array Bool → Tmp → Value → World → Prop)
    (hm : P.follows .mixedOrders = true) (hs : sound ops = true) (ht : tableOk ops tab = true) (hd : (ops.all fun o => (o.dst.map fun d => decide (d < a.tmps.size)).getD true) = true)
    (hG : G w.drew) (h0 : ∀ k, FL (Array.replicate ops.size false) k (a.tmps.getD k undef) w.drew ∨ (ops.any fun o => o.dst == some k) = true)
    (hops : ∀ (i : Nat) (o : Oper), ops[i]? = some o → askedF P ops tab fin G FL i o)
    (hend : ∀ (listed : Array Bool) a' W, (∀ i, i < ops.size → listed.getD i false = true) → G W → a'.defers = a.defers → a'.tmps.size = a.tmps.size → (∀ k, fin.contains k = true → FL listed k (a'.tmps.getD k undef) W) → Q .normal a' W) : (Code.region id ops true).wp P Q a w := by
  refine wp_region_any hm (any_of_inv_f (tab := tab) (fin := fin) (G := G) (FL := FL) (a0 := a) hs ht ?_ hops hend _ _ _ _ ?_ ?_)
  · intro i o hi d hdst
    have := Array.all_eq_true_iff_forall_mem.1 hd o (Array.mem_of_getElem? hi)
    simpa [hdst] using this
  · unfold left
    refine Nat.le_trans (List.length_filter_le _ _) (by simp)
  · refine ⟨hG, rfl, rfl, by simp, fun i o hi hl => ?_, fun k hk _ => ?_⟩
    · rw [Array.getD_eq_getD_getElem?] at hl
      simp [Array.getElem?_replicate] at hl
      split at hl <;> simp at hl
    · rcases h0 k with h | h
      · exact h
      · obtain ⟨o, ho, hdst⟩ := Array.any_eq_true'.1 h
        obtain ⟨i, hi⟩ := Array.mem_iff_getElem?.1 ho
        have := hk i o hi (by simpa using hdst)
        rw [Array.getD_eq_getD_getElem?] at this
        simp [Array.getElem?_replicate] at this
        split at this <;> simp at this
section
variable {P : Program} {ops : Array Oper} {tab : List (List Nat)} {fin : List Tmp} {G : World → Prop} {f : Bool → Tmp → Fact} {i p : Nat} {o : Oper}

/-- The operations but the store. -/
def AskedAllB (P : Program) (ops : Array Oper) (tab : List (List Nat)) (fin : List Tmp) (G : World → Prop) (f : Bool → Tmp → Fact) (p : Nat) : Nat → List Oper → Prop
  | _, [] => True
  | i, o :: r => (i = p ∨ (∀ b, Asked P ops tab fin G (f b) i o) ∨ ((preds ops p).contains i = true ∧ Asked P ops tab fin G (f false) i o)) ∧ AskedAllB P ops tab fin G f p (i + 1) r

theorem asked_of_all_b : ∀ (l : List Oper) (n : Nat), AskedAllB P ops tab fin G f p n l → ∀ (i : Nat) (o : Oper), l[i]? = some o → n + i ≠ p → (∀ b, Asked P ops tab fin G (f b) (n + i) o) ∨ ((preds ops p).contains (n + i) = true ∧ Asked P ops tab fin G (f false) (n + i) o)
  | [], _, _, i, o, h, _ => by simp at h
  | _ :: r, n, h, 0, o, hi, hne => by
    simp at hi
    subst hi
    rcases h.1 with h1 | h1
    · exact absurd h1 hne
    · exact h1
  | _ :: r, n, h, i + 1, o, hi, hne => by
    have := asked_of_all_b r (n + 1) h.2 i o (by simpa using hi) (by omega)
    rwa [show n + 1 + i = n + (i + 1) by omega] at this
end

theorem region_fill_by {P : Program} {ops : Array Oper} {id : Nat} {a : Act} {w : World} {Q : Exit → Act → World → Prop} (p : Nat) (os : Oper) (l : Bool → List (Tmp × Fact)) (fin : List Tmp) (G : World → Prop)
    (hm : P.follows .mixedOrders = true) (hs : sound ops = true) (ht : tableOk ops (table ops) = true) (hd : (ops.all fun o => (o.dst.map fun d => decide (d < a.tmps.size)).getD true) = true)
    (hl : ((l false).all fun q => ops.any fun o => o.dst == some q.1) = true) (hG : G w.drew) (hp : ops[p]? = some os) (hdst : os.dst = none)
    (hops : AskedAllB P ops (table ops) fin G (fun b => factsOf (l b) a) p 0 ops.toList)
    (hstore : ∀ (x : Tmp → Value) (W : World), G W → (∀ k, (os.looksAt ops).contains k = true → (factsOf (l false) a k).holds (x k) W) →
      wantedBy ops os x ∧ gives P os x W (fun _ W' => G W' ∧ ∀ k, live ops (table ops) fin p k = true → (factsOf (l false) a k).holds (x k) W → (factsOf (l true) a k).holds (x k) W'))
    (hend : ∀ a' W, G W → a'.defers = a.defers → a'.tmps.size = a.tmps.size → (∀ k, fin.contains k = true → (factsOf (l true) a k).holds (a'.tmps.getD k undef) W) → Q .normal a' W) : (Code.region id ops true).wp P Q a w := by
  have hplt : p < ops.size := (Array.getElem?_eq_some_iff.1 hp).1
  refine wp_region_f (table ops) fin G (fun L k v W => (factsOf (l (L.getD p false)) a k).holds v W) hm hs ht hd hG (fun k => ?_) (fun i o hi => ?_) (fun L a' W hall hW hd' hs' hf => hend a' W hW hd' hs' fun k hk => ?_)
  · have e : (Array.replicate ops.size false).getD p false = false := by
      rw [Array.getD_eq_getD_getElem?]
      simp [hplt]
    rw [e]
    cases hk : (l false).lookup k with
    | none => left; simp [factsOf, hk, Fact.holds]
    | some fk =>
      right
      have hmem : (k, fk) ∈ l false := by
        generalize l false = l0 at hk
        induction l0 with
        | nil => simp at hk
        | cons q l ih =>
          obtain ⟨q1, q2⟩ := q
          rw [List.lookup_cons] at hk
          by_cases hkq : (k == q1) = true
          · rw [hkq] at hk
            simp at hk hkq
            subst hk hkq
            simp
          · simp only [hkq] at hk
            exact List.mem_cons_of_mem _ (ih hk)
      exact List.all_eq_true.1 hl _ hmem
  · intro x W L hsz hun hdown hW hk
    by_cases hip : i = p
    · subst hip
      rw [hp] at hi
      cases hi
      simp only [hun] at hk
      obtain ⟨h1, h2⟩ := hstore x W hW hk
      have e : (L.setIfInBounds i true).getD i false = true := set_self (by omega)
      refine ⟨h1, ?_⟩
      simp only [e, hun]
      unfold gives at *
      generalize (execOp (evalBy x) os).run P W = r at *
      cases r with
      | ok n w' =>
        cases n <;> simp only [givesUpon] at h2 ⊢
        case value v => exact ⟨h2.1, fun k _ hl hu => h2.2 k hl hu, fun k hk => by rw [hdst] at hk; cases hk⟩
        case skip => exact ⟨h2.1, fun k _ hl hu => h2.2 k hl hu, fun k hk => by rw [hdst] at hk; cases hk⟩
        case enter g args => exact h2.mono fun e w'' ⟨v, he, h3, h4⟩ => ⟨v, he, h3, fun k _ hl hu => h4 k hl hu, fun k hk => by rw [hdst] at hk; cases hk⟩
      | halt x w' => simp only [givesUpon] at h2
    · have e : (L.setIfInBounds i true).getD p false = L.getD p false := by
        rw [Array.getD_eq_getD_getElem?, Array.getElem?_setIfInBounds_ne hip, ← Array.getD_eq_getD_getElem?]
      simp only [e]
      have h0 := asked_of_all_b ops.toList 0 hops i o (by simpa using hi) (by omega)
      rw [Nat.zero_add] at h0
      have : Asked P ops (table ops) fin G (factsOf (l (L.getD p false)) a) i o := by
        rcases h0 with h0 | ⟨h1, h2⟩
        · exact h0 _
        · cases hq : L.getD p false with
          | false => exact h2
          | true =>
            have h3 := hdown p os hp hq i (by simpa using h1)
            rw [hun] at h3
            cases h3
      obtain ⟨q1, q2⟩ := this x W hW hk
      refine ⟨q1, ?_⟩
      unfold gives at *
      generalize (execOp (evalBy x) o).run P W = r at *
      cases r with
      | ok n w' =>
        cases n <;> simp only [givesUpon] at q2 ⊢
        case value v => exact ⟨q2.1, fun k hd hl hu => q2.2.1 k _ hd hl hu, q2.2.2⟩
        case skip => exact ⟨q2.1, fun k hd hl hu => q2.2.1 k _ hd hl hu, q2.2.2⟩
        case enter g args => exact q2.mono fun e w'' ⟨v, he, h3, h4, h5⟩ => ⟨v, he, h3, fun k hd hl hu => h4 k _ hd hl hu, h5⟩
      | halt x w' => simp only [givesUpon] at q2
  · have := hf k hk
    rwa [hall p hplt] at this
end Go.Proofs.YtdhfabjkpffhnaaDoor.Reg

/- A region that draws its order, told by facts and by a relation between all its slots: two variables of one type that are made and filled in it ('a, b := f(x[i])' of arrays), or two stores into variables that were there. -/
namespace Go.Proofs.YtdhfabjkpffhnaaDoor.Reg
set_option maxRecDepth 20000
open Go.RowKit

/-- The slots behind an operation. -/
def upd (o : Oper) (v : Value) (x : Tmp → Value) : Tmp → Value := fun t => if o.dst = some t then v else x t

theorem put_upd {a : Act} {o : Oper} {v : Value} (hd : ∀ d, o.dst = some d → d < a.tmps.size) : (fun t => (a.put o.dst v).tmps.getD t undef) = upd o v (fun t => a.tmps.getD t undef) := by
  funext t
  unfold upd
  cases hdst : o.dst with
  | none => simp [Act.put]
  | some d =>
    by_cases hdt : d = t
    · subst hdt
      simp only [Act.put, Array.getD_eq_getD_getElem?, Array.getElem?_setIfInBounds_self_of_lt (hd d hdst), Option.getD_some, if_true]
    · rw [if_neg (by simpa using hdt)]
      simp only [Act.put, Array.getD_eq_getD_getElem?, Array.getElem?_setIfInBounds_ne hdt]

def askedR (P : Program) (ops : Array Oper) (tab : List (List Nat)) (fin : List Tmp) (G : World → Prop) (R : Array Bool → (Tmp → Value) → World → Prop) (FL : Array Bool → Tmp → Value → World → Prop) (i : Nat) (o : Oper) : Prop :=
  ∀ (x : Tmp → Value) (W : World) (L : Array Bool), L.size = ops.size → L.getD i false = false → (∀ (j : Nat) (oj : Oper), ops[j]? = some oj → L.getD j false = true → ∀ m ∈ preds ops j, L.getD m false = true) → (∀ j ∈ preds ops i, L.getD j false = true) → G W → R L x W → (∀ k, (o.looksAt ops).contains k = true → FL L k (x k) W) →
    wantedBy ops o x ∧ gives P o x W (fun v W' => G W' ∧ R (L.setIfInBounds i true) (upd o v x) W' ∧ (∀ k, o.dst ≠ some k → known ops L k → live ops tab fin i k = true → FL L k (x k) W → FL (L.setIfInBounds i true) k (x k) W') ∧ ∀ k, o.dst = some k → FL (L.setIfInBounds i true) k v W')

theorem inv_step_r {ops : Array Oper} {tab : List (List Nat)} {fin : List Tmp} {G : World → Prop} {FL : Array Bool → Tmp → Value → World → Prop} {a0 a : Act} {listed : Array Bool} {W W' : World} {i : Nat} {o : Oper} {v : Value}
    (ht : tableOk ops tab = true) (h : InvF ops fin G FL a0 listed a W) (hi : ops[i]? = some o) (hp : ∀ j ∈ preds ops i, listed.getD j false = true) (hd : ∀ d, o.dst = some d → d < a0.tmps.size) (hG : G W')
    (hm : ∀ k, o.dst ≠ some k → known ops listed k → live ops tab fin i k = true → FL listed k (a.tmps.getD k undef) W → FL (listed.setIfInBounds i true) k (a.tmps.getD k undef) W') (hv : ∀ k, o.dst = some k → FL (listed.setIfInBounds i true) k v W') :
    InvF ops fin G FL a0 (listed.setIfInBounds i true) (a.put o.dst v) W' := by
  have hil : i < ops.size := (Array.getElem?_eq_some_iff.1 hi).1
  refine ⟨hG, ?_, ?_, by simpa using h.lsize, ?_, ?_⟩
  · cases hdst : o.dst <;> simp [Act.put, h.defers]
  · cases hdst : o.dst <;> simp [Act.put, h.size]
  · intro j oj hj hlj m hmj
    rcases mem_set hlj with rfl | hlj
    · exact set_mem (hp m hmj)
    · exact set_mem (h.down j oj hj hlj m hmj)
  · intro k hk hw
    by_cases hkd : o.dst = some k
    · have := hv k hkd
      have hlt : k < a.tmps.size := by rw [h.size]; exact hd k hkd
      rw [hkd]
      simp only [Act.put, Array.getD_eq_getD_getElem?, Array.getElem?_setIfInBounds_self_of_lt hlt, Option.getD_some]
      exact this
    · have e : (a.put o.dst v).tmps.getD k undef = a.tmps.getD k undef := by
        cases hdst : o.dst with
        | none => rfl
        | some d =>
          have : d ≠ k := fun e => hkd (by rw [hdst, e])
          simp only [Act.put, Array.getD_eq_getD_getElem?, Array.getElem?_setIfInBounds_ne this]
      rw [e]
      have hlive : live ops tab fin i k = true := by
        unfold live
        rw [Bool.or_eq_true]
        rcases hw with hw | ⟨j, oj, hj, hl, hun⟩
        · exact .inl hw
        · right
          refine List.any_eq_true.2 ⟨j, List.mem_range.2 (Array.getElem?_eq_some_iff.1 hj).1, ?_⟩
          have hji : j ≠ i := by
            rintro rfl
            rw [set_self (by rw [h.lsize]; exact hil)] at hun
            cases hun
          have hjt : (tab.getD i []).contains j = false := by
            cases hq : (tab.getD i []).contains j with
            | false => rfl
            | true =>
              have h1 := table_listed ht h.down i hil hp j (by simpa using hq)
              rw [set_mem h1] at hun
              cases hun
          have hji' : (j == i) = false := by simpa using hji
          simp only [hj, hl, hjt, hji', Bool.not_false, Bool.and_self]
      have hkn : known ops listed k := fun j oj hj hdj => by
        rcases mem_set (hk j oj hj hdj) with rfl | h2
        · rw [hi] at hj
          cases hj
          exact absurd hdj hkd
        · exact h2
      refine hm _ hkd hkn hlive (h.facts k hkn ?_)
      · rcases hw with hw | ⟨j, oj, hj, hl, hun⟩
        · exact .inl hw
        · refine .inr ⟨j, oj, hj, hl, ?_⟩
          cases hq : listed.getD j false with
          | false => rfl
          | true => rw [set_mem hq] at hun; cases hun

theorem any_of_inv_r {P : Program} {ops : Array Oper} {tab : List (List Nat)} {fin : List Tmp} {G : World → Prop} {R : Array Bool → (Tmp → Value) → World → Prop} {FL : Array Bool → Tmp → Value → World → Prop} {a0 : Act} {Q : Exit → Act → World → Prop} (hs : sound ops = true) (ht : tableOk ops tab = true)
    (hd : ∀ (i : Nat) (o : Oper), ops[i]? = some o → ∀ d, o.dst = some d → d < a0.tmps.size)
    (hops : ∀ (i : Nat) (o : Oper), ops[i]? = some o → askedR P ops tab fin G R FL i o)
    (hend : ∀ (listed : Array Bool) a W, (∀ i, i < ops.size → listed.getD i false = true) → G W → a.defers = a0.defers → a.tmps.size = a0.tmps.size → R listed (fun t => a.tmps.getD t undef) W → (∀ k, fin.contains k = true → FL listed k (a.tmps.getD k undef) W) → Q .normal a W) :
    ∀ (fuel : Nat) (listed : Array Bool) (a : Act) (W : World), left listed ≤ fuel → InvF ops fin G FL a0 listed a W → R listed (fun t => a.tmps.getD t undef) W → wpAny P .any ops Q fuel listed a W := by
  have done : ∀ (listed : Array Bool) (a : Act) (W : World), InvF ops fin G FL a0 listed a W → R listed (fun t => a.tmps.getD t undef) W → Region.ready .any ops listed = [] → Q .normal a W := fun listed a W h hR hr =>
    hend listed a W (all_listed hs h.lsize hr) h.grown h.defers h.size hR fun k hk => h.facts k (fun i o hi _ => all_listed hs h.lsize hr i (Array.getElem?_eq_some_iff.1 hi).1) (.inl hk)
  intro fuel
  induction fuel with
  | zero =>
    intro listed a W hf h hR
    have hr : Region.ready .any ops listed = [] := by
      cases hq : Region.ready .any ops listed with
      | nil => rfl
      | cons j js =>
        have hj : j ∈ Region.ready .any ops listed := by rw [hq]; simp
        have := left_set (mem_ready.1 hj).1
        omega
    exact ⟨hr, done listed a W h hR hr⟩
  | succ fuel ih =>
    intro listed a W hf h hR
    refine ⟨fun hr => done listed a W h hR hr, fun i hi => ?_⟩
    obtain ⟨hun, o, ho, hall⟩ := mem_ready.1 hi
    have hil : i < ops.size := (Array.getElem?_eq_some_iff.1 ho).1
    have hun' : listed.getD i false = false := by
      rw [Array.getD_eq_getD_getElem?, Array.getElem?_eq_getElem (by rw [h.lsize]; exact hil)] at hun ⊢
      exact hun
    have hsd := sound_edge hs ho
    have hp : ∀ j ∈ preds ops i, listed.getD j false = true := fun j hj => by
      obtain ⟨e, he, hb, rfl⟩ := (mem_preds ho).1 hj
      exact hall e he hb
    have hF : ∀ k, (o.looksAt ops).contains k = true → FL listed k (a.tmps.getD k undef) W := fun k hk => h.facts k (fun j oj hj hdj => by
      obtain ⟨e, he, hb, rfl⟩ := hsd.2 k (by simpa using hk) j oj hj hdj
      exact hall e he hb) (.inr ⟨i, o, ho, hk, hun'⟩)
    obtain ⟨hw, hg⟩ := hops i o ho (fun t => a.tmps.getD t undef) W listed h.lsize hun' h.down hp h.grown hR hF
    unfold wpOp
    simp only [ho, wanted_of hw, if_true]
    refine .inl (wp_of_gives hg fun v w' ⟨h1, hR', h2, h3⟩ => ih _ _ _ ?_ (inv_step_r ht h ho hp (hd i o ho) h1 h2 h3) ?_)
    · have := left_set hun
      omega
    · rw [put_upd fun d hdd => by rw [h.size]; exact hd i o ho d hdd]
      exact hR'


theorem wp_region_r {P : Program} {ops : Array Oper} {id : Nat} {a : Act} {w : World} {Q : Exit → Act → World → Prop} (tab : List (List Nat)) (fin : List Tmp) (G : World → Prop) (R : Array Bool → (Tmp → Value) → World → Prop) (FL : Array Bool → Tmp → Value → World → Prop)
    (hm : P.follows .mixedOrders = true) (hs : sound ops = true) (ht : tableOk ops tab = true) (hd : (ops.all fun o => (o.dst.map fun d => decide (d < a.tmps.size)).getD true) = true)
    (hG : G w.drew) (hR : R (Array.replicate ops.size false) (fun t => a.tmps.getD t undef) w.drew) (h0 : ∀ k, FL (Array.replicate ops.size false) k (a.tmps.getD k undef) w.drew ∨ (ops.any fun o => o.dst == some k) = true)
    (hops : ∀ (i : Nat) (o : Oper), ops[i]? = some o → askedR P ops tab fin G R FL i o)
    (hend : ∀ (listed : Array Bool) a' W, (∀ i, i < ops.size → listed.getD i false = true) → G W → a'.defers = a.defers → a'.tmps.size = a.tmps.size → R listed (fun t => a'.tmps.getD t undef) W → (∀ k, fin.contains k = true → FL listed k (a'.tmps.getD k undef) W) → Q .normal a' W) : (Code.region id ops true).wp P Q a w := by
  refine wp_region_any hm (any_of_inv_r (tab := tab) (fin := fin) (G := G) (R := R) (FL := FL) (a0 := a) hs ht ?_ hops hend _ _ _ _ ?_ ?_ hR)
  · intro i o hi d hdst
    have := Array.all_eq_true_iff_forall_mem.1 hd o (Array.mem_of_getElem? hi)
    simpa [hdst] using this
  · unfold left
    refine Nat.le_trans (List.length_filter_le _ _) (by simp)
  · refine ⟨hG, rfl, rfl, by simp, fun i o hi hl => ?_, fun k hk _ => ?_⟩
    · rw [Array.getD_eq_getD_getElem?] at hl
      simp [Array.getElem?_replicate] at hl
      split at hl <;> simp at hl
    · rcases h0 k with h | h
      · exact h
      · obtain ⟨o, ho, hdst⟩ := Array.any_eq_true'.1 h
        obtain ⟨i, hi⟩ := Array.mem_iff_getElem?.1 ho
        have := hk i o hi (by simpa using hdst)
        rw [Array.getD_eq_getD_getElem?] at this
        simp [Array.getElem?_replicate] at this
        split at this <;> simp at this
section
variable {P : Program} {ops : Array Oper} {tab : List (List Nat)} {fin : List Tmp} {G : World → Prop} {R : Array Bool → (Tmp → Value) → World → Prop} {f : Bool → Bool → Tmp → Fact} {i p q : Nat} {o : Oper}

/-- What is asked of an operation that keeps the relation. -/
def Plain (P : Program) (ops : Array Oper) (tab : List (List Nat)) (fin : List Tmp) (G : World → Prop) (R : Array Bool → (Tmp → Value) → World → Prop) (f : Bool → Bool → Tmp → Fact) (p q i : Nat) (o : Oper) : Prop :=
  i ≠ p ∧ i ≠ q ∧ (∀ L x v W W', R L x W → Below W.heap.size W W' → R (L.setIfInBounds i true) (upd o v x) W') ∧ ∀ (Wx : World) (b c : Bool), Asked P ops tab fin (fun W => G W ∧ Below Wx.heap.size Wx W) (f b c) i o

def AskedAllR (P : Program) (ops : Array Oper) (tab : List (List Nat)) (fin : List Tmp) (G : World → Prop) (R : Array Bool → (Tmp → Value) → World → Prop) (f : Bool → Bool → Tmp → Fact) (p q : Nat) : Nat → List Oper → Prop
  | _, [] => True
  | i, o :: r => (Plain P ops tab fin G R f p q i o ∨ askedR P ops tab fin G R (fun L k v W => (f (L.getD p false) (L.getD q false) k).holds v W) i o) ∧ AskedAllR P ops tab fin G R f p q (i + 1) r

theorem asked_of_all_r : ∀ (l : List Oper) (n : Nat), AskedAllR P ops tab fin G R f p q n l → ∀ (i : Nat) (o : Oper), l[i]? = some o →
    Plain P ops tab fin G R f p q (n + i) o ∨ askedR P ops tab fin G R (fun L k v W => (f (L.getD p false) (L.getD q false) k).holds v W) (n + i) o
  | [], _, _, i, o, h => by simp at h
  | _ :: r, n, h, 0, o, hi => by
    simp at hi
    subst hi
    exact h.1
  | _ :: r, n, h, i + 1, o, hi => by
    have := asked_of_all_r r (n + 1) h.2 i o (by simpa using hi)
    rwa [show n + 1 + i = n + (i + 1) by omega] at this

theorem set_other2 {L : Array Bool} {i p : Nat} (h : i ≠ p) : (L.setIfInBounds i true).getD p false = L.getD p false := by
  rw [Array.getD_eq_getD_getElem?, Array.getElem?_setIfInBounds_ne h, ← Array.getD_eq_getD_getElem?]

theorem plain_asked (h : Plain P ops tab fin G R f p q i o) : askedR P ops tab fin G R (fun L k v W => (f (L.getD p false) (L.getD q false) k).holds v W) i o := by
  obtain ⟨hp, hq, hR, ha⟩ := h
  intro x W L _ _ _ _ hG hr hk
  obtain ⟨h1, h2⟩ := ha W (L.getD p false) (L.getD q false) x W ⟨hG, Below.refl _ _⟩ hk
  refine ⟨h1, gives_imp h2 fun v W' ⟨⟨h3, h4⟩, h5, h6⟩ => ?_⟩
  simp only [set_other2 hp, set_other2 hq]
  exact ⟨h3, hR L x v W W' hr h4, fun k h7 _ h8 h9 => h5 k _ h7 h8 h9, h6⟩
end

theorem region_rel_by {P : Program} {ops : Array Oper} {id : Nat} {a : Act} {w : World} {Q : Exit → Act → World → Prop} (p q : Nat) (l : Bool → Bool → List (Tmp × Fact)) (fin : List Tmp) (G : World → Prop) (R : Array Bool → (Tmp → Value) → World → Prop)
    (hm : P.follows .mixedOrders = true) (hs : sound ops = true) (ht : tableOk ops (table ops) = true) (hd : (ops.all fun o => (o.dst.map fun d => decide (d < a.tmps.size)).getD true) = true)
    (hl : ((l false false).all fun q => ops.any fun o => o.dst == some q.1) = true) (hp : p < ops.size) (hq : q < ops.size) (hG : G w.drew) (hR : R (Array.replicate ops.size false) (fun t => a.tmps.getD t undef) w.drew)
    (hops : AskedAllR P ops (table ops) fin G R (fun b c => factsOf (l b c) a) p q 0 ops.toList)
    (hend : ∀ (L : Array Bool) a' W, (∀ i, i < ops.size → L.getD i false = true) → G W → R L (fun t => a'.tmps.getD t undef) W → a'.defers = a.defers → a'.tmps.size = a.tmps.size → (∀ k, fin.contains k = true → (factsOf (l true true) a k).holds (a'.tmps.getD k undef) W) → Q .normal a' W) : (Code.region id ops true).wp P Q a w := by
  refine wp_region_r (table ops) fin G R (fun L k v W => (factsOf (l (L.getD p false) (L.getD q false)) a k).holds v W) hm hs ht hd hG hR (fun k => ?_) (fun i o hi => ?_) (fun L a' W hall hW hd' hs' hr hf => hend L a' W hall hW hr hd' hs' fun k hk => ?_)
  · have e : ∀ p, p < ops.size → (Array.replicate ops.size false).getD p false = false := fun p hp => by
      rw [Array.getD_eq_getD_getElem?]
      simp [hp]
    rw [e p hp, e q hq]
    cases hk : (l false false).lookup k with
    | none => left; simp [factsOf, hk, Fact.holds]
    | some fk =>
      right
      have hmem : (k, fk) ∈ l false false := by
        generalize l false false = l0 at hk
        induction l0 with
        | nil => simp at hk
        | cons q l ih =>
          obtain ⟨q1, q2⟩ := q
          rw [List.lookup_cons] at hk
          by_cases hkq : (k == q1) = true
          · rw [hkq] at hk
            simp at hk hkq
            subst hk hkq
            simp
          · simp only [hkq] at hk
            exact List.mem_cons_of_mem _ (ih hk)
      exact List.all_eq_true.1 hl _ hmem
  · have h0 := asked_of_all_r ops.toList 0 hops i o (by simpa using hi)
    rw [Nat.zero_add] at h0
    rcases h0 with h0 | h0
    · exact plain_asked h0
    · exact h0
  · have := hf k hk
    rwa [hall p hp, hall q hq] at this

section
variable {P : Program} {ops : Array Oper} {tab : List (List Nat)} {fin : List Tmp} {G : World → Prop} {l : Bool → Bool → List (Tmp × Fact)} {a : Act} {m n p q sp sq : Nat} {o : Oper}

/-- The two variables that are made are two. -/
def Two2 (m n sp sq : Nat) (L : Array Bool) (x : Tmp → Value) (W : World) : Prop :=
  (L.getD m false = true → ∃ z, x sp = .pointer (some ⟨z, 0, none⟩) ∧ z < W.heap.size) ∧ (L.getD n false = true → ∃ z, x sq = .pointer (some ⟨z, 0, none⟩) ∧ z < W.heap.size) ∧ (L.getD m false = true → L.getD n false = true → x sp ≠ x sq)

theorem two2_none (k : Nat) (x : Tmp → Value) (W : World) : Two2 m n sp sq (Array.replicate k false) x W := by
  have e : ∀ p, (Array.replicate k false).getD p false = false := fun p => by
    rw [Array.getD_eq_getD_getElem?, Array.getElem?_replicate]
    split <;> rfl
  unfold Two2
  rw [e, e]
  exact ⟨fun h => by simp at h, fun h => by simp at h, fun h => by simp at h⟩

theorem two2_keep {i : Nat} (hm : i ≠ m) (hn : i ≠ n) (hp : o.dst ≠ some sp) (hq : o.dst ≠ some sq) (L : Array Bool) (x : Tmp → Value) (v : Value) (W W' : World) (h : Two2 m n sp sq L x W) (hb : Below W.heap.size W W') :
    Two2 m n sp sq (L.setIfInBounds i true) (upd o v x) W' := by
  unfold Two2 at *
  rw [set_other2 hm, set_other2 hn]
  have e1 : upd o v x sp = x sp := if_neg hp
  have e2 : upd o v x sq = x sq := if_neg hq
  rw [e1, e2]
  have := hb.size
  obtain ⟨h1, h2, h3⟩ := h
  exact ⟨fun h => by obtain ⟨z, q1, q2⟩ := h1 h; exact ⟨z, q1, by omega⟩, fun h => by obtain ⟨z, q1, q2⟩ := h2 h; exact ⟨z, q1, by omega⟩, h3⟩

/-- An operation as told, that keeps the two. -/
theorem plain2 {i : Nat} (h : (i != p && i != q && i != m && i != n && o.dst != some sp && o.dst != some sq) = true) (ha : ∀ (Wx : World) (b c : Bool), Asked P ops tab fin (fun W => G W ∧ Below Wx.heap.size Wx W) (factsOf (l b c) a) i o) :
    Plain P ops tab fin G (Two2 m n sp sq) (fun b c => factsOf (l b c) a) p q i o ∨ askedR P ops tab fin G (Two2 m n sp sq) (fun L k v W => (factsOf (l (L.getD p false) (L.getD q false)) a k).holds v W) i o := by
  simp only [Bool.and_eq_true, bne_iff_ne, ne_eq] at h
  obtain ⟨⟨⟨⟨⟨h1, h2⟩, h3⟩, h4⟩, h5⟩, h6⟩ := h
  exact .inl ⟨h1, h2, two2_keep h3 h4 h5 h6, ha⟩

/-- The first variable is made. -/
theorem alloc2_p (hG : ∀ W W', G W → Below W.heap.size W W' → G W') (hg : o.guard = none) (ty : TypeId) (zs : Value) (ho : o.op = .alloc ty) (hdst : o.dst = some sp) (hpq : sp ≠ sq) (hmn : m ≠ n) (hmp : m ≠ p) (hmq : m ≠ q) (hms : m < ops.size) (hpre : (preds ops p).contains m = true) (hps : p < ops.size)
    (hz : ∀ W, (zeroValue ty).run P W = .ok zs W)
    (h : ∀ c W, G W → (factsOf (l false c) a sp).holds (.pointer (some ⟨W.heap.size, 0, none⟩)) (W.alloc (.cells zs.cells ty))) :
    Plain P ops tab fin G (Two2 m n sp sq) (fun b c => factsOf (l b c) a) p q m o ∨ askedR P ops tab fin G (Two2 m n sp sq) (fun L k v W => (factsOf (l (L.getD p false) (L.getD q false)) a k).holds v W) m o := by
  refine .inr ?_
  intro x W L hsz hun hdn _ hW hr hk
  have hpf : L.getD p false = false := by
    cases hq : L.getD p false with
    | false => rfl
    | true =>
      have := hdn p ops[p] (by simp [hps]) hq m (by simpa using hpre)
      rw [hun] at this
      cases this
  refine ⟨guard_ok (f := factsOf (l (L.getD p false) (L.getD q false)) a) (guard_none hg) hk, gives_value (v := .pointer (some ⟨W.heap.size, 0, none⟩)) (w' := W.alloc (.cells zs.cells ty)) (by simp [execOp, ho, Instr.alloc, hz, newVar, newRow, Result.andThen]) ?_⟩
  have hb : Below W.heap.size W (W.alloc (.cells zs.cells ty)) := (Below.refl _ _).alloc (Nat.le_refl _) _
  have hsa : (W.alloc (.cells zs.cells ty)).heap.size = W.heap.size + 1 := by simp [World.size_alloc]
  refine ⟨hG _ _ hW hb, ?_, fun k h1 _ h2 h3 => ?_, fun k hk => ?_⟩
  · unfold Two2 at hr ⊢
    rw [set_self (by rw [hsz]; exact hms), set_other2 hmn]
    have e1 : upd o (.pointer (some ⟨W.heap.size, 0, none⟩)) x sp = .pointer (some ⟨W.heap.size, 0, none⟩) := if_pos hdst
    have e2 : upd o (.pointer (some ⟨W.heap.size, 0, none⟩)) x sq = x sq := if_neg (by rw [hdst]; simpa using hpq)
    rw [e1, e2, hsa]
    obtain ⟨_, h2, _⟩ := hr
    refine ⟨fun _ => ⟨_, rfl, by omega⟩, fun h => by obtain ⟨z, q1, q2⟩ := h2 h; exact ⟨z, q1, by omega⟩, fun _ h e => ?_⟩
    obtain ⟨z, q1, q2⟩ := h2 h
    rw [q1] at e
    simp only [Value.pointer.injEq, Option.some.injEq, Addr.mk.injEq] at e
    omega
  · simp only [set_other2 hmp, set_other2 hmq] at *
    exact Fact.below h3 hb
  · rw [hdst] at hk
    cases hk
    simp only [set_other2 hmp, set_other2 hmq, hpf]
    exact h _ W hW

/-- The second variable is made. -/
theorem alloc2_q (hG : ∀ W W', G W → Below W.heap.size W W' → G W') (hg : o.guard = none) (ty : TypeId) (zs : Value) (ho : o.op = .alloc ty) (hdst : o.dst = some sq) (hpq : sp ≠ sq) (hmn : m ≠ n) (hmp : n ≠ p) (hmq : n ≠ q) (hms : n < ops.size) (hpre : (preds ops q).contains n = true) (hqs : q < ops.size)
    (hz : ∀ W, (zeroValue ty).run P W = .ok zs W)
    (h : ∀ b W, G W → (factsOf (l b false) a sq).holds (.pointer (some ⟨W.heap.size, 0, none⟩)) (W.alloc (.cells zs.cells ty))) :
    Plain P ops tab fin G (Two2 m n sp sq) (fun b c => factsOf (l b c) a) p q n o ∨ askedR P ops tab fin G (Two2 m n sp sq) (fun L k v W => (factsOf (l (L.getD p false) (L.getD q false)) a k).holds v W) n o := by
  refine .inr ?_
  intro x W L hsz hun hdn _ hW hr hk
  have hpf : L.getD q false = false := by
    cases hq : L.getD q false with
    | false => rfl
    | true =>
      have := hdn q ops[q] (by simp [hqs]) hq n (by simpa using hpre)
      rw [hun] at this
      cases this
  refine ⟨guard_ok (f := factsOf (l (L.getD p false) (L.getD q false)) a) (guard_none hg) hk, gives_value (v := .pointer (some ⟨W.heap.size, 0, none⟩)) (w' := W.alloc (.cells zs.cells ty)) (by simp [execOp, ho, Instr.alloc, hz, newVar, newRow, Result.andThen]) ?_⟩
  have hb : Below W.heap.size W (W.alloc (.cells zs.cells ty)) := (Below.refl _ _).alloc (Nat.le_refl _) _
  have hsa : (W.alloc (.cells zs.cells ty)).heap.size = W.heap.size + 1 := by simp [World.size_alloc]
  refine ⟨hG _ _ hW hb, ?_, fun k h1 _ h2 h3 => ?_, fun k hk => ?_⟩
  · unfold Two2 at hr ⊢
    rw [set_self (by rw [hsz]; exact hms), set_other2 hmn.symm]
    have e1 : upd o (.pointer (some ⟨W.heap.size, 0, none⟩)) x sq = .pointer (some ⟨W.heap.size, 0, none⟩) := if_pos hdst
    have e2 : upd o (.pointer (some ⟨W.heap.size, 0, none⟩)) x sp = x sp := if_neg (by rw [hdst]; simpa using hpq.symm)
    rw [e1, e2, hsa]
    obtain ⟨h2, _, _⟩ := hr
    refine ⟨fun h => by obtain ⟨z, q1, q2⟩ := h2 h; exact ⟨z, q1, by omega⟩, fun _ => ⟨_, rfl, by omega⟩, fun h _ e => ?_⟩
    obtain ⟨z, q1, q2⟩ := h2 h
    rw [q1] at e
    simp only [Value.pointer.injEq, Option.some.injEq, Addr.mk.injEq] at e
    omega
  · simp only [set_other2 hmp, set_other2 hmq] at *
    exact Fact.below h3 hb
  · rw [hdst] at hk
    cases hk
    simp only [set_other2 hmp, set_other2 hmq, hpf]
    exact h _ W hW

/-- The first variable is filled. -/
theorem store2_p (hdst : o.dst = none) (hpm : p ≠ m) (hpn : p ≠ n) (hpq : p ≠ q) (hps : p < ops.size) (hnq : ∃ on, ops[n]? = some on ∧ on.dst = some sq) (hmp : (preds ops p).contains m = true)
    (h : ∀ c (x : Tmp → Value) (W : World), G W → (∀ k, (o.looksAt ops).contains k = true → (factsOf (l false c) a k).holds (x k) W) →
      wantedBy ops o x ∧ gives P o x W (fun _ W' => G W' ∧ W.heap.size ≤ W'.heap.size ∧ ∀ k, live ops tab fin p k = true → (k = sq → x sp ≠ x sq) → (factsOf (l false c) a k).holds (x k) W → (factsOf (l true c) a k).holds (x k) W')) :
    Plain P ops tab fin G (Two2 m n sp sq) (fun b c => factsOf (l b c) a) p q p o ∨ askedR P ops tab fin G (Two2 m n sp sq) (fun L k v W => (factsOf (l (L.getD p false) (L.getD q false)) a k).holds v W) p o := by
  refine .inr ?_
  intro x W L hsz hun hdn hpre hW hr hk
  simp only [hun] at hk
  obtain ⟨h1, h2⟩ := h _ x W hW hk
  refine ⟨h1, gives_imp h2 fun v W' ⟨h3, h4, h5⟩ => ?_⟩
  simp only [set_self (show p < L.size by rw [hsz]; exact hps), set_other2 hpq, hun]
  refine ⟨h3, ?_, fun k _ hkn hl hu => h5 k hl (fun e => ?_) hu, fun k hk => by rw [hdst] at hk; cases hk⟩
  · unfold Two2 at hr ⊢
    rw [set_other2 hpm, set_other2 hpn]
    have e1 : ∀ t, upd o v x t = x t := fun t => if_neg (by rw [hdst]; simp)
    rw [e1, e1]
    obtain ⟨q1, q2, q3⟩ := hr
    exact ⟨fun h => by obtain ⟨z, r1, r2⟩ := q1 h; exact ⟨z, r1, by omega⟩, fun h => by obtain ⟨z, r1, r2⟩ := q2 h; exact ⟨z, r1, by omega⟩, q3⟩
  · subst e
    obtain ⟨on, hon, hd⟩ := hnq
    exact hr.2.2 (hpre m (by simpa using hmp)) (hkn n on hon hd)

/-- The second variable is filled. -/
theorem store2_q (hdst : o.dst = none) (hqm : q ≠ m) (hqn : q ≠ n) (hpq : q ≠ p) (hqs : q < ops.size) (hmq : ∃ om, ops[m]? = some om ∧ om.dst = some sp) (hnq : (preds ops q).contains n = true)
    (h : ∀ b (x : Tmp → Value) (W : World), G W → (∀ k, (o.looksAt ops).contains k = true → (factsOf (l b false) a k).holds (x k) W) →
      wantedBy ops o x ∧ gives P o x W (fun _ W' => G W' ∧ W.heap.size ≤ W'.heap.size ∧ ∀ k, live ops tab fin q k = true → (k = sp → x sp ≠ x sq) → (factsOf (l b false) a k).holds (x k) W → (factsOf (l b true) a k).holds (x k) W')) :
    Plain P ops tab fin G (Two2 m n sp sq) (fun b c => factsOf (l b c) a) p q q o ∨ askedR P ops tab fin G (Two2 m n sp sq) (fun L k v W => (factsOf (l (L.getD p false) (L.getD q false)) a k).holds v W) q o := by
  refine .inr ?_
  intro x W L hsz hun hdn hpre hW hr hk
  simp only [hun] at hk
  obtain ⟨h1, h2⟩ := h _ x W hW hk
  refine ⟨h1, gives_imp h2 fun v W' ⟨h3, h4, h5⟩ => ?_⟩
  simp only [set_self (show q < L.size by rw [hsz]; exact hqs), set_other2 hpq, hun]
  refine ⟨h3, ?_, fun k _ hkn hl hu => h5 k hl (fun e => ?_) hu, fun k hk => by rw [hdst] at hk; cases hk⟩
  · unfold Two2 at hr ⊢
    rw [set_other2 hqm, set_other2 hqn]
    have e1 : ∀ t, upd o v x t = x t := fun t => if_neg (by rw [hdst]; simp)
    rw [e1, e1]
    obtain ⟨q1, q2, q3⟩ := hr
    exact ⟨fun h => by obtain ⟨z, r1, r2⟩ := q1 h; exact ⟨z, r1, by omega⟩, fun h => by obtain ⟨z, r1, r2⟩ := q2 h; exact ⟨z, r1, by omega⟩, q3⟩
  · subst e
    obtain ⟨om, hom, hd⟩ := hmq
    exact hr.2.2 (hkn m om hom hd) (hpre n (by simpa using hnq))
end

theorem grow_both {G : World → Prop} (hG : ∀ W W', G W → Below W.heap.size W W' → G W') (Wx W W' : World) (h : G W ∧ Below Wx.heap.size Wx W) (hb : Below W.heap.size W W') : G W' ∧ Below Wx.heap.size Wx W' :=
  ⟨hG _ _ h.1 hb, h.2.trans (hb.mono h.2.size)⟩

section
variable {P : Program} {ops : Array Oper} {tab : List (List Nat)} {fin : List Tmp} {G : World → Prop} {l0 : List (Tmp × Fact)} {a : Act} {p q A B : Nat} {t : TypeId} {ca cb : Array Value} {o : Oper}

/-- What the two stores have written. -/
def Put2 (p q A B : Nat) (t : TypeId) (ca cb : Array Value) (L : Array Bool) (_x : Tmp → Value) (W : World) : Prop :=
  (L.getD p false = true → Blk W A t ca) ∧ (L.getD q false = true → Blk W B t cb)

theorem put2_none (k : Nat) (x : Tmp → Value) (W : World) : Put2 p q A B t ca cb (Array.replicate k false) x W := by
  have e : ∀ p, (Array.replicate k false).getD p false = false := fun p => by
    rw [Array.getD_eq_getD_getElem?, Array.getElem?_replicate]
    split <;> rfl
  unfold Put2
  rw [e, e]
  exact ⟨fun h => by simp at h, fun h => by simp at h⟩

theorem plain_put {i : Nat} (h : (i != p && i != q) = true) (ha : ∀ (Wx : World), Asked P ops tab fin (fun W => G W ∧ Below Wx.heap.size Wx W) (factsOf l0 a) i o) :
    Plain P ops tab fin G (Put2 p q A B t ca cb) (fun _ _ => factsOf l0 a) p q i o ∨ askedR P ops tab fin G (Put2 p q A B t ca cb) (fun _ k v W => (factsOf l0 a k).holds v W) i o := by
  simp only [Bool.and_eq_true, bne_iff_ne, ne_eq] at h
  obtain ⟨h1, h2⟩ := h
  refine .inl ⟨h1, h2, fun L x v W W' hr hb => ?_, fun Wx _ _ => ha Wx⟩
  unfold Put2 at *
  rw [set_other2 h1, set_other2 h2]
  exact ⟨fun h => (hr.1 h).keep hb, fun h => (hr.2 h).keep hb⟩

theorem put2_p (hg : o.guard = none) (ty : TypeId) (s1 s2 : Operand) (ho : o.op = .store ty s1 s2) (hdst : o.dst = none) (h1 : opFact (factsOf l0 a) s1 = .is (.pointer (some ⟨A, 0, none⟩))) (h2 : opFact (factsOf l0 a) s2 = .is (.agg ca))
    (hst : stillBut ops tab fin (factsOf l0 a) p o = true) (hpq : p ≠ q) (hAB : B ≠ A) (hrun : ∀ W, G W → ∃ cur, Blk W A t cur ∧ cur.size = ca.size) (hi : (P.info? ty).map (·.size) = some ca.size) (hone : ca.all (·.oneCell') = true)
    (hG : ∀ W, G W → G (W.setRow A ca)) : askedR P ops tab fin G (Put2 p q A B t ca cb) (fun _ k v W => (factsOf l0 a k).holds v W) p o := by
  intro x W L hsz hun hdn _ hW hr hk
  have e1 : evalBy x s1 = .pointer (some ⟨A, 0, none⟩) := by
    have := told_op hk s1 (by rw [ho]; simp [Op.operands])
    rw [h1] at this
    exact this
  have e2 : evalBy x s2 = .agg ca := by
    have := told_op hk s2 (by rw [ho]; simp [Op.operands])
    rw [h2] at this
    exact this
  obtain ⟨cur, hb, hc⟩ := hrun W hW
  refine ⟨guard_ok (guard_none hg) hk, gives_store ty s1 s2 ho _ _ e1 e2 (hb.stores ty ca hi hc hone) ⟨hG W hW, ?_, fun k hne _ hl hu => Fact.stays (still_but hst k hne hl) hu, fun k hk => by rw [hdst] at hk; cases hk⟩⟩
  unfold Put2 at *
  rw [set_other2 hpq]
  exact ⟨fun _ => hb.row ca, fun h => (hr.2 h).rowOther ca hAB⟩

theorem put2_q (hg : o.guard = none) (ty : TypeId) (s1 s2 : Operand) (ho : o.op = .store ty s1 s2) (hdst : o.dst = none) (h1 : opFact (factsOf l0 a) s1 = .is (.pointer (some ⟨B, 0, none⟩))) (h2 : opFact (factsOf l0 a) s2 = .is (.agg cb))
    (hst : stillBut ops tab fin (factsOf l0 a) q o = true) (hpq : q ≠ p) (hAB : A ≠ B) (hrun : ∀ W, G W → ∃ cur, Blk W B t cur ∧ cur.size = cb.size) (hi : (P.info? ty).map (·.size) = some cb.size) (hone : cb.all (·.oneCell') = true)
    (hG : ∀ W, G W → G (W.setRow B cb)) : askedR P ops tab fin G (Put2 p q A B t ca cb) (fun _ k v W => (factsOf l0 a k).holds v W) q o := by
  intro x W L hsz hun hdn _ hW hr hk
  have e1 : evalBy x s1 = .pointer (some ⟨B, 0, none⟩) := by
    have := told_op hk s1 (by rw [ho]; simp [Op.operands])
    rw [h1] at this
    exact this
  have e2 : evalBy x s2 = .agg cb := by
    have := told_op hk s2 (by rw [ho]; simp [Op.operands])
    rw [h2] at this
    exact this
  obtain ⟨cur, hb, hc⟩ := hrun W hW
  refine ⟨guard_ok (guard_none hg) hk, gives_store ty s1 s2 ho _ _ e1 e2 (hb.stores ty cb hi hc hone) ⟨hG W hW, ?_, fun k hne _ hl hu => Fact.stays (still_but hst k hne hl) hu, fun k hk => by rw [hdst] at hk; cases hk⟩⟩
  unfold Put2 at *
  rw [set_other2 hpq]
  exact ⟨fun h => (hr.1 h).rowOther cb hAB, fun _ => hb.row cb⟩
end
end Go.Proofs.YtdhfabjkpffhnaaDoor.Reg

