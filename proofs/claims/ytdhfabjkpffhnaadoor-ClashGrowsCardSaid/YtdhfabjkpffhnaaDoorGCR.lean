/- Joined: Region, Facts. -/
import Derived.WalkKit
import Derived.Test.YtdhfabjkpffhnaaDoorBys
/- A region that draws its order, whose operations only add to the memory: each operation has a fact about its value that stays true while the memory grows; whatever the order, all facts hold at the end. -/
namespace Go.Proofs.YtdhfabjkpffhnaaDoor.Reg
set_option maxRecDepth 20000
open Go

/-- What an operand is, the slots given as a function. -/
def evalBy (x : Tmp → Value) : Operand → Value
  | .tmp t => x t
  | .const v => v
  | .global g => .pointer (some ⟨g, 0, none⟩)
  | .func f => .func (.func f) #[] #[]

theorem evalBy_eq (a : Act) : a.eval = evalBy (fun t => a.tmps.getD t undef) := by
  funext o; cases o <;> rfl

/-- The operation's run ends with a value of which R holds in the world that it leaves. -/
def givesUpon (P : Program) (R : Value → World → Prop) : Result Next → Prop
  | .ok (.value v) w' => R v w'
  | .ok .skip w' => R undef w'
  | .ok (.enter f args) w' => Calls P f args w' (fun e w'' => ∃ v, e = .returned v ∧ R v w'')
  | _ => False

def gives (P : Program) (o : Oper) (x : Tmp → Value) (w : World) (R : Value → World → Prop) : Prop := givesUpon P R ((execOp (evalBy x) o).run P w)

theorem gives_value {P : Program} {o : Oper} {x : Tmp → Value} {w w' : World} {R : Value → World → Prop} {v : Value} (h : (execOp (evalBy x) o).run P w = .ok (.value v) w') (hR : R v w') : gives P o x w R := by
  unfold gives; rw [h]; exact hR

theorem gives_enter {P : Program} {o : Oper} {x : Tmp → Value} {w w' : World} {R : Value → World → Prop} {f : FuncId} {args : Array Value} (h : (execOp (evalBy x) o).run P w = .ok (.enter f args) w') (hR : Calls P f args w' (fun e w'' => ∃ v, e = .returned v ∧ R v w'')) : gives P o x w R := by
  unfold gives; rw [h]; exact hR

theorem wp_of_gives {P : Program} {o : Oper} {a : Act} {w : World} {R : Value → World → Prop} {K : Act → World → Prop} {Q : Exit → Act → World → Prop}
    (h : gives P o (fun t => a.tmps.getD t undef) w R) (hK : ∀ v w', R v w' → K (a.put o.dst v) w') : o.wp P a w K Q := by
  unfold gives at h
  rw [← evalBy_eq] at h
  unfold Oper.wp
  generalize (execOp a.eval o).run P w = r at *
  cases r with
  | ok n w' =>
    cases n <;> simp only [givesUpon] at h <;> simp only [Oper.upon]
    case value u => exact hK _ _ h
    case skip => exact hK _ _ h
    case enter f args => exact h.mono fun e w'' ⟨v, he, hv⟩ => by subst he; exact hK _ _ hv
  | halt x w' => simp only [givesUpon] at h

/-- Slot k is written by no operation that is still to come. -/
def known (ops : Array Oper) (listed : Array Bool) (k : Tmp) : Prop := ∀ (i : Nat) (o : Oper), ops[i]? = some o → o.dst = some k → listed.getD i false = true

/-- Every operation waits for those whose values it looks at; every edge leads back. -/
def sound (ops : Array Oper) : Bool :=
  (List.range ops.size).all fun i => match ops[i]? with
    | none => true
    | some o => (o.after.all fun e => !Region.binds .any e || decide (e.on < i)) &&
        (o.looksAt ops).all fun k => (List.range ops.size).all fun j => match ops[j]? with
          | none => true
          | some o' => o'.dst != some k || o.after.any fun e => Region.binds .any e && e.on == j

/-- The guard, the slots given as a function. -/
def wantedBy (ops : Array Oper) (o : Oper) (x : Tmp → Value) : Prop :=
  match o.guard with
  | none => True
  | some (j, want) => ∃ d, (ops[j]?).bind (·.dst) = some d ∧ x d = .bool want

/-- The operations that one waits for, directly. -/
def preds (ops : Array Oper) (i : Nat) : List Nat := match ops[i]? with
  | some o => (o.after.toList.filter (Region.binds .any)).map (·.on)
  | none => []

/-- All that each operation waits for, through whatever chain: a table, and the look whether it is no more than that. -/
def table (ops : Array Oper) : List (List Nat) :=
  (List.range ops.size).foldl (fun acc i => acc ++ [((preds ops i) ++ (preds ops i).flatMap fun m => acc.getD m []).eraseDups]) []

def tableOk (ops : Array Oper) (tab : List (List Nat)) : Bool :=
  (List.range ops.size).all fun i => (tab.getD i []).all fun j => (preds ops i).contains j || (preds ops i).any fun m => decide (m < i) && (tab.getD m []).contains j

/-- Behind operation i the value in slot k may still be looked at: it is wanted at the end, or by an operation that i doesn't wait for. -/
def live (ops : Array Oper) (tab : List (List Nat)) (fin : List Tmp) (i : Nat) (k : Tmp) : Bool :=
  fin.contains k || (List.range ops.size).any fun j => match ops[j]? with
    | some o => (o.looksAt ops).contains k && !(j == i) && !(tab.getD i []).contains j
    | none => false

/-- What is asked of one operation. -/
def asked (P : Program) (ops : Array Oper) (tab : List (List Nat)) (fin : List Tmp) (G : World → Prop) (F : Tmp → Value → World → Prop) (i : Nat) (o : Oper) : Prop :=
  ∀ (x : Tmp → Value) (W : World), G W → (∀ k, (o.looksAt ops).contains k = true → F k (x k) W) →
    wantedBy ops o x ∧ gives P o x W (fun v W' => G W' ∧ (∀ k u, o.dst ≠ some k → live ops tab fin i k = true → F k u W → F k u W') ∧ ∀ k, o.dst = some k → F k v W')

/-- A slot's value is still wanted. -/
def wantedStill (ops : Array Oper) (fin : List Tmp) (listed : Array Bool) (k : Tmp) : Prop :=
  fin.contains k = true ∨ ∃ (j : Nat) (o : Oper), ops[j]? = some o ∧ (o.looksAt ops).contains k = true ∧ listed.getD j false = false

structure Inv (ops : Array Oper) (fin : List Tmp) (G : World → Prop) (F : Tmp → Value → World → Prop) (a0 : Act) (listed : Array Bool) (a : Act) (W : World) : Prop where
  grown : G W
  defers : a.defers = a0.defers
  size : a.tmps.size = a0.tmps.size
  lsize : listed.size = ops.size
  down : ∀ (i : Nat) (o : Oper), ops[i]? = some o → listed.getD i false = true → ∀ j ∈ preds ops i, listed.getD j false = true
  facts : ∀ k, known ops listed k → wantedStill ops fin listed k → F k (a.tmps.getD k undef) W

theorem mem_set {listed : Array Bool} {i j : Nat} (h : (listed.setIfInBounds i true).getD j false = true) : j = i ∨ listed.getD j false = true := by
  by_cases hij : j = i
  · exact .inl hij
  · right
    rw [Array.getD_eq_getD_getElem?, Array.getElem?_setIfInBounds_ne (Ne.symm hij), ← Array.getD_eq_getD_getElem?] at h
    exact h

theorem set_mem {listed : Array Bool} {i j : Nat} (h : listed.getD j false = true) : (listed.setIfInBounds i true).getD j false = true := by
  by_cases hij : i = j
  · subst hij
    have hlt : i < listed.size := by
      rcases Nat.lt_or_ge i listed.size with h1 | h1
      · exact h1
      · rw [Array.getD_eq_getD_getElem?, Array.getElem?_eq_none h1] at h; cases h
    rw [Array.getD_eq_getD_getElem?, Array.getElem?_setIfInBounds_self_of_lt hlt]; rfl
  · rw [Array.getD_eq_getD_getElem?, Array.getElem?_setIfInBounds_ne hij, ← Array.getD_eq_getD_getElem?]
    exact h

theorem set_self {listed : Array Bool} {i : Nat} (hlt : i < listed.size) : (listed.setIfInBounds i true).getD i false = true := by
  rw [Array.getD_eq_getD_getElem?, Array.getElem?_setIfInBounds_self_of_lt hlt]; rfl

theorem mem_preds {ops : Array Oper} {i : Nat} {o : Oper} (hi : ops[i]? = some o) {j : Nat} : j ∈ preds ops i ↔ ∃ e ∈ o.after, Region.binds .any e = true ∧ e.on = j := by
  unfold preds
  rw [hi]
  simp only [List.mem_map, List.mem_filter, Array.mem_toList_iff]
  constructor
  · rintro ⟨e, ⟨h1, h2⟩, h3⟩; exact ⟨e, h1, h2, h3⟩
  · rintro ⟨e, h1, h2, h3⟩; exact ⟨e, ⟨h1, h2⟩, h3⟩

/-- Whatever an operation waits for through a chain is listed, once its direct ones are. -/
theorem table_listed {ops : Array Oper} {tab : List (List Nat)} (ht : tableOk ops tab = true) {listed : Array Bool}
    (hdown : ∀ (i : Nat) (o : Oper), ops[i]? = some o → listed.getD i false = true → ∀ j ∈ preds ops i, listed.getD j false = true) :
    ∀ (i : Nat), i < ops.size → (∀ j ∈ preds ops i, listed.getD j false = true) → ∀ j ∈ tab.getD i [], listed.getD j false = true := by
  intro i
  induction i using Nat.strongRecOn with
  | ind i ih =>
    intro hi hp j hj
    unfold tableOk at ht
    have h1 := List.all_eq_true.1 ht i (List.mem_range.2 hi)
    have h2 := List.all_eq_true.1 h1 j hj
    rw [Bool.or_eq_true] at h2
    rcases h2 with h2 | h2
    · exact hp j (by simpa using h2)
    · obtain ⟨m, hm, h3⟩ := List.any_eq_true.1 h2
      simp only [Bool.and_eq_true, decide_eq_true_eq] at h3
      have hml : m < ops.size := by omega
      exact ih m h3.1 hml (hdown m ops[m] (by simp [hml]) (hp m hm)) j (by simpa using h3.2)

theorem inv_step {ops : Array Oper} {tab : List (List Nat)} {fin : List Tmp} {G : World → Prop} {F : Tmp → Value → World → Prop} {a0 a : Act} {listed : Array Bool} {W W' : World} {i : Nat} {o : Oper} {v : Value}
    (ht : tableOk ops tab = true) (h : Inv ops fin G F a0 listed a W) (hi : ops[i]? = some o) (hp : ∀ j ∈ preds ops i, listed.getD j false = true) (hd : ∀ d, o.dst = some d → d < a0.tmps.size) (hG : G W')
    (hm : ∀ k u, o.dst ≠ some k → live ops tab fin i k = true → F k u W → F k u W') (hv : ∀ k, o.dst = some k → F k v W') :
    Inv ops fin G F a0 (listed.setIfInBounds i true) (a.put o.dst v) W' := by
  have hil : i < ops.size := (Array.getElem?_eq_some_iff.1 hi).1
  refine ⟨hG, ?_, ?_, by simpa using h.lsize, ?_, ?_⟩
  · cases hdst : o.dst <;> simp [Act.put, h.defers]
  · cases hdst : o.dst <;> simp [Act.put, h.size]
  · intro j oj hj hlj m hmj
    rcases mem_set hlj with rfl | hlj
    · exact set_mem (hp m hmj)
    · exact set_mem (h.down j oj hj hlj m hmj)
  · intro k hk hw
    by_cases hkd : o.dst = some k
    · have := hv k hkd
      have hlt : k < a.tmps.size := by rw [h.size]; exact hd k hkd
      rw [hkd]
      simp only [Act.put, Array.getD_eq_getD_getElem?, Array.getElem?_setIfInBounds_self_of_lt hlt, Option.getD_some]
      exact this
    · have e : (a.put o.dst v).tmps.getD k undef = a.tmps.getD k undef := by
        cases hdst : o.dst with
        | none => rfl
        | some d =>
          have : d ≠ k := fun e => hkd (by rw [hdst, e])
          simp only [Act.put, Array.getD_eq_getD_getElem?, Array.getElem?_setIfInBounds_ne this]
      rw [e]
      have hlive : live ops tab fin i k = true := by
        unfold live
        rw [Bool.or_eq_true]
        rcases hw with hw | ⟨j, oj, hj, hl, hun⟩
        · exact .inl hw
        · right
          refine List.any_eq_true.2 ⟨j, List.mem_range.2 (Array.getElem?_eq_some_iff.1 hj).1, ?_⟩
          have hji : j ≠ i := by
            rintro rfl
            rw [set_self (by rw [h.lsize]; exact hil)] at hun
            cases hun
          have hjt : (tab.getD i []).contains j = false := by
            cases hq : (tab.getD i []).contains j with
            | false => rfl
            | true =>
              have h1 := table_listed ht h.down i hil hp j (by simpa using hq)
              rw [set_mem h1] at hun
              cases hun
          have hji' : (j == i) = false := by simpa using hji
          simp only [hj, hl, hjt, hji', Bool.not_false, Bool.and_self]
      refine hm _ _ hkd hlive (h.facts k (fun j oj hj hdj => ?_) ?_)
      · rcases mem_set (hk j oj hj hdj) with rfl | h2
        · rw [hi] at hj
          cases hj
          exact absurd hdj hkd
        · exact h2
      · rcases hw with hw | ⟨j, oj, hj, hl, hun⟩
        · exact .inl hw
        · refine .inr ⟨j, oj, hj, hl, ?_⟩
          cases hq : listed.getD j false with
          | false => rfl
          | true => rw [set_mem hq] at hun; cases hun

theorem sound_edge {ops : Array Oper} (h : sound ops = true) {i : Nat} {o : Oper} (hi : ops[i]? = some o) : (∀ e ∈ o.after, Region.binds .any e = true → e.on < i) ∧
    ∀ k ∈ o.looksAt ops, ∀ j o', ops[j]? = some o' → o'.dst = some k → ∃ e ∈ o.after, Region.binds .any e = true ∧ e.on = j := by
  unfold sound at h
  rw [List.all_eq_true] at h
  have hlt : i < ops.size := (Array.getElem?_eq_some_iff.1 hi).1
  have h1 := h i (List.mem_range.2 hlt)
  simp only [hi, Bool.and_eq_true, List.all_eq_true, List.mem_range] at h1
  obtain ⟨h2, h3⟩ := h1
  refine ⟨fun e he hb => ?_, fun k hk j o' hj hd => ?_⟩
  · have := Array.all_eq_true_iff_forall_mem.1 h2 e he
    simpa [hb] using this
  · have := h3 k hk j (Array.getElem?_eq_some_iff.1 hj).1
    simp only [hj, hd, bne_self_eq_false, Bool.false_or] at this
    obtain ⟨e, he, h4⟩ := Array.any_eq_true'.1 this
    simp only [Bool.and_eq_true, beq_iff_eq] at h4
    exact ⟨e, he, h4.1, h4.2⟩

theorem wanted_of {ops : Array Oper} {o : Oper} {a : Act} (h : wantedBy ops o (fun t => a.tmps.getD t undef)) : Region.wanted o (yielded ops a.tmps) = true := by
  unfold wantedBy at h
  unfold Region.wanted
  cases hg : o.guard with
  | none => rfl
  | some p =>
    obtain ⟨j, want⟩ := p
    rw [hg] at h
    obtain ⟨d, hd, hx⟩ := h
    have : a.tmps[d]? = some (.bool want) := by
      have hx : a.tmps.getD d undef = .bool want := hx
      rw [Array.getD_eq_getD_getElem?] at hx
      cases hq : a.tmps[d]? with
      | none => rw [hq] at hx; simp [undef] at hx
      | some u => rw [hq] at hx; simpa using hx
    simp [yielded, hd, this]

/-- How many have not come up. -/
def left (listed : Array Bool) : Nat := (listed.toList.filter (!·)).length

theorem count_set (l : List Bool) : ∀ i, l[i]? = some false → ((l.set i true).filter (!·)).length + 1 = (l.filter (!·)).length := by
  induction l with
  | nil => intro i h; simp at h
  | cons b l ih =>
    intro i h
    cases i with
    | zero => simp at h; subst h; simp
    | succ i =>
      have := ih i (by simpa using h)
      cases b <;> simp at this ⊢ <;> omega

theorem left_set {listed : Array Bool} {i : Nat} (h : listed.getD i true = false) : left (listed.setIfInBounds i true) + 1 = left listed := by
  have hi : i < listed.size := by
    rcases Nat.lt_or_ge i listed.size with h1 | h1
    · exact h1
    · rw [Array.getD_eq_getD_getElem?, Array.getElem?_eq_none h1] at h; cases h
  unfold left
  rw [Array.toList_setIfInBounds]
  refine count_set _ _ ?_
  rw [Array.getD_eq_getD_getElem?, Array.getElem?_eq_getElem hi] at h
  simp [hi]
  simpa using h

/-- Where nothing may come up all has come up: the least that has not could. -/
theorem all_listed {ops : Array Oper} (hs : sound ops = true) {listed : Array Bool} (hl : listed.size = ops.size) (hr : Region.ready .any ops listed = []) : ∀ i, i < ops.size → listed.getD i false = true := by
  intro i
  induction i using Nat.strongRecOn with
  | ind i ih =>
    intro hi
    cases hq : listed.getD i false with
    | true => rfl
    | false =>
      exfalso
      have hm : i ∈ Region.ready .any ops listed := by
        rw [mem_ready]
        refine ⟨?_, ops[i], by simp [hi], fun e he hb => ?_⟩
        · rw [Array.getD_eq_getD_getElem?, Array.getElem?_eq_getElem (by omega)] at hq ⊢
          exact hq
        · have := (sound_edge hs (show ops[i]? = some ops[i] by simp [hi])).1 e he hb
          exact ih e.on this (by omega)
      rw [hr] at hm
      cases hm

theorem any_of_inv {P : Program} {ops : Array Oper} {tab : List (List Nat)} {fin : List Tmp} {G : World → Prop} {F : Tmp → Value → World → Prop} {a0 : Act} {Q : Exit → Act → World → Prop} (hs : sound ops = true) (ht : tableOk ops tab = true)
    (hd : ∀ (i : Nat) (o : Oper), ops[i]? = some o → ∀ d, o.dst = some d → d < a0.tmps.size)
    (hops : ∀ (i : Nat) (o : Oper), ops[i]? = some o → asked P ops tab fin G F i o)
    (hend : ∀ a W, G W → a.defers = a0.defers → a.tmps.size = a0.tmps.size → (∀ k, fin.contains k = true → F k (a.tmps.getD k undef) W) → Q .normal a W) :
    ∀ (fuel : Nat) (listed : Array Bool) (a : Act) (W : World), left listed ≤ fuel → Inv ops fin G F a0 listed a W → wpAny P .any ops Q fuel listed a W := by
  have done : ∀ (listed : Array Bool) (a : Act) (W : World), Inv ops fin G F a0 listed a W → Region.ready .any ops listed = [] → Q .normal a W := fun listed a W h hr =>
    hend a W h.grown h.defers h.size fun k hk => h.facts k (fun i o hi _ => all_listed hs h.lsize hr i (Array.getElem?_eq_some_iff.1 hi).1) (.inl hk)
  intro fuel
  induction fuel with
  | zero =>
    intro listed a W hf h
    have hr : Region.ready .any ops listed = [] := by
      cases hq : Region.ready .any ops listed with
      | nil => rfl
      | cons j js =>
        have hj : j ∈ Region.ready .any ops listed := by rw [hq]; simp
        have := left_set (mem_ready.1 hj).1
        omega
    exact ⟨hr, done listed a W h hr⟩
  | succ fuel ih =>
    intro listed a W hf h
    refine ⟨fun hr => done listed a W h hr, fun i hi => ?_⟩
    obtain ⟨hun, o, ho, hall⟩ := mem_ready.1 hi
    have hil : i < ops.size := (Array.getElem?_eq_some_iff.1 ho).1
    have hun' : listed.getD i false = false := by
      rw [Array.getD_eq_getD_getElem?, Array.getElem?_eq_getElem (by rw [h.lsize]; exact hil)] at hun ⊢
      exact hun
    have hsd := sound_edge hs ho
    have hp : ∀ j ∈ preds ops i, listed.getD j false = true := fun j hj => by
      obtain ⟨e, he, hb, rfl⟩ := (mem_preds ho).1 hj
      exact hall e he hb
    have hF : ∀ k, (o.looksAt ops).contains k = true → F k (a.tmps.getD k undef) W := fun k hk => h.facts k (fun j oj hj hdj => by
      obtain ⟨e, he, hb, rfl⟩ := hsd.2 k (by simpa using hk) j oj hj hdj
      exact hall e he hb) (.inr ⟨i, o, ho, hk, hun'⟩)
    obtain ⟨hw, hg⟩ := hops i o ho (fun t => a.tmps.getD t undef) W h.grown hF
    unfold wpOp
    simp only [ho, wanted_of hw, if_true]
    refine .inl (wp_of_gives hg fun v w' ⟨h1, h2, h3⟩ => ih _ _ _ ?_ (inv_step ht h ho hp (hd i o ho) h1 h2 h3))
    have := left_set hun
    omega

/-- **A REGION BY ITS FACTS.** -/
theorem wp_region_facts {P : Program} {ops : Array Oper} {id : Nat} {a : Act} {w : World} {Q : Exit → Act → World → Prop} (tab : List (List Nat)) (fin : List Tmp) (G : World → Prop) (F : Tmp → Value → World → Prop)
    (hm : P.follows .mixedOrders = true) (hs : sound ops = true) (ht : tableOk ops tab = true) (hd : (ops.all fun o => (o.dst.map fun d => decide (d < a.tmps.size)).getD true) = true)
    (hG : G w.drew) (h0 : ∀ k, F k (a.tmps.getD k undef) w.drew ∨ (ops.any fun o => o.dst == some k) = true)
    (hops : ∀ (i : Nat) (o : Oper), ops[i]? = some o → asked P ops tab fin G F i o)
    (hend : ∀ a' W, G W → a'.defers = a.defers → a'.tmps.size = a.tmps.size → (∀ k, fin.contains k = true → F k (a'.tmps.getD k undef) W) → Q .normal a' W) : (Code.region id ops true).wp P Q a w := by
  refine wp_region_any hm (any_of_inv (tab := tab) (fin := fin) (G := G) (F := F) (a0 := a) hs ht ?_ hops hend _ _ _ _ ?_ ?_)
  · intro i o hi d hdst
    have := Array.all_eq_true_iff_forall_mem.1 hd o (Array.mem_of_getElem? hi)
    simpa [hdst] using this
  · unfold left
    refine Nat.le_trans (List.length_filter_le _ _) (by simp)
  · refine ⟨hG, rfl, rfl, by simp, fun i o hi hl => ?_, fun k hk _ => ?_⟩
    · rw [Array.getD_eq_getD_getElem?] at hl
      simp [Array.getElem?_replicate] at hl
      split at hl <;> simp at hl
    · rcases h0 k with h | h
      · exact h
      · obtain ⟨o, ho, hdst⟩ := Array.any_eq_true'.1 h
        obtain ⟨i, hi⟩ := Array.mem_iff_getElem?.1 ho
        have := hk i o hi (by simpa using hdst)
        rw [Array.getD_eq_getD_getElem?] at this
        simp [Array.getElem?_replicate] at this
        split at this <;> simp at this

end Go.Proofs.YtdhfabjkpffhnaaDoor.Reg

/- The facts that regions are told by: a value, the bytes of a slice, a row of the call's own. -/
namespace Go.Proofs.YtdhfabjkpffhnaaDoor
set_option maxRecDepth 20000
open Go.RowKit Reg

/-- append in a walk, by whatever is known of its run. -/
theorem wpList_append_by {P : Program} {w : World} {ops : Array Oper} {rest : List Oper} {o : Oper} {a : Act} {Q : Exit → Act → World → Prop} (hgd : o.guard = none) (s x : Operand) (t : TypeId)
    (ho : o.op = .call { callee := .builtin .append, args := #[s, x], argTypes := #[t, t] }) (v y : Value) (hs : a.eval s = v) (hx : a.eval x = y) (R : Value → World → Prop)
    (hr : ∃ v' w', (Builtin.append_ #[t, t] o.type #[v, y]).run P w = .ok v' w' ∧ R v' w')
    (h : ∀ v' w', R v' w' → wpList P ops Q rest (a.put o.dst v') w') : wpList P ops Q (o :: rest) a w := by
  obtain ⟨v', w', hrun, hR⟩ := hr
  refine wpList_plain hgd fun K hK => ?_
  unfold Oper.wp
  simp [execOp, ho, resolve, invoke, builtin, hs, hx, hrun, Result.andThen]
  exact hK _ _ (h v' w' hR)

/-- The shape of a row that isn't empty. -/
theorem Row.shape {w : World} {B : Nat} {v : Value} {l : List UInt8} (h : Row w B v l) (hl : l ≠ []) : ∃ g cap, v = .slice (some ⟨g, 0, none⟩) l.length cap ∧ B ≤ g ∧ g < w.heap.size ∧ l.length ≤ cap ∧ cap ≤ maxLen := by
  rcases h.2 with ⟨_, h0⟩ | ⟨g, cap, cur, hv, hB, hg, hn, hm, hs, ht⟩
  · exact absurd (List.eq_nil_of_length_eq_zero h0) hl
  · exact ⟨g, cap, hv, hB, (Array.getElem?_eq_some_iff.1 hg).1, hn, hm⟩

/-- A beginning of a slice. -/
theorem Bys.take {w : World} {a : Option Addr} {len cap : Nat} {l : List UInt8} (h : Bys w (.slice a len cap) l) (k : Nat) (hk : k ≤ l.length) : Bys w (.slice a k cap) (l.take k) := by
  rcases h with ⟨h1, rfl⟩ | ⟨ad, cap', h1, hc⟩
  · simp at h1 hk
    obtain ⟨rfl, rfl, rfl⟩ := h1
    subst hk
    exact .inl ⟨rfl, rfl⟩
  · simp at h1
    obtain ⟨rfl, rfl, rfl⟩ := h1
    have e : (l.take k).length = k := by rw [List.length_take]; omega
    refine .inr ⟨ad, cap, by rw [e], fun i hi => ?_⟩
    rw [e] at hi
    rw [hc i (by omega)]
    simp

theorem byte_bys (w : World) (c : UInt8) : Bys (w.alloc (.cells #[bv c] 5)) (.slice (some ⟨w.heap.size, 0, none⟩) 1 1) [c] :=
  .inr ⟨⟨w.heap.size, 0, none⟩, 1, rfl, fun i hi => by
    obtain rfl : i = 0 := by simp at hi; exact hi
    simp [Addr.add, World.cell?_alloc_at]⟩

inductive Fact
  | is (v : Value)
  | bys (l : List UInt8)
  | row (B : Nat) (l : List UInt8)
  | lit (B : Nat)
  | any
  | sat (p : Value → World → Prop) (h : ∀ v W W', p v W → Below W.heap.size W W' → p v W')

def Fact.holds : Fact → Value → World → Prop
  | .is c, v, _ => v = c
  | .bys l, v, w => Bys w v l
  | .row B l, v, w => Row w B v l
  | .lit B, v, w => ∃ g, v = .slice (some ⟨g, 0, none⟩) 0 0 ∧ B ≤ g ∧ w.heap[g]? = some (.cells #[] 5 (0, 0))
  | .any, _, _ => True
  | .sat p _, v, w => p v w

/-- It speaks of no memory. -/
def Fact.still : Fact → Bool
  | .is _ | .any => true
  | _ => false

theorem Row.below {w w' : World} {B : Nat} {v : Value} {l : List UInt8} (h : Row w B v l) (hb : Below w.heap.size w w') : Row w' B v l := by
  rcases h with ⟨h1, h2⟩
  refine ⟨h1, ?_⟩
  rcases h2 with h2 | ⟨g, cap, cur, hv, hB, hg, r⟩
  · exact .inl h2
  · have hlt : g < w.heap.size := (Array.getElem?_eq_some_iff.1 hg).1
    exact .inr ⟨g, cap, cur, hv, hB, by rw [hb.block g hlt]; exact hg, r⟩

theorem Fact.below {f : Fact} {w w' : World} {v : Value} (h : f.holds v w) (hb : Below w.heap.size w w') : f.holds v w' := by
  cases f with
  | is c => exact h
  | bys l => exact Bys.below h (Nat.le_refl _) hb
  | row B l => exact Row.below h hb
  | lit B =>
    obtain ⟨g, h1, h2, h3⟩ := h
    exact ⟨g, h1, h2, by rw [hb.block g (Array.getElem?_eq_some_iff.1 h3).1]; exact h3⟩
  | any => trivial
  | sat p hp => exact hp _ _ _ h hb

theorem Fact.stays {f : Fact} {w w' : World} {v : Value} (hf : f.still = true) (h : f.holds v w) : f.holds v w' := by
  cases f <;> first | exact h | trivial | cases hf

def factsOf (l : List (Tmp × Fact)) (a : Act) (k : Tmp) : Fact := (l.lookup k).getD (.is (a.tmps.getD k undef))

def opFact (f : Tmp → Fact) : Operand → Fact
  | .tmp k => f k
  | .const v => .is v
  | .global g => .is (.pointer (some ⟨g, 0, none⟩))
  | .func n => .is (.func (.func n) #[] #[])

/-- The guard is known to say yes. -/
def guardOk (ops : Array Oper) (f : Tmp → Fact) (o : Oper) : Prop :=
  match o.guard with
  | none => True
  | some (j, b) => ∃ d, (ops[j]?).bind (·.dst) = some d ∧ f d = .is (.bool b)

theorem guard_none {ops : Array Oper} {f : Tmp → Fact} {o : Oper} (h : o.guard = none) : guardOk ops f o := by
  unfold guardOk; rw [h]; trivial

theorem guard_some {ops : Array Oper} {f : Tmp → Fact} {o : Oper} {j : Nat} {b : Bool} {d : Tmp} (h : o.guard = some (j, b)) (hd : (ops[j]?).bind (·.dst) = some d) (hf : f d = .is (.bool b)) : guardOk ops f o := by
  unfold guardOk; rw [h]; exact ⟨d, hd, hf⟩

/-- An operand's value, where it is known. -/
def opVal (f : Tmp → Fact) (s : Operand) : Value := match opFact f s with
  | .is v => v
  | _ => undef

def isIs : Fact → Bool
  | .is _ => true
  | _ => false

section
variable {P : Program} {ops : Array Oper} {tab : List (List Nat)} {fin : List Tmp} {G : World → Prop} {f : Tmp → Fact} {i : Nat} {o : Oper}

/-- What an operation may lean on. -/
def Told (ops : Array Oper) (f : Tmp → Fact) (o : Oper) (x : Tmp → Value) (W : World) : Prop := ∀ k, (o.looksAt ops).contains k = true → (f k).holds (x k) W

def Asked (P : Program) (ops : Array Oper) (tab : List (List Nat)) (fin : List Tmp) (G : World → Prop) (f : Tmp → Fact) (i : Nat) (o : Oper) : Prop :=
  asked P ops tab fin G (fun k v W => (f k).holds v W) i o

theorem guard_ok {x : Tmp → Value} {W : World} (hg : guardOk ops f o) (hk : Told ops f o x W) : wantedBy ops o x := by
  unfold guardOk at hg
  unfold wantedBy
  cases hgd : o.guard with
  | none => trivial
  | some p =>
    obtain ⟨j, b⟩ := p
    rw [hgd] at hg
    obtain ⟨d, hd, hf⟩ := hg
    refine ⟨d, hd, ?_⟩
    have h := hk d (by simp [Oper.looksAt, hgd, hd])
    rw [hf] at h
    exact h

theorem ask_grow (hG : ∀ W W', G W → Below W.heap.size W W' → G W') (hg : guardOk ops f o)
    (h : ∀ x W, G W → Told ops f o x W → gives P o x W (fun v W' => Below W.heap.size W W' ∧ ∀ k, o.dst = some k → (f k).holds v W')) : Asked P ops tab fin G f i o := by
  intro x W hW hk
  refine ⟨guard_ok hg hk, ?_⟩
  have := h x W hW hk
  unfold gives at *
  generalize (execOp (evalBy x) o).run P W = r at *
  cases r with
  | ok n w' =>
    cases n <;> simp only [givesUpon] at this ⊢
    case value v => exact ⟨hG _ _ hW this.1, fun k u _ _ hu => Fact.below hu this.1, this.2⟩
    case skip => exact ⟨hG _ _ hW this.1, fun k u _ _ hu => Fact.below hu this.1, this.2⟩
    case enter g args => exact this.mono fun e w'' ⟨v, he, h1, h2⟩ => ⟨v, he, hG _ _ hW h1, fun k u _ _ hu => Fact.below hu h1, h2⟩
  | halt x w' => simp only [givesUpon] at this

theorem ask_val (hg : guardOk ops f o) (c : Value) (hd : ∀ k, o.dst = some k → f k = .is c) (h : ∀ x W, G W → Told ops f o x W → (execOp (evalBy x) o).run P W = .ok (.value c) W) : Asked P ops tab fin G f i o := by
  intro x W hW hk
  exact ⟨guard_ok hg hk, gives_value (h x W hW hk) ⟨hW, fun k u _ _ hu => hu, fun k hk => by show (f k).holds _ _; rw [hd k hk]; rfl⟩⟩

/-- An operation that may write what no later one looks at. -/
def stillBut (ops : Array Oper) (tab : List (List Nat)) (fin : List Tmp) (f : Tmp → Fact) (i : Nat) (o : Oper) : Bool :=
  (fin ++ ops.toList.flatMap (·.looksAt ops)).all fun k => o.dst == some k || !live ops tab fin i k || (f k).still

theorem still_but (h : stillBut ops tab fin f i o = true) (k : Tmp) (hne : o.dst ≠ some k) (hl : live ops tab fin i k = true) : (f k).still = true := by
  unfold stillBut at h
  have hm : k ∈ fin ++ ops.toList.flatMap (·.looksAt ops) := by
    unfold live at hl
    rw [Bool.or_eq_true] at hl
    rcases hl with hl | hl
    · exact List.mem_append_left _ (by simpa using hl)
    · obtain ⟨j, hj, h1⟩ := List.any_eq_true.1 hl
      refine List.mem_append_right _ (List.mem_flatMap.2 ?_)
      have hjl : j < ops.size := List.mem_range.1 hj
      refine ⟨ops[j], by simp, ?_⟩
      simp only [Array.getElem?_eq_getElem hjl, Bool.and_eq_true] at h1
      simpa using h1.1.1
  have := List.all_eq_true.1 h k hm
  simpa [hl, hne] using this

theorem told_op {x : Tmp → Value} {W : World} (hk : Told ops f o x W) (s : Operand) (hs : s ∈ o.op.operands.toList) : (opFact f s).holds (evalBy x s) W := by
  cases s with
  | tmp k => exact hk k (by simp only [Oper.looksAt, List.contains_eq_mem, decide_eq_true_eq]; exact List.mem_append_left _ (List.mem_filterMap.2 ⟨_, hs, rfl⟩))
  | const v => exact rfl
  | global g => exact rfl
  | func n => exact rfl

theorem ask_copy (hg : guardOk ops f o) (s : Operand) (ho : o.op = .move s ∨ o.op = .assign s) (hd : ∀ k, o.dst = some k → f k = opFact f s) : Asked P ops tab fin G f i o := by
  intro x W hW hk
  refine ⟨guard_ok hg hk, ?_⟩
  have hs : (opFact f s).holds (evalBy x s) W := told_op hk s (by rcases ho with ho | ho <;> rw [ho] <;> simp [Op.operands])
  refine gives_value (v := evalBy x s) (w' := W) ?_ ⟨hW, fun k u _ _ hu => hu, fun k hk => by show (f k).holds _ _; rw [hd k hk]; exact hs⟩
  rcases ho with ho | ho <;> simp [execOp, ho]

/-- Every operand is known; the operation leaves the memory alone. -/
theorem ask_exec (hg : guardOk ops f o) (c : Value) (hns : (match o.op with | .select .. => false | _ => true) = true) (hk : (o.op.operands.toList.all fun s => isIs (opFact f s)) = true) (hd : ∀ k, o.dst = some k → f k = .is c)
    (hrun : ∀ W, G W → (execOp (opVal f) o).run P W = .ok (.value c) W) : Asked P ops tab fin G f i o := by
  refine ask_val hg c hd fun x W hW ht => ?_
  have e : execOp (evalBy x) o = execOp (opVal f) o := execOp_congr o (fun cs b h => by rw [h] at hns; cases hns) fun s hs => by
    have h1 := told_op ht s (by simpa using hs)
    have h2 := List.all_eq_true.1 hk s (by simpa using hs)
    unfold opVal
    cases hf : opFact f s with
    | is v => rw [hf] at h1; exact h1
    | _ => rw [hf] at h2; cases h2
  rw [e]
  exact hrun W hW

theorem evalBy_opVal {x : Tmp → Value} {W : World} (hk : Told ops f o x W) (s : Operand) (hs : s ∈ o.op.operands.toList) {v : Value} (h : opFact f s = .is v) : evalBy x s = v := by
  have h1 := told_op hk s hs
  rw [h] at h1
  exact h1

theorem ask_bin (hg : guardOk ops f o) (b : BinOp) (ty tz : TypeId) (s t : Operand) (v1 v2 c : Value) (ho : o.op = .binOp b ty s t tz) (hs : opFact f s = .is v1) (ht : opFact f t = .is v2) (hd : ∀ k, o.dst = some k → f k = .is c)
    (hrun : ∀ W, (do eqGuard b ty s t v1 v2; binOp b ty v1 v2 : Sem Value).run P W = .ok c W) : Asked P ops tab fin G f i o := by
  refine ask_val hg c hd fun x W hW hk => ?_
  have e1 := evalBy_opVal hk s (by rw [ho]; simp [Op.operands]) hs
  have e2 := evalBy_opVal hk t (by rw [ho]; simp [Op.operands]) ht
  simp only [execOp, ho, e1, e2]
  rw [Sem.run_bind, hrun W]
  rfl

theorem ask_len (hg : guardOk ops f o) (s : Operand) (t : TypeId) (a : Option Addr) (n cap : Nat) (ho : o.op = .call { callee := .builtin .len, args := #[s], argTypes := #[t] }) (ht : P.underlying t = some (.slice (P.elem t))) (hs : opFact f s = .is (.slice a n cap))
    (hd : ∀ k, o.dst = some k → f k = .is (.int .i64 n)) : Asked P ops tab fin G f i o := by
  refine ask_val hg _ hd fun x W hW hk => ?_
  have e1 := evalBy_opVal hk s (by rw [ho]; simp [Op.operands, Call.operands]) hs
  have hr := run_len_slice (P := P) W t o.type a n cap ht
  simp [execOp, ho, resolve, invoke, builtin, e1, hr, Result.andThen, goInt]

theorem ask_slice (hg : guardOk ops f o) (ty : TypeId) (s : Operand) (lo hi mx : Option Operand) (v c : Value) (lo' hi' mx' : Option Value) (ho : o.op = .slice ty s lo hi mx) (hs : opFact f s = .is v) (hlo : lo.map (opFact f) = lo'.map .is) (hhi : hi.map (opFact f) = hi'.map .is) (hmx : mx.map (opFact f) = mx'.map .is) (hd : ∀ k, o.dst = some k → f k = .is c)
    (hrun : ∀ W, (Instr.sliceAt ty v lo' hi' mx').run P W = .ok c W) : Asked P ops tab fin G f i o := by
  refine ask_val hg c hd fun x W hW hk => ?_
  have e1 := evalBy_opVal hk s (by rw [ho]; simp [Op.operands]) hs
  have hop : ∀ (y : Option Operand) (y' : Option Value), (∀ q, y = some q → q ∈ o.op.operands.toList) → y.map (opFact f) = y'.map .is → y.map (evalBy x) = y' := by
    intro y y' hq h
    cases y with
    | none => cases y' with
      | none => rfl
      | some _ => cases h
    | some q => cases y' with
      | none => cases h
      | some q' =>
        simp at h
        simp [evalBy_opVal hk q (hq q rfl) h]
  have e2 := hop lo lo' (fun q h => by rw [ho, h]; simp [Op.operands]) hlo
  have e3 := hop hi hi' (fun q h => by rw [ho, h]; simp [Op.operands]) hhi
  have e4 := hop mx mx' (fun q h => by rw [ho, h]; simp [Op.operands]) hmx
  simp only [execOp, ho, e1, e2, e3, e4]
  rw [Sem.run_bind, hrun W]
  rfl

/-- 'c && a', 'c || a' with what c is known to be. -/
theorem ask_pick (hg : guardOk ops f o) (c a b : Operand) (t : Bool) (ho : o.op = .pick c a b) (hc : opFact f c = .is (.bool t)) (hd : ∀ k, o.dst = some k → f k = opFact f (if t then a else b)) : Asked P ops tab fin G f i o := by
  intro x W hW hk
  refine ⟨guard_ok hg hk, ?_⟩
  have h1 : evalBy x c = .bool t := by
    have := told_op hk c (by rw [ho]; simp [Op.operands])
    rw [hc] at this
    exact this
  have hs : (opFact f (if t then a else b)).holds (evalBy x (if t then a else b)) W := told_op hk _ (by rw [ho]; cases t <;> simp [Op.operands])
  refine gives_value (v := evalBy x (if t then a else b)) (w' := W) ?_ ⟨hW, fun k u _ _ hu => hu, fun k hk => by show (f k).holds _ _; rw [hd k hk]; exact hs⟩
  cases t <;> simp [execOp, ho, h1, asBool]

theorem range_one : Array.range 1 = #[0] := by apply Array.ext'; simp [List.range_succ]

theorem size_byte (w : World) : (Go.sizeOf 5).run Tryd.prog w = .ok 1 w := by kernel_rfl

theorem elem_bytes : Tryd.prog.elem 22 = 5 := by kernel_rfl

/-- A call of a Go function, met by its contract. -/
theorem ask_call (hG : ∀ W W', G W → Below W.heap.size W W' → G W') (hg : guardOk ops f o) (n : FuncId) (ss : Array Operand) (ts : Array TypeId) (args : Array Value) (fd : Fact)
    (ho : o.op = .call { callee := .value (.func n), args := ss, argTypes := ts }) (hfn : ((P.funcs[n]?).map fun fn => (fn.name == "runtime.NumGoroutine", fn.body.isNone)) = some (false, false))
    (hk : (ss.toList.all fun s => isIs (opFact f s)) = true) (hargs : ss.toList.map (opVal f) = args.toList) (hd : ∀ k, o.dst = some k → f k = fd)
    (h : ∀ W, G W → Calls P n args W fun e W' => ∃ v, e = .returned v ∧ fd.holds v W' ∧ Below W.heap.size W W') : Asked P ops tab fin G f i o := by
  refine ask_grow hG hg fun x W hW ht => ?_
  have ea : ss.map (evalBy x) = args := by
    have hargs' : ss.map (opVal f) = args := by
      apply Array.toList_inj.1
      rw [Array.toList_map, hargs]
    rw [← hargs']
    refine Array.map_congr_left fun s hs => ?_
    have h1 := told_op ht s (by rw [ho]; simp [Op.operands, Call.operands, hs])
    have h2 := List.all_eq_true.1 hk s (by simpa using hs)
    unfold opVal
    cases hf : opFact f s with
    | is v => rw [hf] at h1; exact h1
    | _ => rw [hf] at h2; cases h2
  refine gives_enter (f := n) (args := args) (w' := W) ?_ ((h W hW).mono fun e W' ⟨v, h1, h2, h3⟩ => ⟨v, h1, h3, fun k hk => by rw [hd k hk]; exact h2⟩)
  obtain ⟨fn, hf, hp⟩ := Option.map_eq_some_iff.1 hfn
  simp only [Prod.mk.injEq] at hp
  have e : execOp (evalBy x) o = callFunc n (#[] ++ ss.map (evalBy x) ++ #[]) := by
    obtain ⟨dst, op, type, pos, after, guard⟩ := o
    simp only at ho
    subst ho
    rfl
  rw [e, ea]
  have h1 : fn.name ≠ "runtime.NumGoroutine" := by simpa using hp.1
  have h2 : fn.body ≠ none := by intro hh; have := hp.2; rw [hh] at this; cases this
  simp [callFunc, hf, h1, h2]

def AskedAll (P : Program) (ops : Array Oper) (tab : List (List Nat)) (fin : List Tmp) (G : World → Prop) (f : Tmp → Fact) : Nat → List Oper → Prop
  | _, [] => True
  | i, o :: r => Asked P ops tab fin G f i o ∧ AskedAll P ops tab fin G f (i + 1) r

theorem asked_of_all : ∀ (l : List Oper) (n : Nat), AskedAll P ops tab fin G f n l → ∀ (i : Nat) (o : Oper), l[i]? = some o → Asked P ops tab fin G f (n + i) o
  | [], _, _, i, o, h => by simp at h
  | _ :: r, n, h, 0, o, hi => by
    simp at hi
    subst hi
    exact h.1
  | _ :: r, n, h, i + 1, o, hi => by
    have := asked_of_all r (n + 1) h.2 i o (by simpa using hi)
    rwa [show n + (i + 1) = n + 1 + i by omega]

end

/-- A region by its facts: those of slots that it writes are listed; the others are as they stand. -/
theorem region_by {P : Program} {ops : Array Oper} {id : Nat} {a : Act} {w : World} {Q : Exit → Act → World → Prop} (l : List (Tmp × Fact)) (fin : List Tmp) (G : World → Prop)
    (hm : P.follows .mixedOrders = true) (hs : sound ops = true) (ht : tableOk ops (table ops) = true) (hd : (ops.all fun o => (o.dst.map fun d => decide (d < a.tmps.size)).getD true) = true)
    (hl : (l.all fun p => ops.any fun o => o.dst == some p.1) = true) (hG : G w.drew)
    (hops : AskedAll P ops (table ops) fin G (factsOf l a) 0 ops.toList)
    (hend : ∀ a' W, G W → a'.defers = a.defers → a'.tmps.size = a.tmps.size → (∀ k, fin.contains k = true → (factsOf l a k).holds (a'.tmps.getD k undef) W) → Q .normal a' W) : (Code.region id ops true).wp P Q a w := by
  refine wp_region_facts (table ops) fin G (fun k v W => (factsOf l a k).holds v W) hm hs ht hd hG (fun k => ?_) (fun i o hi => ?_) hend
  · cases hk : l.lookup k with
    | none => left; simp [factsOf, hk, Fact.holds]
    | some fk =>
      right
      have hmem : (k, fk) ∈ l := by
        clear hl hops hend
        induction l with
        | nil => simp at hk
        | cons p l ih =>
          obtain ⟨p1, p2⟩ := p
          rw [List.lookup_cons] at hk
          by_cases hkp : (k == p1) = true
          · rw [hkp] at hk
            simp at hk hkp
            subst hk hkp
            simp
          · simp only [hkp] at hk
            exact List.mem_cons_of_mem _ (ih hk)
      exact List.all_eq_true.1 hl _ hmem
  · have := asked_of_all ops.toList 0 hops i o (by simpa using hi)
    rwa [Nat.zero_add] at this

/-- An operation that looks at one operand that is known. -/
theorem ask_read {P : Program} {ops : Array Oper} {tab : List (List Nat)} {fin : List Tmp} {K : World → Prop} {f : Tmp → Fact} {i : Nat} {o : Oper} (hg : guardOk ops f o) (s : Operand) (v c : Value) (hs : opFact f s = .is v) (hmem : s ∈ o.op.operands.toList) (hd : ∀ k, o.dst = some k → f k = .is c)
    (h : ∀ (x : Tmp → Value) W, K W → evalBy x s = v → (execOp (evalBy x) o).run P W = .ok (.value c) W) : Asked P ops tab fin K f i o :=
  ask_val hg c hd fun x W hW hk => h x W hW (evalBy_opVal hk s hmem hs)

/-- A frame laid open. -/
theorem act_open (n : Nat) (b : Act) (hs : b.tmps.size = n) (hd : b.defers = []) : ∃ us : Nat → Value, (∀ i, us i = b.tmps.getD i undef) ∧ b = ⟨((List.range n).map us).toArray, []⟩ := by
  refine ⟨fun i => b.tmps.getD i undef, fun _ => rfl, ?_⟩
  obtain ⟨tmps, defers⟩ := b
  simp only at hs hd
  subst hd
  congr 1
  apply Array.ext
  · simp [hs]
  · intro i h1 h2
    simp [Array.getD, h1]

end Go.Proofs.YtdhfabjkpffhnaaDoor

