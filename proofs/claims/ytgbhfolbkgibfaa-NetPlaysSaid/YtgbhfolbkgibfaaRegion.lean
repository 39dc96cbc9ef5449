/- A region that draws its order, whose operations only add to the memory: each operation has a fact about its value that stays true while the memory grows; whatever the order, all facts hold at the end. -/
import Derived.WalkKit
namespace Go.Proofs.Ytgbhfolbkgibfaa.Reg
set_option maxRecDepth 20000
open Go

/-- What an operand is, the slots given as a function. -/
def evalBy (x : Tmp → Value) : Operand → Value
  | .tmp t => x t
  | .const v => v
  | .global g => .pointer (some ⟨g, 0, none⟩)
  | .func f => .func (.func f) #[] #[]

theorem evalBy_eq (a : Act) : a.eval = evalBy (fun t => a.tmps.getD t undef) := by
  funext o; cases o <;> rfl

/-- The operation's run ends with a value of which R holds in the world that it leaves. -/
def givesUpon (P : Program) (R : Value → World → Prop) : Result Next → Prop
  | .ok (.value v) w' => R v w'
  | .ok .skip w' => R undef w'
  | .ok (.enter f args) w' => Calls P f args w' (fun e w'' => ∃ v, e = .returned v ∧ R v w'')
  | _ => False

def gives (P : Program) (o : Oper) (x : Tmp → Value) (w : World) (R : Value → World → Prop) : Prop := givesUpon P R ((execOp (evalBy x) o).run P w)

theorem gives_value {P : Program} {o : Oper} {x : Tmp → Value} {w w' : World} {R : Value → World → Prop} {v : Value} (h : (execOp (evalBy x) o).run P w = .ok (.value v) w') (hR : R v w') : gives P o x w R := by
  unfold gives; rw [h]; exact hR

theorem gives_enter {P : Program} {o : Oper} {x : Tmp → Value} {w w' : World} {R : Value → World → Prop} {f : FuncId} {args : Array Value} (h : (execOp (evalBy x) o).run P w = .ok (.enter f args) w') (hR : Calls P f args w' (fun e w'' => ∃ v, e = .returned v ∧ R v w'')) : gives P o x w R := by
  unfold gives; rw [h]; exact hR

theorem wp_of_gives {P : Program} {o : Oper} {a : Act} {w : World} {R : Value → World → Prop} {K : Act → World → Prop} {Q : Exit → Act → World → Prop}
    (h : gives P o (fun t => a.tmps.getD t undef) w R) (hK : ∀ v w', R v w' → K (a.put o.dst v) w') : o.wp P a w K Q := by
  unfold gives at h
  rw [← evalBy_eq] at h
  unfold Oper.wp
  generalize (execOp a.eval o).run P w = r at *
  cases r with
  | ok n w' =>
    cases n <;> simp only [givesUpon] at h <;> simp only [Oper.upon]
    case value u => exact hK _ _ h
    case skip => exact hK _ _ h
    case enter f args => exact h.mono fun e w'' ⟨v, he, hv⟩ => by subst he; exact hK _ _ hv
  | halt x w' => simp only [givesUpon] at h

/-- Slot k is written by no operation that is still to come. -/
def known (ops : Array Oper) (listed : Array Bool) (k : Tmp) : Prop := ∀ (i : Nat) (o : Oper), ops[i]? = some o → o.dst = some k → listed.getD i false = true

/-- Every operation waits for those whose values it looks at; every edge leads back. -/
def sound (ops : Array Oper) : Bool :=
  (List.range ops.size).all fun i => match ops[i]? with
    | none => true
    | some o => (o.after.all fun e => !Region.binds .any e || decide (e.on < i)) &&
        (o.looksAt ops).all fun k => (List.range ops.size).all fun j => match ops[j]? with
          | none => true
          | some o' => o'.dst != some k || o.after.any fun e => Region.binds .any e && e.on == j

/-- The guard, the slots given as a function. -/
def wantedBy (ops : Array Oper) (o : Oper) (x : Tmp → Value) : Prop :=
  match o.guard with
  | none => True
  | some (j, want) => ∃ d, (ops[j]?).bind (·.dst) = some d ∧ x d = .bool want

/-- The operations that one waits for, directly. -/
def preds (ops : Array Oper) (i : Nat) : List Nat := match ops[i]? with
  | some o => (o.after.toList.filter (Region.binds .any)).map (·.on)
  | none => []

/-- All that each operation waits for, through whatever chain: a table, and the look whether it is no more than that. -/
def table (ops : Array Oper) : List (List Nat) :=
  (List.range ops.size).foldl (fun acc i => acc ++ [((preds ops i) ++ (preds ops i).flatMap fun m => acc.getD m []).eraseDups]) []

def tableOk (ops : Array Oper) (tab : List (List Nat)) : Bool :=
  (List.range ops.size).all fun i => (tab.getD i []).all fun j => (preds ops i).contains j || (preds ops i).any fun m => decide (m < i) && (tab.getD m []).contains j

/-- Behind operation i the value in slot k may still be looked at: it is wanted at the end, or by an operation that i doesn't wait for. -/
def live (ops : Array Oper) (tab : List (List Nat)) (fin : List Tmp) (i : Nat) (k : Tmp) : Bool :=
  fin.contains k || (List.range ops.size).any fun j => match ops[j]? with
    | some o => (o.looksAt ops).contains k && !(j == i) && !(tab.getD i []).contains j
    | none => false

/-- What is asked of one operation. -/
def asked (P : Program) (ops : Array Oper) (tab : List (List Nat)) (fin : List Tmp) (G : World → Prop) (F : Tmp → Value → World → Prop) (i : Nat) (o : Oper) : Prop :=
  ∀ (x : Tmp → Value) (W : World), G W → (∀ k, (o.looksAt ops).contains k = true → F k (x k) W) →
    wantedBy ops o x ∧ gives P o x W (fun v W' => G W' ∧ (∀ k u, o.dst ≠ some k → live ops tab fin i k = true → F k u W → F k u W') ∧ ∀ k, o.dst = some k → F k v W')

/-- A slot's value is still wanted. -/
def wantedStill (ops : Array Oper) (fin : List Tmp) (listed : Array Bool) (k : Tmp) : Prop :=
  fin.contains k = true ∨ ∃ (j : Nat) (o : Oper), ops[j]? = some o ∧ (o.looksAt ops).contains k = true ∧ listed.getD j false = false

structure Inv (ops : Array Oper) (fin : List Tmp) (G : World → Prop) (F : Tmp → Value → World → Prop) (a0 : Act) (listed : Array Bool) (a : Act) (W : World) : Prop where
  grown : G W
  defers : a.defers = a0.defers
  size : a.tmps.size = a0.tmps.size
  lsize : listed.size = ops.size
  down : ∀ (i : Nat) (o : Oper), ops[i]? = some o → listed.getD i false = true → ∀ j ∈ preds ops i, listed.getD j false = true
  facts : ∀ k, known ops listed k → wantedStill ops fin listed k → F k (a.tmps.getD k undef) W

theorem mem_set {listed : Array Bool} {i j : Nat} (h : (listed.setIfInBounds i true).getD j false = true) : j = i ∨ listed.getD j false = true := by
  by_cases hij : j = i
  · exact .inl hij
  · right
    rw [Array.getD_eq_getD_getElem?, Array.getElem?_setIfInBounds_ne (Ne.symm hij), ← Array.getD_eq_getD_getElem?] at h
    exact h

theorem set_mem {listed : Array Bool} {i j : Nat} (h : listed.getD j false = true) : (listed.setIfInBounds i true).getD j false = true := by
  by_cases hij : i = j
  · subst hij
    have hlt : i < listed.size := by
      rcases Nat.lt_or_ge i listed.size with h1 | h1
      · exact h1
      · rw [Array.getD_eq_getD_getElem?, Array.getElem?_eq_none h1] at h; cases h
    rw [Array.getD_eq_getD_getElem?, Array.getElem?_setIfInBounds_self_of_lt hlt]; rfl
  · rw [Array.getD_eq_getD_getElem?, Array.getElem?_setIfInBounds_ne hij, ← Array.getD_eq_getD_getElem?]
    exact h

theorem set_self {listed : Array Bool} {i : Nat} (hlt : i < listed.size) : (listed.setIfInBounds i true).getD i false = true := by
  rw [Array.getD_eq_getD_getElem?, Array.getElem?_setIfInBounds_self_of_lt hlt]; rfl

theorem mem_preds {ops : Array Oper} {i : Nat} {o : Oper} (hi : ops[i]? = some o) {j : Nat} : j ∈ preds ops i ↔ ∃ e ∈ o.after, Region.binds .any e = true ∧ e.on = j := by
  unfold preds
  rw [hi]
  simp only [List.mem_map, List.mem_filter, Array.mem_toList_iff]
  constructor
  · rintro ⟨e, ⟨h1, h2⟩, h3⟩; exact ⟨e, h1, h2, h3⟩
  · rintro ⟨e, h1, h2, h3⟩; exact ⟨e, ⟨h1, h2⟩, h3⟩

/-- Whatever an operation waits for through a chain is listed, once its direct ones are. -/
theorem table_listed {ops : Array Oper} {tab : List (List Nat)} (ht : tableOk ops tab = true) {listed : Array Bool}
    (hdown : ∀ (i : Nat) (o : Oper), ops[i]? = some o → listed.getD i false = true → ∀ j ∈ preds ops i, listed.getD j false = true) :
    ∀ (i : Nat), i < ops.size → (∀ j ∈ preds ops i, listed.getD j false = true) → ∀ j ∈ tab.getD i [], listed.getD j false = true := by
  intro i
  induction i using Nat.strongRecOn with
  | ind i ih =>
    intro hi hp j hj
    unfold tableOk at ht
    have h1 := List.all_eq_true.1 ht i (List.mem_range.2 hi)
    have h2 := List.all_eq_true.1 h1 j hj
    rw [Bool.or_eq_true] at h2
    rcases h2 with h2 | h2
    · exact hp j (by simpa using h2)
    · obtain ⟨m, hm, h3⟩ := List.any_eq_true.1 h2
      simp only [Bool.and_eq_true, decide_eq_true_eq] at h3
      have hml : m < ops.size := by omega
      exact ih m h3.1 hml (hdown m ops[m] (by simp [hml]) (hp m hm)) j (by simpa using h3.2)

theorem inv_step {ops : Array Oper} {tab : List (List Nat)} {fin : List Tmp} {G : World → Prop} {F : Tmp → Value → World → Prop} {a0 a : Act} {listed : Array Bool} {W W' : World} {i : Nat} {o : Oper} {v : Value}
    (ht : tableOk ops tab = true) (h : Inv ops fin G F a0 listed a W) (hi : ops[i]? = some o) (hp : ∀ j ∈ preds ops i, listed.getD j false = true) (hd : ∀ d, o.dst = some d → d < a0.tmps.size) (hG : G W')
    (hm : ∀ k u, o.dst ≠ some k → live ops tab fin i k = true → F k u W → F k u W') (hv : ∀ k, o.dst = some k → F k v W') :
    Inv ops fin G F a0 (listed.setIfInBounds i true) (a.put o.dst v) W' := by
  have hil : i < ops.size := (Array.getElem?_eq_some_iff.1 hi).1
  refine ⟨hG, ?_, ?_, by simpa using h.lsize, ?_, ?_⟩
  · cases hdst : o.dst <;> simp [Act.put, h.defers]
  · cases hdst : o.dst <;> simp [Act.put, h.size]
  · intro j oj hj hlj m hmj
    rcases mem_set hlj with rfl | hlj
    · exact set_mem (hp m hmj)
    · exact set_mem (h.down j oj hj hlj m hmj)
  · intro k hk hw
    by_cases hkd : o.dst = some k
    · have := hv k hkd
      have hlt : k < a.tmps.size := by rw [h.size]; exact hd k hkd
      rw [hkd]
      simp only [Act.put, Array.getD_eq_getD_getElem?, Array.getElem?_setIfInBounds_self_of_lt hlt, Option.getD_some]
      exact this
    · have e : (a.put o.dst v).tmps.getD k undef = a.tmps.getD k undef := by
        cases hdst : o.dst with
        | none => rfl
        | some d =>
          have : d ≠ k := fun e => hkd (by rw [hdst, e])
          simp only [Act.put, Array.getD_eq_getD_getElem?, Array.getElem?_setIfInBounds_ne this]
      rw [e]
      have hlive : live ops tab fin i k = true := by
        unfold live
        rw [Bool.or_eq_true]
        rcases hw with hw | ⟨j, oj, hj, hl, hun⟩
        · exact .inl hw
        · right
          refine List.any_eq_true.2 ⟨j, List.mem_range.2 (Array.getElem?_eq_some_iff.1 hj).1, ?_⟩
          have hji : j ≠ i := by
            rintro rfl
            rw [set_self (by rw [h.lsize]; exact hil)] at hun
            cases hun
          have hjt : (tab.getD i []).contains j = false := by
            cases hq : (tab.getD i []).contains j with
            | false => rfl
            | true =>
              have h1 := table_listed ht h.down i hil hp j (by simpa using hq)
              rw [set_mem h1] at hun
              cases hun
          have hji' : (j == i) = false := by simpa using hji
          simp only [hj, hl, hjt, hji', Bool.not_false, Bool.and_self]
      refine hm _ _ hkd hlive (h.facts k (fun j oj hj hdj => ?_) ?_)
      · rcases mem_set (hk j oj hj hdj) with rfl | h2
        · rw [hi] at hj
          cases hj
          exact absurd hdj hkd
        · exact h2
      · rcases hw with hw | ⟨j, oj, hj, hl, hun⟩
        · exact .inl hw
        · refine .inr ⟨j, oj, hj, hl, ?_⟩
          cases hq : listed.getD j false with
          | false => rfl
          | true => rw [set_mem hq] at hun; cases hun

theorem sound_edge {ops : Array Oper} (h : sound ops = true) {i : Nat} {o : Oper} (hi : ops[i]? = some o) : (∀ e ∈ o.after, Region.binds .any e = true → e.on < i) ∧
    ∀ k ∈ o.looksAt ops, ∀ j o', ops[j]? = some o' → o'.dst = some k → ∃ e ∈ o.after, Region.binds .any e = true ∧ e.on = j := by
  unfold sound at h
  rw [List.all_eq_true] at h
  have hlt : i < ops.size := (Array.getElem?_eq_some_iff.1 hi).1
  have h1 := h i (List.mem_range.2 hlt)
  simp only [hi, Bool.and_eq_true, List.all_eq_true, List.mem_range] at h1
  obtain ⟨h2, h3⟩ := h1
  refine ⟨fun e he hb => ?_, fun k hk j o' hj hd => ?_⟩
  · have := Array.all_eq_true_iff_forall_mem.1 h2 e he
    simpa [hb] using this
  · have := h3 k hk j (Array.getElem?_eq_some_iff.1 hj).1
    simp only [hj, hd, bne_self_eq_false, Bool.false_or] at this
    obtain ⟨e, he, h4⟩ := Array.any_eq_true'.1 this
    simp only [Bool.and_eq_true, beq_iff_eq] at h4
    exact ⟨e, he, h4.1, h4.2⟩

theorem wanted_of {ops : Array Oper} {o : Oper} {a : Act} (h : wantedBy ops o (fun t => a.tmps.getD t undef)) : Region.wanted o (yielded ops a.tmps) = true := by
  unfold wantedBy at h
  unfold Region.wanted
  cases hg : o.guard with
  | none => rfl
  | some p =>
    obtain ⟨j, want⟩ := p
    rw [hg] at h
    obtain ⟨d, hd, hx⟩ := h
    have : a.tmps[d]? = some (.bool want) := by
      have hx : a.tmps.getD d undef = .bool want := hx
      rw [Array.getD_eq_getD_getElem?] at hx
      cases hq : a.tmps[d]? with
      | none => rw [hq] at hx; simp [undef] at hx
      | some u => rw [hq] at hx; simpa using hx
    simp [yielded, hd, this]

/-- How many have not come up. -/
def left (listed : Array Bool) : Nat := (listed.toList.filter (!·)).length

theorem count_set (l : List Bool) : ∀ i, l[i]? = some false → ((l.set i true).filter (!·)).length + 1 = (l.filter (!·)).length := by
  induction l with
  | nil => intro i h; simp at h
  | cons b l ih =>
    intro i h
    cases i with
    | zero => simp at h; subst h; simp
    | succ i =>
      have := ih i (by simpa using h)
      cases b <;> simp at this ⊢ <;> omega

theorem left_set {listed : Array Bool} {i : Nat} (h : listed.getD i true = false) : left (listed.setIfInBounds i true) + 1 = left listed := by
  have hi : i < listed.size := by
    rcases Nat.lt_or_ge i listed.size with h1 | h1
    · exact h1
    · rw [Array.getD_eq_getD_getElem?, Array.getElem?_eq_none h1] at h; cases h
  unfold left
  rw [Array.toList_setIfInBounds]
  refine count_set _ _ ?_
  rw [Array.getD_eq_getD_getElem?, Array.getElem?_eq_getElem hi] at h
  simp [hi]
  simpa using h

/-- Where nothing may come up all has come up: the least that has not could. -/
theorem all_listed {ops : Array Oper} (hs : sound ops = true) {listed : Array Bool} (hl : listed.size = ops.size) (hr : Region.ready .any ops listed = []) : ∀ i, i < ops.size → listed.getD i false = true := by
  intro i
  induction i using Nat.strongRecOn with
  | ind i ih =>
    intro hi
    cases hq : listed.getD i false with
    | true => rfl
    | false =>
      exfalso
      have hm : i ∈ Region.ready .any ops listed := by
        rw [mem_ready]
        refine ⟨?_, ops[i], by simp [hi], fun e he hb => ?_⟩
        · rw [Array.getD_eq_getD_getElem?, Array.getElem?_eq_getElem (by omega)] at hq ⊢
          exact hq
        · have := (sound_edge hs (show ops[i]? = some ops[i] by simp [hi])).1 e he hb
          exact ih e.on this (by omega)
      rw [hr] at hm
      cases hm

theorem any_of_inv {P : Program} {ops : Array Oper} {tab : List (List Nat)} {fin : List Tmp} {G : World → Prop} {F : Tmp → Value → World → Prop} {a0 : Act} {Q : Exit → Act → World → Prop} (hs : sound ops = true) (ht : tableOk ops tab = true)
    (hd : ∀ (i : Nat) (o : Oper), ops[i]? = some o → ∀ d, o.dst = some d → d < a0.tmps.size)
    (hops : ∀ (i : Nat) (o : Oper), ops[i]? = some o → asked P ops tab fin G F i o)
    (hend : ∀ a W, G W → a.defers = a0.defers → a.tmps.size = a0.tmps.size → (∀ k, fin.contains k = true → F k (a.tmps.getD k undef) W) → Q .normal a W) :
    ∀ (fuel : Nat) (listed : Array Bool) (a : Act) (W : World), left listed ≤ fuel → Inv ops fin G F a0 listed a W → wpAny P .any ops Q fuel listed a W := by
  have done : ∀ (listed : Array Bool) (a : Act) (W : World), Inv ops fin G F a0 listed a W → Region.ready .any ops listed = [] → Q .normal a W := fun listed a W h hr =>
    hend a W h.grown h.defers h.size fun k hk => h.facts k (fun i o hi _ => all_listed hs h.lsize hr i (Array.getElem?_eq_some_iff.1 hi).1) (.inl hk)
  intro fuel
  induction fuel with
  | zero =>
    intro listed a W hf h
    have hr : Region.ready .any ops listed = [] := by
      cases hq : Region.ready .any ops listed with
      | nil => rfl
      | cons j js =>
        have hj : j ∈ Region.ready .any ops listed := by rw [hq]; simp
        have := left_set (mem_ready.1 hj).1
        omega
    exact ⟨hr, done listed a W h hr⟩
  | succ fuel ih =>
    intro listed a W hf h
    refine ⟨fun hr => done listed a W h hr, fun i hi => ?_⟩
    obtain ⟨hun, o, ho, hall⟩ := mem_ready.1 hi
    have hil : i < ops.size := (Array.getElem?_eq_some_iff.1 ho).1
    have hun' : listed.getD i false = false := by
      rw [Array.getD_eq_getD_getElem?, Array.getElem?_eq_getElem (by rw [h.lsize]; exact hil)] at hun ⊢
      exact hun
    have hsd := sound_edge hs ho
    have hp : ∀ j ∈ preds ops i, listed.getD j false = true := fun j hj => by
      obtain ⟨e, he, hb, rfl⟩ := (mem_preds ho).1 hj
      exact hall e he hb
    have hF : ∀ k, (o.looksAt ops).contains k = true → F k (a.tmps.getD k undef) W := fun k hk => h.facts k (fun j oj hj hdj => by
      obtain ⟨e, he, hb, rfl⟩ := hsd.2 k (by simpa using hk) j oj hj hdj
      exact hall e he hb) (.inr ⟨i, o, ho, hk, hun'⟩)
    obtain ⟨hw, hg⟩ := hops i o ho (fun t => a.tmps.getD t undef) W h.grown hF
    unfold wpOp
    simp only [ho, wanted_of hw, if_true]
    refine .inl (wp_of_gives hg fun v w' ⟨h1, h2, h3⟩ => ih _ _ _ ?_ (inv_step ht h ho hp (hd i o ho) h1 h2 h3))
    have := left_set hun
    omega

/-- **A REGION BY ITS FACTS.** -/
theorem wp_region_facts {P : Program} {ops : Array Oper} {id : Nat} {a : Act} {w : World} {Q : Exit → Act → World → Prop} (tab : List (List Nat)) (fin : List Tmp) (G : World → Prop) (F : Tmp → Value → World → Prop)
    (hm : P.follows .mixedOrders = true) (hs : sound ops = true) (ht : tableOk ops tab = true) (hd : (ops.all fun o => (o.dst.map fun d => decide (d < a.tmps.size)).getD true) = true)
    (hG : G w.drew) (h0 : ∀ k, F k (a.tmps.getD k undef) w.drew ∨ (ops.any fun o => o.dst == some k) = true)
    (hops : ∀ (i : Nat) (o : Oper), ops[i]? = some o → asked P ops tab fin G F i o)
    (hend : ∀ a' W, G W → a'.defers = a.defers → a'.tmps.size = a.tmps.size → (∀ k, fin.contains k = true → F k (a'.tmps.getD k undef) W) → Q .normal a' W) : (Code.region id ops true).wp P Q a w := by
  refine wp_region_any hm (any_of_inv (tab := tab) (fin := fin) (G := G) (F := F) (a0 := a) hs ht ?_ hops hend _ _ _ _ ?_ ?_)
  · intro i o hi d hdst
    have := Array.all_eq_true_iff_forall_mem.1 hd o (Array.mem_of_getElem? hi)
    simpa [hdst] using this
  · unfold left
    refine Nat.le_trans (List.length_filter_le _ _) (by simp)
  · refine ⟨hG, rfl, rfl, by simp, fun i o hi hl => ?_, fun k hk _ => ?_⟩
    · rw [Array.getD_eq_getD_getElem?] at hl
      simp [Array.getElem?_replicate] at hl
      split at hl <;> simp at hl
    · rcases h0 k with h | h
      · exact h
      · obtain ⟨o, ho, hdst⟩ := Array.any_eq_true'.1 h
        obtain ⟨i, hi⟩ := Array.mem_iff_getElem?.1 ho
        have := hk i o hi (by simpa using hdst)
        rw [Array.getD_eq_getD_getElem?] at this
        simp [Array.getElem?_replicate] at this
        split at this <;> simp at this

end Go.Proofs.Ytgbhfolbkgibfaa.Reg
