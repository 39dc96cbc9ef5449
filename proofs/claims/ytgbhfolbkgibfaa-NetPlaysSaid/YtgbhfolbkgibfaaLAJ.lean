/- Joined: Late, Skip, BaseLast, CmdKit, CmdRead. -/
import Derived.Test.YtgbhfolbkgibfaaLAI
import Derived.Test.YtgbhfolbkgibfaaLAH
import Derived.Test.YtgbhfolbkgibfaaLAA
import Derived.Test.YtgbhfolbkgibfaaBinLen
import Derived.Test.YtgbhfolbkgibfaaLAB
import Derived.Test.YtgbhfolbkgibfaaLAD
import Derived.Test.YtgbhfolbkgibfaaLAE
import Derived.Test.YtgbhfolbkgibfaaLAF
import Derived.Test.YtgbhfolbkgibfaaRegion
import Derived.BigQuiet
import Derived.JoinedCond
import Derived.Deep.QuietTactic
/- As XLast; an operation need not keep what a later one makes: what it writes may lie where a slot's value will lie that waits for it ('append(append(append(..)))'). -/
namespace Go.Proofs.Ytgbhfolbkgibfaa
set_option maxRecDepth 20000
open Go.RowKit Reg

namespace Reg
/-- The writer of slot k waits for operation i. -/
def late (ops : Array Oper) (tab : List (List Nat)) (i : Nat) (k : Tmp) : Bool := (List.range ops.size).any fun j => match ops[j]? with
  | some o => o.dst == some k && (tab.getD j []).contains i
  | none => false
def live2 (ops : Array Oper) (tab : List (List Nat)) (fin : List Tmp) (i : Nat) (k : Tmp) : Bool := live ops tab fin i k && !late ops tab i k

def asked2 (P : Program) (ops : Array Oper) (tab : List (List Nat)) (fin : List Tmp) (G : World → Prop) (F : Tmp → Value → World → Prop) (i : Nat) (o : Oper) : Prop :=
  ∀ (x : Tmp → Value) (W : World), G W → (∀ k, (o.looksAt ops).contains k = true → F k (x k) W) →
    wantedBy ops o x ∧ gives P o x W (fun v W' => G W' ∧ (∀ k u, o.dst ≠ some k → live2 ops tab fin i k = true → F k u W → F k u W') ∧ ∀ k, o.dst = some k → F k v W')

theorem gives_imp {P : Program} {o : Oper} {x : Tmp → Value} {w : World} {R R' : Value → World → Prop} (h : gives P o x w R) (hi : ∀ v w', R v w' → R' v w') : gives P o x w R' := by
  unfold gives at *
  generalize (execOp (evalBy x) o).run P w = r at *
  cases r with
  | ok n w' =>
    cases n <;> simp only [givesUpon] at h ⊢
    case value v => exact hi _ _ h
    case skip => exact hi _ _ h
    case enter g args => exact h.mono fun e w'' ⟨v, he, h1⟩ => ⟨v, he, hi _ _ h1⟩
  | halt x w' => simp only [givesUpon] at h

theorem inv_step2 {ops : Array Oper} {tab : List (List Nat)} {fin : List Tmp} {G : World → Prop} {F : Tmp → Value → World → Prop} {a0 a : Act} {listed : Array Bool} {W W' : World} {i : Nat} {o : Oper} {v : Value}
    (ht : tableOk ops tab = true) (h : Inv ops fin G F a0 listed a W) (hi : ops[i]? = some o) (hp : ∀ j ∈ preds ops i, listed.getD j false = true) (hd : ∀ d, o.dst = some d → d < a0.tmps.size) (hG : G W')
    (hun : listed.getD i false = false) (hm : ∀ k u, o.dst ≠ some k → live2 ops tab fin i k = true → F k u W → F k u W') (hv : ∀ k, o.dst = some k → F k v W') :
    Inv ops fin G F a0 (listed.setIfInBounds i true) (a.put o.dst v) W' := by
  have hil : i < ops.size := (Array.getElem?_eq_some_iff.1 hi).1
  refine ⟨hG, ?_, ?_, by simpa using h.lsize, ?_, ?_⟩
  · cases hdst : o.dst <;> simp [Act.put, h.defers]
  · cases hdst : o.dst <;> simp [Act.put, h.size]
  · intro j oj hj hlj m hmj
    rcases mem_set hlj with rfl | hlj
    · exact set_mem (hp m hmj)
    · exact set_mem (h.down j oj hj hlj m hmj)
  · intro k hk hw
    by_cases hkd : o.dst = some k
    · have := hv k hkd
      have hlt : k < a.tmps.size := by rw [h.size]; exact hd k hkd
      rw [hkd]
      simp only [Act.put, Array.getD_eq_getD_getElem?, Array.getElem?_setIfInBounds_self_of_lt hlt, Option.getD_some]
      exact this
    · have e : (a.put o.dst v).tmps.getD k undef = a.tmps.getD k undef := by
        cases hdst : o.dst with
        | none => rfl
        | some d =>
          have : d ≠ k := fun e => hkd (by rw [hdst, e])
          simp only [Act.put, Array.getD_eq_getD_getElem?, Array.getElem?_setIfInBounds_ne this]
      rw [e]
      have hlive : live ops tab fin i k = true := by
        unfold live
        rw [Bool.or_eq_true]
        rcases hw with hw | ⟨j, oj, hj, hl, hun⟩
        · exact .inl hw
        · right
          refine List.any_eq_true.2 ⟨j, List.mem_range.2 (Array.getElem?_eq_some_iff.1 hj).1, ?_⟩
          have hji : j ≠ i := by
            rintro rfl
            rw [set_self (by rw [h.lsize]; exact hil)] at hun
            cases hun
          have hjt : (tab.getD i []).contains j = false := by
            cases hq : (tab.getD i []).contains j with
            | false => rfl
            | true =>
              have h1 := table_listed ht h.down i hil hp j (by simpa using hq)
              rw [set_mem h1] at hun
              cases hun
          have hji' : (j == i) = false := by simpa using hji
          simp only [hj, hl, hjt, hji', Bool.not_false, Bool.and_self]
      have hlive2 : live2 ops tab fin i k = true := by
        unfold live2
        rw [hlive, Bool.true_and, Bool.not_eq_true', Bool.eq_false_iff]
        intro hl
        unfold late at hl
        obtain ⟨j, hj, hl⟩ := List.any_eq_true.1 hl
        have hjl : j < ops.size := List.mem_range.1 hj
        simp only [Array.getElem?_eq_getElem hjl, Bool.and_eq_true, beq_iff_eq] at hl
        have hoj : ops[j]? = some ops[j] := Array.getElem?_eq_getElem hjl
        have hlj : listed.getD j false = true := by
          rcases mem_set (hk j _ hoj hl.1) with rfl | h2
          · rw [hi] at hoj
            cases hoj
            exact absurd hl.1 hkd
          · exact h2
        have := table_listed ht h.down j hjl (h.down j _ hoj hlj) i (by simpa using hl.2)
        rw [hun] at this
        cases this
      refine hm _ _ hkd hlive2 (h.facts k (fun j oj hj hdj => ?_) ?_)
      · rcases mem_set (hk j oj hj hdj) with rfl | h2
        · rw [hi] at hj
          cases hj
          exact absurd hdj hkd
        · exact h2
      · rcases hw with hw | ⟨j, oj, hj, hl, hun⟩
        · exact .inl hw
        · refine .inr ⟨j, oj, hj, hl, ?_⟩
          cases hq : listed.getD j false with
          | false => rfl
          | true => rw [set_mem hq] at hun; cases hun
end Reg

section
variable {P : Program} {ops : Array Oper} {tab : List (List Nat)} {fin : List Tmp} {G : World → Prop} {f : Tmp → Fact} {i : Nat} {o : Oper}
def Asked2 (P : Program) (ops : Array Oper) (tab : List (List Nat)) (fin : List Tmp) (G : World → Prop) (f : Tmp → Fact) (i : Nat) (o : Oper) : Prop :=
  asked2 P ops tab fin G (fun k v W => (f k).holds v W) i o

theorem Asked.late (h : Asked P ops tab fin G f i o) : Asked2 P ops tab fin G f i o := fun x W hW hk => by
  obtain ⟨h1, h2⟩ := h x W hW hk
  refine ⟨h1, gives_imp h2 fun v w' ⟨q1, q2, q3⟩ => ⟨q1, fun k u hd hl hu => q2 k u hd ?_ hu, q3⟩⟩
  unfold live2 at hl
  rw [Bool.and_eq_true] at hl
  exact hl.1

def AskedAll2 (P : Program) (ops : Array Oper) (tab : List (List Nat)) (fin : List Tmp) (G : World → Prop) (f : Tmp → Fact) : Nat → List Oper → Prop
  | _, [] => True
  | i, o :: r => Asked2 P ops tab fin G f i o ∧ AskedAll2 P ops tab fin G f (i + 1) r

theorem asked_of_all2 : ∀ (l : List Oper) (n : Nat), AskedAll2 P ops tab fin G f n l → ∀ (i : Nat) (o : Oper), l[i]? = some o → Asked2 P ops tab fin G f (n + i) o
  | [], _, _, i, o, h => by simp at h
  | _ :: r, n, h, 0, o, hi => by
    simp at hi
    subst hi
    exact h.1
  | _ :: r, n, h, i + 1, o, hi => by
    have := asked_of_all2 r (n + 1) h.2 i o (by simpa using hi)
    rwa [show n + (i + 1) = n + 1 + i by omega]

def stillBut2 (ops : Array Oper) (tab : List (List Nat)) (fin : List Tmp) (f : Tmp → Fact) (i : Nat) (o : Oper) : Bool :=
  (fin ++ ops.toList.flatMap (·.looksAt ops)).all fun k => o.dst == some k || !live2 ops tab fin i k || (f k).still

theorem still_but2 (h : stillBut2 ops tab fin f i o = true) (k : Tmp) (hne : o.dst ≠ some k) (hl0 : live2 ops tab fin i k = true) : (f k).still = true := by
  have hl : live ops tab fin i k = true := by
    have h2 := hl0
    unfold live2 at h2
    rw [Bool.and_eq_true] at h2
    exact h2.1
  unfold stillBut2 at h
  have hm : k ∈ fin ++ ops.toList.flatMap (·.looksAt ops) := by
    unfold live at hl
    rw [Bool.or_eq_true] at hl
    rcases hl with hl | hl
    · exact List.mem_append_left _ (by simpa using hl)
    · obtain ⟨j, hj, h1⟩ := List.any_eq_true.1 hl
      refine List.mem_append_right _ (List.mem_flatMap.2 ?_)
      have hjl : j < ops.size := List.mem_range.1 hj
      refine ⟨ops[j], by simp, ?_⟩
      simp only [Array.getElem?_eq_getElem hjl, Bool.and_eq_true] at h1
      simpa using h1.1.1
  have := List.all_eq_true.1 h k hm
  simpa [hl0, hne] using this

theorem ask_write2 (hg : guardOk ops f o) (hs : stillBut2 ops tab fin f i o = true)
    (h : ∀ x W, G W → Told ops f o x W → gives P o x W (fun v W' => G W' ∧ ∀ k, o.dst = some k → (f k).holds v W')) : Asked2 P ops tab fin G f i o := by
  intro x W hW hk
  refine ⟨guard_ok hg hk, ?_⟩
  have := h x W hW hk
  unfold gives at *
  generalize (execOp (evalBy x) o).run P W = r at *
  cases r with
  | ok n w' =>
    cases n <;> simp only [givesUpon] at this ⊢
    case value v => exact ⟨this.1, fun k u hne hl hu => Fact.stays (still_but2 hs k hne hl) hu, this.2⟩
    case skip => exact ⟨this.1, fun k u hne hl hu => Fact.stays (still_but2 hs k hne hl) hu, this.2⟩
    case enter g args => exact this.mono fun e w'' ⟨v, he, h1, h2⟩ => ⟨v, he, h1, fun k u hne hl hu => Fact.stays (still_but2 hs k hne hl) hu, h2⟩
  | halt x w' => simp only [givesUpon] at this

end

end Go.Proofs.Ytgbhfolbkgibfaa

/- Regions some of whose operations are not wanted: what their guards say is known. -/
namespace Go.Proofs.Ytgbhfolbkgibfaa.Reg
set_option maxRecDepth 20000
open Go Go.Proofs.Ytgbhfolbkgibfaa

/-- The guard says no. -/
def unwantedBy (ops : Array Oper) (o : Oper) (x : Tmp → Value) : Prop :=
  match o.guard with
  | none => False
  | some (j, want) => ∃ d, (ops[j]?).bind (·.dst) = some d ∧ x d ≠ .bool want

theorem unwanted_of {ops : Array Oper} {o : Oper} {a : Act} (h : unwantedBy ops o (fun t => a.tmps.getD t undef)) : Region.wanted o (yielded ops a.tmps) = false := by
  unfold unwantedBy at h
  unfold Region.wanted
  cases hg : o.guard with
  | none => rw [hg] at h; exact absurd h id
  | some p =>
    obtain ⟨j, want⟩ := p
    rw [hg] at h
    obtain ⟨d, hd, hx⟩ := h
    have hx : a.tmps.getD d undef ≠ .bool want := hx
    simp only [yielded, hd]
    rw [Array.getD_eq_getD_getElem?] at hx
    cases hq : a.tmps[d]? with
    | none => simp [hq]
    | some u =>
      rw [hq] at hx
      cases u <;> simp_all

/-- What is asked of one operation: it runs, or it is not wanted. -/
def askedS (P : Program) (ops : Array Oper) (tab : List (List Nat)) (fin : List Tmp) (G : World → Prop) (F : Tmp → Value → World → Prop) (i : Nat) (o : Oper) : Prop :=
  asked P ops tab fin G F i o ∨ ∀ (x : Tmp → Value) (W : World), G W → (∀ k, (o.looksAt ops).contains k = true → F k (x k) W) → unwantedBy ops o x ∧ ∀ k, o.dst = some k → F k undef W

theorem any_of_invS {P : Program} {ops : Array Oper} {tab : List (List Nat)} {fin : List Tmp} {G : World → Prop} {F : Tmp → Value → World → Prop} {a0 : Act} {Q : Exit → Act → World → Prop} (hs : sound ops = true) (ht : tableOk ops tab = true)
    (hd : ∀ (i : Nat) (o : Oper), ops[i]? = some o → ∀ d, o.dst = some d → d < a0.tmps.size)
    (hops : ∀ (i : Nat) (o : Oper), ops[i]? = some o → askedS P ops tab fin G F i o)
    (hend : ∀ a W, G W → a.defers = a0.defers → a.tmps.size = a0.tmps.size → (∀ k, fin.contains k = true → F k (a.tmps.getD k undef) W) → Q .normal a W) :
    ∀ (fuel : Nat) (listed : Array Bool) (a : Act) (W : World), left listed ≤ fuel → Inv ops fin G F a0 listed a W → wpAny P .any ops Q fuel listed a W := by
  have done : ∀ (listed : Array Bool) (a : Act) (W : World), Inv ops fin G F a0 listed a W → Region.ready .any ops listed = [] → Q .normal a W := fun listed a W h hr =>
    hend a W h.grown h.defers h.size fun k hk => h.facts k (fun i o hi _ => all_listed hs h.lsize hr i (Array.getElem?_eq_some_iff.1 hi).1) (.inl hk)
  intro fuel
  induction fuel with
  | zero =>
    intro listed a W hf h
    have hr : Region.ready .any ops listed = [] := by
      cases hq : Region.ready .any ops listed with
      | nil => rfl
      | cons j js =>
        have hj : j ∈ Region.ready .any ops listed := by rw [hq]; simp
        have := left_set (mem_ready.1 hj).1
        omega
    exact ⟨hr, done listed a W h hr⟩
  | succ fuel ih =>
    intro listed a W hf h
    refine ⟨fun hr => done listed a W h hr, fun i hi => ?_⟩
    obtain ⟨hun, o, ho, hall⟩ := mem_ready.1 hi
    have hil : i < ops.size := (Array.getElem?_eq_some_iff.1 ho).1
    have hun' : listed.getD i false = false := by
      rw [Array.getD_eq_getD_getElem?, Array.getElem?_eq_getElem (by rw [h.lsize]; exact hil)] at hun ⊢
      exact hun
    have hsd := sound_edge hs ho
    have hp : ∀ j ∈ preds ops i, listed.getD j false = true := fun j hj => by
      obtain ⟨e, he, hb, rfl⟩ := (mem_preds ho).1 hj
      exact hall e he hb
    have hF : ∀ k, (o.looksAt ops).contains k = true → F k (a.tmps.getD k undef) W := fun k hk => h.facts k (fun j oj hj hdj => by
      obtain ⟨e, he, hb, rfl⟩ := hsd.2 k (by simpa using hk) j oj hj hdj
      exact hall e he hb) (.inr ⟨i, o, ho, hk, hun'⟩)
    rcases hops i o ho with hq | hq
    · obtain ⟨hw, hg⟩ := hq (fun t => a.tmps.getD t undef) W h.grown hF
      unfold wpOp
      simp only [ho, wanted_of hw, if_true]
      refine .inl (wp_of_gives hg fun v w' ⟨h1, h2, h3⟩ => ih _ _ _ ?_ (inv_step ht h ho hp (hd i o ho) h1 h2 h3))
      have := left_set hun
      omega
    · obtain ⟨hw, hg⟩ := hq (fun t => a.tmps.getD t undef) W h.grown hF
      unfold wpOp
      simp only [ho, unwanted_of hw, Bool.false_eq_true, if_false]
      refine ih _ _ _ ?_ (inv_step ht h ho hp (hd i o ho) h.grown (fun k u _ _ hu => hu) hg)
      have := left_set hun
      omega

end Go.Proofs.Ytgbhfolbkgibfaa.Reg
namespace Go.Proofs.Ytgbhfolbkgibfaa
open Go.RowKit Reg

def AskedS (P : Program) (ops : Array Oper) (tab : List (List Nat)) (fin : List Tmp) (G : World → Prop) (f : Tmp → Fact) (i : Nat) (o : Oper) : Prop :=
  askedS P ops tab fin G (fun k v W => (f k).holds v W) i o

def AskedAllS (P : Program) (ops : Array Oper) (tab : List (List Nat)) (fin : List Tmp) (G : World → Prop) (f : Tmp → Fact) : Nat → List Oper → Prop
  | _, [] => True
  | i, o :: r => AskedS P ops tab fin G f i o ∧ AskedAllS P ops tab fin G f (i + 1) r

section
variable {P : Program} {ops : Array Oper} {tab : List (List Nat)} {fin : List Tmp} {G : World → Prop} {f : Tmp → Fact} {i : Nat} {o : Oper}

theorem runs (h : Asked P ops tab fin G f i o) : AskedS P ops tab fin G f i o := .inl h

/-- It is not wanted: its guard's slot is known to say otherwise. -/
theorem skips (j : Nat) (want : Bool) (d : Tmp) (v : Value) (hg : o.guard = some (j, want)) (hd : (ops[j]?).bind (·.dst) = some d) (hf : f d = .is v) (hne : v ≠ .bool want) (hk : ∀ k, o.dst = some k → f k = .is undef) : AskedS P ops tab fin G f i o := by
  refine .inr fun x W _ hl => ⟨?_, fun k h => by show (f k).holds _ _; rw [hk k h]; rfl⟩
  unfold unwantedBy
  rw [hg]
  refine ⟨d, hd, ?_⟩
  have h : (f d).holds (x d) W := hl d (by simp [Oper.looksAt, hg, hd])
  rw [hf] at h
  intro e
  have h : x d = v := h
  exact hne (h.symm.trans e)

theorem askedS_of_all : ∀ (l : List Oper) (n : Nat), AskedAllS P ops tab fin G f n l → ∀ (i : Nat) (o : Oper), l[i]? = some o → AskedS P ops tab fin G f (n + i) o
  | [], _, _, i, o, h => by simp at h
  | _ :: r, n, h, 0, o, hi => by
    simp at hi
    subst hi
    exact h.1
  | _ :: r, n, h, i + 1, o, hi => by
    have := askedS_of_all r (n + 1) h.2 i o (by simpa using hi)
    rwa [show n + (i + 1) = n + 1 + i by omega]
end

theorem region_skip {P : Program} {ops : Array Oper} {id : Nat} {a : Act} {w : World} {Q : Exit → Act → World → Prop} (l : List (Tmp × Fact)) (fin : List Tmp) (G : World → Prop)
    (hm : P.follows .mixedOrders = true) (hs : sound ops = true) (ht : tableOk ops (table ops) = true) (hd : (ops.all fun o => (o.dst.map fun d => decide (d < a.tmps.size)).getD true) = true)
    (hl : (l.all fun p => ops.any fun o => o.dst == some p.1) = true) (hG : G w.drew)
    (hops : AskedAllS P ops (table ops) fin G (factsOf l a) 0 ops.toList)
    (hend : ∀ a' W, G W → a'.defers = a.defers → a'.tmps.size = a.tmps.size → (∀ k, fin.contains k = true → (factsOf l a k).holds (a'.tmps.getD k undef) W) → Q .normal a' W) : (Code.region id ops true).wp P Q a w := by
  have h0 : ∀ k, (factsOf l a k).holds (a.tmps.getD k undef) w.drew ∨ (ops.any fun o => o.dst == some k) = true := fun k => by
    cases hk : l.lookup k with
    | none => left; simp [factsOf, hk, Fact.holds]
    | some fk =>
      right
      have hmem : (k, fk) ∈ l := by
        clear hl hops hend
        induction l with
        | nil => simp at hk
        | cons p l ih =>
          obtain ⟨p1, p2⟩ := p
          rw [List.lookup_cons] at hk
          by_cases hkp : (k == p1) = true
          · rw [hkp] at hk
            simp at hk hkp
            subst hk hkp
            simp
          · simp only [hkp] at hk
            exact List.mem_cons_of_mem _ (ih hk)
      exact List.all_eq_true.1 hl _ hmem
  refine wp_region_any hm (any_of_invS (tab := table ops) (fin := fin) (G := G) (F := fun k v W => (factsOf l a k).holds v W) (a0 := a) hs ht ?_ (fun i o hi => ?_) hend _ _ _ _ ?_ ?_)
  · intro i o hi d hdst
    have := Array.all_eq_true_iff_forall_mem.1 hd o (Array.mem_of_getElem? hi)
    simpa [hdst] using this
  · have := askedS_of_all ops.toList 0 hops i o (by simpa using hi)
    rwa [Nat.zero_add] at this
  · unfold left
    refine Nat.le_trans (List.length_filter_le _ _) (by simp)
  · refine ⟨hG, rfl, rfl, by simp, fun i o hi hl => ?_, fun k hk _ => ?_⟩
    · rw [Array.getD_eq_getD_getElem?] at hl
      simp [Array.getElem?_replicate] at hl
      split at hl <;> simp at hl
    · rcases h0 k with h | h
      · exact h
      · obtain ⟨o, ho, hdst⟩ := Array.any_eq_true'.1 h
        obtain ⟨i, hi⟩ := Array.mem_iff_getElem?.1 ho
        have := hk i o hi (by simpa using hdst)
        rw [Array.getD_eq_getD_getElem?] at this
        simp [Array.getElem?_replicate] at this
        split at this <;> simp at this

end Go.Proofs.Ytgbhfolbkgibfaa

/- All the base. -/
namespace Go.Proofs.Ytgbhfolbkgibfaa.BaseLast
set_option maxRecDepth 20000
end Go.Proofs.Ytgbhfolbkgibfaa.BaseLast

/- Layer 12's entries in memory: slices of numbers, the six fields, entries that are handed over. -/
namespace Go.Proofs.Ytgbhfolbkgibfaa
set_option maxRecDepth 20000
open Go.RowKit BinMath CmdMath

theorem ownsRow_to {w w' : World} {B e s : Nat} {v : Value} {n : Nat} {xs : List Value} (h : w.ownsRow B e s v n xs) (hk : ∀ k, v.ownBlock = some k → w'.heap[k]? = w.heap[k]?) : w'.ownsRow B e s v n xs := by
  obtain ⟨h1, h2⟩ := h
  refine ⟨h1, h2.elim .inl fun ⟨g, cap, cur, hv, hB, hg, r⟩ => .inr ⟨g, cap, cur, hv, hB, ?_, r⟩⟩
  rw [hk g (by rw [hv]; rfl)]
  exact hg

theorem ownsRow_keep {w w' : World} {B e s : Nat} {v : Value} {n : Nat} {xs : List Value} (h : w.ownsRow B e s v n xs) (hb : Below w.heap.size w w') : w'.ownsRow B e s v n xs :=
  ownsRow_to h fun k hk => hb.block k (World.ownsRow.lt h k hk).2

/-- A row and a block of another type are apart. -/
theorem ownsRow_apart {w : World} {B e s g t : Nat} {v : Value} {n : Nat} {xs : List Value} {cs : Array Value} (h : w.ownsRow B e s v n xs) (hg : Blk w g t cs) (hne : e ≠ t) : v.ownBlock ≠ some g := by
  rcases h.2 with ⟨rfl, _⟩ | ⟨k, cap, cur, rfl, hB, hk, _⟩
  · simp [Value.ownBlock]
  · simp only [Value.ownBlock]
    intro he
    obtain rfl : k = g := by simpa using he
    unfold Blk at hg
    rw [hg] at hk
    have h := Option.some.inj hk
    injection h with _ h
    exact hne h.symm

theorem Blk.grown {w w' : World} {B e s g t : Nat} {v : Value} {n : Nat} {xs : List Value} {cs : Array Value} (hg : Blk w g t cs) (h : w.ownsRow B e s v n xs) (hne : e ≠ t) (hgr : w.grownBy w' v.ownBlock) : Blk w' g t cs := by
  have h1 := ownsRow_apart h hg hne
  have hlt := hg.lt
  unfold Blk at *
  rw [hgr.block g hlt (fun e => h1 e.symm)]
  exact hg

/-- A number as a cell holds it. -/
def uv (n : Nat) : Value := .int .u64 (n : Int)

theorem info_num : (Try.prog.info? 31).map (fun i => (i.zero, i.size, i.bytes)) = some (some (.int .u64 0), 1, 8) := by kernel_rfl

/-- A slice of numbers, wherever it lies. -/
def Nums (w : World) (v : Value) (l : List Nat) : Prop :=
  (v = .slice none 0 0 ∧ l = []) ∨
  ∃ ad cap, v = .slice (some ad) l.length cap ∧ l.length ≤ cap ∧ ∀ i (h : i < l.length), w.cell? (ad.add i) = some (.int .u64 (l[i] : Int))

/-- A slice of numbers of the call's own, from block B on. -/
def NRow (w : World) (B : Nat) (v : Value) (l : List Nat) : Prop := w.ownsRow B 31 1 v l.length (l.map uv)

theorem Nums.below {w w' : World} {v : Value} {l : List Nat} (h : Nums w v l) {B : Nat} (hB : w.heap.size ≤ B) (hb : Below B w w') : Nums w' v l := by
  rcases h with h | ⟨ad, cap, hv, hl, hc⟩
  · exact .inl h
  · exact .inr ⟨ad, cap, hv, hl, fun i hi => by
      have h1 := hc i hi
      rw [hb.cell (p := ad.add i) (Nat.lt_of_lt_of_le (World.block_lt_of_cell? w _ h1) hB)]
      exact h1⟩

theorem NRow.nums {w : World} {B : Nat} {v : Value} {l : List Nat} (h : NRow w B v l) : Nums w v l := by
  have h0 := h
  rcases h.2 with ⟨rfl, hl⟩ | ⟨g, cap, cur, rfl, hB, hg, hn, hm, hs, ht⟩
  · exact .inl ⟨rfl, List.eq_nil_of_length_eq_zero hl⟩
  · refine .inr ⟨⟨g, 0, none⟩, cap, rfl, hn, fun i hi => ?_⟩
    rw [addr_add, Nat.zero_add, World.ownsRow.cellAt h0 i (by omega)]
    simp [uv, hi]

theorem Nums.shape {w : World} {v : Value} {l : List Nat} (h : Nums w v l) : ∃ a cap, v = .slice a l.length cap := by
  rcases h with ⟨rfl, rfl⟩ | ⟨ad, cap, rfl, _⟩
  · exact ⟨_, _, rfl⟩
  · exact ⟨_, _, rfl⟩

theorem Bys.shape {w : World} {v : Value} {l : List UInt8} (h : Bys w v l) : ∃ a cap, v = .slice a l.length cap := by
  rcases h with ⟨rfl, rfl⟩ | ⟨ad, cap, rfl, _⟩
  · exact ⟨_, _, rfl⟩
  · exact ⟨_, _, rfl⟩

theorem Nums.at {w : World} {a : Option Addr} {n cap : Nat} {l : List Nat} (h : Nums w (.slice a n cap) l) : n = l.length ∧ l.length ≤ cap ∧ ∀ i (h : i < l.length), ∃ ad, a = some ad ∧ w.cell? (ad.add i) = some (.int .u64 (l[i] : Int)) := by
  rcases h with ⟨h, rfl⟩ | ⟨ad, c, h, hl, hc⟩
  · cases h; exact ⟨rfl, by simp, fun i hi => by simp at hi⟩
  · cases h; exact ⟨rfl, hl, fun i hi => ⟨ad, rfl, hc i hi⟩⟩

theorem nums_of (zs : List Int) (h : ∀ n ∈ zs, (Lit.int .u64 n).wf = true) : ∃ l : List Nat, zs = l.map (fun c : Nat => (c : Int)) ∧ ∀ x ∈ l, x < 18446744073709551616 := by
  induction zs with
  | nil => exact ⟨[], rfl, by simp⟩
  | cons z zs ih =>
    obtain ⟨l, hl, hb⟩ := ih fun n hn => h n (List.mem_cons_of_mem _ hn)
    have hz := bounds_u64 (h z (by simp))
    refine ⟨z.toNat :: l, ?_, ?_⟩
    · simp [← hl]; omega
    · intro x hx
      rcases List.mem_cons.1 hx with rfl | hx
      · omega
      · exact hb x hx

/-- What came in. -/
theorem IsRow.nums {w : World} {a : Option Addr} {len cap : Nat} {zs : List Int} (h : IsRow .u64 w a len cap zs) : ∃ l : List Nat, l.length = len ∧ (∀ x ∈ l, x < 18446744073709551616) ∧ Nums w (.slice a len cap) l := by
  rcases h with ⟨rfl, rfl, rfl, rfl⟩ | ⟨ad, rfl, hl, hm, hz, hc, hw⟩
  · exact ⟨[], rfl, by simp, .inl ⟨rfl, rfl⟩⟩
  · obtain ⟨l, rfl, hb⟩ := nums_of zs hw
    have hll : l.length = cap := by simpa using hz
    have e : (l.take len).length = len := by rw [List.length_take]; omega
    refine ⟨l.take len, e, fun x hx => hb x (List.mem_of_mem_take hx), .inr ⟨ad, cap, by rw [e], by omega, fun i hi => ?_⟩⟩
    have hi' : i < l.length := by rw [e] at hi; omega
    rw [hc i (by simpa using hi')]
    simp [hi']

/-- The six fields. -/
def entC (e : Ent) (a : Option Addr) (ca : Nat) (b : Option Addr) (cb : Nat) : Array Value :=
  #[.int .u64 (e.t : Int), .int .i64 e.k, .int .u64 (e.c : Int), .int .u64 (e.s : Int), .slice a e.d.length ca, .slice b e.m.length cb]

/-- What an entry's fields lead to, and their ranges. -/
structure Has (w : World) (e : Ent) (a : Option Addr) (ca : Nat) (b : Option Addr) (cb : Nat) : Prop where
  ok : e.Ok
  d : Bys w (.slice a e.d.length ca) e.d
  m : Nums w (.slice b e.m.length cb) e.m
  dl : e.d.length ≤ 140737488351232
  ml : e.m.length ≤ 140737488351232

theorem Has.below {w w' : World} {e : Ent} {a b : Option Addr} {ca cb : Nat} (h : Has w e a ca b cb) {B : Nat} (hB : w.heap.size ≤ B) (hb : Below B w w') : Has w' e a ca b cb :=
  ⟨h.ok, h.d.below hB hb, h.m.below hB hb, h.dl, h.ml⟩

theorem Has.zero (w : World) : Has w Ent.zero none 0 none 0 := ⟨Ent.Ok.zero, .inl ⟨rfl, rfl⟩, .inl ⟨rfl, rfl⟩, by decide, by decide⟩

theorem isTerm_any (n : Nat) (w : World) (hn : n < 18446744073709551616) : Calls Try.prog 91 #[.int .u64 (n : Int)] w fun e w' => e = .returned (.bool (decide (1 ≤ n ∧ n ≤ 4611686018427387904))) ∧ w' = w := by
  by_cases h1 : 1 ≤ n
  · go_enter Try.func91, Try.ntmps91
    go_wp2
    go_ret
    exact ⟨congrArg (fun b => Ending.returned (Value.bool b)) (decide_eq_decide.2 (by omega)), rfl⟩
  · have e : decide (1 ≤ n ∧ n ≤ 4611686018427387904) = false := by simp [h1]
    rw [e]
    go_enter Try.func91, Try.ntmps91
    go_wp2
    go_ret
    exact ⟨rfl, rfl⟩

theorem isCount_any (n : Nat) (w : World) (hn : n < 18446744073709551616) : Calls Try.prog 63 #[.int .u64 (n : Int)] w fun e w' => e = .returned (.bool (decide (1 ≤ n ∧ n ≤ 7))) ∧ w' = w := by
  by_cases h1 : 1 ≤ n
  · go_enter Try.func63, Try.ntmps63
    go_wp2
    go_ret
    exact ⟨congrArg (fun b => Ending.returned (Value.bool b)) (decide_eq_decide.2 (by omega)), rfl⟩
  · have e : decide (1 ≤ n ∧ n ≤ 7) = false := by simp [h1]
    rw [e]
    go_enter Try.func63, Try.ntmps63
    go_wp2
    go_ret
    exact ⟨rfl, rfl⟩

theorem isNext_any (a n : Nat) (w : World) (hn : n < 18446744073709551616) : Calls Try.prog 64 #[.int .u64 (a : Int), .int .u64 (n : Int)] w fun e w' => e = .returned (.bool (decide (a < n ∧ n ≤ 7))) ∧ w' = w := by
  by_cases h1 : a < n
  · go_enter Try.func64, Try.ntmps64
    go_wp2
    go_ret
    exact ⟨congrArg (fun b => Ending.returned (Value.bool b)) (decide_eq_decide.2 (by omega)), rfl⟩
  · have e : decide (a < n ∧ n ≤ 7) = false := by simp [h1]
    rw [e]
    go_enter Try.func64, Try.ntmps64
    go_wp2
    go_ret
    exact ⟨rfl, rfl⟩

theorem conv_len (k : Nat) (hk : k < 9223372036854775808) (W : World) : (convert 3 31 (.int .i64 (k : Int))).run Try.prog W = .ok (.int .u64 (k : Int)) W := by
  have hp : Try.prog.intKind 31 = .u64 := by kernel_rfl
  have h := run_convert_int (P := Try.prog) W 3 31 .i64 (k : Int) (by kernel_rfl) (by rw [hp]; exact Try.underlying31)
  rw [hp] at h
  rw [h, IntKind.wrap_u64]
  congr 2
  omega

end Go.Proofs.Ytgbhfolbkgibfaa

/- Reading, by what is left: the readers' calls; giving up. -/
namespace Go.Proofs.Ytgbhfolbkgibfaa
set_option maxRecDepth 20000
open Go.RowKit BinMath CmdMath
variable {G : Nat}

/-- What a reading of an entry that gives up panics with. -/
abbrev lostC (c : Nat) : List PanicEntry := gaveUp (c : Int)

theorem must_ok (w : World) : Calls Try.prog 44 #[.int .i64 0] w fun e w' => e = .returned (.tuple #[]) ∧ w' = w := quit_ok w

theorem must_bad (c : Nat) (w : World) (hc : c ≠ 0) : Calls Try.prog 44 #[.int .i64 (c : Int)] w fun e w' => e = .panicked (lostC c) ∧ w' = w := quit_bad c (by omega) w

theorem ask_yes (w : World) : Calls Try.prog 112 #[.bool true] w fun e w' => e = .returned (.tuple #[]) ∧ w' = w := by
  go_enter Try.func112, Try.ntmps112
  go_wp2
  exact ⟨rfl, .tuple #[], by simp [results, Try.results112, go_sem], rfl, rfl⟩

theorem ask_no (w : World) : Calls Try.prog 112 #[.bool false] w fun e w' => e = .panicked (lostC 3) ∧ w' = w := by
  go_enter Try.func112, Try.ntmps112
  go_wp2_with fail
  refine (must_bad 3 _ (by decide)).mono ?_
  rintro e w' ⟨rfl, rfl⟩
  exact ⟨rfl, rfl, rfl⟩

theorem takeNum_ok (n : Nat) (w : World) : Calls Try.prog 99 #[.int .u64 (n : Int), .int .i64 0] w fun e w' => e = .returned (.int .u64 (n : Int)) ∧ w' = w := by
  go_enter Try.func99, Try.ntmps99
  go_wp2_with fail
  refine (must_ok _).mono ?_
  rintro e w' ⟨rfl, rfl⟩
  go_wp2
  go_ret
  exact ⟨rfl, rfl⟩

theorem takeNum_bad (n : Nat) (c : Nat) (w : World) (hc : c ≠ 0) : Calls Try.prog 99 #[.int .u64 (n : Int), .int .i64 (c : Int)] w fun e w' => e = .panicked (lostC c) ∧ w' = w := by
  have HM := Lib.hid (fun w => must_bad c w hc)
  clear hc
  go_enter Try.func99, Try.ntmps99
  go_wp2_with fail
  refine (HM.out _).mono ?_
  rintro e w' ⟨rfl, rfl⟩
  exact ⟨rfl, rfl, rfl⟩

theorem takeByte_ok (n : Nat) (w : World) : Calls Try.prog 101 #[.int .u8 (n : Int), .int .i64 0] w fun e w' => e = .returned (.int .u8 (n : Int)) ∧ w' = w := by
  go_enter Try.func101, Try.ntmps101
  go_wp2_with fail
  refine (must_ok _).mono ?_
  rintro e w' ⟨rfl, rfl⟩
  go_wp2
  go_ret
  exact ⟨rfl, rfl⟩

theorem takeByte_bad (n : Nat) (c : Nat) (w : World) (hc : c ≠ 0) : Calls Try.prog 101 #[.int .u8 (n : Int), .int .i64 (c : Int)] w fun e w' => e = .panicked (lostC c) ∧ w' = w := by
  have HM := Lib.hid (fun w => must_bad c w hc)
  clear hc
  go_enter Try.func101, Try.ntmps101
  go_wp2_with fail
  refine (HM.out _).mono ?_
  rintro e w' ⟨rfl, rfl⟩
  exact ⟨rfl, rfl, rfl⟩

theorem takeRaw_ok (v : Value) (w : World) : Calls Try.prog 84 #[v, .int .i64 0] w fun e w' => e = .returned (v) ∧ w' = w := by
  go_enter Try.func84, Try.ntmps84
  go_wp2_with fail
  refine (must_ok _).mono ?_
  rintro e w' ⟨rfl, rfl⟩
  go_wp2
  go_ret
  exact ⟨rfl, rfl⟩

theorem takeRaw_bad (v : Value) (c : Nat) (w : World) (hc : c ≠ 0) : Calls Try.prog 84 #[v, .int .i64 (c : Int)] w fun e w' => e = .panicked (lostC c) ∧ w' = w := by
  have HM := Lib.hid (fun w => must_bad c w hc)
  clear hc
  go_enter Try.func84, Try.ntmps84
  go_wp2_with fail
  refine (HM.out _).mono ?_
  rintro e w' ⟨rfl, rfl⟩
  exact ⟨rfl, rfl, rfl⟩

/-- A reader that isn't stuck, and the bytes that it has ahead of it. -/
def At (w : World) (R G : Nat) (l r : List UInt8) : Prop := ∃ k, IsRd w R G l k 0 ∧ r = l.drop k

theorem gNum_pNum {l q : List UInt8} {k n : Nat} (h : gNum (l.drop k) = .ok (n, q)) : ∃ u, numS l k 0 = (n, 0, k + u) ∧ q = l.drop (k + u) := by
  unfold gNum at h
  unfold numS
  simp only [ne_eq, not_true_eq_false, if_false]
  cases hp : pNum (l.drop k) with
  | error c => rw [hp] at h; cases h
  | ok p =>
    obtain ⟨m, u⟩ := p
    rw [hp] at h
    simp at h
    obtain ⟨rfl, rfl⟩ := h
    exact ⟨u, rfl, by rw [← List.drop_drop]⟩

theorem gNum_bad {l : List UInt8} {k c : Nat} (h : gNum (l.drop k) = .error c) : numS l k 0 = (0, c, k) := by
  unfold gNum at h
  unfold numS
  simp only [ne_eq, not_true_eq_false, if_false]
  cases hp : pNum (l.drop k) with
  | error d => rw [hp] at h; cases h; rfl
  | ok p => rw [hp] at h; cases h

theorem gByte_ok {l q : List UInt8} {k n : Nat} (h : gByte (l.drop k) = .ok (n, q)) : byteS l k 0 = (n, 0, k + 1) ∧ q = l.drop (k + 1) := by
  unfold byteS
  simp only [ne_eq, not_true_eq_false, if_false]
  cases hp : l.drop k with
  | nil => rw [hp] at h; cases h
  | cons c r =>
    rw [hp] at h
    simp [gByte] at h
    obtain ⟨rfl, rfl⟩ := h
    refine ⟨rfl, ?_⟩
    rw [← List.drop_drop, hp]
    rfl

theorem gByte_bad {l : List UInt8} {k c : Nat} (h : gByte (l.drop k) = .error c) : byteS l k 0 = (0, c, k) := by
  unfold byteS
  simp only [ne_eq, not_true_eq_false, if_false]
  cases hp : l.drop k with
  | nil => rw [hp] at h; simp [gByte] at h; rw [← h]
  | cons c r => rw [hp] at h; cases h

theorem gText_ok {l q t : List UInt8} {k most : Nat} (h : gText most (l.drop k) = .ok (t, q)) : ∃ u, textS l most k 0 = (t, 0, k + u) ∧ q = l.drop (k + u) := by
  unfold gText at h
  unfold textS
  simp only [ne_eq, not_true_eq_false, if_false]
  cases hp : pText most (l.drop k) with
  | error c => rw [hp] at h; cases h
  | ok p =>
    obtain ⟨m, u⟩ := p
    rw [hp] at h
    simp at h
    obtain ⟨rfl, rfl⟩ := h
    exact ⟨u, rfl, by rw [← List.drop_drop]⟩

theorem gText_bad {l : List UInt8} {k most c : Nat} (h : gText most (l.drop k) = .error c) : textS l most k 0 = ([], c, k) := by
  unfold gText at h
  unfold textS
  simp only [ne_eq, not_true_eq_false, if_false]
  cases hp : pText most (l.drop k) with
  | error d => rw [hp] at h; cases h; rfl
  | ok p => rw [hp] at h; cases h

theorem endS_at {l r : List UInt8} {k : Nat} (h : r = l.drop k) : endS l k 0 = if r = [] then 0 else 5 := by
  subst h
  unfold endS
  simp only [ne_eq, not_true_eq_false, if_false, List.drop_eq_nil_iff]
  by_cases hk : k < l.length
  · rw [if_pos hk, if_neg (by omega)]
  · rw [if_neg hk, if_pos (by omega)]

theorem readNum_ok {R : Nat} {l r q : List UInt8} {n : Nat} {w : World} (h : At w R G l r) (hg : gNum r = .ok (n, q)) :
    Calls Try.prog 100 #[.pointer (some ⟨R, 0, none⟩)] w fun e w' => e = .returned (.tuple #[.int .u64 (n : Int), .int .i64 0]) ∧ At w' R G l q ∧ Only R w w' := by
  obtain ⟨k, hk, rfl⟩ := h
  obtain ⟨u, e1, rfl⟩ := gNum_pNum hg
  have hN := rdNum_any R l k 0 w hk
  rw [e1] at hN
  exact hN.mono fun e w' ⟨h1, h2, h3⟩ => ⟨h2, ⟨_, h3, rfl⟩, h1⟩

theorem readNum_bad {R : Nat} {l r : List UInt8} {c : Nat} {w : World} (h : At w R G l r) (hg : gNum r = .error c) :
    Calls Try.prog 100 #[.pointer (some ⟨R, 0, none⟩)] w fun e w' => e = .returned (.tuple #[.int .u64 0, .int .i64 (c : Int)]) ∧ Only R w w' := by
  obtain ⟨k, hk, rfl⟩ := h
  have hN := rdNum_any R l k 0 w hk
  rw [gNum_bad hg] at hN
  exact hN.mono fun e w' ⟨h1, h2, _⟩ => ⟨h2, h1⟩

theorem readByte_ok {R : Nat} {l r q : List UInt8} {n : Nat} {w : World} (h : At w R G l r) (hg : gByte r = .ok (n, q)) :
    Calls Try.prog 102 #[.pointer (some ⟨R, 0, none⟩)] w fun e w' => e = .returned (.tuple #[.int .u8 (n : Int), .int .i64 0]) ∧ At w' R G l q ∧ Only R w w' := by
  obtain ⟨k, hk, rfl⟩ := h
  obtain ⟨e1, rfl⟩ := gByte_ok hg
  have hN := rdByte_any R l k 0 w hk
  rw [e1] at hN
  exact hN.mono fun e w' ⟨h1, h2, h3⟩ => ⟨h2, ⟨_, h3, rfl⟩, h1⟩

theorem readByte_bad {R : Nat} {l r : List UInt8} {c : Nat} {w : World} (h : At w R G l r) (hg : gByte r = .error c) :
    Calls Try.prog 102 #[.pointer (some ⟨R, 0, none⟩)] w fun e w' => e = .returned (.tuple #[.int .u8 0, .int .i64 (c : Int)]) ∧ Only R w w' := by
  obtain ⟨k, hk, rfl⟩ := h
  have hN := rdByte_any R l k 0 w hk
  rw [gByte_bad hg] at hN
  exact hN.mono fun e w' ⟨h1, h2, _⟩ => ⟨h2, h1⟩

theorem readRaw_ok {R : Nat} {l r q t : List UInt8} {w : World} (h : At w R G l r) (hg : gText 64 r = .ok (t, q)) :
    Calls Try.prog 103 #[.pointer (some ⟨R, 0, none⟩), .int .i64 64] w fun e w' => ∃ v, e = .returned (.tuple #[v, .int .i64 0]) ∧ Row w' w.heap.size v t ∧ At w' R G l q ∧ Only R w w' := by
  obtain ⟨k, hk, rfl⟩ := h
  obtain ⟨u, e1, rfl⟩ := gText_ok hg
  have hN := rdRaw_any R l k 0 64 (by omega) w hk
  rw [show (64 : Int).toNat = 64 from rfl, e1] at hN
  exact hN.mono fun e w' ⟨h1, v, h2, h3, h4⟩ => ⟨v, h2, h3, ⟨_, h4, rfl⟩, h1⟩

theorem readRaw_bad {R : Nat} {l r : List UInt8} {c : Nat} {w : World} (h : At w R G l r) (hg : gText 64 r = .error c) :
    Calls Try.prog 103 #[.pointer (some ⟨R, 0, none⟩), .int .i64 64] w fun e w' => ∃ v, e = .returned (.tuple #[v, .int .i64 (c : Int)]) ∧ (∃ a, v = .slice a 0 0 ∨ ∃ cap, v = .slice a 0 cap) ∧ Only R w w' := by
  obtain ⟨k, hk, rfl⟩ := h
  have hN := rdRaw_any R l k 0 64 (by omega) w hk
  rw [show (64 : Int).toNat = 64 from rfl, gText_bad hg] at hN
  exact hN.mono fun e w' ⟨h1, v, h2, h3, _⟩ => ⟨v, h2, by obtain ⟨a', c', e⟩ := slice_of_row h3; exact ⟨a', .inr ⟨c', e⟩⟩, h1⟩

theorem readEnd_any {R : Nat} {l r : List UInt8} {w : World} (h : At w R G l r) :
    Calls Try.prog 45 #[.pointer (some ⟨R, 0, none⟩)] w fun e w' => e = .returned (.int .i64 ((if r = [] then 0 else 5 : Nat) : Int)) ∧ Only R w w' := by
  obtain ⟨k, hk, hr⟩ := h
  have hN := rdEnd_any R l k 0 w hk
  rw [endS_at hr] at hN
  exact hN.mono fun e w' ⟨h1, _, h3⟩ => ⟨h1, h3⟩

end Go.Proofs.Ytgbhfolbkgibfaa

