/- Regions some of whose operations are not wanted: what their guards say is known. -/
import Derived.Test.YtdhfabjkpffhnaaDoorGCR
namespace Go.Proofs.YtdhfabjkpffhnaaDoor.Reg
set_option maxRecDepth 20000
open Go Go.Proofs.YtdhfabjkpffhnaaDoor

/-- The guard says no. -/
def unwantedBy (ops : Array Oper) (o : Oper) (x : Tmp → Value) : Prop :=
  match o.guard with
  | none => False
  | some (j, want) => ∃ d, (ops[j]?).bind (·.dst) = some d ∧ x d ≠ .bool want

theorem unwanted_of {ops : Array Oper} {o : Oper} {a : Act} (h : unwantedBy ops o (fun t => a.tmps.getD t undef)) : Region.wanted o (yielded ops a.tmps) = false := by
  unfold unwantedBy at h
  unfold Region.wanted
  cases hg : o.guard with
  | none => rw [hg] at h; exact absurd h id
  | some p =>
    obtain ⟨j, want⟩ := p
    rw [hg] at h
    obtain ⟨d, hd, hx⟩ := h
    have hx : a.tmps.getD d undef ≠ .bool want := hx
    simp only [yielded, hd]
    rw [Array.getD_eq_getD_getElem?] at hx
    cases hq : a.tmps[d]? with
    | none => simp [hq]
    | some u =>
      rw [hq] at hx
      cases u <;> simp_all

/-- What is asked of one operation: it runs, or it is not wanted. -/
def askedS (P : Program) (ops : Array Oper) (tab : List (List Nat)) (fin : List Tmp) (G : World → Prop) (F : Tmp → Value → World → Prop) (i : Nat) (o : Oper) : Prop :=
  asked P ops tab fin G F i o ∨ ∀ (x : Tmp → Value) (W : World), G W → (∀ k, (o.looksAt ops).contains k = true → F k (x k) W) → unwantedBy ops o x ∧ ∀ k, o.dst = some k → F k undef W

theorem any_of_invS {P : Program} {ops : Array Oper} {tab : List (List Nat)} {fin : List Tmp} {G : World → Prop} {F : Tmp → Value → World → Prop} {a0 : Act} {Q : Exit → Act → World → Prop} (hs : sound ops = true) (ht : tableOk ops tab = true)
    (hd : ∀ (i : Nat) (o : Oper), ops[i]? = some o → ∀ d, o.dst = some d → d < a0.tmps.size)
    (hops : ∀ (i : Nat) (o : Oper), ops[i]? = some o → askedS P ops tab fin G F i o)
    (hend : ∀ a W, G W → a.defers = a0.defers → a.tmps.size = a0.tmps.size → (∀ k, fin.contains k = true → F k (a.tmps.getD k undef) W) → Q .normal a W) :
    ∀ (fuel : Nat) (listed : Array Bool) (a : Act) (W : World), left listed ≤ fuel → Inv ops fin G F a0 listed a W → wpAny P .any ops Q fuel listed a W := by
  have done : ∀ (listed : Array Bool) (a : Act) (W : World), Inv ops fin G F a0 listed a W → Region.ready .any ops listed = [] → Q .normal a W := fun listed a W h hr =>
    hend a W h.grown h.defers h.size fun k hk => h.facts k (fun i o hi _ => all_listed hs h.lsize hr i (Array.getElem?_eq_some_iff.1 hi).1) (.inl hk)
  intro fuel
  induction fuel with
  | zero =>
    intro listed a W hf h
    have hr : Region.ready .any ops listed = [] := by
      cases hq : Region.ready .any ops listed with
      | nil => rfl
      | cons j js =>
        have hj : j ∈ Region.ready .any ops listed := by rw [hq]; simp
        have := left_set (mem_ready.1 hj).1
        omega
    exact ⟨hr, done listed a W h hr⟩
  | succ fuel ih =>
    intro listed a W hf h
    refine ⟨fun hr => done listed a W h hr, fun i hi => ?_⟩
    obtain ⟨hun, o, ho, hall⟩ := mem_ready.1 hi
    have hil : i < ops.size := (Array.getElem?_eq_some_iff.1 ho).1
    have hun' : listed.getD i false = false := by
      rw [Array.getD_eq_getD_getElem?, Array.getElem?_eq_getElem (by rw [h.lsize]; exact hil)] at hun ⊢
      exact hun
    have hsd := sound_edge hs ho
    have hp : ∀ j ∈ preds ops i, listed.getD j false = true := fun j hj => by
      obtain ⟨e, he, hb, rfl⟩ := (mem_preds ho).1 hj
      exact hall e he hb
    have hF : ∀ k, (o.looksAt ops).contains k = true → F k (a.tmps.getD k undef) W := fun k hk => h.facts k (fun j oj hj hdj => by
      obtain ⟨e, he, hb, rfl⟩ := hsd.2 k (by simpa using hk) j oj hj hdj
      exact hall e he hb) (.inr ⟨i, o, ho, hk, hun'⟩)
    rcases hops i o ho with hq | hq
    · obtain ⟨hw, hg⟩ := hq (fun t => a.tmps.getD t undef) W h.grown hF
      unfold wpOp
      simp only [ho, wanted_of hw, if_true]
      refine .inl (wp_of_gives hg fun v w' ⟨h1, h2, h3⟩ => ih _ _ _ ?_ (inv_step ht h ho hp (hd i o ho) h1 h2 h3))
      have := left_set hun
      omega
    · obtain ⟨hw, hg⟩ := hq (fun t => a.tmps.getD t undef) W h.grown hF
      unfold wpOp
      simp only [ho, unwanted_of hw, Bool.false_eq_true, if_false]
      refine ih _ _ _ ?_ (inv_step ht h ho hp (hd i o ho) h.grown (fun k u _ _ hu => hu) hg)
      have := left_set hun
      omega

end Go.Proofs.YtdhfabjkpffhnaaDoor.Reg
namespace Go.Proofs.YtdhfabjkpffhnaaDoor
open Go.RowKit Reg

def AskedS (P : Program) (ops : Array Oper) (tab : List (List Nat)) (fin : List Tmp) (G : World → Prop) (f : Tmp → Fact) (i : Nat) (o : Oper) : Prop :=
  askedS P ops tab fin G (fun k v W => (f k).holds v W) i o

def AskedAllS (P : Program) (ops : Array Oper) (tab : List (List Nat)) (fin : List Tmp) (G : World → Prop) (f : Tmp → Fact) : Nat → List Oper → Prop
  | _, [] => True
  | i, o :: r => AskedS P ops tab fin G f i o ∧ AskedAllS P ops tab fin G f (i + 1) r

section
variable {P : Program} {ops : Array Oper} {tab : List (List Nat)} {fin : List Tmp} {G : World → Prop} {f : Tmp → Fact} {i : Nat} {o : Oper}

theorem runs (h : Asked P ops tab fin G f i o) : AskedS P ops tab fin G f i o := .inl h

/-- It is not wanted: its guard's slot is known to say otherwise. -/
theorem skips (j : Nat) (want : Bool) (d : Tmp) (v : Value) (hg : o.guard = some (j, want)) (hd : (ops[j]?).bind (·.dst) = some d) (hf : f d = .is v) (hne : v ≠ .bool want) (hk : ∀ k, o.dst = some k → f k = .is undef) : AskedS P ops tab fin G f i o := by
  refine .inr fun x W _ hl => ⟨?_, fun k h => by show (f k).holds _ _; rw [hk k h]; rfl⟩
  unfold unwantedBy
  rw [hg]
  refine ⟨d, hd, ?_⟩
  have h : (f d).holds (x d) W := hl d (by simp [Oper.looksAt, hg, hd])
  rw [hf] at h
  intro e
  have h : x d = v := h
  exact hne (h.symm.trans e)

theorem askedS_of_all : ∀ (l : List Oper) (n : Nat), AskedAllS P ops tab fin G f n l → ∀ (i : Nat) (o : Oper), l[i]? = some o → AskedS P ops tab fin G f (n + i) o
  | [], _, _, i, o, h => by simp at h
  | _ :: r, n, h, 0, o, hi => by
    simp at hi
    subst hi
    exact h.1
  | _ :: r, n, h, i + 1, o, hi => by
    have := askedS_of_all r (n + 1) h.2 i o (by simpa using hi)
    rwa [show n + (i + 1) = n + 1 + i by omega]
end

theorem region_skip {P : Program} {ops : Array Oper} {id : Nat} {a : Act} {w : World} {Q : Exit → Act → World → Prop} (l : List (Tmp × Fact)) (fin : List Tmp) (G : World → Prop)
    (hm : P.follows .mixedOrders = true) (hs : sound ops = true) (ht : tableOk ops (table ops) = true) (hd : (ops.all fun o => (o.dst.map fun d => decide (d < a.tmps.size)).getD true) = true)
    (hl : (l.all fun p => ops.any fun o => o.dst == some p.1) = true) (hG : G w.drew)
    (hops : AskedAllS P ops (table ops) fin G (factsOf l a) 0 ops.toList)
    (hend : ∀ a' W, G W → a'.defers = a.defers → a'.tmps.size = a.tmps.size → (∀ k, fin.contains k = true → (factsOf l a k).holds (a'.tmps.getD k undef) W) → Q .normal a' W) : (Code.region id ops true).wp P Q a w := by
  have h0 : ∀ k, (factsOf l a k).holds (a.tmps.getD k undef) w.drew ∨ (ops.any fun o => o.dst == some k) = true := fun k => by
    cases hk : l.lookup k with
    | none => left; simp [factsOf, hk, Fact.holds]
    | some fk =>
      right
      have hmem : (k, fk) ∈ l := by
        clear hl hops hend
        induction l with
        | nil => simp at hk
        | cons p l ih =>
          obtain ⟨p1, p2⟩ := p
          rw [List.lookup_cons] at hk
          by_cases hkp : (k == p1) = true
          · rw [hkp] at hk
            simp at hk hkp
            subst hk hkp
            simp
          · simp only [hkp] at hk
            exact List.mem_cons_of_mem _ (ih hk)
      exact List.all_eq_true.1 hl _ hmem
  refine wp_region_any hm (any_of_invS (tab := table ops) (fin := fin) (G := G) (F := fun k v W => (factsOf l a k).holds v W) (a0 := a) hs ht ?_ (fun i o hi => ?_) hend _ _ _ _ ?_ ?_)
  · intro i o hi d hdst
    have := Array.all_eq_true_iff_forall_mem.1 hd o (Array.mem_of_getElem? hi)
    simpa [hdst] using this
  · have := askedS_of_all ops.toList 0 hops i o (by simpa using hi)
    rwa [Nat.zero_add] at this
  · unfold left
    refine Nat.le_trans (List.length_filter_le _ _) (by simp)
  · refine ⟨hG, rfl, rfl, by simp, fun i o hi hl => ?_, fun k hk _ => ?_⟩
    · rw [Array.getD_eq_getD_getElem?] at hl
      simp [Array.getElem?_replicate] at hl
      split at hl <;> simp at hl
    · rcases h0 k with h | h
      · exact h
      · obtain ⟨o, ho, hdst⟩ := Array.any_eq_true'.1 h
        obtain ⟨i, hi⟩ := Array.mem_iff_getElem?.1 ho
        have := hk i o hi (by simpa using hdst)
        rw [Array.getD_eq_getD_getElem?] at this
        simp [Array.getElem?_replicate] at this
        split at this <;> simp at this

end Go.Proofs.YtdhfabjkpffhnaaDoor

