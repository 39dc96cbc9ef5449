/- Joined: Last, Late, Tails. -/
import Derived.Test.YtdhfabjkpffhnaaDoorTailT
/- A region that draws its order, told by facts, with one operation behind all the others that writes a slot which others read ('x = append(x, x[k])'). -/
namespace Go.Proofs.YtdhfabjkpffhnaaDoor
set_option maxRecDepth 20000
open Go.RowKit Reg

end Go.Proofs.YtdhfabjkpffhnaaDoor

/- As XLast; an operation need not keep what a later one makes: what it writes may lie where a slot's value will lie that waits for it ('append(append(append(..)))'). -/
namespace Go.Proofs.YtdhfabjkpffhnaaDoor
set_option maxRecDepth 20000
open Go.RowKit Reg

namespace Reg
theorem gives_imp {P : Program} {o : Oper} {x : Tmp → Value} {w : World} {R R' : Value → World → Prop} (h : gives P o x w R) (hi : ∀ v w', R v w' → R' v w') : gives P o x w R' := by
  unfold gives at *
  generalize (execOp (evalBy x) o).run P w = r at *
  cases r with
  | ok n w' =>
    cases n <;> simp only [givesUpon] at h ⊢
    case value v => exact hi _ _ h
    case skip => exact hi _ _ h
    case enter g args => exact h.mono fun e w'' ⟨v, he, h1⟩ => ⟨v, he, hi _ _ h1⟩
  | halt x w' => simp only [givesUpon] at h

end Reg

section
variable {P : Program} {ops : Array Oper} {tab : List (List Nat)} {fin : List Tmp} {G : World → Prop} {f : Tmp → Fact} {i : Nat} {o : Oper}
end

end Go.Proofs.YtdhfabjkpffhnaaDoor

/- A region that draws its order, told by facts, whose last operations each wait for all the earlier ones: what these do is walked. -/
namespace Go.Proofs.YtdhfabjkpffhnaaDoor
set_option maxRecDepth 20000
open Go.RowKit Reg

/-- From operation k on all is forced. -/
theorem any_forced {P : Program} {ops : Array Oper} {tab : List (List Nat)} {Q : Exit → Act → World → Prop} (n : Nat) (hs : sound ops = true) (ht : tableOk ops tab = true)
    (htail : ∀ i, n ≤ i → i < ops.size → ∀ j, j < i → j ∈ preds ops i ∨ j ∈ tab.getD i []) :
    ∀ (m k : Nat), k + m = ops.size → n ≤ k → ∀ (fuel : Nat) (listed : Array Bool) (a : Act) (W : World), listed.size = ops.size → (∀ j, j < k → listed.getD j false = true) → (∀ j, k ≤ j → listed.getD j false = false) →
      left listed ≤ fuel → wpList P ops Q (ops.toList.drop k) a W → wpAny P .any ops Q fuel listed a W := by
  intro m
  induction m with
  | zero =>
    intro k hk _ fuel listed a W hsz hb _ _ hw
    have hready : Region.ready .any ops listed = [] := by
      cases hq : Region.ready .any ops listed with
      | nil => rfl
      | cons j js =>
        exfalso
        have hj : j ∈ Region.ready .any ops listed := by rw [hq]; simp
        obtain ⟨hju, oj, hoj, _⟩ := mem_ready.1 hj
        have hjl : j < ops.size := (Array.getElem?_eq_some_iff.1 hoj).1
        have h1 := hb j (by omega)
        rw [Array.getD_eq_getD_getElem?, Array.getElem?_eq_getElem (by omega)] at h1 hju
        simp only [Option.getD_some] at h1 hju
        rw [h1] at hju
        cases hju
    rw [List.drop_eq_nil_of_le (by simp; omega)] at hw
    have hq : Q .normal a W := hw
    cases fuel with
    | zero => exact ⟨hready, hq⟩
    | succ f => exact ⟨fun _ => hq, fun j hj => by rw [hready] at hj; cases hj⟩
  | succ m ih =>
    intro k hk hnk fuel listed a W hsz hb hu hf hw
    have hlt : k < ops.size := by omega
    have unl : listed.getD k true = false := by
      have := hu k (Nat.le_refl _)
      rw [Array.getD_eq_getD_getElem?, Array.getElem?_eq_getElem (by omega)] at this ⊢
      exact this
    have hls := left_set unl
    cases fuel with
    | zero => omega
    | succ f =>
      have hok : ops[k]? = some ops[k] := by simp [hlt]
      refine ⟨fun hr => ?_, fun i hi => ?_⟩
      · have := all_listed hs hsz hr k hlt
        rw [hu k (Nat.le_refl _)] at this
        cases this
      · obtain ⟨hun, o, ho, hpre⟩ := mem_ready.1 hi
        have hil : i < ops.size := (Array.getElem?_eq_some_iff.1 ho).1
        have hun' : listed.getD i false = false := by
          rw [Array.getD_eq_getD_getElem?, Array.getElem?_eq_getElem (by omega)] at hun ⊢
          exact hun
        have hik : i = k := by
          rcases Nat.lt_trichotomy i k with h | h | h
          · rw [hb i h] at hun'; cases hun'
          · exact h
          · exfalso
            have hp : ∀ j ∈ preds ops i, listed.getD j false = true := fun j hj => by
              obtain ⟨e, he, hb, rfl⟩ := (mem_preds ho).1 hj
              exact hpre e he hb
            -- every operation below i that i waits for would be listed
            have hdn : ∀ (i' : Nat) (o' : Oper), ops[i']? = some o' → listed.getD i' false = true → ∀ j ∈ preds ops i', listed.getD j false = true := fun i' o' ho' hl j hj => by
              have hi'k : i' < k := by
                rcases Nat.lt_or_ge i' k with h1 | h1
                · exact h1
                · rw [hu i' h1] at hl; cases hl
              obtain ⟨e, he, hbd, rfl⟩ := (mem_preds ho').1 hj
              have := (sound_edge hs ho').1 e he hbd
              exact hb e.on (by omega)
            have h1 : listed.getD k false = true := by
              rcases htail i (by omega) hil k h with h2 | h2
              · exact hp k h2
              · exact table_listed ht hdn i hil hp k h2
            rw [hu k (Nat.le_refl _)] at h1
            cases h1
        subst hik
        rw [List.drop_eq_getElem_cons (by simpa using hlt)] at hw
        unfold wpList at hw
        unfold wpOp
        simp only [hok]
        have next : ∀ a' W', wpList P ops Q (ops.toList.drop (i + 1)) a' W' → wpAny P .any ops Q f (listed.setIfInBounds i true) a' W' := fun a' W' h =>
          ih (i + 1) (by omega) (by omega) f _ a' W' (by simpa using hsz) (fun j hj => by
            by_cases hji : j = i
            · subst hji; exact set_self (by omega)
            · exact set_mem (hb j (by omega))) (fun j hj => by
            have h1 := hu j (by omega)
            rw [Array.getD_eq_getD_getElem?, Array.getElem?_setIfInBounds_ne (by omega), ← Array.getD_eq_getD_getElem?]
            exact h1) (by omega) h
        have e1 : ops.toList[i]'(by simpa using hlt) = ops[i] := by simp
        rw [e1] at hw
        by_cases hwant : Region.wanted ops[i] (yielded ops a.tmps) = true
        · rw [if_pos hwant] at hw ⊢
          rcases hw with hw | hw
          · exact .inl (Oper.wp_mono next hw)
          · exact .inr hw
        · rw [if_neg hwant] at hw ⊢
          exact next _ _ hw

theorem any_of_inv_tails {P : Program} {ops : Array Oper} {tab : List (List Nat)} {fin : List Tmp} {G : World → Prop} {F : Tmp → Value → World → Prop} {a0 : Act} {Q : Exit → Act → World → Prop} (n : Nat)
    (hs : sound ops = true) (ht : tableOk ops tab = true) (hn : n < ops.size) (htail : ∀ i, n ≤ i → i < ops.size → ∀ j, j < i → j ∈ preds ops i ∨ j ∈ tab.getD i [])
    (hdl : ∀ (i : Nat) (o : Oper), ops[i]? = some o → n ≤ i → ∀ k, fin.contains k = true → o.dst ≠ some k) (hd : ∀ (i : Nat) (o : Oper), ops[i]? = some o → ∀ d, o.dst = some d → d < a0.tmps.size)
    (hops : ∀ (i : Nat) (o : Oper), ops[i]? = some o → i < n → asked P ops tab fin G F i o)
    (hend : ∀ a W, G W → a.defers = a0.defers → a.tmps.size = a0.tmps.size → (∀ k, fin.contains k = true → F k (a.tmps.getD k undef) W) → wpList P ops Q (ops.toList.drop n) a W) :
    ∀ (fuel : Nat) (listed : Array Bool) (a : Act) (W : World), left listed ≤ fuel → (∀ j, n ≤ j → listed.getD j false = false) → Inv ops fin G F a0 listed a W → wpAny P .any ops Q fuel listed a W := by
  intro fuel
  induction fuel with
  | zero =>
    intro listed a W hf hnl h
    have unl : listed.getD n true = false := by
      have := hnl n (Nat.le_refl _)
      rw [Array.getD_eq_getD_getElem?, Array.getElem?_eq_getElem (by have := h.lsize; omega)] at this ⊢
      exact this
    have := left_set unl
    omega
  | succ fuel ih =>
    intro listed a W hf hnl h
    by_cases hall : ∀ j, j < n → listed.getD j false = true
    · have hfin : ∀ k, fin.contains k = true → F k (a.tmps.getD k undef) W := fun k hk => h.facts k (fun j oj hj hdj => by
        rcases Nat.lt_or_ge j n with h1 | h1
        · exact hall j h1
        · exact absurd hdj (hdl j oj hj h1 k hk)) (.inl hk)
      exact any_forced n hs ht htail (ops.size - n) n (by omega) (Nat.le_refl _) _ listed a W h.lsize hall hnl hf (hend a W h.grown h.defers h.size hfin)
    · refine ⟨fun hr => ?_, fun i hi => ?_⟩
      · have := all_listed hs h.lsize hr n hn
        rw [hnl n (Nat.le_refl _)] at this
        cases this
      obtain ⟨hun, o, ho, hpre⟩ := mem_ready.1 hi
      have hil : i < ops.size := (Array.getElem?_eq_some_iff.1 ho).1
      have hun' : listed.getD i false = false := by
        rw [Array.getD_eq_getD_getElem?, Array.getElem?_eq_getElem (by rw [h.lsize]; exact hil)] at hun ⊢
        exact hun
      have hsd := sound_edge hs ho
      have hp : ∀ j ∈ preds ops i, listed.getD j false = true := fun j hj => by
        obtain ⟨e, he, hb, rfl⟩ := (mem_preds ho).1 hj
        exact hpre e he hb
      have hin : i < n := by
        rcases Nat.lt_or_ge i n with h1 | h1
        · exact h1
        · exfalso
          refine hall fun j hj => ?_
          rcases htail i h1 hil j (by omega) with h2 | h2
          · exact hp j h2
          · exact table_listed ht h.down i hil hp j h2
      have hF : ∀ k, (o.looksAt ops).contains k = true → F k (a.tmps.getD k undef) W := fun k hk => h.facts k (fun j oj hj hdj => by
        obtain ⟨e, he, hb, rfl⟩ := hsd.2 k (by simpa using hk) j oj hj hdj
        exact hpre e he hb) (.inr ⟨i, o, ho, hk, hun'⟩)
      obtain ⟨hw, hg⟩ := hops i o ho hin (fun t => a.tmps.getD t undef) W h.grown hF
      unfold wpOp
      simp only [ho, wanted_of hw, if_true]
      refine .inl (wp_of_gives hg fun v w' ⟨h1, h2, h3⟩ => ih _ _ _ ?_ (fun j hj => ?_) (inv_step ht h ho hp (hd i o ho) h1 h2 h3))
      · have := left_set hun
        omega
      · have h4 := hnl j hj
        rw [Array.getD_eq_getD_getElem?, Array.getElem?_setIfInBounds_ne (by omega), ← Array.getD_eq_getD_getElem?]
        exact h4

/-- **A REGION BY ITS FACTS, the last operations one behind the other.** -/
theorem region_tails_by {P : Program} {ops : Array Oper} {id : Nat} {a : Act} {w : World} {Q : Exit → Act → World → Prop} (n : Nat) (l : List (Tmp × Fact)) (fin : List Tmp) (G : World → Prop)
    (hm : P.follows .mixedOrders = true) (hs : sound ops = true) (ht : tableOk ops (table ops) = true) (hd : (ops.all fun o => (o.dst.map fun d => decide (d < a.tmps.size)).getD true) = true)
    (hl : (l.all fun p => ops.any fun o => o.dst == some p.1) = true) (hn : n < ops.size)
    (hall : ((List.range ops.size).all fun i => decide (i < n) || (List.range i).all fun j => (preds ops i).contains j || ((table ops).getD i []).contains j) = true)
    (hdl : (fin.all fun k => (ops.toList.drop n).all fun o => o.dst != some k) = true) (hG : G w.drew)
    (hops : AskedAll P ops (table ops) fin G (factsOf l a) 0 (ops.toList.take n))
    (hend : ∀ a' W, G W → a'.defers = a.defers → a'.tmps.size = a.tmps.size → (∀ k, fin.contains k = true → (factsOf l a k).holds (a'.tmps.getD k undef) W) → wpList P ops Q (ops.toList.drop n) a' W) : (Code.region id ops true).wp P Q a w := by
  refine wp_region_any hm (any_of_inv_tails (tab := table ops) (fin := fin) (G := G) (F := fun k v W => (factsOf l a k).holds v W) (a0 := a) n hs ht hn (fun i h1 h2 j hj => ?_) (fun i o hi hni k hk e => ?_) ?_ (fun i o hi hin => ?_) hend _ _ _ _ ?_ ?_ ?_)
  · have h3 := List.all_eq_true.1 hall i (List.mem_range.2 h2)
    have h4 : decide (i < n) = false := by simpa using h1
    rw [h4, Bool.false_or] at h3
    have h5 := List.all_eq_true.1 h3 j (List.mem_range.2 hj)
    rw [Bool.or_eq_true] at h5
    rcases h5 with h5 | h5
    · exact .inl (by simpa using h5)
    · exact .inr (by simpa using h5)
  · have h1 := List.all_eq_true.1 hdl k (by simpa using hk)
    have h2 := List.all_eq_true.1 h1 o (List.mem_iff_getElem?.2 ⟨i - n, by rw [List.getElem?_drop, show n + (i - n) = i by omega]; simpa using hi⟩)
    rw [e] at h2
    simp at h2
  · intro i o hi d hdst
    have := Array.all_eq_true_iff_forall_mem.1 hd o (Array.mem_of_getElem? hi)
    simpa [hdst] using this
  · have := asked_of_all (ops.toList.take n) 0 hops i o (by rw [List.getElem?_take, if_pos hin]; simpa using hi)
    rwa [Nat.zero_add] at this
  · unfold Reg.left
    refine Nat.le_trans (List.length_filter_le _ _) (by simp)
  · intro j _
    rw [Array.getD_eq_getD_getElem?]
    simp [Array.getElem?_replicate]
    split <;> simp
  · refine ⟨hG, rfl, rfl, by simp, fun i o hi hl => ?_, fun k hk _ => ?_⟩
    · rw [Array.getD_eq_getD_getElem?] at hl
      simp [Array.getElem?_replicate] at hl
      split at hl <;> simp at hl
    · cases hkl : l.lookup k with
      | none => simp [factsOf, hkl, Fact.holds]
      | some fk =>
        exfalso
        have hmem : (k, fk) ∈ l := by
          clear hl hops hend
          induction l with
          | nil => simp at hkl
          | cons p l ih =>
            obtain ⟨p1, p2⟩ := p
            rw [List.lookup_cons] at hkl
            by_cases hkp : (k == p1) = true
            · rw [hkp] at hkl
              simp at hkl hkp
              subst hkl hkp
              simp
            · simp only [hkp] at hkl
              exact List.mem_cons_of_mem _ (ih hkl)
        have h := List.all_eq_true.1 hl _ hmem
        obtain ⟨o, ho, hdst⟩ := Array.any_eq_true'.1 h
        obtain ⟨i, hi⟩ := Array.mem_iff_getElem?.1 ho
        have := hk i o hi (by simpa using hdst)
        rw [Array.getD_eq_getD_getElem?] at this
        simp [Array.getElem?_replicate] at this
        split at this <;> simp at this

end Go.Proofs.YtdhfabjkpffhnaaDoor

