/- A region that draws its order, told by facts, with one operation behind all the others that writes a slot which others read ('x = append(x, x[k])'). -/
import Derived.Test.YtdhfabjkpffhnabDoorTail
namespace Go.Proofs.YtdhfabjkpffhnabDoor
set_option maxRecDepth 20000
open Go.RowKit Reg

theorem any_of_inv_last {P : Program} {ops ops0 : Array Oper} {tab : List (List Nat)} {fin : List Tmp} {G : World → Prop} {F : Tmp → Value → World → Prop} {a0 : Act} {Q : Exit → Act → World → Prop} (n : Nat) (ol ol0 : Oper) (hsz : ops0.size = ops.size) (hsame : ∀ i, i < n → ops0[i]? = ops[i]?) (hn0 : ops0[n]? = some ol0) (hafter : ol0.after = ol.after)
    (hs : sound ops0 = true) (ht : tableOk ops0 tab = true) (hn : ops[n]? = some ol) (hsize : ops.size = n + 1) (hgd : ol.guard = none) (hall : ((List.range n).all fun j => (preds ops0 n).contains j || (tab.getD n []).contains j) = true)
    (hdl : ol0.dst = none) (hd : ∀ (i : Nat) (o : Oper), ops0[i]? = some o → ∀ d, o.dst = some d → d < a0.tmps.size)
    (hops : ∀ (i : Nat) (o : Oper), ops0[i]? = some o → i < n → asked P ops0 tab fin G F i o)
    (hend : ∀ a W, G W → a.defers = a0.defers → a.tmps.size = a0.tmps.size → (∀ k, fin.contains k = true → F k (a.tmps.getD k undef) W) → wpList P ops Q [ol] a W) :
    ∀ (fuel : Nat) (listed : Array Bool) (a : Act) (W : World), left listed ≤ fuel → listed.getD n false = false → Inv ops0 fin G F a0 listed a W → wpAny P .any ops Q fuel listed a W := by
  have hlt : n < ops0.size := by omega
  have hcase : ∀ (i : Nat) (o : Oper), ops[i]? = some o → (i < n ∧ ops0[i]? = some o) ∨ (i = n ∧ o = ol) := fun i o ho => by
    have hil := (Array.getElem?_eq_some_iff.1 ho).1
    by_cases h : i < n
    · exact .inl ⟨h, by rw [hsame i h]; exact ho⟩
    · obtain rfl : i = n := by omega
      rw [hn] at ho
      cases ho
      exact .inr ⟨rfl, rfl⟩
  have hready0 : ∀ (listed : Array Bool) (j : Nat), j ∈ Region.ready .any ops0 listed → j ∈ Region.ready .any ops listed := fun listed j hj => by
    obtain ⟨h1, o, ho, h2⟩ := mem_ready.1 hj
    by_cases h : j < n
    · exact mem_ready.2 ⟨h1, o, by rw [← hsame j h]; exact ho, h2⟩
    · have hil := (Array.getElem?_eq_some_iff.1 ho).1
      obtain rfl : j = n := by omega
      rw [hn0] at ho
      cases ho
      exact mem_ready.2 ⟨h1, ol, hn, by rw [← hafter]; exact h2⟩
  have hempty : ∀ (listed : Array Bool), Region.ready .any ops listed = [] → Region.ready .any ops0 listed = [] := fun listed hr => by
    cases hq : Region.ready .any ops0 listed with
    | nil => rfl
    | cons j js =>
      have := hready0 listed j (by rw [hq]; simp)
      rw [hr] at this
      cases this
  have unl : ∀ (listed : Array Bool), listed.size = ops0.size → listed.getD n false = false → listed.getD n true = false := fun listed hl h => by
    rw [Array.getD_eq_getD_getElem?, Array.getElem?_eq_getElem (by omega)] at h ⊢
    exact h
  intro fuel
  induction fuel with
  | zero =>
    intro listed a W hf hnl h
    have := left_set (unl listed h.lsize hnl)
    omega
  | succ fuel ih =>
    intro listed a W hf hnl h
    refine ⟨fun hr => ?_, fun i hi => ?_⟩
    · have := all_listed hs h.lsize (hempty _ hr) n hlt
      rw [hnl] at this
      cases this
    obtain ⟨hun, o, ho, hpre⟩ := mem_ready.1 hi
    have hil : i < ops0.size := by rw [hsz]; exact (Array.getElem?_eq_some_iff.1 ho).1
    have hun' : listed.getD i false = false := by
      rw [Array.getD_eq_getD_getElem?, Array.getElem?_eq_getElem (by rw [h.lsize]; exact hil)] at hun ⊢
      exact hun
    rcases hcase i o ho with ⟨hin', ho0⟩ | ⟨hin, hoo⟩
    rotate_left
    · subst hin
      subst hoo
      have hp : ∀ j ∈ preds ops0 i, listed.getD j false = true := fun j hj => by
        obtain ⟨e, he, hb, rfl⟩ := (mem_preds hn0).1 hj
        exact hpre e (by rw [← hafter]; exact he) hb
      have hbelow : ∀ j, j < i → listed.getD j false = true := fun j hj => by
        have h1 := List.all_eq_true.1 hall j (List.mem_range.2 hj)
        rw [Bool.or_eq_true] at h1
        rcases h1 with h1 | h1
        · exact hp j (by simpa using h1)
        · exact table_listed ht h.down i hil hp j (by simpa using h1)
      have hfin : ∀ k, fin.contains k = true → F k (a.tmps.getD k undef) W := fun k hk => h.facts k (fun j oj hj hdj => by
        have hjl : j < ops0.size := (Array.getElem?_eq_some_iff.1 hj).1
        have hjn : j ≠ i := by
          rintro rfl
          rw [hn0] at hj
          cases hj
          rw [hdl] at hdj
          cases hdj
        exact hbelow j (by omega)) (.inl hk)
      have hw := hend a W h.grown h.defers h.size hfin
      have hwant : Region.wanted o (yielded ops a.tmps) = true := by unfold Region.wanted; rw [hgd]
      unfold wpOp
      simp only [hn, hwant, if_true]
      unfold wpList at hw
      simp only [hwant, if_true] at hw
      have hdone : ∀ a' w', Q .normal a' w' → wpAny P .any ops Q fuel (listed.setIfInBounds i true) a' w' := fun a' w' hq => by
        have hready : Region.ready .any ops (listed.setIfInBounds i true) = [] := by
          cases hq : Region.ready .any ops (listed.setIfInBounds i true) with
          | nil => rfl
          | cons j js =>
            exfalso
            have hj : j ∈ Region.ready .any ops (listed.setIfInBounds i true) := by rw [hq]; simp
            obtain ⟨hju, oj, hoj, _⟩ := mem_ready.1 hj
            have hjl : j < ops.size := (Array.getElem?_eq_some_iff.1 hoj).1
            have h1 : (listed.setIfInBounds i true).getD j false = true := by
              by_cases hji : j = i
              · subst hji
                exact set_self (by rw [h.lsize, hsz]; exact hjl)
              · exact set_mem (hbelow j (by omega))
            have hjs : j < (listed.setIfInBounds i true).size := by simp [h.lsize, hsz]; exact hjl
            rw [Array.getD_eq_getD_getElem?, Array.getElem?_eq_getElem hjs] at h1 hju
            simp only [Option.getD_some] at h1 hju
            rw [h1] at hju
            cases hju
        cases fuel with
        | zero => exact ⟨hready, hq⟩
        | succ f => exact ⟨fun _ => hq, fun j hj => by rw [hready] at hj; cases hj⟩
      rcases hw with hw | hw
      · exact .inl (Oper.wp_mono hdone hw)
      · exact .inr hw
    · have hin : i ≠ n := by omega
      have hsd := sound_edge hs ho0
      have hp : ∀ j ∈ preds ops0 i, listed.getD j false = true := fun j hj => by
        obtain ⟨e, he, hb, rfl⟩ := (mem_preds ho0).1 hj
        exact hpre e he hb
      have hF : ∀ k, (o.looksAt ops0).contains k = true → F k (a.tmps.getD k undef) W := fun k hk => h.facts k (fun j oj hj hdj => by
        obtain ⟨e, he, hb, rfl⟩ := hsd.2 k (by simpa using hk) j oj hj hdj
        exact hpre e he hb) (.inr ⟨i, o, ho0, hk, hun'⟩)
      obtain ⟨hw, hg⟩ := hops i o ho0 (by omega) (fun t => a.tmps.getD t undef) W h.grown hF
      have hw2 : wantedBy ops o (fun t => a.tmps.getD t undef) := by
        unfold wantedBy at hw ⊢
        cases hgo : o.guard with
        | none => trivial
        | some p =>
          obtain ⟨j, want⟩ := p
          simp only [hgo] at hw ⊢
          obtain ⟨d, hd1, hd2⟩ := hw
          refine ⟨d, ?_, hd2⟩
          by_cases hjn : j < n
          · rw [← hsame j hjn]; exact hd1
          · exfalso
            by_cases hje : j = n
            · subst hje
              rw [hn0] at hd1
              simp [hdl] at hd1
            · rw [Array.getElem?_eq_none (by omega)] at hd1
              simp at hd1
      unfold wpOp
      simp only [ho, wanted_of hw2, if_true]
      refine .inl (wp_of_gives hg fun v w' ⟨h1, h2, h3⟩ => ih _ _ _ ?_ ?_ (inv_step ht h ho0 hp (hd i o ho0) h1 h2 h3))
      · have := left_set hun
        omega
      · rw [Array.getD_eq_getD_getElem?, Array.getElem?_setIfInBounds_ne hin, ← Array.getD_eq_getD_getElem?]
        exact hnl

theorem lookup_all {ops : Array Oper} {k : Tmp} {fk : Fact} (j : Tmp) : ∀ {l : List (Tmp × Fact)}, (l.all fun p => p.1 == j || ops.any fun o => o.dst == some p.1) = true → l.lookup k = some fk → k ≠ j → (ops.any fun o => o.dst == some k) = true
  | [], _, hk, _ => by simp at hk
  | (p1, p2) :: l, h, hk, hne => by
    rw [List.all_cons, Bool.and_eq_true] at h
    rw [List.lookup_cons] at hk
    by_cases hkp : (k == p1) = true
    · have e : k = p1 := by simpa using hkp
      subst e
      have h1 := h.1
      simp only [Bool.or_eq_true] at h1
      rcases h1 with h1 | h1
      · exact absurd (by simpa using h1) hne
      · exact h1
    · simp only [hkp] at hk
      exact lookup_all j h.2 hk hne

/-- **A REGION BY ITS FACTS, the last operation behind all others; that one may write a slot that others read.** -/
theorem region_last_by {P : Program} {ops : Array Oper} {id : Nat} {a : Act} {w : World} {Q : Exit → Act → World → Prop} (n : Nat) (ol : Oper) (ops0 : Array Oper) (he : ops0 = ops.setIfInBounds n { ol with dst := none }) (l : List (Tmp × Fact)) (fin : List Tmp) (G : World → Prop)
    (hm : P.follows .mixedOrders = true) (hs : sound ops0 = true) (ht : tableOk ops0 (table ops0) = true) (hd : (ops0.all fun o => (o.dst.map fun d => decide (d < a.tmps.size)).getD true) = true)
    (hl : ∀ k fk, l.lookup k = some fk → (ops0.any fun o => o.dst == some k) = true ∨ fk.holds (a.tmps.getD k undef) w.drew)
    (hn : ops[n]? = some ol) (hsize : ops.size = n + 1) (hgd : ol.guard = none) (hall : ((List.range n).all fun j => (preds ops0 n).contains j || ((table ops0).getD n []).contains j) = true) (hG : G w.drew)
    (hops : AskedAll P ops0 (table ops0) fin G (factsOf l a) 0 (ops0.toList.take n))
    (hend : ∀ a' W, G W → a'.defers = a.defers → a'.tmps.size = a.tmps.size → (∀ k, fin.contains k = true → (factsOf l a k).holds (a'.tmps.getD k undef) W) → wpList P ops Q [ol] a' W) : (Code.region id ops true).wp P Q a w := by
  have hsz : ops0.size = ops.size := by rw [he]; simp
  have hn0 : ops0[n]? = some { ol with dst := none } := by rw [he, Array.getElem?_setIfInBounds_self]; simp; omega
  refine wp_region_any hm (any_of_inv_last (ops0 := ops0) (tab := table ops0) (fin := fin) (G := G) (F := fun k v W => (factsOf l a k).holds v W) (a0 := a) n ol _ hsz (fun i hi => by rw [he, Array.getElem?_setIfInBounds_ne (by omega)]) hn0 rfl hs ht hn hsize hgd hall rfl ?_ (fun i o hi hin => ?_) hend _ _ _ _ ?_ ?_ ?_)
  · intro i o hi d hdst
    have := Array.all_eq_true_iff_forall_mem.1 hd o (Array.mem_of_getElem? hi)
    simpa [hdst] using this
  · have := asked_of_all (ops0.toList.take n) 0 hops i o (by rw [List.getElem?_take, if_pos hin]; simpa using hi)
    rwa [Nat.zero_add] at this
  · unfold Reg.left
    refine Nat.le_trans (List.length_filter_le _ _) (by simp)
  · rw [Array.getD_eq_getD_getElem?]
    simp [Array.getElem?_replicate]
    split <;> simp
  · refine ⟨hG, rfl, rfl, by simp [hsz], fun i o hi hl => ?_, fun k hk _ => ?_⟩
    · rw [Array.getD_eq_getD_getElem?] at hl
      simp [Array.getElem?_replicate] at hl
      split at hl <;> simp at hl
    · cases hkl : l.lookup k with
      | none => simp [factsOf, hkl, Fact.holds]
      | some fk =>
        rcases hl k fk hkl with h | h
        rotate_left
        · simp only [factsOf, hkl, Option.getD_some]
          exact h
        exfalso
        obtain ⟨o, ho, hdst⟩ := Array.any_eq_true'.1 h
        obtain ⟨i, hi⟩ := Array.mem_iff_getElem?.1 ho
        have := hk i o hi (by simpa using hdst)
        rw [Array.getD_eq_getD_getElem?] at this
        simp [Array.getElem?_replicate] at this
        split at this <;> simp at this

end Go.Proofs.YtdhfabjkpffhnabDoor
