/- A region that draws its order, told by facts, with one operation behind all the others: what that one does is walked. -/
import Derived.Test.YtdhfabjkpffhnaaDoorGCR
namespace Go.Proofs.YtdhfabjkpffhnaaDoor
set_option maxRecDepth 20000
open Go.RowKit Reg

theorem any_of_inv_tail {P : Program} {ops : Array Oper} {tab : List (List Nat)} {fin : List Tmp} {G : World → Prop} {F : Tmp → Value → World → Prop} {a0 : Act} {Q : Exit → Act → World → Prop} (n : Nat) (ol : Oper)
    (hs : sound ops = true) (ht : tableOk ops tab = true) (hn : ops[n]? = some ol) (hsize : ops.size = n + 1) (hgd : ol.guard = none) (hall : ((List.range n).all fun j => (preds ops n).contains j || (tab.getD n []).contains j) = true)
    (hdl : ol.dst = none) (hd : ∀ (i : Nat) (o : Oper), ops[i]? = some o → ∀ d, o.dst = some d → d < a0.tmps.size)
    (hops : ∀ (i : Nat) (o : Oper), ops[i]? = some o → i < n → asked P ops tab fin G F i o)
    (hend : ∀ a W, G W → a.defers = a0.defers → a.tmps.size = a0.tmps.size → (∀ k, fin.contains k = true → F k (a.tmps.getD k undef) W) → wpList P ops Q [ol] a W) :
    ∀ (fuel : Nat) (listed : Array Bool) (a : Act) (W : World), left listed ≤ fuel → listed.getD n false = false → Inv ops fin G F a0 listed a W → wpAny P .any ops Q fuel listed a W := by
  have hlt : n < ops.size := by omega
  have unl : ∀ (listed : Array Bool), listed.size = ops.size → listed.getD n false = false → listed.getD n true = false := fun listed hl h => by
    rw [Array.getD_eq_getD_getElem?, Array.getElem?_eq_getElem (by omega)] at h ⊢
    exact h
  intro fuel
  induction fuel with
  | zero =>
    intro listed a W hf hnl h
    have := left_set (unl listed h.lsize hnl)
    omega
  | succ fuel ih =>
    intro listed a W hf hnl h
    refine ⟨fun hr => ?_, fun i hi => ?_⟩
    · have := all_listed hs h.lsize hr n hlt
      rw [hnl] at this
      cases this
    obtain ⟨hun, o, ho, hpre⟩ := mem_ready.1 hi
    have hil : i < ops.size := (Array.getElem?_eq_some_iff.1 ho).1
    have hun' : listed.getD i false = false := by
      rw [Array.getD_eq_getD_getElem?, Array.getElem?_eq_getElem (by rw [h.lsize]; exact hil)] at hun ⊢
      exact hun
    have hsd := sound_edge hs ho
    have hp : ∀ j ∈ preds ops i, listed.getD j false = true := fun j hj => by
      obtain ⟨e, he, hb, rfl⟩ := (mem_preds ho).1 hj
      exact hpre e he hb
    by_cases hin : i = n
    · subst hin
      rw [hn] at ho
      cases ho
      have hbelow : ∀ j, j < i → listed.getD j false = true := fun j hj => by
        have h1 := List.all_eq_true.1 hall j (List.mem_range.2 hj)
        rw [Bool.or_eq_true] at h1
        rcases h1 with h1 | h1
        · exact hp j (by simpa using h1)
        · exact table_listed ht h.down i hil hp j (by simpa using h1)
      have hfin : ∀ k, fin.contains k = true → F k (a.tmps.getD k undef) W := fun k hk => h.facts k (fun j oj hj hdj => by
        have hjl : j < ops.size := (Array.getElem?_eq_some_iff.1 hj).1
        have hjn : j ≠ i := by
          rintro rfl
          rw [hn] at hj
          cases hj
          rw [hdl] at hdj
          cases hdj
        exact hbelow j (by omega)) (.inl hk)
      have hw := hend a W h.grown h.defers h.size hfin
      have hwant : Region.wanted ol (yielded ops a.tmps) = true := by unfold Region.wanted; rw [hgd]
      unfold wpOp
      simp only [hn, hwant, if_true]
      unfold wpList at hw
      simp only [hwant, if_true] at hw
      have hdone : ∀ a' w', Q .normal a' w' → wpAny P .any ops Q fuel (listed.setIfInBounds i true) a' w' := fun a' w' hq => by
        have hready : Region.ready .any ops (listed.setIfInBounds i true) = [] := by
          cases hq : Region.ready .any ops (listed.setIfInBounds i true) with
          | nil => rfl
          | cons j js =>
            exfalso
            have hj : j ∈ Region.ready .any ops (listed.setIfInBounds i true) := by rw [hq]; simp
            obtain ⟨hju, oj, hoj, _⟩ := mem_ready.1 hj
            have hjl : j < ops.size := (Array.getElem?_eq_some_iff.1 hoj).1
            have h1 : (listed.setIfInBounds i true).getD j false = true := by
              by_cases hji : j = i
              · subst hji
                exact set_self (by rw [h.lsize]; exact hjl)
              · exact set_mem (hbelow j (by omega))
            have hjs : j < (listed.setIfInBounds i true).size := by simp [h.lsize]; exact hjl
            rw [Array.getD_eq_getD_getElem?, Array.getElem?_eq_getElem hjs] at h1 hju
            simp only [Option.getD_some] at h1 hju
            rw [h1] at hju
            cases hju
        cases fuel with
        | zero => exact ⟨hready, hq⟩
        | succ f => exact ⟨fun _ => hq, fun j hj => by rw [hready] at hj; cases hj⟩
      rcases hw with hw | hw
      · exact .inl (Oper.wp_mono hdone hw)
      · exact .inr hw
    · have hF : ∀ k, (o.looksAt ops).contains k = true → F k (a.tmps.getD k undef) W := fun k hk => h.facts k (fun j oj hj hdj => by
        obtain ⟨e, he, hb, rfl⟩ := hsd.2 k (by simpa using hk) j oj hj hdj
        exact hpre e he hb) (.inr ⟨i, o, ho, hk, hun'⟩)
      obtain ⟨hw, hg⟩ := hops i o ho (by omega) (fun t => a.tmps.getD t undef) W h.grown hF
      unfold wpOp
      simp only [ho, wanted_of hw, if_true]
      refine .inl (wp_of_gives hg fun v w' ⟨h1, h2, h3⟩ => ih _ _ _ ?_ ?_ (inv_step ht h ho hp (hd i o ho) h1 h2 h3))
      · have := left_set hun
        omega
      · rw [Array.getD_eq_getD_getElem?, Array.getElem?_setIfInBounds_ne hin, ← Array.getD_eq_getD_getElem?]
        exact hnl

/-- **A REGION BY ITS FACTS, the last operation behind all others.** -/
theorem region_tail_by {P : Program} {ops : Array Oper} {id : Nat} {a : Act} {w : World} {Q : Exit → Act → World → Prop} (n : Nat) (ol : Oper) (l : List (Tmp × Fact)) (fin : List Tmp) (G : World → Prop)
    (hm : P.follows .mixedOrders = true) (hs : sound ops = true) (ht : tableOk ops (table ops) = true) (hd : (ops.all fun o => (o.dst.map fun d => decide (d < a.tmps.size)).getD true) = true)
    (hl : (l.all fun p => ops.any fun o => o.dst == some p.1) = true)
    (hn : ops[n]? = some ol) (hsize : ops.size = n + 1) (hgd : ol.guard = none) (hdl : ol.dst = none) (hall : ((List.range n).all fun j => (preds ops n).contains j || ((table ops).getD n []).contains j) = true) (hG : G w.drew)
    (hops : AskedAll P ops (table ops) fin G (factsOf l a) 0 (ops.toList.take n))
    (hend : ∀ a' W, G W → a'.defers = a.defers → a'.tmps.size = a.tmps.size → (∀ k, fin.contains k = true → (factsOf l a k).holds (a'.tmps.getD k undef) W) → wpList P ops Q [ol] a' W) : (Code.region id ops true).wp P Q a w := by
  refine wp_region_any hm (any_of_inv_tail (tab := table ops) (fin := fin) (G := G) (F := fun k v W => (factsOf l a k).holds v W) (a0 := a) n ol hs ht hn hsize hgd hall hdl ?_ (fun i o hi hin => ?_) hend _ _ _ _ ?_ ?_ ?_)
  · intro i o hi d hdst
    have := Array.all_eq_true_iff_forall_mem.1 hd o (Array.mem_of_getElem? hi)
    simpa [hdst] using this
  · have := asked_of_all (ops.toList.take n) 0 hops i o (by rw [List.getElem?_take, if_pos hin]; simpa using hi)
    rwa [Nat.zero_add] at this
  · unfold Reg.left
    refine Nat.le_trans (List.length_filter_le _ _) (by simp)
  · rw [Array.getD_eq_getD_getElem?]
    simp [Array.getElem?_replicate]
    split <;> simp
  · refine ⟨hG, rfl, rfl, by simp, fun i o hi hl => ?_, fun k hk _ => ?_⟩
    · rw [Array.getD_eq_getD_getElem?] at hl
      simp [Array.getElem?_replicate] at hl
      split at hl <;> simp at hl
    · cases hkl : l.lookup k with
      | none => simp [factsOf, hkl, Fact.holds]
      | some fk =>
        exfalso
        have hmem : (k, fk) ∈ l := by
          clear hl hops hend
          induction l with
          | nil => simp at hkl
          | cons p l ih =>
            obtain ⟨p1, p2⟩ := p
            rw [List.lookup_cons] at hkl
            by_cases hkp : (k == p1) = true
            · rw [hkp] at hkl
              simp at hkl hkp
              subst hkl hkp
              simp
            · simp only [hkp] at hkl
              exact List.mem_cons_of_mem _ (ih hkl)
        have h := List.all_eq_true.1 hl _ hmem
        obtain ⟨o, ho, hdst⟩ := Array.any_eq_true'.1 h
        obtain ⟨i, hi⟩ := Array.mem_iff_getElem?.1 ho
        have := hk i o hi (by simpa using hdst)
        rw [Array.getD_eq_getD_getElem?] at this
        simp [Array.getElem?_replicate] at this
        split at this <;> simp at this

end Go.Proofs.YtdhfabjkpffhnaaDoor

