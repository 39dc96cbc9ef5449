/- A region that draws its order, told by facts; its last operations each wait for all the earlier ones and are walked; they may write slots that earlier ones read. -/
import Derived.Test.YtgbhfolbkgibfaaLAI
import Derived.Test.YtgbhfolbkgibfaaLAJ
namespace Go.Proofs.Ytgbhfolbkgibfaa
set_option maxRecDepth 20000
open Go.RowKit Reg

section
variable {ops ops0 : Array Oper}

theorem after_get (ha : ∀ i : Nat, (ops0[i]?).map Oper.after = (ops[i]?).map Oper.after) {i : Nat} {o : Oper} (h : ops[i]? = some o) : ∃ o0, ops0[i]? = some o0 ∧ o0.after = o.after := by
  have := ha i
  rw [h] at this
  simp only [Option.map_some] at this
  obtain ⟨o0, h1, h2⟩ := Option.map_eq_some_iff.1 this
  exact ⟨o0, h1, h2⟩
theorem after_get0 (ha : ∀ i : Nat, (ops0[i]?).map Oper.after = (ops[i]?).map Oper.after) {i : Nat} {o : Oper} (h : ops0[i]? = some o) : ∃ o0, ops[i]? = some o0 ∧ o0.after = o.after := after_get (fun i => (ha i).symm) h
theorem ready_after (ha : ∀ i : Nat, (ops0[i]?).map Oper.after = (ops[i]?).map Oper.after) (listed : Array Bool) (h : Region.ready .any ops listed = []) : Region.ready .any ops0 listed = [] := by
  cases hq : Region.ready .any ops0 listed with
  | nil => rfl
  | cons j js =>
    exfalso
    have hj : j ∈ Region.ready .any ops0 listed := by rw [hq]; simp
    obtain ⟨h1, o, ho, h2⟩ := mem_ready.1 hj
    obtain ⟨o', ho', e⟩ := after_get0 ha ho
    have : j ∈ Region.ready .any ops listed := mem_ready.2 ⟨h1, o', ho', by rw [e]; exact h2⟩
    rw [h] at this
    cases this
theorem preds_after (ha : ∀ i : Nat, (ops0[i]?).map Oper.after = (ops[i]?).map Oper.after) {i j : Nat} (h : j ∈ preds ops0 i) {o : Oper} (ho : ops[i]? = some o) : ∃ e ∈ o.after, Region.binds .any e = true ∧ e.on = j := by
  obtain ⟨o0, ho0, e⟩ := after_get ha ho
  have := (mem_preds ho0).1 h
  rwa [e] at this

/-- From operation k on all is forced. -/
theorem any_forced0 {P : Program} {tab : List (List Nat)} {Q : Exit → Act → World → Prop} (n : Nat) (ha : ∀ i : Nat, (ops0[i]?).map Oper.after = (ops[i]?).map Oper.after) (hz : ops0.size = ops.size) (hs : sound ops0 = true) (ht : tableOk ops0 tab = true)
    (htail : ∀ i, n ≤ i → i < ops.size → ∀ j, j < i → j ∈ preds ops0 i ∨ j ∈ tab.getD i []) :
    ∀ (m k : Nat), k + m = ops.size → n ≤ k → ∀ (fuel : Nat) (listed : Array Bool) (a : Act) (W : World), listed.size = ops.size → (∀ j, j < k → listed.getD j false = true) → (∀ j, k ≤ j → listed.getD j false = false) →
      left listed ≤ fuel → wpList P ops Q (ops.toList.drop k) a W → wpAny P .any ops Q fuel listed a W := by
  intro m
  induction m with
  | zero =>
    intro k hk _ fuel listed a W hsz hb _ _ hw
    have hready : Region.ready .any ops listed = [] := by
      cases hq : Region.ready .any ops listed with
      | nil => rfl
      | cons j js =>
        exfalso
        have hj : j ∈ Region.ready .any ops listed := by rw [hq]; simp
        obtain ⟨hju, oj, hoj, _⟩ := mem_ready.1 hj
        have hjl : j < ops.size := (Array.getElem?_eq_some_iff.1 hoj).1
        have h1 := hb j (by omega)
        rw [Array.getD_eq_getD_getElem?, Array.getElem?_eq_getElem (by omega)] at h1 hju
        simp only [Option.getD_some] at h1 hju
        rw [h1] at hju
        cases hju
    rw [List.drop_eq_nil_of_le (by simp; omega)] at hw
    have hq : Q .normal a W := hw
    cases fuel with
    | zero => exact ⟨hready, hq⟩
    | succ f => exact ⟨fun _ => hq, fun j hj => by rw [hready] at hj; cases hj⟩
  | succ m ih =>
    intro k hk hnk fuel listed a W hsz hb hu hf hw
    have hlt : k < ops.size := by omega
    have unl : listed.getD k true = false := by
      have := hu k (Nat.le_refl _)
      rw [Array.getD_eq_getD_getElem?, Array.getElem?_eq_getElem (by omega)] at this ⊢
      exact this
    have hls := left_set unl
    cases fuel with
    | zero => omega
    | succ f =>
      have hok : ops[k]? = some ops[k] := by simp [hlt]
      refine ⟨fun hr => ?_, fun i hi => ?_⟩
      · have := all_listed hs (hsz.trans hz.symm) (ready_after ha _ hr) k (by omega)
        rw [hu k (Nat.le_refl _)] at this
        cases this
      · obtain ⟨hun, o, ho, hpre⟩ := mem_ready.1 hi
        have hil : i < ops.size := (Array.getElem?_eq_some_iff.1 ho).1
        have hun' : listed.getD i false = false := by
          rw [Array.getD_eq_getD_getElem?, Array.getElem?_eq_getElem (by omega)] at hun ⊢
          exact hun
        have hik : i = k := by
          rcases Nat.lt_trichotomy i k with h | h | h
          · rw [hb i h] at hun'; cases hun'
          · exact h
          · exfalso
            have hp : ∀ j ∈ preds ops0 i, listed.getD j false = true := fun j hj => by
              obtain ⟨e, he, hb, rfl⟩ := preds_after ha hj ho
              exact hpre e he hb
            -- every operation below i that i waits for would be listed
            have hdn : ∀ (i' : Nat) (o' : Oper), ops0[i']? = some o' → listed.getD i' false = true → ∀ j ∈ preds ops0 i', listed.getD j false = true := fun i' o' ho' hl j hj => by
              have hi'k : i' < k := by
                rcases Nat.lt_or_ge i' k with h1 | h1
                · exact h1
                · rw [hu i' h1] at hl; cases hl
              obtain ⟨e, he, hbd, rfl⟩ := (mem_preds ho').1 hj
              have := (sound_edge hs ho').1 e he hbd
              exact hb e.on (by omega)
            have h1 : listed.getD k false = true := by
              rcases htail i (by omega) hil k h with h2 | h2
              · exact hp k h2
              · exact table_listed ht hdn i (by omega) hp k h2
            rw [hu k (Nat.le_refl _)] at h1
            cases h1
        subst hik
        rw [List.drop_eq_getElem_cons (by simpa using hlt)] at hw
        unfold wpList at hw
        unfold wpOp
        simp only [hok]
        have next : ∀ a' W', wpList P ops Q (ops.toList.drop (i + 1)) a' W' → wpAny P .any ops Q f (listed.setIfInBounds i true) a' W' := fun a' W' h =>
          ih (i + 1) (by omega) (by omega) f _ a' W' (by simpa using hsz) (fun j hj => by
            by_cases hji : j = i
            · subst hji; exact set_self (by omega)
            · exact set_mem (hb j (by omega))) (fun j hj => by
            have h1 := hu j (by omega)
            rw [Array.getD_eq_getD_getElem?, Array.getElem?_setIfInBounds_ne (by omega), ← Array.getD_eq_getD_getElem?]
            exact h1) (by omega) h
        have e1 : ops.toList[i]'(by simpa using hlt) = ops[i] := by simp
        rw [e1] at hw
        by_cases hwant : Region.wanted ops[i] (yielded ops a.tmps) = true
        · rw [if_pos hwant] at hw ⊢
          rcases hw with hw | hw
          · exact .inl (Oper.wp_mono next hw)
          · exact .inr hw
        · rw [if_neg hwant] at hw ⊢
          exact next _ _ hw

theorem any_of_inv_latetails {P : Program} {tab : List (List Nat)} {fin : List Tmp} {G : World → Prop} {F : Tmp → Value → World → Prop} {a0 : Act} {Q : Exit → Act → World → Prop} (n : Nat)
    (ha : ∀ i : Nat, (ops0[i]?).map Oper.after = (ops[i]?).map Oper.after) (hsz : ops0.size = ops.size) (hsame : ∀ i, i < n → ops0[i]? = ops[i]?) (hnone : ∀ (i : Nat) (o : Oper), ops0[i]? = some o → n ≤ i → o.dst = none)
    (hs : sound ops0 = true) (ht : tableOk ops0 tab = true) (hn : n < ops.size) (htail : ∀ i, n ≤ i → i < ops.size → ∀ j, j < i → j ∈ preds ops0 i ∨ j ∈ tab.getD i [])
    (hd : ∀ (i : Nat) (o : Oper), ops0[i]? = some o → ∀ d, o.dst = some d → d < a0.tmps.size)
    (hops : ∀ (i : Nat) (o : Oper), ops0[i]? = some o → i < n → asked2 P ops0 tab fin G F i o)
    (hend : ∀ a W, G W → a.defers = a0.defers → a.tmps.size = a0.tmps.size → (∀ k, fin.contains k = true → F k (a.tmps.getD k undef) W) → wpList P ops Q (ops.toList.drop n) a W) :
    ∀ (fuel : Nat) (listed : Array Bool) (a : Act) (W : World), left listed ≤ fuel → (∀ j, n ≤ j → listed.getD j false = false) → Inv ops0 fin G F a0 listed a W → wpAny P .any ops Q fuel listed a W := by
  intro fuel
  induction fuel with
  | zero =>
    intro listed a W hf hnl h
    have unl : listed.getD n true = false := by
      have := hnl n (Nat.le_refl _)
      rw [Array.getD_eq_getD_getElem?, Array.getElem?_eq_getElem (by have := h.lsize; omega)] at this ⊢
      exact this
    have := left_set unl
    omega
  | succ fuel ih =>
    intro listed a W hf hnl h
    by_cases hall : ∀ j, j < n → listed.getD j false = true
    · have hfin : ∀ k, fin.contains k = true → F k (a.tmps.getD k undef) W := fun k hk => h.facts k (fun j oj hj hdj => by
        rcases Nat.lt_or_ge j n with h1 | h1
        · exact hall j h1
        · rw [hnone j oj hj h1] at hdj
          cases hdj) (.inl hk)
      exact any_forced0 n ha hsz hs ht htail (ops.size - n) n (by omega) (Nat.le_refl _) _ listed a W (h.lsize.trans hsz) hall hnl hf (hend a W h.grown h.defers h.size hfin)
    · refine ⟨fun hr => ?_, fun i hi => ?_⟩
      · have := all_listed hs h.lsize (ready_after ha _ hr) n (by omega)
        rw [hnl n (Nat.le_refl _)] at this
        cases this
      obtain ⟨hun, o, ho, hpre⟩ := mem_ready.1 hi
      have hil : i < ops.size := (Array.getElem?_eq_some_iff.1 ho).1
      have hun' : listed.getD i false = false := by
        rw [Array.getD_eq_getD_getElem?, Array.getElem?_eq_getElem (by rw [h.lsize]; omega)] at hun ⊢
        exact hun
      have hp : ∀ j ∈ preds ops0 i, listed.getD j false = true := fun j hj => by
        obtain ⟨e, he, hb, rfl⟩ := preds_after ha hj ho
        exact hpre e he hb
      have hin : i < n := by
        rcases Nat.lt_or_ge i n with h1 | h1
        · exact h1
        · exfalso
          refine hall fun j hj => ?_
          rcases htail i h1 hil j (by omega) with h2 | h2
          · exact hp j h2
          · exact table_listed ht h.down i (by omega) hp j h2
      have ho0 : ops0[i]? = some o := by rw [hsame i hin]; exact ho
      have hsd := sound_edge hs ho0
      have hF : ∀ k, (o.looksAt ops0).contains k = true → F k (a.tmps.getD k undef) W := fun k hk => h.facts k (fun j oj hj hdj => by
        obtain ⟨e, he, hb, rfl⟩ := hsd.2 k (by simpa using hk) j oj hj hdj
        exact hpre e he hb) (.inr ⟨i, o, ho0, hk, hun'⟩)
      obtain ⟨hw, hg⟩ := hops i o ho0 hin (fun t => a.tmps.getD t undef) W h.grown hF
      have hw2 : wantedBy ops o (fun t => a.tmps.getD t undef) := by
        unfold wantedBy at hw ⊢
        cases hgo : o.guard with
        | none => trivial
        | some p =>
          obtain ⟨j, want⟩ := p
          simp only [hgo] at hw ⊢
          obtain ⟨d, hd1, hd2⟩ := hw
          refine ⟨d, ?_, hd2⟩
          by_cases hjn : j < n
          · rw [← hsame j hjn]; exact hd1
          · exfalso
            cases hj : ops0[j]? with
            | none => rw [hj] at hd1; cases hd1
            | some oj =>
              rw [hj] at hd1
              simp only [Option.bind_some] at hd1
              rw [hnone j oj hj (by omega)] at hd1
              cases hd1
      unfold wpOp
      simp only [ho, wanted_of hw2, if_true]
      refine .inl (wp_of_gives hg fun v w' ⟨h1, h2, h3⟩ => ih _ _ _ ?_ (fun j hj => ?_) (inv_step2 ht h ho0 hp (hd i o ho0) h1 hun' h2 h3))
      · have unl : listed.getD i true = false := by
          rw [Array.getD_eq_getD_getElem?, Array.getElem?_eq_getElem (by rw [h.lsize]; omega)] at hun' ⊢
          exact hun'
        have := left_set unl
        omega
      · have h4 := hnl j hj
        rw [Array.getD_eq_getD_getElem?, Array.getElem?_setIfInBounds_ne (by omega), ← Array.getD_eq_getD_getElem?]
        exact h4
end

/-- The operations from n on, their slots struck. -/
def struck (ops : Array Oper) (n : Nat) : Array Oper := (ops.toList.take n ++ (ops.toList.drop n).map fun o : Oper => { o with dst := none }).toArray

theorem struck_size (ops : Array Oper) (n : Nat) (h : n ≤ ops.size) : (struck ops n).size = ops.size := by simp [struck]; omega
theorem struck_same (ops : Array Oper) (n i : Nat) (h : i < n) (hn : n ≤ ops.size) : (struck ops n)[i]? = ops[i]? := by
  unfold struck
  rw [List.getElem?_toArray, List.getElem?_append_left (by simp; omega), List.getElem?_take, if_pos h]
  simp
theorem struck_from (ops : Array Oper) (n i : Nat) (h : n ≤ i) (hn : n ≤ ops.size) : (struck ops n)[i]? = (ops[i]?).map fun o : Oper => { o with dst := none } := by
  unfold struck
  rw [List.getElem?_toArray, List.getElem?_append_right (by simp; omega), List.getElem?_map, List.getElem?_drop]
  simp only [List.length_take, Array.length_toList]
  rw [show n + (i - min n ops.size) = i by omega]
  simp

/-- **A REGION BY ITS FACTS, the last operations one behind the other; they may write what earlier ones read.** -/
theorem region_latetails_by {P : Program} {ops : Array Oper} {id : Nat} {a : Act} {w : World} {Q : Exit → Act → World → Prop} (n : Nat) (l : List (Tmp × Fact)) (fin : List Tmp) (G : World → Prop)
    (hm : P.follows .mixedOrders = true) (hs : sound (struck ops n) = true) (ht : tableOk (struck ops n) (table (struck ops n)) = true) (hd : ((struck ops n).all fun o => (o.dst.map fun d => decide (d < a.tmps.size)).getD true) = true)
    (hl : (l.all fun p => (struck ops n).any fun o => o.dst == some p.1) = true) (hn : n < ops.size)
    (hall : ((List.range ops.size).all fun i => decide (i < n) || (List.range i).all fun j => (preds (struck ops n) i).contains j || ((table (struck ops n)).getD i []).contains j) = true) (hG : G w.drew)
    (hops : AskedAll2 P (struck ops n) (table (struck ops n)) fin G (factsOf l a) 0 (ops.toList.take n))
    (hend : ∀ a' W, G W → a'.defers = a.defers → a'.tmps.size = a.tmps.size → (∀ k, fin.contains k = true → (factsOf l a k).holds (a'.tmps.getD k undef) W) → wpList P ops Q (ops.toList.drop n) a' W) : (Code.region id ops true).wp P Q a w := by
  have hsz := struck_size ops n (by omega)
  have hnone : ∀ (i : Nat) (o : Oper), (struck ops n)[i]? = some o → n ≤ i → o.dst = none := fun i o ho hi => by
    rw [struck_from ops n i hi (by omega)] at ho
    obtain ⟨o', _, rfl⟩ := Option.map_eq_some_iff.1 ho
    rfl
  have ha : ∀ i : Nat, ((struck ops n)[i]?).map Oper.after = (ops[i]?).map Oper.after := fun i => by
    by_cases hi : i < n
    · rw [struck_same ops n i hi (by omega)]
    · rw [struck_from ops n i (by omega) (by omega), Option.map_map]
      rfl
  refine wp_region_any hm (any_of_inv_latetails (ops0 := struck ops n) (tab := table (struck ops n)) (fin := fin) (G := G) (F := fun k v W => (factsOf l a k).holds v W) (a0 := a) n ha hsz (fun i hi => struck_same ops n i hi (by omega)) hnone hs ht hn (fun i h1 h2 j hj => ?_) ?_ (fun i o hi hin => ?_) hend _ _ _ _ ?_ ?_ ?_)
  · have h3 := List.all_eq_true.1 hall i (List.mem_range.2 h2)
    rw [Bool.or_eq_true] at h3
    rcases h3 with h3 | h3
    · have := of_decide_eq_true h3
      omega
    · have h4 := List.all_eq_true.1 h3 j (List.mem_range.2 hj)
      rw [Bool.or_eq_true] at h4
      rcases h4 with h4 | h4
      · exact .inl (by simpa using h4)
      · exact .inr (by simpa using h4)
  · intro i o hi d hdst
    have := Array.all_eq_true_iff_forall_mem.1 hd o (Array.mem_of_getElem? hi)
    simpa [hdst] using this
  · have := asked_of_all2 (ops.toList.take n) 0 hops i o (by rw [List.getElem?_take, if_pos hin]; rw [struck_same ops n i hin (by omega)] at hi; simpa using hi)
    rwa [Nat.zero_add] at this
  · unfold Reg.left
    refine Nat.le_trans (List.length_filter_le _ _) (by simp)
  · intro j _
    rw [Array.getD_eq_getD_getElem?]
    simp [Array.getElem?_replicate]
    split <;> simp
  · refine ⟨hG, rfl, rfl, by simp [hsz], fun i o hi hl => ?_, fun k hk _ => ?_⟩
    · rw [Array.getD_eq_getD_getElem?] at hl
      simp [Array.getElem?_replicate] at hl
      split at hl <;> simp at hl
    · cases hkl : l.lookup k with
      | none => simp [factsOf, hkl, Fact.holds]
      | some fk =>
        exfalso
        have hmem : (k, fk) ∈ l := by
          clear hl hops hend
          induction l with
          | nil => simp at hkl
          | cons p l ih =>
            obtain ⟨p1, p2⟩ := p
            rw [List.lookup_cons] at hkl
            by_cases hkp : (k == p1) = true
            · rw [hkp] at hkl
              simp at hkl hkp
              subst hkl hkp
              simp
            · simp only [hkp] at hkl
              exact List.mem_cons_of_mem _ (ih hkl)
        have h := List.all_eq_true.1 hl _ hmem
        obtain ⟨o, ho, hdst⟩ := Array.any_eq_true'.1 h
        obtain ⟨i, hi⟩ := Array.mem_iff_getElem?.1 ho
        have := hk i o hi (by simpa using hdst)
        rw [Array.getD_eq_getD_getElem?] at this
        simp [Array.getElem?_replicate] at this
        split at this <;> simp at this

end Go.Proofs.Ytgbhfolbkgibfaa

