/- Joined: LateTails, LateTails0, MsgRefPut. -/
import Derived.Test.YtidapdooiibfnaaHD
import Derived.Test.YtidapdooiibfnaaXB
import Derived.Test.YtidapdooiibfnaaHK
/- A region that draws its order, told by facts; its last operations each wait for all the earlier ones and are walked; they may write slots that earlier ones read. -/
namespace Go.Proofs.Ytidapdooiibfnaa
set_option maxRecDepth 20000
open Go.RowKit Reg

section
variable {ops ops0 : Array Oper}

theorem after_get (ha : ∀ i : Nat, (ops0[i]?).map Oper.after = (ops[i]?).map Oper.after) {i : Nat} {o : Oper} (h : ops[i]? = some o) : ∃ o0, ops0[i]? = some o0 ∧ o0.after = o.after := by
  have := ha i
  rw [h] at this
  simp only [Option.map_some] at this
  obtain ⟨o0, h1, h2⟩ := Option.map_eq_some_iff.1 this
  exact ⟨o0, h1, h2⟩
theorem after_get0 (ha : ∀ i : Nat, (ops0[i]?).map Oper.after = (ops[i]?).map Oper.after) {i : Nat} {o : Oper} (h : ops0[i]? = some o) : ∃ o0, ops[i]? = some o0 ∧ o0.after = o.after := after_get (fun i => (ha i).symm) h
theorem ready_after (ha : ∀ i : Nat, (ops0[i]?).map Oper.after = (ops[i]?).map Oper.after) (listed : Array Bool) (h : Region.ready .any ops listed = []) : Region.ready .any ops0 listed = [] := by
  cases hq : Region.ready .any ops0 listed with
  | nil => rfl
  | cons j js =>
    exfalso
    have hj : j ∈ Region.ready .any ops0 listed := by rw [hq]; simp
    obtain ⟨h1, o, ho, h2⟩ := mem_ready.1 hj
    obtain ⟨o', ho', e⟩ := after_get0 ha ho
    have : j ∈ Region.ready .any ops listed := mem_ready.2 ⟨h1, o', ho', by rw [e]; exact h2⟩
    rw [h] at this
    cases this
theorem preds_after (ha : ∀ i : Nat, (ops0[i]?).map Oper.after = (ops[i]?).map Oper.after) {i j : Nat} (h : j ∈ preds ops0 i) {o : Oper} (ho : ops[i]? = some o) : ∃ e ∈ o.after, Region.binds .any e = true ∧ e.on = j := by
  obtain ⟨o0, ho0, e⟩ := after_get ha ho
  have := (mem_preds ho0).1 h
  rwa [e] at this

/-- From operation k on all is forced. -/
theorem any_forced0 {P : Program} {tab : List (List Nat)} {Q : Exit → Act → World → Prop} (n : Nat) (ha : ∀ i : Nat, (ops0[i]?).map Oper.after = (ops[i]?).map Oper.after) (hz : ops0.size = ops.size) (hs : sound ops0 = true) (ht : tableOk ops0 tab = true)
    (htail : ∀ i, n ≤ i → i < ops.size → ∀ j, j < i → j ∈ preds ops0 i ∨ j ∈ tab.getD i []) :
    ∀ (m k : Nat), k + m = ops.size → n ≤ k → ∀ (fuel : Nat) (listed : Array Bool) (a : Act) (W : World), listed.size = ops.size → (∀ j, j < k → listed.getD j false = true) → (∀ j, k ≤ j → listed.getD j false = false) →
      left listed ≤ fuel → wpList P ops Q (ops.toList.drop k) a W → wpAny P .any ops Q fuel listed a W := by
  intro m
  induction m with
  | zero =>
    intro k hk _ fuel listed a W hsz hb _ _ hw
    have hready : Region.ready .any ops listed = [] := by
      cases hq : Region.ready .any ops listed with
      | nil => rfl
      | cons j js =>
        exfalso
        have hj : j ∈ Region.ready .any ops listed := by rw [hq]; simp
        obtain ⟨hju, oj, hoj, _⟩ := mem_ready.1 hj
        have hjl : j < ops.size := (Array.getElem?_eq_some_iff.1 hoj).1
        have h1 := hb j (by omega)
        rw [Array.getD_eq_getD_getElem?, Array.getElem?_eq_getElem (by omega)] at h1 hju
        simp only [Option.getD_some] at h1 hju
        rw [h1] at hju
        cases hju
    rw [List.drop_eq_nil_of_le (by simp; omega)] at hw
    have hq : Q .normal a W := hw
    cases fuel with
    | zero => exact ⟨hready, hq⟩
    | succ f => exact ⟨fun _ => hq, fun j hj => by rw [hready] at hj; cases hj⟩
  | succ m ih =>
    intro k hk hnk fuel listed a W hsz hb hu hf hw
    have hlt : k < ops.size := by omega
    have unl : listed.getD k true = false := by
      have := hu k (Nat.le_refl _)
      rw [Array.getD_eq_getD_getElem?, Array.getElem?_eq_getElem (by omega)] at this ⊢
      exact this
    have hls := left_set unl
    cases fuel with
    | zero => omega
    | succ f =>
      have hok : ops[k]? = some ops[k] := by simp [hlt]
      refine ⟨fun hr => ?_, fun i hi => ?_⟩
      · have := all_listed hs (hsz.trans hz.symm) (ready_after ha _ hr) k (by omega)
        rw [hu k (Nat.le_refl _)] at this
        cases this
      · obtain ⟨hun, o, ho, hpre⟩ := mem_ready.1 hi
        have hil : i < ops.size := (Array.getElem?_eq_some_iff.1 ho).1
        have hun' : listed.getD i false = false := by
          rw [Array.getD_eq_getD_getElem?, Array.getElem?_eq_getElem (by omega)] at hun ⊢
          exact hun
        have hik : i = k := by
          rcases Nat.lt_trichotomy i k with h | h | h
          · rw [hb i h] at hun'; cases hun'
          · exact h
          · exfalso
            have hp : ∀ j ∈ preds ops0 i, listed.getD j false = true := fun j hj => by
              obtain ⟨e, he, hb, rfl⟩ := preds_after ha hj ho
              exact hpre e he hb
            -- every operation below i that i waits for would be listed
            have hdn : ∀ (i' : Nat) (o' : Oper), ops0[i']? = some o' → listed.getD i' false = true → ∀ j ∈ preds ops0 i', listed.getD j false = true := fun i' o' ho' hl j hj => by
              have hi'k : i' < k := by
                rcases Nat.lt_or_ge i' k with h1 | h1
                · exact h1
                · rw [hu i' h1] at hl; cases hl
              obtain ⟨e, he, hbd, rfl⟩ := (mem_preds ho').1 hj
              have := (sound_edge hs ho').1 e he hbd
              exact hb e.on (by omega)
            have h1 : listed.getD k false = true := by
              rcases htail i (by omega) hil k h with h2 | h2
              · exact hp k h2
              · exact table_listed ht hdn i (by omega) hp k h2
            rw [hu k (Nat.le_refl _)] at h1
            cases h1
        subst hik
        rw [List.drop_eq_getElem_cons (by simpa using hlt)] at hw
        unfold wpList at hw
        unfold wpOp
        simp only [hok]
        have next : ∀ a' W', wpList P ops Q (ops.toList.drop (i + 1)) a' W' → wpAny P .any ops Q f (listed.setIfInBounds i true) a' W' := fun a' W' h =>
          ih (i + 1) (by omega) (by omega) f _ a' W' (by simpa using hsz) (fun j hj => by
            by_cases hji : j = i
            · subst hji; exact set_self (by omega)
            · exact set_mem (hb j (by omega))) (fun j hj => by
            have h1 := hu j (by omega)
            rw [Array.getD_eq_getD_getElem?, Array.getElem?_setIfInBounds_ne (by omega), ← Array.getD_eq_getD_getElem?]
            exact h1) (by omega) h
        have e1 : ops.toList[i]'(by simpa using hlt) = ops[i] := by simp
        rw [e1] at hw
        by_cases hwant : Region.wanted ops[i] (yielded ops a.tmps) = true
        · rw [if_pos hwant] at hw ⊢
          rcases hw with hw | hw
          · exact .inl (Oper.wp_mono next hw)
          · exact .inr hw
        · rw [if_neg hwant] at hw ⊢
          exact next _ _ hw

theorem any_of_inv_latetails {P : Program} {tab : List (List Nat)} {fin : List Tmp} {G : World → Prop} {F : Tmp → Value → World → Prop} {a0 : Act} {Q : Exit → Act → World → Prop} (n : Nat)
    (ha : ∀ i : Nat, (ops0[i]?).map Oper.after = (ops[i]?).map Oper.after) (hsz : ops0.size = ops.size) (hsame : ∀ i, i < n → ops0[i]? = ops[i]?) (hnone : ∀ (i : Nat) (o : Oper), ops0[i]? = some o → n ≤ i → o.dst = none)
    (hs : sound ops0 = true) (ht : tableOk ops0 tab = true) (hn : n < ops.size) (htail : ∀ i, n ≤ i → i < ops.size → ∀ j, j < i → j ∈ preds ops0 i ∨ j ∈ tab.getD i [])
    (hd : ∀ (i : Nat) (o : Oper), ops0[i]? = some o → ∀ d, o.dst = some d → d < a0.tmps.size)
    (hops : ∀ (i : Nat) (o : Oper), ops0[i]? = some o → i < n → asked2 P ops0 tab fin G F i o)
    (hend : ∀ a W, G W → a.defers = a0.defers → a.tmps.size = a0.tmps.size → (∀ k, fin.contains k = true → F k (a.tmps.getD k undef) W) → wpList P ops Q (ops.toList.drop n) a W) :
    ∀ (fuel : Nat) (listed : Array Bool) (a : Act) (W : World), left listed ≤ fuel → (∀ j, n ≤ j → listed.getD j false = false) → Inv ops0 fin G F a0 listed a W → wpAny P .any ops Q fuel listed a W := by
  intro fuel
  induction fuel with
  | zero =>
    intro listed a W hf hnl h
    have unl : listed.getD n true = false := by
      have := hnl n (Nat.le_refl _)
      rw [Array.getD_eq_getD_getElem?, Array.getElem?_eq_getElem (by have := h.lsize; omega)] at this ⊢
      exact this
    have := left_set unl
    omega
  | succ fuel ih =>
    intro listed a W hf hnl h
    by_cases hall : ∀ j, j < n → listed.getD j false = true
    · have hfin : ∀ k, fin.contains k = true → F k (a.tmps.getD k undef) W := fun k hk => h.facts k (fun j oj hj hdj => by
        rcases Nat.lt_or_ge j n with h1 | h1
        · exact hall j h1
        · rw [hnone j oj hj h1] at hdj
          cases hdj) (.inl hk)
      exact any_forced0 n ha hsz hs ht htail (ops.size - n) n (by omega) (Nat.le_refl _) _ listed a W (h.lsize.trans hsz) hall hnl hf (hend a W h.grown h.defers h.size hfin)
    · refine ⟨fun hr => ?_, fun i hi => ?_⟩
      · have := all_listed hs h.lsize (ready_after ha _ hr) n (by omega)
        rw [hnl n (Nat.le_refl _)] at this
        cases this
      obtain ⟨hun, o, ho, hpre⟩ := mem_ready.1 hi
      have hil : i < ops.size := (Array.getElem?_eq_some_iff.1 ho).1
      have hun' : listed.getD i false = false := by
        rw [Array.getD_eq_getD_getElem?, Array.getElem?_eq_getElem (by rw [h.lsize]; omega)] at hun ⊢
        exact hun
      have hp : ∀ j ∈ preds ops0 i, listed.getD j false = true := fun j hj => by
        obtain ⟨e, he, hb, rfl⟩ := preds_after ha hj ho
        exact hpre e he hb
      have hin : i < n := by
        rcases Nat.lt_or_ge i n with h1 | h1
        · exact h1
        · exfalso
          refine hall fun j hj => ?_
          rcases htail i h1 hil j (by omega) with h2 | h2
          · exact hp j h2
          · exact table_listed ht h.down i (by omega) hp j h2
      have ho0 : ops0[i]? = some o := by rw [hsame i hin]; exact ho
      have hsd := sound_edge hs ho0
      have hF : ∀ k, (o.looksAt ops0).contains k = true → F k (a.tmps.getD k undef) W := fun k hk => h.facts k (fun j oj hj hdj => by
        obtain ⟨e, he, hb, rfl⟩ := hsd.2 k (by simpa using hk) j oj hj hdj
        exact hpre e he hb) (.inr ⟨i, o, ho0, hk, hun'⟩)
      obtain ⟨hw, hg⟩ := hops i o ho0 hin (fun t => a.tmps.getD t undef) W h.grown hF
      have hw2 : wantedBy ops o (fun t => a.tmps.getD t undef) := by
        unfold wantedBy at hw ⊢
        cases hgo : o.guard with
        | none => trivial
        | some p =>
          obtain ⟨j, want⟩ := p
          simp only [hgo] at hw ⊢
          obtain ⟨d, hd1, hd2⟩ := hw
          refine ⟨d, ?_, hd2⟩
          by_cases hjn : j < n
          · rw [← hsame j hjn]; exact hd1
          · exfalso
            cases hj : ops0[j]? with
            | none => rw [hj] at hd1; cases hd1
            | some oj =>
              rw [hj] at hd1
              simp only [Option.bind_some] at hd1
              rw [hnone j oj hj (by omega)] at hd1
              cases hd1
      unfold wpOp
      simp only [ho, wanted_of hw2, if_true]
      refine .inl (wp_of_gives hg fun v w' ⟨h1, h2, h3⟩ => ih _ _ _ ?_ (fun j hj => ?_) (inv_step2 ht h ho0 hp (hd i o ho0) h1 hun' h2 h3))
      · have unl : listed.getD i true = false := by
          rw [Array.getD_eq_getD_getElem?, Array.getElem?_eq_getElem (by rw [h.lsize]; omega)] at hun' ⊢
          exact hun'
        have := left_set unl
        omega
      · have h4 := hnl j hj
        rw [Array.getD_eq_getD_getElem?, Array.getElem?_setIfInBounds_ne (by omega), ← Array.getD_eq_getD_getElem?]
        exact h4
end

/-- The operations from n on, their slots struck. -/
def struck (ops : Array Oper) (n : Nat) : Array Oper := (ops.toList.take n ++ (ops.toList.drop n).map fun o : Oper => { o with dst := none }).toArray

theorem struck_size (ops : Array Oper) (n : Nat) (h : n ≤ ops.size) : (struck ops n).size = ops.size := by simp [struck]; omega
theorem struck_same (ops : Array Oper) (n i : Nat) (h : i < n) (hn : n ≤ ops.size) : (struck ops n)[i]? = ops[i]? := by
  unfold struck
  rw [List.getElem?_toArray, List.getElem?_append_left (by simp; omega), List.getElem?_take, if_pos h]
  simp
theorem struck_from (ops : Array Oper) (n i : Nat) (h : n ≤ i) (hn : n ≤ ops.size) : (struck ops n)[i]? = (ops[i]?).map fun o : Oper => { o with dst := none } := by
  unfold struck
  rw [List.getElem?_toArray, List.getElem?_append_right (by simp; omega), List.getElem?_map, List.getElem?_drop]
  simp only [List.length_take, Array.length_toList]
  rw [show n + (i - min n ops.size) = i by omega]
  simp

end Go.Proofs.Ytidapdooiibfnaa

/- A region that draws its order, told by facts, whose last operations come one behind the other; of one slot that it reads and in the end writes something is known ahead of it. -/
namespace Go.Proofs.Ytidapdooiibfnaa
set_option maxRecDepth 20000
open Go.RowKit Reg

theorem region_latetails_with {P : Program} {ops : Array Oper} {id : Nat} {a : Act} {w : World} {Q : Exit → Act → World → Prop} (n : Nat) (k0 : Tmp) (f0 : Fact) (l : List (Tmp × Fact)) (fin : List Tmp) (G : World → Prop)
    (hm : P.follows .mixedOrders = true) (hs : sound (struck ops n) = true) (ht : tableOk (struck ops n) (table (struck ops n)) = true) (hd : ((struck ops n).all fun o => (o.dst.map fun d => decide (d < a.tmps.size)).getD true) = true)
    (hl : (l.all fun p => (struck ops n).any fun o => o.dst == some p.1) = true) (hn : n < ops.size)
    (hall : ((List.range ops.size).all fun i => decide (i < n) || (List.range i).all fun j => (preds (struck ops n) i).contains j || ((table (struck ops n)).getD i []).contains j) = true) (hG : G w.drew) (h0 : f0.holds (a.tmps.getD k0 undef) w.drew)
    (hops : AskedAll2 P (struck ops n) (table (struck ops n)) fin G (factsOf ((k0, f0) :: l) a) 0 (ops.toList.take n))
    (hend : ∀ a' W, G W → a'.defers = a.defers → a'.tmps.size = a.tmps.size → (∀ k, fin.contains k = true → (factsOf ((k0, f0) :: l) a k).holds (a'.tmps.getD k undef) W) → wpList P ops Q (ops.toList.drop n) a' W) : (Code.region id ops true).wp P Q a w := by
  have hsz := struck_size ops n (by omega)
  have hnone : ∀ (i : Nat) (o : Oper), (struck ops n)[i]? = some o → n ≤ i → o.dst = none := fun i o ho hi => by
    rw [struck_from ops n i hi (by omega)] at ho
    obtain ⟨o', _, rfl⟩ := Option.map_eq_some_iff.1 ho
    rfl
  have ha : ∀ i : Nat, ((struck ops n)[i]?).map Oper.after = (ops[i]?).map Oper.after := fun i => by
    by_cases hi : i < n
    · rw [struck_same ops n i hi (by omega)]
    · rw [struck_from ops n i (by omega) (by omega), Option.map_map]
      rfl
  refine wp_region_any hm (any_of_inv_latetails (ops0 := struck ops n) (tab := table (struck ops n)) (fin := fin) (G := G) (F := fun k v W => (factsOf ((k0, f0) :: l) a k).holds v W) (a0 := a) n ha hsz (fun i hi => struck_same ops n i hi (by omega)) hnone hs ht hn (fun i h1 h2 j hj => ?_) ?_ (fun i o hi hin => ?_) hend _ _ _ _ ?_ ?_ ?_)
  · have h3 := List.all_eq_true.1 hall i (List.mem_range.2 h2)
    rw [Bool.or_eq_true] at h3
    rcases h3 with h3 | h3
    · have := of_decide_eq_true h3
      omega
    · have h4 := List.all_eq_true.1 h3 j (List.mem_range.2 hj)
      rw [Bool.or_eq_true] at h4
      rcases h4 with h4 | h4
      · exact .inl (by simpa using h4)
      · exact .inr (by simpa using h4)
  · intro i o hi d hdst
    have := Array.all_eq_true_iff_forall_mem.1 hd o (Array.mem_of_getElem? hi)
    simpa [hdst] using this
  · have := asked_of_all2 (ops.toList.take n) 0 hops i o (by rw [List.getElem?_take, if_pos hin]; rw [struck_same ops n i hin (by omega)] at hi; simpa using hi)
    rwa [Nat.zero_add] at this
  · unfold Reg.left
    refine Nat.le_trans (List.length_filter_le _ _) (by simp)
  · intro j _
    rw [Array.getD_eq_getD_getElem?]
    simp [Array.getElem?_replicate]
    split <;> simp
  · refine ⟨hG, rfl, rfl, by simp [hsz], fun i o hi hl => ?_, fun k hk _ => ?_⟩
    · rw [Array.getD_eq_getD_getElem?] at hl
      simp [Array.getElem?_replicate] at hl
      split at hl <;> simp at hl
    · show (factsOf ((k0, f0) :: l) a k).holds _ _
      by_cases hk0 : k = k0
      · subst hk0
        have e : factsOf ((k, f0) :: l) a k = f0 := by simp [factsOf, List.lookup]
        rw [e]
        exact h0
      · have hne : (k == k0) = false := by simpa using hk0
        cases hkl : l.lookup k with
        | none => simp [factsOf, List.lookup_cons, hne, hkl, Fact.holds]
        | some fk =>
          exfalso
          have hmem : (k, fk) ∈ l := by
            clear hl hops hend
            induction l with
            | nil => simp at hkl
            | cons p l ih =>
              obtain ⟨p1, p2⟩ := p
              rw [List.lookup_cons] at hkl
              by_cases hkp : (k == p1) = true
              · rw [hkp] at hkl
                simp at hkl hkp
                subst hkl hkp
                simp
              · simp only [hkp] at hkl
                exact List.mem_cons_of_mem _ (ih hkl)
          have h := List.all_eq_true.1 hl _ hmem
          obtain ⟨o, ho, hdst⟩ := Array.any_eq_true'.1 h
          obtain ⟨i, hi⟩ := Array.mem_iff_getElem?.1 ho
          have := hk i o hi (by simpa using hdst)
          rw [Array.getD_eq_getD_getElem?] at this
          simp [Array.getElem?_replicate] at this
          split at this <;> simp at this
end Go.Proofs.Ytidapdooiibfnaa

/- Layer 18's reference: Put. -/
namespace Go.Proofs.Ytidapdooiibfnaa
set_option maxRecDepth 20000
open Go.RowKit BinMath CmdMath Reg
open MsgMath (Mg formedM headOk restOk nodeOk putM entsL bodyL flagL)

theorem formedM_facts {m : Mg} (h : formedM m = true) : m.e.length ≤ 4 ∧ m.g.length ≤ 16384 ∧ (∀ x ∈ m.e, formed x = true) ∧ (m.k = 5 → memOk m.m = true) := by
  simp only [formedM, headOk, restOk, nodeOk, termOk, Bool.and_eq_true, decide_eq_true_eq, Bool.or_eq_true, List.all_eq_true] at h
  obtain ⟨-, ⟨-, -, h1, h2⟩, h3, h4⟩ := h
  exact ⟨h1, h2, h3, fun hk => h4.resolve_left fun hn => hn hk⟩

theorem ids3 {x y z : Nat} (h1 : x < 18446744073709551616) (h2 : y < 18446744073709551616) (h3 : z < 18446744073709551616) : ∀ v ∈ [x, y, z], v < 18446744073709551616 := by
  intro v hv
  simp only [List.mem_cons, List.not_mem_nil, or_false] at hv
  rcases hv with rfl | rfl | rfl <;> assumption
theorem ids2 {x y : Nat} (h1 : x < 18446744073709551616) (h2 : y < 18446744073709551616) : ∀ v ∈ [x, y], v < 18446744073709551616 := by
  intro v hv
  simp only [List.mem_cons, List.not_mem_nil, or_false] at hv
  rcases hv with rfl | rfl <;> assumption
theorem ids4 {x y z u : Nat} (h1 : x < 18446744073709551616) (h2 : y < 18446744073709551616) (h3 : z < 18446744073709551616) (h4 : u < 18446744073709551616) : ∀ v ∈ [x, y, z, u], v < 18446744073709551616 := by
  intro v hv
  simp only [List.mem_cons, List.not_mem_nil, or_false] at hv
  rcases hv with rfl | rfl | rfl | rfl <;> assumption
theorem ids5 {x y z u q : Nat} (h1 : x < 18446744073709551616) (h2 : y < 18446744073709551616) (h3 : z < 18446744073709551616) (h4 : u < 18446744073709551616) (h5 : q < 18446744073709551616) : ∀ v ∈ [x, y, z, u, q], v < 18446744073709551616 := by
  intro v hv
  simp only [List.mem_cons, List.not_mem_nil, or_false] at hv
  rcases hv with rfl | rfl | rfl | rfl | rfl <;> assumption

theorem entsL_len : ∀ (es : List Ent), (∀ x ∈ es, x.Ok) → (∀ x ∈ es, formed x = true) → (entsL es).length ≤ 137 * es.length
  | [], _, _ => by simp [entsL]
  | x :: r, h1, h2 => by
    have h3 := entsL_len r (fun y hy => h1 y (by simp [hy])) fun y hy => h2 y (by simp [hy])
    have h4 := MsgMath.putL_len x (h1 x (by simp)) (h2 x (by simp))
    have h5 := numL_le (putL x).length (by omega)
    simp only [entsL, List.length_append, List.length_cons]
    omega
theorem entsL_step (es : List Ent) (j : Nat) (x : Ent) (h : es[j]? = some x) : entsL (es.take (j + 1)) = entsL (es.take j) ++ rawL (putL x) := by
  obtain ⟨hj, rfl⟩ := List.getElem?_eq_some_iff.1 h
  rw [List.take_succ_eq_append_getElem hj, MsgMath.entsL_append]
  simp [entsL, rawL]

theorem wpList_build_byte {w : World} {ops : Array Oper} {rest : List Oper} {o : Oper} {a : Act} {Q : Exit → Act → World → Prop} (hgd : o.guard = none) (s0 : Operand) (ho : o.op = .buildSlice 25 1 #[(0, s0)]) (c : UInt8)
    (h0 : a.eval s0 = bv c) (h : ∀ W', Bys W' (.slice (some ⟨w.heap.size, 0, none⟩) 1 1) [c] → Below w.heap.size w W' → wpList Try.prog ops Q rest (a.put o.dst (.slice (some ⟨w.heap.size, 0, none⟩) 1 1)) W') : wpList Try.prog ops Q (o :: rest) a w := by
  have hz : (zeroValue 5).run Try.prog w = .ok (.int .u8 0) w := by kernel_rfl
  have hr : (Instr.buildSlice 25 1 #[(0, bv c)]).run Try.prog w = .ok (.slice (some ⟨w.heap.size, 0, none⟩) 1 1) (w.alloc (.cells #[bv c] 5)) := by
    simp [Instr.buildSlice, run_underlying Try.underlying25, Result.andThen, hz, Instr.fill, newRow, bv, Value.cells, range_one]
  refine wpList_plain hgd fun K hK => ?_
  unfold Oper.wp execOp
  simp only [ho, Sem.run_bind, List.map_toArray, List.map_cons, List.map_nil, h0, hr, Result.andThen_ok]
  exact hK _ _ (h _ (byte_bys w c) ((Below.refl _ _).alloc (Nat.le_refl _) _))

set_option maxHeartbeats 4000000 in
set_option maxRecDepth 100000 in
theorem msgput_1 (f o t i l c s : Nat) (y : Bool) (e : List Ent) (ms : List Nat) (x : List UInt8) (ve vm vg : Value) (us : List EE) (w : World) (hm : MHas w (⟨1, f, o, t, i, l, c, s, y, e, ms, x⟩ : Mg) ve vm vg us) (hf : formedM (⟨1, f, o, t, i, l, c, s, y, e, ms, x⟩ : Mg) = true) :
    Calls Try.prog 11 #[.agg (mgC (⟨1, f, o, t, i, l, c, s, y, e, ms, x⟩ : Mg) ve vm vg)] w fun r w' => ∃ v, r = .returned (.tuple #[v, .int .i64 0]) ∧ Row w' w.heap.size v (putM (⟨1, f, o, t, i, l, c, s, y, e, ms, x⟩ : Mg)) ∧ Below w.heap.size w w' := by
  obtain ⟨a, ca, rfl⟩ := hm.els.form
  obtain ⟨b, cb, rfl⟩ := hm.ms.shape
  obtain ⟨d, cd, rfl⟩ := hm.gs.shape
  obtain ⟨na, hna⟩ : ∃ n, n = us.length := ⟨_, rfl⟩
  obtain ⟨nb, hnb⟩ : ∃ n, n = ms.length := ⟨_, rfl⟩
  obtain ⟨nd, hnd⟩ : ∃ n, n = x.length := ⟨_, rfl⟩
  have hel := hm.el
  have hen := hm.ents
  have hFF := formedM_facts hf
  simp only at hm hel hen hFF ⊢
  rw [← hna, ← hnb, ← hnd] at hm
  rw [← hna, ← hnb, ← hnd]
  have HM := Lib.hid hm
  have HNA := Lib.hid hna
  have HNB := Lib.hid hnb
  have HND := Lib.hid hnd
  have HEL := Lib.hid hel
  have HEN := Lib.hid hen
  have HFF := Lib.hid hFF
  have hna4 : na ≤ 4 := by have := hFF.1; omega
  have hnd4 : nd ≤ 16384 := by have := hFF.2.1; omega
  have HOk := Lib.hid hm.ok
  have b1 : Below w.heap.size w (w.alloc (.cells #[.int .i64 1, .int .u64 (f : Int), .int .u64 (o : Int), .int .u64 (t : Int), .int .u64 (i : Int), .int .u64 (l : Int), .int .u64 (c : Int), .int .u64 (s : Int), .bool y, .slice a na ca, .slice b nb cb, .slice d nd cd] 27)) := (Below.refl _ _).alloc (Nat.le_refl _) _
  have HB1 := Lib.hid b1
  have HForm := Lib.hid (fun (W : World) (hW : Below w.heap.size w W) => refMsgFormed_any _ _ _ _ us W (hm.below (Nat.le_refl _) hW))
  rw [hf] at HForm
  clear hm hna hnb hnd hel hen hFF hf b1
  simp only [mgC] at HForm ⊢
  go_enter Try.func11, Try.ntmps11
  go_upto_region 1 with fail
  refine world_cut (fun W => Below w.heap.size w W ∧ Blk W w.heap.size 27 #[.int .i64 1, .int .u64 (f : Int), .int .u64 (o : Int), .int .u64 (t : Int), .int .u64 (i : Int), .int .u64 (l : Int), .int .u64 (c : Int), .int .u64 (s : Int), .bool y, .slice a na ca, .slice b nb cb, .slice d nd cd]) ⟨HB1.out, Blk.new w _ _⟩ ?_
  clear HB1
  rintro w1 ⟨hb1, kb1⟩
  have HB1 := Lib.hid hb1
  have KB1 := Lib.hid kb1
  clear hb1 kb1
  go_wp2_with (refine wpList_load_by rfl 27 (.tmp 1) rfl _ _ rfl (KB1.out.loads 27 _ Try.underlying27 rfl rfl) ?_)
  refine (HForm.out w1 HB1.out).mono ?_
  rintro r w2 ⟨rfl, hb⟩
  have EB := KB1.out.keep hb
  obtain ⟨g, hg⟩ : ∃ g, g = w.heap.size := ⟨_, rfl⟩
  have HG := Lib.hid hg
  have HB2 : Hid (Below g w w2) := by rw [hg]; exact Lib.hid (HB1.out.trans (hb.mono HB1.out.size))
  have hgw : g ≤ w2.heap.size := HG.out ▸ Nat.le_trans HB1.out.size hb.size
  clear hb HForm
  rw [← hg] at EB
  clear hg HB1 KB1
  have hf64 := HOk.out.f
  have ho64 := HOk.out.o
  have ht64 := HOk.out.t
  have h3 := idsL_len [f, o, t] (ids3 hf64 ho64 ht64)
  simp only [List.length_cons, List.length_nil] at h3
  have HI3 := Lib.hid (ids3 hf64 ho64 ht64)
  go_upto_region 3 with fail
  rw [← HG.out]
  have hG : ∀ W W' : World, Below w2.heap.size w2 W → Below W.heap.size W W' → Below w2.heap.size w2 W' := fun W W' hW hb => hW.trans (hb.mono hW.size)
  have hBs : ∀ W : World, Below w2.heap.size w2 W → w2.heap.size ≤ W.heap.size := fun W h => h.size
  refine region_tails_by 12 [(11, .is (.pointer (some ⟨g, 0, none⟩))), (12, .is (.int .i64 1)), (13, .is (bv 1)), (14, .row w2.heap.size [1]), (15, .is (.pointer (some ⟨g, 1, none⟩))), (16, .is (.int .u64 (f : Int))), (17, .is (.pointer (some ⟨g, 2, none⟩))), (18, .is (.int .u64 (o : Int))), (19, .is (.pointer (some ⟨g, 3, none⟩))), (20, .is (.int .u64 (t : Int))), (21, farNums w2.heap.size [f, o, t]), (22, .row w2.heap.size (idsL [f, o, t]))] [1, 14, 22] (fun W => Below w2.heap.size w2 W) (by kernel_rfl) (by kernel_rfl) (by kernel_rfl) (by kernel_rfl) (by kernel_rfl) (by decide) (by kernel_rfl) (by kernel_rfl) ((Below.refl _ _).drew) ?_ ?_
  · refine ⟨?c0, ?c1, ?c2, ?c3, ?c4, ?c5, ?c6, ?c7, ?c8, ?c9, ?c10, ?c11, trivial⟩
    case c0 => exact ask_field (guard_none rfl) _ (.tmp 1) 0 (.pointer (some ⟨g, 0, none⟩)) (.pointer (some ⟨g, 0, none⟩)) rfl rfl (by intro k hk; cases hk; rfl) (fun W => by kernel_rfl)
    case c1 => exact ask_load (guard_none rfl) _ (.tmp 11) (.pointer (some ⟨g, 0, none⟩)) (.int .i64 1) rfl rfl (by intro k hk; cases hk; rfl) (fun W hW => load_intm W _ _ (by rw [hW.cell (p := ⟨g, 0, none⟩) EB.lt, EB.cell]; rfl))
    case c2 => exact ask_exec (guard_none rfl) (bv 1) rfl rfl (by intro k hk; cases hk; rfl) (fun W hW => by kernel_rfl)
    case c3 => exact ask_build_byteM hG (guard_none rfl) (.tmp 13) 1 w2.heap.size hBs rfl rfl (by intro k hk; cases hk; rfl)
    case c4 => exact ask_field (guard_none rfl) _ (.tmp 1) 1 (.pointer (some ⟨g, 0, none⟩)) (.pointer (some ⟨g, 1, none⟩)) rfl rfl (by intro k hk; cases hk; rfl) (fun W => by kernel_rfl)
    case c5 => exact ask_load (guard_none rfl) _ (.tmp 15) (.pointer (some ⟨g, 1, none⟩)) (.int .u64 (f : Int)) rfl rfl (by intro k hk; cases hk; rfl) (fun W hW => load_u64m W _ _ (by rw [hW.cell (p := ⟨g, 1, none⟩) EB.lt, EB.cell]; rfl))
    case c6 => exact ask_field (guard_none rfl) _ (.tmp 1) 2 (.pointer (some ⟨g, 0, none⟩)) (.pointer (some ⟨g, 2, none⟩)) rfl rfl (by intro k hk; cases hk; rfl) (fun W => by kernel_rfl)
    case c7 => exact ask_load (guard_none rfl) _ (.tmp 17) (.pointer (some ⟨g, 2, none⟩)) (.int .u64 (o : Int)) rfl rfl (by intro k hk; cases hk; rfl) (fun W hW => load_u64m W _ _ (by rw [hW.cell (p := ⟨g, 2, none⟩) EB.lt, EB.cell]; rfl))
    case c8 => exact ask_field (guard_none rfl) _ (.tmp 1) 3 (.pointer (some ⟨g, 0, none⟩)) (.pointer (some ⟨g, 3, none⟩)) rfl rfl (by intro k hk; cases hk; rfl) (fun W => by kernel_rfl)
    case c9 => exact ask_load (guard_none rfl) _ (.tmp 19) (.pointer (some ⟨g, 3, none⟩)) (.int .u64 (t : Int)) rfl rfl (by intro k hk; cases hk; rfl) (fun W hW => load_u64m W _ _ (by rw [hW.cell (p := ⟨g, 3, none⟩) EB.lt, EB.cell]; rfl))
    case c10 => exact ask_build_nums3 hG w2.heap.size hBs (guard_none rfl) (.tmp 16) (.tmp 18) (.tmp 20) f o t rfl rfl rfl rfl (by intro k hk; cases hk; rfl)
    case c11 => exact ask_call_by hG (guard_none rfl) _ _ _ (.row w2.heap.size (idsL [f, o, t])) rfl (by kernel_rfl) (by intro k hk; cases hk; rfl) (fun q W hW ht => by have h := farNums.nums (told_op ht (.tmp 21) (by simp [Op.operands, Call.operands])); exact (numbers_any _ [f, o, t] W h (by simp) HI3.out).mono fun r w' h => by obtain ⟨u, h1, h2, h3⟩ := h; exact ⟨u, h1, row_low h2 hW.size, h3⟩)
  intro af w3 hW hd' hs' hf'
  have t1 : af.tmps.getD 1 undef = (.pointer (some ⟨g, 0, none⟩)) := hf' 1 rfl
  have h14 : Row w3 w2.heap.size (af.tmps.getD 14 undef) [1] := hf' 14 rfl
  have h22 : Row w3 w2.heap.size (af.tmps.getD 22 undef) (idsL [f, o, t]) := hf' 22 rfl
  obtain ⟨tv, hus, haf⟩ := act_open 124 af hs' hd'
  rw [← hus] at t1 h14 h22
  have el : ((List.range 124).map tv).toArray = #[tv 0, tv 1, tv 2, tv 3, tv 4, tv 5, tv 6, tv 7, tv 8, tv 9, tv 10, tv 11, tv 12, tv 13, tv 14, tv 15, tv 16, tv 17, tv 18, tv 19, tv 20, tv 21, tv 22, tv 23, tv 24, tv 25, tv 26, tv 27, tv 28, tv 29, tv 30, tv 31, tv 32, tv 33, tv 34, tv 35, tv 36, tv 37, tv 38, tv 39, tv 40, tv 41, tv 42, tv 43, tv 44, tv 45, tv 46, tv 47, tv 48, tv 49, tv 50, tv 51, tv 52, tv 53, tv 54, tv 55, tv 56, tv 57, tv 58, tv 59, tv 60, tv 61, tv 62, tv 63, tv 64, tv 65, tv 66, tv 67, tv 68, tv 69, tv 70, tv 71, tv 72, tv 73, tv 74, tv 75, tv 76, tv 77, tv 78, tv 79, tv 80, tv 81, tv 82, tv 83, tv 84, tv 85, tv 86, tv 87, tv 88, tv 89, tv 90, tv 91, tv 92, tv 93, tv 94, tv 95, tv 96, tv 97, tv 98, tv 99, tv 100, tv 101, tv 102, tv 103, tv 104, tv 105, tv 106, tv 107, tv 108, tv 109, tv 110, tv 111, tv 112, tv 113, tv 114, tv 115, tv 116, tv 117, tv 118, tv 119, tv 120, tv 121, tv 122, tv 123] := rfl
  rw [el, t1] at haf
  subst haf
  have HR3 := Lib.hid (row_low h14 hgw)
  have EB3 := EB.keep hW
  have hg3 : g ≤ w3.heap.size := Nat.le_trans hgw hW.size
  have A3 := append_bys (B := g) hg3 HR3.out h22.bys (by simp only [List.length_cons, List.length_nil]; omega)
  have HA3 := Lib.hid A3
  have HB3 := Lib.hid (HB2.out.trans (hW.mono hgw))
  obtain ⟨va, hva⟩ : ∃ va, va = tv 14 := ⟨_, rfl⟩
  obtain ⟨vb, hvb⟩ : ∃ vb, vb = tv 22 := ⟨_, rfl⟩
  rw [← hva, ← hvb] at HA3 ⊢
  rw [← hva] at HR3
  clear hus t1 el hf' hs' hd' hW h14 h22 hG hBs EB hgw HB2 hva hvb A3
  simp only [List.drop_succ_cons, List.drop_zero]
  go_wp2_with (first | (at_builtin; refine wpList_append_by rfl _ _ 25 rfl _ _ rfl rfl _ HA3.out ?_; rintro v4 z4 ⟨hr, hgr⟩; (have EB4 := EB3.grown HR3.out (by decide) hgr); (have k0 : z4.cell? ⟨g, 0, none⟩ = some (.int .i64 1) := by rw [EB4.cell]; rfl); (have k4 : z4.cell? ⟨g, 4, none⟩ = some (.int .u64 (i : Int)) := by rw [EB4.cell]; rfl); (have k5 : z4.cell? ⟨g, 5, none⟩ = some (.int .u64 (l : Int)) := by rw [EB4.cell]; rfl); (have hg4 : g ≤ z4.heap.size := Nat.le_trans hg3 hgr.size); (have HR4 := Lib.hid hr); (have HB4 := Lib.hid (HB3.out.grown hgr hg3 fun k hk => (World.ownsRow.lt HR3.out k hk).1)); clear hr hgr) | (refine wpList_build_nums2 rfl (.tmp 30) (.tmp 32) rfl i l rfl rfl ?_; intro zn hn hbl; (have HN := Lib.hid hn); (have HBL := Lib.hid hbl); clear hn hbl k0 k4 k5))
  obtain ⟨L5, hL5⟩ : ∃ L, L = [1] ++ idsL [f, o, t] := ⟨_, rfl⟩
  have hl5 : L5.length ≤ 30 := by rw [hL5]; simp only [List.length_append, List.length_cons, List.length_nil]; omega
  rw [← hL5] at HR4
  have HL5 := Lib.hid hL5
  clear hL5
  have h4 := idsL_len [i, l] (ids2 HOk.out.i HOk.out.l)
  simp only [List.length_cons, List.length_nil] at h4
  refine (numbers_any _ [i, l] _ HN.out (by simp) (ids2 HOk.out.i HOk.out.l)).mono ?_
  rintro r wc ⟨u, rfl, hr, hb⟩
  have hbb6 := (HBL.out.trans (hb.mono HBL.out.size))
  have EB6 := EB4.keep hbb6
  have hg6 := Nat.le_trans hg4 hbb6.size
  have HR6 := Lib.hid (HR4.out.below hbb6)
  have A6 := append_bys (B := g) hg6 HR6.out hr.bys (by first | omega | (simp only [List.length_append]; omega))
  have HA6 := Lib.hid A6
  have HB6 := Lib.hid (HB4.out.trans (hbb6.mono hg4))
  clear hr hb hbb6 A6
  go_wp2_with (at_builtin; refine wpList_append_by rfl _ _ 25 rfl _ _ rfl rfl _ HA6.out ?_; rintro v7 z7 ⟨hr, hgr⟩; (have EB7 := EB6.grown HR6.out (by decide) hgr);  (have hg7 : g ≤ z7.heap.size := Nat.le_trans hg6 hgr.size); (have HR7 := Lib.hid hr); (have HB7 := Lib.hid (HB6.out.grown hgr hg6 fun k hk => (World.ownsRow.lt HR6.out k hk).1)); clear hr hgr)
  rw [← HG.out]
  have hput : putM (⟨1, f, o, t, i, l, c, s, y, e, ms, x⟩ : Mg) = L5 ++ idsL [i, l] := by rw [HL5.out]; simp [putM, bodyL, idsL]
  rw [hput]
  exact bodyPost_ret (v := .tuple #[v7, .int .i64 0]) (by simp [results, Try.results11, go_sem]) rfl ⟨_, rfl, HR7.out, HB7.out⟩
set_option maxHeartbeats 4000000 in
set_option maxRecDepth 100000 in
theorem msgput_2true (f o t i l c s : Nat) (e : List Ent) (ms : List Nat) (x : List UInt8) (ve vm vg : Value) (us : List EE) (w : World) (hm : MHas w (⟨2, f, o, t, i, l, c, s, true, e, ms, x⟩ : Mg) ve vm vg us) (hf : formedM (⟨2, f, o, t, i, l, c, s, true, e, ms, x⟩ : Mg) = true) :
    Calls Try.prog 11 #[.agg (mgC (⟨2, f, o, t, i, l, c, s, true, e, ms, x⟩ : Mg) ve vm vg)] w fun r w' => ∃ v, r = .returned (.tuple #[v, .int .i64 0]) ∧ Row w' w.heap.size v (putM (⟨2, f, o, t, i, l, c, s, true, e, ms, x⟩ : Mg)) ∧ Below w.heap.size w w' := by
  obtain ⟨a, ca, rfl⟩ := hm.els.form
  obtain ⟨b, cb, rfl⟩ := hm.ms.shape
  obtain ⟨d, cd, rfl⟩ := hm.gs.shape
  obtain ⟨na, hna⟩ : ∃ n, n = us.length := ⟨_, rfl⟩
  obtain ⟨nb, hnb⟩ : ∃ n, n = ms.length := ⟨_, rfl⟩
  obtain ⟨nd, hnd⟩ : ∃ n, n = x.length := ⟨_, rfl⟩
  have hel := hm.el
  have hen := hm.ents
  have hFF := formedM_facts hf
  simp only at hm hel hen hFF ⊢
  rw [← hna, ← hnb, ← hnd] at hm
  rw [← hna, ← hnb, ← hnd]
  have HM := Lib.hid hm
  have HNA := Lib.hid hna
  have HNB := Lib.hid hnb
  have HND := Lib.hid hnd
  have HEL := Lib.hid hel
  have HEN := Lib.hid hen
  have HFF := Lib.hid hFF
  have hna4 : na ≤ 4 := by have := hFF.1; omega
  have hnd4 : nd ≤ 16384 := by have := hFF.2.1; omega
  have HOk := Lib.hid hm.ok
  have b1 : Below w.heap.size w (w.alloc (.cells #[.int .i64 2, .int .u64 (f : Int), .int .u64 (o : Int), .int .u64 (t : Int), .int .u64 (i : Int), .int .u64 (l : Int), .int .u64 (c : Int), .int .u64 (s : Int), .bool true, .slice a na ca, .slice b nb cb, .slice d nd cd] 27)) := (Below.refl _ _).alloc (Nat.le_refl _) _
  have HB1 := Lib.hid b1
  have HForm := Lib.hid (fun (W : World) (hW : Below w.heap.size w W) => refMsgFormed_any _ _ _ _ us W (hm.below (Nat.le_refl _) hW))
  rw [hf] at HForm
  clear hm hna hnb hnd hel hen hFF hf b1
  simp only [mgC] at HForm ⊢
  go_enter Try.func11, Try.ntmps11
  go_upto_region 1 with fail
  refine world_cut (fun W => Below w.heap.size w W ∧ Blk W w.heap.size 27 #[.int .i64 2, .int .u64 (f : Int), .int .u64 (o : Int), .int .u64 (t : Int), .int .u64 (i : Int), .int .u64 (l : Int), .int .u64 (c : Int), .int .u64 (s : Int), .bool true, .slice a na ca, .slice b nb cb, .slice d nd cd]) ⟨HB1.out, Blk.new w _ _⟩ ?_
  clear HB1
  rintro w1 ⟨hb1, kb1⟩
  have HB1 := Lib.hid hb1
  have KB1 := Lib.hid kb1
  clear hb1 kb1
  go_wp2_with (refine wpList_load_by rfl 27 (.tmp 1) rfl _ _ rfl (KB1.out.loads 27 _ Try.underlying27 rfl rfl) ?_)
  refine (HForm.out w1 HB1.out).mono ?_
  rintro r w2 ⟨rfl, hb⟩
  have EB := KB1.out.keep hb
  obtain ⟨g, hg⟩ : ∃ g, g = w.heap.size := ⟨_, rfl⟩
  have HG := Lib.hid hg
  have HB2 : Hid (Below g w w2) := by rw [hg]; exact Lib.hid (HB1.out.trans (hb.mono HB1.out.size))
  have hgw : g ≤ w2.heap.size := HG.out ▸ Nat.le_trans HB1.out.size hb.size
  clear hb HForm
  rw [← hg] at EB
  clear hg HB1 KB1
  have hf64 := HOk.out.f
  have ho64 := HOk.out.o
  have ht64 := HOk.out.t
  have h3 := idsL_len [f, o, t] (ids3 hf64 ho64 ht64)
  simp only [List.length_cons, List.length_nil] at h3
  have HI3 := Lib.hid (ids3 hf64 ho64 ht64)
  go_upto_region 3 with fail
  rw [← HG.out]
  have hG : ∀ W W' : World, Below w2.heap.size w2 W → Below W.heap.size W W' → Below w2.heap.size w2 W' := fun W W' hW hb => hW.trans (hb.mono hW.size)
  have hBs : ∀ W : World, Below w2.heap.size w2 W → w2.heap.size ≤ W.heap.size := fun W h => h.size
  refine region_tails_by 12 [(11, .is (.pointer (some ⟨g, 0, none⟩))), (12, .is (.int .i64 2)), (13, .is (bv 2)), (14, .row w2.heap.size [2]), (15, .is (.pointer (some ⟨g, 1, none⟩))), (16, .is (.int .u64 (f : Int))), (17, .is (.pointer (some ⟨g, 2, none⟩))), (18, .is (.int .u64 (o : Int))), (19, .is (.pointer (some ⟨g, 3, none⟩))), (20, .is (.int .u64 (t : Int))), (21, farNums w2.heap.size [f, o, t]), (22, .row w2.heap.size (idsL [f, o, t]))] [1, 14, 22] (fun W => Below w2.heap.size w2 W) (by kernel_rfl) (by kernel_rfl) (by kernel_rfl) (by kernel_rfl) (by kernel_rfl) (by decide) (by kernel_rfl) (by kernel_rfl) ((Below.refl _ _).drew) ?_ ?_
  · refine ⟨?c0, ?c1, ?c2, ?c3, ?c4, ?c5, ?c6, ?c7, ?c8, ?c9, ?c10, ?c11, trivial⟩
    case c0 => exact ask_field (guard_none rfl) _ (.tmp 1) 0 (.pointer (some ⟨g, 0, none⟩)) (.pointer (some ⟨g, 0, none⟩)) rfl rfl (by intro k hk; cases hk; rfl) (fun W => by kernel_rfl)
    case c1 => exact ask_load (guard_none rfl) _ (.tmp 11) (.pointer (some ⟨g, 0, none⟩)) (.int .i64 2) rfl rfl (by intro k hk; cases hk; rfl) (fun W hW => load_intm W _ _ (by rw [hW.cell (p := ⟨g, 0, none⟩) EB.lt, EB.cell]; rfl))
    case c2 => exact ask_exec (guard_none rfl) (bv 2) rfl rfl (by intro k hk; cases hk; rfl) (fun W hW => by kernel_rfl)
    case c3 => exact ask_build_byteM hG (guard_none rfl) (.tmp 13) 2 w2.heap.size hBs rfl rfl (by intro k hk; cases hk; rfl)
    case c4 => exact ask_field (guard_none rfl) _ (.tmp 1) 1 (.pointer (some ⟨g, 0, none⟩)) (.pointer (some ⟨g, 1, none⟩)) rfl rfl (by intro k hk; cases hk; rfl) (fun W => by kernel_rfl)
    case c5 => exact ask_load (guard_none rfl) _ (.tmp 15) (.pointer (some ⟨g, 1, none⟩)) (.int .u64 (f : Int)) rfl rfl (by intro k hk; cases hk; rfl) (fun W hW => load_u64m W _ _ (by rw [hW.cell (p := ⟨g, 1, none⟩) EB.lt, EB.cell]; rfl))
    case c6 => exact ask_field (guard_none rfl) _ (.tmp 1) 2 (.pointer (some ⟨g, 0, none⟩)) (.pointer (some ⟨g, 2, none⟩)) rfl rfl (by intro k hk; cases hk; rfl) (fun W => by kernel_rfl)
    case c7 => exact ask_load (guard_none rfl) _ (.tmp 17) (.pointer (some ⟨g, 2, none⟩)) (.int .u64 (o : Int)) rfl rfl (by intro k hk; cases hk; rfl) (fun W hW => load_u64m W _ _ (by rw [hW.cell (p := ⟨g, 2, none⟩) EB.lt, EB.cell]; rfl))
    case c8 => exact ask_field (guard_none rfl) _ (.tmp 1) 3 (.pointer (some ⟨g, 0, none⟩)) (.pointer (some ⟨g, 3, none⟩)) rfl rfl (by intro k hk; cases hk; rfl) (fun W => by kernel_rfl)
    case c9 => exact ask_load (guard_none rfl) _ (.tmp 19) (.pointer (some ⟨g, 3, none⟩)) (.int .u64 (t : Int)) rfl rfl (by intro k hk; cases hk; rfl) (fun W hW => load_u64m W _ _ (by rw [hW.cell (p := ⟨g, 3, none⟩) EB.lt, EB.cell]; rfl))
    case c10 => exact ask_build_nums3 hG w2.heap.size hBs (guard_none rfl) (.tmp 16) (.tmp 18) (.tmp 20) f o t rfl rfl rfl rfl (by intro k hk; cases hk; rfl)
    case c11 => exact ask_call_by hG (guard_none rfl) _ _ _ (.row w2.heap.size (idsL [f, o, t])) rfl (by kernel_rfl) (by intro k hk; cases hk; rfl) (fun q W hW ht => by have h := farNums.nums (told_op ht (.tmp 21) (by simp [Op.operands, Call.operands])); exact (numbers_any _ [f, o, t] W h (by simp) HI3.out).mono fun r w' h => by obtain ⟨u, h1, h2, h3⟩ := h; exact ⟨u, h1, row_low h2 hW.size, h3⟩)
  intro af w3 hW hd' hs' hf'
  have t1 : af.tmps.getD 1 undef = (.pointer (some ⟨g, 0, none⟩)) := hf' 1 rfl
  have h14 : Row w3 w2.heap.size (af.tmps.getD 14 undef) [2] := hf' 14 rfl
  have h22 : Row w3 w2.heap.size (af.tmps.getD 22 undef) (idsL [f, o, t]) := hf' 22 rfl
  obtain ⟨tv, hus, haf⟩ := act_open 124 af hs' hd'
  rw [← hus] at t1 h14 h22
  have el : ((List.range 124).map tv).toArray = #[tv 0, tv 1, tv 2, tv 3, tv 4, tv 5, tv 6, tv 7, tv 8, tv 9, tv 10, tv 11, tv 12, tv 13, tv 14, tv 15, tv 16, tv 17, tv 18, tv 19, tv 20, tv 21, tv 22, tv 23, tv 24, tv 25, tv 26, tv 27, tv 28, tv 29, tv 30, tv 31, tv 32, tv 33, tv 34, tv 35, tv 36, tv 37, tv 38, tv 39, tv 40, tv 41, tv 42, tv 43, tv 44, tv 45, tv 46, tv 47, tv 48, tv 49, tv 50, tv 51, tv 52, tv 53, tv 54, tv 55, tv 56, tv 57, tv 58, tv 59, tv 60, tv 61, tv 62, tv 63, tv 64, tv 65, tv 66, tv 67, tv 68, tv 69, tv 70, tv 71, tv 72, tv 73, tv 74, tv 75, tv 76, tv 77, tv 78, tv 79, tv 80, tv 81, tv 82, tv 83, tv 84, tv 85, tv 86, tv 87, tv 88, tv 89, tv 90, tv 91, tv 92, tv 93, tv 94, tv 95, tv 96, tv 97, tv 98, tv 99, tv 100, tv 101, tv 102, tv 103, tv 104, tv 105, tv 106, tv 107, tv 108, tv 109, tv 110, tv 111, tv 112, tv 113, tv 114, tv 115, tv 116, tv 117, tv 118, tv 119, tv 120, tv 121, tv 122, tv 123] := rfl
  rw [el, t1] at haf
  subst haf
  have HR3 := Lib.hid (row_low h14 hgw)
  have EB3 := EB.keep hW
  have hg3 : g ≤ w3.heap.size := Nat.le_trans hgw hW.size
  have A3 := append_bys (B := g) hg3 HR3.out h22.bys (by simp only [List.length_cons, List.length_nil]; omega)
  have HA3 := Lib.hid A3
  have HB3 := Lib.hid (HB2.out.trans (hW.mono hgw))
  obtain ⟨va, hva⟩ : ∃ va, va = tv 14 := ⟨_, rfl⟩
  obtain ⟨vb, hvb⟩ : ∃ vb, vb = tv 22 := ⟨_, rfl⟩
  rw [← hva, ← hvb] at HA3 ⊢
  rw [← hva] at HR3
  clear hus t1 el hf' hs' hd' hW h14 h22 hG hBs EB hgw HB2 hva hvb A3
  simp only [List.drop_succ_cons, List.drop_zero]
  go_wp2_with (at_builtin; refine wpList_append_by rfl _ _ 25 rfl _ _ rfl rfl _ HA3.out ?_; rintro v8 z8 ⟨hr, hgr⟩; (have EB8 := EB3.grown HR3.out (by decide) hgr); (have k0 : z8.cell? ⟨g, 0, none⟩ = some (.int .i64 2) := by rw [EB8.cell]; rfl); (have k8 : z8.cell? ⟨g, 8, none⟩ = some (.bool true) := by rw [EB8.cell]; rfl); (have hg8 : g ≤ z8.heap.size := Nat.le_trans hg3 hgr.size); (have HR8 := Lib.hid hr); (have HB8 := Lib.hid (HB3.out.grown hgr hg3 fun k hk => (World.ownsRow.lt HR3.out k hk).1)); clear hr hgr)
  obtain ⟨L9, hL9⟩ : ∃ L, L = [2] ++ idsL [f, o, t] := ⟨_, rfl⟩
  have hl9 : L9.length ≤ 30 := by rw [hL9]; simp only [List.length_append, List.length_cons, List.length_nil]; omega
  rw [← hL9] at HR8
  have HL9 := Lib.hid hL9
  clear hL9
  have HFl := Lib.hid (show ∀ W, Calls Try.prog 22 #[.bool true] W fun r w' => r = .returned (.int .u8 1) ∧ w' = W from fun W => flag_any true W)
  refine (HFl.out _).mono ?_
  rintro r wf ⟨rfl, rfl⟩
  clear k0 k8
  go_wp2_with (first | (refine wpList_build_byte rfl (.tmp 41) rfl 1 rfl ?_; intro zn hn hb; (have hbb := hb); (have EBn := EB8.keep hb); (have hgn := Nat.le_trans hg8 hb.size); (have HRn := Lib.hid (HR8.out.below hb)); (have HAn := Lib.hid (append_bys (B := g) hgn HRn.out hn (by simp only [List.length_cons, List.length_nil]; omega))); (have HBn := Lib.hid (HB8.out.trans (hb.mono hg8))); clear hn hb hbb) | (at_builtin; refine wpList_append_by rfl _ _ 25 rfl _ _ rfl rfl _ HAn.out ?_; rintro v10 z10 ⟨hr, hgr⟩; (have EB10 := EBn.grown HRn.out (by decide) hgr);  (have hg10 : g ≤ z10.heap.size := Nat.le_trans hgn hgr.size); (have HR10 := Lib.hid hr); (have HB10 := Lib.hid (HBn.out.grown hgr hgn fun k hk => (World.ownsRow.lt HRn.out k hk).1)); clear hr hgr))
  rw [← HG.out]
  have hput : putM (⟨2, f, o, t, i, l, c, s, true, e, ms, x⟩ : Mg) = L9 ++ [1] := by rw [HL9.out]; simp [putM, bodyL, idsL, flagL]
  rw [hput]
  exact bodyPost_ret (v := .tuple #[v10, .int .i64 0]) (by simp [results, Try.results11, go_sem]) rfl ⟨_, rfl, HR10.out, HB10.out⟩
set_option maxHeartbeats 4000000 in
set_option maxRecDepth 100000 in
theorem msgput_2false (f o t i l c s : Nat) (e : List Ent) (ms : List Nat) (x : List UInt8) (ve vm vg : Value) (us : List EE) (w : World) (hm : MHas w (⟨2, f, o, t, i, l, c, s, false, e, ms, x⟩ : Mg) ve vm vg us) (hf : formedM (⟨2, f, o, t, i, l, c, s, false, e, ms, x⟩ : Mg) = true) :
    Calls Try.prog 11 #[.agg (mgC (⟨2, f, o, t, i, l, c, s, false, e, ms, x⟩ : Mg) ve vm vg)] w fun r w' => ∃ v, r = .returned (.tuple #[v, .int .i64 0]) ∧ Row w' w.heap.size v (putM (⟨2, f, o, t, i, l, c, s, false, e, ms, x⟩ : Mg)) ∧ Below w.heap.size w w' := by
  obtain ⟨a, ca, rfl⟩ := hm.els.form
  obtain ⟨b, cb, rfl⟩ := hm.ms.shape
  obtain ⟨d, cd, rfl⟩ := hm.gs.shape
  obtain ⟨na, hna⟩ : ∃ n, n = us.length := ⟨_, rfl⟩
  obtain ⟨nb, hnb⟩ : ∃ n, n = ms.length := ⟨_, rfl⟩
  obtain ⟨nd, hnd⟩ : ∃ n, n = x.length := ⟨_, rfl⟩
  have hel := hm.el
  have hen := hm.ents
  have hFF := formedM_facts hf
  simp only at hm hel hen hFF ⊢
  rw [← hna, ← hnb, ← hnd] at hm
  rw [← hna, ← hnb, ← hnd]
  have HM := Lib.hid hm
  have HNA := Lib.hid hna
  have HNB := Lib.hid hnb
  have HND := Lib.hid hnd
  have HEL := Lib.hid hel
  have HEN := Lib.hid hen
  have HFF := Lib.hid hFF
  have hna4 : na ≤ 4 := by have := hFF.1; omega
  have hnd4 : nd ≤ 16384 := by have := hFF.2.1; omega
  have HOk := Lib.hid hm.ok
  have b1 : Below w.heap.size w (w.alloc (.cells #[.int .i64 2, .int .u64 (f : Int), .int .u64 (o : Int), .int .u64 (t : Int), .int .u64 (i : Int), .int .u64 (l : Int), .int .u64 (c : Int), .int .u64 (s : Int), .bool false, .slice a na ca, .slice b nb cb, .slice d nd cd] 27)) := (Below.refl _ _).alloc (Nat.le_refl _) _
  have HB1 := Lib.hid b1
  have HForm := Lib.hid (fun (W : World) (hW : Below w.heap.size w W) => refMsgFormed_any _ _ _ _ us W (hm.below (Nat.le_refl _) hW))
  rw [hf] at HForm
  clear hm hna hnb hnd hel hen hFF hf b1
  simp only [mgC] at HForm ⊢
  go_enter Try.func11, Try.ntmps11
  go_upto_region 1 with fail
  refine world_cut (fun W => Below w.heap.size w W ∧ Blk W w.heap.size 27 #[.int .i64 2, .int .u64 (f : Int), .int .u64 (o : Int), .int .u64 (t : Int), .int .u64 (i : Int), .int .u64 (l : Int), .int .u64 (c : Int), .int .u64 (s : Int), .bool false, .slice a na ca, .slice b nb cb, .slice d nd cd]) ⟨HB1.out, Blk.new w _ _⟩ ?_
  clear HB1
  rintro w1 ⟨hb1, kb1⟩
  have HB1 := Lib.hid hb1
  have KB1 := Lib.hid kb1
  clear hb1 kb1
  go_wp2_with (refine wpList_load_by rfl 27 (.tmp 1) rfl _ _ rfl (KB1.out.loads 27 _ Try.underlying27 rfl rfl) ?_)
  refine (HForm.out w1 HB1.out).mono ?_
  rintro r w2 ⟨rfl, hb⟩
  have EB := KB1.out.keep hb
  obtain ⟨g, hg⟩ : ∃ g, g = w.heap.size := ⟨_, rfl⟩
  have HG := Lib.hid hg
  have HB2 : Hid (Below g w w2) := by rw [hg]; exact Lib.hid (HB1.out.trans (hb.mono HB1.out.size))
  have hgw : g ≤ w2.heap.size := HG.out ▸ Nat.le_trans HB1.out.size hb.size
  clear hb HForm
  rw [← hg] at EB
  clear hg HB1 KB1
  have hf64 := HOk.out.f
  have ho64 := HOk.out.o
  have ht64 := HOk.out.t
  have h3 := idsL_len [f, o, t] (ids3 hf64 ho64 ht64)
  simp only [List.length_cons, List.length_nil] at h3
  have HI3 := Lib.hid (ids3 hf64 ho64 ht64)
  go_upto_region 3 with fail
  rw [← HG.out]
  have hG : ∀ W W' : World, Below w2.heap.size w2 W → Below W.heap.size W W' → Below w2.heap.size w2 W' := fun W W' hW hb => hW.trans (hb.mono hW.size)
  have hBs : ∀ W : World, Below w2.heap.size w2 W → w2.heap.size ≤ W.heap.size := fun W h => h.size
  refine region_tails_by 12 [(11, .is (.pointer (some ⟨g, 0, none⟩))), (12, .is (.int .i64 2)), (13, .is (bv 2)), (14, .row w2.heap.size [2]), (15, .is (.pointer (some ⟨g, 1, none⟩))), (16, .is (.int .u64 (f : Int))), (17, .is (.pointer (some ⟨g, 2, none⟩))), (18, .is (.int .u64 (o : Int))), (19, .is (.pointer (some ⟨g, 3, none⟩))), (20, .is (.int .u64 (t : Int))), (21, farNums w2.heap.size [f, o, t]), (22, .row w2.heap.size (idsL [f, o, t]))] [1, 14, 22] (fun W => Below w2.heap.size w2 W) (by kernel_rfl) (by kernel_rfl) (by kernel_rfl) (by kernel_rfl) (by kernel_rfl) (by decide) (by kernel_rfl) (by kernel_rfl) ((Below.refl _ _).drew) ?_ ?_
  · refine ⟨?c0, ?c1, ?c2, ?c3, ?c4, ?c5, ?c6, ?c7, ?c8, ?c9, ?c10, ?c11, trivial⟩
    case c0 => exact ask_field (guard_none rfl) _ (.tmp 1) 0 (.pointer (some ⟨g, 0, none⟩)) (.pointer (some ⟨g, 0, none⟩)) rfl rfl (by intro k hk; cases hk; rfl) (fun W => by kernel_rfl)
    case c1 => exact ask_load (guard_none rfl) _ (.tmp 11) (.pointer (some ⟨g, 0, none⟩)) (.int .i64 2) rfl rfl (by intro k hk; cases hk; rfl) (fun W hW => load_intm W _ _ (by rw [hW.cell (p := ⟨g, 0, none⟩) EB.lt, EB.cell]; rfl))
    case c2 => exact ask_exec (guard_none rfl) (bv 2) rfl rfl (by intro k hk; cases hk; rfl) (fun W hW => by kernel_rfl)
    case c3 => exact ask_build_byteM hG (guard_none rfl) (.tmp 13) 2 w2.heap.size hBs rfl rfl (by intro k hk; cases hk; rfl)
    case c4 => exact ask_field (guard_none rfl) _ (.tmp 1) 1 (.pointer (some ⟨g, 0, none⟩)) (.pointer (some ⟨g, 1, none⟩)) rfl rfl (by intro k hk; cases hk; rfl) (fun W => by kernel_rfl)
    case c5 => exact ask_load (guard_none rfl) _ (.tmp 15) (.pointer (some ⟨g, 1, none⟩)) (.int .u64 (f : Int)) rfl rfl (by intro k hk; cases hk; rfl) (fun W hW => load_u64m W _ _ (by rw [hW.cell (p := ⟨g, 1, none⟩) EB.lt, EB.cell]; rfl))
    case c6 => exact ask_field (guard_none rfl) _ (.tmp 1) 2 (.pointer (some ⟨g, 0, none⟩)) (.pointer (some ⟨g, 2, none⟩)) rfl rfl (by intro k hk; cases hk; rfl) (fun W => by kernel_rfl)
    case c7 => exact ask_load (guard_none rfl) _ (.tmp 17) (.pointer (some ⟨g, 2, none⟩)) (.int .u64 (o : Int)) rfl rfl (by intro k hk; cases hk; rfl) (fun W hW => load_u64m W _ _ (by rw [hW.cell (p := ⟨g, 2, none⟩) EB.lt, EB.cell]; rfl))
    case c8 => exact ask_field (guard_none rfl) _ (.tmp 1) 3 (.pointer (some ⟨g, 0, none⟩)) (.pointer (some ⟨g, 3, none⟩)) rfl rfl (by intro k hk; cases hk; rfl) (fun W => by kernel_rfl)
    case c9 => exact ask_load (guard_none rfl) _ (.tmp 19) (.pointer (some ⟨g, 3, none⟩)) (.int .u64 (t : Int)) rfl rfl (by intro k hk; cases hk; rfl) (fun W hW => load_u64m W _ _ (by rw [hW.cell (p := ⟨g, 3, none⟩) EB.lt, EB.cell]; rfl))
    case c10 => exact ask_build_nums3 hG w2.heap.size hBs (guard_none rfl) (.tmp 16) (.tmp 18) (.tmp 20) f o t rfl rfl rfl rfl (by intro k hk; cases hk; rfl)
    case c11 => exact ask_call_by hG (guard_none rfl) _ _ _ (.row w2.heap.size (idsL [f, o, t])) rfl (by kernel_rfl) (by intro k hk; cases hk; rfl) (fun q W hW ht => by have h := farNums.nums (told_op ht (.tmp 21) (by simp [Op.operands, Call.operands])); exact (numbers_any _ [f, o, t] W h (by simp) HI3.out).mono fun r w' h => by obtain ⟨u, h1, h2, h3⟩ := h; exact ⟨u, h1, row_low h2 hW.size, h3⟩)
  intro af w3 hW hd' hs' hf'
  have t1 : af.tmps.getD 1 undef = (.pointer (some ⟨g, 0, none⟩)) := hf' 1 rfl
  have h14 : Row w3 w2.heap.size (af.tmps.getD 14 undef) [2] := hf' 14 rfl
  have h22 : Row w3 w2.heap.size (af.tmps.getD 22 undef) (idsL [f, o, t]) := hf' 22 rfl
  obtain ⟨tv, hus, haf⟩ := act_open 124 af hs' hd'
  rw [← hus] at t1 h14 h22
  have el : ((List.range 124).map tv).toArray = #[tv 0, tv 1, tv 2, tv 3, tv 4, tv 5, tv 6, tv 7, tv 8, tv 9, tv 10, tv 11, tv 12, tv 13, tv 14, tv 15, tv 16, tv 17, tv 18, tv 19, tv 20, tv 21, tv 22, tv 23, tv 24, tv 25, tv 26, tv 27, tv 28, tv 29, tv 30, tv 31, tv 32, tv 33, tv 34, tv 35, tv 36, tv 37, tv 38, tv 39, tv 40, tv 41, tv 42, tv 43, tv 44, tv 45, tv 46, tv 47, tv 48, tv 49, tv 50, tv 51, tv 52, tv 53, tv 54, tv 55, tv 56, tv 57, tv 58, tv 59, tv 60, tv 61, tv 62, tv 63, tv 64, tv 65, tv 66, tv 67, tv 68, tv 69, tv 70, tv 71, tv 72, tv 73, tv 74, tv 75, tv 76, tv 77, tv 78, tv 79, tv 80, tv 81, tv 82, tv 83, tv 84, tv 85, tv 86, tv 87, tv 88, tv 89, tv 90, tv 91, tv 92, tv 93, tv 94, tv 95, tv 96, tv 97, tv 98, tv 99, tv 100, tv 101, tv 102, tv 103, tv 104, tv 105, tv 106, tv 107, tv 108, tv 109, tv 110, tv 111, tv 112, tv 113, tv 114, tv 115, tv 116, tv 117, tv 118, tv 119, tv 120, tv 121, tv 122, tv 123] := rfl
  rw [el, t1] at haf
  subst haf
  have HR3 := Lib.hid (row_low h14 hgw)
  have EB3 := EB.keep hW
  have hg3 : g ≤ w3.heap.size := Nat.le_trans hgw hW.size
  have A3 := append_bys (B := g) hg3 HR3.out h22.bys (by simp only [List.length_cons, List.length_nil]; omega)
  have HA3 := Lib.hid A3
  have HB3 := Lib.hid (HB2.out.trans (hW.mono hgw))
  obtain ⟨va, hva⟩ : ∃ va, va = tv 14 := ⟨_, rfl⟩
  obtain ⟨vb, hvb⟩ : ∃ vb, vb = tv 22 := ⟨_, rfl⟩
  rw [← hva, ← hvb] at HA3 ⊢
  rw [← hva] at HR3
  clear hus t1 el hf' hs' hd' hW h14 h22 hG hBs EB hgw HB2 hva hvb A3
  simp only [List.drop_succ_cons, List.drop_zero]
  go_wp2_with (at_builtin; refine wpList_append_by rfl _ _ 25 rfl _ _ rfl rfl _ HA3.out ?_; rintro v11 z11 ⟨hr, hgr⟩; (have EB11 := EB3.grown HR3.out (by decide) hgr); (have k0 : z11.cell? ⟨g, 0, none⟩ = some (.int .i64 2) := by rw [EB11.cell]; rfl); (have k8 : z11.cell? ⟨g, 8, none⟩ = some (.bool false) := by rw [EB11.cell]; rfl); (have hg11 : g ≤ z11.heap.size := Nat.le_trans hg3 hgr.size); (have HR11 := Lib.hid hr); (have HB11 := Lib.hid (HB3.out.grown hgr hg3 fun k hk => (World.ownsRow.lt HR3.out k hk).1)); clear hr hgr)
  obtain ⟨L12, hL12⟩ : ∃ L, L = [2] ++ idsL [f, o, t] := ⟨_, rfl⟩
  have hl12 : L12.length ≤ 30 := by rw [hL12]; simp only [List.length_append, List.length_cons, List.length_nil]; omega
  rw [← hL12] at HR11
  have HL12 := Lib.hid hL12
  clear hL12
  have HFl := Lib.hid (show ∀ W, Calls Try.prog 22 #[.bool false] W fun r w' => r = .returned (.int .u8 0) ∧ w' = W from fun W => flag_any false W)
  refine (HFl.out _).mono ?_
  rintro r wf ⟨rfl, rfl⟩
  clear k0 k8
  go_wp2_with (first | (refine wpList_build_byte rfl (.tmp 41) rfl 0 rfl ?_; intro zn hn hb; (have hbb := hb); (have EBn := EB11.keep hb); (have hgn := Nat.le_trans hg11 hb.size); (have HRn := Lib.hid (HR11.out.below hb)); (have HAn := Lib.hid (append_bys (B := g) hgn HRn.out hn (by simp only [List.length_cons, List.length_nil]; omega))); (have HBn := Lib.hid (HB11.out.trans (hb.mono hg11))); clear hn hb hbb) | (at_builtin; refine wpList_append_by rfl _ _ 25 rfl _ _ rfl rfl _ HAn.out ?_; rintro v13 z13 ⟨hr, hgr⟩; (have EB13 := EBn.grown HRn.out (by decide) hgr);  (have hg13 : g ≤ z13.heap.size := Nat.le_trans hgn hgr.size); (have HR13 := Lib.hid hr); (have HB13 := Lib.hid (HBn.out.grown hgr hgn fun k hk => (World.ownsRow.lt HRn.out k hk).1)); clear hr hgr))
  rw [← HG.out]
  have hput : putM (⟨2, f, o, t, i, l, c, s, false, e, ms, x⟩ : Mg) = L12 ++ [0] := by rw [HL12.out]; simp [putM, bodyL, idsL, flagL]
  rw [hput]
  exact bodyPost_ret (v := .tuple #[v13, .int .i64 0]) (by simp [results, Try.results11, go_sem]) rfl ⟨_, rfl, HR13.out, HB13.out⟩
set_option maxHeartbeats 4000000 in
set_option maxRecDepth 100000 in
theorem msgput_5 (f o t i l c s : Nat) (y : Bool) (e : List Ent) (ms : List Nat) (x : List UInt8) (ve vm vg : Value) (us : List EE) (w : World) (hm : MHas w (⟨5, f, o, t, i, l, c, s, y, e, ms, x⟩ : Mg) ve vm vg us) (hf : formedM (⟨5, f, o, t, i, l, c, s, y, e, ms, x⟩ : Mg) = true) :
    Calls Try.prog 11 #[.agg (mgC (⟨5, f, o, t, i, l, c, s, y, e, ms, x⟩ : Mg) ve vm vg)] w fun r w' => ∃ v, r = .returned (.tuple #[v, .int .i64 0]) ∧ Row w' w.heap.size v (putM (⟨5, f, o, t, i, l, c, s, y, e, ms, x⟩ : Mg)) ∧ Below w.heap.size w w' := by
  obtain ⟨a, ca, rfl⟩ := hm.els.form
  obtain ⟨b, cb, rfl⟩ := hm.ms.shape
  obtain ⟨d, cd, rfl⟩ := hm.gs.shape
  obtain ⟨na, hna⟩ : ∃ n, n = us.length := ⟨_, rfl⟩
  obtain ⟨nb, hnb⟩ : ∃ n, n = ms.length := ⟨_, rfl⟩
  obtain ⟨nd, hnd⟩ : ∃ n, n = x.length := ⟨_, rfl⟩
  have hel := hm.el
  have hen := hm.ents
  have hFF := formedM_facts hf
  simp only at hm hel hen hFF ⊢
  rw [← hna, ← hnb, ← hnd] at hm
  rw [← hna, ← hnb, ← hnd]
  have HM := Lib.hid hm
  have HNA := Lib.hid hna
  have HNB := Lib.hid hnb
  have HND := Lib.hid hnd
  have HEL := Lib.hid hel
  have HEN := Lib.hid hen
  have HFF := Lib.hid hFF
  have hna4 : na ≤ 4 := by have := hFF.1; omega
  have hnd4 : nd ≤ 16384 := by have := hFF.2.1; omega
  have HOk := Lib.hid hm.ok
  have b1 : Below w.heap.size w (w.alloc (.cells #[.int .i64 5, .int .u64 (f : Int), .int .u64 (o : Int), .int .u64 (t : Int), .int .u64 (i : Int), .int .u64 (l : Int), .int .u64 (c : Int), .int .u64 (s : Int), .bool y, .slice a na ca, .slice b nb cb, .slice d nd cd] 27)) := (Below.refl _ _).alloc (Nat.le_refl _) _
  have HB1 := Lib.hid b1
  have HForm := Lib.hid (fun (W : World) (hW : Below w.heap.size w W) => refMsgFormed_any _ _ _ _ us W (hm.below (Nat.le_refl _) hW))
  rw [hf] at HForm
  clear hm hna hnb hnd hel hen hFF hf b1
  simp only [mgC] at HForm ⊢
  go_enter Try.func11, Try.ntmps11
  go_upto_region 1 with fail
  refine world_cut (fun W => Below w.heap.size w W ∧ Blk W w.heap.size 27 #[.int .i64 5, .int .u64 (f : Int), .int .u64 (o : Int), .int .u64 (t : Int), .int .u64 (i : Int), .int .u64 (l : Int), .int .u64 (c : Int), .int .u64 (s : Int), .bool y, .slice a na ca, .slice b nb cb, .slice d nd cd]) ⟨HB1.out, Blk.new w _ _⟩ ?_
  clear HB1
  rintro w1 ⟨hb1, kb1⟩
  have HB1 := Lib.hid hb1
  have KB1 := Lib.hid kb1
  clear hb1 kb1
  go_wp2_with (refine wpList_load_by rfl 27 (.tmp 1) rfl _ _ rfl (KB1.out.loads 27 _ Try.underlying27 rfl rfl) ?_)
  refine (HForm.out w1 HB1.out).mono ?_
  rintro r w2 ⟨rfl, hb⟩
  have EB := KB1.out.keep hb
  obtain ⟨g, hg⟩ : ∃ g, g = w.heap.size := ⟨_, rfl⟩
  have HG := Lib.hid hg
  have HB2 : Hid (Below g w w2) := by rw [hg]; exact Lib.hid (HB1.out.trans (hb.mono HB1.out.size))
  have hgw : g ≤ w2.heap.size := HG.out ▸ Nat.le_trans HB1.out.size hb.size
  clear hb HForm
  rw [← hg] at EB
  clear hg HB1 KB1
  have hf64 := HOk.out.f
  have ho64 := HOk.out.o
  have ht64 := HOk.out.t
  have h3 := idsL_len [f, o, t] (ids3 hf64 ho64 ht64)
  simp only [List.length_cons, List.length_nil] at h3
  have HI3 := Lib.hid (ids3 hf64 ho64 ht64)
  go_upto_region 3 with fail
  rw [← HG.out]
  have hG : ∀ W W' : World, Below w2.heap.size w2 W → Below W.heap.size W W' → Below w2.heap.size w2 W' := fun W W' hW hb => hW.trans (hb.mono hW.size)
  have hBs : ∀ W : World, Below w2.heap.size w2 W → w2.heap.size ≤ W.heap.size := fun W h => h.size
  refine region_tails_by 12 [(11, .is (.pointer (some ⟨g, 0, none⟩))), (12, .is (.int .i64 5)), (13, .is (bv 5)), (14, .row w2.heap.size [5]), (15, .is (.pointer (some ⟨g, 1, none⟩))), (16, .is (.int .u64 (f : Int))), (17, .is (.pointer (some ⟨g, 2, none⟩))), (18, .is (.int .u64 (o : Int))), (19, .is (.pointer (some ⟨g, 3, none⟩))), (20, .is (.int .u64 (t : Int))), (21, farNums w2.heap.size [f, o, t]), (22, .row w2.heap.size (idsL [f, o, t]))] [1, 14, 22] (fun W => Below w2.heap.size w2 W) (by kernel_rfl) (by kernel_rfl) (by kernel_rfl) (by kernel_rfl) (by kernel_rfl) (by decide) (by kernel_rfl) (by kernel_rfl) ((Below.refl _ _).drew) ?_ ?_
  · refine ⟨?c0, ?c1, ?c2, ?c3, ?c4, ?c5, ?c6, ?c7, ?c8, ?c9, ?c10, ?c11, trivial⟩
    case c0 => exact ask_field (guard_none rfl) _ (.tmp 1) 0 (.pointer (some ⟨g, 0, none⟩)) (.pointer (some ⟨g, 0, none⟩)) rfl rfl (by intro k hk; cases hk; rfl) (fun W => by kernel_rfl)
    case c1 => exact ask_load (guard_none rfl) _ (.tmp 11) (.pointer (some ⟨g, 0, none⟩)) (.int .i64 5) rfl rfl (by intro k hk; cases hk; rfl) (fun W hW => load_intm W _ _ (by rw [hW.cell (p := ⟨g, 0, none⟩) EB.lt, EB.cell]; rfl))
    case c2 => exact ask_exec (guard_none rfl) (bv 5) rfl rfl (by intro k hk; cases hk; rfl) (fun W hW => by kernel_rfl)
    case c3 => exact ask_build_byteM hG (guard_none rfl) (.tmp 13) 5 w2.heap.size hBs rfl rfl (by intro k hk; cases hk; rfl)
    case c4 => exact ask_field (guard_none rfl) _ (.tmp 1) 1 (.pointer (some ⟨g, 0, none⟩)) (.pointer (some ⟨g, 1, none⟩)) rfl rfl (by intro k hk; cases hk; rfl) (fun W => by kernel_rfl)
    case c5 => exact ask_load (guard_none rfl) _ (.tmp 15) (.pointer (some ⟨g, 1, none⟩)) (.int .u64 (f : Int)) rfl rfl (by intro k hk; cases hk; rfl) (fun W hW => load_u64m W _ _ (by rw [hW.cell (p := ⟨g, 1, none⟩) EB.lt, EB.cell]; rfl))
    case c6 => exact ask_field (guard_none rfl) _ (.tmp 1) 2 (.pointer (some ⟨g, 0, none⟩)) (.pointer (some ⟨g, 2, none⟩)) rfl rfl (by intro k hk; cases hk; rfl) (fun W => by kernel_rfl)
    case c7 => exact ask_load (guard_none rfl) _ (.tmp 17) (.pointer (some ⟨g, 2, none⟩)) (.int .u64 (o : Int)) rfl rfl (by intro k hk; cases hk; rfl) (fun W hW => load_u64m W _ _ (by rw [hW.cell (p := ⟨g, 2, none⟩) EB.lt, EB.cell]; rfl))
    case c8 => exact ask_field (guard_none rfl) _ (.tmp 1) 3 (.pointer (some ⟨g, 0, none⟩)) (.pointer (some ⟨g, 3, none⟩)) rfl rfl (by intro k hk; cases hk; rfl) (fun W => by kernel_rfl)
    case c9 => exact ask_load (guard_none rfl) _ (.tmp 19) (.pointer (some ⟨g, 3, none⟩)) (.int .u64 (t : Int)) rfl rfl (by intro k hk; cases hk; rfl) (fun W hW => load_u64m W _ _ (by rw [hW.cell (p := ⟨g, 3, none⟩) EB.lt, EB.cell]; rfl))
    case c10 => exact ask_build_nums3 hG w2.heap.size hBs (guard_none rfl) (.tmp 16) (.tmp 18) (.tmp 20) f o t rfl rfl rfl rfl (by intro k hk; cases hk; rfl)
    case c11 => exact ask_call_by hG (guard_none rfl) _ _ _ (.row w2.heap.size (idsL [f, o, t])) rfl (by kernel_rfl) (by intro k hk; cases hk; rfl) (fun q W hW ht => by have h := farNums.nums (told_op ht (.tmp 21) (by simp [Op.operands, Call.operands])); exact (numbers_any _ [f, o, t] W h (by simp) HI3.out).mono fun r w' h => by obtain ⟨u, h1, h2, h3⟩ := h; exact ⟨u, h1, row_low h2 hW.size, h3⟩)
  intro af w3 hW hd' hs' hf'
  have t1 : af.tmps.getD 1 undef = (.pointer (some ⟨g, 0, none⟩)) := hf' 1 rfl
  have h14 : Row w3 w2.heap.size (af.tmps.getD 14 undef) [5] := hf' 14 rfl
  have h22 : Row w3 w2.heap.size (af.tmps.getD 22 undef) (idsL [f, o, t]) := hf' 22 rfl
  obtain ⟨tv, hus, haf⟩ := act_open 124 af hs' hd'
  rw [← hus] at t1 h14 h22
  have el : ((List.range 124).map tv).toArray = #[tv 0, tv 1, tv 2, tv 3, tv 4, tv 5, tv 6, tv 7, tv 8, tv 9, tv 10, tv 11, tv 12, tv 13, tv 14, tv 15, tv 16, tv 17, tv 18, tv 19, tv 20, tv 21, tv 22, tv 23, tv 24, tv 25, tv 26, tv 27, tv 28, tv 29, tv 30, tv 31, tv 32, tv 33, tv 34, tv 35, tv 36, tv 37, tv 38, tv 39, tv 40, tv 41, tv 42, tv 43, tv 44, tv 45, tv 46, tv 47, tv 48, tv 49, tv 50, tv 51, tv 52, tv 53, tv 54, tv 55, tv 56, tv 57, tv 58, tv 59, tv 60, tv 61, tv 62, tv 63, tv 64, tv 65, tv 66, tv 67, tv 68, tv 69, tv 70, tv 71, tv 72, tv 73, tv 74, tv 75, tv 76, tv 77, tv 78, tv 79, tv 80, tv 81, tv 82, tv 83, tv 84, tv 85, tv 86, tv 87, tv 88, tv 89, tv 90, tv 91, tv 92, tv 93, tv 94, tv 95, tv 96, tv 97, tv 98, tv 99, tv 100, tv 101, tv 102, tv 103, tv 104, tv 105, tv 106, tv 107, tv 108, tv 109, tv 110, tv 111, tv 112, tv 113, tv 114, tv 115, tv 116, tv 117, tv 118, tv 119, tv 120, tv 121, tv 122, tv 123] := rfl
  rw [el, t1] at haf
  subst haf
  have HR3 := Lib.hid (row_low h14 hgw)
  have EB3 := EB.keep hW
  have hg3 : g ≤ w3.heap.size := Nat.le_trans hgw hW.size
  have A3 := append_bys (B := g) hg3 HR3.out h22.bys (by simp only [List.length_cons, List.length_nil]; omega)
  have HA3 := Lib.hid A3
  have HB3 := Lib.hid (HB2.out.trans (hW.mono hgw))
  obtain ⟨va, hva⟩ : ∃ va, va = tv 14 := ⟨_, rfl⟩
  obtain ⟨vb, hvb⟩ : ∃ vb, vb = tv 22 := ⟨_, rfl⟩
  rw [← hva, ← hvb] at HA3 ⊢
  rw [← hva] at HR3
  clear hus t1 el hf' hs' hd' hW h14 h22 hG hBs EB hgw HB2 hva hvb A3
  simp only [List.drop_succ_cons, List.drop_zero]
  have hmo := HFF.out.2.2.2 trivial
  have hm7 := memOk_len hmo
  have hnb7 : nb ≤ 7 := by have := HNB.out; omega
  have hnd64 : nd < 18446744073709551616 := by omega
  have hcv := conv_len nb (by omega)
  go_wp2_with (first | (at_builtin; refine wpList_append_by rfl _ _ 25 rfl _ _ rfl rfl _ HA3.out ?_; rintro v14 z14 ⟨hr, hgr⟩; (have EB14 := EB3.grown HR3.out (by decide) hgr); (have k0 : z14.cell? ⟨g, 0, none⟩ = some (.int .i64 5) := by rw [EB14.cell]; rfl); (have k4 : z14.cell? ⟨g, 4, none⟩ = some (.int .u64 (i : Int)) := by rw [EB14.cell]; rfl); (have k5 : z14.cell? ⟨g, 5, none⟩ = some (.int .u64 (l : Int)) := by rw [EB14.cell]; rfl); (have k7 : z14.cell? ⟨g, 7, none⟩ = some (.int .u64 (s : Int)) := by rw [EB14.cell]; rfl); (have k10 : z14.cell? ⟨g, 10, none⟩ = some (.slice b nb cb) := by rw [EB14.cell]; rfl); (have hg14 : g ≤ z14.heap.size := Nat.le_trans hg3 hgr.size); (have HR14 := Lib.hid hr); (have HB14 := Lib.hid (HB3.out.grown hgr hg3 fun k hk => (World.ownsRow.lt HR3.out k hk).1)); clear hr hgr) | (refine wpList_build_nums4 rfl (.tmp 101) (.tmp 103) (.tmp 105) (.tmp 109) rfl i l s nb rfl rfl rfl rfl ?_; intro zn hn hbl; (have HN := Lib.hid hn); (have HBL := Lib.hid hbl); clear hn hbl k0 k4 k5 k7 k10))
  obtain ⟨L15, hL15⟩ : ∃ L, L = [5] ++ idsL [f, o, t] := ⟨_, rfl⟩
  have hl15 : L15.length ≤ 30 := by rw [hL15]; simp only [List.length_append, List.length_cons, List.length_nil]; omega
  rw [← hL15] at HR14
  have HL15 := Lib.hid hL15
  clear hL15
  have HI4 := Lib.hid (ids4 HOk.out.i HOk.out.l HOk.out.s (show nb < 18446744073709551616 by omega))
  have h4 := idsL_len [i, l, s, nb] HI4.out
  simp only [List.length_cons, List.length_nil] at h4
  refine (numbers_any _ [i, l, s, nb] _ HN.out (by simp) HI4.out).mono ?_
  rintro r wc ⟨u, rfl, hr, hb⟩
  have hbb16 := (HBL.out.trans (hb.mono HBL.out.size))
  have EB16 := EB14.keep hbb16
  have hg16 := Nat.le_trans hg14 hbb16.size
  have HR16 := Lib.hid (HR14.out.below hbb16)
  have A16 := append_bys (B := g) hg16 HR16.out hr.bys (by first | omega | (simp only [List.length_append]; omega))
  have HA16 := Lib.hid A16
  have HB16 := Lib.hid (HB14.out.trans (hbb16.mono hg14))
  clear hr hb hbb16 A16
  go_wp2_with (at_builtin; refine wpList_append_by rfl _ _ 25 rfl _ _ rfl rfl _ HA16.out ?_; rintro v17 z17 ⟨hr, hgr⟩; (have EB17 := EB16.grown HR16.out (by decide) hgr); (have k10 : z17.cell? ⟨g, 10, none⟩ = some (.slice b nb cb) := by rw [EB17.cell]; rfl); (have hg17 : g ≤ z17.heap.size := Nat.le_trans hg16 hgr.size); (have HR17 := Lib.hid hr); (have HB17 := Lib.hid (HB16.out.grown hgr hg16 fun k hk => (World.ownsRow.lt HR16.out k hk).1)); clear hr hgr)
  obtain ⟨L18, hL18⟩ : ∃ L, L = L15 ++ idsL [i, l, s, nb] := ⟨_, rfl⟩
  have hl18 : L18.length ≤ 70 := by rw [hL18]; simp only [List.length_append]; omega
  rw [← hL18] at HR17
  have HL18 := Lib.hid hL18
  clear hL18
  have h5 := idsL_len ms HOk.out.m
  have hm7b : ms.length ≤ 7 := by have := HNB.out; omega
  have HMs := Lib.hid (HM.out.ms.below (Nat.le_refl _) (HB17.out.mono (Nat.le_of_eq HG.out.symm)))
  clear k10
  refine (numbers_any _ ms _ HMs.out (by omega) HOk.out.m).mono ?_
  rintro r wc2 ⟨u2, rfl, hr, hb⟩
  have hbb19 := hb
  have EB19 := EB17.keep hbb19
  have hg19 := Nat.le_trans hg17 hbb19.size
  have HR19 := Lib.hid (HR17.out.below hbb19)
  have A19 := append_bys (B := g) hg19 HR19.out hr.bys (by first | omega | (simp only [List.length_append]; omega))
  have HA19 := Lib.hid A19
  have HB19 := Lib.hid (HB17.out.trans (hbb19.mono hg17))
  clear hr hb hbb19 A19
  go_wp2_with (at_builtin; refine wpList_append_by rfl _ _ 25 rfl _ _ rfl rfl _ HA19.out ?_; rintro v20 z20 ⟨hr, hgr⟩; (have EB20 := EB19.grown HR19.out (by decide) hgr); (have k11 : z20.cell? ⟨g, 11, none⟩ = some (.slice d nd cd) := by rw [EB20.cell]; rfl); (have hg20 : g ≤ z20.heap.size := Nat.le_trans hg19 hgr.size); (have HR20 := Lib.hid hr); (have HB20 := Lib.hid (HB19.out.grown hgr hg19 fun k hk => (World.ownsRow.lt HR19.out k hk).1)); clear hr hgr)
  obtain ⟨L21, hL21⟩ : ∃ L, L = L18 ++ idsL ms := ⟨_, rfl⟩
  have hl21 : L21.length ≤ 140 := by rw [hL21]; simp only [List.length_append]; omega
  rw [← hL21] at HR20
  have HL21 := Lib.hid hL21
  clear hL21
  have HGs := Lib.hid (HM.out.gs.below (Nat.le_refl _) (HB20.out.mono (Nat.le_of_eq HG.out.symm)))
  have h6 := numL_le x.length (by have := HND.out; omega)
  clear k11
  refine (refraw_any _ x _ HGs.out HM.out.gl).mono ?_
  rintro r wc3 ⟨u3, rfl, hr, hb⟩
  have hbb22 := hb
  have EB22 := EB20.keep hbb22
  have hg22 := Nat.le_trans hg20 hbb22.size
  have HR22 := Lib.hid (HR20.out.below hbb22)
  have A22 := append_bys (B := g) hg22 HR22.out hr.bys (by first | omega | (have := HND.out; simp only [rawL]; simp only [List.length_append]; omega))
  have HA22 := Lib.hid A22
  have HB22 := Lib.hid (HB20.out.trans (hbb22.mono hg20))
  clear hr hb hbb22 A22
  go_wp2_with (at_builtin; refine wpList_append_by rfl _ _ 25 rfl _ _ rfl rfl _ HA22.out ?_; rintro v23 z23 ⟨hr, hgr⟩; (have EB23 := EB22.grown HR22.out (by decide) hgr);  (have hg23 : g ≤ z23.heap.size := Nat.le_trans hg22 hgr.size); (have HR23 := Lib.hid hr); (have HB23 := Lib.hid (HB22.out.grown hgr hg22 fun k hk => (World.ownsRow.lt HR22.out k hk).1)); clear hr hgr)
  rw [← HG.out]
  have hput : putM (⟨5, f, o, t, i, l, c, s, y, e, ms, x⟩ : Mg) = L21 ++ rawL x := by rw [HL21.out, HL18.out, HL15.out]; simp [putM, bodyL, idsL, rawL, HNB.out]
  rw [hput]
  exact bodyPost_ret (v := .tuple #[v23, .int .i64 0]) (by simp [results, Try.results11, go_sem]) rfl ⟨_, rfl, HR23.out, HB23.out⟩
set_option maxHeartbeats 4000000 in
set_option maxRecDepth 100000 in
theorem msgput_3 (f o t i l c s : Nat) (y : Bool) (e : List Ent) (ms : List Nat) (x : List UInt8) (ve vm vg : Value) (us : List EE) (w : World) (hm : MHas w (⟨3, f, o, t, i, l, c, s, y, e, ms, x⟩ : Mg) ve vm vg us) (hf : formedM (⟨3, f, o, t, i, l, c, s, y, e, ms, x⟩ : Mg) = true) :
    Calls Try.prog 11 #[.agg (mgC (⟨3, f, o, t, i, l, c, s, y, e, ms, x⟩ : Mg) ve vm vg)] w fun r w' => ∃ v, r = .returned (.tuple #[v, .int .i64 0]) ∧ Row w' w.heap.size v (putM (⟨3, f, o, t, i, l, c, s, y, e, ms, x⟩ : Mg)) ∧ Below w.heap.size w w' := by
  obtain ⟨a, ca, rfl⟩ := hm.els.form
  obtain ⟨b, cb, rfl⟩ := hm.ms.shape
  obtain ⟨d, cd, rfl⟩ := hm.gs.shape
  obtain ⟨na, hna⟩ : ∃ n, n = us.length := ⟨_, rfl⟩
  obtain ⟨nb, hnb⟩ : ∃ n, n = ms.length := ⟨_, rfl⟩
  obtain ⟨nd, hnd⟩ : ∃ n, n = x.length := ⟨_, rfl⟩
  have hel := hm.el
  have hen := hm.ents
  have hFF := formedM_facts hf
  simp only at hm hel hen hFF ⊢
  rw [← hna, ← hnb, ← hnd] at hm
  rw [← hna, ← hnb, ← hnd]
  have HM := Lib.hid hm
  have HNA := Lib.hid hna
  have HNB := Lib.hid hnb
  have HND := Lib.hid hnd
  have HEL := Lib.hid hel
  have HEN := Lib.hid hen
  have HFF := Lib.hid hFF
  have hna4 : na ≤ 4 := by have := hFF.1; omega
  have hnd4 : nd ≤ 16384 := by have := hFF.2.1; omega
  have HOk := Lib.hid hm.ok
  have b1 : Below w.heap.size w (w.alloc (.cells #[.int .i64 3, .int .u64 (f : Int), .int .u64 (o : Int), .int .u64 (t : Int), .int .u64 (i : Int), .int .u64 (l : Int), .int .u64 (c : Int), .int .u64 (s : Int), .bool y, .slice a na ca, .slice b nb cb, .slice d nd cd] 27)) := (Below.refl _ _).alloc (Nat.le_refl _) _
  have HB1 := Lib.hid b1
  have HForm := Lib.hid (fun (W : World) (hW : Below w.heap.size w W) => refMsgFormed_any _ _ _ _ us W (hm.below (Nat.le_refl _) hW))
  rw [hf] at HForm
  clear hm hna hnb hnd hel hen hFF hf b1
  simp only [mgC] at HForm ⊢
  go_enter Try.func11, Try.ntmps11
  go_upto_region 1 with fail
  refine world_cut (fun W => Below w.heap.size w W ∧ Blk W w.heap.size 27 #[.int .i64 3, .int .u64 (f : Int), .int .u64 (o : Int), .int .u64 (t : Int), .int .u64 (i : Int), .int .u64 (l : Int), .int .u64 (c : Int), .int .u64 (s : Int), .bool y, .slice a na ca, .slice b nb cb, .slice d nd cd]) ⟨HB1.out, Blk.new w _ _⟩ ?_
  clear HB1
  rintro w1 ⟨hb1, kb1⟩
  have HB1 := Lib.hid hb1
  have KB1 := Lib.hid kb1
  clear hb1 kb1
  go_wp2_with (refine wpList_load_by rfl 27 (.tmp 1) rfl _ _ rfl (KB1.out.loads 27 _ Try.underlying27 rfl rfl) ?_)
  refine (HForm.out w1 HB1.out).mono ?_
  rintro r w2 ⟨rfl, hb⟩
  have EB := KB1.out.keep hb
  obtain ⟨g, hg⟩ : ∃ g, g = w.heap.size := ⟨_, rfl⟩
  have HG := Lib.hid hg
  have HB2 : Hid (Below g w w2) := by rw [hg]; exact Lib.hid (HB1.out.trans (hb.mono HB1.out.size))
  have hgw : g ≤ w2.heap.size := HG.out ▸ Nat.le_trans HB1.out.size hb.size
  clear hb HForm
  rw [← hg] at EB
  clear hg HB1 KB1
  have hf64 := HOk.out.f
  have ho64 := HOk.out.o
  have ht64 := HOk.out.t
  have h3 := idsL_len [f, o, t] (ids3 hf64 ho64 ht64)
  simp only [List.length_cons, List.length_nil] at h3
  have HI3 := Lib.hid (ids3 hf64 ho64 ht64)
  go_upto_region 3 with fail
  rw [← HG.out]
  have hG : ∀ W W' : World, Below w2.heap.size w2 W → Below W.heap.size W W' → Below w2.heap.size w2 W' := fun W W' hW hb => hW.trans (hb.mono hW.size)
  have hBs : ∀ W : World, Below w2.heap.size w2 W → w2.heap.size ≤ W.heap.size := fun W h => h.size
  refine region_tails_by 12 [(11, .is (.pointer (some ⟨g, 0, none⟩))), (12, .is (.int .i64 3)), (13, .is (bv 3)), (14, .row w2.heap.size [3]), (15, .is (.pointer (some ⟨g, 1, none⟩))), (16, .is (.int .u64 (f : Int))), (17, .is (.pointer (some ⟨g, 2, none⟩))), (18, .is (.int .u64 (o : Int))), (19, .is (.pointer (some ⟨g, 3, none⟩))), (20, .is (.int .u64 (t : Int))), (21, farNums w2.heap.size [f, o, t]), (22, .row w2.heap.size (idsL [f, o, t]))] [1, 14, 22] (fun W => Below w2.heap.size w2 W) (by kernel_rfl) (by kernel_rfl) (by kernel_rfl) (by kernel_rfl) (by kernel_rfl) (by decide) (by kernel_rfl) (by kernel_rfl) ((Below.refl _ _).drew) ?_ ?_
  · refine ⟨?c0, ?c1, ?c2, ?c3, ?c4, ?c5, ?c6, ?c7, ?c8, ?c9, ?c10, ?c11, trivial⟩
    case c0 => exact ask_field (guard_none rfl) _ (.tmp 1) 0 (.pointer (some ⟨g, 0, none⟩)) (.pointer (some ⟨g, 0, none⟩)) rfl rfl (by intro k hk; cases hk; rfl) (fun W => by kernel_rfl)
    case c1 => exact ask_load (guard_none rfl) _ (.tmp 11) (.pointer (some ⟨g, 0, none⟩)) (.int .i64 3) rfl rfl (by intro k hk; cases hk; rfl) (fun W hW => load_intm W _ _ (by rw [hW.cell (p := ⟨g, 0, none⟩) EB.lt, EB.cell]; rfl))
    case c2 => exact ask_exec (guard_none rfl) (bv 3) rfl rfl (by intro k hk; cases hk; rfl) (fun W hW => by kernel_rfl)
    case c3 => exact ask_build_byteM hG (guard_none rfl) (.tmp 13) 3 w2.heap.size hBs rfl rfl (by intro k hk; cases hk; rfl)
    case c4 => exact ask_field (guard_none rfl) _ (.tmp 1) 1 (.pointer (some ⟨g, 0, none⟩)) (.pointer (some ⟨g, 1, none⟩)) rfl rfl (by intro k hk; cases hk; rfl) (fun W => by kernel_rfl)
    case c5 => exact ask_load (guard_none rfl) _ (.tmp 15) (.pointer (some ⟨g, 1, none⟩)) (.int .u64 (f : Int)) rfl rfl (by intro k hk; cases hk; rfl) (fun W hW => load_u64m W _ _ (by rw [hW.cell (p := ⟨g, 1, none⟩) EB.lt, EB.cell]; rfl))
    case c6 => exact ask_field (guard_none rfl) _ (.tmp 1) 2 (.pointer (some ⟨g, 0, none⟩)) (.pointer (some ⟨g, 2, none⟩)) rfl rfl (by intro k hk; cases hk; rfl) (fun W => by kernel_rfl)
    case c7 => exact ask_load (guard_none rfl) _ (.tmp 17) (.pointer (some ⟨g, 2, none⟩)) (.int .u64 (o : Int)) rfl rfl (by intro k hk; cases hk; rfl) (fun W hW => load_u64m W _ _ (by rw [hW.cell (p := ⟨g, 2, none⟩) EB.lt, EB.cell]; rfl))
    case c8 => exact ask_field (guard_none rfl) _ (.tmp 1) 3 (.pointer (some ⟨g, 0, none⟩)) (.pointer (some ⟨g, 3, none⟩)) rfl rfl (by intro k hk; cases hk; rfl) (fun W => by kernel_rfl)
    case c9 => exact ask_load (guard_none rfl) _ (.tmp 19) (.pointer (some ⟨g, 3, none⟩)) (.int .u64 (t : Int)) rfl rfl (by intro k hk; cases hk; rfl) (fun W hW => load_u64m W _ _ (by rw [hW.cell (p := ⟨g, 3, none⟩) EB.lt, EB.cell]; rfl))
    case c10 => exact ask_build_nums3 hG w2.heap.size hBs (guard_none rfl) (.tmp 16) (.tmp 18) (.tmp 20) f o t rfl rfl rfl rfl (by intro k hk; cases hk; rfl)
    case c11 => exact ask_call_by hG (guard_none rfl) _ _ _ (.row w2.heap.size (idsL [f, o, t])) rfl (by kernel_rfl) (by intro k hk; cases hk; rfl) (fun q W hW ht => by have h := farNums.nums (told_op ht (.tmp 21) (by simp [Op.operands, Call.operands])); exact (numbers_any _ [f, o, t] W h (by simp) HI3.out).mono fun r w' h => by obtain ⟨u, h1, h2, h3⟩ := h; exact ⟨u, h1, row_low h2 hW.size, h3⟩)
  intro af w3 hW hd' hs' hf'
  have t1 : af.tmps.getD 1 undef = (.pointer (some ⟨g, 0, none⟩)) := hf' 1 rfl
  have h14 : Row w3 w2.heap.size (af.tmps.getD 14 undef) [3] := hf' 14 rfl
  have h22 : Row w3 w2.heap.size (af.tmps.getD 22 undef) (idsL [f, o, t]) := hf' 22 rfl
  obtain ⟨tv, hus, haf⟩ := act_open 124 af hs' hd'
  rw [← hus] at t1 h14 h22
  have el : ((List.range 124).map tv).toArray = #[tv 0, tv 1, tv 2, tv 3, tv 4, tv 5, tv 6, tv 7, tv 8, tv 9, tv 10, tv 11, tv 12, tv 13, tv 14, tv 15, tv 16, tv 17, tv 18, tv 19, tv 20, tv 21, tv 22, tv 23, tv 24, tv 25, tv 26, tv 27, tv 28, tv 29, tv 30, tv 31, tv 32, tv 33, tv 34, tv 35, tv 36, tv 37, tv 38, tv 39, tv 40, tv 41, tv 42, tv 43, tv 44, tv 45, tv 46, tv 47, tv 48, tv 49, tv 50, tv 51, tv 52, tv 53, tv 54, tv 55, tv 56, tv 57, tv 58, tv 59, tv 60, tv 61, tv 62, tv 63, tv 64, tv 65, tv 66, tv 67, tv 68, tv 69, tv 70, tv 71, tv 72, tv 73, tv 74, tv 75, tv 76, tv 77, tv 78, tv 79, tv 80, tv 81, tv 82, tv 83, tv 84, tv 85, tv 86, tv 87, tv 88, tv 89, tv 90, tv 91, tv 92, tv 93, tv 94, tv 95, tv 96, tv 97, tv 98, tv 99, tv 100, tv 101, tv 102, tv 103, tv 104, tv 105, tv 106, tv 107, tv 108, tv 109, tv 110, tv 111, tv 112, tv 113, tv 114, tv 115, tv 116, tv 117, tv 118, tv 119, tv 120, tv 121, tv 122, tv 123] := rfl
  rw [el, t1] at haf
  subst haf
  have HR3 := Lib.hid (row_low h14 hgw)
  have EB3 := EB.keep hW
  have hg3 : g ≤ w3.heap.size := Nat.le_trans hgw hW.size
  have A3 := append_bys (B := g) hg3 HR3.out h22.bys (by simp only [List.length_cons, List.length_nil]; omega)
  have HA3 := Lib.hid A3
  have HB3 := Lib.hid (HB2.out.trans (hW.mono hgw))
  obtain ⟨va, hva⟩ : ∃ va, va = tv 14 := ⟨_, rfl⟩
  obtain ⟨vb, hvb⟩ : ∃ vb, vb = tv 22 := ⟨_, rfl⟩
  rw [← hva, ← hvb] at HA3 ⊢
  rw [← hva] at HR3
  clear hus t1 el hf' hs' hd' hW h14 h22 hG hBs EB hgw HB2 hva hvb A3
  simp only [List.drop_succ_cons, List.drop_zero]
  have hcv := conv_len na (by omega)
  go_wp2_with (first | (at_builtin; refine wpList_append_by rfl _ _ 25 rfl _ _ rfl rfl _ HA3.out ?_; rintro v24 z24 ⟨hr, hgr⟩; (have EB24 := EB3.grown HR3.out (by decide) hgr); (have k0 : z24.cell? ⟨g, 0, none⟩ = some (.int .i64 3) := by rw [EB24.cell]; rfl); (have k4 : z24.cell? ⟨g, 4, none⟩ = some (.int .u64 (i : Int)) := by rw [EB24.cell]; rfl); (have k5 : z24.cell? ⟨g, 5, none⟩ = some (.int .u64 (l : Int)) := by rw [EB24.cell]; rfl); (have k6 : z24.cell? ⟨g, 6, none⟩ = some (.int .u64 (c : Int)) := by rw [EB24.cell]; rfl); (have k7 : z24.cell? ⟨g, 7, none⟩ = some (.int .u64 (s : Int)) := by rw [EB24.cell]; rfl); (have k9 : z24.cell? ⟨g, 9, none⟩ = some (.slice a na ca) := by rw [EB24.cell]; rfl); (have hg24 : g ≤ z24.heap.size := Nat.le_trans hg3 hgr.size); (have HR24 := Lib.hid hr); (have HB24 := Lib.hid (HB3.out.grown hgr hg3 fun k hk => (World.ownsRow.lt HR3.out k hk).1)); clear hr hgr) | (refine wpList_build_nums5 rfl (.tmp 48) (.tmp 50) (.tmp 52) (.tmp 54) (.tmp 58) rfl i l c s na rfl rfl rfl rfl rfl ?_; intro zn hn hbl; (have HN := Lib.hid hn); (have HBL := Lib.hid hbl); clear hn hbl k0 k4 k5 k6 k7 k9))
  obtain ⟨L25, hL25⟩ : ∃ L, L = [3] ++ idsL [f, o, t] := ⟨_, rfl⟩
  have hl25 : L25.length ≤ 30 := by rw [hL25]; simp only [List.length_append, List.length_cons, List.length_nil]; omega
  rw [← hL25] at HR24
  have HL25 := Lib.hid hL25
  clear hL25
  have HI5 := Lib.hid (ids5 HOk.out.i HOk.out.l HOk.out.c HOk.out.s (show na < 18446744073709551616 by omega))
  have h4 := idsL_len [i, l, c, s, na] HI5.out
  simp only [List.length_cons, List.length_nil] at h4
  refine (numbers_any _ [i, l, c, s, na] _ HN.out (by simp) HI5.out).mono ?_
  rintro r wc ⟨u, rfl, hr, hb⟩
  have hbb26 := (HBL.out.trans (hb.mono HBL.out.size))
  have EB26 := EB24.keep hbb26
  have hg26 := Nat.le_trans hg24 hbb26.size
  have HR26 := Lib.hid (HR24.out.below hbb26)
  have A26 := append_bys (B := g) hg26 HR26.out hr.bys (by first | omega | (simp only [List.length_append]; omega))
  have HA26 := Lib.hid A26
  have HB26 := Lib.hid (HB24.out.trans (hbb26.mono hg24))
  clear hr hb hbb26 A26
  go_wp2_with (at_builtin; refine wpList_append_by rfl _ _ 25 rfl _ _ rfl rfl _ HA26.out ?_; rintro v27 z27 ⟨hr, hgr⟩; (have EB27 := EB26.grown HR26.out (by decide) hgr);  (have hg27 : g ≤ z27.heap.size := Nat.le_trans hg26 hgr.size); (have HR27 := Lib.hid hr); (have HB27 := Lib.hid (HB26.out.grown hgr hg26 fun k hk => (World.ownsRow.lt HR26.out k hk).1)); clear hr hgr)
  obtain ⟨L28, hL28⟩ : ∃ L, L = L25 ++ idsL [i, l, c, s, na] := ⟨_, rfl⟩
  have hl28 : L28.length ≤ 80 := by rw [hL28]; simp only [List.length_append]; omega
  rw [← hL28] at HR27
  have HL28 := Lib.hid hL28
  clear hL28
  have HLen := Lib.hid hl28
  go_loopw [4, 5] (fun s4 s5 wr => ∃ j : Nat, j ≤ na ∧ s5 = .int .i64 (j : Int) ∧ Row wr g s4 (L28 ++ entsL (e.take j)) ∧ Below g w wr ∧ Blk wr g 27 #[.int .i64 3, .int .u64 (f : Int), .int .u64 (o : Int), .int .u64 (t : Int), .int .u64 (i : Int), .int .u64 (l : Int), .int .u64 (c : Int), .int .u64 (s : Int), .bool y, .slice a na ca, .slice b nb cb, .slice d nd cd]) (fun _ s5 _ => na - (intOf s5).toNat)
  case atStart => exact ⟨0, by omega, rfl, by simpa [entsL] using HR27.out, HB27.out, EB27⟩
  case round =>
    obtain ⟨j, hj, rfl, hrow, hbw, ebw⟩ := hrel
    have k9 : wr.cell? ⟨g, 9, none⟩ = some (.slice a na ca) := by rw [ebw.cell]; rfl
    have HRw := Lib.hid hrow
    have HBw := Lib.hid hbw
    have hgr0 : g ≤ wr.heap.size := by rw [HG.out]; exact (HG.out ▸ hbw.size)
    by_cases hlt : j < na
    · obtain ⟨u, hu⟩ : ∃ u, us[j]? = some u := ⟨us[j]'(by have := HNA.out; omega), List.getElem?_eq_getElem _⟩
      have hbw' : Below w.heap.size w wr := HG.out ▸ hbw
      obtain ⟨ad, rfl, hc⟩ := (HM.out.els.below (Nat.le_refl _) hbw').load hu
      have HLoad := Lib.hid (load_ent wr (ad.add (j * 6)) u hc)
      have hej : e[j]? = some u.e := by
        have h1 := HEN.out
        rw [← h1, List.getElem?_map, hu]
        rfl
      have hfu : formed u.e = true := HFF.out.2.2.1 _ (List.mem_of_getElem? hej)
      have hhu := (HM.out.all u (List.mem_of_getElem? hu)).below (Nat.le_refl _) hbw'
      have HE := Lib.hid (refput_yes u.e u.a u.b u.ca u.cb wr hhu hfu)
      have hpl := MsgMath.putL_len u.e hhu.ok hfu
      have hpn := numL_le (putL u.e).length (by omega)
      have hel := entsL_len (e.take j) (fun q hq => HOk.out.e q (List.mem_of_mem_take hq)) (fun q hq => HFF.out.2.2.1 q (List.mem_of_mem_take hq))
      have hlj : (e.take j).length ≤ j := List.length_take_le _ _
      have hll := HLen.out
      have HST := Lib.hid (entsL_step e j u.e hej)
      have i0 : (0 : Int) ≤ (j : Int) := Int.natCast_nonneg _
      have i1 : (j : Int) < (na : Int) := by omega
      clear hc hu hrow hbw hbw' hej hfu hhu
      go_wp2_with (refine wpList_load_by rfl 42 (.tmp 73) rfl _ _ rfl HLoad.out ?_)
      refine HE.out.mono ?_
      rintro r wp ⟨vp, rfl, hrp, hbp⟩
      have HBP := Lib.hid hbp
      have HRP := Lib.hid hrp
      clear hbp hrp HE k9 HLoad
      go_wp2_with fail
      refine (refraw_any _ (putL u.e) _ HRP.out.bys (by omega)).mono ?_
      rintro r wq ⟨vq, rfl, hr, hb⟩
      have hbb29 := (HBP.out.trans (hb.mono HBP.out.size))
      have EB29 := ebw.keep hbb29
      have hg29 := Nat.le_trans hgr0 hbb29.size
      have HR29 := Lib.hid (HRw.out.below hbb29)
      have A29 := append_bys (B := g) hg29 HR29.out hr.bys (by first | omega | (simp only [rawL]; simp only [List.length_append]; omega))
      have HA29 := Lib.hid A29
      have HB29 := Lib.hid (HBw.out.trans (hbb29.mono hgr0))
      clear hr hb hbb29 A29
      go_wp2_with (at_builtin; refine wpList_append_by rfl _ _ 25 rfl _ _ rfl rfl _ HA29.out ?_; rintro v30 z30 ⟨hr, hgr⟩; (have EB30 := EB29.grown HR29.out (by decide) hgr);  (have hg30 : g ≤ z30.heap.size := Nat.le_trans hg29 hgr.size); (have HR30 := Lib.hid hr); (have HB30 := Lib.hid (HB29.out.grown hgr hg29 fun k hk => (World.ownsRow.lt HR29.out k hk).1)); clear hr hgr)
      go_roundw
      case rel => exact ⟨j + 1, by omega, by go_num, by rw [HST.out, ← List.append_assoc]; exact HR30.out, HB30.out, EB30⟩
      case measure => simp [intOf]; omega
    · have ee : e.take j = e := List.take_of_length_le (by have h1 := HNA.out; have h2 := HEL.out; omega)
      rw [ee] at HRw
      clear hrow hbw
      go_wp2
      rw [← HG.out]
      have hne : e.length = na := by have h1 := HNA.out; have h2 := HEL.out; omega
      have hput : putM (⟨3, f, o, t, i, l, c, s, y, e, ms, x⟩ : Mg) = L28 ++ entsL e := by rw [HL28.out, HL25.out]; simp [putM, bodyL, idsL, hne]
      rw [hput]
      exact bodyPost_ret (v := .tuple #[_, .int .i64 0]) (by simp [results, Try.results11, go_sem]) rfl ⟨_, rfl, HRw.out, HBw.out⟩
set_option maxHeartbeats 4000000 in
set_option maxRecDepth 100000 in
theorem msgput_4true (f o t i l c s : Nat) (e : List Ent) (ms : List Nat) (x : List UInt8) (ve vm vg : Value) (us : List EE) (w : World) (hm : MHas w (⟨4, f, o, t, i, l, c, s, true, e, ms, x⟩ : Mg) ve vm vg us) (hf : formedM (⟨4, f, o, t, i, l, c, s, true, e, ms, x⟩ : Mg) = true) :
    Calls Try.prog 11 #[.agg (mgC (⟨4, f, o, t, i, l, c, s, true, e, ms, x⟩ : Mg) ve vm vg)] w fun r w' => ∃ v, r = .returned (.tuple #[v, .int .i64 0]) ∧ Row w' w.heap.size v (putM (⟨4, f, o, t, i, l, c, s, true, e, ms, x⟩ : Mg)) ∧ Below w.heap.size w w' := by
  obtain ⟨a, ca, rfl⟩ := hm.els.form
  obtain ⟨b, cb, rfl⟩ := hm.ms.shape
  obtain ⟨d, cd, rfl⟩ := hm.gs.shape
  obtain ⟨na, hna⟩ : ∃ n, n = us.length := ⟨_, rfl⟩
  obtain ⟨nb, hnb⟩ : ∃ n, n = ms.length := ⟨_, rfl⟩
  obtain ⟨nd, hnd⟩ : ∃ n, n = x.length := ⟨_, rfl⟩
  have hel := hm.el
  have hen := hm.ents
  have hFF := formedM_facts hf
  simp only at hm hel hen hFF ⊢
  rw [← hna, ← hnb, ← hnd] at hm
  rw [← hna, ← hnb, ← hnd]
  have HM := Lib.hid hm
  have HNA := Lib.hid hna
  have HNB := Lib.hid hnb
  have HND := Lib.hid hnd
  have HEL := Lib.hid hel
  have HEN := Lib.hid hen
  have HFF := Lib.hid hFF
  have hna4 : na ≤ 4 := by have := hFF.1; omega
  have hnd4 : nd ≤ 16384 := by have := hFF.2.1; omega
  have HOk := Lib.hid hm.ok
  have b1 : Below w.heap.size w (w.alloc (.cells #[.int .i64 4, .int .u64 (f : Int), .int .u64 (o : Int), .int .u64 (t : Int), .int .u64 (i : Int), .int .u64 (l : Int), .int .u64 (c : Int), .int .u64 (s : Int), .bool true, .slice a na ca, .slice b nb cb, .slice d nd cd] 27)) := (Below.refl _ _).alloc (Nat.le_refl _) _
  have HB1 := Lib.hid b1
  have HForm := Lib.hid (fun (W : World) (hW : Below w.heap.size w W) => refMsgFormed_any _ _ _ _ us W (hm.below (Nat.le_refl _) hW))
  rw [hf] at HForm
  clear hm hna hnb hnd hel hen hFF hf b1
  simp only [mgC] at HForm ⊢
  go_enter Try.func11, Try.ntmps11
  go_upto_region 1 with fail
  refine world_cut (fun W => Below w.heap.size w W ∧ Blk W w.heap.size 27 #[.int .i64 4, .int .u64 (f : Int), .int .u64 (o : Int), .int .u64 (t : Int), .int .u64 (i : Int), .int .u64 (l : Int), .int .u64 (c : Int), .int .u64 (s : Int), .bool true, .slice a na ca, .slice b nb cb, .slice d nd cd]) ⟨HB1.out, Blk.new w _ _⟩ ?_
  clear HB1
  rintro w1 ⟨hb1, kb1⟩
  have HB1 := Lib.hid hb1
  have KB1 := Lib.hid kb1
  clear hb1 kb1
  go_wp2_with (refine wpList_load_by rfl 27 (.tmp 1) rfl _ _ rfl (KB1.out.loads 27 _ Try.underlying27 rfl rfl) ?_)
  refine (HForm.out w1 HB1.out).mono ?_
  rintro r w2 ⟨rfl, hb⟩
  have EB := KB1.out.keep hb
  obtain ⟨g, hg⟩ : ∃ g, g = w.heap.size := ⟨_, rfl⟩
  have HG := Lib.hid hg
  have HB2 : Hid (Below g w w2) := by rw [hg]; exact Lib.hid (HB1.out.trans (hb.mono HB1.out.size))
  have hgw : g ≤ w2.heap.size := HG.out ▸ Nat.le_trans HB1.out.size hb.size
  clear hb HForm
  rw [← hg] at EB
  clear hg HB1 KB1
  have hf64 := HOk.out.f
  have ho64 := HOk.out.o
  have ht64 := HOk.out.t
  have h3 := idsL_len [f, o, t] (ids3 hf64 ho64 ht64)
  simp only [List.length_cons, List.length_nil] at h3
  have HI3 := Lib.hid (ids3 hf64 ho64 ht64)
  go_upto_region 3 with fail
  rw [← HG.out]
  have hG : ∀ W W' : World, Below w2.heap.size w2 W → Below W.heap.size W W' → Below w2.heap.size w2 W' := fun W W' hW hb => hW.trans (hb.mono hW.size)
  have hBs : ∀ W : World, Below w2.heap.size w2 W → w2.heap.size ≤ W.heap.size := fun W h => h.size
  refine region_tails_by 12 [(11, .is (.pointer (some ⟨g, 0, none⟩))), (12, .is (.int .i64 4)), (13, .is (bv 4)), (14, .row w2.heap.size [4]), (15, .is (.pointer (some ⟨g, 1, none⟩))), (16, .is (.int .u64 (f : Int))), (17, .is (.pointer (some ⟨g, 2, none⟩))), (18, .is (.int .u64 (o : Int))), (19, .is (.pointer (some ⟨g, 3, none⟩))), (20, .is (.int .u64 (t : Int))), (21, farNums w2.heap.size [f, o, t]), (22, .row w2.heap.size (idsL [f, o, t]))] [1, 14, 22] (fun W => Below w2.heap.size w2 W) (by kernel_rfl) (by kernel_rfl) (by kernel_rfl) (by kernel_rfl) (by kernel_rfl) (by decide) (by kernel_rfl) (by kernel_rfl) ((Below.refl _ _).drew) ?_ ?_
  · refine ⟨?c0, ?c1, ?c2, ?c3, ?c4, ?c5, ?c6, ?c7, ?c8, ?c9, ?c10, ?c11, trivial⟩
    case c0 => exact ask_field (guard_none rfl) _ (.tmp 1) 0 (.pointer (some ⟨g, 0, none⟩)) (.pointer (some ⟨g, 0, none⟩)) rfl rfl (by intro k hk; cases hk; rfl) (fun W => by kernel_rfl)
    case c1 => exact ask_load (guard_none rfl) _ (.tmp 11) (.pointer (some ⟨g, 0, none⟩)) (.int .i64 4) rfl rfl (by intro k hk; cases hk; rfl) (fun W hW => load_intm W _ _ (by rw [hW.cell (p := ⟨g, 0, none⟩) EB.lt, EB.cell]; rfl))
    case c2 => exact ask_exec (guard_none rfl) (bv 4) rfl rfl (by intro k hk; cases hk; rfl) (fun W hW => by kernel_rfl)
    case c3 => exact ask_build_byteM hG (guard_none rfl) (.tmp 13) 4 w2.heap.size hBs rfl rfl (by intro k hk; cases hk; rfl)
    case c4 => exact ask_field (guard_none rfl) _ (.tmp 1) 1 (.pointer (some ⟨g, 0, none⟩)) (.pointer (some ⟨g, 1, none⟩)) rfl rfl (by intro k hk; cases hk; rfl) (fun W => by kernel_rfl)
    case c5 => exact ask_load (guard_none rfl) _ (.tmp 15) (.pointer (some ⟨g, 1, none⟩)) (.int .u64 (f : Int)) rfl rfl (by intro k hk; cases hk; rfl) (fun W hW => load_u64m W _ _ (by rw [hW.cell (p := ⟨g, 1, none⟩) EB.lt, EB.cell]; rfl))
    case c6 => exact ask_field (guard_none rfl) _ (.tmp 1) 2 (.pointer (some ⟨g, 0, none⟩)) (.pointer (some ⟨g, 2, none⟩)) rfl rfl (by intro k hk; cases hk; rfl) (fun W => by kernel_rfl)
    case c7 => exact ask_load (guard_none rfl) _ (.tmp 17) (.pointer (some ⟨g, 2, none⟩)) (.int .u64 (o : Int)) rfl rfl (by intro k hk; cases hk; rfl) (fun W hW => load_u64m W _ _ (by rw [hW.cell (p := ⟨g, 2, none⟩) EB.lt, EB.cell]; rfl))
    case c8 => exact ask_field (guard_none rfl) _ (.tmp 1) 3 (.pointer (some ⟨g, 0, none⟩)) (.pointer (some ⟨g, 3, none⟩)) rfl rfl (by intro k hk; cases hk; rfl) (fun W => by kernel_rfl)
    case c9 => exact ask_load (guard_none rfl) _ (.tmp 19) (.pointer (some ⟨g, 3, none⟩)) (.int .u64 (t : Int)) rfl rfl (by intro k hk; cases hk; rfl) (fun W hW => load_u64m W _ _ (by rw [hW.cell (p := ⟨g, 3, none⟩) EB.lt, EB.cell]; rfl))
    case c10 => exact ask_build_nums3 hG w2.heap.size hBs (guard_none rfl) (.tmp 16) (.tmp 18) (.tmp 20) f o t rfl rfl rfl rfl (by intro k hk; cases hk; rfl)
    case c11 => exact ask_call_by hG (guard_none rfl) _ _ _ (.row w2.heap.size (idsL [f, o, t])) rfl (by kernel_rfl) (by intro k hk; cases hk; rfl) (fun q W hW ht => by have h := farNums.nums (told_op ht (.tmp 21) (by simp [Op.operands, Call.operands])); exact (numbers_any _ [f, o, t] W h (by simp) HI3.out).mono fun r w' h => by obtain ⟨u, h1, h2, h3⟩ := h; exact ⟨u, h1, row_low h2 hW.size, h3⟩)
  intro af w3 hW hd' hs' hf'
  have t1 : af.tmps.getD 1 undef = (.pointer (some ⟨g, 0, none⟩)) := hf' 1 rfl
  have h14 : Row w3 w2.heap.size (af.tmps.getD 14 undef) [4] := hf' 14 rfl
  have h22 : Row w3 w2.heap.size (af.tmps.getD 22 undef) (idsL [f, o, t]) := hf' 22 rfl
  obtain ⟨tv, hus, haf⟩ := act_open 124 af hs' hd'
  rw [← hus] at t1 h14 h22
  have el : ((List.range 124).map tv).toArray = #[tv 0, tv 1, tv 2, tv 3, tv 4, tv 5, tv 6, tv 7, tv 8, tv 9, tv 10, tv 11, tv 12, tv 13, tv 14, tv 15, tv 16, tv 17, tv 18, tv 19, tv 20, tv 21, tv 22, tv 23, tv 24, tv 25, tv 26, tv 27, tv 28, tv 29, tv 30, tv 31, tv 32, tv 33, tv 34, tv 35, tv 36, tv 37, tv 38, tv 39, tv 40, tv 41, tv 42, tv 43, tv 44, tv 45, tv 46, tv 47, tv 48, tv 49, tv 50, tv 51, tv 52, tv 53, tv 54, tv 55, tv 56, tv 57, tv 58, tv 59, tv 60, tv 61, tv 62, tv 63, tv 64, tv 65, tv 66, tv 67, tv 68, tv 69, tv 70, tv 71, tv 72, tv 73, tv 74, tv 75, tv 76, tv 77, tv 78, tv 79, tv 80, tv 81, tv 82, tv 83, tv 84, tv 85, tv 86, tv 87, tv 88, tv 89, tv 90, tv 91, tv 92, tv 93, tv 94, tv 95, tv 96, tv 97, tv 98, tv 99, tv 100, tv 101, tv 102, tv 103, tv 104, tv 105, tv 106, tv 107, tv 108, tv 109, tv 110, tv 111, tv 112, tv 113, tv 114, tv 115, tv 116, tv 117, tv 118, tv 119, tv 120, tv 121, tv 122, tv 123] := rfl
  rw [el, t1] at haf
  subst haf
  have HR3 := Lib.hid (row_low h14 hgw)
  have EB3 := EB.keep hW
  have hg3 : g ≤ w3.heap.size := Nat.le_trans hgw hW.size
  have A3 := append_bys (B := g) hg3 HR3.out h22.bys (by simp only [List.length_cons, List.length_nil]; omega)
  have HA3 := Lib.hid A3
  have HB3 := Lib.hid (HB2.out.trans (hW.mono hgw))
  obtain ⟨va, hva⟩ : ∃ va, va = tv 14 := ⟨_, rfl⟩
  obtain ⟨vb, hvb⟩ : ∃ vb, vb = tv 22 := ⟨_, rfl⟩
  rw [← hva, ← hvb] at HA3 ⊢
  rw [← hva] at HR3
  clear hus t1 el hf' hs' hd' hW h14 h22 hG hBs EB hgw HB2 hva hvb A3
  simp only [List.drop_succ_cons, List.drop_zero]
  go_upto_region 17 with (at_builtin; refine wpList_append_by rfl _ _ 25 rfl _ _ rfl rfl _ HA3.out ?_; rintro v31 z31 ⟨hr, hgr⟩; (have EB31 := EB3.grown HR3.out (by decide) hgr); (have k0 : z31.cell? ⟨g, 0, none⟩ = some (.int .i64 4) := by rw [EB31.cell]; rfl); (have hg31 : g ≤ z31.heap.size := Nat.le_trans hg3 hgr.size); (have HR31 := Lib.hid hr); (have HB31 := Lib.hid (HB3.out.grown hgr hg3 fun k hk => (World.ownsRow.lt HR3.out k hk).1)); clear hr hgr)
  obtain ⟨L32, hL32⟩ : ∃ L, L = [4] ++ idsL [f, o, t] := ⟨_, rfl⟩
  have hl32 : L32.length ≤ 30 := by rw [hL32]; simp only [List.length_append, List.length_cons, List.length_nil]; omega
  rw [← hL32] at HR31
  have HL32 := Lib.hid hL32
  clear hL32
  obtain ⟨z, hz⟩ : ∃ W : World, W = z31 := ⟨_, rfl⟩
  obtain ⟨vz, hvz⟩ : ∃ v, v = v31 := ⟨_, rfl⟩
  rw [← hz, ← hvz] at HR31
  rw [← hz] at EB31 HB31 hg31 k0
  rw [← hz, ← hvz]
  clear hz hvz
  have HFl := Lib.hid (show ∀ W, Calls Try.prog 22 #[.bool true] W fun r w' => r = .returned (.int .u8 1) ∧ w' = W from fun W => flag_any true W)
  have HI2 := Lib.hid (ids2 HOk.out.i HOk.out.s)
  have h4 := idsL_len [i, s] HI2.out
  simp only [List.length_cons, List.length_nil] at h4
  have hG : ∀ W W' : World, (Below g z W ∧ z.heap.size ≤ W.heap.size ∧ Blk W g 27 #[.int .i64 4, .int .u64 (f : Int), .int .u64 (o : Int), .int .u64 (t : Int), .int .u64 (i : Int), .int .u64 (l : Int), .int .u64 (c : Int), .int .u64 (s : Int), .bool true, .slice a na ca, .slice b nb cb, .slice d nd cd]) → Below W.heap.size W W' → (Below g z W' ∧ z.heap.size ≤ W'.heap.size ∧ Blk W' g 27 #[.int .i64 4, .int .u64 (f : Int), .int .u64 (o : Int), .int .u64 (t : Int), .int .u64 (i : Int), .int .u64 (l : Int), .int .u64 (c : Int), .int .u64 (s : Int), .bool true, .slice a na ca, .slice b nb cb, .slice d nd cd]) := fun W W' h hb => ⟨h.1.trans (hb.mono (Nat.le_trans hg31 h.2.1)), Nat.le_trans h.2.1 hb.size, h.2.2.keep hb⟩
  have hBs : ∀ W : World, (Below g z W ∧ z.heap.size ≤ W.heap.size ∧ Blk W g 27 #[.int .i64 4, .int .u64 (f : Int), .int .u64 (o : Int), .int .u64 (t : Int), .int .u64 (i : Int), .int .u64 (l : Int), .int .u64 (c : Int), .int .u64 (s : Int), .bool true, .slice a na ca, .slice b nb cb, .slice d nd cd]) → z.heap.size ≤ W.heap.size := fun W h => h.2.1
  have hvb : ∀ q, vz.ownBlock = some q → q < z.heap.size := fun q hq => (World.ownsRow.lt HR31.out q hq).2
  have HVb := Lib.hid hvb
  clear hvb
  refine region_latetails_with 12 4 (oldRow g vz L32) [(84, oldRow g vz L32), (85, .is (.pointer (some ⟨g, 8, none⟩))), (86, .is (.bool true)), (87, .is (bv 1)), (88, .row z.heap.size [1]), (89, .row g (L32 ++ [1])), (90, .is (.pointer (some ⟨g, 4, none⟩))), (91, .is (.int .u64 (i : Int))), (92, .is (.pointer (some ⟨g, 7, none⟩))), (93, .is (.int .u64 (s : Int))), (94, farNums z.heap.size [i, s]), (95, .row z.heap.size (idsL [i, s]))] [1, 89, 95] (fun W => (Below g z W ∧ z.heap.size ≤ W.heap.size ∧ Blk W g 27 #[.int .i64 4, .int .u64 (f : Int), .int .u64 (o : Int), .int .u64 (t : Int), .int .u64 (i : Int), .int .u64 (l : Int), .int .u64 (c : Int), .int .u64 (s : Int), .bool true, .slice a na ca, .slice b nb cb, .slice d nd cd])) (by kernel_rfl) (by kernel_rfl) (by kernel_rfl) (by kernel_rfl) (by kernel_rfl) (by decide) (by kernel_rfl) ⟨(Below.refl _ _).drew, Nat.le_refl _, EB31.keep ((Below.refl _ _).drew)⟩ ⟨rfl, HR31.out.below ((Below.refl _ _).drew)⟩ ?_ ?_
  · refine ⟨?c0, ?c1, ?c2, ?c3, ?c4, ?c5, ?c6, ?c7, ?c8, ?c9, ?c10, ?c11, trivial⟩
    case c0 => exact Asked.late (ask_copy (guard_none rfl) (.tmp 4) (.inl rfl) (by intro k hk; cases hk; rfl))
    case c1 => exact Asked.late (ask_field (guard_none rfl) _ (.tmp 1) 8 (.pointer (some ⟨g, 0, none⟩)) (.pointer (some ⟨g, 8, none⟩)) rfl rfl (by intro k hk; cases hk; rfl) (fun W => by kernel_rfl))
    case c2 => exact Asked.late (ask_load (guard_none rfl) _ (.tmp 85) (.pointer (some ⟨g, 8, none⟩)) (.bool true) rfl rfl (by intro k hk; cases hk; rfl) (fun W hW => load_boolm W _ _ (by rw [hW.2.2.cell]; rfl)))
    case c3 => exact Asked.late (ask_call hG (guard_none rfl) _ _ _ #[.bool true] (.is (bv 1)) rfl (by kernel_rfl) rfl rfl (by intro k hk; cases hk; rfl) (fun W hW => (HFl.out W).mono fun r w' h => ⟨_, h.1, rfl, by rw [h.2]; exact Below.refl _ _⟩))
    case c4 => exact Asked.late (ask_build_byteM hG (guard_none rfl) (.tmp 87) 1 z.heap.size hBs rfl rfl (by intro k hk; cases hk; rfl))
    case c5 => exact Asked.late (ask_append_old (guard_none rfl) z.heap.size g vz (.tmp 84) (.tmp 88) L32 [1] (by kernel_rfl) rfl rfl rfl (by simp only [List.length_cons, List.length_nil]; omega) HVb.out (fun W h => ⟨Nat.le_trans hg31 h.2.1, h.2.1⟩) (fun W W' hW hr hg => ⟨hW.1.grown hg (Nat.le_trans hg31 hW.2.1) fun q hq => (World.ownsRow.lt hr q hq).1, Nat.le_trans hW.2.1 hg.size, hW.2.2.grown hr (by decide) hg⟩) [4, 84] (by kernel_rfl) (fun k hk hne => far_list (l := [(4, oldRow g vz L32), (84, oldRow g vz L32), (85, .is (.pointer (some ⟨g, 8, none⟩))), (86, .is (.bool true)), (87, .is (bv 1)), (88, .row z.heap.size [1]), (89, .row g (L32 ++ [1])), (90, .is (.pointer (some ⟨g, 4, none⟩))), (91, .is (.int .u64 (i : Int))), (92, .is (.pointer (some ⟨g, 7, none⟩))), (93, .is (.int .u64 (s : Int))), (94, farNums z.heap.size [i, s]), (95, .row z.heap.size (idsL [i, s]))]) (S := [89, 4, 84]) (by simp only [List.mem_cons, List.not_mem_nil, or_false, forall_eq_or_imp, forall_eq]; exact ⟨.inl (.inr (.inl trivial)), .inl (.inr (.inr trivial)), .inr (Far.is _ _), .inr (Far.is _ _), .inr (Far.is _ _), .inr (Far.row _ _), .inl (.inl trivial), .inr (Far.is _ _), .inr (Far.is _ _), .inr (Far.is _ _), .inr (Far.is _ _), .inr (Far.nums _ _), .inr (Far.row _ _)⟩) k (by intro h; rcases List.mem_cons.1 h with rfl | h; exact hne rfl; exact hk h)) (by intro k hk; cases hk; rfl))
    case c6 => exact Asked.late (ask_field (guard_none rfl) _ (.tmp 1) 4 (.pointer (some ⟨g, 0, none⟩)) (.pointer (some ⟨g, 4, none⟩)) rfl rfl (by intro k hk; cases hk; rfl) (fun W => by kernel_rfl))
    case c7 => exact Asked.late (ask_load (guard_none rfl) _ (.tmp 90) (.pointer (some ⟨g, 4, none⟩)) (.int .u64 (i : Int)) rfl rfl (by intro k hk; cases hk; rfl) (fun W hW => load_u64m W _ _ (by rw [hW.2.2.cell]; rfl)))
    case c8 => exact Asked.late (ask_field (guard_none rfl) _ (.tmp 1) 7 (.pointer (some ⟨g, 0, none⟩)) (.pointer (some ⟨g, 7, none⟩)) rfl rfl (by intro k hk; cases hk; rfl) (fun W => by kernel_rfl))
    case c9 => exact Asked.late (ask_load (guard_none rfl) _ (.tmp 92) (.pointer (some ⟨g, 7, none⟩)) (.int .u64 (s : Int)) rfl rfl (by intro k hk; cases hk; rfl) (fun W hW => load_u64m W _ _ (by rw [hW.2.2.cell]; rfl)))
    case c10 => exact Asked.late (ask_build_nums2 hG z.heap.size hBs (guard_none rfl) (.tmp 91) (.tmp 93) i s rfl rfl rfl (by intro k hk; cases hk; rfl))
    case c11 => exact Asked.late (ask_call_by hG (guard_none rfl) _ _ _ (.row z.heap.size (idsL [i, s])) rfl (by kernel_rfl) (by intro k hk; cases hk; rfl) (fun q W hW ht => by have h := farNums.nums (told_op ht (.tmp 94) (by simp [Op.operands, Call.operands])); exact (numbers_any _ [i, s] W h (by simp) HI2.out).mono fun r w' h => by obtain ⟨u, h1, h2, h3⟩ := h; exact ⟨u, h1, row_low h2 hW.2.1, h3⟩))
  intro af z2 hW hd' hs' hf'
  have t1 : af.tmps.getD 1 undef = (.pointer (some ⟨g, 0, none⟩)) := hf' 1 rfl
  have h89 : Row z2 g (af.tmps.getD 89 undef) (L32 ++ [1]) := hf' 89 rfl
  have h95 : Row z2 z.heap.size (af.tmps.getD 95 undef) (idsL [i, s]) := hf' 95 rfl
  obtain ⟨tw, hus, haf⟩ := act_open 124 af hs' hd'
  rw [← hus] at t1 h89 h95
  have el : ((List.range 124).map tw).toArray = #[tw 0, tw 1, tw 2, tw 3, tw 4, tw 5, tw 6, tw 7, tw 8, tw 9, tw 10, tw 11, tw 12, tw 13, tw 14, tw 15, tw 16, tw 17, tw 18, tw 19, tw 20, tw 21, tw 22, tw 23, tw 24, tw 25, tw 26, tw 27, tw 28, tw 29, tw 30, tw 31, tw 32, tw 33, tw 34, tw 35, tw 36, tw 37, tw 38, tw 39, tw 40, tw 41, tw 42, tw 43, tw 44, tw 45, tw 46, tw 47, tw 48, tw 49, tw 50, tw 51, tw 52, tw 53, tw 54, tw 55, tw 56, tw 57, tw 58, tw 59, tw 60, tw 61, tw 62, tw 63, tw 64, tw 65, tw 66, tw 67, tw 68, tw 69, tw 70, tw 71, tw 72, tw 73, tw 74, tw 75, tw 76, tw 77, tw 78, tw 79, tw 80, tw 81, tw 82, tw 83, tw 84, tw 85, tw 86, tw 87, tw 88, tw 89, tw 90, tw 91, tw 92, tw 93, tw 94, tw 95, tw 96, tw 97, tw 98, tw 99, tw 100, tw 101, tw 102, tw 103, tw 104, tw 105, tw 106, tw 107, tw 108, tw 109, tw 110, tw 111, tw 112, tw 113, tw 114, tw 115, tw 116, tw 117, tw 118, tw 119, tw 120, tw 121, tw 122, tw 123] := rfl
  rw [el, t1] at haf
  subst haf
  have HRy := Lib.hid h89
  have EBy := hW.2.2
  have hgy : g ≤ z2.heap.size := Nat.le_trans hg31 hW.2.1
  have Ay := append_bys (B := g) hgy HRy.out h95.bys (by simp only [List.length_append, List.length_cons, List.length_nil]; omega)
  have HAy := Lib.hid Ay
  have HBy := Lib.hid (HB31.out.trans hW.1)
  clear hus t1 el hf' hs' hd' hW h89 h95 hG hBs Ay
  obtain ⟨vy, hvy⟩ : ∃ v, v = tw 89 := ⟨_, rfl⟩
  obtain ⟨vx, hvx⟩ : ∃ v, v = tw 95 := ⟨_, rfl⟩
  rw [← hvy, ← hvx] at HAy ⊢
  rw [← hvy] at HRy
  clear hvy hvx
  simp only [List.drop_succ_cons, List.drop_zero]
  go_wp2_with (at_builtin; refine wpList_append_by rfl _ _ 25 rfl _ _ rfl rfl _ HAy.out ?_; rintro v33 z33 ⟨hr, hgr⟩; (have EB33 := EBy.grown HRy.out (by decide) hgr);  (have hg33 : g ≤ z33.heap.size := Nat.le_trans hgy hgr.size); (have HR33 := Lib.hid hr); (have HB33 := Lib.hid (HBy.out.grown hgr hgy fun k hk => (World.ownsRow.lt HRy.out k hk).1)); clear hr hgr)
  rw [← HG.out]
  have hput : putM (⟨4, f, o, t, i, l, c, s, true, e, ms, x⟩ : Mg) = L32 ++ [1] ++ idsL [i, s] := by rw [HL32.out]; simp [putM, bodyL, idsL, flagL]
  rw [hput]
  exact bodyPost_ret (v := .tuple #[v33, .int .i64 0]) (by simp [results, Try.results11, go_sem]) rfl ⟨_, rfl, HR33.out, HB33.out⟩
set_option maxHeartbeats 4000000 in
set_option maxRecDepth 100000 in
theorem msgput_4false (f o t i l c s : Nat) (e : List Ent) (ms : List Nat) (x : List UInt8) (ve vm vg : Value) (us : List EE) (w : World) (hm : MHas w (⟨4, f, o, t, i, l, c, s, false, e, ms, x⟩ : Mg) ve vm vg us) (hf : formedM (⟨4, f, o, t, i, l, c, s, false, e, ms, x⟩ : Mg) = true) :
    Calls Try.prog 11 #[.agg (mgC (⟨4, f, o, t, i, l, c, s, false, e, ms, x⟩ : Mg) ve vm vg)] w fun r w' => ∃ v, r = .returned (.tuple #[v, .int .i64 0]) ∧ Row w' w.heap.size v (putM (⟨4, f, o, t, i, l, c, s, false, e, ms, x⟩ : Mg)) ∧ Below w.heap.size w w' := by
  obtain ⟨a, ca, rfl⟩ := hm.els.form
  obtain ⟨b, cb, rfl⟩ := hm.ms.shape
  obtain ⟨d, cd, rfl⟩ := hm.gs.shape
  obtain ⟨na, hna⟩ : ∃ n, n = us.length := ⟨_, rfl⟩
  obtain ⟨nb, hnb⟩ : ∃ n, n = ms.length := ⟨_, rfl⟩
  obtain ⟨nd, hnd⟩ : ∃ n, n = x.length := ⟨_, rfl⟩
  have hel := hm.el
  have hen := hm.ents
  have hFF := formedM_facts hf
  simp only at hm hel hen hFF ⊢
  rw [← hna, ← hnb, ← hnd] at hm
  rw [← hna, ← hnb, ← hnd]
  have HM := Lib.hid hm
  have HNA := Lib.hid hna
  have HNB := Lib.hid hnb
  have HND := Lib.hid hnd
  have HEL := Lib.hid hel
  have HEN := Lib.hid hen
  have HFF := Lib.hid hFF
  have hna4 : na ≤ 4 := by have := hFF.1; omega
  have hnd4 : nd ≤ 16384 := by have := hFF.2.1; omega
  have HOk := Lib.hid hm.ok
  have b1 : Below w.heap.size w (w.alloc (.cells #[.int .i64 4, .int .u64 (f : Int), .int .u64 (o : Int), .int .u64 (t : Int), .int .u64 (i : Int), .int .u64 (l : Int), .int .u64 (c : Int), .int .u64 (s : Int), .bool false, .slice a na ca, .slice b nb cb, .slice d nd cd] 27)) := (Below.refl _ _).alloc (Nat.le_refl _) _
  have HB1 := Lib.hid b1
  have HForm := Lib.hid (fun (W : World) (hW : Below w.heap.size w W) => refMsgFormed_any _ _ _ _ us W (hm.below (Nat.le_refl _) hW))
  rw [hf] at HForm
  clear hm hna hnb hnd hel hen hFF hf b1
  simp only [mgC] at HForm ⊢
  go_enter Try.func11, Try.ntmps11
  go_upto_region 1 with fail
  refine world_cut (fun W => Below w.heap.size w W ∧ Blk W w.heap.size 27 #[.int .i64 4, .int .u64 (f : Int), .int .u64 (o : Int), .int .u64 (t : Int), .int .u64 (i : Int), .int .u64 (l : Int), .int .u64 (c : Int), .int .u64 (s : Int), .bool false, .slice a na ca, .slice b nb cb, .slice d nd cd]) ⟨HB1.out, Blk.new w _ _⟩ ?_
  clear HB1
  rintro w1 ⟨hb1, kb1⟩
  have HB1 := Lib.hid hb1
  have KB1 := Lib.hid kb1
  clear hb1 kb1
  go_wp2_with (refine wpList_load_by rfl 27 (.tmp 1) rfl _ _ rfl (KB1.out.loads 27 _ Try.underlying27 rfl rfl) ?_)
  refine (HForm.out w1 HB1.out).mono ?_
  rintro r w2 ⟨rfl, hb⟩
  have EB := KB1.out.keep hb
  obtain ⟨g, hg⟩ : ∃ g, g = w.heap.size := ⟨_, rfl⟩
  have HG := Lib.hid hg
  have HB2 : Hid (Below g w w2) := by rw [hg]; exact Lib.hid (HB1.out.trans (hb.mono HB1.out.size))
  have hgw : g ≤ w2.heap.size := HG.out ▸ Nat.le_trans HB1.out.size hb.size
  clear hb HForm
  rw [← hg] at EB
  clear hg HB1 KB1
  have hf64 := HOk.out.f
  have ho64 := HOk.out.o
  have ht64 := HOk.out.t
  have h3 := idsL_len [f, o, t] (ids3 hf64 ho64 ht64)
  simp only [List.length_cons, List.length_nil] at h3
  have HI3 := Lib.hid (ids3 hf64 ho64 ht64)
  go_upto_region 3 with fail
  rw [← HG.out]
  have hG : ∀ W W' : World, Below w2.heap.size w2 W → Below W.heap.size W W' → Below w2.heap.size w2 W' := fun W W' hW hb => hW.trans (hb.mono hW.size)
  have hBs : ∀ W : World, Below w2.heap.size w2 W → w2.heap.size ≤ W.heap.size := fun W h => h.size
  refine region_tails_by 12 [(11, .is (.pointer (some ⟨g, 0, none⟩))), (12, .is (.int .i64 4)), (13, .is (bv 4)), (14, .row w2.heap.size [4]), (15, .is (.pointer (some ⟨g, 1, none⟩))), (16, .is (.int .u64 (f : Int))), (17, .is (.pointer (some ⟨g, 2, none⟩))), (18, .is (.int .u64 (o : Int))), (19, .is (.pointer (some ⟨g, 3, none⟩))), (20, .is (.int .u64 (t : Int))), (21, farNums w2.heap.size [f, o, t]), (22, .row w2.heap.size (idsL [f, o, t]))] [1, 14, 22] (fun W => Below w2.heap.size w2 W) (by kernel_rfl) (by kernel_rfl) (by kernel_rfl) (by kernel_rfl) (by kernel_rfl) (by decide) (by kernel_rfl) (by kernel_rfl) ((Below.refl _ _).drew) ?_ ?_
  · refine ⟨?c0, ?c1, ?c2, ?c3, ?c4, ?c5, ?c6, ?c7, ?c8, ?c9, ?c10, ?c11, trivial⟩
    case c0 => exact ask_field (guard_none rfl) _ (.tmp 1) 0 (.pointer (some ⟨g, 0, none⟩)) (.pointer (some ⟨g, 0, none⟩)) rfl rfl (by intro k hk; cases hk; rfl) (fun W => by kernel_rfl)
    case c1 => exact ask_load (guard_none rfl) _ (.tmp 11) (.pointer (some ⟨g, 0, none⟩)) (.int .i64 4) rfl rfl (by intro k hk; cases hk; rfl) (fun W hW => load_intm W _ _ (by rw [hW.cell (p := ⟨g, 0, none⟩) EB.lt, EB.cell]; rfl))
    case c2 => exact ask_exec (guard_none rfl) (bv 4) rfl rfl (by intro k hk; cases hk; rfl) (fun W hW => by kernel_rfl)
    case c3 => exact ask_build_byteM hG (guard_none rfl) (.tmp 13) 4 w2.heap.size hBs rfl rfl (by intro k hk; cases hk; rfl)
    case c4 => exact ask_field (guard_none rfl) _ (.tmp 1) 1 (.pointer (some ⟨g, 0, none⟩)) (.pointer (some ⟨g, 1, none⟩)) rfl rfl (by intro k hk; cases hk; rfl) (fun W => by kernel_rfl)
    case c5 => exact ask_load (guard_none rfl) _ (.tmp 15) (.pointer (some ⟨g, 1, none⟩)) (.int .u64 (f : Int)) rfl rfl (by intro k hk; cases hk; rfl) (fun W hW => load_u64m W _ _ (by rw [hW.cell (p := ⟨g, 1, none⟩) EB.lt, EB.cell]; rfl))
    case c6 => exact ask_field (guard_none rfl) _ (.tmp 1) 2 (.pointer (some ⟨g, 0, none⟩)) (.pointer (some ⟨g, 2, none⟩)) rfl rfl (by intro k hk; cases hk; rfl) (fun W => by kernel_rfl)
    case c7 => exact ask_load (guard_none rfl) _ (.tmp 17) (.pointer (some ⟨g, 2, none⟩)) (.int .u64 (o : Int)) rfl rfl (by intro k hk; cases hk; rfl) (fun W hW => load_u64m W _ _ (by rw [hW.cell (p := ⟨g, 2, none⟩) EB.lt, EB.cell]; rfl))
    case c8 => exact ask_field (guard_none rfl) _ (.tmp 1) 3 (.pointer (some ⟨g, 0, none⟩)) (.pointer (some ⟨g, 3, none⟩)) rfl rfl (by intro k hk; cases hk; rfl) (fun W => by kernel_rfl)
    case c9 => exact ask_load (guard_none rfl) _ (.tmp 19) (.pointer (some ⟨g, 3, none⟩)) (.int .u64 (t : Int)) rfl rfl (by intro k hk; cases hk; rfl) (fun W hW => load_u64m W _ _ (by rw [hW.cell (p := ⟨g, 3, none⟩) EB.lt, EB.cell]; rfl))
    case c10 => exact ask_build_nums3 hG w2.heap.size hBs (guard_none rfl) (.tmp 16) (.tmp 18) (.tmp 20) f o t rfl rfl rfl rfl (by intro k hk; cases hk; rfl)
    case c11 => exact ask_call_by hG (guard_none rfl) _ _ _ (.row w2.heap.size (idsL [f, o, t])) rfl (by kernel_rfl) (by intro k hk; cases hk; rfl) (fun q W hW ht => by have h := farNums.nums (told_op ht (.tmp 21) (by simp [Op.operands, Call.operands])); exact (numbers_any _ [f, o, t] W h (by simp) HI3.out).mono fun r w' h => by obtain ⟨u, h1, h2, h3⟩ := h; exact ⟨u, h1, row_low h2 hW.size, h3⟩)
  intro af w3 hW hd' hs' hf'
  have t1 : af.tmps.getD 1 undef = (.pointer (some ⟨g, 0, none⟩)) := hf' 1 rfl
  have h14 : Row w3 w2.heap.size (af.tmps.getD 14 undef) [4] := hf' 14 rfl
  have h22 : Row w3 w2.heap.size (af.tmps.getD 22 undef) (idsL [f, o, t]) := hf' 22 rfl
  obtain ⟨tv, hus, haf⟩ := act_open 124 af hs' hd'
  rw [← hus] at t1 h14 h22
  have el : ((List.range 124).map tv).toArray = #[tv 0, tv 1, tv 2, tv 3, tv 4, tv 5, tv 6, tv 7, tv 8, tv 9, tv 10, tv 11, tv 12, tv 13, tv 14, tv 15, tv 16, tv 17, tv 18, tv 19, tv 20, tv 21, tv 22, tv 23, tv 24, tv 25, tv 26, tv 27, tv 28, tv 29, tv 30, tv 31, tv 32, tv 33, tv 34, tv 35, tv 36, tv 37, tv 38, tv 39, tv 40, tv 41, tv 42, tv 43, tv 44, tv 45, tv 46, tv 47, tv 48, tv 49, tv 50, tv 51, tv 52, tv 53, tv 54, tv 55, tv 56, tv 57, tv 58, tv 59, tv 60, tv 61, tv 62, tv 63, tv 64, tv 65, tv 66, tv 67, tv 68, tv 69, tv 70, tv 71, tv 72, tv 73, tv 74, tv 75, tv 76, tv 77, tv 78, tv 79, tv 80, tv 81, tv 82, tv 83, tv 84, tv 85, tv 86, tv 87, tv 88, tv 89, tv 90, tv 91, tv 92, tv 93, tv 94, tv 95, tv 96, tv 97, tv 98, tv 99, tv 100, tv 101, tv 102, tv 103, tv 104, tv 105, tv 106, tv 107, tv 108, tv 109, tv 110, tv 111, tv 112, tv 113, tv 114, tv 115, tv 116, tv 117, tv 118, tv 119, tv 120, tv 121, tv 122, tv 123] := rfl
  rw [el, t1] at haf
  subst haf
  have HR3 := Lib.hid (row_low h14 hgw)
  have EB3 := EB.keep hW
  have hg3 : g ≤ w3.heap.size := Nat.le_trans hgw hW.size
  have A3 := append_bys (B := g) hg3 HR3.out h22.bys (by simp only [List.length_cons, List.length_nil]; omega)
  have HA3 := Lib.hid A3
  have HB3 := Lib.hid (HB2.out.trans (hW.mono hgw))
  obtain ⟨va, hva⟩ : ∃ va, va = tv 14 := ⟨_, rfl⟩
  obtain ⟨vb, hvb⟩ : ∃ vb, vb = tv 22 := ⟨_, rfl⟩
  rw [← hva, ← hvb] at HA3 ⊢
  rw [← hva] at HR3
  clear hus t1 el hf' hs' hd' hW h14 h22 hG hBs EB hgw HB2 hva hvb A3
  simp only [List.drop_succ_cons, List.drop_zero]
  go_upto_region 17 with (at_builtin; refine wpList_append_by rfl _ _ 25 rfl _ _ rfl rfl _ HA3.out ?_; rintro v34 z34 ⟨hr, hgr⟩; (have EB34 := EB3.grown HR3.out (by decide) hgr); (have k0 : z34.cell? ⟨g, 0, none⟩ = some (.int .i64 4) := by rw [EB34.cell]; rfl); (have hg34 : g ≤ z34.heap.size := Nat.le_trans hg3 hgr.size); (have HR34 := Lib.hid hr); (have HB34 := Lib.hid (HB3.out.grown hgr hg3 fun k hk => (World.ownsRow.lt HR3.out k hk).1)); clear hr hgr)
  obtain ⟨L35, hL35⟩ : ∃ L, L = [4] ++ idsL [f, o, t] := ⟨_, rfl⟩
  have hl35 : L35.length ≤ 30 := by rw [hL35]; simp only [List.length_append, List.length_cons, List.length_nil]; omega
  rw [← hL35] at HR34
  have HL35 := Lib.hid hL35
  clear hL35
  obtain ⟨z, hz⟩ : ∃ W : World, W = z34 := ⟨_, rfl⟩
  obtain ⟨vz, hvz⟩ : ∃ v, v = v34 := ⟨_, rfl⟩
  rw [← hz, ← hvz] at HR34
  rw [← hz] at EB34 HB34 hg34 k0
  rw [← hz, ← hvz]
  clear hz hvz
  have HFl := Lib.hid (show ∀ W, Calls Try.prog 22 #[.bool false] W fun r w' => r = .returned (.int .u8 0) ∧ w' = W from fun W => flag_any false W)
  have HI2 := Lib.hid (ids2 HOk.out.i HOk.out.s)
  have h4 := idsL_len [i, s] HI2.out
  simp only [List.length_cons, List.length_nil] at h4
  have hG : ∀ W W' : World, (Below g z W ∧ z.heap.size ≤ W.heap.size ∧ Blk W g 27 #[.int .i64 4, .int .u64 (f : Int), .int .u64 (o : Int), .int .u64 (t : Int), .int .u64 (i : Int), .int .u64 (l : Int), .int .u64 (c : Int), .int .u64 (s : Int), .bool false, .slice a na ca, .slice b nb cb, .slice d nd cd]) → Below W.heap.size W W' → (Below g z W' ∧ z.heap.size ≤ W'.heap.size ∧ Blk W' g 27 #[.int .i64 4, .int .u64 (f : Int), .int .u64 (o : Int), .int .u64 (t : Int), .int .u64 (i : Int), .int .u64 (l : Int), .int .u64 (c : Int), .int .u64 (s : Int), .bool false, .slice a na ca, .slice b nb cb, .slice d nd cd]) := fun W W' h hb => ⟨h.1.trans (hb.mono (Nat.le_trans hg34 h.2.1)), Nat.le_trans h.2.1 hb.size, h.2.2.keep hb⟩
  have hBs : ∀ W : World, (Below g z W ∧ z.heap.size ≤ W.heap.size ∧ Blk W g 27 #[.int .i64 4, .int .u64 (f : Int), .int .u64 (o : Int), .int .u64 (t : Int), .int .u64 (i : Int), .int .u64 (l : Int), .int .u64 (c : Int), .int .u64 (s : Int), .bool false, .slice a na ca, .slice b nb cb, .slice d nd cd]) → z.heap.size ≤ W.heap.size := fun W h => h.2.1
  have hvb : ∀ q, vz.ownBlock = some q → q < z.heap.size := fun q hq => (World.ownsRow.lt HR34.out q hq).2
  have HVb := Lib.hid hvb
  clear hvb
  refine region_latetails_with 12 4 (oldRow g vz L35) [(84, oldRow g vz L35), (85, .is (.pointer (some ⟨g, 8, none⟩))), (86, .is (.bool false)), (87, .is (bv 0)), (88, .row z.heap.size [0]), (89, .row g (L35 ++ [0])), (90, .is (.pointer (some ⟨g, 4, none⟩))), (91, .is (.int .u64 (i : Int))), (92, .is (.pointer (some ⟨g, 7, none⟩))), (93, .is (.int .u64 (s : Int))), (94, farNums z.heap.size [i, s]), (95, .row z.heap.size (idsL [i, s]))] [1, 89, 95] (fun W => (Below g z W ∧ z.heap.size ≤ W.heap.size ∧ Blk W g 27 #[.int .i64 4, .int .u64 (f : Int), .int .u64 (o : Int), .int .u64 (t : Int), .int .u64 (i : Int), .int .u64 (l : Int), .int .u64 (c : Int), .int .u64 (s : Int), .bool false, .slice a na ca, .slice b nb cb, .slice d nd cd])) (by kernel_rfl) (by kernel_rfl) (by kernel_rfl) (by kernel_rfl) (by kernel_rfl) (by decide) (by kernel_rfl) ⟨(Below.refl _ _).drew, Nat.le_refl _, EB34.keep ((Below.refl _ _).drew)⟩ ⟨rfl, HR34.out.below ((Below.refl _ _).drew)⟩ ?_ ?_
  · refine ⟨?c0, ?c1, ?c2, ?c3, ?c4, ?c5, ?c6, ?c7, ?c8, ?c9, ?c10, ?c11, trivial⟩
    case c0 => exact Asked.late (ask_copy (guard_none rfl) (.tmp 4) (.inl rfl) (by intro k hk; cases hk; rfl))
    case c1 => exact Asked.late (ask_field (guard_none rfl) _ (.tmp 1) 8 (.pointer (some ⟨g, 0, none⟩)) (.pointer (some ⟨g, 8, none⟩)) rfl rfl (by intro k hk; cases hk; rfl) (fun W => by kernel_rfl))
    case c2 => exact Asked.late (ask_load (guard_none rfl) _ (.tmp 85) (.pointer (some ⟨g, 8, none⟩)) (.bool false) rfl rfl (by intro k hk; cases hk; rfl) (fun W hW => load_boolm W _ _ (by rw [hW.2.2.cell]; rfl)))
    case c3 => exact Asked.late (ask_call hG (guard_none rfl) _ _ _ #[.bool false] (.is (bv 0)) rfl (by kernel_rfl) rfl rfl (by intro k hk; cases hk; rfl) (fun W hW => (HFl.out W).mono fun r w' h => ⟨_, h.1, rfl, by rw [h.2]; exact Below.refl _ _⟩))
    case c4 => exact Asked.late (ask_build_byteM hG (guard_none rfl) (.tmp 87) 0 z.heap.size hBs rfl rfl (by intro k hk; cases hk; rfl))
    case c5 => exact Asked.late (ask_append_old (guard_none rfl) z.heap.size g vz (.tmp 84) (.tmp 88) L35 [0] (by kernel_rfl) rfl rfl rfl (by simp only [List.length_cons, List.length_nil]; omega) HVb.out (fun W h => ⟨Nat.le_trans hg34 h.2.1, h.2.1⟩) (fun W W' hW hr hg => ⟨hW.1.grown hg (Nat.le_trans hg34 hW.2.1) fun q hq => (World.ownsRow.lt hr q hq).1, Nat.le_trans hW.2.1 hg.size, hW.2.2.grown hr (by decide) hg⟩) [4, 84] (by kernel_rfl) (fun k hk hne => far_list (l := [(4, oldRow g vz L35), (84, oldRow g vz L35), (85, .is (.pointer (some ⟨g, 8, none⟩))), (86, .is (.bool false)), (87, .is (bv 0)), (88, .row z.heap.size [0]), (89, .row g (L35 ++ [0])), (90, .is (.pointer (some ⟨g, 4, none⟩))), (91, .is (.int .u64 (i : Int))), (92, .is (.pointer (some ⟨g, 7, none⟩))), (93, .is (.int .u64 (s : Int))), (94, farNums z.heap.size [i, s]), (95, .row z.heap.size (idsL [i, s]))]) (S := [89, 4, 84]) (by simp only [List.mem_cons, List.not_mem_nil, or_false, forall_eq_or_imp, forall_eq]; exact ⟨.inl (.inr (.inl trivial)), .inl (.inr (.inr trivial)), .inr (Far.is _ _), .inr (Far.is _ _), .inr (Far.is _ _), .inr (Far.row _ _), .inl (.inl trivial), .inr (Far.is _ _), .inr (Far.is _ _), .inr (Far.is _ _), .inr (Far.is _ _), .inr (Far.nums _ _), .inr (Far.row _ _)⟩) k (by intro h; rcases List.mem_cons.1 h with rfl | h; exact hne rfl; exact hk h)) (by intro k hk; cases hk; rfl))
    case c6 => exact Asked.late (ask_field (guard_none rfl) _ (.tmp 1) 4 (.pointer (some ⟨g, 0, none⟩)) (.pointer (some ⟨g, 4, none⟩)) rfl rfl (by intro k hk; cases hk; rfl) (fun W => by kernel_rfl))
    case c7 => exact Asked.late (ask_load (guard_none rfl) _ (.tmp 90) (.pointer (some ⟨g, 4, none⟩)) (.int .u64 (i : Int)) rfl rfl (by intro k hk; cases hk; rfl) (fun W hW => load_u64m W _ _ (by rw [hW.2.2.cell]; rfl)))
    case c8 => exact Asked.late (ask_field (guard_none rfl) _ (.tmp 1) 7 (.pointer (some ⟨g, 0, none⟩)) (.pointer (some ⟨g, 7, none⟩)) rfl rfl (by intro k hk; cases hk; rfl) (fun W => by kernel_rfl))
    case c9 => exact Asked.late (ask_load (guard_none rfl) _ (.tmp 92) (.pointer (some ⟨g, 7, none⟩)) (.int .u64 (s : Int)) rfl rfl (by intro k hk; cases hk; rfl) (fun W hW => load_u64m W _ _ (by rw [hW.2.2.cell]; rfl)))
    case c10 => exact Asked.late (ask_build_nums2 hG z.heap.size hBs (guard_none rfl) (.tmp 91) (.tmp 93) i s rfl rfl rfl (by intro k hk; cases hk; rfl))
    case c11 => exact Asked.late (ask_call_by hG (guard_none rfl) _ _ _ (.row z.heap.size (idsL [i, s])) rfl (by kernel_rfl) (by intro k hk; cases hk; rfl) (fun q W hW ht => by have h := farNums.nums (told_op ht (.tmp 94) (by simp [Op.operands, Call.operands])); exact (numbers_any _ [i, s] W h (by simp) HI2.out).mono fun r w' h => by obtain ⟨u, h1, h2, h3⟩ := h; exact ⟨u, h1, row_low h2 hW.2.1, h3⟩))
  intro af z2 hW hd' hs' hf'
  have t1 : af.tmps.getD 1 undef = (.pointer (some ⟨g, 0, none⟩)) := hf' 1 rfl
  have h89 : Row z2 g (af.tmps.getD 89 undef) (L35 ++ [0]) := hf' 89 rfl
  have h95 : Row z2 z.heap.size (af.tmps.getD 95 undef) (idsL [i, s]) := hf' 95 rfl
  obtain ⟨tw, hus, haf⟩ := act_open 124 af hs' hd'
  rw [← hus] at t1 h89 h95
  have el : ((List.range 124).map tw).toArray = #[tw 0, tw 1, tw 2, tw 3, tw 4, tw 5, tw 6, tw 7, tw 8, tw 9, tw 10, tw 11, tw 12, tw 13, tw 14, tw 15, tw 16, tw 17, tw 18, tw 19, tw 20, tw 21, tw 22, tw 23, tw 24, tw 25, tw 26, tw 27, tw 28, tw 29, tw 30, tw 31, tw 32, tw 33, tw 34, tw 35, tw 36, tw 37, tw 38, tw 39, tw 40, tw 41, tw 42, tw 43, tw 44, tw 45, tw 46, tw 47, tw 48, tw 49, tw 50, tw 51, tw 52, tw 53, tw 54, tw 55, tw 56, tw 57, tw 58, tw 59, tw 60, tw 61, tw 62, tw 63, tw 64, tw 65, tw 66, tw 67, tw 68, tw 69, tw 70, tw 71, tw 72, tw 73, tw 74, tw 75, tw 76, tw 77, tw 78, tw 79, tw 80, tw 81, tw 82, tw 83, tw 84, tw 85, tw 86, tw 87, tw 88, tw 89, tw 90, tw 91, tw 92, tw 93, tw 94, tw 95, tw 96, tw 97, tw 98, tw 99, tw 100, tw 101, tw 102, tw 103, tw 104, tw 105, tw 106, tw 107, tw 108, tw 109, tw 110, tw 111, tw 112, tw 113, tw 114, tw 115, tw 116, tw 117, tw 118, tw 119, tw 120, tw 121, tw 122, tw 123] := rfl
  rw [el, t1] at haf
  subst haf
  have HRy := Lib.hid h89
  have EBy := hW.2.2
  have hgy : g ≤ z2.heap.size := Nat.le_trans hg34 hW.2.1
  have Ay := append_bys (B := g) hgy HRy.out h95.bys (by simp only [List.length_append, List.length_cons, List.length_nil]; omega)
  have HAy := Lib.hid Ay
  have HBy := Lib.hid (HB34.out.trans hW.1)
  clear hus t1 el hf' hs' hd' hW h89 h95 hG hBs Ay
  obtain ⟨vy, hvy⟩ : ∃ v, v = tw 89 := ⟨_, rfl⟩
  obtain ⟨vx, hvx⟩ : ∃ v, v = tw 95 := ⟨_, rfl⟩
  rw [← hvy, ← hvx] at HAy ⊢
  rw [← hvy] at HRy
  clear hvy hvx
  simp only [List.drop_succ_cons, List.drop_zero]
  go_wp2_with (at_builtin; refine wpList_append_by rfl _ _ 25 rfl _ _ rfl rfl _ HAy.out ?_; rintro v36 z36 ⟨hr, hgr⟩; (have EB36 := EBy.grown HRy.out (by decide) hgr);  (have hg36 : g ≤ z36.heap.size := Nat.le_trans hgy hgr.size); (have HR36 := Lib.hid hr); (have HB36 := Lib.hid (HBy.out.grown hgr hgy fun k hk => (World.ownsRow.lt HRy.out k hk).1)); clear hr hgr)
  rw [← HG.out]
  have hput : putM (⟨4, f, o, t, i, l, c, s, false, e, ms, x⟩ : Mg) = L35 ++ [0] ++ idsL [i, s] := by rw [HL35.out]; simp [putM, bodyL, idsL, flagL]
  rw [hput]
  exact bodyPost_ret (v := .tuple #[v36, .int .i64 0]) (by simp [results, Try.results11, go_sem]) rfl ⟨_, rfl, HR36.out, HB36.out⟩
set_option maxHeartbeats 1000000 in
theorem refMsgPut_no (m : Mg) (ve vm vg : Value) (us : List EE) (w : World) (hm : MHas w m ve vm vg us) (hf : formedM m = false) :
    Calls Try.prog 11 #[.agg (mgC m ve vm vg)] w fun r w' => r = .returned (.tuple #[.slice none 0 0, .int .i64 1]) ∧ Below w.heap.size w w' := by
  have HForm := Lib.hid (fun (W : World) (hW : Below w.heap.size w W) => refMsgFormed_any _ _ _ _ us W (hm.below (Nat.le_refl _) hW))
  rw [hf] at HForm
  have b1 : Below w.heap.size w (w.alloc (.cells (mgC m ve vm vg) 27)) := (Below.refl _ _).alloc (Nat.le_refl _) _
  have HB1 := Lib.hid b1
  obtain ⟨cs, hcs⟩ : ∃ cs, cs = mgC m ve vm vg := ⟨_, rfl⟩
  have hsz : cs.size = 12 := by rw [hcs]; rfl
  rw [← hcs] at HForm HB1 ⊢
  have HSz := Lib.hid (show (Try.prog.info? 27).map (·.size) = some cs.size by rw [hsz]; kernel_rfl)
  clear hm hf b1 hcs hsz
  go_enter Try.func11, Try.ntmps11
  go_upto_region 1 with fail
  refine world_cut (fun W => Below w.heap.size w W ∧ Blk W w.heap.size 27 cs) ⟨HB1.out, Blk.new w _ _⟩ ?_
  clear HB1
  rintro w1 ⟨hb1, kb1⟩
  have HB1 := Lib.hid hb1
  have KB1 := Lib.hid kb1
  clear hb1 kb1
  go_wp2_with (refine wpList_load_by rfl 27 (.tmp 1) rfl _ _ rfl (KB1.out.loads 27 _ Try.underlying27 rfl HSz.out) ?_)
  refine (HForm.out w1 HB1.out).mono ?_
  rintro r w2 ⟨rfl, hb⟩
  have HB2 := Lib.hid (HB1.out.trans (hb.mono HB1.out.size))
  clear hb HForm
  go_wp2
  exact bodyPost_ret (v := .tuple #[.slice none 0 0, .int .i64 1]) (by simp [results, Try.results11, go_sem]) rfl ⟨rfl, HB2.out⟩

theorem refMsgPut_yes (m : Mg) (ve vm vg : Value) (us : List EE) (w : World) (hm : MHas w m ve vm vg us) (hf : formedM m = true) :
    Calls Try.prog 11 #[.agg (mgC m ve vm vg)] w fun r w' => ∃ v, r = .returned (.tuple #[v, .int .i64 0]) ∧ Row w' w.heap.size v (putM m) ∧ Below w.heap.size w w' := by
  obtain ⟨k, f, o, t, i, l, c, s, y, e, ms, x⟩ := m
  have hk : 1 ≤ k ∧ k ≤ 5 := by
    simp only [formedM, headOk, Bool.and_eq_true, decide_eq_true_eq] at hf
    exact hf.1.1
  rcases MsgMath.kind_cases hk with rfl | rfl | rfl | rfl | rfl
  · exact msgput_1 f o t i l c s y e ms x ve vm vg us w hm hf
  · cases y
    · exact msgput_2false f o t i l c s e ms x ve vm vg us w hm hf
    · exact msgput_2true f o t i l c s e ms x ve vm vg us w hm hf
  · exact msgput_3 f o t i l c s y e ms x ve vm vg us w hm hf
  · cases y
    · exact msgput_4false f o t i l c s e ms x ve vm vg us w hm hf
    · exact msgput_4true f o t i l c s e ms x ve vm vg us w hm hf
  · exact msgput_5 f o t i l c s y e ms x ve vm vg us w hm hf
end Go.Proofs.Ytidapdooiibfnaa

