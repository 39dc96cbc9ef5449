/- Joined: LateTails, NetTake, NetKeepKit. -/
import Derived.Test.YtgbhfolbkgibfaaKAI
import Derived.Test.YtgbhfolbkgibfaaKAJ
import Derived.Test.YtgbhfolbkgibfaaKBF
import Derived.Test.YtgbhfolbkgibfaaKBB
import Derived.Test.YtgbhfolbkgibfaaKBD
import Derived.Test.YtgbhfolbkgibfaaKAT
import Derived.Maps.AppendAt
import Derived.IntWalk
/- A region that draws its order, told by facts; its last operations each wait for all the earlier ones and are walked; they may write slots that earlier ones read. -/
namespace Go.Proofs.Ytgbhfolbkgibfaa
set_option maxRecDepth 20000
open Go.RowKit Reg

section
variable {ops ops0 : Array Oper}

theorem after_get (ha : ∀ i : Nat, (ops0[i]?).map Oper.after = (ops[i]?).map Oper.after) {i : Nat} {o : Oper} (h : ops[i]? = some o) : ∃ o0, ops0[i]? = some o0 ∧ o0.after = o.after := by
  have := ha i
  rw [h] at this
  simp only [Option.map_some] at this
  obtain ⟨o0, h1, h2⟩ := Option.map_eq_some_iff.1 this
  exact ⟨o0, h1, h2⟩
theorem after_get0 (ha : ∀ i : Nat, (ops0[i]?).map Oper.after = (ops[i]?).map Oper.after) {i : Nat} {o : Oper} (h : ops0[i]? = some o) : ∃ o0, ops[i]? = some o0 ∧ o0.after = o.after := after_get (fun i => (ha i).symm) h
theorem ready_after (ha : ∀ i : Nat, (ops0[i]?).map Oper.after = (ops[i]?).map Oper.after) (listed : Array Bool) (h : Region.ready .any ops listed = []) : Region.ready .any ops0 listed = [] := by
  cases hq : Region.ready .any ops0 listed with
  | nil => rfl
  | cons j js =>
    exfalso
    have hj : j ∈ Region.ready .any ops0 listed := by rw [hq]; simp
    obtain ⟨h1, o, ho, h2⟩ := mem_ready.1 hj
    obtain ⟨o', ho', e⟩ := after_get0 ha ho
    have : j ∈ Region.ready .any ops listed := mem_ready.2 ⟨h1, o', ho', by rw [e]; exact h2⟩
    rw [h] at this
    cases this
theorem preds_after (ha : ∀ i : Nat, (ops0[i]?).map Oper.after = (ops[i]?).map Oper.after) {i j : Nat} (h : j ∈ preds ops0 i) {o : Oper} (ho : ops[i]? = some o) : ∃ e ∈ o.after, Region.binds .any e = true ∧ e.on = j := by
  obtain ⟨o0, ho0, e⟩ := after_get ha ho
  have := (mem_preds ho0).1 h
  rwa [e] at this

/-- From operation k on all is forced. -/
theorem any_forced0 {P : Program} {tab : List (List Nat)} {Q : Exit → Act → World → Prop} (n : Nat) (ha : ∀ i : Nat, (ops0[i]?).map Oper.after = (ops[i]?).map Oper.after) (hz : ops0.size = ops.size) (hs : sound ops0 = true) (ht : tableOk ops0 tab = true)
    (htail : ∀ i, n ≤ i → i < ops.size → ∀ j, j < i → j ∈ preds ops0 i ∨ j ∈ tab.getD i []) :
    ∀ (m k : Nat), k + m = ops.size → n ≤ k → ∀ (fuel : Nat) (listed : Array Bool) (a : Act) (W : World), listed.size = ops.size → (∀ j, j < k → listed.getD j false = true) → (∀ j, k ≤ j → listed.getD j false = false) →
      left listed ≤ fuel → wpList P ops Q (ops.toList.drop k) a W → wpAny P .any ops Q fuel listed a W := by
  intro m
  induction m with
  | zero =>
    intro k hk _ fuel listed a W hsz hb _ _ hw
    have hready : Region.ready .any ops listed = [] := by
      cases hq : Region.ready .any ops listed with
      | nil => rfl
      | cons j js =>
        exfalso
        have hj : j ∈ Region.ready .any ops listed := by rw [hq]; simp
        obtain ⟨hju, oj, hoj, _⟩ := mem_ready.1 hj
        have hjl : j < ops.size := (Array.getElem?_eq_some_iff.1 hoj).1
        have h1 := hb j (by omega)
        rw [Array.getD_eq_getD_getElem?, Array.getElem?_eq_getElem (by omega)] at h1 hju
        simp only [Option.getD_some] at h1 hju
        rw [h1] at hju
        cases hju
    rw [List.drop_eq_nil_of_le (by simp; omega)] at hw
    have hq : Q .normal a W := hw
    cases fuel with
    | zero => exact ⟨hready, hq⟩
    | succ f => exact ⟨fun _ => hq, fun j hj => by rw [hready] at hj; cases hj⟩
  | succ m ih =>
    intro k hk hnk fuel listed a W hsz hb hu hf hw
    have hlt : k < ops.size := by omega
    have unl : listed.getD k true = false := by
      have := hu k (Nat.le_refl _)
      rw [Array.getD_eq_getD_getElem?, Array.getElem?_eq_getElem (by omega)] at this ⊢
      exact this
    have hls := left_set unl
    cases fuel with
    | zero => omega
    | succ f =>
      have hok : ops[k]? = some ops[k] := by simp [hlt]
      refine ⟨fun hr => ?_, fun i hi => ?_⟩
      · have := all_listed hs (hsz.trans hz.symm) (ready_after ha _ hr) k (by omega)
        rw [hu k (Nat.le_refl _)] at this
        cases this
      · obtain ⟨hun, o, ho, hpre⟩ := mem_ready.1 hi
        have hil : i < ops.size := (Array.getElem?_eq_some_iff.1 ho).1
        have hun' : listed.getD i false = false := by
          rw [Array.getD_eq_getD_getElem?, Array.getElem?_eq_getElem (by omega)] at hun ⊢
          exact hun
        have hik : i = k := by
          rcases Nat.lt_trichotomy i k with h | h | h
          · rw [hb i h] at hun'; cases hun'
          · exact h
          · exfalso
            have hp : ∀ j ∈ preds ops0 i, listed.getD j false = true := fun j hj => by
              obtain ⟨e, he, hb, rfl⟩ := preds_after ha hj ho
              exact hpre e he hb
            -- every operation below i that i waits for would be listed
            have hdn : ∀ (i' : Nat) (o' : Oper), ops0[i']? = some o' → listed.getD i' false = true → ∀ j ∈ preds ops0 i', listed.getD j false = true := fun i' o' ho' hl j hj => by
              have hi'k : i' < k := by
                rcases Nat.lt_or_ge i' k with h1 | h1
                · exact h1
                · rw [hu i' h1] at hl; cases hl
              obtain ⟨e, he, hbd, rfl⟩ := (mem_preds ho').1 hj
              have := (sound_edge hs ho').1 e he hbd
              exact hb e.on (by omega)
            have h1 : listed.getD k false = true := by
              rcases htail i (by omega) hil k h with h2 | h2
              · exact hp k h2
              · exact table_listed ht hdn i (by omega) hp k h2
            rw [hu k (Nat.le_refl _)] at h1
            cases h1
        subst hik
        rw [List.drop_eq_getElem_cons (by simpa using hlt)] at hw
        unfold wpList at hw
        unfold wpOp
        simp only [hok]
        have next : ∀ a' W', wpList P ops Q (ops.toList.drop (i + 1)) a' W' → wpAny P .any ops Q f (listed.setIfInBounds i true) a' W' := fun a' W' h =>
          ih (i + 1) (by omega) (by omega) f _ a' W' (by simpa using hsz) (fun j hj => by
            by_cases hji : j = i
            · subst hji; exact set_self (by omega)
            · exact set_mem (hb j (by omega))) (fun j hj => by
            have h1 := hu j (by omega)
            rw [Array.getD_eq_getD_getElem?, Array.getElem?_setIfInBounds_ne (by omega), ← Array.getD_eq_getD_getElem?]
            exact h1) (by omega) h
        have e1 : ops.toList[i]'(by simpa using hlt) = ops[i] := by simp
        rw [e1] at hw
        by_cases hwant : Region.wanted ops[i] (yielded ops a.tmps) = true
        · rw [if_pos hwant] at hw ⊢
          rcases hw with hw | hw
          · exact .inl (Oper.wp_mono next hw)
          · exact .inr hw
        · rw [if_neg hwant] at hw ⊢
          exact next _ _ hw

theorem any_of_inv_latetails {P : Program} {tab : List (List Nat)} {fin : List Tmp} {G : World → Prop} {F : Tmp → Value → World → Prop} {a0 : Act} {Q : Exit → Act → World → Prop} (n : Nat)
    (ha : ∀ i : Nat, (ops0[i]?).map Oper.after = (ops[i]?).map Oper.after) (hsz : ops0.size = ops.size) (hsame : ∀ i, i < n → ops0[i]? = ops[i]?) (hnone : ∀ (i : Nat) (o : Oper), ops0[i]? = some o → n ≤ i → o.dst = none)
    (hs : sound ops0 = true) (ht : tableOk ops0 tab = true) (hn : n < ops.size) (htail : ∀ i, n ≤ i → i < ops.size → ∀ j, j < i → j ∈ preds ops0 i ∨ j ∈ tab.getD i [])
    (hd : ∀ (i : Nat) (o : Oper), ops0[i]? = some o → ∀ d, o.dst = some d → d < a0.tmps.size)
    (hops : ∀ (i : Nat) (o : Oper), ops0[i]? = some o → i < n → asked2 P ops0 tab fin G F i o)
    (hend : ∀ a W, G W → a.defers = a0.defers → a.tmps.size = a0.tmps.size → (∀ k, fin.contains k = true → F k (a.tmps.getD k undef) W) → wpList P ops Q (ops.toList.drop n) a W) :
    ∀ (fuel : Nat) (listed : Array Bool) (a : Act) (W : World), left listed ≤ fuel → (∀ j, n ≤ j → listed.getD j false = false) → Inv ops0 fin G F a0 listed a W → wpAny P .any ops Q fuel listed a W := by
  intro fuel
  induction fuel with
  | zero =>
    intro listed a W hf hnl h
    have unl : listed.getD n true = false := by
      have := hnl n (Nat.le_refl _)
      rw [Array.getD_eq_getD_getElem?, Array.getElem?_eq_getElem (by have := h.lsize; omega)] at this ⊢
      exact this
    have := left_set unl
    omega
  | succ fuel ih =>
    intro listed a W hf hnl h
    by_cases hall : ∀ j, j < n → listed.getD j false = true
    · have hfin : ∀ k, fin.contains k = true → F k (a.tmps.getD k undef) W := fun k hk => h.facts k (fun j oj hj hdj => by
        rcases Nat.lt_or_ge j n with h1 | h1
        · exact hall j h1
        · rw [hnone j oj hj h1] at hdj
          cases hdj) (.inl hk)
      exact any_forced0 n ha hsz hs ht htail (ops.size - n) n (by omega) (Nat.le_refl _) _ listed a W (h.lsize.trans hsz) hall hnl hf (hend a W h.grown h.defers h.size hfin)
    · refine ⟨fun hr => ?_, fun i hi => ?_⟩
      · have := all_listed hs h.lsize (ready_after ha _ hr) n (by omega)
        rw [hnl n (Nat.le_refl _)] at this
        cases this
      obtain ⟨hun, o, ho, hpre⟩ := mem_ready.1 hi
      have hil : i < ops.size := (Array.getElem?_eq_some_iff.1 ho).1
      have hun' : listed.getD i false = false := by
        rw [Array.getD_eq_getD_getElem?, Array.getElem?_eq_getElem (by rw [h.lsize]; omega)] at hun ⊢
        exact hun
      have hp : ∀ j ∈ preds ops0 i, listed.getD j false = true := fun j hj => by
        obtain ⟨e, he, hb, rfl⟩ := preds_after ha hj ho
        exact hpre e he hb
      have hin : i < n := by
        rcases Nat.lt_or_ge i n with h1 | h1
        · exact h1
        · exfalso
          refine hall fun j hj => ?_
          rcases htail i h1 hil j (by omega) with h2 | h2
          · exact hp j h2
          · exact table_listed ht h.down i (by omega) hp j h2
      have ho0 : ops0[i]? = some o := by rw [hsame i hin]; exact ho
      have hsd := sound_edge hs ho0
      have hF : ∀ k, (o.looksAt ops0).contains k = true → F k (a.tmps.getD k undef) W := fun k hk => h.facts k (fun j oj hj hdj => by
        obtain ⟨e, he, hb, rfl⟩ := hsd.2 k (by simpa using hk) j oj hj hdj
        exact hpre e he hb) (.inr ⟨i, o, ho0, hk, hun'⟩)
      obtain ⟨hw, hg⟩ := hops i o ho0 hin (fun t => a.tmps.getD t undef) W h.grown hF
      have hw2 : wantedBy ops o (fun t => a.tmps.getD t undef) := by
        unfold wantedBy at hw ⊢
        cases hgo : o.guard with
        | none => trivial
        | some p =>
          obtain ⟨j, want⟩ := p
          simp only [hgo] at hw ⊢
          obtain ⟨d, hd1, hd2⟩ := hw
          refine ⟨d, ?_, hd2⟩
          by_cases hjn : j < n
          · rw [← hsame j hjn]; exact hd1
          · exfalso
            cases hj : ops0[j]? with
            | none => rw [hj] at hd1; cases hd1
            | some oj =>
              rw [hj] at hd1
              simp only [Option.bind_some] at hd1
              rw [hnone j oj hj (by omega)] at hd1
              cases hd1
      unfold wpOp
      simp only [ho, wanted_of hw2, if_true]
      refine .inl (wp_of_gives hg fun v w' ⟨h1, h2, h3⟩ => ih _ _ _ ?_ (fun j hj => ?_) (inv_step2 ht h ho0 hp (hd i o ho0) h1 hun' h2 h3))
      · have unl : listed.getD i true = false := by
          rw [Array.getD_eq_getD_getElem?, Array.getElem?_eq_getElem (by rw [h.lsize]; omega)] at hun' ⊢
          exact hun'
        have := left_set unl
        omega
      · have h4 := hnl j hj
        rw [Array.getD_eq_getD_getElem?, Array.getElem?_setIfInBounds_ne (by omega), ← Array.getD_eq_getD_getElem?]
        exact h4
end

/-- The operations from n on, their slots struck. -/
def struck (ops : Array Oper) (n : Nat) : Array Oper := (ops.toList.take n ++ (ops.toList.drop n).map fun o : Oper => { o with dst := none }).toArray

theorem struck_size (ops : Array Oper) (n : Nat) (h : n ≤ ops.size) : (struck ops n).size = ops.size := by simp [struck]; omega
theorem struck_same (ops : Array Oper) (n i : Nat) (h : i < n) (hn : n ≤ ops.size) : (struck ops n)[i]? = ops[i]? := by
  unfold struck
  rw [List.getElem?_toArray, List.getElem?_append_left (by simp; omega), List.getElem?_take, if_pos h]
  simp
theorem struck_from (ops : Array Oper) (n i : Nat) (h : n ≤ i) (hn : n ≤ ops.size) : (struck ops n)[i]? = (ops[i]?).map fun o : Oper => { o with dst := none } := by
  unfold struck
  rw [List.getElem?_toArray, List.getElem?_append_right (by simp; omega), List.getElem?_map, List.getElem?_drop]
  simp only [List.length_take, Array.length_toList]
  rw [show n + (i - min n ops.size) = i by omega]
  simp

/-- **A REGION BY ITS FACTS, the last operations one behind the other; they may write what earlier ones read.** -/
theorem region_latetails_by {P : Program} {ops : Array Oper} {id : Nat} {a : Act} {w : World} {Q : Exit → Act → World → Prop} (n : Nat) (l : List (Tmp × Fact)) (fin : List Tmp) (G : World → Prop)
    (hm : P.follows .mixedOrders = true) (hs : sound (struck ops n) = true) (ht : tableOk (struck ops n) (table (struck ops n)) = true) (hd : ((struck ops n).all fun o => (o.dst.map fun d => decide (d < a.tmps.size)).getD true) = true)
    (hl : (l.all fun p => (struck ops n).any fun o => o.dst == some p.1) = true) (hn : n < ops.size)
    (hall : ((List.range ops.size).all fun i => decide (i < n) || (List.range i).all fun j => (preds (struck ops n) i).contains j || ((table (struck ops n)).getD i []).contains j) = true) (hG : G w.drew)
    (hops : AskedAll2 P (struck ops n) (table (struck ops n)) fin G (factsOf l a) 0 (ops.toList.take n))
    (hend : ∀ a' W, G W → a'.defers = a.defers → a'.tmps.size = a.tmps.size → (∀ k, fin.contains k = true → (factsOf l a k).holds (a'.tmps.getD k undef) W) → wpList P ops Q (ops.toList.drop n) a' W) : (Code.region id ops true).wp P Q a w := by
  have hsz := struck_size ops n (by omega)
  have hnone : ∀ (i : Nat) (o : Oper), (struck ops n)[i]? = some o → n ≤ i → o.dst = none := fun i o ho hi => by
    rw [struck_from ops n i hi (by omega)] at ho
    obtain ⟨o', _, rfl⟩ := Option.map_eq_some_iff.1 ho
    rfl
  have ha : ∀ i : Nat, ((struck ops n)[i]?).map Oper.after = (ops[i]?).map Oper.after := fun i => by
    by_cases hi : i < n
    · rw [struck_same ops n i hi (by omega)]
    · rw [struck_from ops n i (by omega) (by omega), Option.map_map]
      rfl
  refine wp_region_any hm (any_of_inv_latetails (ops0 := struck ops n) (tab := table (struck ops n)) (fin := fin) (G := G) (F := fun k v W => (factsOf l a k).holds v W) (a0 := a) n ha hsz (fun i hi => struck_same ops n i hi (by omega)) hnone hs ht hn (fun i h1 h2 j hj => ?_) ?_ (fun i o hi hin => ?_) hend _ _ _ _ ?_ ?_ ?_)
  · have h3 := List.all_eq_true.1 hall i (List.mem_range.2 h2)
    rw [Bool.or_eq_true] at h3
    rcases h3 with h3 | h3
    · have := of_decide_eq_true h3
      omega
    · have h4 := List.all_eq_true.1 h3 j (List.mem_range.2 hj)
      rw [Bool.or_eq_true] at h4
      rcases h4 with h4 | h4
      · exact .inl (by simpa using h4)
      · exact .inr (by simpa using h4)
  · intro i o hi d hdst
    have := Array.all_eq_true_iff_forall_mem.1 hd o (Array.mem_of_getElem? hi)
    simpa [hdst] using this
  · have := asked_of_all2 (ops.toList.take n) 0 hops i o (by rw [List.getElem?_take, if_pos hin]; rw [struck_same ops n i hin (by omega)] at hi; simpa using hi)
    rwa [Nat.zero_add] at this
  · unfold Reg.left
    refine Nat.le_trans (List.length_filter_le _ _) (by simp)
  · intro j _
    rw [Array.getD_eq_getD_getElem?]
    simp [Array.getElem?_replicate]
    split <;> simp
  · refine ⟨hG, rfl, rfl, by simp [hsz], fun i o hi hl => ?_, fun k hk _ => ?_⟩
    · rw [Array.getD_eq_getD_getElem?] at hl
      simp [Array.getElem?_replicate] at hl
      split at hl <;> simp at hl
    · cases hkl : l.lookup k with
      | none => simp [factsOf, hkl, Fact.holds]
      | some fk =>
        exfalso
        have hmem : (k, fk) ∈ l := by
          clear hl hops hend
          induction l with
          | nil => simp at hkl
          | cons p l ih =>
            obtain ⟨p1, p2⟩ := p
            rw [List.lookup_cons] at hkl
            by_cases hkp : (k == p1) = true
            · rw [hkp] at hkl
              simp at hkl hkp
              subst hkl hkp
              simp
            · simp only [hkp] at hkl
              exact List.mem_cons_of_mem _ (ih hkl)
        have h := List.all_eq_true.1 hl _ hmem
        obtain ⟨o, ho, hdst⟩ := Array.any_eq_true'.1 h
        obtain ⟨i, hi⟩ := Array.mem_iff_getElem?.1 ho
        have := hk i o hi (by simpa using hdst)
        rw [Array.getD_eq_getD_getElem?] at this
        simp [Array.getElem?_replicate] at this
        split at this <;> simp at this

end Go.Proofs.Ytgbhfolbkgibfaa

/- Layer 19's reference: Take. -/
namespace Go.Proofs.Ytgbhfolbkgibfaa
set_option maxRecDepth 20000
open Go.RowKit Go.Maps BinMath NetMath Reg
open MsgMath (Mg formedM)

/-- A list of messages, wherever it lies. -/
def Mls (w : World) (v : Value) (xs : List MM) : Prop :=
  (v = .slice none 0 0 ∧ xs = []) ∨ ∃ ad cap, v = .slice (some ad) xs.length cap ∧ ∀ j u, (xs.flatMap MM.cells)[j]? = some u → w.cell? (ad.add j) = some u

theorem mms_take (xs : List MM) (i : Nat) : (xs.flatMap MM.cells).take (i * 12) = (xs.take i).flatMap MM.cells := by
  induction xs generalizing i with
  | nil => simp
  | cons u us ih =>
    cases i with
    | zero => simp
    | succ i =>
      rw [List.flatMap_cons, List.take_succ_cons, List.flatMap_cons, ← ih i, show (i + 1) * 12 = u.cells.length + i * 12 by rw [MM.cells_len]; omega, List.take_length_add_append]

theorem mms_one {xs : List MM} {w : World} (h : MMHas w xs) : ∀ v ∈ xs.flatMap MM.cells, v.oneCell' = true := fun v hv => by
  obtain ⟨x, hx, hv⟩ := List.mem_flatMap.1 hv
  exact mm_one (h x hx) v hv

theorem MRow.cells {w : World} {B : Nat} {a : Option Addr} {n c : Nat} {xs : List MM} (h : MRow w B (.slice a n c) xs) (hn : xs.length = n) : (a = none ∧ xs = [] ∧ c = 0) ∨ ∃ g, a = some ⟨g, 0, none⟩ ∧ n ≤ c ∧ ∀ j u, (xs.flatMap MM.cells)[j]? = some u → w.cell? ⟨g, j, none⟩ = some u := by
  subst hn
  have h0 := h
  rcases h.2 with ⟨hv, hn0⟩ | ⟨g, cap, cur, hv, hbg, hg, hnc, hcm, hcs, htake⟩
  · simp only [Value.slice.injEq] at hv
    exact .inl ⟨hv.1, List.eq_nil_of_length_eq_zero hn0, hv.2.2⟩
  · simp only [Value.slice.injEq] at hv
    obtain ⟨rfl, -, rfl⟩ := hv
    refine .inr ⟨g, rfl, hnc, fun j u hj => ?_⟩
    have h1 := World.ownsRow.cells (g := g) h0 rfl j u hj
    rwa [addr_add, Nat.zero_add] at h1

/-- Its first i. -/
theorem MRow.first {w : World} {B : Nat} {a : Option Addr} {n c : Nat} {xs : List MM} (h : MRow w B (.slice a n c) xs) (hn : xs.length = n) (i : Nat) (hi : i ≤ n) : Mls w (.slice a i c) (xs.take i) := by
  rcases h.cells hn with ⟨rfl, rfl, rfl⟩ | ⟨g, rfl, -, hc⟩
  · have : i = 0 := by simp at hn; omega
    subst this
    exact .inl ⟨rfl, rfl⟩
  · refine .inr ⟨⟨g, 0, none⟩, c, by rw [List.length_take, Nat.min_eq_left (by omega)], fun j u hj => ?_⟩
    rw [addr_add, Nat.zero_add]
    rw [← mms_take, List.getElem?_take] at hj
    split at hj
    · exact hc j u hj
    · cases hj
/-- Those from i on. -/
theorem MRow.from_ {w : World} {B : Nat} {a : Option Addr} {n c : Nat} {xs : List MM} (h : MRow w B (.slice a n c) xs) (hn : xs.length = n) (i : Nat) (hi : i ≤ n) : Mls w (sliced a i n c 12) (xs.drop i) := by
  rcases h.cells hn with ⟨rfl, rfl, rfl⟩ | ⟨g, rfl, hnc, hc⟩
  · have : i = 0 := by simp at hn; omega
    subst this
    have : n = 0 := by simpa using hn.symm
    subst this
    exact .inl ⟨by simp [sliced], rfl⟩
  · unfold sliced
    by_cases hci : c = i
    · rw [if_pos hci]
      refine .inr ⟨⟨g, 0, none⟩, c - i, by rw [List.length_drop, hn], fun j u hj => ?_⟩
      rw [List.drop_of_length_le (by omega)] at hj
      simp at hj
    · rw [if_neg hci]
      refine .inr ⟨⟨g, i * 12, none⟩, c - i, by rw [List.length_drop, hn]; simp [addr_add], fun j u hj => ?_⟩
      rw [addr_add]
      rw [← mms_drop, List.getElem?_drop] at hj
      exact hc _ u hj

theorem slice_ml_to (a : Option Addr) (n c k : Nat) (hk : k ≤ c) (W : World) : (Instr.sliceAt 27 (.slice a n c) none (some (.int .i64 (k : Int))) none).run Try.prog W = .ok (.slice a k c) W := by
  have hs : (Go.sizeOf 36).run Try.prog W = .ok 12 W := by kernel_rfl
  have ht : Try.prog.underlying 27 = some (.slice (Try.prog.elem 27)) := by rw [elem_msgs]; exact Try.underlying27
  rw [run_sliceAt_slice _ _ _ _ _ _ ht, run_slice_h _ _ _ _ _ ht .i64 (k : Int) (by omega) (by omega), elem_msgs, hs]
  cases a with
  | none => simp [Result.andThen, sliced]
  | some ad => simp [Result.andThen, sliced, Addr.add]
theorem slice_ml_from (a : Option Addr) (n c k : Nat) (hk : k ≤ n) (W : World) : (Instr.sliceAt 27 (.slice a n c) (some (.int .i64 (k : Int))) none none).run Try.prog W = .ok (sliced a k n c 12) W := by
  have hs : (Go.sizeOf 36).run Try.prog W = .ok 12 W := by kernel_rfl
  have ht : Try.prog.underlying 27 = some (.slice (Try.prog.elem 27)) := by rw [elem_msgs]; exact Try.underlying27
  rw [run_sliceAt_slice _ _ _ _ _ _ ht, run_slice_l _ _ _ _ _ ht .i64 (k : Int) (by omega) (by omega), elem_msgs, hs]
  rfl

/-- append(v, y...), v the call's own. -/
theorem append_mms {w : World} {B : Nat} {v y : Value} {xs ys : List MM} (hB : B ≤ w.heap.size) (h : MRow w B v xs) (hy : Mls w y ys) (hone : ∀ u ∈ ys.flatMap MM.cells, u.oneCell' = true) (hl : xs.length + ys.length ≤ 1000) :
    ∃ v' w', (Builtin.append_ #[27, 27] 27 #[v, y]).run Try.prog w = .ok v' w' ∧ MRow w' B v' (xs ++ ys) ∧ w.grownBy w' v.ownBlock := by
  obtain ⟨i0, hi, hz0, hz1, hz2⟩ := info_parts info_msg12
  rcases hy with ⟨rfl, rfl⟩ | ⟨ad, cap, rfl, hc⟩
  · refine ⟨v, w, run_append_owned_none (P := Try.prog) (w := w) B _ _ _ i0 12 Try.underlying27 hi v xs.length (xs.flatMap MM.cells) h, by rw [List.append_nil]; exact h, ⟨rfl, rfl, rfl, Nat.le_refl _, fun _ _ _ => rfl⟩⟩
  · obtain ⟨v', w', hr, h1, h2, -⟩ := run_append_own (P := Try.prog) w B 27 27 36 i0 (.agg zeroM) 12 144 Try.underlying27 hi hz0 hz1 hz2 rfl (by decide) v xs.length (xs.flatMap MM.cells) h ad ys.length cap (ys.flatMap MM.cells) (mms_len ys) hc hone (by unfold maxLen; omega) (by omega) hB
    refine ⟨v', w', hr, ?_, h2⟩
    unfold MRow
    rw [List.length_append, List.flatMap_append]
    exact h1

section
variable {ops : Array Oper} {tab : List (List Nat)} {fin : List Tmp} {G : World → Prop} {f : Tmp → Fact} {i : Nat} {o : Oper}
theorem ask_build_ml (hG : ∀ W W', G W → Below W.heap.size W W' → G W') (hg : guardOk ops f o) (B : Nat) (hB : ∀ W, G W → B ≤ W.heap.size) (ho : o.op = .buildSlice 27 0 #[]) (hd : ∀ k, o.dst = some k → f k = newF B []) : Asked Try.prog ops tab fin G f i o := by
  refine ask_grow hG hg fun x W hW hk => ?_
  have hr : (Instr.buildSlice 27 0 #[]).run Try.prog W = .ok (.slice (some ⟨W.heap.size, 0, none⟩) 0 0) (W.alloc (.cells #[] 36)) := by
    simp [Instr.buildSlice, run_underlying Try.underlying27, Result.andThen, Instr.fill, newRow, Array.range_zero']
  refine gives_value (v := .slice (some ⟨W.heap.size, 0, none⟩) 0 0) (w' := W.alloc (.cells #[] 36)) ?_ ⟨(Below.refl _ _).alloc (Nat.le_refl _) _, fun k hk => by rw [hd k hk]; exact ⟨rfl, .inr ⟨W.heap.size, 0, #[], rfl, hB W hW, heap_alloc_new W _, Nat.le_refl _, by decide, rfl, rfl⟩⟩⟩
  simp [execOp, ho, hr, Result.andThen]

theorem ask_append_mms (hg : guardOk ops f o) (hst : stillBut2 ops tab fin f i o = true) (s t : Operand) (B : Nat) (xs ys : List MM) (y : Value) (hty : o.type = 27)
    (ho : o.op = .call { callee := .builtin .append, args := #[s, t], argTypes := #[27, 27] }) (hs : opFact f s = newF B xs) (ht : opFact f t = .is y) (hy : ∀ W, G W → Mls W y ys) (hone : ∀ u ∈ ys.flatMap MM.cells, u.oneCell' = true) (hl : xs.length + ys.length ≤ 1000)
    (hBG : ∀ W, G W → B ≤ W.heap.size) (hGg : ∀ W W' row, G W → W.grownBy W' row → (∀ k, row = some k → B ≤ k) → G W') (hd : ∀ k, o.dst = some k → f k = newF B (xs ++ ys)) : Asked2 Try.prog ops tab fin G f i o := by
  refine ask_write2 hg hst fun x W hW hk => ?_
  have h1 := told_op hk s (by rw [ho]; simp [Op.operands, Call.operands])
  rw [hs] at h1
  have h1 : MRow W B (evalBy x s) xs := h1
  have e2 := evalBy_opVal hk t (by rw [ho]; simp [Op.operands, Call.operands]) ht
  obtain ⟨v', w', hr, h2, h3⟩ := append_mms (hBG W hW) h1 (hy W hW) hone hl
  refine gives_value (v := v') (w' := w') ?_ ⟨hGg W w' _ hW h3 (fun k hk => (World.ownsRow.lt h1 k hk).1), fun k hk => by rw [hd k hk]; exact h2⟩
  simp [execOp, ho, resolve, invoke, builtin, hty, e2, hr, Result.andThen]
end

end Go.Proofs.Ytgbhfolbkgibfaa

/- Layer 19's law: a net, and beside it a list of what was sent. -/
namespace Go.Proofs.Ytgbhfolbkgibfaa
set_option maxRecDepth 20000
open Go.RowKit Go.Maps BinMath NetMath Reg
open MsgMath (Mg formedM)

/-- append(v, x), and where it lies. -/
theorem append_mm_at {w : World} {B : Nat} {v : Value} {xs : List MM} (hB : B ≤ w.heap.size) (h : MRow w B v xs) (hl : xs.length ≤ 1000) (x : MM) (hh : x.Has w) (g : Nat) (hg : Blk w g 36 (mgC x.m x.ve x.vm x.vg)) :
    ∃ v' w', (Builtin.append_ #[27, 27] 27 #[v, .slice (some ⟨g, 0, none⟩) 1 1]).run Try.prog w = .ok v' w' ∧ (MRow w' B v' (xs ++ [x]) ∧ w.grownBy w' v.ownBlock ∧ ∀ k, v'.ownBlock = some k → v.ownBlock = some k ∨ w.heap.size ≤ k) := by
  obtain ⟨i0, hi, hz0, hz1, hz2⟩ := info_parts info_msg12
  obtain ⟨v', w', hr, h1, h2, -, h4⟩ := run_append_own_at (P := Try.prog) w B 27 27 36 i0 (.agg zeroM) 12 144 Try.underlying27 hi hz0 hz1 hz2 rfl (by decide) v xs.length (xs.flatMap MM.cells) h ⟨g, 0, none⟩ 1 1 x.cells rfl
    (fun j u hj => by rw [addr_add, Nat.zero_add, hg.cell]; simpa [MM.cells] using hj) (mm_one hh) (by unfold maxLen; omega) (by omega) hB
  refine ⟨v', w', hr, ?_, h2, fun k hk => ?_⟩
  · unfold MRow
    rw [List.length_append, List.flatMap_append]
    simpa using h1
  · rcases h4 with h4 | h4
    · exact .inl (h4 ▸ hk)
    · rw [h4] at hk
      simp at hk
      exact .inr (by omega)

/-- A place, made of any number. -/
theorem any_place (x : Int) (L : Nat) (h0 : 0 < L) (hL : L ≤ 34374418432) : ∃ m : Nat, wrap64 ((IntKind.u64.wrap x).tmod (L : Int)) = (m : Int) ∧ m < L := by
  rw [IntKind.wrap_u64]
  have h0 : 0 ≤ x % 18446744073709551616 := Int.emod_nonneg _ (by decide)
  rw [Int.tmod_eq_emod_of_nonneg h0]
  have h1 : 0 ≤ (x % 18446744073709551616) % (L : Int) := Int.emod_nonneg _ (by omega)
  have h2 : (x % 18446744073709551616) % (L : Int) < (L : Int) := Int.emod_lt_of_pos _ (by omega)
  refine ⟨((x % 18446744073709551616) % (L : Int)).toNat, ?_, by omega⟩
  rw [IntWalk.wrap64_in _ ⟨by omega, by omega⟩, Int.toNat_of_nonneg h1]

/-- The net at P has the messages ms; the list v has those of ys. -/
structure KNet (hp : NetProg) (Z : Nat) (w W : World) (P : Nat) (U : Nat → Prop) (L : List MM) (ms : List Mg) (v : Value) (ys : List MM) : Prop where
  is_ : hp.Is W P ⟨ms, []⟩ U
  uz : ∀ k, U k → Z ≤ k
  row : MRow W Z v ys
  apart : ∀ k, v.ownBlock = some k → ¬ U k
  sub : ∀ y ∈ ys, y ∈ L
  zl : Z ≤ W.heap.size
  wz : w.heap.size ≤ Z
  bel : Below w.heap.size w W

theorem KNet.below {hp : NetProg} {Z : Nat} {w W W' : World} {P : Nat} {U : Nat → Prop} {L : List MM} {ms : List Mg} {v : Value} {ys : List MM} (h : KNet hp Z w W P U L ms v ys) (hb : Below W.heap.size W W') : KNet hp Z w W' P U L ms v ys :=
  ⟨hp.keep h.is_ (OnlyS.of_below (S := fun _ => False) hb fun _ hk _ => hk) fun _ _ e => e.elim, h.uz, ownsRow_keep h.row hb, h.apart, h.sub, Nat.le_trans h.zl hb.size, h.wz, h.bel.trans (hb.mono h.bel.size)⟩
/-- The net has moved on. -/
theorem KNet.net {hp : NetProg} {Z : Nat} {w W W' : World} {P : Nat} {U : Nat → Prop} {L : List MM} {ms ms' : List Mg} {v : Value} {ys : List MM} {p : Ending → World → Prop} {e : Ending} {n : Nt} (h : KNet hp Z w W P U L ms v ys) (hn : NetEnd hp.Is P U n W p e W') (he : n = ⟨ms', []⟩) : p e W' ∧ ∃ U', KNet hp Z w W' P U' L ms' v ys := by
  subst he
  obtain ⟨h1, ho, U', h2, h3⟩ := hn
  refine ⟨h1, U', h2, fun k hk => (h3 k hk).elim (h.uz k) (Nat.le_trans h.zl), ownsRow_to h.row fun k e => ho.block k (World.ownsRow.lt h.row k e).2 (h.apart k e), fun k e e2 => (h3 k e2).elim (h.apart k e) fun e3 => ?_, h.sub, Nat.le_trans h.zl ho.size, h.wz,
    h.bel.trans (ho.below (fun k hk e => ?_) h.bel.size)⟩
  · have := (World.ownsRow.lt h.row k e).2
    omega
  · have := h.uz k e
    have := h.wz
    omega
/-- The list is another one. -/
theorem KNet.list {hp : NetProg} {Z : Nat} {w W W' : World} {P : Nat} {U : Nat → Prop} {L : List MM} {ms : List Mg} {v v' : Value} {ys ys' : List MM} (h : KNet hp Z w W P U L ms v ys) (hg : W.grownBy W' v.ownBlock) (hr : MRow W' Z v' ys') (hn : ∀ k, v'.ownBlock = some k → v.ownBlock = some k ∨ W.heap.size ≤ k) (hs : ∀ y ∈ ys', y ∈ L) : KNet hp Z w W' P U L ms v' ys' := by
  have ho : OnlyS (fun k => v.ownBlock = some k) W W' := ⟨hg.os, hg.tape, hg.output, hg.size, fun k hk hne => hg.block k hk fun e => hne e.symm⟩
  refine ⟨hp.keep h.is_ ho fun k _ e => h.apart k e, h.uz, hr, fun k e e2 => (hn k e).elim (fun e3 => h.apart k e3 e2) fun e3 => ?_, hs, Nat.le_trans h.zl hg.size, h.wz, h.bel.trans (ho.below (fun k hk e => ?_) h.bel.size)⟩
  · have := hp.lt h.is_ k e2
    omega
  · have := (World.ownsRow.lt h.row k e).1
    have := h.wz
    omega
theorem KNet.has {hp : NetProg} {Z : Nat} {w W : World} {P : Nat} {U : Nat → Prop} {L : List MM} {ms : List Mg} {v : Value} {ys : List MM} (h : KNet hp Z w W P U L ms v ys) (hm : MMHas w L) : MMHas W ys := fun y hy => (hm.below (Nat.le_refl _) h.bel) y (h.sub y hy)

/-- What Send answers on a net on which nothing is blocked. -/
theorem send_free (ms : List Mg) (m : Mg) : ((⟨ms, []⟩ : Nt).send m).1 = 0 ∧ ((⟨ms, []⟩ : Nt).send m).2 = ⟨ms ++ [m], []⟩ ∨ ((⟨ms, []⟩ : Nt).send m).1 ≠ 0 ∧ ((⟨ms, []⟩ : Nt).send m).2 = ⟨ms, []⟩ := by
  unfold Nt.send
  split
  · exact .inr ⟨by simp, rfl⟩
  · split
    · exact .inr ⟨by simp, rfl⟩
    · split
      · exact .inr ⟨by simp, rfl⟩
      · exact .inl ⟨rfl, rfl⟩

theorem wpList_build_mm {w : World} {ops : Array Oper} {rest : List Oper} {o : Oper} {a : Act} {Q : Exit → Act → World → Prop} (hgd : o.guard = none) (s : Operand) (ho : o.op = .buildSlice 27 1 #[(0, s)]) (cs : Array Value) (hx : a.eval s = .agg cs) (hc : cs.size = 12)
    (h : wpList Try.prog ops Q rest (a.put o.dst (.slice (some ⟨w.heap.size, 0, none⟩) 1 1)) (w.alloc (.cells cs 36))) : wpList Try.prog ops Q (o :: rest) a w := by
  refine wpList_plain hgd fun K hK => ?_
  unfold Oper.wp execOp
  simp only [ho, Sem.run_bind, List.map_toArray, List.map_cons, List.map_nil, hx, run_build_mm w cs hc, Result.andThen_ok]
  exact hK _ _ h

theorem at_list {ys : List MM} {k : Nat} {y : MM} (h : ys[k]? = some y) : (⟨ys.map MM.m, []⟩ : Nt).at_ (k : Int) = (y.m, 0) ∧ (⟨ys.map MM.m, []⟩ : Nt).take (k : Int) = ⟨(ys.take k ++ ys.drop (k + 1)).map MM.m, []⟩ := by
  obtain ⟨h1, h2⟩ := List.getElem?_eq_some_iff.1 h
  constructor
  · unfold Nt.at_
    rw [dif_pos ⟨by omega, by simpa using h1⟩]
    simp [h2]
  · unfold Nt.take
    rw [if_pos ⟨by omega, by simpa using h1⟩]
    simp only [Int.toNat_natCast]
    rw [List.eraseIdx_eq_take_drop_succ, List.map_append, List.map_take, List.map_drop]

/-- The list is made anew. -/
theorem KNet.fresh {hp : NetProg} {Z : Nat} {w W W' : World} {P : Nat} {U : Nat → Prop} {L : List MM} {ms : List Mg} {v v' : Value} {ys ys' : List MM} (h : KNet hp Z w W P U L ms v ys) (hb : Below W.heap.size W W') (hr : MRow W' W.heap.size v' ys') (hs : ∀ y ∈ ys', y ∈ L) : KNet hp Z w W' P U L ms v' ys' := by
  have h2 := h.below hb
  refine ⟨h2.is_, h.uz, ?_, fun k e e2 => ?_, hs, h2.zl, h.wz, h2.bel⟩
  · obtain ⟨r1, r2⟩ := hr
    exact ⟨r1, r2.elim .inl fun ⟨g, cap, cur, hv, hB, r⟩ => .inr ⟨g, cap, cur, hv, Nat.le_trans h.zl hB, r⟩⟩
  · have := (World.ownsRow.lt hr k e).1
    have := hp.lt h.is_ k e2
    omega

theorem ix_mm (W : World) (g n c i : Nat) (hi : i < n) : (Instr.indexAt 27 (.slice (some ⟨g, 0, none⟩) n c) (.int .i64 (i : Int))).run Try.prog W = .ok (.pointer (some ⟨g, i * 12, none⟩)) W := by
  have hs : (Go.sizeOf 36).run Try.prog W = .ok 12 W := by kernel_rfl
  have e : Try.prog.elem 27 = 36 := by kernel_rfl
  have ht : Try.prog.underlying 27 = some (.slice (Try.prog.elem 27)) := by rw [e]; exact Try.underlying27
  rw [run_indexAt_slice (h := ht), if_pos (by omega), e, hs]
  simp [Result.andThen, addr_add]

theorem add_i64g (s t : Operand) (i : Nat) (h : i < 1000000) (W : World) : (do eqGuard .add 3 s t (.int .i64 (i : Int)) (.int .i64 1); binOp .add 3 (.int .i64 (i : Int)) (.int .i64 1) : Sem Value).run Try.prog W = .ok (.int .i64 ((i + 1 : Nat) : Int)) W := by
  have e : IntKind.i64.wrap ((i : Int) + 1) = ((i + 1 : Nat) : Int) := by rw [IntKind.wrap_i64]; omega
  simp [eqGuard, go_sem, e]

/-- How long a slice is. -/
def slLen : Value → Nat
  | .slice _ n _ => n
  | _ => 0
end Go.Proofs.Ytgbhfolbkgibfaa

