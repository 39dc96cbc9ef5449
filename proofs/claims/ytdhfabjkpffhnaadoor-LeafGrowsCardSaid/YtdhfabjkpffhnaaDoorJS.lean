/- Joined: LateTails, LeafRefPush, LeafPushes, LeafTup. -/
import Derived.Test.YtdhfabjkpffhnaaDoorKL
import Derived.Test.YtdhfabjkpffhnaaDoorKN
import Derived.Test.YtdhfabjkpffhnaaDoorLeafAskJ
import Derived.Test.YtdhfabjkpffhnaaDoorJP
import Derived.Test.YtdhfabjkpffhnaaDoorLeafConvJ
import Derived.Test.YtdhfabjkpffhnaaDoorKF
/- A region that draws its order, told by facts; its last operations each wait for all the earlier ones and are walked; they may write slots that earlier ones read. -/
namespace Go.Proofs.YtdhfabjkpffhnaaDoor
set_option maxRecDepth 20000
open Go.RowKit Reg

section
variable {ops ops0 : Array Oper}

theorem after_get (ha : ∀ i : Nat, (ops0[i]?).map Oper.after = (ops[i]?).map Oper.after) {i : Nat} {o : Oper} (h : ops[i]? = some o) : ∃ o0, ops0[i]? = some o0 ∧ o0.after = o.after := by
  have := ha i
  rw [h] at this
  simp only [Option.map_some] at this
  obtain ⟨o0, h1, h2⟩ := Option.map_eq_some_iff.1 this
  exact ⟨o0, h1, h2⟩
theorem after_get0 (ha : ∀ i : Nat, (ops0[i]?).map Oper.after = (ops[i]?).map Oper.after) {i : Nat} {o : Oper} (h : ops0[i]? = some o) : ∃ o0, ops[i]? = some o0 ∧ o0.after = o.after := after_get (fun i => (ha i).symm) h
theorem ready_after (ha : ∀ i : Nat, (ops0[i]?).map Oper.after = (ops[i]?).map Oper.after) (listed : Array Bool) (h : Region.ready .any ops listed = []) : Region.ready .any ops0 listed = [] := by
  cases hq : Region.ready .any ops0 listed with
  | nil => rfl
  | cons j js =>
    exfalso
    have hj : j ∈ Region.ready .any ops0 listed := by rw [hq]; simp
    obtain ⟨h1, o, ho, h2⟩ := mem_ready.1 hj
    obtain ⟨o', ho', e⟩ := after_get0 ha ho
    have : j ∈ Region.ready .any ops listed := mem_ready.2 ⟨h1, o', ho', by rw [e]; exact h2⟩
    rw [h] at this
    cases this
theorem preds_after (ha : ∀ i : Nat, (ops0[i]?).map Oper.after = (ops[i]?).map Oper.after) {i j : Nat} (h : j ∈ preds ops0 i) {o : Oper} (ho : ops[i]? = some o) : ∃ e ∈ o.after, Region.binds .any e = true ∧ e.on = j := by
  obtain ⟨o0, ho0, e⟩ := after_get ha ho
  have := (mem_preds ho0).1 h
  rwa [e] at this

/-- From operation k on all is forced. -/
theorem any_forced0 {P : Program} {tab : List (List Nat)} {Q : Exit → Act → World → Prop} (n : Nat) (ha : ∀ i : Nat, (ops0[i]?).map Oper.after = (ops[i]?).map Oper.after) (hz : ops0.size = ops.size) (hs : sound ops0 = true) (ht : tableOk ops0 tab = true)
    (htail : ∀ i, n ≤ i → i < ops.size → ∀ j, j < i → j ∈ preds ops0 i ∨ j ∈ tab.getD i []) :
    ∀ (m k : Nat), k + m = ops.size → n ≤ k → ∀ (fuel : Nat) (listed : Array Bool) (a : Act) (W : World), listed.size = ops.size → (∀ j, j < k → listed.getD j false = true) → (∀ j, k ≤ j → listed.getD j false = false) →
      left listed ≤ fuel → wpList P ops Q (ops.toList.drop k) a W → wpAny P .any ops Q fuel listed a W := by
  intro m
  induction m with
  | zero =>
    intro k hk _ fuel listed a W hsz hb _ _ hw
    have hready : Region.ready .any ops listed = [] := by
      cases hq : Region.ready .any ops listed with
      | nil => rfl
      | cons j js =>
        exfalso
        have hj : j ∈ Region.ready .any ops listed := by rw [hq]; simp
        obtain ⟨hju, oj, hoj, _⟩ := mem_ready.1 hj
        have hjl : j < ops.size := (Array.getElem?_eq_some_iff.1 hoj).1
        have h1 := hb j (by omega)
        rw [Array.getD_eq_getD_getElem?, Array.getElem?_eq_getElem (by omega)] at h1 hju
        simp only [Option.getD_some] at h1 hju
        rw [h1] at hju
        cases hju
    rw [List.drop_eq_nil_of_le (by simp; omega)] at hw
    have hq : Q .normal a W := hw
    cases fuel with
    | zero => exact ⟨hready, hq⟩
    | succ f => exact ⟨fun _ => hq, fun j hj => by rw [hready] at hj; cases hj⟩
  | succ m ih =>
    intro k hk hnk fuel listed a W hsz hb hu hf hw
    have hlt : k < ops.size := by omega
    have unl : listed.getD k true = false := by
      have := hu k (Nat.le_refl _)
      rw [Array.getD_eq_getD_getElem?, Array.getElem?_eq_getElem (by omega)] at this ⊢
      exact this
    have hls := left_set unl
    cases fuel with
    | zero => omega
    | succ f =>
      have hok : ops[k]? = some ops[k] := by simp [hlt]
      refine ⟨fun hr => ?_, fun i hi => ?_⟩
      · have := all_listed hs (hsz.trans hz.symm) (ready_after ha _ hr) k (by omega)
        rw [hu k (Nat.le_refl _)] at this
        cases this
      · obtain ⟨hun, o, ho, hpre⟩ := mem_ready.1 hi
        have hil : i < ops.size := (Array.getElem?_eq_some_iff.1 ho).1
        have hun' : listed.getD i false = false := by
          rw [Array.getD_eq_getD_getElem?, Array.getElem?_eq_getElem (by omega)] at hun ⊢
          exact hun
        have hik : i = k := by
          rcases Nat.lt_trichotomy i k with h | h | h
          · rw [hb i h] at hun'; cases hun'
          · exact h
          · exfalso
            have hp : ∀ j ∈ preds ops0 i, listed.getD j false = true := fun j hj => by
              obtain ⟨e, he, hb, rfl⟩ := preds_after ha hj ho
              exact hpre e he hb
            -- every operation below i that i waits for would be listed
            have hdn : ∀ (i' : Nat) (o' : Oper), ops0[i']? = some o' → listed.getD i' false = true → ∀ j ∈ preds ops0 i', listed.getD j false = true := fun i' o' ho' hl j hj => by
              have hi'k : i' < k := by
                rcases Nat.lt_or_ge i' k with h1 | h1
                · exact h1
                · rw [hu i' h1] at hl; cases hl
              obtain ⟨e, he, hbd, rfl⟩ := (mem_preds ho').1 hj
              have := (sound_edge hs ho').1 e he hbd
              exact hb e.on (by omega)
            have h1 : listed.getD k false = true := by
              rcases htail i (by omega) hil k h with h2 | h2
              · exact hp k h2
              · exact table_listed ht hdn i (by omega) hp k h2
            rw [hu k (Nat.le_refl _)] at h1
            cases h1
        subst hik
        rw [List.drop_eq_getElem_cons (by simpa using hlt)] at hw
        unfold wpList at hw
        unfold wpOp
        simp only [hok]
        have next : ∀ a' W', wpList P ops Q (ops.toList.drop (i + 1)) a' W' → wpAny P .any ops Q f (listed.setIfInBounds i true) a' W' := fun a' W' h =>
          ih (i + 1) (by omega) (by omega) f _ a' W' (by simpa using hsz) (fun j hj => by
            by_cases hji : j = i
            · subst hji; exact set_self (by omega)
            · exact set_mem (hb j (by omega))) (fun j hj => by
            have h1 := hu j (by omega)
            rw [Array.getD_eq_getD_getElem?, Array.getElem?_setIfInBounds_ne (by omega), ← Array.getD_eq_getD_getElem?]
            exact h1) (by omega) h
        have e1 : ops.toList[i]'(by simpa using hlt) = ops[i] := by simp
        rw [e1] at hw
        by_cases hwant : Region.wanted ops[i] (yielded ops a.tmps) = true
        · rw [if_pos hwant] at hw ⊢
          rcases hw with hw | hw
          · exact .inl (Oper.wp_mono next hw)
          · exact .inr hw
        · rw [if_neg hwant] at hw ⊢
          exact next _ _ hw

theorem any_of_inv_latetails {P : Program} {tab : List (List Nat)} {fin : List Tmp} {G : World → Prop} {F : Tmp → Value → World → Prop} {a0 : Act} {Q : Exit → Act → World → Prop} (n : Nat)
    (ha : ∀ i : Nat, (ops0[i]?).map Oper.after = (ops[i]?).map Oper.after) (hsz : ops0.size = ops.size) (hsame : ∀ i, i < n → ops0[i]? = ops[i]?) (hnone : ∀ (i : Nat) (o : Oper), ops0[i]? = some o → n ≤ i → o.dst = none)
    (hs : sound ops0 = true) (ht : tableOk ops0 tab = true) (hn : n < ops.size) (htail : ∀ i, n ≤ i → i < ops.size → ∀ j, j < i → j ∈ preds ops0 i ∨ j ∈ tab.getD i [])
    (hd : ∀ (i : Nat) (o : Oper), ops0[i]? = some o → ∀ d, o.dst = some d → d < a0.tmps.size)
    (hops : ∀ (i : Nat) (o : Oper), ops0[i]? = some o → i < n → asked2 P ops0 tab fin G F i o)
    (hend : ∀ a W, G W → a.defers = a0.defers → a.tmps.size = a0.tmps.size → (∀ k, fin.contains k = true → F k (a.tmps.getD k undef) W) → wpList P ops Q (ops.toList.drop n) a W) :
    ∀ (fuel : Nat) (listed : Array Bool) (a : Act) (W : World), left listed ≤ fuel → (∀ j, n ≤ j → listed.getD j false = false) → Inv ops0 fin G F a0 listed a W → wpAny P .any ops Q fuel listed a W := by
  intro fuel
  induction fuel with
  | zero =>
    intro listed a W hf hnl h
    have unl : listed.getD n true = false := by
      have := hnl n (Nat.le_refl _)
      rw [Array.getD_eq_getD_getElem?, Array.getElem?_eq_getElem (by have := h.lsize; omega)] at this ⊢
      exact this
    have := left_set unl
    omega
  | succ fuel ih =>
    intro listed a W hf hnl h
    by_cases hall : ∀ j, j < n → listed.getD j false = true
    · have hfin : ∀ k, fin.contains k = true → F k (a.tmps.getD k undef) W := fun k hk => h.facts k (fun j oj hj hdj => by
        rcases Nat.lt_or_ge j n with h1 | h1
        · exact hall j h1
        · rw [hnone j oj hj h1] at hdj
          cases hdj) (.inl hk)
      exact any_forced0 n ha hsz hs ht htail (ops.size - n) n (by omega) (Nat.le_refl _) _ listed a W (h.lsize.trans hsz) hall hnl hf (hend a W h.grown h.defers h.size hfin)
    · refine ⟨fun hr => ?_, fun i hi => ?_⟩
      · have := all_listed hs h.lsize (ready_after ha _ hr) n (by omega)
        rw [hnl n (Nat.le_refl _)] at this
        cases this
      obtain ⟨hun, o, ho, hpre⟩ := mem_ready.1 hi
      have hil : i < ops.size := (Array.getElem?_eq_some_iff.1 ho).1
      have hun' : listed.getD i false = false := by
        rw [Array.getD_eq_getD_getElem?, Array.getElem?_eq_getElem (by rw [h.lsize]; omega)] at hun ⊢
        exact hun
      have hp : ∀ j ∈ preds ops0 i, listed.getD j false = true := fun j hj => by
        obtain ⟨e, he, hb, rfl⟩ := preds_after ha hj ho
        exact hpre e he hb
      have hin : i < n := by
        rcases Nat.lt_or_ge i n with h1 | h1
        · exact h1
        · exfalso
          refine hall fun j hj => ?_
          rcases htail i h1 hil j (by omega) with h2 | h2
          · exact hp j h2
          · exact table_listed ht h.down i (by omega) hp j h2
      have ho0 : ops0[i]? = some o := by rw [hsame i hin]; exact ho
      have hsd := sound_edge hs ho0
      have hF : ∀ k, (o.looksAt ops0).contains k = true → F k (a.tmps.getD k undef) W := fun k hk => h.facts k (fun j oj hj hdj => by
        obtain ⟨e, he, hb, rfl⟩ := hsd.2 k (by simpa using hk) j oj hj hdj
        exact hpre e he hb) (.inr ⟨i, o, ho0, hk, hun'⟩)
      obtain ⟨hw, hg⟩ := hops i o ho0 hin (fun t => a.tmps.getD t undef) W h.grown hF
      have hw2 : wantedBy ops o (fun t => a.tmps.getD t undef) := by
        unfold wantedBy at hw ⊢
        cases hgo : o.guard with
        | none => trivial
        | some p =>
          obtain ⟨j, want⟩ := p
          simp only [hgo] at hw ⊢
          obtain ⟨d, hd1, hd2⟩ := hw
          refine ⟨d, ?_, hd2⟩
          by_cases hjn : j < n
          · rw [← hsame j hjn]; exact hd1
          · exfalso
            cases hj : ops0[j]? with
            | none => rw [hj] at hd1; cases hd1
            | some oj =>
              rw [hj] at hd1
              simp only [Option.bind_some] at hd1
              rw [hnone j oj hj (by omega)] at hd1
              cases hd1
      unfold wpOp
      simp only [ho, wanted_of hw2, if_true]
      refine .inl (wp_of_gives hg fun v w' ⟨h1, h2, h3⟩ => ih _ _ _ ?_ (fun j hj => ?_) (inv_step2 ht h ho0 hp (hd i o ho0) h1 hun' h2 h3))
      · have unl : listed.getD i true = false := by
          rw [Array.getD_eq_getD_getElem?, Array.getElem?_eq_getElem (by rw [h.lsize]; omega)] at hun' ⊢
          exact hun'
        have := left_set unl
        omega
      · have h4 := hnl j hj
        rw [Array.getD_eq_getD_getElem?, Array.getElem?_setIfInBounds_ne (by omega), ← Array.getD_eq_getD_getElem?]
        exact h4
end

/-- The operations from n on, their slots struck. -/
def struck (ops : Array Oper) (n : Nat) : Array Oper := (ops.toList.take n ++ (ops.toList.drop n).map fun o : Oper => { o with dst := none }).toArray

theorem struck_size (ops : Array Oper) (n : Nat) (h : n ≤ ops.size) : (struck ops n).size = ops.size := by simp [struck]; omega
theorem struck_same (ops : Array Oper) (n i : Nat) (h : i < n) (hn : n ≤ ops.size) : (struck ops n)[i]? = ops[i]? := by
  unfold struck
  rw [List.getElem?_toArray, List.getElem?_append_left (by simp; omega), List.getElem?_take, if_pos h]
  simp
theorem struck_from (ops : Array Oper) (n i : Nat) (h : n ≤ i) (hn : n ≤ ops.size) : (struck ops n)[i]? = (ops[i]?).map fun o : Oper => { o with dst := none } := by
  unfold struck
  rw [List.getElem?_toArray, List.getElem?_append_right (by simp; omega), List.getElem?_map, List.getElem?_drop]
  simp only [List.length_take, Array.length_toList]
  rw [show n + (i - min n ops.size) = i by omega]
  simp

/-- **A REGION BY ITS FACTS, the last operations one behind the other; they may write what earlier ones read.** -/
theorem region_latetails_by {P : Program} {ops : Array Oper} {id : Nat} {a : Act} {w : World} {Q : Exit → Act → World → Prop} (n : Nat) (l : List (Tmp × Fact)) (fin : List Tmp) (G : World → Prop)
    (hm : P.follows .mixedOrders = true) (hs : sound (struck ops n) = true) (ht : tableOk (struck ops n) (table (struck ops n)) = true) (hd : ((struck ops n).all fun o => (o.dst.map fun d => decide (d < a.tmps.size)).getD true) = true)
    (hl : (l.all fun p => (struck ops n).any fun o => o.dst == some p.1) = true) (hn : n < ops.size)
    (hall : ((List.range ops.size).all fun i => decide (i < n) || (List.range i).all fun j => (preds (struck ops n) i).contains j || ((table (struck ops n)).getD i []).contains j) = true) (hG : G w.drew)
    (hops : AskedAll2 P (struck ops n) (table (struck ops n)) fin G (factsOf l a) 0 (ops.toList.take n))
    (hend : ∀ a' W, G W → a'.defers = a.defers → a'.tmps.size = a.tmps.size → (∀ k, fin.contains k = true → (factsOf l a k).holds (a'.tmps.getD k undef) W) → wpList P ops Q (ops.toList.drop n) a' W) : (Code.region id ops true).wp P Q a w := by
  have hsz := struck_size ops n (by omega)
  have hnone : ∀ (i : Nat) (o : Oper), (struck ops n)[i]? = some o → n ≤ i → o.dst = none := fun i o ho hi => by
    rw [struck_from ops n i hi (by omega)] at ho
    obtain ⟨o', _, rfl⟩ := Option.map_eq_some_iff.1 ho
    rfl
  have ha : ∀ i : Nat, ((struck ops n)[i]?).map Oper.after = (ops[i]?).map Oper.after := fun i => by
    by_cases hi : i < n
    · rw [struck_same ops n i hi (by omega)]
    · rw [struck_from ops n i (by omega) (by omega), Option.map_map]
      rfl
  refine wp_region_any hm (any_of_inv_latetails (ops0 := struck ops n) (tab := table (struck ops n)) (fin := fin) (G := G) (F := fun k v W => (factsOf l a k).holds v W) (a0 := a) n ha hsz (fun i hi => struck_same ops n i hi (by omega)) hnone hs ht hn (fun i h1 h2 j hj => ?_) ?_ (fun i o hi hin => ?_) hend _ _ _ _ ?_ ?_ ?_)
  · have h3 := List.all_eq_true.1 hall i (List.mem_range.2 h2)
    rw [Bool.or_eq_true] at h3
    rcases h3 with h3 | h3
    · have := of_decide_eq_true h3
      omega
    · have h4 := List.all_eq_true.1 h3 j (List.mem_range.2 hj)
      rw [Bool.or_eq_true] at h4
      rcases h4 with h4 | h4
      · exact .inl (by simpa using h4)
      · exact .inr (by simpa using h4)
  · intro i o hi d hdst
    have := Array.all_eq_true_iff_forall_mem.1 hd o (Array.mem_of_getElem? hi)
    simpa [hdst] using this
  · have := asked_of_all2 (ops.toList.take n) 0 hops i o (by rw [List.getElem?_take, if_pos hin]; rw [struck_same ops n i hin (by omega)] at hi; simpa using hi)
    rwa [Nat.zero_add] at this
  · unfold Reg.left
    refine Nat.le_trans (List.length_filter_le _ _) (by simp)
  · intro j _
    rw [Array.getD_eq_getD_getElem?]
    simp [Array.getElem?_replicate]
    split <;> simp
  · refine ⟨hG, rfl, rfl, by simp [hsz], fun i o hi hl => ?_, fun k hk _ => ?_⟩
    · rw [Array.getD_eq_getD_getElem?] at hl
      simp [Array.getElem?_replicate] at hl
      split at hl <;> simp at hl
    · cases hkl : l.lookup k with
      | none => simp [factsOf, hkl, Fact.holds]
      | some fk =>
        exfalso
        have hmem : (k, fk) ∈ l := by
          clear hl hops hend
          induction l with
          | nil => simp at hkl
          | cons p l ih =>
            obtain ⟨p1, p2⟩ := p
            rw [List.lookup_cons] at hkl
            by_cases hkp : (k == p1) = true
            · rw [hkp] at hkl
              simp at hkl hkp
              subst hkl hkp
              simp
            · simp only [hkp] at hkl
              exact List.mem_cons_of_mem _ (ih hkl)
        have h := List.all_eq_true.1 hl _ hmem
        obtain ⟨o, ho, hdst⟩ := Array.any_eq_true'.1 h
        obtain ⟨i, hi⟩ := Array.mem_iff_getElem?.1 ho
        have := hk i o hi (by simpa using hdst)
        rw [Array.getD_eq_getD_getElem?] at this
        simp [Array.getElem?_replicate] at this
        split at this <;> simp at this

end Go.Proofs.YtdhfabjkpffhnaaDoor

/- Ranges: the reference's Push. -/
namespace Go.Proofs.YtdhfabjkpffhnaaDoor
set_option maxRecDepth 20000
open Go.RowKit ShaMath LeafMath Reg

def PushAt (n : Int) (w : World) (s : Nat) (v : Value) (h : Hs) (ps : List Hs) (s8 s9 : Value) (wr : World) : Prop :=
  ∃ (m : Nat) (qs : List Hs) (x : Hs), m ≤ s ∧ s9 = .int .u64 (m : Int) ∧ qs.length = ones m ∧ merge n m qs x = merge n s ps h ∧ x.length = 32 ∧ OHs wr (w.heap.size + 3) s8 (qs ++ [x]) ∧ PuW w s v h wr

set_option maxHeartbeats 2000000 in
set_option maxRecDepth 100000 in
theorem refpush_any (n : Int) (hn : I64 n) (s : Nat) (v : Value) (ps : List Hs) (h : Hs) (w : World) (hv : Hss w v ps) (hh : h.length = 32) (hs : s < 18446744073709551616) (hl : ps.length ≤ 4398046511104) (hk : Consts w) :
    Calls Tryd.prog 25 #[.int .i64 n, .agg (rngC s v), .agg (bs h)] w fun e w' => ∃ v', e = .returned (.tuple #[.agg (rngC (pushR n s ps h).1.1 v'), .int .i64 ((pushR n s ps h).2 : Int)]) ∧ OHs w' w.heap.size v' (pushR n s ps h).1.2 ∧ Below w.heap.size w w' := by
  obtain ⟨a, c, rfl, hc⟩ := hv.form
  obtain ⟨m, hm⟩ : ∃ m, m = ps.length := ⟨_, rfl⟩
  rw [← hm] at hv hl hc ⊢
  have HR := Lib.hid (fun W => refright_any s m c a W hs)
  have HP := PuW.new w s (.slice a m c) h
  obtain ⟨ch, hch, hch1, _⟩ := hash_cells h hh
  rw [← hch] at HP ⊢
  have HP := Lib.hid HP
  have HK := Lib.hid hk
  have HV := Lib.hid hv
  have HM := Lib.hid hm
  have HCh := Lib.hid hch
  have HSh := Lib.hid (size_hash hch1)
  have HH := Lib.hid hh
  have HN := Lib.hid hn
  by_cases hr : m = ones s
  · have e1 : decide (m = ones s) = true := by simpa using hr
    rw [e1] at HR
    by_cases h63 : s < 9223372036854775808
    · have hpk : pushR n s ps h = ((s + 1, merge n s ps h), 0) := by rw [pushR, if_pos ⟨by omega, h63⟩]
      rw [hpk]
      have HOnes := Lib.hid (show ps.length = ones s by omega)
      have h64 := ones_64 s hs
      have hm64 : m ≤ 64 := by omega
      have hge : decide ((s : Int) ≥ 9223372036854775808) = false := decide_eq_false (by omega)
      have hs1 : (s : Int) + 1 = ((s + 1 : Nat) : Int) := by omega
      obtain ⟨S1, hS1⟩ : ∃ S1 : Nat, S1 = s + 1 := ⟨_, rfl⟩
      rw [← hS1] at hs1 ⊢
      have hS1b : S1 ≤ 9223372036854775808 := by omega
      clear hv hk hm hr hpk e1 hch hch1 hh hn h64 hS1
      go_enter Tryd.func25, Tryd.ntmps25
      go_upto_region 1 with fail
      refine world_cut (fun W => PuW w s (.slice a m c) h W) HP.out ?_
      clear HP
      intro W1 hW1
      have HW1 := Lib.hid hW1
      clear hW1
      go_wp2_with (refine wpList_load_row rfl 36 (.tmp 4) rfl w.heap.size rfl 36 (rngC s (.slice a m c)) (0, 0) _ HW1.out.1 Tryd.underlying36 rfl (size_rng _ _) ?_)
      refine (HR.out _).mono ?_
      rintro e W2 ⟨rfl, hb2⟩
      have hW2 := HW1.out.keep hb2
      have c0 : W2.cell? ⟨w.heap.size, 0, none⟩ = some (.int .u64 (s : Int)) := by rw [hW2.1.cell]; rfl
      have HW2 := Lib.hid hW2
      clear hb2 hW2 HW1 HR
      go_upto_region 3 with fail
      clear c0
      have hG : ∀ W W' : World, PuW w s (.slice a m c) h W → Below W.heap.size W W' → PuW w s (.slice a m c) h W' := fun W W' h h' => h.keep h'
      have hB : ∀ W : World, PuW w s (.slice a m c) h W → w.heap.size + 3 ≤ W.heap.size := fun W h => h.lt
      have hgr : ∀ (W W' : World) (row : Option Nat), PuW w s (.slice a m c) h W → W.grownBy W' row → (∀ k, row = some k → w.heap.size + 3 ≤ k) → PuW w s (.slice a m c) h W' := fun W W' row hW hg hrow => hW.grown hg hrow
      refine region_late_by 7 _ _ rfl [(20, hlitF (w.heap.size + 3)), (21, .is (.pointer (some ⟨w.heap.size, 1, none⟩))), (22, .is (.slice a m c)), (23, ohsF (w.heap.size + 3) ps), (24, .is (.agg ch)), (25, hssF [h]), (26, ohsF (w.heap.size + 3) (ps ++ [h]))] [0, 1, 2, 3, 4, 5, 6, 7, 9, 10, 11, 12, 13, 14, 15, 16, 17, 18, 19, 26, 27, 28, 29, 30, 31, 32, 33, 34, 35, 36, 37, 38, 39, 40, 41, 42, 43, 44, 45, 46, 47, 48, 49, 50, 51, 52, 53, 54, 55, 56, 57, 58]
        (fun W => PuW w s (.slice a m c) h W) (by kernel_rfl) (by kernel_rfl) (by kernel_rfl) (by kernel_rfl) (fun k fk hk => .inl (lookup_ops (by kernel_rfl) hk)) rfl rfl rfl (by kernel_rfl) (hG _ _ HW2.out (Below.refl _ _).drew) ?_ ?_
      · refine ⟨?a0, ?a1, ?a2, ?a3, ?a4, ?a5, ?a6, trivial⟩
        case a0 => exact Asked.late (ask_build_none hG (guard_none rfl) _ hB rfl (by intro k hk; cases hk; rfl))
        case a1 => exact Asked.late (ask_field (guard_none rfl) _ (.tmp 4) 1 (.pointer (some ⟨w.heap.size, 0, none⟩)) (.pointer (some ⟨w.heap.size, 1, none⟩)) rfl rfl (by intro k hk; cases hk; rfl) (fun W => by kernel_rfl))
        case a2 => exact Asked.late (ask_load (guard_none rfl) _ (.tmp 21) (.pointer (some ⟨w.heap.size, 1, none⟩)) (.slice a m c) rfl rfl (by intro k hk; cases hk; rfl) (fun W hW => load_hl W _ _ (by rw [hW.1.cell]; rfl)))
        case a3 => exact Asked.late (ask_append_hlit hG (guard_none rfl) (.tmp 20) (.tmp 22) _ ps rfl rfl rfl (fun x W hW hk => by
          have e : x 22 = .slice a m c := hk 22 rfl
          show Hss W (x 22) ps
          rw [e]
          exact HV.out.below (Nat.le_refl _) hW.2.2.2) (by have := HM.out; omega) (by intro k hk; cases hk; rfl))
        case a4 => exact Asked.late (ask_load (guard_none rfl) _ (.tmp 5) (.pointer (some ⟨w.heap.size + 1, 0, none⟩)) (.agg ch) rfl rfl (by intro k hk; cases hk; rfl) (fun W hW => by rw [HCh.out]; exact hW.2.1.loads 24 _ Tryd.underlying24 rfl (by rw [← HCh.out]; exact HSh.out)))
        case a5 => exact Asked.late (ask_build_hash hG (guard_none rfl) _ h ch HH.out HCh.out rfl rfl (by intro k hk; cases hk; rfl))
        case a6 => exact ask_append_ohs (guard_none rfl) (by kernel_rfl) (.tmp 23) (.tmp 25) _ ps [h] rfl rfl rfl (fun x W hW hk => hk 25 rfl) (by have := HM.out; simp only [List.length_singleton]; omega) hB hgr (by intro k hk; cases hk; rfl)
      intro a' W3 hW hd' hs' hf'
      have t26 : OHs W3 (w.heap.size + 3) (a'.tmps.getD 26 undef) (ps ++ [h]) := hf' 26 rfl
      have t0 : a'.tmps.getD 0 undef = .int .i64 n := hf' 0 rfl
      have t1 : a'.tmps.getD 1 undef = .agg (rngC s (.slice a m c)) := hf' 1 rfl
      have t2 : a'.tmps.getD 2 undef = .agg ch := hf' 2 rfl
      have t3 : a'.tmps.getD 3 undef = undef := hf' 3 rfl
      have t4 : a'.tmps.getD 4 undef = .pointer (some ⟨w.heap.size, 0, none⟩) := hf' 4 rfl
      have t5 : a'.tmps.getD 5 undef = .pointer (some ⟨w.heap.size + 1, 0, none⟩) := hf' 5 rfl
      have t6 : a'.tmps.getD 6 undef = .pointer (some ⟨w.heap.size + 2, 0, none⟩) := hf' 6 rfl
      have t7 : a'.tmps.getD 7 undef = .int .i64 0 := hf' 7 rfl
      have t9 : a'.tmps.getD 9 undef = undef := hf' 9 rfl
      have t10 : a'.tmps.getD 10 undef = undef := hf' 10 rfl
      have t11 : a'.tmps.getD 11 undef = .agg (rngC s (.slice a m c)) := hf' 11 rfl
      have t12 : a'.tmps.getD 12 undef = .bool true := hf' 12 rfl
      have t13 : a'.tmps.getD 13 undef = .bool false := hf' 13 rfl
      have t14 : a'.tmps.getD 14 undef = .bool false := hf' 14 rfl
      have t15 : a'.tmps.getD 15 undef = .pointer (some ⟨w.heap.size, 0, none⟩) := hf' 15 rfl
      have t16 : a'.tmps.getD 16 undef = .int .u64 (s : Int) := hf' 16 rfl
      have t17 : a'.tmps.getD 17 undef = .bool false := hf' 17 rfl
      have t18 : a'.tmps.getD 18 undef = .bool false := hf' 18 rfl
      have t19 : a'.tmps.getD 19 undef = undef := hf' 19 rfl
      have t27 : a'.tmps.getD 27 undef = undef := hf' 27 rfl
      have t28 : a'.tmps.getD 28 undef = undef := hf' 28 rfl
      have t29 : a'.tmps.getD 29 undef = undef := hf' 29 rfl
      have t30 : a'.tmps.getD 30 undef = undef := hf' 30 rfl
      have t31 : a'.tmps.getD 31 undef = undef := hf' 31 rfl
      have t32 : a'.tmps.getD 32 undef = undef := hf' 32 rfl
      have t33 : a'.tmps.getD 33 undef = undef := hf' 33 rfl
      have t34 : a'.tmps.getD 34 undef = undef := hf' 34 rfl
      have t35 : a'.tmps.getD 35 undef = undef := hf' 35 rfl
      have t36 : a'.tmps.getD 36 undef = undef := hf' 36 rfl
      have t37 : a'.tmps.getD 37 undef = undef := hf' 37 rfl
      have t38 : a'.tmps.getD 38 undef = undef := hf' 38 rfl
      have t39 : a'.tmps.getD 39 undef = undef := hf' 39 rfl
      have t40 : a'.tmps.getD 40 undef = undef := hf' 40 rfl
      have t41 : a'.tmps.getD 41 undef = undef := hf' 41 rfl
      have t42 : a'.tmps.getD 42 undef = undef := hf' 42 rfl
      have t43 : a'.tmps.getD 43 undef = undef := hf' 43 rfl
      have t44 : a'.tmps.getD 44 undef = undef := hf' 44 rfl
      have t45 : a'.tmps.getD 45 undef = undef := hf' 45 rfl
      have t46 : a'.tmps.getD 46 undef = undef := hf' 46 rfl
      have t47 : a'.tmps.getD 47 undef = undef := hf' 47 rfl
      have t48 : a'.tmps.getD 48 undef = undef := hf' 48 rfl
      have t49 : a'.tmps.getD 49 undef = undef := hf' 49 rfl
      have t50 : a'.tmps.getD 50 undef = undef := hf' 50 rfl
      have t51 : a'.tmps.getD 51 undef = undef := hf' 51 rfl
      have t52 : a'.tmps.getD 52 undef = undef := hf' 52 rfl
      have t53 : a'.tmps.getD 53 undef = undef := hf' 53 rfl
      have t54 : a'.tmps.getD 54 undef = undef := hf' 54 rfl
      have t55 : a'.tmps.getD 55 undef = undef := hf' 55 rfl
      have t56 : a'.tmps.getD 56 undef = undef := hf' 56 rfl
      have t57 : a'.tmps.getD 57 undef = undef := hf' 57 rfl
      have t58 : a'.tmps.getD 58 undef = undef := hf' 58 rfl
      obtain ⟨us', hus, ha'⟩ := act_open 59 a' hs' hd'
      rw [← hus] at t26 t0 t1 t2 t3 t4 t5 t6 t7 t9 t10 t11 t12 t13 t14 t15 t16 t17 t18 t19 t27 t28 t29 t30 t31 t32 t33 t34 t35 t36 t37 t38 t39 t40 t41 t42 t43 t44 t45 t46 t47 t48 t49 t50 t51 t52 t53 t54 t55 t56 t57 t58
      have el : ((List.range 59).map us').toArray = #[.int .i64 n, .agg (rngC s (.slice a m c)), .agg ch, undef, .pointer (some ⟨w.heap.size, 0, none⟩), .pointer (some ⟨w.heap.size + 1, 0, none⟩), .pointer (some ⟨w.heap.size + 2, 0, none⟩), .int .i64 0, us' 8, undef, undef, .agg (rngC s (.slice a m c)), .bool true, .bool false, .bool false, .pointer (some ⟨w.heap.size, 0, none⟩), .int .u64 (s : Int), .bool false, .bool false, undef, us' 20, us' 21, us' 22, us' 23, us' 24, us' 25, us' 26, undef, undef, undef, undef, undef, undef, undef, undef, undef, undef, undef, undef, undef, undef, undef, undef, undef, undef, undef, undef, undef, undef, undef, undef, undef, undef, undef, undef, undef, undef, undef, undef] := by
        show #[us' 0, us' 1, us' 2, us' 3, us' 4, us' 5, us' 6, us' 7, us' 8, us' 9, us' 10, us' 11, us' 12, us' 13, us' 14, us' 15, us' 16, us' 17, us' 18, us' 19, us' 20, us' 21, us' 22, us' 23, us' 24, us' 25, us' 26, us' 27, us' 28, us' 29, us' 30, us' 31, us' 32, us' 33, us' 34, us' 35, us' 36, us' 37, us' 38, us' 39, us' 40, us' 41, us' 42, us' 43, us' 44, us' 45, us' 46, us' 47, us' 48, us' 49, us' 50, us' 51, us' 52, us' 53, us' 54, us' 55, us' 56, us' 57, us' 58] = _
        rw [t0, t1, t2, t3, t4, t5, t6, t7, t9, t10, t11, t12, t13, t14, t15, t16, t17, t18, t19, t27, t28, t29, t30, t31, t32, t33, t34, t35, t36, t37, t38, t39, t40, t41, t42, t43, t44, t45, t46, t47, t48, t49, t50, t51, t52, t53, t54, t55, t56, t57, t58]
      rw [el] at ha'
      subst ha'
      clear hus t0 t1 t2 t3 t4 t5 t6 t7 t9 t10 t11 t12 t13 t14 t15 t16 t17 t18 t19 t27 t28 t29 t30 t31 t32 t33 t34 t35 t36 t37 t38 t39 t40 t41 t42 t43 t44 t45 t46 t47 t48 t49 t50 t51 t52 t53 t54 t55 t56 t57 t58 el hf' hs' hd'
      have HO := Lib.hid t26
      have HW3 := Lib.hid hW
      clear t26 hW hG hB hgr HW2
      have c0 : W3.cell? ⟨w.heap.size, 0, none⟩ = some (.int .u64 (s : Int)) := by rw [HW3.out.1.cell]; rfl
      go_wp2
      clear c0
      have hstart : PushAt n w s (.slice a m c) h ps (us' 26) (.int .u64 (s : Int)) W3 := ⟨s, ps, h, Nat.le_refl _, rfl, HOnes.out, rfl, HH.out, HO.out, HW3.out⟩
      have HStart := Lib.hid hstart
      clear hstart HO HW3
      go_loopw [8, 9] (fun s8 s9 wr => PushAt n w s (.slice a m c) h ps s8 s9 wr) (fun _ s9 _ => (match s9 with | .int _ z => z.toNat | _ => 0))
      case atStart => exact HStart.out
      case round =>
        obtain ⟨k, qs, x, hks, rfl, hqs, hmg, hx32, hown, hpu⟩ := hrel
        have HQs := Lib.hid hqs
        have HMg := Lib.hid hmg
        have HX32 := Lib.hid hx32
        have HOwn := Lib.hid hown
        have HPu := Lib.hid hpu
        have hq64 : qs.length ≤ 64 := by have := ones_64 k (by omega); omega
        clear hqs hmg hx32 hpu HStart
        by_cases ho : k % 2 = 1
        · have hpos : 0 < (qs ++ [x]).length := by simp
          obtain ⟨g, c8, rfl, hc8, hg8⟩ := hown.form hpos
          obtain ⟨rs, y, rfl⟩ : ∃ rs y, qs = rs ++ [y] := by
            have hne : qs ≠ [] := fun e => by
              have := HQs.out
              rw [e, ones_more] at this
              simp at this
              omega
            exact ⟨qs.dropLast, qs.getLast hne, (List.dropLast_concat_getLast hne).symm⟩
          obtain ⟨r, hr⟩ : ∃ r, r = rs.length := ⟨_, rfl⟩
          obtain ⟨L, hL⟩ : ∃ L, L = (rs ++ [y] ++ [x]).length := ⟨_, rfl⟩
          have hLr : L = r + 2 := by rw [hL, hr]; simp
          rw [← hL] at HOwn hc8 ⊢
          have hy : (rs ++ [y] ++ [x])[r]? = some y := by rw [hr]; simp
          have hx : (rs ++ [y] ++ [x])[r + 1]? = some x := by rw [hr]; simp
          have hy32 := HOwn.out.1.get hy
          have hrb : r ≤ 64 := by simp at hq64; omega
          have HLy := Lib.hid (fun (W : World) (hW : OHs W (w.heap.size + 3) (.slice (some ⟨g, 0, none⟩) L c8) (rs ++ [y] ++ [x])) => load_hash W ((⟨g, 0, none⟩ : Addr).add (r * 32)) y hy32 fun j u hj => by
            obtain ⟨ad2, e, h⟩ := hW.hss.load hy
            cases e
            exact h j u hj)
          have HLx := Lib.hid (fun (W : World) (hW : OHs W (w.heap.size + 3) (.slice (some ⟨g, 0, none⟩) L c8) (rs ++ [y] ++ [x])) => load_hash W ((⟨g, 0, none⟩ : Addr).add ((r + 1) * 32)) x HX32.out fun j u hj => by
            obtain ⟨ad2, e, h⟩ := hW.hss.load hx
            cases e
            exact h j u hj)
          have HIy := Lib.hid (fun W => hss_index W ⟨g, 0, none⟩ L c8 r (by omega))
          have HIx := Lib.hid (fun W => hss_index W ⟨g, 0, none⟩ L c8 (r + 1) (by omega))
          have HSl := Lib.hid (fun W => by have h := slice_hs_to (some ⟨g, 0, none⟩) L c8 r (by omega) W; rw [sliced_zero] at h; exact h)
          have HNode := Lib.hid (fun (W : World) (hW : Below w.heap.size w W) => refnode_any n y x W hy32 HX32.out HN.out (HK.out.below (Nat.le_refl _) hW))
          obtain ⟨cx, hcx, hcx1, _⟩ := hash_cells x HX32.out
          obtain ⟨cy, hcy, hcy1, _⟩ := hash_cells y hy32
          obtain ⟨z, hz⟩ : ∃ z, z = nodeH n y x := ⟨_, rfl⟩
          have hz32 : z.length = 32 := by rw [hz]; exact nodeH_length _ _ _
          obtain ⟨cz, hcz, hcz1, _⟩ := hash_cells z hz32
          rw [← hcx, ← hcy, ← hz, ← hcz] at HNode
          rw [← hcy] at HLy
          rw [← hcx] at HLx
          have HZ := Lib.hid hz
          have HZ32 := Lib.hid hz32
          have HCz := Lib.hid hcz
          have hL2 : (L : Int) - 2 = (r : Int) := by omega
          obtain ⟨r1, hr1⟩ : ∃ r1, r1 = r + 1 := ⟨_, rfl⟩
          have hL1 : (L : Int) - 1 = (r1 : Int) := by omega
          rw [← hr1] at HLx HIx
          obtain ⟨d, hd⟩ : ∃ d : Nat, (k : Int) / 2 = (d : Int) := ⟨k / 2, by omega⟩
          have HD := Lib.hid (show d = k / 2 by omega)
          have hk2 : (k : Int) % 2 = 1 := by omega
          have hLb : L ≤ 70 := by omega
          have hr1b : r1 ≤ 70 := by omega
          have hdk : d ≤ k := by omega
          have HRr := Lib.hid hr
          have HGg := Lib.hid hg8
          have HOdd := Lib.hid ho
          clear hown hcx hcx1 hcy hcy1 hz hz32 hcz hcz1 hy hx hy32 hr1 hr hL hpos hg8 ho hLr
          go_upto_region 8 with fail
          clear hk2
          have hG : ∀ W W' : World, (OHs W (w.heap.size + 3) (.slice (some ⟨g, 0, none⟩) L c8) (rs ++ [y] ++ [x]) ∧ PuW w s (.slice a m c) h W) → Below W.heap.size W W' → (OHs W' (w.heap.size + 3) (.slice (some ⟨g, 0, none⟩) L c8) (rs ++ [y] ++ [x]) ∧ PuW w s (.slice a m c) h W') := fun W W' h h' => ⟨h.1.below h', h.2.keep h'⟩
          refine region_latetails_by 17 [(36, .is (.slice (some ⟨g, 0, none⟩) L c8)), (37, .is (.int .i64 (L : Int))), (38, .is (.int .i64 (r : Int))), (39, .is (.slice (some ⟨g, 0, none⟩) r c8)), (40, .is (.int .i64 n)), (41, .is (.slice (some ⟨g, 0, none⟩) L c8)), (42, .is (.int .i64 (L : Int))), (43, .is (.int .i64 (r : Int))), (44, .is (.pointer (some ((⟨g, 0, none⟩ : Addr).add (r * 32))))), (45, .is (.agg cy)), (46, .is (.slice (some ⟨g, 0, none⟩) L c8)), (47, .is (.int .i64 (L : Int))), (48, .is (.int .i64 (r1 : Int))), (49, .is (.pointer (some ((⟨g, 0, none⟩ : Addr).add (r1 * 32))))), (50, .is (.agg cx)), (51, .is (.agg cz)), (52, hssF [z])] [0, 1, 2, 3, 4, 5, 6, 7, 9, 11, 12, 13, 14, 15, 16, 17, 18, 19, 20, 21, 22, 23, 24, 25, 26, 27, 28, 39, 52, 54, 55, 56, 57, 58]
            (fun W => OHs W (w.heap.size + 3) (.slice (some ⟨g, 0, none⟩) L c8) (rs ++ [y] ++ [x]) ∧ PuW w s (.slice a m c) h W) (by kernel_rfl) (by kernel_rfl) (by kernel_rfl) (by kernel_rfl) (by kernel_rfl) (by decide) (by kernel_rfl) (hG _ _ ⟨HOwn.out, HPu.out⟩ (Below.refl _ _).drew) ?_ ?_
          · refine ⟨?a0, ?a1, ?a2, ?a3, ?a4, ?a5, ?a6, ?a7, ?a8, ?a9, ?a10, ?a11, ?a12, ?a13, ?a14, ?a15, ?a16, trivial⟩
            case a0 => exact Asked.late (ask_copy (guard_none rfl) (.tmp 8) (.inl rfl) (by intro k hk; cases hk; rfl))
            case a1 => exact Asked.late (ask_copy (guard_none rfl) (.tmp 10) (.inl rfl) (by intro k hk; cases hk; rfl))
            case a2 => exact Asked.late (ask_bin (guard_none rfl) .sub _ _ (.tmp 37) _ (.int .i64 (L : Int)) (.int .i64 2) (.int .i64 (r : Int)) rfl rfl rfl (by intro k hk; cases hk; rfl) (fun W => sub_i64 _ _ _ _ _ _ hL2 (by omega) W))
            case a3 => exact Asked.late (ask_slice (guard_none rfl) 30 (.tmp 36) none (some (.tmp 38)) none (.slice (some ⟨g, 0, none⟩) L c8) (.slice (some ⟨g, 0, none⟩) r c8) none (some (.int .i64 (r : Int))) none rfl rfl rfl rfl rfl (by intro k hk; cases hk; rfl) HSl.out)
            case a4 => exact Asked.late (ask_copy (guard_none rfl) (.tmp 0) (.inl rfl) (by intro k hk; cases hk; rfl))
            case a5 => exact Asked.late (ask_copy (guard_none rfl) (.tmp 8) (.inl rfl) (by intro k hk; cases hk; rfl))
            case a6 => exact Asked.late (ask_copy (guard_none rfl) (.tmp 10) (.inl rfl) (by intro k hk; cases hk; rfl))
            case a7 => exact Asked.late (ask_bin (guard_none rfl) .sub _ _ (.tmp 42) _ (.int .i64 (L : Int)) (.int .i64 2) (.int .i64 (r : Int)) rfl rfl rfl (by intro k hk; cases hk; rfl) (fun W => sub_i64 _ _ _ _ _ _ hL2 (by omega) W))
            case a8 => exact Asked.late (ask_idx (guard_none rfl) _ (.tmp 41) (.tmp 43) (.slice (some ⟨g, 0, none⟩) L c8) (.int .i64 (r : Int)) (.pointer (some ((⟨g, 0, none⟩ : Addr).add (r * 32)))) rfl rfl rfl (by intro k hk; cases hk; rfl) HIy.out)
            case a9 => exact Asked.late (ask_load (guard_none rfl) _ (.tmp 44) (.pointer (some ((⟨g, 0, none⟩ : Addr).add (r * 32)))) (.agg cy) rfl rfl (by intro k hk; cases hk; rfl) (fun W hW => HLy.out W hW.1))
            case a10 => exact Asked.late (ask_copy (guard_none rfl) (.tmp 8) (.inl rfl) (by intro k hk; cases hk; rfl))
            case a11 => exact Asked.late (ask_copy (guard_none rfl) (.tmp 10) (.inl rfl) (by intro k hk; cases hk; rfl))
            case a12 => exact Asked.late (ask_bin (guard_none rfl) .sub _ _ (.tmp 47) _ (.int .i64 (L : Int)) (.int .i64 1) (.int .i64 (r1 : Int)) rfl rfl rfl (by intro k hk; cases hk; rfl) (fun W => sub_i64 _ _ _ _ _ _ hL1 (by omega) W))
            case a13 => exact Asked.late (ask_idx (guard_none rfl) _ (.tmp 46) (.tmp 48) (.slice (some ⟨g, 0, none⟩) L c8) (.int .i64 (r1 : Int)) (.pointer (some ((⟨g, 0, none⟩ : Addr).add (r1 * 32)))) rfl rfl rfl (by intro k hk; cases hk; rfl) HIx.out)
            case a14 => exact Asked.late (ask_load (guard_none rfl) _ (.tmp 49) (.pointer (some ((⟨g, 0, none⟩ : Addr).add (r1 * 32)))) (.agg cx) rfl rfl (by intro k hk; cases hk; rfl) (fun W hW => HLx.out W hW.1))
            case a15 => exact Asked.late (ask_call hG (guard_none rfl) _ _ _ #[.int .i64 n, .agg cy, .agg cx] (.is (.agg cz)) rfl (by kernel_rfl) rfl rfl (by intro k hk; cases hk; rfl) (fun W hW => (HNode.out W hW.2.2.2.2).mono fun e w' h => ⟨_, h.1, rfl, h.2⟩))
            case a16 => exact Asked.late (ask_build_hash hG (guard_none rfl) _ z cz HZ32.out HCz.out rfl rfl (by intro k hk; cases hk; rfl))
          · intro a' W4 hW hd' hs' hf'
            have t52 : Hss W4 (a'.tmps.getD 52 undef) [z] := hf' 52 rfl
            have t0 : a'.tmps.getD 0 undef = .int .i64 n := hf' 0 rfl
            have t1 : a'.tmps.getD 1 undef = .agg (rngC s (.slice a m c)) := hf' 1 rfl
            have t2 : a'.tmps.getD 2 undef = .agg ch := hf' 2 rfl
            have t3 : a'.tmps.getD 3 undef = undef := hf' 3 rfl
            have t4 : a'.tmps.getD 4 undef = .pointer (some ⟨w.heap.size, 0, none⟩) := hf' 4 rfl
            have t5 : a'.tmps.getD 5 undef = .pointer (some ⟨w.heap.size + 1, 0, none⟩) := hf' 5 rfl
            have t6 : a'.tmps.getD 6 undef = .pointer (some ⟨w.heap.size + 2, 0, none⟩) := hf' 6 rfl
            have t7 : a'.tmps.getD 7 undef = .int .i64 0 := hf' 7 rfl
            have t9 : a'.tmps.getD 9 undef = .int .u64 (k : Int) := hf' 9 rfl
            have t11 : a'.tmps.getD 11 undef = .agg (rngC s (.slice a m c)) := hf' 11 rfl
            have t12 : a'.tmps.getD 12 undef = .bool true := hf' 12 rfl
            have t13 : a'.tmps.getD 13 undef = .bool false := hf' 13 rfl
            have t14 : a'.tmps.getD 14 undef = .bool false := hf' 14 rfl
            have t15 : a'.tmps.getD 15 undef = .pointer (some ⟨w.heap.size, 0, none⟩) := hf' 15 rfl
            have t16 : a'.tmps.getD 16 undef = .int .u64 (s : Int) := hf' 16 rfl
            have t17 : a'.tmps.getD 17 undef = .bool false := hf' 17 rfl
            have t18 : a'.tmps.getD 18 undef = .bool false := hf' 18 rfl
            have t19 : a'.tmps.getD 19 undef = undef := hf' 19 rfl
            have t20 : a'.tmps.getD 20 undef = us' 20 := hf' 20 rfl
            have t21 : a'.tmps.getD 21 undef = us' 21 := hf' 21 rfl
            have t22 : a'.tmps.getD 22 undef = us' 22 := hf' 22 rfl
            have t23 : a'.tmps.getD 23 undef = us' 23 := hf' 23 rfl
            have t24 : a'.tmps.getD 24 undef = us' 24 := hf' 24 rfl
            have t25 : a'.tmps.getD 25 undef = us' 25 := hf' 25 rfl
            have t26 : a'.tmps.getD 26 undef = us' 26 := hf' 26 rfl
            have t27 : a'.tmps.getD 27 undef = .pointer (some ⟨w.heap.size, 0, none⟩) := hf' 27 rfl
            have t28 : a'.tmps.getD 28 undef = .int .u64 (s : Int) := hf' 28 rfl
            have t39 : a'.tmps.getD 39 undef = .slice (some ⟨g, 0, none⟩) r c8 := hf' 39 rfl
            have t54 : a'.tmps.getD 54 undef = undef := hf' 54 rfl
            have t55 : a'.tmps.getD 55 undef = undef := hf' 55 rfl
            have t56 : a'.tmps.getD 56 undef = undef := hf' 56 rfl
            have t57 : a'.tmps.getD 57 undef = undef := hf' 57 rfl
            have t58 : a'.tmps.getD 58 undef = undef := hf' 58 rfl
            obtain ⟨vs', hus, ha'⟩ := act_open 59 a' hs' hd'
            rw [← hus] at t52 t0 t1 t2 t3 t4 t5 t6 t7 t9 t11 t12 t13 t14 t15 t16 t17 t18 t19 t20 t21 t22 t23 t24 t25 t26 t27 t28 t39 t54 t55 t56 t57 t58
            have el : ((List.range 59).map vs').toArray = #[.int .i64 n, .agg (rngC s (.slice a m c)), .agg ch, undef, .pointer (some ⟨w.heap.size, 0, none⟩), .pointer (some ⟨w.heap.size + 1, 0, none⟩), .pointer (some ⟨w.heap.size + 2, 0, none⟩), .int .i64 0, vs' 8, .int .u64 (k : Int), vs' 10, .agg (rngC s (.slice a m c)), .bool true, .bool false, .bool false, .pointer (some ⟨w.heap.size, 0, none⟩), .int .u64 (s : Int), .bool false, .bool false, undef, us' 20, us' 21, us' 22, us' 23, us' 24, us' 25, us' 26, .pointer (some ⟨w.heap.size, 0, none⟩), .int .u64 (s : Int), vs' 29, vs' 30, vs' 31, vs' 32, vs' 33, vs' 34, vs' 35, vs' 36, vs' 37, vs' 38, .slice (some ⟨g, 0, none⟩) r c8, vs' 40, vs' 41, vs' 42, vs' 43, vs' 44, vs' 45, vs' 46, vs' 47, vs' 48, vs' 49, vs' 50, vs' 51, vs' 52, vs' 53, undef, undef, undef, undef, undef] := by
              show #[vs' 0, vs' 1, vs' 2, vs' 3, vs' 4, vs' 5, vs' 6, vs' 7, vs' 8, vs' 9, vs' 10, vs' 11, vs' 12, vs' 13, vs' 14, vs' 15, vs' 16, vs' 17, vs' 18, vs' 19, vs' 20, vs' 21, vs' 22, vs' 23, vs' 24, vs' 25, vs' 26, vs' 27, vs' 28, vs' 29, vs' 30, vs' 31, vs' 32, vs' 33, vs' 34, vs' 35, vs' 36, vs' 37, vs' 38, vs' 39, vs' 40, vs' 41, vs' 42, vs' 43, vs' 44, vs' 45, vs' 46, vs' 47, vs' 48, vs' 49, vs' 50, vs' 51, vs' 52, vs' 53, vs' 54, vs' 55, vs' 56, vs' 57, vs' 58] = _
              rw [t0, t1, t2, t3, t4, t5, t6, t7, t9, t11, t12, t13, t14, t15, t16, t17, t18, t19, t20, t21, t22, t23, t24, t25, t26, t27, t28, t39, t54, t55, t56, t57, t58]
            rw [el] at ha'
            subst ha'
            clear hus t0 t1 t2 t3 t4 t5 t6 t7 t9 t11 t12 t13 t14 t15 t16 t17 t18 t19 t20 t21 t22 t23 t24 t25 t26 t27 t28 t39 t54 t55 t56 t57 t58 el hf' hs' hd'
            obtain ⟨hO4, hP4⟩ := hW
            have hO5 := hO4.take (i := r) (by rw [HRr.out]; simp only [List.length_append, List.length_singleton]; omega)
            have e5 : (rs ++ [y] ++ [x]).take r = rs := by rw [List.append_assoc, List.take_append_of_le_length (by have := HRr.out; omega), List.take_of_length_le (by have := HRr.out; omega)]
            rw [e5] at hO5
            have HP4 := Lib.hid hP4
            have HA := Lib.hid (append_hs (B := w.heap.size + 3) hP4.lt hO5 t52 (by have := HRr.out; simp only [List.length_singleton]; omega))
            clear hO4 hP4 hO5 e5 t52 hG
            simp only [List.drop_succ_cons, List.drop_zero]
            go_wp2_with (at_builtin; refine wpList_append_by rfl (.tmp 39) (.tmp 52) 30 rfl _ _ rfl rfl _ HA.out ?_; rintro v9 W5 ⟨hr9, hb9⟩; (have HR9 := Lib.hid hr9); (have HB9 := Lib.hid hb9); clear hr9 hb9)
            have hP5 : PuW w s (.slice a m c) h W5 := HP4.out.grown HB9.out fun k hk => by
              have e : g = k := by simpa [Value.ownBlock] using hk
              have := HGg.out
              omega
            have hmerge : merge n d rs z = merge n s ps h := by
              rw [← HMg.out, merge_odd n k _ _ HOdd.out, List.dropLast_concat, HD.out, HZ.out]
              simp
            have hend : PushAt n w s (.slice a m c) h ps v9 (.int .u64 (d : Int)) W5 := ⟨d, rs, z, by omega, rfl, by
              have h1 := HQs.out
              rw [ones_more k, List.length_append, HOdd.out] at h1
              simp at h1
              rw [HD.out]
              omega, hmerge, HZ32.out, HR9.out, hP5⟩
            have HEnd := Lib.hid hend
            clear hend hP5 hmerge HA HP4 HR9 HB9
            go_wp2
            go_roundw
            case rel => exact HEnd.out
            case measure =>
              have h1 := HD.out
              have h2 := HOdd.out
              simp
              omega
        · have hk2 : (k : Int) % 2 = 0 := by omega
          have hfin : qs ++ [x] = merge n s ps h := by rw [← HMg.out, merge_even n k _ _ (by omega)]
          have HFin := Lib.hid hfin
          have c0 : wr.cell? ⟨w.heap.size, 0, none⟩ = some (.int .u64 (s : Int)) := by rw [HPu.out.1.cell]; rfl
          obtain ⟨h1, h0, ⟨zs, h2, h3⟩, h4⟩ := HPu.out
          obtain ⟨b8, n8, c8, rfl⟩ : ∃ b n c, u8 = .slice b n c := by
            obtain ⟨b, c, e, _⟩ := hown.hss.form
            exact ⟨b, _, c, e⟩
          have H2 := Lib.hid h2
          have H3 := Lib.hid h3
          have H4 := Lib.hid h4
          clear h1 h0 h2 h3 h4 hfin hown HPu HMg
          go_wp2_with (refine wpList_store_row rfl 36 (.tmp 6) (.tmp 58) rfl (w.heap.size + 2) (rngC S1 (.slice b8 n8 c8)) rfl rfl 36 _ H2.out (size_rng _ _) H3.out (rng_one _ _ _ _) ?_)
          refine bodyPost_ret (v := .tuple #[.agg (rngC S1 (.slice b8 n8 c8)), .int .i64 0]) (ret_range rfl _ _ (w.heap.size + 2) _ _ rfl rfl rfl (Blk.row H2.out _)) rfl ⟨_, rfl, ?_, below_setRow H4.out _ _ (by omega)⟩
          rw [← HFin.out]
          refine OHs.lower (B := w.heap.size + 3) ⟨HOwn.out.1, HOwn.out.2.1, ?_⟩ (by omega)
          rcases HOwn.out.2.2 with hq | ⟨g, cap, cur, hv8, hB8, hg8, hr8⟩
          · exact .inl hq
          · exact .inr ⟨g, cap, cur, hv8, hB8, by rw [setRow_other _ _ _ _ (by omega)]; exact hg8, hr8⟩
    · have hpk : pushR n s ps h = ((0, []), 1) := by rw [pushR, if_neg (by omega)]
      rw [hpk]
      have hge : (s : Int) ≥ 9223372036854775808 := by omega
      clear hv hk hm hr hpk e1 hch hch1 hh hn h63
      go_enter Tryd.func25, Tryd.ntmps25
      go_upto_region 1 with fail
      refine world_cut (fun W => PuW w s (.slice a m c) h W) HP.out ?_
      clear HP
      intro W1 hW1
      have HW1 := Lib.hid hW1
      clear hW1
      go_wp2_with (refine wpList_load_row rfl 36 (.tmp 4) rfl w.heap.size rfl 36 (rngC s (.slice a m c)) (0, 0) _ HW1.out.1 Tryd.underlying36 rfl (size_rng _ _) ?_)
      refine (HR.out _).mono ?_
      rintro e W2 ⟨rfl, hb2⟩
      have hW2 := HW1.out.keep hb2
      have c0 : W2.cell? ⟨w.heap.size, 0, none⟩ = some (.int .u64 (s : Int)) := by rw [hW2.1.cell]; rfl
      obtain ⟨h1, h0, ⟨zs, h2, h3⟩, h4⟩ := hW2
      have H2 := Lib.hid h2
      have H3 := Lib.hid h3
      have H4 := Lib.hid h4
      clear hb2 h1 h0 h2 h3 h4 HW1 HR
      go_wp2_with (refine wpList_store_row rfl 36 (.tmp 6) (.tmp 19) rfl (w.heap.size + 2) (rngC 0 (.slice none 0 0)) rfl rfl 36 _ H2.out (size_rng _ _) H3.out (rng_one _ _ _ _) ?_)
      exact bodyPost_ret (v := .tuple #[.agg (rngC 0 (.slice none 0 0)), .int .i64 1]) (ret_range rfl _ _ (w.heap.size + 2) _ _ rfl rfl rfl (Blk.row H2.out _)) rfl ⟨_, rfl, OHs.none _ _, below_setRow H4.out _ _ (by omega)⟩
  · have hpk : pushR n s ps h = ((0, []), 1) := by rw [pushR, if_neg (by omega)]
    rw [hpk]
    have e1 : decide (m = ones s) = false := by simpa using hr
    rw [e1] at HR
    clear hv hk hm hr hpk e1 hch hch1 hh hn
    go_enter Tryd.func25, Tryd.ntmps25
    go_upto_region 1 with fail
    refine world_cut (fun W => PuW w s (.slice a m c) h W) HP.out ?_
    clear HP
    intro W1 hW1
    have HW1 := Lib.hid hW1
    clear hW1
    go_wp2_with (refine wpList_load_row rfl 36 (.tmp 4) rfl w.heap.size rfl 36 (rngC s (.slice a m c)) (0, 0) _ HW1.out.1 Tryd.underlying36 rfl (size_rng _ _) ?_)
    refine (HR.out _).mono ?_
    rintro e W2 ⟨rfl, hb2⟩
    have hW2 := HW1.out.keep hb2
    obtain ⟨h1, h0, ⟨zs, h2, h3⟩, h4⟩ := hW2
    have H2 := Lib.hid h2
    have H3 := Lib.hid h3
    have H4 := Lib.hid h4
    clear hb2 h1 h0 h2 h3 h4 HW1 HR
    go_wp2_with (refine wpList_store_row rfl 36 (.tmp 6) (.tmp 19) rfl (w.heap.size + 2) (rngC 0 (.slice none 0 0)) rfl rfl 36 _ H2.out (size_rng _ _) H3.out (rng_one _ _ _ _) ?_)
    exact bodyPost_ret (v := .tuple #[.agg (rngC 0 (.slice none 0 0)), .int .i64 1]) (ret_range rfl _ _ (w.heap.size + 2) _ _ rfl rfl rfl (Blk.row H2.out _)) rfl ⟨_, rfl, OHs.none _ _, below_setRow H4.out _ _ (by omega)⟩
end Go.Proofs.YtdhfabjkpffhnaaDoor

/- LeafPushes: the walk. -/
namespace Go.Proofs.YtdhfabjkpffhnaaDoor
set_option maxRecDepth 20000
open Go.RowKit ShaMath LeafMath Reg

theorem load_u64 (W : World) (p : Addr) (v : Value) (h : W.cell? p = some v) : (Instr.loadAt 34 (.pointer (some p))).run Tryd.prog W = .ok v W := by
  have hagg : (isAgg 34).run Tryd.prog W = .ok false W := by kernel_rfl
  simp [Instr.loadAt, Instr.sureAddr, loadVar, Sem.run_bind, hagg, h]

/-- A range and a hash in blocks of the call's own. -/
def Two3 (w : World) (s : Nat) (v : Value) (h : Hs) (W : World) : Prop := Blk W w.heap.size 36 (rngC s v) ∧ Blk W (w.heap.size + 1) 24 (bs h) ∧ Below w.heap.size w W
theorem Two3.new (w : World) (s : Nat) (v : Value) (h : Hs) : Two3 w s v h ((w.alloc (.cells (rngC s v) 36)).alloc (.cells (bs h) 24)) :=
  ⟨(Blk.new w _ _).alloc _, Blk.newAt _ _ _ _ _ (by simp) rfl, ((Below.refl _ _).alloc (Nat.le_refl _) _).alloc (by simp) _⟩
theorem Two3.lt {w W : World} {s : Nat} {v : Value} {h : Hs} (H : Two3 w s v h W) : w.heap.size + 2 ≤ W.heap.size := H.2.1.lt
theorem Two3.far {w W W' : World} {s : Nat} {v : Value} {h : Hs} (H : Two3 w s v h W) (hb : Below (w.heap.size + 2) W W') : Two3 w s v h W' :=
  ⟨H.1.below (by omega) hb, H.2.1.below (by omega) hb, H.2.2.trans (hb.mono (by omega))⟩
theorem Two3.keep {w W W' : World} {s : Nat} {v : Value} {h : Hs} (H : Two3 w s v h W) (hb : Below W.heap.size W W') : Two3 w s v h W' := H.far (hb.mono H.lt)

theorem OHs.farR {W : World} {B g : Nat} {v : Value} {hs : List Hs} {zs cs : Array Value} (h : OHs W B v hs) (hb : Blk W g 36 zs) : OHs (W.setRow g cs) B v hs := by
  obtain ⟨h0, h1, h2⟩ := h
  refine ⟨h0, h1, ?_⟩
  rcases h2 with h2 | ⟨k, cap, cur, hv, hB, hk, r⟩
  · exact .inl h2
  · refine .inr ⟨k, cap, cur, hv, hB, ?_, r⟩
    rw [setRow_other _ _ _ _ fun e => ?_]
    · exact hk
    · subst e
      unfold Blk at hb
      rw [hb] at hk
      cases hk

theorem merge_len (n : Int) : ∀ (m : Nat) (ps : List Hs) (h : Hs), (merge n m ps h).length ≤ ps.length + 1 := by
  intro m
  induction m using Nat.strongRecOn with
  | ind m ih =>
    intro ps h
    by_cases ho : m % 2 = 1
    · rw [merge_odd n m ps h ho]
      have := ih (m / 2) (by omega) ps.dropLast (nodeH n (ps.getLastD []) h)
      rw [List.length_dropLast] at this
      omega
    · rw [merge_even n m ps h (by omega)]
      simp
theorem pushR_len (n : Int) (s : Nat) (ps : List Hs) (h : Hs) (hs : s < 18446744073709551616) : (pushR n s ps h).1.2.length ≤ 65 := by
  unfold pushR
  split
  · rename_i hc
    have h1 := merge_len n s ps h
    have h2 := ones_64 s hs
    show (merge n s ps h).length ≤ 65
    omega
  · exact Nat.zero_le _
theorem peakF_32 (n : Int) (ps : List Hs) (h : All32 ps) : (peakF n ps).length = 32 := by
  unfold peakF
  split
  · exact emptyH_length _
  · rename_i hne
    refine fold_32 n _ _ (h _ ?_)
    obtain ⟨q, x, rfl⟩ : ∃ q x, ps = q ++ [x] := ⟨ps.dropLast, ps.getLast hne, (List.dropLast_concat_getLast hne).symm⟩
    simp
theorem peakR_32 (n : Int) (s : Nat) (ps : List Hs) (h : All32 ps) : (peakR n s ps).1.length = 32 := by
  unfold peakR
  split
  · exact peakF_32 n ps h
  · rfl

set_option maxHeartbeats 4000000 in
set_option maxRecDepth 100000 in
theorem leafPushes_walk (hp : LeafProg) (hdp : DataProg) (hrng : RngProg) (n : Int) (hn : I64 n) (s : Nat) (hs : s < 18446744073709551616) (v : Value) (ps : List Hs) (h : Hs) (w : World) (hv : Hss w v ps) (hl : ps.length ≤ 4398046511000) (hh : h.length = 32) (ht : Tabs w) (hbu : Bru w) (hk : Consts w) :
    Calls Tryd.prog 5 #[.int .i64 n, .agg (rngC s v), .agg (bs h)] w fun e w' => e = .returned (.bool true) ∧ Below w.heap.size w w' := by
  obtain ⟨a, c, rfl, hc⟩ := hv.form
  obtain ⟨m, hm⟩ : ∃ m, m = ps.length := ⟨_, rfl⟩
  rw [← hm] at hv hl hc ⊢
  obtain ⟨nine, hnine⟩ : ∃ x : Hs, x = 9 :: List.replicate 31 0 := ⟨_, rfl⟩
  have hn32 : nine.length = 32 := by rw [hnine]; rfl
  have HNine := Lib.hid (fun (W : World) => show (Instr.build 24 #[(0, .int .u8 9)]).run Tryd.prog W = .ok (.agg (bs nine)) W by rw [hnine]; kernel_rfl)
  have Hnine := Lib.hid hn32
  have HT := Lib.hid ht
  have HK := Lib.hid hk
  have HP := Lib.hid hp
  have HDt := Lib.hid hdp
  have HRng := Lib.hid hrng
  have HBu := Lib.hid hbu
  have HN := Lib.hid hn
  have HV := Lib.hid hv
  have HM := Lib.hid hm
  have HH := Lib.hid hh
  have HS := Lib.hid hs
  have H2 := Lib.hid (Two3.new w s (.slice a m c) h)
  clear hv ht hk hp hdp hrng hbu hn hm hh hnine hn32 hs
  go_enter Tryd.func5, Tryd.ntmps5
  go_upto_region 1 with fail
  refine world_cut (fun W => Two3 w s (.slice a m c) h W) H2.out ?_
  clear H2
  intro W1 hW1
  have HW1 := Lib.hid hW1
  clear hW1
  go_wp2_with fail
  refine (awake14_any HP.out HDt.out _ (HT.out.below (Nat.le_refl _) HW1.out.2.2)).mono ?_
  rintro e W2 ⟨rfl, hb2⟩
  have HW2 := Lib.hid (HW1.out.keep hb2)
  clear hb2 HW1
  go_upto_region 3 with fail
  have hG : ∀ W W' : World, Two3 w s (.slice a m c) h W → Below W.heap.size W W' → Two3 w s (.slice a m c) h W' := fun W W' h h' => h.keep h'
  have hB : ∀ W : World, Two3 w s (.slice a m c) h W → w.heap.size + 2 ≤ W.heap.size := fun W h => h.lt
  have hgr : ∀ (W W' : World) (row : Option Nat), Two3 w s (.slice a m c) h W → W.grownBy W' row → (∀ k, row = some k → w.heap.size + 2 ≤ k) → Two3 w s (.slice a m c) h W' := fun W W' row hW hg hrow => hW.far ((Below.refl _ _).grown hg hW.lt hrow)
  refine region_late_by 15 _ _ rfl [(18, .is (.pointer (some ⟨w.heap.size, 0, none⟩))), (19, .is (.int .u64 (s : Int))), (20, hlitF (w.heap.size + 2)), (21, .is (.pointer (some ⟨w.heap.size, 1, none⟩))), (22, .is (.slice a m c)), (23, ohsF (w.heap.size + 2) ps), (24, .is (.agg (bs nine))), (25, hssF [nine]), (26, ohsF (w.heap.size + 2) (ps ++ [nine])), (27, .is (.pointer (some ⟨w.heap.size, 1, none⟩))), (28, .is (.slice a m c)), (29, .is (.int .i64 (m : Int))), (30, prefF (w.heap.size + 2) m (ps ++ [nine])), (31, rngF (w.heap.size + 2) s m (ps ++ [nine])), (7, varF (w.heap.size + 2) 36 (rngC 0 (.slice none 0 0)))] [0, 1, 2, 3, 4, 5, 6, 7, 8, 9, 10, 11, 12, 13, 14, 15, 16, 17, 31]
    (fun W => Two3 w s (.slice a m c) h W) (by kernel_rfl) (by kernel_rfl) (by kernel_rfl) (by kernel_rfl) (fun k fk hk => .inl (lookup_ops (by kernel_rfl) hk)) rfl rfl rfl (by kernel_rfl) (hG _ _ HW2.out (Below.refl _ _).drew) ?_ ?_
  · refine ⟨?a0, ?a1, ?a2, ?a3, ?a4, ?a5, ?a6, ?a7, ?a8, ?a9, ?a10, ?a11, ?a12, ?a13, ?a14, trivial⟩
    case a0 => exact Asked.late (ask_field (guard_none rfl) _ (.tmp 4) 0 (.pointer (some ⟨w.heap.size, 0, none⟩)) (.pointer (some ⟨w.heap.size, 0, none⟩)) rfl rfl (by intro k hk; cases hk; rfl) (fun W => by kernel_rfl))
    case a1 => exact Asked.late (ask_load (guard_none rfl) _ (.tmp 18) (.pointer (some ⟨w.heap.size, 0, none⟩)) (.int .u64 (s : Int)) rfl rfl (by intro k hk; cases hk; rfl) (fun W hW => load_u64 W _ _ (by rw [hW.1.cell]; rfl)))
    case a2 => exact Asked.late (ask_build_none hG (guard_none rfl) _ hB rfl (by intro k hk; cases hk; rfl))
    case a3 => exact Asked.late (ask_field (guard_none rfl) _ (.tmp 4) 1 (.pointer (some ⟨w.heap.size, 0, none⟩)) (.pointer (some ⟨w.heap.size, 1, none⟩)) rfl rfl (by intro k hk; cases hk; rfl) (fun W => by kernel_rfl))
    case a4 => exact Asked.late (ask_load (guard_none rfl) _ (.tmp 21) (.pointer (some ⟨w.heap.size, 1, none⟩)) (.slice a m c) rfl rfl (by intro k hk; cases hk; rfl) (fun W hW => load_hl W _ _ (by rw [hW.1.cell]; rfl)))
    case a5 => exact Asked.late (ask_append_hlit hG (guard_none rfl) (.tmp 20) (.tmp 22) _ ps rfl rfl rfl (fun x W hW hk => by
      have e : x 22 = .slice a m c := hk 22 rfl
      show Hss W (x 22) ps
      rw [e]
      exact HV.out.below (Nat.le_refl _) hW.2.2) (by have := HM.out; omega) (by intro k hk; cases hk; rfl))
    case a6 => exact Asked.late (ask_build1 (guard_none rfl) _ 0 _ (.int .u8 9) (.agg (bs nine)) rfl rfl (by intro k hk; cases hk; rfl) HNine.out)
    case a7 => exact Asked.late (ask_build_hash hG (guard_none rfl) _ nine (bs nine) Hnine.out rfl rfl rfl (by intro k hk; cases hk; rfl))
    case a8 => exact ask_append_ohs3 [7] (by intro k hk; rw [List.mem_singleton.1 hk]; exact ⟨_, _, _, rfl, rfl⟩) (guard_none rfl) (by kernel_rfl) (.tmp 23) (.tmp 25) _ ps [nine] rfl rfl rfl (fun x W hW hk => hk 25 rfl) (by have := HM.out; simp only [List.length_singleton]; omega) hB hgr (by intro k hk; cases hk; rfl)
    case a9 => exact Asked.late (ask_field (guard_none rfl) _ (.tmp 4) 1 (.pointer (some ⟨w.heap.size, 0, none⟩)) (.pointer (some ⟨w.heap.size, 1, none⟩)) rfl rfl (by intro k hk; cases hk; rfl) (fun W => by kernel_rfl))
    case a10 => exact Asked.late (ask_load (guard_none rfl) _ (.tmp 27) (.pointer (some ⟨w.heap.size, 1, none⟩)) (.slice a m c) rfl rfl (by intro k hk; cases hk; rfl) (fun W hW => load_hl W _ _ (by rw [hW.1.cell]; rfl)))
    case a11 => exact Asked.late (ask_len (guard_none rfl) (.tmp 28) _ a m c rfl (by kernel_rfl) rfl (by intro k hk; cases hk; rfl))
    case a12 => exact Asked.late (ask_slice_pref hG (guard_none rfl) (.tmp 26) (.tmp 29) _ m _ rfl rfl rfl (by have := HM.out; simp only [List.length_append, List.length_singleton]; omega) (by simp) (by intro k hk; cases hk; rfl))
    case a13 => exact Asked.late (ask_build_rng hG (guard_none rfl) (.tmp 19) (.tmp 30) _ s m _ rfl rfl rfl (by intro k hk; cases hk; rfl))
    case a14 => exact Asked.late (ask_alloc hG (guard_none rfl) _ (.agg (rngC 0 (.slice none 0 0))) (varF (w.heap.size + 2) 36 (rngC 0 (.slice none 0 0))) rfl (fun W => by kernel_rfl) (by intro k hk; cases hk; rfl) (fun W hW => ⟨_, rfl, hB W hW, Blk.new W _ _⟩))
  intro a' W3 hW hd' hs' hf'
  have t7 : ∃ g, a'.tmps.getD 7 undef = .pointer (some ⟨g, 0, none⟩) ∧ w.heap.size + 2 ≤ g ∧ Blk W3 g 36 (rngC 0 (.slice none 0 0)) := hf' 7 rfl
  have t31 : ∃ ao co, a'.tmps.getD 31 undef = .agg (rngC s (.slice ao m co)) ∧ OHs W3 (w.heap.size + 2) (.slice ao (ps ++ [nine]).length co) (ps ++ [nine]) := hf' 31 rfl
  have t0 : a'.tmps.getD 0 undef = .int .i64 n := hf' 0 rfl
  have t1 : a'.tmps.getD 1 undef = .agg (rngC s (.slice a m c)) := hf' 1 rfl
  have t2 : a'.tmps.getD 2 undef = .agg (bs h) := hf' 2 rfl
  have t3 : a'.tmps.getD 3 undef = undef := hf' 3 rfl
  have t4 : a'.tmps.getD 4 undef = .pointer (some ⟨w.heap.size, 0, none⟩) := hf' 4 rfl
  have t5 : a'.tmps.getD 5 undef = .pointer (some ⟨w.heap.size + 1, 0, none⟩) := hf' 5 rfl
  have t6 : a'.tmps.getD 6 undef = .bool false := hf' 6 rfl
  have t8 : a'.tmps.getD 8 undef = undef := hf' 8 rfl
  have t9 : a'.tmps.getD 9 undef = undef := hf' 9 rfl
  have t10 : a'.tmps.getD 10 undef = undef := hf' 10 rfl
  have t11 : a'.tmps.getD 11 undef = undef := hf' 11 rfl
  have t12 : a'.tmps.getD 12 undef = undef := hf' 12 rfl
  have t13 : a'.tmps.getD 13 undef = undef := hf' 13 rfl
  have t14 : a'.tmps.getD 14 undef = undef := hf' 14 rfl
  have t15 : a'.tmps.getD 15 undef = undef := hf' 15 rfl
  have t16 : a'.tmps.getD 16 undef = .bool true := hf' 16 rfl
  have t17 : a'.tmps.getD 17 undef = .bool false := hf' 17 rfl
  obtain ⟨us', hus, ha'⟩ := act_open 104 a' hs' hd'
  rw [← hus] at t7 t31 t0 t1 t2 t3 t4 t5 t6 t8 t9 t10 t11 t12 t13 t14 t15 t16 t17
  have el : ((List.range 104).map us').toArray = #[.int .i64 n, .agg (rngC s (.slice a m c)), .agg (bs h), undef, .pointer (some ⟨w.heap.size, 0, none⟩), .pointer (some ⟨w.heap.size + 1, 0, none⟩), .bool false, us' 7, undef, undef, undef, undef, undef, undef, undef, undef, .bool true, .bool false, us' 18, us' 19, us' 20, us' 21, us' 22, us' 23, us' 24, us' 25, us' 26, us' 27, us' 28, us' 29, us' 30, us' 31, us' 32, us' 33, us' 34, us' 35, us' 36, us' 37, us' 38, us' 39, us' 40, us' 41, us' 42, us' 43, us' 44, us' 45, us' 46, us' 47, us' 48, us' 49, us' 50, us' 51, us' 52, us' 53, us' 54, us' 55, us' 56, us' 57, us' 58, us' 59, us' 60, us' 61, us' 62, us' 63, us' 64, us' 65, us' 66, us' 67, us' 68, us' 69, us' 70, us' 71, us' 72, us' 73, us' 74, us' 75, us' 76, us' 77, us' 78, us' 79, us' 80, us' 81, us' 82, us' 83, us' 84, us' 85, us' 86, us' 87, us' 88, us' 89, us' 90, us' 91, us' 92, us' 93, us' 94, us' 95, us' 96, us' 97, us' 98, us' 99, us' 100, us' 101, us' 102, us' 103] := by
    show #[us' 0, us' 1, us' 2, us' 3, us' 4, us' 5, us' 6, us' 7, us' 8, us' 9, us' 10, us' 11, us' 12, us' 13, us' 14, us' 15, us' 16, us' 17, us' 18, us' 19, us' 20, us' 21, us' 22, us' 23, us' 24, us' 25, us' 26, us' 27, us' 28, us' 29, us' 30, us' 31, us' 32, us' 33, us' 34, us' 35, us' 36, us' 37, us' 38, us' 39, us' 40, us' 41, us' 42, us' 43, us' 44, us' 45, us' 46, us' 47, us' 48, us' 49, us' 50, us' 51, us' 52, us' 53, us' 54, us' 55, us' 56, us' 57, us' 58, us' 59, us' 60, us' 61, us' 62, us' 63, us' 64, us' 65, us' 66, us' 67, us' 68, us' 69, us' 70, us' 71, us' 72, us' 73, us' 74, us' 75, us' 76, us' 77, us' 78, us' 79, us' 80, us' 81, us' 82, us' 83, us' 84, us' 85, us' 86, us' 87, us' 88, us' 89, us' 90, us' 91, us' 92, us' 93, us' 94, us' 95, us' 96, us' 97, us' 98, us' 99, us' 100, us' 101, us' 102, us' 103] = _
    rw [t0, t1, t2, t3, t4, t5, t6, t8, t9, t10, t11, t12, t13, t14, t15, t16, t17]
  rw [el] at ha'
  subst ha'
  clear hus t0 t1 t2 t3 t4 t5 t6 t8 t9 t10 t11 t12 t13 t14 t15 t16 t17 el hf' hs' hd'
  obtain ⟨g7, e7, hg7, hb7⟩ := t7
  obtain ⟨ao, co, e31, hO⟩ := t31
  rw [e7, e31]
  have HB7 := Lib.hid hb7
  have HO := Lib.hid hO
  have HW3 := Lib.hid hW
  have HG7 := Lib.hid hg7
  clear e7 e31 hg7 hb7 hO hW hG hB hgr HW2
  go_upto_region 4 with (refine wpList_store_row rfl 36 (.tmp 7) (.tmp 31) rfl g7 (rngC s (.slice ao m co)) rfl rfl 36 _ HB7.out (size_rng _ _) rfl (rng_one _ _ _ _) ?_)
  obtain ⟨gp, cp, ep, hcp, _⟩ := HO.out.form (by simp)
  cases ep
  obtain ⟨ado, hado⟩ : ∃ p : Addr, p = ⟨gp, 0, none⟩ := ⟨_, rfl⟩
  rw [← hado] at HO ⊢
  obtain ⟨m1, hm1⟩ : ∃ k, k = m + 1 := ⟨_, rfl⟩
  have hlen : (ps ++ [nine]).length = m1 := by rw [hm1, HM.out]; simp
  rw [hlen] at HO hcp
  have hbel : Below w.heap.size w (W3.setRow g7 (rngC s (.slice (some ado) m co))) := below_setRow HW3.out.2.2 _ _ (by have := HG7.out; omega)
  refine world_cut (fun W => Blk W w.heap.size 36 (rngC s (.slice a m c)) ∧ Blk W (w.heap.size + 1) 24 (bs h) ∧ Blk W g7 36 (rngC s (.slice (some ado) m co)) ∧ OHs W (w.heap.size + 2) (.slice (some ado) m1 co) (ps ++ [nine]) ∧ Below w.heap.size w W)
    ⟨HW3.out.1.rowOther _ (by have := HG7.out; omega), HW3.out.2.1.rowOther _ (by have := HG7.out; omega), HB7.out.row _, HO.out.farR HB7.out, hbel⟩ ?_
  clear hbel HB7 HO HW3 HG7 hado hlen
  have HM1i := Lib.hid (show (m : Int) + 1 = (m1 : Int) by omega)
  have HM1b := Lib.hid (show -4611686018427387904 ≤ (m1 : Int) ∧ (m1 : Int) ≤ 4611686018427387904 by omega)
  have HM1 := Lib.hid hm1
  clear hm1
  rintro X0 ⟨h4, h5, h7, hO, hbw⟩
  have HF4 := Lib.hid h4
  have HF5 := Lib.hid h5
  have HF7 := Lib.hid h7
  have HO := Lib.hid hO
  have HBw := Lib.hid hbw
  clear h4 h5 h7 hO hbw
  obtain ⟨⟨⟨S1, Q⟩, E1⟩, hRR⟩ : ∃ R, R = pushR n s ps h := ⟨_, rfl⟩
  have hQl : Q.length ≤ 65 := by have := pushR_len n s ps h HS.out; rwa [← hRR] at this
  obtain ⟨⟨K, E2⟩, hKK⟩ : ∃ R, R = peakR n s ps := ⟨_, rfl⟩
  have hK32 : K.length = 32 := by have := peakR_32 n s ps HV.out.all; rwa [← hKK] at this
  have HSK := Lib.hid (size_hash (cs := bs K) (by rw [bs_size, hK32]))
  have HK32 := Lib.hid hK32
  have HQl := Lib.hid hQl
  have hown : ∀ W, OHs W (w.heap.size + 2) (.slice (some ado) m1 co) (ps ++ [nine]) → Hss W (.slice (some ado) m co) ps := fun W hW => by
    have := (hW.take (i := m) (by rw [HM.out]; simp)).hss
    rwa [List.take_append_of_le_length (by rw [HM.out]; exact Nat.le_refl _), List.take_of_length_le (by rw [HM.out]; exact Nat.le_refl _)] at this
  have HOwn := Lib.hid hown
  have PPush := Lib.hid (fun (W : World) (hb : Below w.heap.size w W) (hO : OHs W (w.heap.size + 2) (.slice (some ado) m1 co) (ps ++ [nine])) => HRng.out.push n s (.slice (some ado) m co) ps h W HN.out (hown W hO) HH.out HS.out (by rw [← HM.out]; omega) (HT.out.below (Nat.le_refl _) hb) (HBu.out.below (Nat.le_refl _) hb))
  have RPush := Lib.hid (fun (W : World) (hb : Below w.heap.size w W) => refpush_any n HN.out s (.slice a m c) ps h W (HV.out.below (Nat.le_refl _) hb) HH.out HS.out (by rw [← HM.out]; omega) (HK.out.below (Nat.le_refl _) hb))
  have PPeak := Lib.hid (fun (W : World) (hb : Below w.heap.size w W) (hO : OHs W (w.heap.size + 2) (.slice (some ado) m1 co) (ps ++ [nine])) => HRng.out.peak n s (.slice (some ado) m co) ps W HN.out (hown W hO) HS.out (by rw [← HM.out]; omega) (HT.out.below (Nat.le_refl _) hb))
  have RPeak := Lib.hid (fun (W : World) (hb : Below w.heap.size w W) => refpeak_any n HN.out s (.slice a m c) ps W (HV.out.below (Nat.le_refl _) hb) HS.out (by rw [← HM.out]; omega) (HK.out.below (Nat.le_refl _) hb))
  simp only [← hRR] at PPush RPush
  simp only [← hKK] at PPeak RPeak
  have HSh := Lib.hid (size_hash (cs := bs h) (by rw [bs_size, HH.out]))
  clear hRR hKK hK32 hQl hown
  go_wp2_with (first
    | (refine wpList_load_row rfl 36 (.tmp 7) rfl g7 rfl 36 (rngC s (.slice (some ado) m co)) (0, 0) _ HF7.out Tryd.underlying36 rfl (size_rng _ _) ?_)
    | (refine wpList_load_row rfl 24 (.tmp 5) rfl (w.heap.size + 1) rfl 24 (bs h) (0, 0) _ HF5.out Tryd.underlying24 rfl HSh.out ?_))
  refine (PPush.out _ HBw.out HO.out).mono ?_
  rintro e Y1 ⟨pv, rfl, hq, hb⟩
  obtain ⟨pa, pc, rfl, _⟩ := hq.hss.form
  obtain ⟨pn, hpn⟩ : ∃ k, k = Q.length := ⟨_, rfl⟩
  rw [← hpn] at hq ⊢
  have HQ := Lib.hid hq.hss
  have HB := Lib.hid hb
  clear hq hb hpn PPush
  go_upto_region 5 with (refine wpList_store_row rfl 36 (.tmp 8) (.tmp 37) rfl Y1.heap.size (rngC S1 (.slice pa pn pc)) rfl rfl 36 _ (Blk.new Y1 _ _) (size_rng _ _) rfl (rng_one _ _ _ _) ?_)
  obtain ⟨g8, hg8⟩ : ∃ g, g = Y1.heap.size := ⟨_, rfl⟩
  have hnew := fun zs cs => HB.out.trans ((below_new Y1 zs cs 36).mono HB.out.size)
  refine world_cut (fun W => Blk W g8 36 (rngC S1 (.slice pa pn pc)) ∧ Hss W (.slice pa pn pc) Q ∧ Below X0.heap.size X0 W) ⟨by rw [hg8]; exact Blk.row (Blk.new Y1 _ _) _, HQ.out.below (Nat.le_refl _) (below_new Y1 _ _ _), hnew _ _⟩ ?_
  rw [← hg8]
  clear hg8 hnew HB HQ
  rintro X1 ⟨h8, hq, hb⟩
  have HF8 := Lib.hid h8
  have HQ := Lib.hid hq
  have HB01 := Lib.hid hb
  have hw1 := HBw.out.trans (hb.mono HBw.out.size)
  have HBw1 := Lib.hid hw1
  have HF41 := Lib.hid (HF4.out.keep hb)
  have HF51 := Lib.hid (HF5.out.keep hb)
  clear h8 hq hb hw1
  go_wp2_with (first
    | (refine wpList_load_row rfl 36 (.tmp 4) rfl w.heap.size rfl 36 (rngC s (.slice a m c)) (0, 0) _ HF41.out Tryd.underlying36 rfl (size_rng _ _) ?_)
    | (refine wpList_load_row rfl 24 (.tmp 5) rfl (w.heap.size + 1) rfl 24 (bs h) (0, 0) _ HF51.out Tryd.underlying24 rfl HSh.out ?_))
  refine (RPush.out _ HBw1.out).mono ?_
  rintro e Y2 ⟨qv, rfl, hq, hb⟩
  obtain ⟨qa, qc, rfl, _⟩ := hq.hss.form
  obtain ⟨qn, hqn⟩ : ∃ k, k = Q.length := ⟨_, rfl⟩
  rw [← hqn] at hq ⊢
  have HQ2 := Lib.hid hq.hss
  have HB := Lib.hid hb
  clear hq hb hqn RPush HF51 HF41
  go_upto_region 6 with (refine wpList_store_row rfl 36 (.tmp 10) (.tmp 44) rfl Y2.heap.size (rngC S1 (.slice qa qn qc)) rfl rfl 36 _ (Blk.new Y2 _ _) (size_rng _ _) rfl (rng_one _ _ _ _) ?_)
  obtain ⟨g10, hg10⟩ : ∃ g, g = Y2.heap.size := ⟨_, rfl⟩
  have hnew := fun zs cs => HB.out.trans ((below_new Y2 zs cs 36).mono HB.out.size)
  refine world_cut (fun W => Blk W g10 36 (rngC S1 (.slice qa qn qc)) ∧ Hss W (.slice qa qn qc) Q ∧ Below X1.heap.size X1 W) ⟨by rw [hg10]; exact Blk.row (Blk.new Y2 _ _) _, HQ2.out.below (Nat.le_refl _) (below_new Y2 _ _ _), hnew _ _⟩ ?_
  rw [← hg10]
  clear hg10 hnew HB HQ2
  rintro X2 ⟨h10, hq, hb⟩
  have HF10 := Lib.hid h10
  have HQ2 := Lib.hid hq
  have HB12 := Lib.hid hb
  have h02 := HB01.out.trans (hb.mono HB01.out.size)
  have HB02 := Lib.hid h02
  have HBw2 := Lib.hid (HBw.out.trans (h02.mono HBw.out.size))
  have HF72 := Lib.hid (HF7.out.keep h02)
  have HO2 := Lib.hid (HO.out.below h02)
  clear h10 hq hb h02
  go_wp2_with (refine wpList_load_row rfl 36 (.tmp 7) rfl g7 rfl 36 (rngC s (.slice (some ado) m co)) (0, 0) _ HF72.out Tryd.underlying36 rfl (size_rng _ _) ?_)
  refine (PPeak.out _ HBw2.out HO2.out).mono ?_
  rintro e Y3 ⟨rfl, hb⟩
  have HB := Lib.hid hb
  clear hb PPeak HF72 HO2
  go_upto_region 7 with (refine wpList_store_row rfl 24 (.tmp 12) (.tmp 50) rfl Y3.heap.size (bs K) rfl rfl 24 _ (Blk.new Y3 _ _) HSK.out (by rw [bs_size, HK32.out]; rfl) (bs_one _) ?_)
  obtain ⟨g12, hg12⟩ : ∃ g, g = Y3.heap.size := ⟨_, rfl⟩
  have hnew := fun zs cs => HB.out.trans ((below_new Y3 zs cs 24).mono HB.out.size)
  refine world_cut (fun W => Blk W g12 24 (bs K) ∧ Below X2.heap.size X2 W) ⟨by rw [hg12]; exact Blk.row (Blk.new Y3 _ _) _, hnew _ _⟩ ?_
  rw [← hg12]
  clear hg12 hnew HB
  rintro X3 ⟨h12, hb⟩
  have HF12 := Lib.hid h12
  have HB23 := Lib.hid hb
  have h03 := HB02.out.trans (hb.mono HB02.out.size)
  have HB03 := Lib.hid h03
  have HBw3 := Lib.hid (HBw.out.trans (h03.mono HBw.out.size))
  have HF43 := Lib.hid (HF4.out.keep h03)
  clear h12 hb h03
  go_wp2_with (refine wpList_load_row rfl 36 (.tmp 4) rfl w.heap.size rfl 36 (rngC s (.slice a m c)) (0, 0) _ HF43.out Tryd.underlying36 rfl (size_rng _ _) ?_)
  refine (RPeak.out _ HBw3.out).mono ?_
  rintro e Y4 ⟨rfl, hb⟩
  have HB := Lib.hid hb
  clear hb RPeak HF43
  go_upto_region 8 with (refine wpList_store_row rfl 24 (.tmp 14) (.tmp 56) rfl Y4.heap.size (bs K) rfl rfl 24 _ (Blk.new Y4 _ _) HSK.out (by rw [bs_size, HK32.out]; rfl) (bs_one _) ?_)
  obtain ⟨g14, hg14⟩ : ∃ g, g = Y4.heap.size := ⟨_, rfl⟩
  have hnew := fun zs cs => HB.out.trans ((below_new Y4 zs cs 24).mono HB.out.size)
  refine world_cut (fun W => Blk W g14 24 (bs K) ∧ Below X3.heap.size X3 W) ⟨by rw [hg14]; exact Blk.row (Blk.new Y4 _ _) _, hnew _ _⟩ ?_
  rw [← hg14]
  clear hg14 hnew HB
  rintro W0 ⟨h14, hb⟩
  have HF14 := Lib.hid h14
  have h2 := HB23.out.trans (hb.mono HB23.out.size)
  have h1 := HB12.out.trans (h2.mono HB12.out.size)
  have h0 := HB01.out.trans (h1.mono HB01.out.size)
  have HF12 := Lib.hid (HF12.out.keep hb)
  have HF10 := Lib.hid (HF10.out.keep h2)
  have HQ2 := Lib.hid (HQ2.out.below (Nat.le_refl _) h2)
  have HF8 := Lib.hid (HF8.out.keep h1)
  have HQ := Lib.hid (HQ.out.below (Nat.le_refl _) h1)
  have HF7 := Lib.hid (HF7.out.keep h0)
  have HF5 := Lib.hid (HF5.out.keep h0)
  have HF4 := Lib.hid (HF4.out.keep h0)
  have HO := Lib.hid (HO.out.below h0)
  have HB := Lib.hid (HBw.out.trans (h0.mono HBw.out.size))
  clear h14 hb h2 h1 h0 HB01 HB02 HB03 HB12 HB23 HBw HBw1 HBw2 HBw3
  obtain ⟨br, hbr⟩ : ∃ b, b = decide (m = ones s) := ⟨_, rfl⟩
  have PRt := Lib.hid (fun (W : World) (hW : Below W0.heap.size W0 W) => HRng.out.right s m co (some ado) W HS.out)
  have RRt := Lib.hid (fun (W : World) (hW : Below W0.heap.size W0 W) => refright_any s m c a W HS.out)
  rw [← hbr] at PRt RRt
  have RS1 := Lib.hid (fun (W : World) (hW : Below W0.heap.size W0 W) => refsame_any S1 S1 (.slice pa pn pc) (.slice qa qn qc) Q Q W (HQ.out.below (Nat.le_refl _) hW) (HQ2.out.below (Nat.le_refl _) hW) (by have := HQl.out; omega) (by have := HQl.out; omega))
  have RS2 := Lib.hid (fun (W : World) (hW : Below W0.heap.size W0 W) => refsame_any s s (.slice (some ado) m co) (.slice a m c) ps ps W (HOwn.out W (HO.out.below hW)) (HV.out.below (Nat.le_refl _) (HB.out.trans (hW.mono HB.out.size))) (by rw [← HM.out]; omega) (by rw [← HM.out]; omega))
  simp only [and_self, decide_true] at RS1 RS2
  have hx : (ps ++ [nine])[m]? = some nine := by rw [HM.out]; simp
  have HLd := Lib.hid (fun (W : World) (hW : Below W0.heap.size W0 W) => load_hash W (ado.add (m * 32)) nine Hnine.out fun j u hj => by
    obtain ⟨ad2, e, h⟩ := (HO.out.below hW).hss.load hx
    cases e
    exact h j u hj)
  have HIx := Lib.hid (fun W => hss_index W ado m1 co m (by have := HM1.out; omega))
  have HSl := Lib.hid (fun (W : World) => show (Instr.sliceAt 30 (.slice (some ado) m co) none (some (.int .i64 (m1 : Int))) none).run Tryd.prog W = .ok (.slice (some ado) m1 co) W by
    have h := slice_hs_to (some ado) m co m1 (by omega) W
    rwa [sliced_zero] at h)
  have hG : ∀ W W' : World, Below W0.heap.size W0 W → Below W.heap.size W W' → Below W0.heap.size W0 W' := fun W W' h h' => h.trans (h'.mono h.size)
  have HK := HK32
  clear hbr hx
  refine region_by [(58, .is (.agg (rngC s (.slice (some ado) m co)))), (59, .is (.bool br)), (60, .is (.agg (rngC s (.slice a m c)))), (61, .is (.bool br)), (62, .is (.bool true)), (63, .is (.bool true)), (64, .is (.int .i64 (E1 : Int))), (65, .is (.int .i64 (E1 : Int))), (66, .is (.bool true)), (67, .is (.bool true)), (68, .is (.bool true)), (69, .is (.agg (rngC S1 (.slice pa pn pc)))), (70, .is (.agg (rngC S1 (.slice qa qn qc)))), (71, .is (.bool true)), (72, .is (.bool true)), (73, .is (.bool true)), (74, .is (.agg (bs K))), (75, .is (.agg (bs K))), (76, .is (.bool true)), (77, .is (.bool true)), (78, .is (.bool true)), (79, .is (.int .i64 (E2 : Int))), (80, .is (.int .i64 (E2 : Int))), (81, .is (.bool true)), (82, .is (.bool true)), (83, .is (.bool true)), (84, .is (.agg (rngC s (.slice (some ado) m co)))), (85, .is (.agg (rngC s (.slice a m c)))), (86, .is (.bool true)), (87, .is (.bool true)), (88, .is (.bool true)), (89, .is (.pointer (some ⟨g7, 1, none⟩))), (90, .is (.slice (some ado) m co)), (91, .is (.pointer (some ⟨w.heap.size, 1, none⟩))), (92, .is (.slice a m c)), (93, .is (.int .i64 (m : Int))), (94, .is (.int .i64 (m1 : Int))), (95, .is (.slice (some ado) m1 co)), (96, .is (.pointer (some ⟨w.heap.size, 1, none⟩))), (97, .is (.slice a m c)), (98, .is (.int .i64 (m : Int))), (99, .is (.pointer (some (ado.add (m * 32))))), (100, .is (.agg (bs nine))), (101, .is (.agg (bs nine))), (102, .is (.bool true)), (103, .is (.bool true)), (6, .is (.bool true))] [6] (fun W => Below W0.heap.size W0 W) (by kernel_rfl) (by kernel_rfl) (by kernel_rfl) (by kernel_rfl) (by kernel_rfl) ((Below.refl _ _).drew) ?_ ?_
  · refine ⟨?c0, ?c1, ?c2, ?c3, ?c4, ?c5, ?c6, ?c7, ?c8, ?c9, ?c10, ?c11, ?c12, ?c13, ?c14, ?c15, ?c16, ?c17, ?c18, ?c19, ?c20, ?c21, ?c22, ?c23, ?c24, ?c25, ?c26, ?c27, ?c28, ?c29, ?c30, ?c31, ?c32, ?c33, ?c34, ?c35, ?c36, ?c37, ?c38, ?c39, ?c40, ?c41, ?c42, ?c43, ?c44, ?c45, ?c46, trivial⟩
    case c0 => exact ask_load (guard_none rfl) _ (.tmp 7) (.pointer (some ⟨g7, 0, none⟩)) (.agg (rngC s (.slice (some ado) m co))) rfl rfl (by intro k hk; cases hk; rfl) (fun W hW => (HF7.out.keep hW).loads 36 _ Tryd.underlying36 rfl (size_rng _ _))
    case c1 => exact ask_call hG (guard_none rfl) _ _ _ #[.agg (rngC s (.slice (some ado) m co))] (.is (.bool br)) rfl (by kernel_rfl) rfl rfl (by intro k hk; cases hk; rfl) (fun W hW => (PRt.out W hW).mono fun e w' h => ⟨_, h.1, rfl, h.2⟩)
    case c2 => exact ask_load (guard_none rfl) _ (.tmp 4) (.pointer (some ⟨w.heap.size, 0, none⟩)) (.agg (rngC s (.slice a m c))) rfl rfl (by intro k hk; cases hk; rfl) (fun W hW => (HF4.out.keep hW).loads 36 _ Tryd.underlying36 rfl (size_rng _ _))
    case c3 => exact ask_call hG (guard_none rfl) _ _ _ #[.agg (rngC s (.slice a m c))] (.is (.bool br)) rfl (by kernel_rfl) rfl rfl (by intro k hk; cases hk; rfl) (fun W hW => (RRt.out W hW).mono fun e w' h => ⟨_, h.1, rfl, h.2⟩)
    case c4 => exact ask_bin (guard_none rfl) .eql _ _ (.tmp 59) (.tmp 61) (.bool br) (.bool br) (.bool true) rfl rfl rfl (by intro k hk; cases hk; rfl) (eql_bool_same _ _ _)
    case c5 => exact ask_copy (guard_none rfl) (.tmp 62) (.inl rfl) (by intro k hk; cases hk; rfl)
    case c6 => exact ask_copy (guard_some rfl rfl rfl) (.tmp 9) (.inl rfl) (by intro k hk; cases hk; rfl)
    case c7 => exact ask_copy (guard_some rfl rfl rfl) (.tmp 11) (.inl rfl) (by intro k hk; cases hk; rfl)
    case c8 => exact ask_bin (guard_some rfl rfl rfl) .eql _ _ (.tmp 64) (.tmp 65) (.int .i64 (E1 : Int)) (.int .i64 (E1 : Int)) (.bool true) rfl rfl rfl (by intro k hk; cases hk; rfl) (eql_int _ _ _ _ _)
    case c9 => exact ask_pick (guard_none rfl) (.tmp 63) (.tmp 66) (.const (.bool false)) true rfl rfl (by intro k hk; cases hk; rfl)
    case c10 => exact ask_copy (guard_none rfl) (.tmp 67) (.inl rfl) (by intro k hk; cases hk; rfl)
    case c11 => exact ask_load (guard_some rfl rfl rfl) _ (.tmp 8) (.pointer (some ⟨g8, 0, none⟩)) (.agg (rngC S1 (.slice pa pn pc))) rfl rfl (by intro k hk; cases hk; rfl) (fun W hW => (HF8.out.keep hW).loads 36 _ Tryd.underlying36 rfl (size_rng _ _))
    case c12 => exact ask_load (guard_some rfl rfl rfl) _ (.tmp 10) (.pointer (some ⟨g10, 0, none⟩)) (.agg (rngC S1 (.slice qa qn qc))) rfl rfl (by intro k hk; cases hk; rfl) (fun W hW => (HF10.out.keep hW).loads 36 _ Tryd.underlying36 rfl (size_rng _ _))
    case c13 => exact ask_call hG (guard_some rfl rfl rfl) _ _ _ #[.agg (rngC S1 (.slice pa pn pc)), .agg (rngC S1 (.slice qa qn qc))] (.is (.bool true)) rfl (by kernel_rfl) rfl rfl (by intro k hk; cases hk; rfl) (fun W hW => (RS1.out W hW).mono fun e w' h => ⟨_, h.1, rfl, h.2⟩)
    case c14 => exact ask_pick (guard_none rfl) (.tmp 68) (.tmp 71) (.const (.bool false)) true rfl rfl (by intro k hk; cases hk; rfl)
    case c15 => exact ask_copy (guard_none rfl) (.tmp 72) (.inl rfl) (by intro k hk; cases hk; rfl)
    case c16 => exact ask_load (guard_some rfl rfl rfl) _ (.tmp 12) (.pointer (some ⟨g12, 0, none⟩)) (.agg (bs K)) rfl rfl (by intro k hk; cases hk; rfl) (fun W hW => (HF12.out.keep hW).loads 24 _ Tryd.underlying24 rfl HSK.out)
    case c17 => exact ask_load (guard_some rfl rfl rfl) _ (.tmp 14) (.pointer (some ⟨g14, 0, none⟩)) (.agg (bs K)) rfl rfl (by intro k hk; cases hk; rfl) (fun W hW => (HF14.out.keep hW).loads 24 _ Tryd.underlying24 rfl HSK.out)
    case c18 => exact ask_bin (guard_some rfl rfl rfl) .eql _ _ (.tmp 74) (.tmp 75) (.agg (bs K)) (.agg (bs K)) (.bool true) rfl rfl rfl (by intro k hk; cases hk; rfl) (eql_hash _ _ K HK.out)
    case c19 => exact ask_pick (guard_none rfl) (.tmp 73) (.tmp 76) (.const (.bool false)) true rfl rfl (by intro k hk; cases hk; rfl)
    case c20 => exact ask_copy (guard_none rfl) (.tmp 77) (.inl rfl) (by intro k hk; cases hk; rfl)
    case c21 => exact ask_copy (guard_some rfl rfl rfl) (.tmp 13) (.inl rfl) (by intro k hk; cases hk; rfl)
    case c22 => exact ask_copy (guard_some rfl rfl rfl) (.tmp 15) (.inl rfl) (by intro k hk; cases hk; rfl)
    case c23 => exact ask_bin (guard_some rfl rfl rfl) .eql _ _ (.tmp 79) (.tmp 80) (.int .i64 (E2 : Int)) (.int .i64 (E2 : Int)) (.bool true) rfl rfl rfl (by intro k hk; cases hk; rfl) (eql_int _ _ _ _ _)
    case c24 => exact ask_pick (guard_none rfl) (.tmp 78) (.tmp 81) (.const (.bool false)) true rfl rfl (by intro k hk; cases hk; rfl)
    case c25 => exact ask_copy (guard_none rfl) (.tmp 82) (.inl rfl) (by intro k hk; cases hk; rfl)
    case c26 => exact ask_load (guard_some rfl rfl rfl) _ (.tmp 7) (.pointer (some ⟨g7, 0, none⟩)) (.agg (rngC s (.slice (some ado) m co))) rfl rfl (by intro k hk; cases hk; rfl) (fun W hW => (HF7.out.keep hW).loads 36 _ Tryd.underlying36 rfl (size_rng _ _))
    case c27 => exact ask_load (guard_some rfl rfl rfl) _ (.tmp 4) (.pointer (some ⟨w.heap.size, 0, none⟩)) (.agg (rngC s (.slice a m c))) rfl rfl (by intro k hk; cases hk; rfl) (fun W hW => (HF4.out.keep hW).loads 36 _ Tryd.underlying36 rfl (size_rng _ _))
    case c28 => exact ask_call hG (guard_some rfl rfl rfl) _ _ _ #[.agg (rngC s (.slice (some ado) m co)), .agg (rngC s (.slice a m c))] (.is (.bool true)) rfl (by kernel_rfl) rfl rfl (by intro k hk; cases hk; rfl) (fun W hW => (RS2.out W hW).mono fun e w' h => ⟨_, h.1, rfl, h.2⟩)
    case c29 => exact ask_pick (guard_none rfl) (.tmp 83) (.tmp 86) (.const (.bool false)) true rfl rfl (by intro k hk; cases hk; rfl)
    case c30 => exact ask_copy (guard_none rfl) (.tmp 87) (.inl rfl) (by intro k hk; cases hk; rfl)
    case c31 => exact ask_field (guard_some rfl rfl rfl) _ (.tmp 7) 1 (.pointer (some ⟨g7, 0, none⟩)) (.pointer (some ⟨g7, 1, none⟩)) rfl rfl (by intro k hk; cases hk; rfl) (fun W => by kernel_rfl)
    case c32 => exact ask_load (guard_some rfl rfl rfl) _ (.tmp 89) (.pointer (some ⟨g7, 1, none⟩)) (.slice (some ado) m co) rfl rfl (by intro k hk; cases hk; rfl) (fun W hW => load_hl W _ _ (by rw [(HF7.out.keep hW).cell]; rfl))
    case c33 => exact ask_field (guard_some rfl rfl rfl) _ (.tmp 4) 1 (.pointer (some ⟨w.heap.size, 0, none⟩)) (.pointer (some ⟨w.heap.size, 1, none⟩)) rfl rfl (by intro k hk; cases hk; rfl) (fun W => by kernel_rfl)
    case c34 => exact ask_load (guard_some rfl rfl rfl) _ (.tmp 91) (.pointer (some ⟨w.heap.size, 1, none⟩)) (.slice a m c) rfl rfl (by intro k hk; cases hk; rfl) (fun W hW => load_hl W _ _ (by rw [(HF4.out.keep hW).cell]; rfl))
    case c35 => exact ask_len (guard_some rfl rfl rfl) (.tmp 92) _ a m c rfl (by kernel_rfl) rfl (by intro k hk; cases hk; rfl)
    case c36 => exact ask_bin (guard_some rfl rfl rfl) .add _ _ (.tmp 93) _ (.int .i64 (m : Int)) (.int .i64 1) (.int .i64 (m1 : Int)) rfl rfl rfl (by intro k hk; cases hk; rfl) (fun W => add_i64 _ _ _ _ _ _ HM1i.out HM1b.out W)
    case c37 => exact ask_slice (guard_some rfl rfl rfl) _ (.tmp 90) none (some (.tmp 94)) none (.slice (some ado) m co) (.slice (some ado) m1 co) none (some (.int .i64 (m1 : Int))) none rfl rfl rfl rfl rfl (by intro k hk; cases hk; rfl) (HSl.out)
    case c38 => exact ask_field (guard_some rfl rfl rfl) _ (.tmp 4) 1 (.pointer (some ⟨w.heap.size, 0, none⟩)) (.pointer (some ⟨w.heap.size, 1, none⟩)) rfl rfl (by intro k hk; cases hk; rfl) (fun W => by kernel_rfl)
    case c39 => exact ask_load (guard_some rfl rfl rfl) _ (.tmp 96) (.pointer (some ⟨w.heap.size, 1, none⟩)) (.slice a m c) rfl rfl (by intro k hk; cases hk; rfl) (fun W hW => load_hl W _ _ (by rw [(HF4.out.keep hW).cell]; rfl))
    case c40 => exact ask_len (guard_some rfl rfl rfl) (.tmp 97) _ a m c rfl (by kernel_rfl) rfl (by intro k hk; cases hk; rfl)
    case c41 => exact ask_idx (guard_some rfl rfl rfl) _ (.tmp 95) (.tmp 98) (.slice (some ado) m1 co) (.int .i64 (m : Int)) (.pointer (some (ado.add (m * 32)))) rfl rfl rfl (by intro k hk; cases hk; rfl) HIx.out
    case c42 => exact ask_load (guard_some rfl rfl rfl) _ (.tmp 99) (.pointer (some (ado.add (m * 32)))) (.agg (bs nine)) rfl rfl (by intro k hk; cases hk; rfl) (fun W hW => HLd.out W hW)
    case c43 => exact ask_build1 (guard_some rfl rfl rfl) _ 0 _ (.int .u8 9) (.agg (bs nine)) rfl rfl (by intro k hk; cases hk; rfl) HNine.out
    case c44 => exact ask_bin (guard_some rfl rfl rfl) .eql _ _ (.tmp 100) (.tmp 101) (.agg (bs nine)) (.agg (bs nine)) (.bool true) rfl rfl rfl (by intro k hk; cases hk; rfl) (eql_hash _ _ nine Hnine.out)
    case c45 => exact ask_pick (guard_none rfl) (.tmp 88) (.tmp 102) (.const (.bool false)) true rfl rfl (by intro k hk; cases hk; rfl)
    case c46 => exact ask_copy (guard_none rfl) (.tmp 103) (.inr rfl) (by intro k hk; cases hk; rfl)
  · intro a' W hW hd' hs' hf'
    have t6 : a'.tmps.getD 6 undef = .bool true := hf' 6 rfl
    obtain ⟨us', hus, ha'⟩ := act_open 104 a' hs' hd'
    rw [← hus] at t6
    have el : ((List.range 104).map us').toArray = #[us' 0, us' 1, us' 2, us' 3, us' 4, us' 5, .bool true, us' 7, us' 8, us' 9, us' 10, us' 11, us' 12, us' 13, us' 14, us' 15, us' 16, us' 17, us' 18, us' 19, us' 20, us' 21, us' 22, us' 23, us' 24, us' 25, us' 26, us' 27, us' 28, us' 29, us' 30, us' 31, us' 32, us' 33, us' 34, us' 35, us' 36, us' 37, us' 38, us' 39, us' 40, us' 41, us' 42, us' 43, us' 44, us' 45, us' 46, us' 47, us' 48, us' 49, us' 50, us' 51, us' 52, us' 53, us' 54, us' 55, us' 56, us' 57, us' 58, us' 59, us' 60, us' 61, us' 62, us' 63, us' 64, us' 65, us' 66, us' 67, us' 68, us' 69, us' 70, us' 71, us' 72, us' 73, us' 74, us' 75, us' 76, us' 77, us' 78, us' 79, us' 80, us' 81, us' 82, us' 83, us' 84, us' 85, us' 86, us' 87, us' 88, us' 89, us' 90, us' 91, us' 92, us' 93, us' 94, us' 95, us' 96, us' 97, us' 98, us' 99, us' 100, us' 101, us' 102, us' 103] := by
      show #[us' 0, us' 1, us' 2, us' 3, us' 4, us' 5, us' 6, us' 7, us' 8, us' 9, us' 10, us' 11, us' 12, us' 13, us' 14, us' 15, us' 16, us' 17, us' 18, us' 19, us' 20, us' 21, us' 22, us' 23, us' 24, us' 25, us' 26, us' 27, us' 28, us' 29, us' 30, us' 31, us' 32, us' 33, us' 34, us' 35, us' 36, us' 37, us' 38, us' 39, us' 40, us' 41, us' 42, us' 43, us' 44, us' 45, us' 46, us' 47, us' 48, us' 49, us' 50, us' 51, us' 52, us' 53, us' 54, us' 55, us' 56, us' 57, us' 58, us' 59, us' 60, us' 61, us' 62, us' 63, us' 64, us' 65, us' 66, us' 67, us' 68, us' 69, us' 70, us' 71, us' 72, us' 73, us' 74, us' 75, us' 76, us' 77, us' 78, us' 79, us' 80, us' 81, us' 82, us' 83, us' 84, us' 85, us' 86, us' 87, us' 88, us' 89, us' 90, us' 91, us' 92, us' 93, us' 94, us' 95, us' 96, us' 97, us' 98, us' 99, us' 100, us' 101, us' 102, us' 103] = _
      rw [t6]
    rw [el] at ha'
    subst ha'
    clear hus t6 el hf' hs' hd'
    have HW := Lib.hid hW
    clear hW hG
    go_wp2
    go_ret
    exact ⟨rfl, HB.out.trans (HW.out.mono HB.out.size)⟩
end Go.Proofs.YtdhfabjkpffhnaaDoor

/- What Push answers, in drawn regions. -/
namespace Go.Proofs.YtdhfabjkpffhnaaDoor
set_option maxRecDepth 20000
open Go.RowKit ShaMath LeafMath Reg

def tupF (B S : Nat) (Q : List Hs) : Fact := .sat (fun u W => ∃ v, u = .tuple #[.agg (rngC S v), .int .i64 0] ∧ OHs W B v Q) fun _ _ _ ⟨v, h1, h2⟩ hb => ⟨v, h1, h2.below hb⟩
def rng1F (B S : Nat) (Q : List Hs) : Fact := .sat (fun u W => ∃ v, u = .agg (rngC S v) ∧ OHs W B v Q) fun _ _ _ ⟨v, h1, h2⟩ hb => ⟨v, h1, h2.below hb⟩
def filF (B S : Nat) (Q : List Hs) : Fact := .sat (fun u W => ∃ g v, u = .pointer (some ⟨g, 0, none⟩) ∧ B ≤ g ∧ Blk W g 36 (rngC S v) ∧ OHs W B v Q) fun _ _ _ ⟨g, v, h1, h2, h3, h4⟩ hb => ⟨g, v, h1, h2, h3.keep hb, h4.below hb⟩

theorem OHs.slice {W : World} {B : Nat} {v : Value} {hs : List Hs} (h : OHs W B v hs) : ∃ a c, v = .slice a hs.length c := by
  obtain ⟨a, c, e, _⟩ := h.hss.form
  exact ⟨a, c, e⟩
theorem OHs.farLow {W : World} {B g : Nat} {v : Value} {hs : List Hs} {cs : Array Value} (h : OHs W B v hs) (hg : g < B) : OHs (W.setRow g cs) B v hs := by
  obtain ⟨h0, h1, h2⟩ := h
  refine ⟨h0, h1, ?_⟩
  rcases h2 with h2 | ⟨k, cap, cur, hv, hB, hk, r⟩
  · exact .inl h2
  · exact .inr ⟨k, cap, cur, hv, hB, by rw [setRow_other _ _ _ _ (by omega)]; exact hk, r⟩
theorem OHs.blk {W : World} {B : Nat} {a : Option Addr} {n c : Nat} {hs : List Hs} (h : OHs W B (.slice a n c) hs) (hn : 0 < hs.length) : ∃ g cur, a = some ⟨g, 0, Option.none⟩ ∧ n = hs.length ∧ B ≤ g ∧ Blk W g 24 cur ∧ n ≤ c ∧ cur.size = c * 32 := by
  rcases h.2.2 with ⟨h3, h4⟩ | ⟨g, cap, cur, h3, h4, h5, h6, h7, h8, h9⟩
  · omega
  · cases h3
    exact ⟨g, cur, rfl, rfl, h4, h5, h6, h8⟩

/-- A hash, written into a row. -/
theorem merge_pos (n : Int) : ∀ (m : Nat) (ps : List Hs) (h : Hs), 0 < (merge n m ps h).length := by
  intro m
  induction m using Nat.strongRecOn with
  | ind m ih =>
    intro ps h
    by_cases ho : m % 2 = 1
    · rw [merge_odd n m ps h ho]
      exact ih (m / 2) (by omega) _ _
    · rw [merge_even n m ps h (by omega)]
      simp

section
variable {ops : Array Oper} {tab : List (List Nat)} {fin : List Tmp} {G : World → Prop} {f : Tmp → Fact} {i : Nat} {o : Oper}
theorem ask_extract0 (hG : ∀ W W', G W → Below W.heap.size W W' → G W') (hg : guardOk ops f o) (s : Operand) (B S : Nat) (Q : List Hs) (ho : o.op = .extract s 0) (hs : opFact f s = tupF B S Q) (hd : ∀ k, o.dst = some k → f k = rng1F B S Q) : Asked Tryd.prog ops tab fin G f i o := by
  refine ask_grow hG hg fun x W hW hk => ?_
  have e1 := told_op hk s (by rw [ho]; simp [Op.operands])
  rw [hs] at e1
  obtain ⟨v, e, hv⟩ : ∃ v, evalBy x s = .tuple #[.agg (rngC S v), .int .i64 0] ∧ OHs W B v Q := e1
  refine gives_value (v := .agg (rngC S v)) (w' := W) ?_ ⟨Below.refl _ _, fun k hk => by rw [hd k hk]; exact ⟨v, rfl, hv⟩⟩
  simp [execOp, ho, e, Instr.extract]
theorem ask_extract1 (hg : guardOk ops f o) (s : Operand) (B S : Nat) (Q : List Hs) (ho : o.op = .extract s 1) (hs : opFact f s = tupF B S Q) (hd : ∀ k, o.dst = some k → f k = .is (.int .i64 0)) : Asked Tryd.prog ops tab fin G f i o := by
  refine ask_val hg (.int .i64 0) hd fun x W hW hk => ?_
  have e1 := told_op hk s (by rw [ho]; simp [Op.operands])
  rw [hs] at e1
  obtain ⟨v, e, hv⟩ : ∃ v, evalBy x s = .tuple #[.agg (rngC S v), .int .i64 0] ∧ OHs W B v Q := e1
  simp [execOp, ho, e, Instr.extract]
end
end Go.Proofs.YtdhfabjkpffhnaaDoor

