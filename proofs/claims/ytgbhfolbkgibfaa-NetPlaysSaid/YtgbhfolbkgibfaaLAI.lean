/- Joined: Tails, Arms, Last. -/
import Derived.Test.YtgbhfolbkgibfaaLAH
import Derived.Test.YtgbhfolbkgibfaaLAB
import Derived.Laws.CopyRow
/- A region that draws its order, told by facts, whose last operations each wait for all the earlier ones: what these do is walked. -/
namespace Go.Proofs.Ytgbhfolbkgibfaa
set_option maxRecDepth 20000
open Go.RowKit Reg

/-- From operation k on all is forced. -/
theorem any_forced {P : Program} {ops : Array Oper} {tab : List (List Nat)} {Q : Exit → Act → World → Prop} (n : Nat) (hs : sound ops = true) (ht : tableOk ops tab = true)
    (htail : ∀ i, n ≤ i → i < ops.size → ∀ j, j < i → j ∈ preds ops i ∨ j ∈ tab.getD i []) :
    ∀ (m k : Nat), k + m = ops.size → n ≤ k → ∀ (fuel : Nat) (listed : Array Bool) (a : Act) (W : World), listed.size = ops.size → (∀ j, j < k → listed.getD j false = true) → (∀ j, k ≤ j → listed.getD j false = false) →
      left listed ≤ fuel → wpList P ops Q (ops.toList.drop k) a W → wpAny P .any ops Q fuel listed a W := by
  intro m
  induction m with
  | zero =>
    intro k hk _ fuel listed a W hsz hb _ _ hw
    have hready : Region.ready .any ops listed = [] := by
      cases hq : Region.ready .any ops listed with
      | nil => rfl
      | cons j js =>
        exfalso
        have hj : j ∈ Region.ready .any ops listed := by rw [hq]; simp
        obtain ⟨hju, oj, hoj, _⟩ := mem_ready.1 hj
        have hjl : j < ops.size := (Array.getElem?_eq_some_iff.1 hoj).1
        have h1 := hb j (by omega)
        rw [Array.getD_eq_getD_getElem?, Array.getElem?_eq_getElem (by omega)] at h1 hju
        simp only [Option.getD_some] at h1 hju
        rw [h1] at hju
        cases hju
    rw [List.drop_eq_nil_of_le (by simp; omega)] at hw
    have hq : Q .normal a W := hw
    cases fuel with
    | zero => exact ⟨hready, hq⟩
    | succ f => exact ⟨fun _ => hq, fun j hj => by rw [hready] at hj; cases hj⟩
  | succ m ih =>
    intro k hk hnk fuel listed a W hsz hb hu hf hw
    have hlt : k < ops.size := by omega
    have unl : listed.getD k true = false := by
      have := hu k (Nat.le_refl _)
      rw [Array.getD_eq_getD_getElem?, Array.getElem?_eq_getElem (by omega)] at this ⊢
      exact this
    have hls := left_set unl
    cases fuel with
    | zero => omega
    | succ f =>
      have hok : ops[k]? = some ops[k] := by simp [hlt]
      refine ⟨fun hr => ?_, fun i hi => ?_⟩
      · have := all_listed hs hsz hr k hlt
        rw [hu k (Nat.le_refl _)] at this
        cases this
      · obtain ⟨hun, o, ho, hpre⟩ := mem_ready.1 hi
        have hil : i < ops.size := (Array.getElem?_eq_some_iff.1 ho).1
        have hun' : listed.getD i false = false := by
          rw [Array.getD_eq_getD_getElem?, Array.getElem?_eq_getElem (by omega)] at hun ⊢
          exact hun
        have hik : i = k := by
          rcases Nat.lt_trichotomy i k with h | h | h
          · rw [hb i h] at hun'; cases hun'
          · exact h
          · exfalso
            have hp : ∀ j ∈ preds ops i, listed.getD j false = true := fun j hj => by
              obtain ⟨e, he, hb, rfl⟩ := (mem_preds ho).1 hj
              exact hpre e he hb
            -- every operation below i that i waits for would be listed
            have hdn : ∀ (i' : Nat) (o' : Oper), ops[i']? = some o' → listed.getD i' false = true → ∀ j ∈ preds ops i', listed.getD j false = true := fun i' o' ho' hl j hj => by
              have hi'k : i' < k := by
                rcases Nat.lt_or_ge i' k with h1 | h1
                · exact h1
                · rw [hu i' h1] at hl; cases hl
              obtain ⟨e, he, hbd, rfl⟩ := (mem_preds ho').1 hj
              have := (sound_edge hs ho').1 e he hbd
              exact hb e.on (by omega)
            have h1 : listed.getD k false = true := by
              rcases htail i (by omega) hil k h with h2 | h2
              · exact hp k h2
              · exact table_listed ht hdn i hil hp k h2
            rw [hu k (Nat.le_refl _)] at h1
            cases h1
        subst hik
        rw [List.drop_eq_getElem_cons (by simpa using hlt)] at hw
        unfold wpList at hw
        unfold wpOp
        simp only [hok]
        have next : ∀ a' W', wpList P ops Q (ops.toList.drop (i + 1)) a' W' → wpAny P .any ops Q f (listed.setIfInBounds i true) a' W' := fun a' W' h =>
          ih (i + 1) (by omega) (by omega) f _ a' W' (by simpa using hsz) (fun j hj => by
            by_cases hji : j = i
            · subst hji; exact set_self (by omega)
            · exact set_mem (hb j (by omega))) (fun j hj => by
            have h1 := hu j (by omega)
            rw [Array.getD_eq_getD_getElem?, Array.getElem?_setIfInBounds_ne (by omega), ← Array.getD_eq_getD_getElem?]
            exact h1) (by omega) h
        have e1 : ops.toList[i]'(by simpa using hlt) = ops[i] := by simp
        rw [e1] at hw
        by_cases hwant : Region.wanted ops[i] (yielded ops a.tmps) = true
        · rw [if_pos hwant] at hw ⊢
          rcases hw with hw | hw
          · exact .inl (Oper.wp_mono next hw)
          · exact .inr hw
        · rw [if_neg hwant] at hw ⊢
          exact next _ _ hw

theorem any_of_inv_tails {P : Program} {ops : Array Oper} {tab : List (List Nat)} {fin : List Tmp} {G : World → Prop} {F : Tmp → Value → World → Prop} {a0 : Act} {Q : Exit → Act → World → Prop} (n : Nat)
    (hs : sound ops = true) (ht : tableOk ops tab = true) (hn : n < ops.size) (htail : ∀ i, n ≤ i → i < ops.size → ∀ j, j < i → j ∈ preds ops i ∨ j ∈ tab.getD i [])
    (hdl : ∀ (i : Nat) (o : Oper), ops[i]? = some o → n ≤ i → ∀ k, fin.contains k = true → o.dst ≠ some k) (hd : ∀ (i : Nat) (o : Oper), ops[i]? = some o → ∀ d, o.dst = some d → d < a0.tmps.size)
    (hops : ∀ (i : Nat) (o : Oper), ops[i]? = some o → i < n → asked P ops tab fin G F i o)
    (hend : ∀ a W, G W → a.defers = a0.defers → a.tmps.size = a0.tmps.size → (∀ k, fin.contains k = true → F k (a.tmps.getD k undef) W) → wpList P ops Q (ops.toList.drop n) a W) :
    ∀ (fuel : Nat) (listed : Array Bool) (a : Act) (W : World), left listed ≤ fuel → (∀ j, n ≤ j → listed.getD j false = false) → Inv ops fin G F a0 listed a W → wpAny P .any ops Q fuel listed a W := by
  intro fuel
  induction fuel with
  | zero =>
    intro listed a W hf hnl h
    have unl : listed.getD n true = false := by
      have := hnl n (Nat.le_refl _)
      rw [Array.getD_eq_getD_getElem?, Array.getElem?_eq_getElem (by have := h.lsize; omega)] at this ⊢
      exact this
    have := left_set unl
    omega
  | succ fuel ih =>
    intro listed a W hf hnl h
    by_cases hall : ∀ j, j < n → listed.getD j false = true
    · have hfin : ∀ k, fin.contains k = true → F k (a.tmps.getD k undef) W := fun k hk => h.facts k (fun j oj hj hdj => by
        rcases Nat.lt_or_ge j n with h1 | h1
        · exact hall j h1
        · exact absurd hdj (hdl j oj hj h1 k hk)) (.inl hk)
      exact any_forced n hs ht htail (ops.size - n) n (by omega) (Nat.le_refl _) _ listed a W h.lsize hall hnl hf (hend a W h.grown h.defers h.size hfin)
    · refine ⟨fun hr => ?_, fun i hi => ?_⟩
      · have := all_listed hs h.lsize hr n hn
        rw [hnl n (Nat.le_refl _)] at this
        cases this
      obtain ⟨hun, o, ho, hpre⟩ := mem_ready.1 hi
      have hil : i < ops.size := (Array.getElem?_eq_some_iff.1 ho).1
      have hun' : listed.getD i false = false := by
        rw [Array.getD_eq_getD_getElem?, Array.getElem?_eq_getElem (by rw [h.lsize]; exact hil)] at hun ⊢
        exact hun
      have hsd := sound_edge hs ho
      have hp : ∀ j ∈ preds ops i, listed.getD j false = true := fun j hj => by
        obtain ⟨e, he, hb, rfl⟩ := (mem_preds ho).1 hj
        exact hpre e he hb
      have hin : i < n := by
        rcases Nat.lt_or_ge i n with h1 | h1
        · exact h1
        · exfalso
          refine hall fun j hj => ?_
          rcases htail i h1 hil j (by omega) with h2 | h2
          · exact hp j h2
          · exact table_listed ht h.down i hil hp j h2
      have hF : ∀ k, (o.looksAt ops).contains k = true → F k (a.tmps.getD k undef) W := fun k hk => h.facts k (fun j oj hj hdj => by
        obtain ⟨e, he, hb, rfl⟩ := hsd.2 k (by simpa using hk) j oj hj hdj
        exact hpre e he hb) (.inr ⟨i, o, ho, hk, hun'⟩)
      obtain ⟨hw, hg⟩ := hops i o ho hin (fun t => a.tmps.getD t undef) W h.grown hF
      unfold wpOp
      simp only [ho, wanted_of hw, if_true]
      refine .inl (wp_of_gives hg fun v w' ⟨h1, h2, h3⟩ => ih _ _ _ ?_ (fun j hj => ?_) (inv_step ht h ho hp (hd i o ho) h1 h2 h3))
      · have := left_set hun
        omega
      · have h4 := hnl j hj
        rw [Array.getD_eq_getD_getElem?, Array.getElem?_setIfInBounds_ne (by omega), ← Array.getD_eq_getD_getElem?]
        exact h4

/-- **A REGION BY ITS FACTS, the last operations one behind the other.** -/
theorem region_tails_by {P : Program} {ops : Array Oper} {id : Nat} {a : Act} {w : World} {Q : Exit → Act → World → Prop} (n : Nat) (l : List (Tmp × Fact)) (fin : List Tmp) (G : World → Prop)
    (hm : P.follows .mixedOrders = true) (hs : sound ops = true) (ht : tableOk ops (table ops) = true) (hd : (ops.all fun o => (o.dst.map fun d => decide (d < a.tmps.size)).getD true) = true)
    (hl : (l.all fun p => ops.any fun o => o.dst == some p.1) = true) (hn : n < ops.size)
    (hall : ((List.range ops.size).all fun i => decide (i < n) || (List.range i).all fun j => (preds ops i).contains j || ((table ops).getD i []).contains j) = true)
    (hdl : (fin.all fun k => (ops.toList.drop n).all fun o => o.dst != some k) = true) (hG : G w.drew)
    (hops : AskedAll P ops (table ops) fin G (factsOf l a) 0 (ops.toList.take n))
    (hend : ∀ a' W, G W → a'.defers = a.defers → a'.tmps.size = a.tmps.size → (∀ k, fin.contains k = true → (factsOf l a k).holds (a'.tmps.getD k undef) W) → wpList P ops Q (ops.toList.drop n) a' W) : (Code.region id ops true).wp P Q a w := by
  refine wp_region_any hm (any_of_inv_tails (tab := table ops) (fin := fin) (G := G) (F := fun k v W => (factsOf l a k).holds v W) (a0 := a) n hs ht hn (fun i h1 h2 j hj => ?_) (fun i o hi hni k hk e => ?_) ?_ (fun i o hi hin => ?_) hend _ _ _ _ ?_ ?_ ?_)
  · have h3 := List.all_eq_true.1 hall i (List.mem_range.2 h2)
    have h4 : decide (i < n) = false := by simpa using h1
    rw [h4, Bool.false_or] at h3
    have h5 := List.all_eq_true.1 h3 j (List.mem_range.2 hj)
    rw [Bool.or_eq_true] at h5
    rcases h5 with h5 | h5
    · exact .inl (by simpa using h5)
    · exact .inr (by simpa using h5)
  · have h1 := List.all_eq_true.1 hdl k (by simpa using hk)
    have h2 := List.all_eq_true.1 h1 o (List.mem_iff_getElem?.2 ⟨i - n, by rw [List.getElem?_drop, show n + (i - n) = i by omega]; simpa using hi⟩)
    rw [e] at h2
    simp at h2
  · intro i o hi d hdst
    have := Array.all_eq_true_iff_forall_mem.1 hd o (Array.mem_of_getElem? hi)
    simpa [hdst] using this
  · have := asked_of_all (ops.toList.take n) 0 hops i o (by rw [List.getElem?_take, if_pos hin]; simpa using hi)
    rwa [Nat.zero_add] at this
  · unfold Reg.left
    refine Nat.le_trans (List.length_filter_le _ _) (by simp)
  · intro j _
    rw [Array.getD_eq_getD_getElem?]
    simp [Array.getElem?_replicate]
    split <;> simp
  · refine ⟨hG, rfl, rfl, by simp, fun i o hi hl => ?_, fun k hk _ => ?_⟩
    · rw [Array.getD_eq_getD_getElem?] at hl
      simp [Array.getElem?_replicate] at hl
      split at hl <;> simp at hl
    · cases hkl : l.lookup k with
      | none => simp [factsOf, hkl, Fact.holds]
      | some fk =>
        exfalso
        have hmem : (k, fk) ∈ l := by
          clear hl hops hend
          induction l with
          | nil => simp at hkl
          | cons p l ih =>
            obtain ⟨p1, p2⟩ := p
            rw [List.lookup_cons] at hkl
            by_cases hkp : (k == p1) = true
            · rw [hkp] at hkl
              simp at hkl hkp
              subst hkl hkp
              simp
            · simp only [hkp] at hkl
              exact List.mem_cons_of_mem _ (ih hkl)
        have h := List.all_eq_true.1 hl _ hmem
        obtain ⟨o, ho, hdst⟩ := Array.any_eq_true'.1 h
        obtain ⟨i, hi⟩ := Array.mem_iff_getElem?.1 ho
        have := hk i o hi (by simpa using hdst)
        rw [Array.getD_eq_getD_getElem?] at this
        simp [Array.getElem?_replicate] at this
        split at this <;> simp at this

end Go.Proofs.Ytgbhfolbkgibfaa

/- Arms of a walk by whatever is known of a run: loads, stores, copies; parts of a block; operations of a region that load or address. -/
namespace Go.Proofs.Ytgbhfolbkgibfaa
set_option maxRecDepth 20000
open Go.RowKit Reg

theorem wpList_load_by {P : Program} {w : World} {ops : Array Oper} {rest : List Oper} {o : Oper} {a : Act} {Q : Exit → Act → World → Prop} (hgd : o.guard = none) (ty : TypeId) (x : Operand) (ho : o.op = .load ty x)
    (p v : Value) (hx : a.eval x = p) (hr : (Instr.loadAt ty p).run P w = .ok v w) (h : wpList P ops Q rest (a.put o.dst v) w) : wpList P ops Q (o :: rest) a w := by
  refine wpList_plain hgd fun K hK => ?_
  unfold Oper.wp
  simp only [execOp, ho, hx, Sem.run_bind, hr, Result.andThen_ok]
  exact hK _ _ h

theorem wpList_load_guarded {P : Program} {w : World} {ops : Array Oper} {rest : List Oper} {o : Oper} {a : Act} {Q : Exit → Act → World → Prop} (hgd : Region.wanted o (yielded ops a.tmps) = true) (ty : TypeId) (x : Operand) (ho : o.op = .load ty x)
    (p v : Value) (hx : a.eval x = p) (hr : (Instr.loadAt ty p).run P w = .ok v w) (h : wpList P ops Q rest (a.put o.dst v) w) : wpList P ops Q (o :: rest) a w := by
  refine wpList_step fun K hK => ?_
  rw [if_pos hgd]
  unfold Oper.wp
  simp only [execOp, ho, hx, Sem.run_bind, hr, Result.andThen_ok]
  exact hK _ _ h

theorem wpList_store_by {P : Program} {w : World} {ops : Array Oper} {rest : List Oper} {o : Oper} {a : Act} {Q : Exit → Act → World → Prop} (hgd : o.guard = none) (ty : TypeId) (x y : Operand) (ho : o.op = .store ty x y)
    (p v : Value) (hx : a.eval x = p) (hy : a.eval y = v) (w' : World) (hr : (Instr.storeAt ty p v).run P w = .ok () w') (h : wpList P ops Q rest (a.put o.dst undef) w') : wpList P ops Q (o :: rest) a w := by
  refine wpList_plain hgd fun K hK => ?_
  unfold Oper.wp
  simp only [execOp, ho, hx, hy, Sem.run_bind, hr, Result.andThen_ok]
  exact hK _ _ h

/-- A part of a block, loaded. -/
theorem Blk.loadsAt {P : Program} {W : World} {g : Nat} {t : TypeId} {cs : Array Value} (h : Blk W g t cs) (ty : TypeId) (d : TypeDesc) (o n : Nat) (vs : List Value) (hu : P.underlying ty = some d)
    (hd : (match d with | .struct _ | .array _ _ => true | _ => false) = true) (hi : (P.info? ty).map (·.size) = some vs.length) (hv : ∀ j u, vs[j]? = some u → cs[o + j]? = some u) (hn : n = o) :
    (Instr.loadAt ty (.pointer (some ⟨g, n, none⟩))).run P W = .ok (.agg vs.toArray) W := by
  subst hn
  have hl : (loadCells ⟨g, n, none⟩ vs.length).run P W = .ok vs.toArray W :=
    run_loadCells_list (P := P) W ⟨g, n, none⟩ vs (fun j v hj => by rw [addr_add, h.cell]; exact hv j v hj)
  cases hq : P.info? ty with
  | none => simp [hq] at hi
  | some i =>
    have hs : i.size = vs.length := by simpa [hq] using hi
    have hagg : (isAgg ty).run P W = .ok true W := by
      unfold isAgg
      rw [Sem.run_bind, run_underlying hu W]
      cases d <;> simp_all
    simp [Instr.loadAt, Instr.sureAddr, loadVar, Sem.run_bind, hagg, sizeOf, typeInfo, hq, hs, hl]

/-- Cells of a variable that is known cell by cell. -/
theorem loads_cells {P : Program} {W : World} (ad : Addr) (ty : TypeId) (d : TypeDesc) (vs : List Value) (hu : P.underlying ty = some d)
    (hd : (match d with | .struct _ | .array _ _ => true | _ => false) = true) (hi : (P.info? ty).map (·.size) = some vs.length) (hv : ∀ j u, vs[j]? = some u → W.cell? (ad.add j) = some u) :
    (Instr.loadAt ty (.pointer (some ad))).run P W = .ok (.agg vs.toArray) W := by
  have hl : (loadCells ad vs.length).run P W = .ok vs.toArray W := run_loadCells_list (P := P) W ad vs hv
  cases hq : P.info? ty with
  | none => simp [hq] at hi
  | some i =>
    have hs : i.size = vs.length := by simpa [hq] using hi
    have hagg : (isAgg ty).run P W = .ok true W := by
      unfold isAgg
      rw [Sem.run_bind, run_underlying hu W]
      cases d <;> simp_all
    simp [Instr.loadAt, Instr.sureAddr, loadVar, Sem.run_bind, hagg, sizeOf, typeInfo, hq, hs, hl]

/-- What a block holds where a part of it is written. -/
def patch (cs : Array Value) (o : Nat) (vs : List Value) : Array Value := (cs.toList.take o ++ vs ++ cs.toList.drop (o + vs.length)).toArray

theorem Blk.storesAt {P : Program} {W : World} {g : Nat} {t : TypeId} {cs : Array Value} (h : Blk W g t cs) (ty : TypeId) (o : Nat) (vs : List Value) (hi : (P.info? ty).map (·.size) = some vs.length) (hfit : o + vs.length ≤ cs.size)
    (h1 : ∀ v ∈ vs, v.oneCell' = true) : (Instr.storeAt ty (.pointer (some ⟨g, o, none⟩)) (.agg vs.toArray)).run P W = .ok () (W.setRow g (patch cs o vs)) := by
  have hst := run_storeCells_at P g o t vs 0 cs W h (by simpa using hfit) h1
  cases hq : P.info? ty with
  | none => simp [hq] at hi
  | some i =>
    have hs : i.size = vs.length := by simpa [hq] using hi
    simp [Instr.storeAt, Instr.sureAddr, storeVar, Sem.run_bind, sizeOf, typeInfo, hq, hs, Value.cells, hst, patch]

section
variable {P : Program} {ops : Array Oper} {tab : List (List Nat)} {fin : List Tmp} {G : World → Prop} {f : Tmp → Fact} {i : Nat} {o : Oper}

theorem ask_load (hg : guardOk ops f o) (ty : TypeId) (s : Operand) (p v : Value) (ho : o.op = .load ty s) (hs : opFact f s = .is p) (hd : ∀ k, o.dst = some k → f k = .is v)
    (hr : ∀ W, G W → (Instr.loadAt ty p).run P W = .ok v W) : Asked P ops tab fin G f i o := by
  refine ask_read hg s p v hs (by rw [ho]; simp [Op.operands]) hd fun x W hW e => ?_
  simp only [execOp, ho, e, Sem.run_bind, hr W hW, Result.andThen_ok, Sem.run_pure]

theorem ask_field (hg : guardOk ops f o) (ty : TypeId) (s : Operand) (n : Nat) (p v : Value) (ho : o.op = .fieldAddr ty s n) (hs : opFact f s = .is p) (hd : ∀ k, o.dst = some k → f k = .is v)
    (hr : ∀ W, (Instr.fieldAt ty p n).run P W = .ok v W) : Asked P ops tab fin G f i o := by
  refine ask_read hg s p v hs (by rw [ho]; simp [Op.operands]) hd fun x W hW e => ?_
  simp only [execOp, ho, e, Sem.run_bind, hr W, Result.andThen_ok, Sem.run_pure]

/-- A call by its contract, whatever is known of its operands. -/
theorem ask_call_by (hG : ∀ W W', G W → Below W.heap.size W W' → G W') (hg : guardOk ops f o) (n : FuncId) (ss : Array Operand) (ts : Array TypeId) (fd : Fact)
    (ho : o.op = .call { callee := .value (.func n), args := ss, argTypes := ts }) (hfn : ((P.funcs[n]?).map fun fn => (fn.name == "runtime.NumGoroutine", fn.body.isNone)) = some (false, false)) (hd : ∀ k, o.dst = some k → f k = fd)
    (h : ∀ x W, G W → Told ops f o x W → Calls P n (ss.toList.map (evalBy x)).toArray W fun e W' => ∃ v, e = .returned v ∧ fd.holds v W' ∧ Below W.heap.size W W') : Asked P ops tab fin G f i o := by
  refine ask_grow hG hg fun x W hW ht => ?_
  have em : ss.map (evalBy x) = (ss.toList.map (evalBy x)).toArray := by
    apply Array.toList_inj.1
    simp
  refine gives_enter (f := n) (args := (ss.toList.map (evalBy x)).toArray) (w' := W) ?_ ((h x W hW ht).mono fun e W' ⟨v, h1, h2, h3⟩ => ⟨v, h1, h3, fun k hk => by rw [hd k hk]; exact h2⟩)
  obtain ⟨fn, hf, hp⟩ := Option.map_eq_some_iff.1 hfn
  simp only [Prod.mk.injEq] at hp
  have e : execOp (evalBy x) o = callFunc n (#[] ++ ss.map (evalBy x) ++ #[]) := by
    obtain ⟨dst, op, type, pos, after, guard⟩ := o
    simp only at ho
    subst ho
    rfl
  rw [e, em]
  have h1 : fn.name ≠ "runtime.NumGoroutine" := by simpa using hp.1
  have h2 : fn.body ≠ none := by intro hh; have := hp.2; rw [hh] at this; cases this
  simp [callFunc, hf, h1, h2]

end
end Go.Proofs.Ytgbhfolbkgibfaa

/- A region that draws its order, told by facts, with one operation behind all the others that writes a slot which others read ('x = append(x, x[k])'). -/
namespace Go.Proofs.Ytgbhfolbkgibfaa
set_option maxRecDepth 20000
open Go.RowKit Reg

theorem any_of_inv_last {P : Program} {ops ops0 : Array Oper} {tab : List (List Nat)} {fin : List Tmp} {G : World → Prop} {F : Tmp → Value → World → Prop} {a0 : Act} {Q : Exit → Act → World → Prop} (n : Nat) (ol ol0 : Oper) (hsz : ops0.size = ops.size) (hsame : ∀ i, i < n → ops0[i]? = ops[i]?) (hn0 : ops0[n]? = some ol0) (hafter : ol0.after = ol.after)
    (hs : sound ops0 = true) (ht : tableOk ops0 tab = true) (hn : ops[n]? = some ol) (hsize : ops.size = n + 1) (hgd : ol.guard = none) (hall : ((List.range n).all fun j => (preds ops0 n).contains j || (tab.getD n []).contains j) = true)
    (hdl : ol0.dst = none) (hd : ∀ (i : Nat) (o : Oper), ops0[i]? = some o → ∀ d, o.dst = some d → d < a0.tmps.size)
    (hops : ∀ (i : Nat) (o : Oper), ops0[i]? = some o → i < n → asked P ops0 tab fin G F i o)
    (hend : ∀ a W, G W → a.defers = a0.defers → a.tmps.size = a0.tmps.size → (∀ k, fin.contains k = true → F k (a.tmps.getD k undef) W) → wpList P ops Q [ol] a W) :
    ∀ (fuel : Nat) (listed : Array Bool) (a : Act) (W : World), left listed ≤ fuel → listed.getD n false = false → Inv ops0 fin G F a0 listed a W → wpAny P .any ops Q fuel listed a W := by
  have hlt : n < ops0.size := by omega
  have hcase : ∀ (i : Nat) (o : Oper), ops[i]? = some o → (i < n ∧ ops0[i]? = some o) ∨ (i = n ∧ o = ol) := fun i o ho => by
    have hil := (Array.getElem?_eq_some_iff.1 ho).1
    by_cases h : i < n
    · exact .inl ⟨h, by rw [hsame i h]; exact ho⟩
    · obtain rfl : i = n := by omega
      rw [hn] at ho
      cases ho
      exact .inr ⟨rfl, rfl⟩
  have hready0 : ∀ (listed : Array Bool) (j : Nat), j ∈ Region.ready .any ops0 listed → j ∈ Region.ready .any ops listed := fun listed j hj => by
    obtain ⟨h1, o, ho, h2⟩ := mem_ready.1 hj
    by_cases h : j < n
    · exact mem_ready.2 ⟨h1, o, by rw [← hsame j h]; exact ho, h2⟩
    · have hil := (Array.getElem?_eq_some_iff.1 ho).1
      obtain rfl : j = n := by omega
      rw [hn0] at ho
      cases ho
      exact mem_ready.2 ⟨h1, ol, hn, by rw [← hafter]; exact h2⟩
  have hempty : ∀ (listed : Array Bool), Region.ready .any ops listed = [] → Region.ready .any ops0 listed = [] := fun listed hr => by
    cases hq : Region.ready .any ops0 listed with
    | nil => rfl
    | cons j js =>
      have := hready0 listed j (by rw [hq]; simp)
      rw [hr] at this
      cases this
  have unl : ∀ (listed : Array Bool), listed.size = ops0.size → listed.getD n false = false → listed.getD n true = false := fun listed hl h => by
    rw [Array.getD_eq_getD_getElem?, Array.getElem?_eq_getElem (by omega)] at h ⊢
    exact h
  intro fuel
  induction fuel with
  | zero =>
    intro listed a W hf hnl h
    have := left_set (unl listed h.lsize hnl)
    omega
  | succ fuel ih =>
    intro listed a W hf hnl h
    refine ⟨fun hr => ?_, fun i hi => ?_⟩
    · have := all_listed hs h.lsize (hempty _ hr) n hlt
      rw [hnl] at this
      cases this
    obtain ⟨hun, o, ho, hpre⟩ := mem_ready.1 hi
    have hil : i < ops0.size := by rw [hsz]; exact (Array.getElem?_eq_some_iff.1 ho).1
    have hun' : listed.getD i false = false := by
      rw [Array.getD_eq_getD_getElem?, Array.getElem?_eq_getElem (by rw [h.lsize]; exact hil)] at hun ⊢
      exact hun
    rcases hcase i o ho with ⟨hin', ho0⟩ | ⟨hin, hoo⟩
    rotate_left
    · subst hin
      subst hoo
      have hp : ∀ j ∈ preds ops0 i, listed.getD j false = true := fun j hj => by
        obtain ⟨e, he, hb, rfl⟩ := (mem_preds hn0).1 hj
        exact hpre e (by rw [← hafter]; exact he) hb
      have hbelow : ∀ j, j < i → listed.getD j false = true := fun j hj => by
        have h1 := List.all_eq_true.1 hall j (List.mem_range.2 hj)
        rw [Bool.or_eq_true] at h1
        rcases h1 with h1 | h1
        · exact hp j (by simpa using h1)
        · exact table_listed ht h.down i hil hp j (by simpa using h1)
      have hfin : ∀ k, fin.contains k = true → F k (a.tmps.getD k undef) W := fun k hk => h.facts k (fun j oj hj hdj => by
        have hjl : j < ops0.size := (Array.getElem?_eq_some_iff.1 hj).1
        have hjn : j ≠ i := by
          rintro rfl
          rw [hn0] at hj
          cases hj
          rw [hdl] at hdj
          cases hdj
        exact hbelow j (by omega)) (.inl hk)
      have hw := hend a W h.grown h.defers h.size hfin
      have hwant : Region.wanted o (yielded ops a.tmps) = true := by unfold Region.wanted; rw [hgd]
      unfold wpOp
      simp only [hn, hwant, if_true]
      unfold wpList at hw
      simp only [hwant, if_true] at hw
      have hdone : ∀ a' w', Q .normal a' w' → wpAny P .any ops Q fuel (listed.setIfInBounds i true) a' w' := fun a' w' hq => by
        have hready : Region.ready .any ops (listed.setIfInBounds i true) = [] := by
          cases hq : Region.ready .any ops (listed.setIfInBounds i true) with
          | nil => rfl
          | cons j js =>
            exfalso
            have hj : j ∈ Region.ready .any ops (listed.setIfInBounds i true) := by rw [hq]; simp
            obtain ⟨hju, oj, hoj, _⟩ := mem_ready.1 hj
            have hjl : j < ops.size := (Array.getElem?_eq_some_iff.1 hoj).1
            have h1 : (listed.setIfInBounds i true).getD j false = true := by
              by_cases hji : j = i
              · subst hji
                exact set_self (by rw [h.lsize, hsz]; exact hjl)
              · exact set_mem (hbelow j (by omega))
            have hjs : j < (listed.setIfInBounds i true).size := by simp [h.lsize, hsz]; exact hjl
            rw [Array.getD_eq_getD_getElem?, Array.getElem?_eq_getElem hjs] at h1 hju
            simp only [Option.getD_some] at h1 hju
            rw [h1] at hju
            cases hju
        cases fuel with
        | zero => exact ⟨hready, hq⟩
        | succ f => exact ⟨fun _ => hq, fun j hj => by rw [hready] at hj; cases hj⟩
      rcases hw with hw | hw
      · exact .inl (Oper.wp_mono hdone hw)
      · exact .inr hw
    · have hin : i ≠ n := by omega
      have hsd := sound_edge hs ho0
      have hp : ∀ j ∈ preds ops0 i, listed.getD j false = true := fun j hj => by
        obtain ⟨e, he, hb, rfl⟩ := (mem_preds ho0).1 hj
        exact hpre e he hb
      have hF : ∀ k, (o.looksAt ops0).contains k = true → F k (a.tmps.getD k undef) W := fun k hk => h.facts k (fun j oj hj hdj => by
        obtain ⟨e, he, hb, rfl⟩ := hsd.2 k (by simpa using hk) j oj hj hdj
        exact hpre e he hb) (.inr ⟨i, o, ho0, hk, hun'⟩)
      obtain ⟨hw, hg⟩ := hops i o ho0 (by omega) (fun t => a.tmps.getD t undef) W h.grown hF
      have hw2 : wantedBy ops o (fun t => a.tmps.getD t undef) := by
        unfold wantedBy at hw ⊢
        cases hgo : o.guard with
        | none => trivial
        | some p =>
          obtain ⟨j, want⟩ := p
          simp only [hgo] at hw ⊢
          obtain ⟨d, hd1, hd2⟩ := hw
          refine ⟨d, ?_, hd2⟩
          by_cases hjn : j < n
          · rw [← hsame j hjn]; exact hd1
          · exfalso
            by_cases hje : j = n
            · subst hje
              rw [hn0] at hd1
              simp [hdl] at hd1
            · rw [Array.getElem?_eq_none (by omega)] at hd1
              simp at hd1
      unfold wpOp
      simp only [ho, wanted_of hw2, if_true]
      refine .inl (wp_of_gives hg fun v w' ⟨h1, h2, h3⟩ => ih _ _ _ ?_ ?_ (inv_step ht h ho0 hp (hd i o ho0) h1 h2 h3))
      · have := left_set hun
        omega
      · rw [Array.getD_eq_getD_getElem?, Array.getElem?_setIfInBounds_ne hin, ← Array.getD_eq_getD_getElem?]
        exact hnl

theorem lookup_all {ops : Array Oper} {k : Tmp} {fk : Fact} (j : Tmp) : ∀ {l : List (Tmp × Fact)}, (l.all fun p => p.1 == j || ops.any fun o => o.dst == some p.1) = true → l.lookup k = some fk → k ≠ j → (ops.any fun o => o.dst == some k) = true
  | [], _, hk, _ => by simp at hk
  | (p1, p2) :: l, h, hk, hne => by
    rw [List.all_cons, Bool.and_eq_true] at h
    rw [List.lookup_cons] at hk
    by_cases hkp : (k == p1) = true
    · have e : k = p1 := by simpa using hkp
      subst e
      have h1 := h.1
      simp only [Bool.or_eq_true] at h1
      rcases h1 with h1 | h1
      · exact absurd (by simpa using h1) hne
      · exact h1
    · simp only [hkp] at hk
      exact lookup_all j h.2 hk hne

/-- **A REGION BY ITS FACTS, the last operation behind all others; that one may write a slot that others read.** -/
theorem region_last_by {P : Program} {ops : Array Oper} {id : Nat} {a : Act} {w : World} {Q : Exit → Act → World → Prop} (n : Nat) (ol : Oper) (ops0 : Array Oper) (he : ops0 = ops.setIfInBounds n { ol with dst := none }) (l : List (Tmp × Fact)) (fin : List Tmp) (G : World → Prop)
    (hm : P.follows .mixedOrders = true) (hs : sound ops0 = true) (ht : tableOk ops0 (table ops0) = true) (hd : (ops0.all fun o => (o.dst.map fun d => decide (d < a.tmps.size)).getD true) = true)
    (hl : ∀ k fk, l.lookup k = some fk → (ops0.any fun o => o.dst == some k) = true ∨ fk.holds (a.tmps.getD k undef) w.drew)
    (hn : ops[n]? = some ol) (hsize : ops.size = n + 1) (hgd : ol.guard = none) (hall : ((List.range n).all fun j => (preds ops0 n).contains j || ((table ops0).getD n []).contains j) = true) (hG : G w.drew)
    (hops : AskedAll P ops0 (table ops0) fin G (factsOf l a) 0 (ops0.toList.take n))
    (hend : ∀ a' W, G W → a'.defers = a.defers → a'.tmps.size = a.tmps.size → (∀ k, fin.contains k = true → (factsOf l a k).holds (a'.tmps.getD k undef) W) → wpList P ops Q [ol] a' W) : (Code.region id ops true).wp P Q a w := by
  have hsz : ops0.size = ops.size := by rw [he]; simp
  have hn0 : ops0[n]? = some { ol with dst := none } := by rw [he, Array.getElem?_setIfInBounds_self]; simp; omega
  refine wp_region_any hm (any_of_inv_last (ops0 := ops0) (tab := table ops0) (fin := fin) (G := G) (F := fun k v W => (factsOf l a k).holds v W) (a0 := a) n ol _ hsz (fun i hi => by rw [he, Array.getElem?_setIfInBounds_ne (by omega)]) hn0 rfl hs ht hn hsize hgd hall rfl ?_ (fun i o hi hin => ?_) hend _ _ _ _ ?_ ?_ ?_)
  · intro i o hi d hdst
    have := Array.all_eq_true_iff_forall_mem.1 hd o (Array.mem_of_getElem? hi)
    simpa [hdst] using this
  · have := asked_of_all (ops0.toList.take n) 0 hops i o (by rw [List.getElem?_take, if_pos hin]; simpa using hi)
    rwa [Nat.zero_add] at this
  · unfold Reg.left
    refine Nat.le_trans (List.length_filter_le _ _) (by simp)
  · rw [Array.getD_eq_getD_getElem?]
    simp [Array.getElem?_replicate]
    split <;> simp
  · refine ⟨hG, rfl, rfl, by simp [hsz], fun i o hi hl => ?_, fun k hk _ => ?_⟩
    · rw [Array.getD_eq_getD_getElem?] at hl
      simp [Array.getElem?_replicate] at hl
      split at hl <;> simp at hl
    · cases hkl : l.lookup k with
      | none => simp [factsOf, hkl, Fact.holds]
      | some fk =>
        rcases hl k fk hkl with h | h
        rotate_left
        · simp only [factsOf, hkl, Option.getD_some]
          exact h
        exfalso
        obtain ⟨o, ho, hdst⟩ := Array.any_eq_true'.1 h
        obtain ⟨i, hi⟩ := Array.mem_iff_getElem?.1 ho
        have := hk i o hi (by simpa using hdst)
        rw [Array.getD_eq_getD_getElem?] at this
        simp [Array.getElem?_replicate] at this
        split at this <;> simp at this

end Go.Proofs.Ytgbhfolbkgibfaa

