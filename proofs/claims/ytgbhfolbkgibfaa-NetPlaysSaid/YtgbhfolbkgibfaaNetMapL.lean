/- Layer 19: the ways that are blocked, as a map of the program's memory. -/
import Derived.Test.YtgbhfolbkgibfaaLAB
import Derived.Maps.OwnSet
import Derived.DeepKeys4
namespace Go.Proofs.Ytgbhfolbkgibfaa
set_option maxRecDepth 20000
open Go.RowKit Go.Maps BinMath NetMath

theorem laidOutN : laidOutB Try.prog = true := by kernel_rfl
theorem wayLaw : Keyed Try.prog 72 := Keyed.of_law (deep_law_laid laidOutN (m := 2) (by omega) (of_decide_eq_true (by kernel_rfl)) (by kernel_rfl) (by rw [Try.underlying72]))

/-- A way as a key. -/
def wv (p : Nat × Nat) : Value := .agg #[.int .u64 (p.1 : Int), .int .u64 (p.2 : Int)]
def wk (p : Nat × Nat) : Lit := .string (keyBytes [.int .u64 (p.1 : Int), .int .u64 (p.2 : Int)])
def W64 (p : Nat × Nat) : Prop := p.1 < 18446744073709551616 ∧ p.2 < 18446744073709551616

theorem wf_u64 {n : Nat} (h : n < 18446744073709551616) : (Lit.int .u64 (n : Int)).wf = true := by
  have e1 : IntKind.u64.min = 0 := rfl
  have e2 : IntKind.u64.max = 18446744073709551615 := rfl
  simp [Lit.wf, e1, e2]
  omega

theorem lits_u64 {D n : Nat} (h : n < 18446744073709551616) : Try.prog.keyLits (D + 1) 31 [.int .u64 (n : Int)] = some [.int .u64 (n : Int)] := by
  unfold Program.keyLits
  rw [Try.underlying31]
  simp [wf_u64 h]

theorem keyOf_wv {p : Nat × Nat} (h : W64 p) : keyOf Try.prog 72 (wv p) = some (wk p) := by
  obtain ⟨a, b⟩ := p
  obtain ⟨ha, hb⟩ := h
  have hc : Try.prog.cellsOf 72 = 2 := by kernel_rfl
  have hk : Try.prog.keyType 72 = true := by kernel_rfl
  have hf : (wv (a, b)).formed Try.prog 72 = true := by simp [Value.formed, wv, Try.underlying72, hc]
  have h0 : 1 < Try.prog.types.size := of_decide_eq_true (by kernel_rfl)
  obtain ⟨d, hd⟩ : ∃ d, Try.prog.types.size = d + 1 := ⟨Try.prog.types.size - 1, by omega⟩
  have c1 : Try.prog.cellsOf 31 = 1 := by kernel_rfl
  have hl : Try.prog.keyLits (Try.prog.types.size + 1) 72 (wv (a, b)).cells.toList = some [.int .u64 (a : Int), .int .u64 (b : Int)] := by
    rw [hd]
    unfold Program.keyLits
    rw [Try.underlying72]
    simp [wv, Value.cells, hc, c1, lits_u64 ha, lits_u64 hb]
  unfold keyOf
  rw [Try.underlying72]
  simp only [hk, hf, hl, Bool.and_self, if_true, Option.map_some]
  rfl

theorem wv_inj {p q : Nat × Nat} (h : wv p = wv q) : p = q := by
  obtain ⟨a, b⟩ := p
  obtain ⟨c, d⟩ := q
  simp only [wv, Value.agg.injEq, Array.mk.injEq, List.cons.injEq, Value.int.injEq, true_and, and_true] at h
  obtain ⟨h1, h2⟩ := h
  rw [Int.ofNat_inj.1 h1, Int.ofNat_inj.1 h2]
theorem wk_same {p q : Nat × Nat} (hp : W64 p) (hq : W64 q) : (wk p).sameKey (wk q) = decide (p = q) := by
  by_cases h : p = q
  · subst h
    rw [WideAt.sameKey_self (wayLaw.key (keyOf_wv hp)), decide_eq_true rfl]
  · rw [decide_eq_false h]
    cases hs : (wk p).sameKey (wk q) with
    | false => rfl
    | true =>
      have e := WideAt.sameKey_eq hs
      exact absurd (wv_inj (wayLaw.inj (keyOf_wv hp) (e ▸ keyOf_wv hq))) h

abbrev WD := DataW Value
/-- Ways as the map reads. -/
def encW (G : List (Nat × Nat)) : WD := .map (G.map fun p => (wk p, DataW.agg []))
/-- A way among others, as maps are read. -/
def insW (p : Nat × Nat) : List (Nat × Nat) → List (Nat × Nat)
  | [] => [p]
  | y :: r => if (wk p).before (wk y) = true then p :: y :: r else y :: insW p r
def delW (p : Nat × Nat) (G : List (Nat × Nat)) : List (Nat × Nat) := G.filter fun x => decide (x ≠ p)

theorem insW_perm (p : Nat × Nat) : ∀ G : List (Nat × Nat), (insW p G).Perm (p :: G)
  | [] => List.Perm.refl _
  | y :: r => by
    unfold insW
    split
    · exact List.Perm.refl _
    · exact ((insW_perm p r).cons y).trans (List.Perm.swap p y r)

theorem encW_filter {G : List (Nat × Nat)} {p : Nat × Nat} (hG : ∀ x ∈ G, W64 x) (hp : W64 p) :
    ((G.map fun p => (wk p, (DataW.agg [] : WD))).filter fun x => !x.1.sameKey (wk p)) = (delW p G).map fun p => (wk p, (DataW.agg [] : WD)) := by
  unfold delW
  induction G with
  | nil => rfl
  | cons y r ih =>
    have h1 := wk_same (hG y (by simp)) hp
    have h2 := ih fun x hx => hG x (by simp [hx])
    rw [List.map_cons, List.filter_cons, List.filter_cons]
    simp only [h1]
    by_cases h : y = p
    · rw [if_neg (by simp [h]), if_neg (by simp [h]), h2]
    · rw [if_pos (by simp [h]), if_pos (by simp [h]), List.map_cons, h2]

theorem encW_put {G : List (Nat × Nat)} {p : Nat × Nat} (hG : ∀ x ∈ G, W64 x) (hp : W64 p) : (encW G).put (wk p) (.agg []) = encW (insW p (delW p G)) := by
  show DataW.map (DataW.insert (wk p, DataW.agg []) ((G.map fun p => (wk p, (DataW.agg [] : WD))).filter fun x => !x.1.sameKey (wk p))) = _
  rw [encW_filter hG hp]
  unfold encW
  congr 1
  generalize delW p G = l
  induction l with
  | nil => rfl
  | cons y r ih =>
    by_cases hb : (wk p).before (wk y) = true
    · simp [DataW.insert, insW, hb]
    · simp [DataW.insert, insW, hb, ih]
theorem encW_del {G : List (Nat × Nat)} {p : Nat × Nat} (hG : ∀ x ∈ G, W64 x) (hp : W64 p) : (encW G).del (wk p) = encW (delW p G) := by
  show DataW.map ((G.map fun p => (wk p, (DataW.agg [] : WD))).filter fun x => !x.1.sameKey (wk p)) = _
  rw [encW_filter hG hp]
  rfl
theorem encW_has {G : List (Nat × Nat)} {p : Nat × Nat} (hG : ∀ x ∈ G, W64 x) (hp : W64 p) : Maps.has (encW G) (wk p) = decide (p ∈ G) := by
  rw [encW, Maps.has_eq, List.any_map]
  induction G with
  | nil => rfl
  | cons y r ih =>
    rw [List.any_cons, ih fun x hx => hG x (by simp [hx])]
    have h1 := wk_same (hG y (by simp)) hp
    simp only [Function.comp, h1]
    by_cases h : y = p
    · simp [h]
    · have : p ≠ y := fun e => h e.symm
      simp [h, this]
theorem encW_size (G : List (Nat × Nat)) : Maps.size (encW G) = G.length := by
  rw [encW, Maps.size_eq, List.length_map]

/-- The map at block m holds the ways ws. -/
def WMap (w : World) (m : Nat) (ws : List (Nat × Nat)) : Prop := ∃ G : List (Nat × Nat), G.Perm ws ∧ (∀ x ∈ G, W64 x) ∧ w.ownsMap Try.prog 72 unitElem m G.length (encW G)

theorem WMap.lt {w : World} {m : Nat} {ws : List (Nat × Nat)} (h : WMap w m ws) : m < w.heap.size := by
  obtain ⟨G, -, -, h⟩ := h
  exact h.lt
theorem WMap.same {w w' : World} {m : Nat} {ws : List (Nat × Nat)} (h : WMap w m ws) (hm : w'.heap[m]? = w.heap[m]?) : WMap w' m ws := by
  obtain ⟨G, h1, h2, es, clock, hb, rest⟩ := h
  exact ⟨G, h1, h2, es, clock, hm.trans hb, rest⟩
theorem WMap.ne {w : World} {m d : Nat} {ws : List (Nat × Nat)} {t : TypeId} {cs : Array Value} (h : WMap w m ws) (hb : Blk w d t cs) : m ≠ d := fun e => by
  subst e
  obtain ⟨G, -, -, es, clock, hc, -⟩ := h
  unfold Blk at hb
  rw [hb] at hc
  cases hc
theorem ways_sized {w : World} {m N : Nat} {G : List (Nat × Nat)} (h : w.ownsMap Try.prog 72 unitElem m N (encW G)) : w.ownsMap Try.prog 72 unitElem m G.length (encW G) := by
  obtain ⟨es, clock, hb, Ft, _, hD⟩ := h
  refine ⟨es, clock, hb, Ft, ?_, hD⟩
  have h1 : Maps.size (encW G) = es.size := by rw [hD]; simp [Maps.size, length_sorted]
  rw [encW_size] at h1
  omega
theorem WMap.made (w : World) : WMap (w.alloc (.map #[] 0)) w.heap.size [] :=
  ⟨[], List.Perm.refl _, fun _ hx => absurd hx List.not_mem_nil, World.ownsMap_made w Try.prog 72 unitElem⟩

theorem zero_unit (w : World) : (zeroValue 70).run Try.prog w = .ok (.agg #[]) w := by kernel_rfl

/-- '_, ok := m[p]'. -/
theorem WMap.look {w : World} {m : Nat} {ws : List (Nat × Nat)} (h : WMap w m ws) {p : Nat × Nat} (hp : W64 p) : (Instr.lookup 57 (.map (some m)) (wv p) true).run Try.prog w = .ok (.tuple #[.agg #[], .bool (decide (p ∈ ws))]) w := by
  obtain ⟨G, h1, h2, h3⟩ := h
  obtain ⟨v, ps, hr, hv⟩ := h3.look_ok wayLaw Try.underlying57 (zero_unit w) (zd := .agg []) (zp := []) rfl (keyOf_wv hp)
  rw [hr, encW_has h2 hp, (unitElem_inv hv).1, decide_eq_decide.2 h1.mem_iff]

theorem blockW_yes {G ws : List (Nat × Nat)} (h : G.Perm ws) (p : Nat × Nat) : (insW p (delW p G)).Perm (blockW ws p.1 p.2 true) := by
  refine (insW_perm _ _).trans ?_
  unfold blockW delW
  rw [if_pos rfl]
  exact ((h.filter _).cons p).trans (List.perm_append_comm (l₁ := [p]))
theorem blockW_no {G ws : List (Nat × Nat)} (h : G.Perm ws) (p : Nat × Nat) : (delW p G).Perm (blockW ws p.1 p.2 false) := by
  unfold blockW delW
  rw [if_neg (by simp), List.append_nil]
  exact h.filter _
theorem delW_all {G : List (Nat × Nat)} {p : Nat × Nat} (h : ∀ x ∈ G, W64 x) : ∀ x ∈ delW p G, W64 x := fun x hx => h x (List.mem_filter.1 hx).1

theorem turned_only {w w' : World} {m : Nat} (h : w.mapTurned w' m) : OnlyS (fun k => k = m) w w' := by
  have hg := h.grown
  exact ⟨hg.os, hg.tape, hg.output, hg.size, fun k hk hne => hg.block k hk fun e => hne (by simpa using e)⟩

/-- 'm[p] = struct{}{}'. -/
theorem WMap.store {w : World} {m : Nat} {ws : List (Nat × Nat)} (h : WMap w m ws) {p : Nat × Nat} (hp : W64 p) (hl : ws.length ≤ 1000000) :
    ∃ w', (Instr.mapUpdate 57 (.map (some m)) (wv p) (.agg #[])).run Try.prog w = .ok () w' ∧ (WMap w' m (blockW ws p.1 p.2 true) ∧ OnlyS (fun k => k = m) w w') := by
  obtain ⟨G, h1, h2, h3⟩ := h
  have hlen := h1.length_eq
  obtain ⟨w', hr, h4, h5⟩ := h3.store wayLaw Try.underlying57 (by unfold maxLen; omega) (keyOf_wv hp) (unitElem_mk (H := Value))
  rw [encW_put h2 hp] at h4
  refine ⟨w', hr, ⟨_, blockW_yes h1 p, fun x hx => ?_, ways_sized h4⟩, turned_only h5⟩
  rcases List.mem_cons.1 ((insW_perm _ _).mem_iff.1 hx) with rfl | hx
  · exact hp
  · exact delW_all h2 x hx

/-- 'delete(m, p)'. -/
theorem WMap.drop {w : World} {m : Nat} {ws : List (Nat × Nat)} (h : WMap w m ws) {p : Nat × Nat} (hp : W64 p) (ty : TypeId) :
    ∃ w', (Builtin.delete_ #[57, 72] ty #[.map (some m), wv p]).run Try.prog w = .ok (.tuple #[]) w' ∧ (WMap w' m (blockW ws p.1 p.2 false) ∧ OnlyS (fun k => k = m) w w') := by
  obtain ⟨G, h1, h2, h3⟩ := h
  obtain ⟨w', hr, h4, h5⟩ := h3.drop wayLaw Try.underlying57 (keyOf_wv hp) ty
  rw [encW_del h2 hp] at h4
  exact ⟨w', hr, ⟨_, blockW_no h1 p, delW_all h2, ways_sized h4⟩, turned_only h5⟩

theorem wpList_mapUpdate_to {w : World} {ops : Array Oper} {rest : List Oper} {o : Oper} {a : Act} {Q : Exit → Act → World → Prop} (hgd : o.guard = none) (m x v : Operand) (t : TypeId) (ho : o.op = .mapUpdate t m x v)
    (mv key val : Value) (hm : a.eval m = mv) (hx : a.eval x = key) (hv : a.eval v = val) (R : World → Prop) (hr : ∃ w', (Instr.mapUpdate t mv key val).run Try.prog w = .ok () w' ∧ R w') (h : ∀ w', R w' → wpList Try.prog ops Q rest (a.put o.dst undef) w') : wpList Try.prog ops Q (o :: rest) a w := by
  obtain ⟨w', hrun, hR⟩ := hr
  refine wpList_plain hgd fun K hK => ?_
  unfold Oper.wp
  simp [execOp, ho, hm, hx, hv, hrun, Result.andThen]
  exact hK _ _ (h w' hR)
theorem wpList_delete_to {w : World} {ops : Array Oper} {rest : List Oper} {o : Oper} {a : Act} {Q : Exit → Act → World → Prop} (hgd : o.guard = none) (m x : Operand) (t k : TypeId)
    (ho : o.op = .call { callee := .builtin .delete, args := #[m, x], argTypes := #[t, k] }) (mv key : Value) (hm : a.eval m = mv) (hx : a.eval x = key) (R : World → Prop)
    (hr : ∃ w', (Builtin.delete_ #[t, k] o.type #[mv, key]).run Try.prog w = .ok (.tuple #[]) w' ∧ R w') (h : ∀ w', R w' → wpList Try.prog ops Q rest (a.put o.dst (.tuple #[])) w') : wpList Try.prog ops Q (o :: rest) a w := by
  obtain ⟨w', hrun, hR⟩ := hr
  refine wpList_plain hgd fun K hK => ?_
  unfold Oper.wp
  simp [execOp, ho, resolve, invoke, builtin, hm, hx, hrun, Result.andThen]
  exact hK _ _ (h w' hR)
end Go.Proofs.Ytgbhfolbkgibfaa

