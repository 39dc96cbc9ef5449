/- MacMarkers: markers and texts in rows of the call's own. -/
import Derived.Test.YtlnhjllcgbdalaaDoorMacMarks
import Derived.Test.YtlnhjllcgbdalaaDoorLast
import Derived.Great.BuildSlice
namespace Go.Proofs.YtlnhjllcgbdalaaDoor
open Go.RowKit ShaMath MacMath Reg
variable {K : List UInt8}

theorem info_marker : (Tryd.prog.info? 37).map (fun i => (i.zero, i.size, i.bytes)) = some (some (.agg zeroMarker), 137, 168) := by kernel_rfl
theorem info_string : (Tryd.prog.info? 9).map (fun i => (i.zero, i.size, i.bytes)) = some (some (.string ⟨#[]⟩), 1, 16) := by kernel_rfl

theorem build_marker (W : World) (cs : Array Value) (hc : cs.size = 137) : (Instr.buildSlice 39 1 #[(0, .agg cs)]).run Tryd.prog W = .ok (.slice (some ⟨W.heap.size, 0, none⟩) 1 1) (W.alloc (.cells cs 37)) := by
  obtain ⟨i, hi, hz0, hz1, hz2⟩ := info_parts info_marker
  refine run_buildSlice W _ _ 1 _ cs i _ Tryd.underlying39 hi hz0 (by rw [hz1]; decide) (by rw [hz1]; decide) ?_
  rw [hz1]
  have := Go.Great.fill_whole (s := 137) (by decide) [.agg cs] ((Array.range (1 * 137)).map ((Value.agg zeroMarker).cells[· % (Value.agg zeroMarker).cells.size]!)) (by simp [Value.cells, hc]) (by simp)
  simpa [Value.cells] using this

theorem wpList_build_marker {w : World} {ops : Array Oper} {rest : List Oper} {o : Oper} {a : Act} {Q : Exit → Act → World → Prop} (hgd : o.guard = none) (x : Operand) (ho : o.op = .buildSlice 39 1 #[(0, x)])
    (cs : Array Value) (hx : a.eval x = .agg cs) (hc : cs.size = 137) (h : wpList Tryd.prog ops Q rest (a.put o.dst (.slice (some ⟨w.heap.size, 0, none⟩) 1 1)) (w.alloc (.cells cs 37))) : wpList Tryd.prog ops Q (o :: rest) a w := by
  refine wpList_plain hgd fun K hK => ?_
  unfold Oper.wp execOp
  simp only [ho, Sem.run_bind, List.map_toArray, List.map_cons, List.map_nil, hx, build_marker w cs hc, Result.andThen_ok]
  exact hK _ _ h

/-- The texts as a row holds them. -/
def txs (T : List (List UInt8)) : List Value := T.map fun t => .string ⟨t.toArray⟩
theorem txs_length (T : List (List UInt8)) : (txs T).length = T.length := by simp [txs]

/-- States and their texts, each in a row of the call's own, from block B on. -/
structure Kept (K : List UInt8) (W : World) (B : Nat) (v3 v4 : Value) (S : List (List Value)) (T : List (List UInt8)) : Prop where
  states : W.ownsRow B 37 137 v3 T.length S.flatten
  texts : W.ownsRow B 9 1 v4 T.length (txs T)
  len : S.length = T.length
  each : ∀ (i : Nat) (c : List Value) (t : List UInt8), S[i]? = some c → T[i]? = some t → c.length = 137 ∧ (∀ u ∈ c, u.oneCell' = true) ∧ IsMarker (.agg c.toArray) K t

theorem below_grown {w wr w' : World} {v : Value} (h : Below w.heap.size w wr) (hg : wr.grownBy w' v.ownBlock) (hv : ∀ k, v.ownBlock = some k → w.heap.size ≤ k) : Below w.heap.size w w' := h.grown hg h.size hv

theorem own_below {w w' : World} {B : Nat} {e : TypeId} {size : Nat} {v : Value} {n : Nat} {xs : List Value} (h : w.ownsRow B e size v n xs) (hb : Below w.heap.size w w') : w'.ownsRow B e size v n xs := by
  refine ⟨h.1, ?_⟩
  rcases h.2 with h0 | ⟨g, cap, cur, h1, h2, h3, h4⟩
  · exact .inl h0
  · have hlt : g < w.heap.size := (Array.getElem?_eq_some_iff.1 h3).1
    exact .inr ⟨g, cap, cur, h1, h2, by rw [hb.block g hlt]; exact h3, h4⟩

theorem Kept.below {W W' : World} {B : Nat} {v3 v4 : Value} {S : List (List Value)} {T : List (List UInt8)} (h : Kept K W B v3 v4 S T) (hb : Below W.heap.size W W') : Kept K W' B v3 v4 S T :=
  ⟨own_below h.states hb, own_below h.texts hb, h.len, h.each⟩

theorem flat_at {n : Nat} : ∀ (S : List (List Value)) (k : Nat) (c : List Value), (∀ d ∈ S, d.length = n) → S[k]? = some c → ∀ j u, c[j]? = some u → S.flatten[k * n + j]? = some u
  | d :: r, 0, c, hall, hk, j, u, hj => by
    simp at hk
    subst hk
    have hlt := (List.getElem?_eq_some_iff.1 hj).1
    simp only [List.flatten_cons, Nat.zero_mul, Nat.zero_add]
    rw [List.getElem?_append_left hlt]
    exact hj
  | d :: r, k + 1, c, hall, hk, j, u, hj => by
    have hd := hall d (by simp)
    simp only [List.flatten_cons]
    rw [List.getElem?_append_right (by rw [hd, Nat.succ_mul]; omega), hd, show (k + 1) * n + j - n = k * n + j by rw [Nat.succ_mul]; omega]
    exact flat_at r k c (fun e he => hall e (List.mem_cons_of_mem _ he)) (by simpa using hk) j u hj

theorem Kept.lens {W : World} {B : Nat} {v3 v4 : Value} {S : List (List Value)} {T : List (List UInt8)} (h : Kept K W B v3 v4 S T) : ∀ d ∈ S, d.length = 137 := by
  intro d hd
  obtain ⟨i, hi⟩ := List.mem_iff_getElem?.1 hd
  have hlt := (List.getElem?_eq_some_iff.1 hi).1
  exact (h.each i d _ hi (List.getElem?_eq_getElem (by rw [← h.len]; exact hlt))).1

/-- Where the rows lie. -/
theorem own_form {w : World} {B : Nat} {e : TypeId} {size : Nat} {v : Value} {n : Nat} {xs : List Value} (h : w.ownsRow B e size v n xs) (hn : 0 < n) : ∃ g c, v = .slice (some ⟨g, 0, none⟩) n c ∧ n ≤ c := by
  rcases h.2 with ⟨_, h0⟩ | ⟨g, cap, cur, h1, _, _, h2, _⟩
  · omega
  · exact ⟨g, cap, h1, h2⟩

/-- states[k], as loaded. -/
theorem Kept.load {W : World} {B g n c : Nat} {v4 : Value} {S : List (List Value)} {T : List (List UInt8)} (h : Kept K W B (.slice (some ⟨g, 0, none⟩) n c) v4 S T) (k : Nat) (hk : k < T.length) :
    ∃ cs : List Value, ∃ t, T[k]? = some t ∧ S[k]? = some cs ∧ cs.length = 137 ∧ IsMarker (.agg cs.toArray) K t ∧ 
      (Instr.loadAt 37 (.pointer (some ⟨g, k * 137, none⟩))).run Tryd.prog W = .ok (.agg cs.toArray) W := by
  have hs : k < S.length := by rw [h.len]; exact hk
  have e1 := List.getElem?_eq_getElem hs
  have e2 := List.getElem?_eq_getElem hk
  obtain ⟨h1, h2, h3⟩ := h.each k _ _ e1 e2
  refine ⟨_, _, e2, e1, h1, h3, ?_⟩
  refine loads_cells _ _ _ _ Tryd.underlying37 rfl (by rw [h1]; kernel_rfl) fun j u hj => ?_
  have hj2 := (List.getElem?_eq_some_iff.1 hj).1
  rw [h1] at hj2
  have hst := h.states
  obtain ⟨g', c', e3, _⟩ := own_form hst (by omega)
  cases e3
  rw [addr_add, World.ownsRow.cellAt hst _ (by have : k + 1 ≤ T.length := hk; have := Nat.mul_le_mul_right 137 this; omega)]
  exact flat_at S k _ h.lens e1 j u hj

theorem own_other {W w' : World} {B size size' n n' : Nat} {e e' : TypeId} {v v' : Value} {xs xs' : List Value} (h : W.ownsRow B e size v n xs) (h' : W.ownsRow B e' size' v' n' xs') (hne : e ≠ e') (hg : W.grownBy w' v'.ownBlock) : w'.ownsRow B e size v n xs := by
  refine World.ownsRow.kept h hg ?_
  cases hv : v.ownBlock with
  | none => exact .inl rfl
  | some k =>
    right
    intro he
    rcases h.2 with ⟨e1, _⟩ | ⟨g, cap, cur, e1, _, hg1, _⟩
    · rw [e1] at hv; simp [Value.ownBlock] at hv
    · rw [e1] at hv
      rcases h'.2 with ⟨e2, _⟩ | ⟨g', cap', cur', e2, _, hg2, _⟩
      · rw [e2] at he; simp [Value.ownBlock] at he
      · rw [e2] at he
        simp only [Value.ownBlock, Option.some.injEq] at hv he
        rw [hv, he, hg2] at hg1
        simp at hg1
        exact hne hg1.2.symm

theorem own_set {W : World} {B size n n' g c : Nat} {e e' : TypeId} {v : Value} {size' : Nat} {xs xs' : List Value} (h : W.ownsRow B e size v n xs) (h' : W.ownsRow B e' size' (.slice (some ⟨g, 0, none⟩) n' c) n' xs') (hne : e ≠ e') (j : Nat) (u : Value) : (W.setCell ⟨g, j, none⟩ u).ownsRow B e size v n xs := by
  refine ⟨h.1, ?_⟩
  rcases h.2 with h0 | ⟨k, cap, cur, h1, h2, h3, h4⟩
  · exact .inl h0
  · refine .inr ⟨k, cap, cur, h1, h2, ?_, h4⟩
    have hne2 : k ≠ g := by
      rintro rfl
      rcases h'.2 with ⟨e2, _⟩ | ⟨g', cap', cur', e2, _, hg2, _⟩
      · cases e2
      · cases e2
        rw [hg2] at h3
        simp at h3
        exact hne h3.2.symm
    exact (show Blk W k e cur from h3).other ⟨g, j, none⟩ u hne2

/-- append(states, one). -/
theorem Kept.addMarker {W : World} {B : Nat} {v3 v4 : Value} {S : List (List Value)} {T : List (List UInt8)} (h : Kept K W B v3 v4 S T) (cs : Array Value) (hc : cs.size = 137) (h1 : ∀ u ∈ cs.toList, u.oneCell' = true) (hB : B ≤ W.heap.size) (hn : T.length ≤ 100)
    (x : Nat) (hx : Blk W x 37 cs) :
    ∃ v' w', (Builtin.append_ #[39, 39] 39 #[v3, .slice (some ⟨x, 0, none⟩) 1 1]).run Tryd.prog W = .ok v' w' ∧
      (w'.ownsRow B 37 137 v' (T.length + 1) (S ++ [cs.toList]).flatten ∧ (∀ e size v n xs, e ≠ 37 → W.ownsRow B e size v n xs → w'.ownsRow B e size v n xs) ∧ (∀ A : World, ∀ D, D ≤ B → Below D A W → Below D A w')) := by
  obtain ⟨i0, hi, hz0, hz1, hz2⟩ := info_parts info_marker
  obtain ⟨v', w', hr, o1, o2, _⟩ := run_append_own (P := Tryd.prog) (w := W) B 39 39 37 i0 (.agg zeroMarker) 137 168 Tryd.underlying39 hi hz0 hz1 hz2 (by kernel_rfl) (by decide) v3 T.length S.flatten h.states ⟨x, 0, none⟩ 1 1 cs.toList (by simp [hc])
    (fun j u hj => by rw [addr_add, Nat.zero_add, hx.cell]; simpa using hj) h1 (by unfold maxLen; omega) (by omega) hB
  exact ⟨v', w', hr, by simpa using o1, fun e size v n xs hne hv => own_other hv h.states hne o2, fun A D hD hA => hA.grown o2 (Nat.le_trans hD hB) fun k hk => Nat.le_trans hD (World.ownsRow.lt h.states k hk).1⟩

/-- append(texts, one). -/
theorem add_text {W : World} {B : Nat} {v4 : Value} {T : List (List UInt8)} (h : W.ownsRow B 9 1 v4 T.length (txs T)) (t : List UInt8) (hB : B ≤ W.heap.size) (hn : T.length ≤ 100)
    (x : Nat) (hx : Blk W x 9 #[.string ⟨t.toArray⟩]) :
    ∃ v' w', (Builtin.append_ #[40, 40] 40 #[v4, .slice (some ⟨x, 0, none⟩) 1 1]).run Tryd.prog W = .ok v' w' ∧
      (w'.ownsRow B 9 1 v' (T ++ [t]).length (txs (T ++ [t])) ∧ (∀ e size v n xs, e ≠ 9 → W.ownsRow B e size v n xs → w'.ownsRow B e size v n xs) ∧ (∀ A : World, ∀ D, D ≤ B → Below D A W → Below D A w')) := by
  obtain ⟨i0, hi, hz0, hz1, hz2⟩ := info_parts info_string
  obtain ⟨v', w', hr, o1, o2, _⟩ := run_append_own (P := Tryd.prog) (w := W) B 40 40 9 i0 (.string ⟨#[]⟩) 1 16 Tryd.underlying40 hi hz0 hz1 hz2 rfl (by decide) v4 T.length (txs T) h ⟨x, 0, none⟩ 1 1 [.string ⟨t.toArray⟩] (by simp)
    (fun j u hj => by rw [addr_add, Nat.zero_add, hx.cell]; simpa using hj) (by simp [Value.oneCell']) (by unfold maxLen; omega) (by omega) hB
  exact ⟨v', w', hr, by simpa [txs] using o1, fun e size v n xs hne hv => own_other hv h hne o2, fun A D hD hA => hA.grown o2 (Nat.le_trans hD hB) fun k hk => Nat.le_trans hD (World.ownsRow.lt h k hk).1⟩

/-- The rows with one more of each. -/
theorem Kept.more {W : World} {B : Nat} {v3 v4 : Value} {S : List (List Value)} {T : List (List UInt8)} (hl : S.length = T.length) (he : ∀ (i : Nat) (c : List Value) (t : List UInt8), S[i]? = some c → T[i]? = some t → c.length = 137 ∧ (∀ u ∈ c, u.oneCell' = true) ∧ IsMarker (.agg c.toArray) K t)
    (cs : Array Value) (t : List UInt8) (hc : cs.size = 137) (h1 : ∀ u ∈ cs.toList, u.oneCell' = true) (hst : IsMarker (.agg cs) K t) (h3 : W.ownsRow B 37 137 v3 (T.length + 1) (S ++ [cs.toList]).flatten) (h4 : W.ownsRow B 9 1 v4 (T ++ [t]).length (txs (T ++ [t]))) :
    Kept K W B v3 v4 (S ++ [cs.toList]) (T ++ [t]) := by
  refine ⟨by simpa using h3, h4, by simp [hl], fun i c u hc' hu => ?_⟩
  by_cases hi : i < S.length
  · rw [List.getElem?_append_left hi] at hc'
    rw [List.getElem?_append_left (by omega)] at hu
    exact he i c u hc' hu
  · have hi2 : i = S.length := by
      have := (List.getElem?_eq_some_iff.1 hc').1
      simp at this
      omega
    subst hi2
    rw [List.getElem?_append_right (Nat.le_refl _)] at hc'
    rw [List.getElem?_append_right (by omega)] at hu
    simp at hc'
    rw [hl] at hu
    simp at hu
    subst hc' hu
    exact ⟨by simpa using hc, h1, by simpa using hst⟩

theorem text_index (W : World) (g m c k : Nat) (hk : k < m) : (Instr.indexAt 40 (.slice (some ⟨g, 0, none⟩) m c) (.int .i64 (k : Int))).run Tryd.prog W = .ok (.pointer (some ⟨g, k, none⟩)) W := by
  have ht : Tryd.prog.underlying 40 = some (.slice (Tryd.prog.elem 40)) := by
    rw [show Tryd.prog.elem 40 = 9 by kernel_rfl]
    exact Tryd.underlying40
  have hs : (Go.sizeOf (Tryd.prog.elem 40)).run Tryd.prog W = .ok 1 W := by kernel_rfl
  rw [run_indexAt_slice (h := ht), if_pos (by omega), hs]
  simp [Result.andThen, addr_add]

theorem text_load (W : World) (p : Addr) (s : ByteArray) (h : W.cell? p = some (.string s)) : (Instr.loadAt 9 (.pointer (some p))).run Tryd.prog W = .ok (.string s) W := by
  have hagg : (isAgg 9).run Tryd.prog W = .ok false W := by kernel_rfl
  simp [Instr.loadAt, Instr.sureAddr, loadVar, Sem.run_bind, hagg, h]

theorem text_build (W : World) (s : ByteArray) : (Instr.buildSlice 40 1 #[(0, .string s)]).run Tryd.prog W = .ok (.slice (some ⟨W.heap.size, 0, none⟩) 1 1) (W.alloc (.cells #[.string s] 9)) := by
  have hz : (zeroValue 9).run Tryd.prog W = .ok (.string ⟨#[]⟩) W := by kernel_rfl
  have hs : (Go.sizeOf 9).run Tryd.prog W = .ok 1 W := by kernel_rfl
  simp [Instr.buildSlice, run_underlying Tryd.underlying40, Result.andThen, hz, hs, Instr.fill, newRow, Value.cells, range_one]

theorem text_add (a b : List UInt8) (h : a.length + b.length ≤ 1152921504606846976) (s t : Operand) (W : World) : (do eqGuard .add 9 s t (.string ⟨a.toArray⟩) (.string ⟨b.toArray⟩); binOp .add 9 (.string ⟨a.toArray⟩) (.string ⟨b.toArray⟩) : Sem Value).run Tryd.prog W = .ok (.string ⟨(a ++ b).toArray⟩) W := by
  have e : (⟨a.toArray⟩ : ByteArray) ++ ⟨b.toArray⟩ = ⟨(a ++ b).toArray⟩ := by
    apply ByteArray.ext
    simp
  have hs : ¬ (((⟨a.toArray⟩ : ByteArray).size + (⟨b.toArray⟩ : ByteArray).size : Nat) : Int) > IntKind.i64.max := by
    show ¬ (((a.toArray.size + b.toArray.size : Nat)) : Int) > 9223372036854775807
    simp
    omega
  have h1 : (Op.stringOp .add ⟨a.toArray⟩ ⟨b.toArray⟩).run Tryd.prog W = .ok (.string ⟨(a ++ b).toArray⟩) W := by
    unfold Op.stringOp
    simp only [if_neg hs, e]
    rfl
  simp [eqGuard, binOp, h1]

/-- The operations that came in. -/
def OpsAt (w : World) (a : Option Addr) (n : Nat) : Prop := ∀ i, i < n → ∃ (ad : Addr) (f : Int) (A : Option Addr) (L C : Nat) (t : List UInt8), a = some ad ∧ w.cell? (ad.add (i * 2)) = some (.int .i64 f) ∧ w.cell? ⟨(ad.add (i * 2)).block, (ad.add (i * 2)).off + 1, none⟩ = some (.slice A L C) ∧ Bys w (.slice A L C) t ∧ t.length = L ∧ L ≤ 1048576 ∧ L ≤ C

/-- Between two rounds. -/
def MarkersAt (K : List UInt8) (w : World) (n : Nat) (s3 s4 s5 : Value) (wr : World) : Prop :=
  ∃ (i : Nat) (S : List (List Value)) (T : List (List UInt8)), i ≤ n ∧ i ≤ 30 ∧ s5 = .int .i64 i ∧ T.length = i + 1 ∧ Kept K wr w.heap.size s3 s4 S T ∧ (∀ t ∈ T, t.length ≤ i * 1048576) ∧ Below w.heap.size w wr
theorem lens_more {T : List (List UInt8)} {tk t : List UInt8} {i : Nat} (h : ∀ u ∈ T, u.length ≤ i * 1048576) (htk : tk.length ≤ i * 1048576) (ht : t.length ≤ 1048576) : ∀ u ∈ T ++ [tk ++ t], u.length ≤ (i + 1) * 1048576 := fun u hu => by
  rcases List.mem_append.1 hu with h1 | h1
  · exact Nat.le_trans (h u h1) (Nat.mul_le_mul_right _ (Nat.le_succ i))
  · obtain rfl := List.mem_singleton.1 h1
    rw [List.length_append, Nat.succ_mul]
    exact Nat.add_le_add htk ht

theorem Kept.set {W : World} {B g n c : Nat} {v3 v4 : Value} {S : List (List Value)} {T : List (List UInt8)} {l : List UInt8} (h : Kept K W B v3 v4 S T) (hr : Row W B (.slice (some ⟨g, 0, none⟩) n c) l) (j : Nat) (u : Value) : Kept K (W.setCell ⟨g, j, none⟩ u) B v3 v4 S T := by
  obtain ⟨a', c', e⟩ := slice_of_row hr
  cases e
  exact ⟨own_set h.states hr (by decide) j u, own_set h.texts hr (by decide) j u, h.len, h.each⟩

theorem Kept.loadAs {W : World} {B g n c : Nat} {v4 : Value} {S : List (List Value)} {T : List (List UInt8)} (h : Kept K W B (.slice (some ⟨g, 0, none⟩) n c) v4 S T) (k : Nat) (cs : List Value) (hS : S[k]? = some cs) :
    (Instr.loadAt 37 (.pointer (some ⟨g, k * 137, none⟩))).run Tryd.prog W = .ok (.agg cs.toArray) W := by
  have hk : k < T.length := by rw [← h.len]; exact (List.getElem?_eq_some_iff.1 hS).1
  obtain ⟨cs', t, _, h2, _, _, h3⟩ := h.load k hk
  rw [hS] at h2
  cases h2
  exact h3

theorem Kept.textAs {W : World} {B g n c : Nat} {v3 : Value} {S : List (List Value)} {T : List (List UInt8)} (h : Kept K W B v3 (.slice (some ⟨g, 0, none⟩) n c) S T) (k : Nat) (t : List UInt8) (hT : T[k]? = some t) : W.cell? ⟨g, k, none⟩ = some (.string ⟨t.toArray⟩) := by
  have hk := (List.getElem?_eq_some_iff.1 hT).1
  have h2 := h.texts
  obtain ⟨g', c', e, _⟩ := own_form h2 (by omega)
  cases e
  rw [World.ownsRow.cellAt h2 k (by omega), txs, List.getElem?_map, hT]
  rfl

theorem marker_index (W : World) (g m c k : Nat) (hk : k < m) : (Instr.indexAt 39 (.slice (some ⟨g, 0, none⟩) m c) (.int .i64 (k : Int))).run Tryd.prog W = .ok (.pointer (some ⟨g, k * 137, none⟩)) W := by
  have ht : Tryd.prog.underlying 39 = some (.slice (Tryd.prog.elem 39)) := by
    rw [show Tryd.prog.elem 39 = 37 by kernel_rfl]
    exact Tryd.underlying39
  have hs : (Go.sizeOf (Tryd.prog.elem 39)).run Tryd.prog W = .ok 137 W := by kernel_rfl
  rw [run_indexAt_slice (h := ht), if_pos (by omega), hs]
  simp [Result.andThen, addr_add]

/-- '[]byte(t)'. -/
theorem text_bytes (W : World) (t : List UInt8) : ∃ c W', (convert 9 22 (.string ⟨t.toArray⟩)).run Tryd.prog W = .ok (.slice (some ⟨W.heap.size, 0, none⟩) t.length c) W' ∧ Bys W' (.slice (some ⟨W.heap.size, 0, none⟩) t.length c) t ∧ Below W.heap.size W W' := by
  refine ⟨_, _, run_bytes_of_string (P := Tryd.prog) W _ _ _ ⟨t.toArray⟩ Tryd.underlying9 Tryd.underlying22 Tryd.underlying5, ?_, (Below.refl _ _).drew.alloc (Nat.le_refl _) _⟩
  refine .inr ⟨⟨W.heap.size, 0, none⟩, _, rfl, fun i hi => ?_⟩
  have hg : (W.drew.alloc (.cells (bytesRow ⟨t.toArray⟩ (grownCap W (ByteArray.size ⟨t.toArray⟩) 0 5)) 5 ((bytesRow ⟨t.toArray⟩ (grownCap W (ByteArray.size ⟨t.toArray⟩) 0 5)).size, (bytesRow ⟨t.toArray⟩ (grownCap W (ByteArray.size ⟨t.toArray⟩) 0 5)).size + 1))).heap[W.heap.size]? = some (.cells (bytesRow ⟨t.toArray⟩ (grownCap W (ByteArray.size ⟨t.toArray⟩) 0 5)) 5 ((bytesRow ⟨t.toArray⟩ (grownCap W (ByteArray.size ⟨t.toArray⟩) 0 5)).size, (bytesRow ⟨t.toArray⟩ (grownCap W (ByteArray.size ⟨t.toArray⟩) 0 5)).size + 1)) := heap_alloc_new W.drew _
  rw [addr_add, Nat.zero_add, cell_of_row _ _ _ _ _ _ hg, bytesRow_at _ _ _ (by simpa using hi)]
  simp [bv]

/-- Between two rounds of the last loop. -/
def MarkersLook (K : List UInt8) (w : World) (v3 v4 : Value) (S : List (List Value)) (T : List (List UInt8)) (s9 : Value) (wr : World) : Prop :=
  ∃ j : Nat, s9 = .int .i64 j ∧ j ≤ T.length ∧ Kept K wr w.heap.size v3 v4 S T ∧ Below w.heap.size w wr
end Go.Proofs.YtlnhjllcgbdalaaDoor
