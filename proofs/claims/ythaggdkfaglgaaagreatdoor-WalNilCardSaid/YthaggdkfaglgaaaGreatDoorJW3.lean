/- Joined: WalList, WalAppend, WalAppend2, WalCut, WalTrim. -/
import Derived.Test.YthaggdkfaglgaaaGreatDoorJW2
/- A log's list: a record more, the last ones cut off, the first ones trimmed. -/
namespace Go.Proofs.YthaggdkfaglgaaaGreatDoor
set_option maxRecDepth 20000
open Go.RowKit Go.Maps DiskMath WalMath FrameMath Reg

theorem only_row (w : World) (g : Nat) (xs : Array Value) : OnlyS (fun k => k = g) w (w.setRow g xs) :=
  ⟨rfl, rfl, rfl, by simp, fun k _ hk => setRow_other w g k xs hk⟩

/-- append to a list that may begin inside of its block, where there is room. -/
theorem append_mid (w : World) (g o n cap : Nat) (cur : Array Value) (hg : w.heap[g]? = some (.cells cur 27 (0, 0))) (a : Addr) (u : Value) (ha : w.cell? a = some u) (hu : u.oneCell' = true) (hroom : n + 1 ≤ cap) (hfit : o + n + 1 ≤ cur.size) :
    (Builtin.append_ #[33, 33] 33 #[.slice (some ⟨g, o, none⟩) n cap, .slice (some a) 1 1]).run Tryz.prog w =
      .ok (.slice (some ⟨g, o, none⟩) (n + 1) cap) (w.setRow g (cur.toList.take (o + n) ++ [u] ++ cur.toList.drop (o + n + 1)).toArray) := by
  obtain ⟨i, hi, hz0, hz1, hz2⟩ := info_parts info_text
  have hf := run_firstCells_some (P := Tryz.prog) w i.size 1 a 1 1 [u] (by simp [hz1]) (fun j v hj => by
    have hj0 : j = 0 := by have := (List.getElem?_eq_some_iff.1 hj).1; simp at this; exact this
    subst hj0
    simp at hj
    subst hj
    simpa [Addr.add] using ha)
  rw [hz1] at hf
  have hst := run_storeCells_at Tryz.prog g (o + n) 27 [u] 0 cur w hg (by simpa using hfit) (by simpa using hu)
  simp only [Nat.add_zero, List.length_cons, List.length_nil, Nat.zero_add] at hst
  have e1 : (⟨g, o, none⟩ : Addr).add n = ⟨g, o + n, none⟩ := addr_add g o n
  simp [Builtin.append_, run_underlying Tryz.underlying33, sizeOf, typeInfo, hi, Builtin.lenOf, hroom, hf, hz1, e1, hst]

theorem ListO.add {W : World} {v u : Value} {us : List Value} (h : ListO W v us) (hu : u.oneCell' = true) (x : Nat) (hx : Blk W x 27 #[u]) (hn : us.length ≤ 1000) :
    ∃ v' w', (Builtin.append_ #[33, 33] 33 #[v, .slice (some ⟨x, 0, none⟩) 1 1]).run Tryz.prog W = .ok v' w' ∧
      ListO w' v' (us ++ [u]) ∧ OnlyS (fun k => v.ownBlock = some k) W w' ∧ (∀ k, v'.ownBlock = some k → v.ownBlock = some k ∨ W.heap.size ≤ k) ∧ ListO w' v us := by
  obtain ⟨i0, hi, hz0, hz1, hz2⟩ := info_parts info_text
  have hcx : W.cell? ⟨x, 0, none⟩ = some u := by rw [hx.cell]; rfl
  have hnews : ∀ j y, [u][j]? = some y → W.cell? ((⟨x, 0, none⟩ : Addr).add j) = some y := fun j y hj => by
    have hj0 : j = 0 := by have := (List.getElem?_eq_some_iff.1 hj).1; simp at this; exact this
    subst hj0
    simp at hj
    subst hj
    simpa [Addr.add] using hcx
  rcases h with ⟨rfl, rfl⟩ | ⟨g, o, cap, cur, rfl, hg, h1, h2, h4⟩
  · have hr := run_append_nil (P := Tryz.prog) W 33 33 27 i0 (.slice none 0 0) Tryz.underlying33 hi hz0 ⟨x, 0, none⟩ 1 1 [u] (by simp [hz1]) hnews (by omega) (by omega) (by rw [hz2]; omega)
    refine ⟨_, _, hr, ?_, ⟨rfl, rfl, rfl, by simp, fun k hk _ => Below.heap_alloc W.drew _ k hk⟩, fun k hk => ?_, .inl ⟨rfl, rfl⟩⟩
    · refine .inr ⟨W.heap.size, 0, _, _, rfl, heap_alloc_new W.drew _, ?_, ?_, fun i y hi => ?_⟩
      · have := grownCap_ge W 1 0 27
        simpa using this
      · have := grownCap_ge W 1 0 27
        simp [Builtin.zeroCells, Value.cells]
        omega
      · have hi0 : i = 0 := by have := (List.getElem?_eq_some_iff.1 hi).1; simp at this; exact this
        subst hi0
        simp at hi
        subst hi
        rw [Nat.zero_add, Array.getElem?_append_left (by simp)]
        rfl
    · simp [Value.ownBlock] at hk
      exact .inr (by omega)
  · by_cases hroom : us.length + 1 ≤ cap
    · have hr := append_mid W g o us.length cap cur hg ⟨x, 0, none⟩ u hcx hu hroom (by omega)
      have hcells : ∀ (i : Nat) (y : Value), us[i]? = some y → (cur.toList.take (o + us.length) ++ [u] ++ cur.toList.drop (o + us.length + 1)).toArray[o + i]? = some y := fun i y hi => by
        have hlt := (List.getElem?_eq_some_iff.1 hi).1
        have h5 := h4 i y hi
        have e0 : cur.toList.length = cur.size := Array.length_toList
        have el : (cur.toList.take (o + us.length)).length = o + us.length := by rw [List.length_take, e0]; omega
        simp only [List.append_assoc, List.getElem?_toArray]
        rw [List.getElem?_append_left (l₁ := cur.toList.take (o + us.length)) (by rw [el]; omega), List.getElem?_take_of_lt (by omega)]
        simpa using h5
      have hsz : o + cap ≤ (cur.toList.take (o + us.length) ++ [u] ++ cur.toList.drop (o + us.length + 1)).toArray.size := by
        simp only [List.size_toArray, List.length_append, List.length_take, List.length_drop, Array.length_toList, List.length_cons, List.length_nil]
        omega
      refine ⟨_, _, hr, ?_, (only_row W g _).mono fun k _ e => by subst e; rfl, fun k hk => .inl hk, .inr ⟨g, o, cap, _, rfl, setRow_heap W g cur _ 27 _ hg, h1, hsz, hcells⟩⟩
      refine .inr ⟨g, o, cap, _, by simp, setRow_heap W g cur _ 27 _ hg, by simp; omega, hsz, fun i y hi => ?_⟩
      · by_cases hlt : i < us.length
        · rw [List.getElem?_append_left hlt] at hi
          exact hcells i y hi
        · have hi2 : i = us.length := by
            have := (List.getElem?_eq_some_iff.1 hi).1
            simp at this
            omega
          subst hi2
          rw [List.getElem?_append_right (Nat.le_refl _)] at hi
          simp at hi
          subst hi
          have el : (cur.toList.take (o + us.length)).length = o + us.length := by
            have e0 : cur.toList.length = cur.size := Array.length_toList
            rw [List.length_take, e0]
            omega
          simp only [List.append_assoc, List.getElem?_toArray]
          rw [List.getElem?_append_right (l₁ := cur.toList.take (o + us.length)) (by rw [el]; exact Nat.le_refl _), el, Nat.sub_self]
          rfl
    · have holds : ∀ j y, us[j]? = some y → W.cell? ((⟨g, o, none⟩ : Addr).add j) = some y := fun j y hj => by
        rw [addr_add, cell_of_heap hg]
        exact h4 j y hj
      have hr := run_append_grow (P := Tryz.prog) W 33 33 27 i0 (.slice none 0 0) Tryz.underlying33 hi hz0 ⟨g, o, none⟩ us.length cap us (by rw [hz1]; omega) holds ⟨x, 0, none⟩ 1 1 [u] (by simp [hz1]) hnews (by omega) (by omega)
        (growslice_fits (by omega) (by rw [hz2]; omega))
      refine ⟨_, _, hr, ?_, ⟨rfl, rfl, rfl, by simp, fun k hk _ => Below.heap_alloc W.drew _ k hk⟩, fun k hk => ?_, .inr ⟨g, o, cap, cur, rfl, by rw [Below.heap_alloc W.drew _ g (Array.getElem?_eq_some_iff.1 hg).1]; exact hg, h1, h2, h4⟩⟩
      · have hge := grownCap_ge W (us.length + 1) cap 27
        refine .inr ⟨W.heap.size, 0, grownCap W (us.length + 1) cap 27, _, by simp, heap_alloc_new W.drew _, by simpa using hge, ?_, fun i y hi => ?_⟩
        · simp [Builtin.zeroCells, Value.cells]
          omega
        · have hil := (List.getElem?_eq_some_iff.1 hi).1
          rw [Nat.zero_add]
          rw [Array.getElem?_append_left (by simpa using hil)]
          simpa using hi
      · simp [Value.ownBlock] at hk
        exact .inr (by omega)

theorem setCells_heap (b : Nat) : ∀ (vs : List Value) (o : Nat) (w : World) (cur : Array Value) (t : TypeId) (fr : Nat × Nat), w.heap[b]? = some (.cells cur t fr) →
    ∃ cur', (w.setCells b o vs).heap[b]? = some (.cells cur' t fr) ∧ cur'.size = cur.size ∧ (∀ j, (j < o ∨ o + vs.length ≤ j) → cur'[j]? = cur[j]?) ∧ OnlyS (fun k => k = b) w (w.setCells b o vs)
  | [], o, w, cur, t, fr, h => ⟨cur, h, rfl, fun _ _ => rfl, OnlyS.refl _ _⟩
  | v :: r, o, w, cur, t, fr, h => by
    obtain ⟨cur', h1, h2, h3, h4⟩ := setCells_heap b r (o + 1) (w.setCell ⟨b, o, none⟩ v) _ t fr (heap_set_same h v)
    refine ⟨cur', h1, by rw [h2]; simp, fun j hj => ?_, ((OnlyS.refl (fun k => k = b) w).setCell (p := ⟨b, o, none⟩) (fun _ => rfl) v).trans h4⟩
    rw [h3 j (by simp only [List.length_cons] at hj; omega)]
    exact Array.getElem?_setIfInBounds_ne (by simp only [List.length_cons] at hj; omega)

theorem zero_text (w : World) : (zeroValue 27).run Tryz.prog w = .ok (.slice none 0 0) w := by kernel_rfl

/-- 'clear' of a part of a list. -/
theorem clear_mid (w : World) (ty : TypeId) (g o n c : Nat) (cur : Array Value) (hg : w.heap[g]? = some (.cells cur 27 (0, 0))) (hfit : o + n ≤ cur.size) :
    ∃ w', (Builtin.clear_ #[33] ty #[.slice (some ⟨g, o, none⟩) n c]).run Tryz.prog w = .ok (.tuple #[]) w' ∧ OnlyS (fun k => k = g) w w' ∧
      ∃ cur', w'.heap[g]? = some (.cells cur' 27 (0, 0)) ∧ cur'.size = cur.size ∧ ∀ j, (j < o ∨ o + n ≤ j) → cur'[j]? = cur[j]? := by
  by_cases h0 : n = 0
  · subst h0
    exact ⟨w, by simp [Builtin.clear_, run_underlying Tryz.underlying33], OnlyS.refl _ _, cur, hg, rfl, fun _ _ => rfl⟩
  · have hr := Lib.run_clear_slice (P := Tryz.prog) w 33 27 ty (.slice none 0 0) Tryz.underlying33 zero_text rfl rfl g o n c (by omega)
      (fun j hj => by rw [cell_of_heap hg]; simp; omega) (fun j hj => free_of_heap hg)
    obtain ⟨cur', h1, h2, h3, h4⟩ := setCells_heap g (List.replicate n (.slice none 0 0)) o w cur _ _ hg
    exact ⟨_, hr, h4, cur', h1, h2, fun j hj => h3 j (by simpa using hj)⟩

/-- 'list[lo:]'. -/
theorem slice_txs_from (b : Option Addr) (n c lo : Nat) (h1 : lo ≤ n) (W : World) : (Instr.sliceAt 33 (.slice b n c) (some (.int .u64 (lo : Int))) none none).run Tryz.prog W = .ok (sliced b lo n c 1) W := by
  have ht : Tryz.prog.underlying 33 = some (.slice (Tryz.prog.elem 33)) := by rw [elem_txs]; exact Tryz.underlying33
  rw [run_sliceAt_slice _ _ _ _ _ _ ht, run_slice_l _ _ _ _ _ ht .u64 (lo : Int) (by omega) (by omega), elem_txs, size_txt]
  simp only [Result.andThen_ok, Int.toNat_natCast]

/-- 'list[:hi]'. -/
theorem slice_txs_upto (b : Option Addr) (n c hi : Nat) (h2 : hi ≤ c) (W : World) : (Instr.sliceAt 33 (.slice b n c) none (some (.int .u64 (hi : Int))) none).run Tryz.prog W = .ok (.slice b hi c) W := by
  have ht : Tryz.prog.underlying 33 = some (.slice (Tryz.prog.elem 33)) := by rw [elem_txs]; exact Tryz.underlying33
  rw [run_sliceAt_slice _ _ _ _ _ _ ht, run_slice_h _ _ _ _ _ ht .u64 (hi : Int) (by omega) (by omega), elem_txs, size_txt]
  cases b with
  | none => simp [Result.andThen, sliced]
  | some ad => simp [Result.andThen, sliced, Addr.add]

/-- The list's last ones are cleared. -/
theorem ListO.clearTail {w : World} {a : Option Addr} {n c : Nat} {us : List Value} (h : ListO w (.slice a n c) us) (k : Nat) (hk : k ≤ us.length) (ty : TypeId) :
    ∃ x w', (∀ W, (Instr.sliceAt 33 (.slice a n c) (some (.int .u64 (k : Int))) none none).run Tryz.prog W = .ok x W) ∧ (Builtin.clear_ #[33] ty #[x]).run Tryz.prog w = .ok (.tuple #[]) w' ∧ OnlyS (fun j => (Value.slice a n c).ownBlock = some j) w w' ∧
      ListO w' (.slice a k c) (us.take k) := by
  rcases h with ⟨e, rfl⟩ | ⟨g, o, cap, cur, e, hg, h1, h2, h4⟩
  · simp at e
    obtain ⟨rfl, rfl, rfl⟩ := e
    have hk0 : k = 0 := by simpa using hk
    subst hk0
    refine ⟨_, w, fun W => slice_txs_from none 0 0 0 (Nat.le_refl _) W, ?_, OnlyS.refl _ _, .inl ⟨rfl, rfl⟩⟩
    simp [sliced, Builtin.clear_, run_underlying Tryz.underlying33]
  · simp at e
    obtain ⟨rfl, rfl, rfl⟩ := e
    have hfin : ∀ w' cur', OnlyS (fun j => j = g) w w' → w'.heap[g]? = some (.cells cur' 27 (0, 0)) → cur'.size = cur.size → (∀ j, j < o + k → cur'[j]? = cur[j]?) → ListO w' (.slice (some ⟨g, o, none⟩) k c) (us.take k) := fun w' cur' _ e1 e2 e3 => by
      have el : (us.take k).length = k := by rw [List.length_take]; omega
      refine .inr ⟨g, o, c, cur', by rw [el], e1, by rw [el]; omega, by omega, fun i y hi => ?_⟩
      have hik := (List.getElem?_eq_some_iff.1 hi).1
      rw [el] at hik
      rw [List.getElem?_take_of_lt hik] at hi
      rw [e3 _ (by omega)]
      exact h4 i y hi
    by_cases hck : c = k
    · have hkn : us.length = k := by omega
      refine ⟨_, w, fun W => slice_txs_from _ us.length c k (by omega) W, ?_, OnlyS.refl _ _, hfin w cur (OnlyS.refl _ _) hg rfl fun _ _ => rfl⟩
      have e0 : sliced (some ⟨g, o, none⟩) k us.length c 1 = .slice (some ⟨g, o, none⟩) 0 (c - k) := by
        unfold sliced
        rw [if_pos hck, hkn, Nat.sub_self]
      rw [e0]
      simp [Builtin.clear_, run_underlying Tryz.underlying33]
    · obtain ⟨w', r1, r2, cur', r3, r4, r5⟩ := clear_mid w ty g (o + k) (us.length - k) (c - k) cur hg (by omega)
      refine ⟨_, w', fun W => slice_txs_from _ us.length c k (by omega) W, ?_, r2.mono fun j _ e => by subst e; rfl, hfin w' cur' r2 r3 r4 fun j hj => r5 j (.inl hj)⟩
      have e1 : sliced (some ⟨g, o, none⟩) k us.length c 1 = .slice (some ⟨g, o + k, none⟩) (us.length - k) (c - k) := by
        unfold sliced
        rw [if_neg hck]
        simp [addr_add]
      rw [e1]
      exact r1

/-- The list's first ones are cleared. -/
theorem ListO.clearHead {w : World} {a : Option Addr} {n c : Nat} {us : List Value} (h : ListO w (.slice a n c) us) (k : Nat) (hk : k ≤ us.length) (ty : TypeId) :
    ∃ w' a', (∀ W, (Instr.sliceAt 33 (.slice a n c) none (some (.int .u64 (k : Int))) none).run Tryz.prog W = .ok (.slice a k c) W) ∧ (Builtin.clear_ #[33] ty #[.slice a k c]).run Tryz.prog w = .ok (.tuple #[]) w' ∧ OnlyS (fun j => (Value.slice a n c).ownBlock = some j) w w' ∧
      (∀ W, (Instr.sliceAt 33 (.slice a n c) (some (.int .u64 (k : Int))) none none).run Tryz.prog W = .ok (.slice a' (n - k) (c - k)) W) ∧ (∀ j, (Value.slice a' (n - k) (c - k)).ownBlock = some j → (Value.slice a n c).ownBlock = some j) ∧ ListO w' (.slice a' (n - k) (c - k)) (us.drop k) := by
  rcases h with ⟨e, rfl⟩ | ⟨g, o, cap, cur, e, hg, h1, h2, h4⟩
  · simp at e
    obtain ⟨rfl, rfl, rfl⟩ := e
    have hk0 : k = 0 := by simpa using hk
    subst hk0
    refine ⟨w, none, fun W => slice_txs_upto none 0 0 0 (Nat.le_refl _) W, ?_, OnlyS.refl _ _, fun W => ?_, fun j hj => hj, .inl ⟨rfl, rfl⟩⟩
    · simp [Builtin.clear_, run_underlying Tryz.underlying33]
    · rw [slice_txs_from none 0 0 0 (Nat.le_refl _) W]
      rfl
  · simp at e
    obtain ⟨rfl, rfl, rfl⟩ := e
    obtain ⟨w', r1, r2, cur', r3, r4, r5⟩ := clear_mid w ty g o k c cur hg (by omega)
    have ed : (us.drop k).length = us.length - k := List.length_drop
    by_cases hck : c = k
    · have hkn : us.length = k := by omega
      refine ⟨w', some ⟨g, o, none⟩, fun W => slice_txs_upto _ us.length c k (by omega) W, r1, r2.mono fun j _ e => by subst e; rfl, fun W => ?_, fun j hj => hj, .inr ⟨g, o, c - k, cur', by rw [ed], r3, by rw [ed]; omega, by omega, fun i y hi => ?_⟩⟩
      · rw [slice_txs_from _ us.length c k (by omega) W]
        unfold sliced
        rw [if_pos hck]
      · have := (List.getElem?_eq_some_iff.1 hi).1
        omega
    · refine ⟨w', some ⟨g, o + k, none⟩, fun W => slice_txs_upto _ us.length c k (by omega) W, r1, r2.mono fun j _ e => by subst e; rfl, fun W => ?_, fun j hj => hj, .inr ⟨g, o + k, c - k, cur', by rw [ed], r3, by rw [ed]; omega, by omega, fun i y hi => ?_⟩⟩
      · rw [slice_txs_from _ us.length c k (by omega) W]
        unfold sliced
        rw [if_neg hck]
        simp [addr_add]
      · rw [List.getElem?_drop] at hi
        rw [r5 _ (.inr (by omega)), show o + k + i = o + (k + i) by omega]
        exact h4 _ y hi
end Go.Proofs.YthaggdkfaglgaaaGreatDoor

/- A record is appended: what the call's work does. -/
namespace Go.Proofs.YthaggdkfaglgaaaGreatDoor
set_option maxRecDepth 20000
open Go.RowKit Go.Maps DiskMath WalMath FrameMath Reg

theorem load_lp (W : World) (p : Addr) (v : Value) (h : W.cell? p = some v) : (Instr.loadAt 37 (.pointer (some p))).run Tryz.prog W = .ok v W := by
  have hagg : (isAgg 37).run Tryz.prog W = .ok false W := by kernel_rfl
  simp [Instr.loadAt, Instr.sureAddr, loadVar, Sem.run_bind, hagg, h]
theorem load_bs (W : World) (p : Addr) (v : Value) (h : W.cell? p = some v) : (Instr.loadAt 27 (.pointer (some p))).run Tryz.prog W = .ok v W := by
  have hagg : (isAgg 27).run Tryz.prog W = .ok false W := by kernel_rfl
  simp [Instr.loadAt, Instr.sureAddr, loadVar, Sem.run_bind, hagg, h]
theorem load_ls (W : World) (p : Addr) (v : Value) (h : W.cell? p = some v) : (Instr.loadAt 33 (.pointer (some p))).run Tryz.prog W = .ok v W := by
  have hagg : (isAgg 33).run Tryz.prog W = .ok false W := by kernel_rfl
  simp [Instr.loadAt, Instr.sureAddr, loadVar, Sem.run_bind, hagg, h]
theorem load_u64 (W : World) (p : Addr) (v : Value) (h : W.cell? p = some v) : (Instr.loadAt 32 (.pointer (some p))).run Tryz.prog W = .ok v W := by
  have hagg : (isAgg 32).run Tryz.prog W = .ok false W := by kernel_rfl
  simp [Instr.loadAt, Instr.sureAddr, loadVar, Sem.run_bind, hagg, h]
theorem load_fl {W : World} {l d f : Nat} {q : Nm} {v : Value} {over : Bool} (h : Blk W l 108 (logC d q f v over)) : (Instr.loadAt 106 (.pointer (some ⟨l, 0, none⟩))).run Tryz.prog W = .ok (.agg #[dp d, nm q]) W :=
  h.loadsAt 106 _ 0 0 [dp d, nm q] Tryz.underlying106 rfl (by kernel_rfl) (fun j u hj => by
    rw [Nat.zero_add]
    match j, hj with
    | 0, hj => simpa using hj
    | 1, hj => simpa using hj) rfl

theorem build_text (a : Option Addr) (n c : Nat) (W : World) : (Instr.buildSlice 33 1 #[(0, .slice a n c)]).run Tryz.prog W = .ok (.slice (some ⟨W.heap.size, 0, none⟩) 1 1) (W.alloc (.cells #[.slice a n c] 27)) := by
  simp [Instr.buildSlice, run_underlying Tryz.underlying33, Result.andThen, Instr.fill, newRow, Value.cells, range_one]

/-- Bytes stay where their block does. -/
theorem bys_only {w w' : World} {a : Option Addr} {n c : Nat} {l : List UInt8} (h : Bys w (.slice a n c) l) (hs : ∀ k, (Value.slice a n c).ownBlock = some k → k < w.heap.size → w'.heap[k]? = w.heap[k]?) : Bys w' (.slice a n c) l := by
  rcases h with ⟨h1, rfl⟩ | ⟨ad, cap, h1, hc⟩
  · exact .inl ⟨h1, rfl⟩
  · refine .inr ⟨ad, cap, h1, fun i hi => ?_⟩
    have h2 := hc i hi
    simp at h1
    obtain ⟨rfl, _, _⟩ := h1
    have hbk : (ad.add i).block = ad.block := by unfold Addr.add; split <;> rfl
    have hlt := World.block_lt_of_cell? w _ h2
    rw [← h2]
    unfold World.cell?
    rw [hbk] at hlt ⊢
    rw [hs ad.block rfl hlt]

/-- Where the work gave up the log's list is as it was. -/
theorem PNx.ofNext {w w' : World} {S T U : Nat → Prop} {d l c : Nat} {q : Nm} {s : St} {f : Nat} {R : List (List UInt8)} {over : Bool} (hS : ∀ k, S k → k < w.heap.size) (hT : ∀ k, T k → S k) (hU : ∀ k, U k → S k) (hTU : ∀ k, T k → ¬ U k) (hl : Lg w U l d q f R over) (h : Next w T d c s w') : PNx w S d l c q s f R over w' := by
  refine ⟨⟨⟨more w T w', U, h.disk, hl.same (fun k hk => h.only.block k (hl.lt k hk) fun hk2 => hTU k hk2 hk) h.only.size, fun k hk => ?_, fun k hk => .inl (hU k hk), fun k hk hk2 => ?_⟩, fun k hk => ?_⟩, h.only.mono fun k _ hk => hT k hk⟩
  · rcases hk with hk | hk
    · exact .inl (hT k hk)
    · exact .inr hk
  · rcases hk with hk | hk
    · exact hTU k hk hk2
    · have := hl.lt k hk2; omega
  · rcases hk with hk | hk
    · exact Nat.lt_of_lt_of_le (hS k hk) h.only.size
    · exact hk.2

/-- A record more in the list. -/
def Added (N : Nat) (v : Value) (us : List Value) (r : List UInt8) (u : Value) (W : World) : Prop :=
  ∃ y, ListO W u (us ++ [y]) ∧ Row W N y r ∧ ∀ k, u.ownBlock = some k → v.ownBlock = some k ∨ N ≤ k

theorem Added.stays {N : Nat} {v : Value} {us : List Value} {r : List UInt8} {u : Value} {W W' : World} (h : Added N v us r u W) (hb : Below W.heap.size W W') : Added N v us r u W' := by
  obtain ⟨y, h1, h2, h3⟩ := h
  exact ⟨y, h1.same fun k hk => hb.block k (h1.lt hk), h2.below hb, h3⟩

/-- A slice of one text, that was just built. -/
def One1 (N : Nat) (r : List UInt8) (u : Value) (W : World) : Prop := ∃ x y, u = .slice (some ⟨x, 0, none⟩) 1 1 ∧ N ≤ x ∧ Blk W x 27 #[y] ∧ Row W N y r

theorem One1.stays {N : Nat} {r : List UInt8} {u : Value} {W W' : World} (h : One1 N r u W) (hb : Below W.heap.size W W') : One1 N r u W' := by
  obtain ⟨x, y, h1, h2, h3, h4⟩ := h
  exact ⟨x, y, h1, h2, h3.keep hb, h4.below hb⟩

/-- The list's cell of the log is written: the record is there. -/
theorem pnx_added {w w2 W : World} {S T U : Nat → Prop} {d l c : Nat} {q : Nm} {s : St} {f : Nat} {R : List (List UInt8)} {r : List UInt8} {v u : Value} {us : List Value} (hS : ∀ k, S k → k < w.heap.size) (hT : ∀ k, T k → S k) (hU : ∀ k, U k → S k) (hTU : ∀ k, T k → ¬ U k)
    (hb : Blk w l 108 (logC d q f v false)) (hlo : ListO w v us) (hlen : us.length = R.length) (hrow : ∀ (i : Nat) (u : Value) (t : List UInt8), us[i]? = some u → R[i]? = some t → Row w 0 u t) (hUl : U l) (hUv : ∀ k, v.ownBlock = some k → U k) (hUu : ∀ u ∈ us, ∀ k, u.ownBlock = some k → U k) (hlt : ∀ k, U k → k < w.heap.size) (hlim : f + R.length ≤ 98)
    (hn : Next w T d c s w2) (hW : OnlyS (fun k => v.ownBlock = some k) w2 W) (ha : Added w2.heap.size v us r u W) : PNx w S d l c q s f (R ++ [r]) false (W.setCell ⟨l, 3, none⟩ u) := by
  obtain ⟨y, a1, a2, a3⟩ := ha
  have hTl : ∀ k, T k → k ≠ l := fun k hk e => hTU k hk (e ▸ hUl)
  have hvl : ∀ k, v.ownBlock = some k → k ≠ l := fun k hk e => by
    rcases hlo with ⟨rfl, _⟩ | ⟨g, o, cap, cur, rfl, hg, _⟩
    · simp [Value.ownBlock] at hk
    · simp [Value.ownBlock] at hk
      subst hk
      subst e
      unfold Blk at hb
      rw [hg] at hb
      simp at hb
  have hsz1 := hn.only.size
  have hsz2 := hW.size
  have hul : ∀ k, u.ownBlock = some k → k ≠ l := fun k hk e => by
    rcases a3 k hk with h | h
    · exact hvl k h e
    · have := hlt l hUl; omega
  have hUW : ∀ k, U k → ¬ v.ownBlock = some k → W.heap[k]? = w.heap[k]? := fun k hk hkv => by
    have h1 := hlt k hk
    rw [hW.block k (by omega) hkv, hn.only.block k h1 fun hT2 => hTU k hT2 hk]
  have hset : ∀ k, k ≠ l → (W.setCell ⟨l, 3, none⟩ u).heap[k]? = W.heap[k]? := fun k hk => heap_set_other hk u
  have hsize : (W.setCell ⟨l, 3, none⟩ u).heap.size = W.heap.size := by simp [World.setCell]
  have hbl : Blk (W.setCell ⟨l, 3, none⟩ u) l 108 (logC d q f u false) := by
    have h1 : Blk W l 108 (logC d q f v false) := by
      unfold Blk
      rw [hUW l hUl fun h => hvl l h rfl]
      exact hb
    exact Blk.set h1 3 u
  have honly : OnlyS S w (W.setCell ⟨l, 3, none⟩ u) := by
    have h1 : OnlyS S w w2 := hn.only.mono fun k _ hk => hT k hk
    have h2 : OnlyS S w W := h1.then hW fun k _ hk => hU k (hUv k hk)
    exact h2.setCell (p := ⟨l, 3, none⟩) (fun _ => hU l hUl) u
  have hmore : ∀ k, (more w S (W.setCell ⟨l, 3, none⟩ u)) k → k < (W.setCell ⟨l, 3, none⟩ u).heap.size := fun k hk => by
    rcases hk with hk | hk
    · exact Nat.lt_of_lt_of_le (hS k hk) honly.size
    · exact hk.2
  have hdisk : IsDisk (W.setCell ⟨l, 3, none⟩ u) (more w T w2) d c s := hn.disk.same (fun k hk => by
    have hk2 : k < w2.heap.size := hn.disk.lt k hk
    have hkl : k ≠ l := by
      rcases hk with hk | hk
      · exact hTl k hk
      · have := hlt l hUl; omega
    rw [hset k hkl]
    refine hW.block k hk2 fun hv => ?_
    rcases hk with hk | hk
    · exact hTU k hk (hUv k hv)
    · have := hlt k (hUv k hv); omega) (by rw [hsize]; exact hsz2)
  refine ⟨⟨⟨more w T w2, fun k => U k ∨ (w2.heap.size ≤ k ∧ k < W.heap.size), hdisk, ⟨⟨u, us ++ [y], hbl, a1.same fun k hk => hset k (hul k hk), by simp [hlen], fun i z t hz ht => ?_, .inl hUl, fun k hk => ?_, fun z hz k hk => ?_⟩, fun k hk => ?_, by simp; omega⟩, fun k hk => ?_, fun k hk => ?_, fun k hk hk2 => ?_⟩, hmore⟩, honly⟩
  · have hkeep : ∀ z t, Row W 0 z t → Row (W.setCell ⟨l, 3, none⟩ u) 0 z t := fun z t h => ownRow_same h fun k hk => hset k fun e => row_ne_blk h (show Blk W l 108 (logC d q f v false) by
      unfold Blk
      rw [hUW l hUl fun h => hvl l h rfl]
      exact hb) (by decide) (by rw [hk, e])
    by_cases hil : i < us.length
    · rw [List.getElem?_append_left hil] at hz
      rw [List.getElem?_append_left (by omega)] at ht
      refine hkeep z t (ownRow_same (hrow i z t hz ht) fun k hk => hUW k (hUu z (List.mem_of_getElem? hz) k hk) fun hv => ?_)
      rcases hlo with ⟨rfl, _⟩ | ⟨g, o, cap, cur, rfl, hg, _⟩
      · simp [Value.ownBlock] at hv
      · simp [Value.ownBlock] at hv
        obtain ⟨cur2, hc2⟩ := ownRow_block (hrow i z t hz ht) hk
        rw [← hv, hg] at hc2
        simp at hc2
    · have hi2 : i = us.length := by
        have := (List.getElem?_eq_some_iff.1 hz).1
        simp at this
        omega
      subst hi2
      rw [List.getElem?_append_right (Nat.le_refl _)] at hz
      rw [hlen, List.getElem?_append_right (Nat.le_refl _)] at ht
      simp at hz ht
      subst hz ht
      exact hkeep _ _ (row_lower a2 (Nat.zero_le _))
  · rcases a3 k hk with h | h
    · exact .inl (hUv k h)
    · exact .inr ⟨h, a1.lt hk⟩
  · rcases List.mem_append.1 hz with h | h
    · exact .inl (hUu z h k hk)
    · rw [List.mem_singleton.1 h] at hk
      have h1 := World.ownsRow.lt a2 k hk
      exact .inr ⟨h1.1, h1.2⟩
  · rw [hsize]
    rcases hk with hk | hk
    · have := hlt k hk; omega
    · exact hk.2
  · rcases hk with hk | hk
    · exact .inl (hT k hk)
    · exact .inr ⟨hk.1, by rw [hsize]; omega⟩
  · rcases hk with hk | hk
    · exact .inl (hU k hk)
    · exact .inr ⟨by omega, by rw [hsize]; exact hk.2⟩
  · rcases hk with hk | hk
    · rcases hk2 with hk2 | hk2
      · exact hTU k hk hk2
      · have := hS k (hT k hk); omega
    · rcases hk2 with hk2 | hk2
      · have := hlt k hk2; omega
      · omega
end Go.Proofs.YthaggdkfaglgaaaGreatDoor

/- A record is appended: the walk of the work. -/
namespace Go.Proofs.YthaggdkfaglgaaaGreatDoor
set_option maxRecDepth 20000
open Go.RowKit Go.Maps DiskMath WalMath FrameMath Reg

def AppEnd (w : World) (S : Nat → Prop) (d l c : Nat) (q : Nm) (s : St) (f : Nat) (R : List (List UInt8)) (r : List UInt8) (e : Ending) (w' : World) : Prop :=
  Must (layA q s (f + R.length) r).1 e ∧ PNx w S d l (c + 1) q (layA q s (f + R.length) r).2 f (if (layA q s (f + R.length) r).1 = 0 then R ++ [r] else R) false w'

set_option maxHeartbeats 1000000 in
theorem append_work {w : World} {S : Nat → Prop} {d l c : Nat} {q : Nm} {s : St} {f : Nat} {R : List (List UInt8)} (hq : q.length ≤ 4) (h : Pr w S d l c q s f R false) (hc : c + 1 ≤ 2000) (hlim : f + R.length ≤ 98) {Lb Rb : Nat} (hLb : Blk w Lb 37 #[.pointer (some ⟨l, 0, none⟩)]) (hLS : ¬ S Lb)
    {ra : Option Addr} {rl rc : Nat} (hRb : Blk w Rb 27 #[.slice ra rl rc]) (hRS : ¬ S Rb) {r : List UInt8} (hr : Bys w (.slice ra rl rc) r) (hrl : r.length = rl) (hr2 : rl ≤ 16384) (hra : ∀ k, (Value.slice ra rl rc).ownBlock = some k → ¬ S k) (ht : Tab w) (hS0 : ¬ S 0) :
    Calls Tryz.prog 59 #[.pointer (some ⟨Lb, 0, none⟩), .pointer (some ⟨Rb, 0, none⟩)] w (AppEnd w S d l c q s f R r) := by
  have hS := h.lt
  obtain ⟨T, U, hd, hl, hT, hU, hTU⟩ := h.ex
  obtain ⟨v, ls, l1, l2, l3, l4, l5, l6, l7⟩ := hl.ex
  obtain ⟨va, vc, rfl, hvc⟩ := l2.form
  have HS := Lib.hid hS
  have HD := Lib.hid hd
  have HLg := Lib.hid hl
  have HT := Lib.hid hT
  have HU := Lib.hid hU
  have HTU := Lib.hid hTU
  have H1 := Lib.hid l1
  have H2 := Lib.hid l2
  have H3 := Lib.hid l3
  have H4 := Lib.hid l4
  have H5 := Lib.hid l5
  have H6 := Lib.hid l6
  have H7 := Lib.hid l7
  have HLb := Lib.hid hLb
  have HRb := Lib.hid hRb
  have HLS := Lib.hid hLS
  have HRS := Lib.hid hRS
  have HBy := Lib.hid hr
  have HRl := Lib.hid hrl
  have HRa := Lib.hid hra
  have HTab := Lib.hid ht
  have HS0 := Lib.hid hS0
  have HLim := Lib.hid hlim
  obtain ⟨x, hx⟩ : ∃ x, x = (layA q s (f + R.length) r).1 := ⟨_, rfl⟩
  obtain ⟨s', hs'⟩ : ∃ s', s' = (layA q s (f + R.length) r).2 := ⟨_, rfl⟩
  have hfin : ∀ e w', Must x e → PNx w S d l (c + 1) q s' f (if x = 0 then R ++ [r] else R) false w' → AppEnd w S d l c q s f R r e w' := fun e w' h1 h2 => by
    unfold AppEnd
    rw [← hx, ← hs']
    exact ⟨h1, h2⟩
  have HFin := Lib.hid hfin
  have HX := Lib.hid hx
  have HSs := Lib.hid hs'
  obtain ⟨n, hn⟩ : ∃ n, n = f + ls.length := ⟨_, rfl⟩
  have HN := Lib.hid hn
  clear hS hd hl hT hU hTU l1 l2 l3 l4 l5 l6 l7 hvc hLb hRb hLS hRS hr hrl hra ht hS0 h hlim hx hs' hfin hn
  go_enter Tryz.func59, Tryz.ntmps59
  go_upto_region 0 with fail
  have hG : ∀ W W' : World, Below w.heap.size w W → Below W.heap.size W W' → Below w.heap.size w W' := fun W W' h h' => h.trans (h'.mono h.size)
  refine region_tails_by 7 [(2, .is (.pointer (some ⟨l, 0, none⟩))), (3, .is (.pointer (some ⟨l, 0, none⟩))), (4, .is (.pointer (some ⟨l, 0, none⟩))), (5, .is (fv (some ⟨d, 0, none⟩) q)), (6, .is (.pointer (some ⟨l, 0, none⟩))), (7, .is (.int .u64 (n : Int))), (8, .is (.slice ra rl rc))] [0, 1, 5, 7, 8] (fun W => Below w.heap.size w W) (by kernel_rfl) (by kernel_rfl) (by kernel_rfl) (by kernel_rfl) (by kernel_rfl) (by decide) (by kernel_rfl) (by kernel_rfl) ((Below.refl _ _).drew) ?_ ?_
  · refine ⟨?c0, ?c1, ?c2, ?c3, ?c4, ?c5, ?c6, trivial⟩
    case c0 => exact ask_load (guard_none rfl) _ (.tmp 0) (.pointer (some ⟨Lb, 0, none⟩)) (.pointer (some ⟨l, 0, none⟩)) rfl rfl (by intro k hk; cases hk; rfl) (fun W hW => load_lp W _ _ (by rw [hW.cell (p := ⟨Lb, 0, none⟩) HLb.out.lt, HLb.out.cell]; rfl))
    case c1 => exact ask_exec (guard_none rfl) (.pointer (some ⟨l, 0, none⟩)) rfl rfl (by intro k hk; cases hk; rfl) (fun W hW => by kernel_rfl)
    case c2 => exact ask_field (guard_none rfl) _ (.tmp 3) 0 (.pointer (some ⟨l, 0, none⟩)) (.pointer (some ⟨l, 0, none⟩)) rfl rfl (by intro k hk; cases hk; rfl) (fun W => by kernel_rfl)
    case c3 => exact ask_load (guard_none rfl) _ (.tmp 4) (.pointer (some ⟨l, 0, none⟩)) (fv (some ⟨d, 0, none⟩) q) rfl rfl (by intro k hk; cases hk; rfl) (fun W hW => load_fl (H1.out.keep hW))
    case c4 => exact ask_load (guard_none rfl) _ (.tmp 0) (.pointer (some ⟨Lb, 0, none⟩)) (.pointer (some ⟨l, 0, none⟩)) rfl rfl (by intro k hk; cases hk; rfl) (fun W hW => load_lp W _ _ (by rw [hW.cell (p := ⟨Lb, 0, none⟩) HLb.out.lt, HLb.out.cell]; rfl))
    case c5 => exact ask_call hG (guard_none rfl) _ _ _ #[.pointer (some ⟨l, 0, none⟩)] (.is (.int .u64 (n : Int))) rfl (by kernel_rfl) rfl rfl (by intro k hk; cases hk; rfl) (fun W hW => (wnext_any (H1.out.keep hW) (by have := HLim.out; have := H3.out; omega)).mono fun e w' h => by obtain ⟨h1, m, rfl⟩ := h; exact ⟨_, h1, by rw [HN.out]; rfl, below_dn (Below.refl _ _) m⟩)
    case c6 => exact ask_load (guard_none rfl) _ (.tmp 1) (.pointer (some ⟨Rb, 0, none⟩)) (.slice ra rl rc) rfl rfl (by intro k hk; cases hk; rfl) (fun W hW => load_bs W _ _ (by rw [hW.cell (p := ⟨Rb, 0, none⟩) HRb.out.lt, HRb.out.cell]; rfl))
  · intro a' W hW hd' hs' hf'
    have t0 : a'.tmps.getD 0 undef = .pointer (some ⟨Lb, 0, none⟩) := hf' 0 rfl
    have t1 : a'.tmps.getD 1 undef = .pointer (some ⟨Rb, 0, none⟩) := hf' 1 rfl
    have t5 : a'.tmps.getD 5 undef = fv (some ⟨d, 0, none⟩) q := hf' 5 rfl
    have t7 : a'.tmps.getD 7 undef = .int .u64 (n : Int) := hf' 7 rfl
    have t8 : a'.tmps.getD 8 undef = .slice ra rl rc := hf' 8 rfl
    obtain ⟨us, hus, ha'⟩ := act_open 21 a' hs' hd'
    rw [← hus] at t0 t1 t5 t7 t8
    have el : ((List.range 21).map us).toArray = #[us 0, us 1, us 2, us 3, us 4, us 5, us 6, us 7, us 8, us 9, us 10, us 11, us 12, us 13, us 14, us 15, us 16, us 17, us 18, us 19, us 20] := rfl
    rw [el] at ha'
    subst ha'
    rw [t0, t1, t5, t7, t8]
    have HW := Lib.hid hW
    clear hus t0 t1 t5 t7 t8 el hf' hs' hd' hW
    simp only [List.drop_succ_cons, List.drop_zero]
    go_wp2_with fail
    have hnl : n = f + R.length := by rw [HN.out, H3.out]
    refine (wlay_any hq (HD.out.below HW.out) hc (n := n) (by rw [hnl]; have := HLim.out; omega) (HBy.out.below (Nat.le_refl _) HW.out) HRl.out hr2 (HTab.out.below (Nat.le_refl _) HW.out)).mono ?_
    rintro e w2 ⟨hm, h2⟩
    have e1 : (layA q s n r).1 = x := by rw [hnl, HX.out]
    have e2 : (layA q s n r).2 = s' := by rw [hnl, HSs.out]
    rw [e1] at hm
    rw [e2] at h2
    have hnx := Next.pre HW.out HD.out.lt h2
    have HNx := Lib.hid hnx
    clear h2 e1 e2 hnx hnl
    by_cases hx0 : x = 0
    · obtain rfl := hm.1 hx0
      have HM := Lib.hid hm
      have HX0 := Lib.hid hx0
      clear hm hx0
      go_upto_region 1 with fail
      have hTL : ¬ T Lb := fun h => HLS.out (HT.out Lb h)
      have hTR : ¬ T Rb := fun h => HRS.out (HT.out Rb h)
      have hTl : ¬ T l := fun h => HTU.out l h H5.out
      have HLb2 := Lib.hid (HNx.out.blk HLb.out hTL)
      have HRb2 := Lib.hid (HNx.out.blk HRb.out hTR)
      have H12 := Lib.hid (HNx.out.blk H1.out hTl)
      have HLo2 := Lib.hid (H2.out.same (w' := w2) fun k hk => HNx.out.only.block k (H2.out.lt hk) fun h => HTU.out k h (H6.out k hk))
      have HBy2 : Hid (Bys w2 (.slice ra rl rc) r) := bys_only HBy.out fun k hk hlt => HNx.out.only.block k hlt fun h => HRa.out k hk (HT.out k h)
      have hvS : ∀ k, (Value.slice va ls.length vc).ownBlock = some k → S k := fun k hk => HU.out k (H6.out k hk)
      have hvl : ∀ k, (Value.slice va ls.length vc).ownBlock = some k → k ≠ l := fun k hk e => by
        subst e
        rcases H2.out with ⟨e2, _⟩ | ⟨g, o, cap, cur, e2, hg, _⟩
        · rw [e2] at hk; simp [Value.ownBlock] at hk
        · rw [e2] at hk
          simp [Value.ownBlock] at hk
          subst hk
          have h1 := H1.out
          unfold Blk at h1
          rw [hg] at h1
          simp at h1
      have HvS := Lib.hid hvS
      have Hvl := Lib.hid hvl
      have kL : ∀ W, OnlyS (fun k => (Value.slice va ls.length vc).ownBlock = some k) w2 W → Blk W Lb 37 #[.pointer (some ⟨l, 0, none⟩)] := fun W hW => by
        unfold Blk
        rw [hW.block Lb HLb2.out.lt fun h => HLS.out (HvS.out Lb h)]
        exact HLb2.out
      have kR : ∀ W, OnlyS (fun k => (Value.slice va ls.length vc).ownBlock = some k) w2 W → Blk W Rb 27 #[.slice ra rl rc] := fun W hW => by
        unfold Blk
        rw [hW.block Rb HRb2.out.lt fun h => HRS.out (HvS.out Rb h)]
        exact HRb2.out
      have kl : ∀ W, OnlyS (fun k => (Value.slice va ls.length vc).ownBlock = some k) w2 W → Blk W l 108 (logC d q f (.slice va ls.length vc) false) := fun W hW => by
        unfold Blk
        rw [hW.block l H12.out.lt fun h => Hvl.out l h rfl]
        exact H12.out
      have kB : ∀ W, OnlyS (fun k => (Value.slice va ls.length vc).ownBlock = some k) w2 W → Bys W (.slice ra rl rc) r := fun W hW => bys_only HBy2.out fun k hk hlt => hW.block k hlt fun h => HRa.out k hk (HvS.out k h)
      have hG2 : ∀ W W' : World, OnlyS (fun k => (Value.slice va ls.length vc).ownBlock = some k) w2 W ∧ ListO W (.slice va ls.length vc) ls → Below W.heap.size W W' → OnlyS (fun k => (Value.slice va ls.length vc).ownBlock = some k) w2 W' ∧ ListO W' (.slice va ls.length vc) ls := fun W W' h h' => ⟨h.1.trans (OnlyS.of_below h' fun k hk _ => hk), h.2.same fun k hk => h'.block k (h.2.lt hk)⟩
      clear hTL hTR hTl hvS hvl
      refine region_tail_by 11 _ [(10, .is (.pointer (some ⟨l, 0, none⟩))), (11, .is (.pointer (some ⟨l, 0, none⟩))), (12, .is (.pointer (some ⟨l, 0, none⟩))), (13, .is (.pointer (some ⟨l, 3, none⟩))), (14, .is (.slice va ls.length vc)), (15, .is (.slice ra rl rc)), (16, .row w2.heap.size r), (17, (.sat (One1 w2.heap.size r) (fun u W W' h hb => h.stays hb))), (18, (.sat (Added w2.heap.size (.slice va ls.length vc) ls r) (fun u W W' h hb => h.stays hb))), (19, .is (.pointer (some ⟨l, 0, none⟩))), (20, .is (.pointer (some ⟨l, 3, none⟩)))] [18, 20] (fun W => OnlyS (fun k => (Value.slice va ls.length vc).ownBlock = some k) w2 W ∧ ListO W (.slice va ls.length vc) ls) (by kernel_rfl) (by kernel_rfl) (by kernel_rfl) (by kernel_rfl) (by kernel_rfl) rfl rfl rfl rfl (by kernel_rfl) (hG2 _ _ ⟨OnlyS.refl _ _, HLo2.out⟩ (Below.refl _ _).drew) ?_ ?_
      · refine ⟨?c0, ?c1, ?c2, ?c3, ?c4, ?c5, ?c6, ?c7, ?c8, ?c9, ?c10, trivial⟩
        case c0 => exact ask_load (guard_none rfl) _ (.tmp 0) (.pointer (some ⟨Lb, 0, none⟩)) (.pointer (some ⟨l, 0, none⟩)) rfl rfl (by intro k hk; cases hk; rfl) (fun W hW => load_lp W _ _ (by rw [(kL W hW.1).cell]; rfl))
        case c1 => exact ask_load (guard_none rfl) _ (.tmp 0) (.pointer (some ⟨Lb, 0, none⟩)) (.pointer (some ⟨l, 0, none⟩)) rfl rfl (by intro k hk; cases hk; rfl) (fun W hW => load_lp W _ _ (by rw [(kL W hW.1).cell]; rfl))
        case c2 => exact ask_exec (guard_none rfl) (.pointer (some ⟨l, 0, none⟩)) rfl rfl (by intro k hk; cases hk; rfl) (fun W hW => by kernel_rfl)
        case c3 => exact ask_field (guard_none rfl) _ (.tmp 12) 2 (.pointer (some ⟨l, 0, none⟩)) (.pointer (some ⟨l, 3, none⟩)) rfl rfl (by intro k hk; cases hk; rfl) (fun W => by kernel_rfl)
        case c4 => exact ask_load (guard_none rfl) _ (.tmp 13) (.pointer (some ⟨l, 3, none⟩)) (.slice va ls.length vc) rfl rfl (by intro k hk; cases hk; rfl) (fun W hW => load_ls W _ _ (by rw [(kl W hW.1).cell]; rfl))
        case c5 => exact ask_load (guard_none rfl) _ (.tmp 1) (.pointer (some ⟨Rb, 0, none⟩)) (.slice ra rl rc) rfl rfl (by intro k hk; cases hk; rfl) (fun W hW => load_bs W _ _ (by rw [(kR W hW.1).cell]; rfl))
        case c6 => exact ask_call hG2 (guard_none rfl) _ _ _ #[.slice ra rl rc] (.row w2.heap.size r) rfl (by kernel_rfl) rfl rfl (by intro k hk; cases hk; rfl) (fun W hW => (clone_any ra rl rc r W (kB W hW.1) (by have := HRl.out; omega)).mono fun e w' h => by obtain ⟨v', h1, h2, h3⟩ := h; exact ⟨v', h1, row_lower h2 hW.1.size, h3⟩)
        case c7 => exact ask_grow hG2 (guard_none rfl) (fun x W hW hk => by
          have h16 : Row W w2.heap.size (x 16) r := hk 16 rfl
          obtain ⟨ya, yc, ey⟩ := slice_of_row h16
          refine gives_value (v := .slice (some ⟨W.heap.size, 0, none⟩) 1 1) (w' := W.alloc (.cells #[x 16] 27)) ?_ ⟨(Below.refl _ _).alloc (Nat.le_refl _) _, fun k hk => by cases hk; exact ⟨_, x 16, rfl, hW.1.size, Blk.new _ _ _, h16.below ((Below.refl _ _).alloc (Nat.le_refl _) _)⟩⟩
          rw [ey]
          simp [execOp, evalBy, ey, build_text, Result.andThen])
        case c8 => exact ask_write (guard_none rfl) (by kernel_rfl) (fun x W hW hk => by
          have e14 : x 14 = .slice va ls.length vc := hk 14 rfl
          have h14 := hW.2
          obtain ⟨g17, y, e17, hg17, hb17, hr17⟩ : One1 w2.heap.size r (x 17) W := hk 17 rfl
          obtain ⟨ya, yc, ey⟩ := slice_of_row hr17
          obtain ⟨v', w', hrun, k1, k2, k3, k4⟩ := h14.add (u := y) (by rw [ey]; simp [Value.oneCell']) g17 hb17 (by have := HLim.out; have := H3.out; omega)
          have hyo : Row w' w2.heap.size y r := ownRow_same hr17 fun k hk2 => by
            have h1 := World.ownsRow.lt hr17 k hk2
            refine k2.block k h1.2 fun h2 => ?_
            have := HLo2.out.lt h2
            omega
          refine gives_value (v := v') (w' := w') ?_ ⟨⟨hW.1.trans k2, k4⟩, fun k hk => by
            cases hk
            exact ⟨y, k1, hyo, fun k hk => by
              rcases k3 k hk with h | h
              · exact .inl h
              · have := hW.1.size; exact .inr (by omega)⟩⟩
          simp [execOp, evalBy, resolve, invoke, builtin, e14, e17, hrun, Result.andThen])
        case c9 => exact ask_exec (guard_none rfl) (.pointer (some ⟨l, 0, none⟩)) rfl rfl (by intro k hk; cases hk; rfl) (fun W hW => by kernel_rfl)
        case c10 => exact ask_field (guard_none rfl) _ (.tmp 19) 2 (.pointer (some ⟨l, 0, none⟩)) (.pointer (some ⟨l, 3, none⟩)) rfl rfl (by intro k hk; cases hk; rfl) (fun W => by kernel_rfl)
      · intro a' W hW hd' hs' hf'
        have f18 : Added w2.heap.size (.slice va ls.length vc) ls r (a'.tmps.getD 18 undef) W := hf' 18 rfl
        have t20 : a'.tmps.getD 20 undef = .pointer (some ⟨l, 3, none⟩) := hf' 20 rfl
        obtain ⟨us, hus, ha'⟩ := act_open 21 a' hs' hd'
        rw [← hus] at f18 t20
        have el : ((List.range 21).map us).toArray = #[us 0, us 1, us 2, us 3, us 4, us 5, us 6, us 7, us 8, us 9, us 10, us 11, us 12, us 13, us 14, us 15, us 16, us 17, us 18, us 19, us 20] := rfl
        rw [el] at ha'
        subst ha'
        rw [t20]
        have F18 := Lib.hid f18
        have HW := Lib.hid hW
        clear hus f18 t20 el hf' hs' hd' hW
        obtain ⟨ua, uc, eu⟩ : ∃ ua uc, us 18 = .slice ua (ls.length + 1) uc := by
          obtain ⟨y, h1, _⟩ := F18.out
          obtain ⟨ua, uc, h2, _⟩ := h1.form
          exact ⟨ua, uc, by rw [h2]; simp⟩
        have hadd := F18.out
        rw [eu] at hadd ⊢
        have hfr : W.frozen? ⟨l, 3, none⟩ = false := (kl W HW.out.1).frozen 3
        have hce : W.cell? ⟨l, 3, none⟩ = some (.slice va ls.length vc) := by rw [(kl W HW.out.1).cell]; rfl
        have hpn := pnx_added HS.out HT.out HU.out HTU.out H1.out H2.out H3.out H4.out H5.out H6.out H7.out HLg.out.lt HLim.out HNx.out HW.out.1 hadd
        have HP := Lib.hid hpn
        clear hadd hpn kL kR kl kB
        go_wp2
        go_end0
        exact HFin.out _ _ HM.out (by rw [HX0.out, if_pos rfl]; exact HP.out)
    · obtain rfl := hm.2 hx0
      exact ⟨rfl, HFin.out _ _ hm (by rw [if_neg hx0]; exact PNx.ofNext HS.out HT.out HU.out HTU.out HLg.out HNx.out)⟩
end Go.Proofs.YthaggdkfaglgaaaGreatDoor

/- Records are cut off: the walk of the work. -/
namespace Go.Proofs.YthaggdkfaglgaaaGreatDoor
set_option maxRecDepth 20000
open Go.RowKit Go.Maps DiskMath WalMath FrameMath Reg

theorem list_ne_log {w : World} {l : Nat} {cs : Array Value} {v : Value} {us : List Value} (h : ListO w v us) (hb : Blk w l 108 cs) {k : Nat} (hk : v.ownBlock = some k) : k ≠ l := fun e => by
  rcases h with ⟨rfl, _⟩ | ⟨g, o, cap, cur, rfl, hg, _⟩
  · simp [Value.ownBlock] at hk
  · simp [Value.ownBlock] at hk
    subst hk
    subst e
    unfold Blk at hb
    rw [hg] at hb
    simp at hb

/-- The log's list is another one, of what was there. -/
theorem pnx_list {w w2 W W' : World} {S T U : Nat → Prop} {d l c : Nat} {q : Nm} {s : St} {f f' : Nat} {R' : List (List UInt8)} {v v' : Value} {us us' : List Value} (hS : ∀ k, S k → k < w.heap.size) (hT : ∀ k, T k → S k) (hU : ∀ k, U k → S k) (hTU : ∀ k, T k → ¬ U k)
    (hb : Blk w l 108 (logC d q f v false)) (hlo : ListO w v us) (hUl : U l) (hUv : ∀ k, v.ownBlock = some k → U k) (hlt : ∀ k, U k → k < w.heap.size)
    (hn : Next w T d c s w2) (hW : OnlyS (fun k => v.ownBlock = some k) w2 W) (hlo' : ListO W v' us') (hv' : ∀ k, v'.ownBlock = some k → v.ownBlock = some k) (hlen' : us'.length = R'.length) (hrow' : ∀ (i : Nat) (u : Value) (t : List UInt8), us'[i]? = some u → R'[i]? = some t → Row w 0 u t) (hUu' : ∀ u ∈ us', ∀ k, u.ownBlock = some k → U k)
    (hlim' : f' + R'.length ≤ 99) (hW' : OnlyS (fun k => k = l) W W') (hbl' : Blk W' l 108 (logC d q f' v' false)) : PNx w S d l c q s f' R' false W' := by
  have hTl : ∀ k, T k → k ≠ l := fun k hk e => hTU k hk (e ▸ hUl)
  have hvl : ∀ k, v.ownBlock = some k → k ≠ l := fun k hk e => by
    rcases hlo with ⟨rfl, _⟩ | ⟨g, o, cap, cur, rfl, hg, _⟩
    · simp [Value.ownBlock] at hk
    · simp [Value.ownBlock] at hk
      subst hk
      subst e
      unfold Blk at hb
      rw [hg] at hb
      simp at hb
  have hsz1 := hn.only.size
  have hsz2 := hW.size
  have hsz3 := hW'.size
  have hUW : ∀ k, U k → ¬ v.ownBlock = some k → W.heap[k]? = w.heap[k]? := fun k hk hkv => by
    have h1 := hlt k hk
    rw [hW.block k (by omega) hkv, hn.only.block k h1 fun hT2 => hTU k hT2 hk]
  have honly : OnlyS S w W' := by
    have h1 : OnlyS S w w2 := hn.only.mono fun k _ hk => hT k hk
    have h2 : OnlyS S w W := h1.then hW fun k _ hk => hU k (hUv k hk)
    exact h2.then hW' fun k _ hk => by subst hk; exact hU _ hUl
  have hdisk : IsDisk W' (more w T w2) d c s := hn.disk.same (fun k hk => by
    have hk2 : k < w2.heap.size := hn.disk.lt k hk
    have hkl : k ≠ l := by
      rcases hk with hk | hk
      · exact hTl k hk
      · have := hlt l hUl; omega
    rw [hW'.block k (by omega) hkl]
    refine hW.block k hk2 fun hv => ?_
    rcases hk with hk | hk
    · exact hTU k hk (hUv k hv)
    · have := hlt k (hUv k hv); omega) (by omega)
  refine ⟨⟨⟨more w T w2, U, hdisk, ⟨⟨v', us', hbl', hlo'.same fun k hk => hW'.block k (hlo'.lt hk) (hvl k (hv' k hk)), hlen', fun i z t hz ht => ?_, hUl, fun k hk => hUv k (hv' k hk), hUu'⟩, fun k hk => ?_, hlim'⟩, fun k hk => ?_, fun k hk => .inl (hU k hk), fun k hk hk2 => ?_⟩, fun k hk => ?_⟩, honly⟩
  · have hrow := hrow' i z t hz ht
    refine ownRow_same hrow fun k hk => ?_
    have hUk := hUu' z (List.mem_of_getElem? hz) k hk
    have hkl : k ≠ l := fun e => row_ne_blk hrow hb (by decide) (by rw [hk, e])
    have hkw := hlt k hUk
    rw [hW'.block k (by omega) hkl]
    refine hUW k hUk fun hv => ?_
    rcases hlo with ⟨rfl, _⟩ | ⟨g, o, cap, cur, rfl, hg, _⟩
    · simp [Value.ownBlock] at hv
    · simp [Value.ownBlock] at hv
      obtain ⟨cur2, hc2⟩ := ownRow_block hrow hk
      rw [← hv, hg] at hc2
      simp at hc2
  · have := hlt k hk; omega
  · rcases hk with hk | hk
    · exact .inl (hT k hk)
    · exact .inr ⟨hk.1, by omega⟩
  · rcases hk with hk | hk
    · exact hTU k hk hk2
    · have := hlt k hk2; omega
  · rcases hk with hk | hk
    · exact Nat.lt_of_lt_of_le (hS k hk) honly.size
    · exact hk.2

def CutEnd (w : World) (S : Nat → Prop) (d l c : Nat) (q : Nm) (s : St) (f k : Nat) (R : List (List UInt8)) (e : Ending) (w' : World) : Prop :=
  Must (cutA q s f k R.length).1 e ∧ ∃ c', c' ≤ c + 100 ∧ PNx w S d l c' q (cutA q s f k R.length).2 f (if (cutA q s f k R.length).1 = 0 then R.take k else R) false w'

theorem u64_diff (f k : Nat) (h : f + k < 1000) : IntKind.u64.wrap (((f + k : Nat) : Int) - (f : Int)) = (k : Int) := by
  rw [IntKind.wrap_u64]
  omega

theorem sub_u64 (x y z : Int) (t : TypeId) (a b : Operand) (h : IntKind.u64.wrap (x - y) = z) (W : World) : (do eqGuard .sub t a b (.int .u64 x) (.int .u64 y); binOp .sub t (.int .u64 x) (.int .u64 y) : Sem Value).run Tryz.prog W = .ok (.int .u64 z) W := by
  simp [eqGuard, binOp, go_sem, h]

set_option maxHeartbeats 2000000 in
theorem cut_work {w : World} {S : Nat → Prop} {d l c : Nat} {q : Nm} {s : St} {f k : Nat} {R : List (List UInt8)} (hq : q.length ≤ 4) (h : Pr w S d l c q s f R false) (hc : c + 100 ≤ 2000) (hk : k ≤ R.length) {Lb Nb : Nat} (hLb : Blk w Lb 37 #[.pointer (some ⟨l, 0, none⟩)]) (hLS : ¬ S Lb)
    (hNb : Blk w Nb 32 #[.int .u64 ((f + k : Nat) : Int)]) (hNS : ¬ S Nb) :
    Calls Tryz.prog 61 #[.pointer (some ⟨Lb, 0, none⟩), .pointer (some ⟨Nb, 0, none⟩)] w (CutEnd w S d l c q s f k R) := by
  have hS := h.lt
  obtain ⟨T, U, hd, hl, hT, hU, hTU⟩ := h.ex
  obtain ⟨v, ls, l1, l2, l3, l4, l5, l6, l7⟩ := hl.ex
  obtain ⟨va, vc, rfl, hvc⟩ := l2.form
  have HS := Lib.hid hS
  have HD := Lib.hid hd
  have HLg := Lib.hid hl
  have HT := Lib.hid hT
  have HU := Lib.hid hU
  have HTU := Lib.hid hTU
  have H1 := Lib.hid l1
  have H2 := Lib.hid l2
  have H3 := Lib.hid l3
  have H4 := Lib.hid l4
  have H5 := Lib.hid l5
  have H6 := Lib.hid l6
  have H7 := Lib.hid l7
  have HLb := Lib.hid hLb
  have HNb := Lib.hid hNb
  have HLS := Lib.hid hLS
  have HNS := Lib.hid hNS
  have HK := Lib.hid hk
  have HC := Lib.hid hc
  have HLim := Lib.hid hl.lim
  obtain ⟨x, hx⟩ : ∃ x, x = (dropA q (f + k) (R.length - k) s).1 := ⟨_, rfl⟩
  obtain ⟨s', hs'⟩ : ∃ s', s' = (dropA q (f + k) (R.length - k) s).2 := ⟨_, rfl⟩
  have HX := Lib.hid hx
  have HSs := Lib.hid hs'
  have hfail : ∀ e w', x ≠ 0 → Must x e → (∃ c', c' ≤ c + 100 ∧ PNx w S d l c' q s' f R false w') → CutEnd w S d l c q s f k R e w' := fun e w' h0 h1 h2 => by
    have e1 : cutA q s f k R.length = dropA q (f + k) (R.length - k) s := by unfold cutA; rw [if_neg (by rw [← hx]; exact h0)]
    unfold CutEnd
    rw [e1, ← hx, ← hs', if_neg h0]
    exact ⟨h1, h2⟩
  have hdone : ∀ e w', x = 0 → Must s'.sync.1 e → (∃ c', c' ≤ c + 100 ∧ PNx w S d l c' q s'.sync.2 f (if s'.sync.1 = 0 then R.take k else R) false w') → CutEnd w S d l c q s f k R e w' := fun e w' h0 h1 h2 => by
    have e1 : cutA q s f k R.length = s'.sync := by unfold cutA; rw [if_pos (by rw [← hx]; exact h0), ← hs']
    unfold CutEnd
    rw [e1]
    exact ⟨h1, h2⟩
  have HFail := Lib.hid hfail
  have HDone := Lib.hid hdone
  obtain ⟨n, hn⟩ : ∃ n, n = f + ls.length := ⟨_, rfl⟩
  obtain ⟨m, hm⟩ : ∃ m, m = f + k := ⟨_, rfl⟩
  have HN := Lib.hid hn
  have HM := Lib.hid hm
  rw [← hm] at HNb
  clear hS hd hl hT hU hTU l1 l2 l3 l4 l5 l6 l7 hvc hLb hNb hLS hNS h hx hs' hfail hdone hn hm hk hc
  go_enter Tryz.func61, Tryz.ntmps61
  go_upto_region 0 with fail
  have hG : ∀ W W' : World, Below w.heap.size w W → Below W.heap.size W W' → Below w.heap.size w W' := fun W W' h h' => h.trans (h'.mono h.size)
  refine region_tails_by 7 [(3, .is (.pointer (some ⟨l, 0, none⟩))), (4, .is (.pointer (some ⟨l, 0, none⟩))), (5, .is (.pointer (some ⟨l, 0, none⟩))), (6, .is (fv (some ⟨d, 0, none⟩) q)), (7, .is (.int .u64 (m : Int))), (8, .is (.pointer (some ⟨l, 0, none⟩))), (9, .is (.int .u64 (n : Int)))] [0, 1, 6, 7, 9] (fun W => Below w.heap.size w W) (by kernel_rfl) (by kernel_rfl) (by kernel_rfl) (by kernel_rfl) (by kernel_rfl) (by decide) (by kernel_rfl) (by kernel_rfl) ((Below.refl _ _).drew) ?_ ?_
  · refine ⟨?c0, ?c1, ?c2, ?c3, ?c4, ?c5, ?c6, trivial⟩
    case c0 => exact ask_load (guard_none rfl) _ (.tmp 0) (.pointer (some ⟨Lb, 0, none⟩)) (.pointer (some ⟨l, 0, none⟩)) rfl rfl (by intro k hk; cases hk; rfl) (fun W hW => load_lp W _ _ (by rw [hW.cell (p := ⟨Lb, 0, none⟩) HLb.out.lt, HLb.out.cell]; rfl))
    case c1 => exact ask_exec (guard_none rfl) (.pointer (some ⟨l, 0, none⟩)) rfl rfl (by intro k hk; cases hk; rfl) (fun W hW => by kernel_rfl)
    case c2 => exact ask_field (guard_none rfl) _ (.tmp 4) 0 (.pointer (some ⟨l, 0, none⟩)) (.pointer (some ⟨l, 0, none⟩)) rfl rfl (by intro k hk; cases hk; rfl) (fun W => by kernel_rfl)
    case c3 => exact ask_load (guard_none rfl) _ (.tmp 5) (.pointer (some ⟨l, 0, none⟩)) (fv (some ⟨d, 0, none⟩) q) rfl rfl (by intro k hk; cases hk; rfl) (fun W hW => load_fl (H1.out.keep hW))
    case c4 => exact ask_load (guard_none rfl) _ (.tmp 1) (.pointer (some ⟨Nb, 0, none⟩)) (.int .u64 (m : Int)) rfl rfl (by intro k hk; cases hk; rfl) (fun W hW => load_u64 W _ _ (by rw [hW.cell (p := ⟨Nb, 0, none⟩) HNb.out.lt, HNb.out.cell]; rfl))
    case c5 => exact ask_load (guard_none rfl) _ (.tmp 0) (.pointer (some ⟨Lb, 0, none⟩)) (.pointer (some ⟨l, 0, none⟩)) rfl rfl (by intro k hk; cases hk; rfl) (fun W hW => load_lp W _ _ (by rw [hW.cell (p := ⟨Lb, 0, none⟩) HLb.out.lt, HLb.out.cell]; rfl))
    case c6 => exact ask_call hG (guard_none rfl) _ _ _ #[.pointer (some ⟨l, 0, none⟩)] (.is (.int .u64 (n : Int))) rfl (by kernel_rfl) rfl rfl (by intro k hk; cases hk; rfl) (fun W hW => (wnext_any (H1.out.keep hW) (by have := HLim.out; have := H3.out; omega)).mono fun e w' h => by obtain ⟨h1, m, rfl⟩ := h; exact ⟨_, h1, by rw [HN.out]; rfl, below_dn (Below.refl _ _) m⟩)
  · intro a' W hW hd' hs' hf'
    have t0 : a'.tmps.getD 0 undef = .pointer (some ⟨Lb, 0, none⟩) := hf' 0 rfl
    have t1 : a'.tmps.getD 1 undef = .pointer (some ⟨Nb, 0, none⟩) := hf' 1 rfl
    have t6 : a'.tmps.getD 6 undef = fv (some ⟨d, 0, none⟩) q := hf' 6 rfl
    have t7 : a'.tmps.getD 7 undef = .int .u64 (m : Int) := hf' 7 rfl
    have t9 : a'.tmps.getD 9 undef = .int .u64 (n : Int) := hf' 9 rfl
    obtain ⟨us, hus, ha'⟩ := act_open 37 a' hs' hd'
    rw [← hus] at t0 t1 t6 t7 t9
    have el : ((List.range 37).map us).toArray = #[us 0, us 1, us 2, us 3, us 4, us 5, us 6, us 7, us 8, us 9, us 10, us 11, us 12, us 13, us 14, us 15, us 16, us 17, us 18, us 19, us 20, us 21, us 22, us 23, us 24, us 25, us 26, us 27, us 28, us 29, us 30, us 31, us 32, us 33, us 34, us 35, us 36] := rfl
    rw [el] at ha'
    subst ha'
    rw [t0, t1, t6, t7, t9]
    have HW := Lib.hid hW
    clear hus t0 t1 t6 t7 t9 el hf' hs' hd' hW
    simp only [List.drop_succ_cons, List.drop_zero]
    go_wp2_with fail
    refine (wdrop_any hq (HD.out.below HW.out) (a := m) (k0 := R.length - k) (b := n) (by have := HC.out; have := HLim.out; omega) (by rw [HN.out, HM.out, H3.out]; have := HK.out; omega) (by rw [HN.out, H3.out]; have := HLim.out; omega)).mono ?_
    rintro e w2 ⟨hmu, c1, hc1, h2⟩
    have hnx := Next.pre HW.out HD.out.lt h2
    have e0 : m = f + k := HM.out
    have e1 : (dropA q m (R.length - k) s).1 = x := by rw [e0, HX.out]
    have e2 : (dropA q m (R.length - k) s).2 = s' := by rw [e0, HSs.out]
    rw [e1] at hmu
    rw [e2] at hnx
    have HNx := Lib.hid hnx
    have HC1 : Hid (c1 ≤ c + 100) := by have := HLim.out; show c1 ≤ c + 100; omega
    clear h2 e0 e1 e2 hnx hc1
    have hTL : ¬ T Lb := fun h => HLS.out (HT.out Lb h)
    have hTN : ¬ T Nb := fun h => HNS.out (HT.out Nb h)
    have hTl : ¬ T l := fun h => HTU.out l h H5.out
    by_cases hx0 : x = 0
    · obtain rfl := hmu.1 hx0
      have HX0 := Lib.hid hx0
      have HLb2 := Lib.hid (HNx.out.blk HLb.out hTL)
      have H12 := Lib.hid (HNx.out.blk H1.out hTl)
      have cb : w2.cell? ⟨Lb, 0, none⟩ = some (.pointer (some ⟨l, 0, none⟩)) := by rw [HLb2.out.cell]; rfl
      have cl0 : w2.cell? ⟨l, 0, none⟩ = some (dp d) := by rw [H12.out.cell]; rfl
      have cl1 : w2.cell? ⟨l, 1, none⟩ = some (nm q) := by rw [H12.out.cell]; rfl
      have HTn := Lib.hid (And.intro hTL (And.intro hTN hTl))
      clear hmu hx0 hTL hTN hTl
      go_wp2_with fail
      refine (wsync_any q HNx.out.disk).mono ?_
      rintro e w3 ⟨hmu, h3⟩
      have hnx3 := HNx.out.trans h3
      obtain ⟨y, hy⟩ : ∃ y, y = s'.sync.1 := ⟨_, rfl⟩
      rw [← hy] at hmu
      have HY := Lib.hid hy
      have HN3 := Lib.hid hnx3
      clear h3 hnx3 hy cb cl0 cl1
      by_cases hy0 : y = 0
      · obtain rfl := hmu.1 hy0
        have HMu := Lib.hid hmu
        have HY0 := Lib.hid hy0
        clear hmu hy0
        go_upto_region 2 with fail
        have HLb3 := Lib.hid (HN3.out.blk HLb.out HTn.out.1)
        have HNb3 := Lib.hid (HN3.out.blk HNb.out HTn.out.2.1)
        have H13 := Lib.hid (HN3.out.blk H1.out HTn.out.2.2)
        have HLo3 := Lib.hid (H2.out.same (w' := w3) fun k hk => HN3.out.only.block k (H2.out.lt hk) fun h => HTU.out k h (H6.out k hk))
        have hG3 : ∀ W W' : World, Below w3.heap.size w3 W → Below W.heap.size W W' → Below w3.heap.size w3 W' := fun W W' h h' => h.trans (h'.mono h.size)
        refine region_by [(16, .is (.int .u64 (m : Int))), (17, .is (.pointer (some ⟨l, 0, none⟩))), (18, .is (.pointer (some ⟨l, 0, none⟩))), (19, .is (.pointer (some ⟨l, 2, none⟩))), (20, .is (.int .u64 (f : Int))), (21, .is (.int .u64 (k : Int))), (2, .is (.int .u64 (k : Int)))] [0, 2] (fun W => Below w3.heap.size w3 W) (by kernel_rfl) (by kernel_rfl) (by kernel_rfl) (by kernel_rfl) (by kernel_rfl) ((Below.refl _ _).drew) ?_ ?_
        · refine ⟨?c0, ?c1, ?c2, ?c3, ?c4, ?c5, ?c6, trivial⟩
          case c0 => exact ask_load (guard_none rfl) _ (.tmp 1) (.pointer (some ⟨Nb, 0, none⟩)) (.int .u64 (m : Int)) rfl rfl (by intro k hk; cases hk; rfl) (fun W hW => load_u64 W _ _ (by rw [hW.cell (p := ⟨Nb, 0, none⟩) HNb3.out.lt, HNb3.out.cell]; rfl))
          case c1 => exact ask_load (guard_none rfl) _ (.tmp 0) (.pointer (some ⟨Lb, 0, none⟩)) (.pointer (some ⟨l, 0, none⟩)) rfl rfl (by intro k hk; cases hk; rfl) (fun W hW => load_lp W _ _ (by rw [hW.cell (p := ⟨Lb, 0, none⟩) HLb3.out.lt, HLb3.out.cell]; rfl))
          case c2 => exact ask_exec (guard_none rfl) (.pointer (some ⟨l, 0, none⟩)) rfl rfl (by intro k hk; cases hk; rfl) (fun W hW => by kernel_rfl)
          case c3 => exact ask_field (guard_none rfl) _ (.tmp 18) 1 (.pointer (some ⟨l, 0, none⟩)) (.pointer (some ⟨l, 2, none⟩)) rfl rfl (by intro k hk; cases hk; rfl) (fun W => by kernel_rfl)
          case c4 => exact ask_load (guard_none rfl) _ (.tmp 19) (.pointer (some ⟨l, 2, none⟩)) (.int .u64 (f : Int)) rfl rfl (by intro k hk; cases hk; rfl) (fun W hW => load_u64 W _ _ (by rw [hW.cell (p := ⟨l, 2, none⟩) H13.out.lt, H13.out.cell]; rfl))
          case c5 => exact ask_bin (guard_none rfl) .sub _ _ (.tmp 16) (.tmp 20) (.int .u64 (m : Int)) (.int .u64 (f : Int)) (.int .u64 (k : Int)) rfl rfl rfl (by intro k hk; cases hk; rfl) (fun W => sub_u64 _ _ _ _ _ _ (by rw [HM.out]; exact u64_diff f k (by have := HLim.out; have := HK.out; omega)) W)
          case c6 => exact ask_copy (guard_none rfl) (.tmp 21) (.inr rfl) (by intro k hk; cases hk; rfl)
        · intro a' W4 hW hd' hs' hf'
          have t0 : a'.tmps.getD 0 undef = .pointer (some ⟨Lb, 0, none⟩) := hf' 0 rfl
          have t2 : a'.tmps.getD 2 undef = .int .u64 (k : Int) := hf' 2 rfl
          obtain ⟨us, hus, ha'⟩ := act_open 37 a' hs' hd'
          rw [← hus] at t0 t2
          have el : ((List.range 37).map us).toArray = #[us 0, us 1, us 2, us 3, us 4, us 5, us 6, us 7, us 8, us 9, us 10, us 11, us 12, us 13, us 14, us 15, us 16, us 17, us 18, us 19, us 20, us 21, us 22, us 23, us 24, us 25, us 26, us 27, us 28, us 29, us 30, us 31, us 32, us 33, us 34, us 35, us 36] := rfl
          rw [el] at ha'
          subst ha'
          rw [t0, t2]
          have HW4 := Lib.hid hW
          clear hus t0 t2 el hf' hs' hd' hW
          have HLb4 := Lib.hid (HLb3.out.keep HW4.out)
          have H14 := Lib.hid (H13.out.keep HW4.out)
          have HLo4 := Lib.hid (HLo3.out.same fun k hk => HW4.out.block k (HLo3.out.lt hk))
          have HN4 := Lib.hid (HN3.out.post HW4.out)
          obtain ⟨z, W5, hz, hcl, ho5, hlo5⟩ := HLo4.out.clearTail k (by rw [H3.out]; exact HK.out) 0
          have HO5 := Lib.hid ho5
          have HLo5 := Lib.hid hlo5
          have cb : W4.cell? ⟨Lb, 0, none⟩ = some (.pointer (some ⟨l, 0, none⟩)) := by rw [HLb4.out.cell]; rfl
          have cl3 : W4.cell? ⟨l, 3, none⟩ = some (.slice va ls.length vc) := by rw [H14.out.cell]; rfl
          clear ho5 hlo5
          go_upto_region 4 with fail
          have hvS : ∀ k, (Value.slice va ls.length vc).ownBlock = some k → S k := fun k hk => HU.out k (H6.out k hk)
          have hvl : ∀ k, (Value.slice va ls.length vc).ownBlock = some k → k ≠ l := fun k hk => list_ne_log H2.out H1.out hk
          have HLb5 : Hid (Blk W5 Lb 37 #[.pointer (some ⟨l, 0, none⟩)]) := by
            show Blk W5 Lb _ _
            unfold Blk
            rw [HO5.out.block Lb HLb4.out.lt fun h => HLS.out (hvS Lb h)]
            exact HLb4.out
          have H15 : Hid (Blk W5 l 108 (logC d q f (.slice va ls.length vc) false)) := by
            show Blk W5 l _ _
            unfold Blk
            rw [HO5.out.block l H14.out.lt fun h => hvl l h rfl]
            exact H14.out
          have hG5 : ∀ W W' : World, Below W5.heap.size W5 W → Below W.heap.size W W' → Below W5.heap.size W5 W' := fun W W' h h' => h.trans (h'.mono h.size)
          have hup : ∀ W, (Instr.sliceAt 33 (.slice va ls.length vc) none (some (.int .u64 (k : Int))) none).run Tryz.prog W = .ok (.slice va k vc) W := fun W => slice_txs_upto va ls.length vc k (by
            obtain ⟨a2, c2, e2, h2⟩ := H2.out.form
            simp at e2
            have := HK.out
            have := H3.out
            omega) W
          clear hvS hvl cb cl3 hz hcl
          refine region_tail_by 9 _ [(28, .is (.pointer (some ⟨l, 0, none⟩))), (29, .is (.pointer (some ⟨l, 0, none⟩))), (30, .is (.pointer (some ⟨l, 0, none⟩))), (31, .is (.pointer (some ⟨l, 3, none⟩))), (32, .is (.slice va ls.length vc)), (33, .is (.int .u64 (k : Int))), (34, .is (.slice va k vc)), (35, .is (.pointer (some ⟨l, 0, none⟩))), (36, .is (.pointer (some ⟨l, 3, none⟩)))] [34, 36] (fun W => Below W5.heap.size W5 W) (by kernel_rfl) (by kernel_rfl) (by kernel_rfl) (by kernel_rfl) (by kernel_rfl) rfl rfl rfl rfl (by kernel_rfl) ((Below.refl _ _).drew) ?_ ?_
          · refine ⟨?c0, ?c1, ?c2, ?c3, ?c4, ?c5, ?c6, ?c7, ?c8, trivial⟩
            case c0 => exact ask_load (guard_none rfl) _ (.tmp 0) (.pointer (some ⟨Lb, 0, none⟩)) (.pointer (some ⟨l, 0, none⟩)) rfl rfl (by intro k hk; cases hk; rfl) (fun W hW => load_lp W _ _ (by rw [hW.cell (p := ⟨Lb, 0, none⟩) HLb5.out.lt, HLb5.out.cell]; rfl))
            case c1 => exact ask_load (guard_none rfl) _ (.tmp 0) (.pointer (some ⟨Lb, 0, none⟩)) (.pointer (some ⟨l, 0, none⟩)) rfl rfl (by intro k hk; cases hk; rfl) (fun W hW => load_lp W _ _ (by rw [hW.cell (p := ⟨Lb, 0, none⟩) HLb5.out.lt, HLb5.out.cell]; rfl))
            case c2 => exact ask_exec (guard_none rfl) (.pointer (some ⟨l, 0, none⟩)) rfl rfl (by intro k hk; cases hk; rfl) (fun W hW => by kernel_rfl)
            case c3 => exact ask_field (guard_none rfl) _ (.tmp 30) 2 (.pointer (some ⟨l, 0, none⟩)) (.pointer (some ⟨l, 3, none⟩)) rfl rfl (by intro k hk; cases hk; rfl) (fun W => by kernel_rfl)
            case c4 => exact ask_load (guard_none rfl) _ (.tmp 31) (.pointer (some ⟨l, 3, none⟩)) (.slice va ls.length vc) rfl rfl (by intro k hk; cases hk; rfl) (fun W hW => load_ls W _ _ (by rw [hW.cell (p := ⟨l, 3, none⟩) H15.out.lt, H15.out.cell]; rfl))
            case c5 => exact ask_copy (guard_none rfl) (.tmp 2) (.inl rfl) (by intro k hk; cases hk; rfl)
            case c6 => exact ask_slice (guard_none rfl) _ (.tmp 32) none (some (.tmp 33)) none (.slice va ls.length vc) (.slice va k vc) none (some (.int .u64 (k : Int))) none rfl rfl rfl rfl rfl (by intro k hk; cases hk; rfl) hup
            case c7 => exact ask_exec (guard_none rfl) (.pointer (some ⟨l, 0, none⟩)) rfl rfl (by intro k hk; cases hk; rfl) (fun W hW => by kernel_rfl)
            case c8 => exact ask_field (guard_none rfl) _ (.tmp 35) 2 (.pointer (some ⟨l, 0, none⟩)) (.pointer (some ⟨l, 3, none⟩)) rfl rfl (by intro k hk; cases hk; rfl) (fun W => by kernel_rfl)
          · intro a' W6 hW hd' hs' hf'
            have t34 : a'.tmps.getD 34 undef = .slice va k vc := hf' 34 rfl
            have t36 : a'.tmps.getD 36 undef = .pointer (some ⟨l, 3, none⟩) := hf' 36 rfl
            obtain ⟨us, hus, ha'⟩ := act_open 37 a' hs' hd'
            rw [← hus] at t34 t36
            have el : ((List.range 37).map us).toArray = #[us 0, us 1, us 2, us 3, us 4, us 5, us 6, us 7, us 8, us 9, us 10, us 11, us 12, us 13, us 14, us 15, us 16, us 17, us 18, us 19, us 20, us 21, us 22, us 23, us 24, us 25, us 26, us 27, us 28, us 29, us 30, us 31, us 32, us 33, us 34, us 35, us 36] := rfl
            rw [el] at ha'
            subst ha'
            rw [t34, t36]
            have HW6 := Lib.hid hW
            clear hus t34 t36 el hf' hs' hd' hW
            have H16 := Lib.hid (H15.out.keep HW6.out)
            have hfr : W6.frozen? ⟨l, 3, none⟩ = false := H16.out.frozen 3
            have hce : W6.cell? ⟨l, 3, none⟩ = some (.slice va ls.length vc) := by rw [H16.out.cell]; rfl
            have hkl : (ls.take k).length = k := by rw [List.length_take]; have := HK.out; have := H3.out; omega
            have hRl : (R.take k).length = k := by rw [List.length_take]; have := HK.out; omega
            have hpn : PNx w S d l c1 q s'.sync.2 f (R.take k) false (W6.setCell ⟨l, 3, none⟩ (.slice va k vc)) := by
              refine pnx_list (us := ls) (us' := ls.take k) HS.out HT.out HU.out HTU.out H1.out H2.out H5.out H6.out HLg.out.lt HN4.out (HO5.out.trans (OnlyS.of_below HW6.out fun k hk _ => hk)) (HLo5.out.same fun k hk => HW6.out.block k (HLo5.out.lt hk)) (fun k hk => by cases va <;> exact hk) (by rw [hkl, hRl]) (fun i u t hu ht => ?_) (fun u hu => H7.out u (List.mem_of_mem_take hu)) (by rw [hRl]; have := HLim.out; have := HK.out; omega) ((OnlyS.refl (fun k => k = l) W6).setCell (p := ⟨l, 3, none⟩) (fun _ => rfl) _) (Blk.set H16.out 3 _)
              have hik := (List.getElem?_eq_some_iff.1 hu).1
              rw [hkl] at hik
              rw [List.getElem?_take_of_lt hik] at hu ht
              exact H4.out i u t hu ht
            have HP := Lib.hid hpn
            clear hpn hkl hRl hup
            go_wp2
            go_end0
            exact HDone.out _ _ HX0.out (by rw [← HY.out]; exact HMu.out) ⟨c1, HC1.out, by rw [← HY.out, HY0.out, if_pos rfl]; exact HP.out⟩
      · obtain rfl := hmu.2 hy0
        exact ⟨rfl, HDone.out _ _ HX0.out (by rw [← HY.out]; exact hmu) ⟨c1, HC1.out, by rw [if_neg (by rw [← HY.out]; exact hy0)]; exact PNx.ofNext HS.out HT.out HU.out HTU.out HLg.out HN3.out⟩⟩
    · obtain rfl := hmu.2 hx0
      exact ⟨rfl, HFail.out _ _ hx0 hmu ⟨c1, HC1.out, PNx.ofNext HS.out HT.out HU.out HTU.out HLg.out HNx.out⟩⟩
end Go.Proofs.YthaggdkfaglgaaaGreatDoor

/- Records are trimmed: the walk of the work. -/
namespace Go.Proofs.YthaggdkfaglgaaaGreatDoor
set_option maxRecDepth 20000
open Go.RowKit Go.Maps DiskMath WalMath FrameMath Reg

def TrimEnd (w : World) (S : Nat → Prop) (d l c : Nat) (q : Nm) (s : St) (f k : Nat) (R : List (List UInt8)) (e : Ending) (w' : World) : Prop :=
  Must (trimA q s f k).1 e ∧ ∃ c', c' ≤ c + 100 ∧ PNx w S d l c' q (trimA q s f k).2 (if (trimA q s f k).1 = 0 then f + k else f) (if (trimA q s f k).1 = 0 then R.drop k else R) false w'

theorem trim_mark {q : Nm} {s : St} {f k : Nat} (h : (markA q s f (f + k)).1 ≠ 0) : trimA q s f k = markA q s f (f + k) := by unfold trimA; rw [if_neg h]
theorem trim_sync {q : Nm} {s : St} {f k : Nat} (h : (markA q s f (f + k)).1 = 0) (h1 : (markA q s f (f + k)).2.sync.1 ≠ 0) : trimA q s f k = (markA q s f (f + k)).2.sync := by unfold trimA; rw [if_pos h, if_neg h1]
theorem trim_drop {q : Nm} {s : St} {f k : Nat} (h : (markA q s f (f + k)).1 = 0) (h1 : (markA q s f (f + k)).2.sync.1 = 0) : trimA q s f k = dropA q f k (markA q s f (f + k)).2.sync.2 := by unfold trimA; rw [if_pos h, if_pos h1]

set_option maxHeartbeats 2000000 in
theorem trim_work {w : World} {S : Nat → Prop} {d l c : Nat} {q : Nm} {s : St} {f k : Nat} {R : List (List UInt8)} (hq : q.length ≤ 4) (h : Pr w S d l c q s f R false) (hc : c + 100 ≤ 2000) (hk : k ≤ R.length) {Lb Nb : Nat} (hLb : Blk w Lb 37 #[.pointer (some ⟨l, 0, none⟩)]) (hLS : ¬ S Lb)
    (hNb : Blk w Nb 32 #[.int .u64 ((f + k : Nat) : Int)]) (hNS : ¬ S Nb) :
    Calls Tryz.prog 63 #[.pointer (some ⟨Lb, 0, none⟩), .pointer (some ⟨Nb, 0, none⟩)] w (TrimEnd w S d l c q s f k R) := by
  have hS := h.lt
  obtain ⟨T, U, hd, hl, hT, hU, hTU⟩ := h.ex
  obtain ⟨v, ls, l1, l2, l3, l4, l5, l6, l7⟩ := hl.ex
  obtain ⟨va, vc, rfl, hvc⟩ := l2.form
  have HS := Lib.hid hS
  have HD := Lib.hid hd
  have HLg := Lib.hid hl
  have HT := Lib.hid hT
  have HU := Lib.hid hU
  have HTU := Lib.hid hTU
  have H1 := Lib.hid l1
  have H2 := Lib.hid l2
  have H3 := Lib.hid l3
  have H4 := Lib.hid l4
  have H5 := Lib.hid l5
  have H6 := Lib.hid l6
  have H7 := Lib.hid l7
  have HLb := Lib.hid hLb
  have HNb := Lib.hid hNb
  have HLS := Lib.hid hLS
  have HNS := Lib.hid hNS
  have HK := Lib.hid hk
  have HC := Lib.hid hc
  have HLim := Lib.hid hl.lim
  obtain ⟨n, hn⟩ : ∃ n, n = f + ls.length := ⟨_, rfl⟩
  obtain ⟨m, hm⟩ : ∃ m, m = f + k := ⟨_, rfl⟩
  have HN := Lib.hid hn
  have HM := Lib.hid hm
  rw [← hm] at HNb
  obtain ⟨x, hx⟩ : ∃ x, x = (markA q s f m).1 := ⟨_, rfl⟩
  obtain ⟨s1, hs1⟩ : ∃ s1, s1 = (markA q s f m).2 := ⟨_, rfl⟩
  have HX := Lib.hid hx
  have HS1 := Lib.hid hs1
  have hfail : ∀ e w' t, trimA q s f k = t → t.1 ≠ 0 → Must t.1 e → (∃ c', c' ≤ c + 100 ∧ PNx w S d l c' q t.2 f R false w') → TrimEnd w S d l c q s f k R e w' := fun e w' t e1 h0 h1 h2 => by
    unfold TrimEnd
    rw [e1, if_neg h0, if_neg h0]
    exact ⟨h1, h2⟩
  have hdone : ∀ e w' t, trimA q s f k = t → t.1 = 0 → Must t.1 e → (∃ c', c' ≤ c + 100 ∧ PNx w S d l c' q t.2 (f + k) (R.drop k) false w') → TrimEnd w S d l c q s f k R e w' := fun e w' t e1 h0 h1 h2 => by
    unfold TrimEnd
    rw [e1, if_pos h0, if_pos h0]
    exact ⟨h1, h2⟩
  have HFail := Lib.hid hfail
  have HDone := Lib.hid hdone
  clear hS hd hl hT hU hTU l1 l2 l3 l4 l5 l6 l7 hvc hLb hNb hLS hNS h hx hs1 hfail hdone hn hm hk hc
  go_enter Tryz.func63, Tryz.ntmps63
  go_upto_region 0 with fail
  have hG : ∀ W W' : World, Below w.heap.size w W → Below W.heap.size W W' → Below w.heap.size w W' := fun W W' h h' => h.trans (h'.mono h.size)
  refine region_tails_by 9 [(3, .is (.pointer (some ⟨l, 0, none⟩))), (4, .is (.pointer (some ⟨l, 0, none⟩))), (5, .is (.pointer (some ⟨l, 0, none⟩))), (6, .is (fv (some ⟨d, 0, none⟩) q)), (7, .is (.pointer (some ⟨l, 0, none⟩))), (8, .is (.pointer (some ⟨l, 0, none⟩))), (9, .is (.pointer (some ⟨l, 2, none⟩))), (10, .is (.int .u64 (f : Int))), (11, .is (.int .u64 (m : Int)))] [0, 1, 6, 10, 11] (fun W => Below w.heap.size w W) (by kernel_rfl) (by kernel_rfl) (by kernel_rfl) (by kernel_rfl) (by kernel_rfl) (by decide) (by kernel_rfl) (by kernel_rfl) ((Below.refl _ _).drew) ?_ ?_
  · refine ⟨?c0, ?c1, ?c2, ?c3, ?c4, ?c5, ?c6, ?c7, ?c8, trivial⟩
    case c0 => exact ask_load (guard_none rfl) _ (.tmp 0) (.pointer (some ⟨Lb, 0, none⟩)) (.pointer (some ⟨l, 0, none⟩)) rfl rfl (by intro k hk; cases hk; rfl) (fun W hW => load_lp W _ _ (by rw [hW.cell (p := ⟨Lb, 0, none⟩) HLb.out.lt, HLb.out.cell]; rfl))
    case c1 => exact ask_exec (guard_none rfl) (.pointer (some ⟨l, 0, none⟩)) rfl rfl (by intro k hk; cases hk; rfl) (fun W hW => by kernel_rfl)
    case c2 => exact ask_field (guard_none rfl) _ (.tmp 4) 0 (.pointer (some ⟨l, 0, none⟩)) (.pointer (some ⟨l, 0, none⟩)) rfl rfl (by intro k hk; cases hk; rfl) (fun W => by kernel_rfl)
    case c3 => exact ask_load (guard_none rfl) _ (.tmp 5) (.pointer (some ⟨l, 0, none⟩)) (fv (some ⟨d, 0, none⟩) q) rfl rfl (by intro k hk; cases hk; rfl) (fun W hW => load_fl (H1.out.keep hW))
    case c4 => exact ask_load (guard_none rfl) _ (.tmp 0) (.pointer (some ⟨Lb, 0, none⟩)) (.pointer (some ⟨l, 0, none⟩)) rfl rfl (by intro k hk; cases hk; rfl) (fun W hW => load_lp W _ _ (by rw [hW.cell (p := ⟨Lb, 0, none⟩) HLb.out.lt, HLb.out.cell]; rfl))
    case c5 => exact ask_exec (guard_none rfl) (.pointer (some ⟨l, 0, none⟩)) rfl rfl (by intro k hk; cases hk; rfl) (fun W hW => by kernel_rfl)
    case c6 => exact ask_field (guard_none rfl) _ (.tmp 8) 1 (.pointer (some ⟨l, 0, none⟩)) (.pointer (some ⟨l, 2, none⟩)) rfl rfl (by intro k hk; cases hk; rfl) (fun W => by kernel_rfl)
    case c7 => exact ask_load (guard_none rfl) _ (.tmp 9) (.pointer (some ⟨l, 2, none⟩)) (.int .u64 (f : Int)) rfl rfl (by intro k hk; cases hk; rfl) (fun W hW => load_u64 W _ _ (by rw [hW.cell (p := ⟨l, 2, none⟩) H1.out.lt, H1.out.cell]; rfl))
    case c8 => exact ask_load (guard_none rfl) _ (.tmp 1) (.pointer (some ⟨Nb, 0, none⟩)) (.int .u64 (m : Int)) rfl rfl (by intro k hk; cases hk; rfl) (fun W hW => load_u64 W _ _ (by rw [hW.cell (p := ⟨Nb, 0, none⟩) HNb.out.lt, HNb.out.cell]; rfl))
  · intro a' W hW hd' hs' hf'
    have t0 : a'.tmps.getD 0 undef = .pointer (some ⟨Lb, 0, none⟩) := hf' 0 rfl
    have t1 : a'.tmps.getD 1 undef = .pointer (some ⟨Nb, 0, none⟩) := hf' 1 rfl
    have t6 : a'.tmps.getD 6 undef = fv (some ⟨d, 0, none⟩) q := hf' 6 rfl
    have t10 : a'.tmps.getD 10 undef = .int .u64 (f : Int) := hf' 10 rfl
    have t11 : a'.tmps.getD 11 undef = .int .u64 (m : Int) := hf' 11 rfl
    obtain ⟨us, hus, ha'⟩ := act_open 53 a' hs' hd'
    rw [← hus] at t0 t1 t6 t10 t11
    have el : ((List.range 53).map us).toArray = #[us 0, us 1, us 2, us 3, us 4, us 5, us 6, us 7, us 8, us 9, us 10, us 11, us 12, us 13, us 14, us 15, us 16, us 17, us 18, us 19, us 20, us 21, us 22, us 23, us 24, us 25, us 26, us 27, us 28, us 29, us 30, us 31, us 32, us 33, us 34, us 35, us 36, us 37, us 38, us 39, us 40, us 41, us 42, us 43, us 44, us 45, us 46, us 47, us 48, us 49, us 50, us 51, us 52] := rfl
    rw [el] at ha'
    subst ha'
    rw [t0, t1, t6, t10, t11]
    have HW := Lib.hid hW
    clear hus t0 t1 t6 t10 t11 el hf' hs' hd' hW
    simp only [List.drop_succ_cons, List.drop_zero]
    go_wp2_with fail
    refine (wmark_any hq (HD.out.below HW.out) (a := f) (b := m) (by have := HC.out; omega) (by have := HLim.out; omega) (by rw [HM.out]; have := HLim.out; have := HK.out; omega)).mono ?_
    rintro e w2 ⟨hmu, c1, hc1, h2⟩
    have hnx := Next.pre HW.out HD.out.lt h2
    rw [← HX.out] at hmu
    rw [← HS1.out] at hnx
    have HNx := Lib.hid hnx
    have HC1 := Lib.hid hc1
    have hmk : markA q s f (f + k) = (x, s1) := by rw [← HM.out, HX.out, HS1.out]
    have HMk := Lib.hid hmk
    clear h2 hnx hc1 hmk
    have hTL : ¬ T Lb := fun h => HLS.out (HT.out Lb h)
    have hTN : ¬ T Nb := fun h => HNS.out (HT.out Nb h)
    have hTl : ¬ T l := fun h => HTU.out l h H5.out
    by_cases hx0 : x = 0
    · obtain rfl := hmu.1 hx0
      have HX0 := Lib.hid hx0
      have HLb2 := Lib.hid (HNx.out.blk HLb.out hTL)
      have H12 := Lib.hid (HNx.out.blk H1.out hTl)
      have cb : w2.cell? ⟨Lb, 0, none⟩ = some (.pointer (some ⟨l, 0, none⟩)) := by rw [HLb2.out.cell]; rfl
      have cl0 : w2.cell? ⟨l, 0, none⟩ = some (dp d) := by rw [H12.out.cell]; rfl
      have cl1 : w2.cell? ⟨l, 1, none⟩ = some (nm q) := by rw [H12.out.cell]; rfl
      have HTn := Lib.hid (And.intro hTL (And.intro hTN hTl))
      clear hmu hx0 hTL hTN hTl
      go_wp2_with fail
      refine (wsync_any q HNx.out.disk).mono ?_
      rintro e w3 ⟨hmu, h3⟩
      have hnx3 := HNx.out.trans h3
      obtain ⟨y, hy⟩ : ∃ y, y = s1.sync.1 := ⟨_, rfl⟩
      obtain ⟨s2, hs2⟩ : ∃ s2, s2 = s1.sync.2 := ⟨_, rfl⟩
      rw [← hy] at hmu
      rw [← hs2] at hnx3
      have HY := Lib.hid hy
      have HS2 := Lib.hid hs2
      have HN3 := Lib.hid hnx3
      clear h3 hnx3 hy hs2 cb cl0 cl1
      by_cases hy0 : y = 0
      · obtain rfl := hmu.1 hy0
        have HY0 := Lib.hid hy0
        clear hmu hy0
        go_upto_region 2 with fail
        have HLb3 := Lib.hid (HN3.out.blk HLb.out HTn.out.1)
        have HNb3 := Lib.hid (HN3.out.blk HNb.out HTn.out.2.1)
        have H13 := Lib.hid (HN3.out.blk H1.out HTn.out.2.2)
        have hG3 : ∀ W W' : World, Below w3.heap.size w3 W → Below W.heap.size W W' → Below w3.heap.size w3 W' := fun W W' h h' => h.trans (h'.mono h.size)
        refine region_tails_by 9 [(18, .is (.pointer (some ⟨l, 0, none⟩))), (19, .is (.pointer (some ⟨l, 0, none⟩))), (20, .is (.pointer (some ⟨l, 0, none⟩))), (21, .is (fv (some ⟨d, 0, none⟩) q)), (22, .is (.pointer (some ⟨l, 0, none⟩))), (23, .is (.pointer (some ⟨l, 0, none⟩))), (24, .is (.pointer (some ⟨l, 2, none⟩))), (25, .is (.int .u64 (f : Int))), (26, .is (.int .u64 (m : Int)))] [0, 1, 21, 25, 26] (fun W => Below w3.heap.size w3 W) (by kernel_rfl) (by kernel_rfl) (by kernel_rfl) (by kernel_rfl) (by kernel_rfl) (by decide) (by kernel_rfl) (by kernel_rfl) ((Below.refl _ _).drew) ?_ ?_
        · refine ⟨?c0, ?c1, ?c2, ?c3, ?c4, ?c5, ?c6, ?c7, ?c8, trivial⟩
          case c0 => exact ask_load (guard_none rfl) _ (.tmp 0) (.pointer (some ⟨Lb, 0, none⟩)) (.pointer (some ⟨l, 0, none⟩)) rfl rfl (by intro k hk; cases hk; rfl) (fun W hW => load_lp W _ _ (by rw [hW.cell (p := ⟨Lb, 0, none⟩) HLb3.out.lt, HLb3.out.cell]; rfl))
          case c1 => exact ask_exec (guard_none rfl) (.pointer (some ⟨l, 0, none⟩)) rfl rfl (by intro k hk; cases hk; rfl) (fun W hW => by kernel_rfl)
          case c2 => exact ask_field (guard_none rfl) _ (.tmp 19) 0 (.pointer (some ⟨l, 0, none⟩)) (.pointer (some ⟨l, 0, none⟩)) rfl rfl (by intro k hk; cases hk; rfl) (fun W => by kernel_rfl)
          case c3 => exact ask_load (guard_none rfl) _ (.tmp 20) (.pointer (some ⟨l, 0, none⟩)) (fv (some ⟨d, 0, none⟩) q) rfl rfl (by intro k hk; cases hk; rfl) (fun W hW => load_fl (H13.out.keep hW))
          case c4 => exact ask_load (guard_none rfl) _ (.tmp 0) (.pointer (some ⟨Lb, 0, none⟩)) (.pointer (some ⟨l, 0, none⟩)) rfl rfl (by intro k hk; cases hk; rfl) (fun W hW => load_lp W _ _ (by rw [hW.cell (p := ⟨Lb, 0, none⟩) HLb3.out.lt, HLb3.out.cell]; rfl))
          case c5 => exact ask_exec (guard_none rfl) (.pointer (some ⟨l, 0, none⟩)) rfl rfl (by intro k hk; cases hk; rfl) (fun W hW => by kernel_rfl)
          case c6 => exact ask_field (guard_none rfl) _ (.tmp 23) 1 (.pointer (some ⟨l, 0, none⟩)) (.pointer (some ⟨l, 2, none⟩)) rfl rfl (by intro k hk; cases hk; rfl) (fun W => by kernel_rfl)
          case c7 => exact ask_load (guard_none rfl) _ (.tmp 24) (.pointer (some ⟨l, 2, none⟩)) (.int .u64 (f : Int)) rfl rfl (by intro k hk; cases hk; rfl) (fun W hW => load_u64 W _ _ (by rw [hW.cell (p := ⟨l, 2, none⟩) H13.out.lt, H13.out.cell]; rfl))
          case c8 => exact ask_load (guard_none rfl) _ (.tmp 1) (.pointer (some ⟨Nb, 0, none⟩)) (.int .u64 (m : Int)) rfl rfl (by intro k hk; cases hk; rfl) (fun W hW => load_u64 W _ _ (by rw [hW.cell (p := ⟨Nb, 0, none⟩) HNb3.out.lt, HNb3.out.cell]; rfl))
        · intro a' W3 hW hd' hs' hf'
          have t0 : a'.tmps.getD 0 undef = .pointer (some ⟨Lb, 0, none⟩) := hf' 0 rfl
          have t1 : a'.tmps.getD 1 undef = .pointer (some ⟨Nb, 0, none⟩) := hf' 1 rfl
          have t21 : a'.tmps.getD 21 undef = fv (some ⟨d, 0, none⟩) q := hf' 21 rfl
          have t25 : a'.tmps.getD 25 undef = .int .u64 (f : Int) := hf' 25 rfl
          have t26 : a'.tmps.getD 26 undef = .int .u64 (m : Int) := hf' 26 rfl
          obtain ⟨us, hus, ha'⟩ := act_open 53 a' hs' hd'
          rw [← hus] at t0 t1 t21 t25 t26
          have el : ((List.range 53).map us).toArray = #[us 0, us 1, us 2, us 3, us 4, us 5, us 6, us 7, us 8, us 9, us 10, us 11, us 12, us 13, us 14, us 15, us 16, us 17, us 18, us 19, us 20, us 21, us 22, us 23, us 24, us 25, us 26, us 27, us 28, us 29, us 30, us 31, us 32, us 33, us 34, us 35, us 36, us 37, us 38, us 39, us 40, us 41, us 42, us 43, us 44, us 45, us 46, us 47, us 48, us 49, us 50, us 51, us 52] := rfl
          rw [el] at ha'
          subst ha'
          rw [t0, t1, t21, t25, t26]
          have HW3 := Lib.hid hW
          clear hus t0 t1 t21 t25 t26 el hf' hs' hd' hW
          simp only [List.drop_succ_cons, List.drop_zero]
          go_wp2_with fail
          refine (wdrop_any hq (HN3.out.disk.below HW3.out) (a := f) (k0 := k) (b := m) (by have := HC.out; have := HC1.out; have := HLim.out; have := HK.out; omega) HM.out (by rw [HM.out]; have := HLim.out; have := HK.out; omega)).mono ?_
          rintro e w4 ⟨hmu, c2, hc2, h4⟩
          have hnx4 := HN3.out.trans (Next.pre HW3.out HN3.out.disk.lt h4)
          obtain ⟨z, hz⟩ : ∃ z, z = (dropA q f k s2).1 := ⟨_, rfl⟩
          obtain ⟨s3, hs3⟩ : ∃ s3, s3 = (dropA q f k s2).2 := ⟨_, rfl⟩
          rw [← hz] at hmu
          rw [← hs3] at hnx4
          have htr : trimA q s f k = (z, s3) := by
            rw [trim_drop (by rw [HMk.out]; exact HX0.out) (by rw [HMk.out, ← HY.out]; exact HY0.out), HMk.out, ← HS2.out, hz, hs3]
          have HTr := Lib.hid htr
          have HN4 := Lib.hid hnx4
          have HC2 : Hid (c2 ≤ c + 100) := by have := HC1.out; have := HLim.out; have := HK.out; show c2 ≤ c + 100; omega
          clear h4 hnx4 hz hs3 htr hc2
          by_cases hz0 : z = 0
          · obtain rfl := hmu.1 hz0
            have HMu := Lib.hid hmu
            have HZ0 := Lib.hid hz0
            clear hmu hz0
            go_upto_region 3 with fail
            have HLb4 := Lib.hid (HN4.out.blk HLb.out HTn.out.1)
            have HNb4 := Lib.hid (HN4.out.blk HNb.out HTn.out.2.1)
            have H14 := Lib.hid (HN4.out.blk H1.out HTn.out.2.2)
            have HLo4 := Lib.hid (H2.out.same (w' := w4) fun k hk => HN4.out.only.block k (H2.out.lt hk) fun h => HTU.out k h (H6.out k hk))
            have hG4 : ∀ W W' : World, Below w4.heap.size w4 W → Below W.heap.size W W' → Below w4.heap.size w4 W' := fun W W' h h' => h.trans (h'.mono h.size)
            refine region_by [(28, .is (.int .u64 (m : Int))), (29, .is (.pointer (some ⟨l, 0, none⟩))), (30, .is (.pointer (some ⟨l, 0, none⟩))), (31, .is (.pointer (some ⟨l, 2, none⟩))), (32, .is (.int .u64 (f : Int))), (33, .is (.int .u64 (k : Int))), (2, .is (.int .u64 (k : Int)))] [0, 1, 2] (fun W => Below w4.heap.size w4 W) (by kernel_rfl) (by kernel_rfl) (by kernel_rfl) (by kernel_rfl) (by kernel_rfl) ((Below.refl _ _).drew) ?_ ?_
            · refine ⟨?c0, ?c1, ?c2, ?c3, ?c4, ?c5, ?c6, trivial⟩
              case c0 => exact ask_load (guard_none rfl) _ (.tmp 1) (.pointer (some ⟨Nb, 0, none⟩)) (.int .u64 (m : Int)) rfl rfl (by intro k hk; cases hk; rfl) (fun W hW => load_u64 W _ _ (by rw [hW.cell (p := ⟨Nb, 0, none⟩) HNb4.out.lt, HNb4.out.cell]; rfl))
              case c1 => exact ask_load (guard_none rfl) _ (.tmp 0) (.pointer (some ⟨Lb, 0, none⟩)) (.pointer (some ⟨l, 0, none⟩)) rfl rfl (by intro k hk; cases hk; rfl) (fun W hW => load_lp W _ _ (by rw [hW.cell (p := ⟨Lb, 0, none⟩) HLb4.out.lt, HLb4.out.cell]; rfl))
              case c2 => exact ask_exec (guard_none rfl) (.pointer (some ⟨l, 0, none⟩)) rfl rfl (by intro k hk; cases hk; rfl) (fun W hW => by kernel_rfl)
              case c3 => exact ask_field (guard_none rfl) _ (.tmp 30) 1 (.pointer (some ⟨l, 0, none⟩)) (.pointer (some ⟨l, 2, none⟩)) rfl rfl (by intro k hk; cases hk; rfl) (fun W => by kernel_rfl)
              case c4 => exact ask_load (guard_none rfl) _ (.tmp 31) (.pointer (some ⟨l, 2, none⟩)) (.int .u64 (f : Int)) rfl rfl (by intro k hk; cases hk; rfl) (fun W hW => load_u64 W _ _ (by rw [hW.cell (p := ⟨l, 2, none⟩) H14.out.lt, H14.out.cell]; rfl))
              case c5 => exact ask_bin (guard_none rfl) .sub _ _ (.tmp 28) (.tmp 32) (.int .u64 (m : Int)) (.int .u64 (f : Int)) (.int .u64 (k : Int)) rfl rfl rfl (by intro k hk; cases hk; rfl) (fun W => sub_u64 _ _ _ _ _ _ (by rw [HM.out]; exact u64_diff f k (by have := HLim.out; have := HK.out; omega)) W)
              case c6 => exact ask_copy (guard_none rfl) (.tmp 33) (.inr rfl) (by intro k hk; cases hk; rfl)
            · intro a' W4 hW hd' hs' hf'
              have t0 : a'.tmps.getD 0 undef = .pointer (some ⟨Lb, 0, none⟩) := hf' 0 rfl
              have t1 : a'.tmps.getD 1 undef = .pointer (some ⟨Nb, 0, none⟩) := hf' 1 rfl
              have t2 : a'.tmps.getD 2 undef = .int .u64 (k : Int) := hf' 2 rfl
              obtain ⟨us, hus, ha'⟩ := act_open 53 a' hs' hd'
              rw [← hus] at t0 t1 t2
              have el : ((List.range 53).map us).toArray = #[us 0, us 1, us 2, us 3, us 4, us 5, us 6, us 7, us 8, us 9, us 10, us 11, us 12, us 13, us 14, us 15, us 16, us 17, us 18, us 19, us 20, us 21, us 22, us 23, us 24, us 25, us 26, us 27, us 28, us 29, us 30, us 31, us 32, us 33, us 34, us 35, us 36, us 37, us 38, us 39, us 40, us 41, us 42, us 43, us 44, us 45, us 46, us 47, us 48, us 49, us 50, us 51, us 52] := rfl
              rw [el] at ha'
              subst ha'
              rw [t0, t1, t2]
              have HW4 := Lib.hid hW
              clear hus t0 t1 t2 el hf' hs' hd' hW
              have HLb5 := Lib.hid (HLb4.out.keep HW4.out)
              have HNb5 := Lib.hid (HNb4.out.keep HW4.out)
              have H15 := Lib.hid (H14.out.keep HW4.out)
              have HLo5 := Lib.hid (HLo4.out.same fun k hk => HW4.out.block k (HLo4.out.lt hk))
              have HN5 := Lib.hid (HN4.out.post HW4.out)
              obtain ⟨W5, va', hup, hcl, ho5, hfrom, hown5, hlo5⟩ := HLo5.out.clearHead k (by rw [H3.out]; exact HK.out) 0
              have HO5 := Lib.hid ho5
              have HOw := Lib.hid hown5
              have HLo6 := Lib.hid hlo5
              have HFr := Lib.hid hfrom
              have cb : W4.cell? ⟨Lb, 0, none⟩ = some (.pointer (some ⟨l, 0, none⟩)) := by rw [HLb5.out.cell]; rfl
              have cl3 : W4.cell? ⟨l, 3, none⟩ = some (.slice va ls.length vc) := by rw [H15.out.cell]; rfl
              clear ho5 hlo5 hown5 hfrom
              go_upto_region 5 with fail
              have hvS : ∀ k, (Value.slice va ls.length vc).ownBlock = some k → S k := fun k hk => HU.out k (H6.out k hk)
              have hvl : ∀ k, (Value.slice va ls.length vc).ownBlock = some k → k ≠ l := fun k hk => list_ne_log H2.out H1.out hk
              have HLb6 : Hid (Blk W5 Lb 37 #[.pointer (some ⟨l, 0, none⟩)]) := by
                show Blk W5 Lb _ _
                unfold Blk
                rw [HO5.out.block Lb HLb5.out.lt fun h => HLS.out (hvS Lb h)]
                exact HLb5.out
              have HNb6 : Hid (Blk W5 Nb 32 #[.int .u64 (m : Int)]) := by
                show Blk W5 Nb _ _
                unfold Blk
                rw [HO5.out.block Nb HNb5.out.lt fun h => HNS.out (hvS Nb h)]
                exact HNb5.out
              have H16 : Hid (Blk W5 l 108 (logC d q f (.slice va ls.length vc) false)) := by
                show Blk W5 l _ _
                unfold Blk
                rw [HO5.out.block l H15.out.lt fun h => hvl l h rfl]
                exact H15.out
              have hG5 : ∀ W W' : World, Below W5.heap.size W5 W → Below W.heap.size W W' → Below W5.heap.size W5 W' := fun W W' h h' => h.trans (h'.mono h.size)
              clear hvS hvl cb cl3 hup hcl
              refine region_tail_by 9 _ [(40, .is (.pointer (some ⟨l, 0, none⟩))), (41, .is (.pointer (some ⟨l, 0, none⟩))), (42, .is (.pointer (some ⟨l, 0, none⟩))), (43, .is (.pointer (some ⟨l, 3, none⟩))), (44, .is (.slice va ls.length vc)), (45, .is (.int .u64 (k : Int))), (46, .is (.slice va' (ls.length - k) (vc - k))), (47, .is (.pointer (some ⟨l, 0, none⟩))), (48, .is (.pointer (some ⟨l, 3, none⟩)))] [0, 1, 46, 48] (fun W => Below W5.heap.size W5 W) (by kernel_rfl) (by kernel_rfl) (by kernel_rfl) (by kernel_rfl) (by kernel_rfl) rfl rfl rfl rfl (by kernel_rfl) ((Below.refl _ _).drew) ?_ ?_
              · refine ⟨?c0, ?c1, ?c2, ?c3, ?c4, ?c5, ?c6, ?c7, ?c8, trivial⟩
                case c0 => exact ask_load (guard_none rfl) _ (.tmp 0) (.pointer (some ⟨Lb, 0, none⟩)) (.pointer (some ⟨l, 0, none⟩)) rfl rfl (by intro k hk; cases hk; rfl) (fun W hW => load_lp W _ _ (by rw [hW.cell (p := ⟨Lb, 0, none⟩) HLb6.out.lt, HLb6.out.cell]; rfl))
                case c1 => exact ask_load (guard_none rfl) _ (.tmp 0) (.pointer (some ⟨Lb, 0, none⟩)) (.pointer (some ⟨l, 0, none⟩)) rfl rfl (by intro k hk; cases hk; rfl) (fun W hW => load_lp W _ _ (by rw [hW.cell (p := ⟨Lb, 0, none⟩) HLb6.out.lt, HLb6.out.cell]; rfl))
                case c2 => exact ask_exec (guard_none rfl) (.pointer (some ⟨l, 0, none⟩)) rfl rfl (by intro k hk; cases hk; rfl) (fun W hW => by kernel_rfl)
                case c3 => exact ask_field (guard_none rfl) _ (.tmp 42) 2 (.pointer (some ⟨l, 0, none⟩)) (.pointer (some ⟨l, 3, none⟩)) rfl rfl (by intro k hk; cases hk; rfl) (fun W => by kernel_rfl)
                case c4 => exact ask_load (guard_none rfl) _ (.tmp 43) (.pointer (some ⟨l, 3, none⟩)) (.slice va ls.length vc) rfl rfl (by intro k hk; cases hk; rfl) (fun W hW => load_ls W _ _ (by rw [hW.cell (p := ⟨l, 3, none⟩) H16.out.lt, H16.out.cell]; rfl))
                case c5 => exact ask_copy (guard_none rfl) (.tmp 2) (.inl rfl) (by intro k hk; cases hk; rfl)
                case c6 => exact ask_slice (guard_none rfl) _ (.tmp 44) (some (.tmp 45)) none none (.slice va ls.length vc) (.slice va' (ls.length - k) (vc - k)) (some (.int .u64 (k : Int))) none none rfl rfl rfl rfl rfl (by intro k hk; cases hk; rfl) HFr.out
                case c7 => exact ask_exec (guard_none rfl) (.pointer (some ⟨l, 0, none⟩)) rfl rfl (by intro k hk; cases hk; rfl) (fun W hW => by kernel_rfl)
                case c8 => exact ask_field (guard_none rfl) _ (.tmp 47) 2 (.pointer (some ⟨l, 0, none⟩)) (.pointer (some ⟨l, 3, none⟩)) rfl rfl (by intro k hk; cases hk; rfl) (fun W => by kernel_rfl)
              · intro a' W6 hW hd' hs' hf'
                have t0 : a'.tmps.getD 0 undef = .pointer (some ⟨Lb, 0, none⟩) := hf' 0 rfl
                have t1 : a'.tmps.getD 1 undef = .pointer (some ⟨Nb, 0, none⟩) := hf' 1 rfl
                have t46 : a'.tmps.getD 46 undef = .slice va' (ls.length - k) (vc - k) := hf' 46 rfl
                have t48 : a'.tmps.getD 48 undef = .pointer (some ⟨l, 3, none⟩) := hf' 48 rfl
                obtain ⟨us, hus, ha'⟩ := act_open 53 a' hs' hd'
                rw [← hus] at t0 t1 t46 t48
                have el : ((List.range 53).map us).toArray = #[us 0, us 1, us 2, us 3, us 4, us 5, us 6, us 7, us 8, us 9, us 10, us 11, us 12, us 13, us 14, us 15, us 16, us 17, us 18, us 19, us 20, us 21, us 22, us 23, us 24, us 25, us 26, us 27, us 28, us 29, us 30, us 31, us 32, us 33, us 34, us 35, us 36, us 37, us 38, us 39, us 40, us 41, us 42, us 43, us 44, us 45, us 46, us 47, us 48, us 49, us 50, us 51, us 52] := rfl
                rw [el] at ha'
                subst ha'
                rw [t0, t1, t46, t48]
                have HW6 := Lib.hid hW
                clear hus t0 t1 t46 t48 el hf' hs' hd' hW
                have H17 := Lib.hid (H16.out.keep HW6.out)
                have HLb7 := Lib.hid (HLb6.out.keep HW6.out)
                have HNb7 := Lib.hid (HNb6.out.keep HW6.out)
                have hfr : W6.frozen? ⟨l, 3, none⟩ = false := H17.out.frozen 3
                have hce : W6.cell? ⟨l, 3, none⟩ = some (.slice va ls.length vc) := by rw [H17.out.cell]; rfl
                have hfr2 : W6.frozen? ⟨l, 2, none⟩ = false := H17.out.frozen 2
                have hce2 : W6.cell? ⟨l, 2, none⟩ = some (.int .u64 (f : Int)) := by rw [H17.out.cell]; rfl
                have cb : W6.cell? ⟨Lb, 0, none⟩ = some (.pointer (some ⟨l, 0, none⟩)) := by rw [HLb7.out.cell]; rfl
                have cn : W6.cell? ⟨Nb, 0, none⟩ = some (.int .u64 (m : Int)) := by rw [HNb7.out.cell]; rfl
                have nl1 : ¬ Lb = l := fun e => HLS.out (e ▸ HU.out l H5.out)
                have nl2 : ¬ Nb = l := fun e => HNS.out (e ▸ HU.out l H5.out)
                obtain ⟨n5, hn5⟩ : ∃ n5, n5 = ls.length - k := ⟨_, rfl⟩
                obtain ⟨c5, hc5⟩ : ∃ c5, c5 = vc - k := ⟨_, rfl⟩
                rw [← hn5, ← hc5] at HOw HLo6 ⊢
                have hkl : (ls.drop k).length = (R.drop k).length := by rw [List.length_drop, List.length_drop, H3.out]
                have hRl : (R.drop k).length = R.length - k := List.length_drop
                have hpn : PNx w S d l c2 q s3 (f + k) (R.drop k) false ((W6.setCell ⟨l, 3, none⟩ (.slice va' n5 c5)).setCell ⟨l, 2, none⟩ (.int .u64 (m : Int))) := by
                  refine pnx_list (us := ls) (us' := ls.drop k) HS.out HT.out HU.out HTU.out H1.out H2.out H5.out H6.out HLg.out.lt HN5.out (HO5.out.trans (OnlyS.of_below HW6.out fun k hk _ => hk)) (HLo6.out.same fun k hk => HW6.out.block k (HLo6.out.lt hk)) HOw.out hkl (fun i u t hu ht => ?_) (fun u hu => H7.out u (List.mem_of_mem_drop hu)) (by rw [hRl]; have := HLim.out; have := HK.out; omega)
                    (((OnlyS.refl (fun k => k = l) W6).setCell (p := ⟨l, 3, none⟩) (fun _ => rfl) _).setCell (p := ⟨l, 2, none⟩) (fun _ => rfl) _) ?_
                  · rw [List.getElem?_drop] at hu ht
                    exact H4.out _ u t hu ht
                  · have h1 := Blk.set (Blk.set H17.out 3 (.slice va' n5 c5)) 2 (.int .u64 (m : Int))
                    rw [HM.out] at h1 ⊢
                    exact h1
                have HP := Lib.hid hpn
                clear hn5 hc5 HFr hpn hkl hRl
                go_wp2
                go_end0
                exact HDone.out _ _ _ HTr.out HZ0.out HMu.out ⟨c2, HC2.out, HP.out⟩
          · obtain rfl := hmu.2 hz0
            exact ⟨rfl, HFail.out _ _ _ HTr.out hz0 hmu ⟨c2, HC2.out, PNx.ofNext HS.out HT.out HU.out HTU.out HLg.out HN4.out⟩⟩
      · obtain rfl := hmu.2 hy0
        have htr : trimA q s f k = (y, s2) := by
          rw [trim_sync (by rw [HMk.out]; exact HX0.out) (by rw [HMk.out, ← HY.out]; exact hy0), HMk.out, HY.out, HS2.out]
        exact ⟨rfl, HFail.out _ _ _ htr hy0 hmu ⟨c1, by have := HC1.out; omega, PNx.ofNext HS.out HT.out HU.out HTU.out HLg.out HN3.out⟩⟩
    · obtain rfl := hmu.2 hx0
      have htr : trimA q s f k = (x, s1) := by rw [trim_mark (by rw [HMk.out]; exact hx0), HMk.out]
      exact ⟨rfl, HFail.out _ _ _ htr hx0 hmu ⟨c1, by have := HC1.out; omega, PNx.ofNext HS.out HT.out HU.out HTU.out HLg.out HNx.out⟩⟩
end Go.Proofs.YthaggdkfaglgaaaGreatDoor

