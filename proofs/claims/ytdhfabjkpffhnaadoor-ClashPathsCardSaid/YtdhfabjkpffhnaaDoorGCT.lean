/- Joined: Texts, Txs. -/
import Derived.Test.YtdhfabjkpffhnaaDoorGCR
import Derived.Deep.Matrix
import Derived.OpenShut
import Derived.Test.YtdhfabjkpffhnaaDoorBlk
/- Slices of texts that came in; what is known of the bulk of what came in. -/
namespace Go.Proofs.YtdhfabjkpffhnaaDoor
set_option maxRecDepth 20000
open Go.ChangeShapes Go.WideShapes Go.ChangeAt Go.RowKit Go.Deep

namespace Bulk
theorem pos {H : Type} (d : DataW H) : 1 ≤ Rows.uptoBulk d := by
  cases d with
  | lit l => cases l <;> simp [Rows.uptoBulk]
  | _ => simp [Rows.uptoBulk]

theorem places {H : Type} : ∀ l : List (DataW H), l.length ≤ Rows.uptoBulkAll l
  | [] => by simp [Rows.uptoBulkAll]
  | d :: r => by
    have h1 := pos d
    have h2 := places r
    simp only [Rows.uptoBulkAll, List.length_cons]
    omega

theorem part {H : Type} {d : DataW H} : ∀ {l : List (DataW H)}, d ∈ l → Rows.uptoBulk d ≤ Rows.uptoBulkAll l
  | x :: r, h => by
    simp only [Rows.uptoBulkAll]
    rcases List.mem_cons.1 h with rfl | h
    · omega
    · have := part h
      omega

end Bulk

/-- The texts that came in. -/
def TextsAt (w : World) (a : Option Addr) (T : List (List UInt8)) : Prop := ∀ (i : Nat) (t : List UInt8), T[i]? = some t → t.length ≤ 1048576 ∧ ∃ ad A C, a = some ad ∧ w.cell? (ad.add i) = some (.slice A t.length C) ∧ Bys w (.slice A t.length C) t

theorem TextsAt.below {w w' : World} {a : Option Addr} {T : List (List UInt8)} (h : TextsAt w a T) (hb : Below w.heap.size w w') : TextsAt w' a T := fun i n hi => by
  obtain ⟨h1, ad, A, C, h2, h3, h4⟩ := h i n hi
  exact ⟨h1, ad, A, C, h2, by rw [hb.cell (World.block_lt_of_cell? w _ h3)]; exact h3, h4.below (Nat.le_refl _) hb⟩

end Go.Proofs.YtdhfabjkpffhnaaDoor

/- Lists of texts: those that lie anywhere, those of the call's own. -/
namespace Go.Proofs.YtdhfabjkpffhnaaDoor
set_option maxRecDepth 20000
open Go.RowKit

/-- A list of texts, wherever it lies. -/
def Txs (w : World) (v : Value) (T : List (List UInt8)) : Prop :=
  ∃ a cap, v = .slice a T.length cap ∧ T.length ≤ cap ∧ (∀ (i : Nat) (t : List UInt8), T[i]? = some t → ∃ ad A C, a = some ad ∧ w.cell? (ad.add i) = some (.slice A t.length C) ∧ Bys w (.slice A t.length C) t)

theorem Txs.keep {w w' : World} {v : Value} {T : List (List UInt8)} (h : Txs w v T) (hb : Below w.heap.size w w') : Txs w' v T := by
  obtain ⟨a, cap, h1, h2, h3⟩ := h
  refine ⟨a, cap, h1, h2, fun i t hi => ?_⟩
  obtain ⟨ad, A, C, e, hc, hx⟩ := h3 i t hi
  exact ⟨ad, A, C, e, by rw [hb.cell (World.block_lt_of_cell? w _ hc)]; exact hc, hx.below (Nat.le_refl _) hb⟩

theorem row_lower {w : World} {B B' : Nat} {v : Value} {l : List UInt8} (h : Row w B v l) (hB : B' ≤ B) : Row w B' v l := by
  refine ⟨h.1, ?_⟩
  rcases h.2 with h0 | ⟨g, cap, cur, h1, h2, h3⟩
  · exact .inl h0
  · exact .inr ⟨g, cap, cur, h1, Nat.le_trans hB h2, h3⟩

theorem info_text : (Tryd.prog.info? 22).map (fun i => (i.zero, i.size, i.bytes)) = some (some (.slice none 0 0), 1, 24) := by kernel_rfl

theorem ownRow_keep {w w' : World} {B e size : Nat} {v : Value} {n : Nat} {xs : List Value} (h : w.ownsRow B e size v n xs) (hb : Below w.heap.size w w') : w'.ownsRow B e size v n xs := by
  refine ⟨h.1, ?_⟩
  rcases h.2 with h0 | ⟨g, cap, cur, h1, h2, h3, h4⟩
  · exact .inl h0
  · have hlt : g < w.heap.size := (Array.getElem?_eq_some_iff.1 h3).1
    exact .inr ⟨g, cap, cur, h1, h2, by rw [hb.block g hlt]; exact h3, h4⟩

theorem ownRow_other {W w' : World} {B B' size size' n n' e e' : Nat} {v v' : Value} {xs xs' : List Value} (h : W.ownsRow B e size v n xs) (h' : W.ownsRow B' e' size' v' n' xs') (hne : e ≠ e') (hg : W.grownBy w' v'.ownBlock) : w'.ownsRow B e size v n xs := by
  refine World.ownsRow.kept h hg ?_
  cases hv : v.ownBlock with
  | none => exact .inl rfl
  | some k =>
    right
    intro he
    rcases h.2 with ⟨e1, _⟩ | ⟨g, cap, cur, e1, _, hg1, _⟩
    · rw [e1] at hv; simp [Value.ownBlock] at hv
    · rw [e1] at hv
      rcases h'.2 with ⟨e2, _⟩ | ⟨g', cap', cur', e2, _, hg2, _⟩
      · rw [e2] at he; simp [Value.ownBlock] at he
      · rw [e2] at he
        simp only [Value.ownBlock, Option.some.injEq] at hv he
        rw [hv, he, hg2] at hg1
        simp at hg1
        exact hne hg1.2.symm

/-- A list of texts, it and they of the call's own, from block B on. -/
def Own (w : World) (B : Nat) (v : Value) (T : List (List UInt8)) : Prop :=
  ∃ us : List Value, w.ownsRow B 22 1 v T.length us ∧ ∀ (i : Nat) (t : List UInt8), T[i]? = some t → ∃ u, us[i]? = some u ∧ Row w B u t

theorem Own.nil (w : World) (B : Nat) : Own w B (.slice none 0 0) [] := ⟨[], World.ownsRow_nil _ _ _ _, fun i t h => by simp at h⟩

theorem Own.keep {w w' : World} {B : Nat} {v : Value} {T : List (List UInt8)} (h : Own w B v T) (hb : Below w.heap.size w w') : Own w' B v T := by
  obtain ⟨us, h1, h2⟩ := h
  refine ⟨us, ownRow_keep h1 hb, fun i t hi => ?_⟩
  obtain ⟨u, h3, h4⟩ := h2 i t hi
  exact ⟨u, h3, h4.below hb⟩

theorem Own.lower {w : World} {B B' : Nat} {v : Value} {T : List (List UInt8)} (h : Own w B v T) (hB : B' ≤ B) : Own w B' v T := by
  obtain ⟨us, h1, h2⟩ := h
  refine ⟨us, ⟨h1.1, ?_⟩, fun i t hi => ?_⟩
  · rcases h1.2 with h0 | ⟨g, cap, cur, h3, h4, h5⟩
    · exact .inl h0
    · exact .inr ⟨g, cap, cur, h3, Nat.le_trans hB h4, h5⟩
  · obtain ⟨u, h3, h4⟩ := h2 i t hi
    exact ⟨u, h3, row_lower h4 hB⟩

/-- append(list, one). -/
theorem Own.add {W : World} {B : Nat} {v u : Value} {T : List (List UInt8)} {t : List UInt8} (h : Own W B v T) (hu : Row W B u t) (hB : B ≤ W.heap.size) (hn : T.length ≤ 1099511627776) (x : Nat) (hx : Blk W x 22 #[u]) :
    ∃ v' w', (Builtin.append_ #[48, 48] 48 #[v, .slice (some ⟨x, 0, none⟩) 1 1]).run Tryd.prog W = .ok v' w' ∧
      (Own w' B v' (T ++ [t]) ∧ (∀ A : World, ∀ D, D ≤ B → Below D A W → Below D A w')) := by
  obtain ⟨us, h1, h2⟩ := h
  obtain ⟨i0, hi, hz0, hz1, hz2⟩ := info_parts info_text
  have hu1 : u.oneCell' = true := by
    obtain ⟨A, C, rfl⟩ := slice_of_row hu
    simp [Value.oneCell']
  obtain ⟨v', w', hr, o1, o2, _⟩ := run_append_own (P := Tryd.prog) (w := W) B 48 48 22 i0 (.slice none 0 0) 1 24 Tryd.underlying48 hi hz0 hz1 hz2 rfl (by decide) v T.length us h1 ⟨x, 0, none⟩ 1 1 [u] (by simp)
    (fun j y hj => by rw [addr_add, Nat.zero_add, hx.cell]; simpa using hj) (by simpa using hu1) (by unfold maxLen; omega) (by omega) hB
  have hl := h1.1
  refine ⟨v', w', hr, ⟨us ++ [u], by simpa using o1, fun i s hi => ?_⟩, fun A D hD hA => hA.grown o2 (Nat.le_trans hD hB) fun k hk => Nat.le_trans hD (World.ownsRow.lt h1 k hk).1⟩
  have keep : ∀ z s, Row W B z s → Row w' B z s := fun z s hz => ownRow_other hz h1 (by decide) o2
  by_cases hlt : i < T.length
  · rw [List.getElem?_append_left hlt] at hi
    obtain ⟨z, h3, h4⟩ := h2 i s hi
    exact ⟨z, by rw [List.getElem?_append_left (by omega)]; exact h3, keep z s h4⟩
  · have hi2 : i = T.length := by
      have := (List.getElem?_eq_some_iff.1 hi).1
      simp at this
      omega
    subst hi2
    rw [List.getElem?_append_right (Nat.le_refl _)] at hi
    simp at hi
    subst hi
    exact ⟨u, by rw [List.getElem?_append_right (by omega), show T.length - us.length = 0 by omega]; rfl, keep u t hu⟩

theorem elem_txs : Tryd.prog.elem 48 = 22 := by kernel_rfl
theorem size_txt (w : World) : (Go.sizeOf 22).run Tryd.prog w = .ok 1 w := by kernel_rfl

theorem slice_txs_to (b : Option Addr) (n c hi : Nat) (h2 : hi ≤ c) (W : World) : (Instr.sliceAt 48 (.slice b n c) none (some (.int .i64 (hi : Int))) none).run Tryd.prog W = .ok (.slice b hi c) W := by
  have ht : Tryd.prog.underlying 48 = some (.slice (Tryd.prog.elem 48)) := by rw [elem_txs]; exact Tryd.underlying48
  rw [run_sliceAt_slice _ _ _ _ _ _ ht, run_slice_h _ _ _ _ _ ht .i64 (hi : Int) (by omega) (by omega), elem_txs, size_txt]
  cases b with
  | none => simp [Result.andThen, sliced]
  | some ad => simp [Result.andThen, sliced, Addr.add]

theorem Txs.take {w : World} {a : Option Addr} {n c : Nat} {T : List (List UInt8)} (h : Txs w (.slice a n c) T) (k : Nat) (hk : k ≤ n) : Txs w (.slice a k c) (T.take k) := by
  obtain ⟨a', c', e, h2, h3⟩ := h
  cases e
  have el : (T.take k).length = k := by rw [List.length_take]; omega
  refine ⟨a, c, by rw [el], by omega, fun i t hi => ?_⟩
  have hik := (List.getElem?_eq_some_iff.1 hi).1
  rw [el] at hik
  rw [List.getElem?_take_of_lt hik] at hi
  exact h3 i t hi

theorem Txs.one {w : World} {a : Option Addr} {n c : Nat} {T : List (List UInt8)} (h : Txs w (.slice a n c) T) (i : Nat) (t : List UInt8) (hi : T[i]? = some t) : Txs w (sliced a i (i + 1) c 1) [t] := by
  obtain ⟨a', c', e, h2, h3⟩ := h
  cases e
  obtain ⟨ad, A, C, rfl, hc, hx⟩ := h3 i t hi
  have hlt := (List.getElem?_eq_some_iff.1 hi).1
  refine ⟨some (ad.add i), c - i, ?_, by simp; omega, fun j u hj => ?_⟩
  · unfold sliced
    simp
    omega
  · have hj0 : j = 0 := by
      have := (List.getElem?_eq_some_iff.1 hj).1
      simp at this
      omega
    subst hj0
    simp at hj
    subst hj
    exact ⟨_, A, C, rfl, by simpa [Addr.add] using hc, hx⟩
end Go.Proofs.YtdhfabjkpffhnaaDoor

