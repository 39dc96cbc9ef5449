/- Slices of texts that came in; what is known of the bulk of what came in. -/
import Derived.Test.YthaggdkfaglgaaaDoorFacts
import Derived.Deep.Matrix
import Derived.OpenShut
namespace Go.Proofs.YthaggdkfaglgaaaDoor
set_option maxRecDepth 20000
open Go.ChangeShapes Go.WideShapes Go.ChangeAt Go.RowKit Go.Deep

namespace Bulk
theorem pos {H : Type} (d : DataW H) : 1 ≤ Rows.uptoBulk d := by
  cases d with
  | lit l => cases l <;> simp [Rows.uptoBulk]
  | _ => simp [Rows.uptoBulk]

theorem places {H : Type} : ∀ l : List (DataW H), l.length ≤ Rows.uptoBulkAll l
  | [] => by simp [Rows.uptoBulkAll]
  | d :: r => by
    have h1 := pos d
    have h2 := places r
    simp only [Rows.uptoBulkAll, List.length_cons]
    omega

theorem part {H : Type} {d : DataW H} : ∀ {l : List (DataW H)}, d ∈ l → Rows.uptoBulk d ≤ Rows.uptoBulkAll l
  | x :: r, h => by
    simp only [Rows.uptoBulkAll]
    rcases List.mem_cons.1 h with rfl | h
    · omega
    · have := part h
      omega

theorem elems {H : Type} (l r : List (DataW H)) : Rows.uptoBulkAll l ≤ Rows.uptoBulk (.slice l r) := by
  simp only [Rows.uptoBulk]; omega
end Bulk

/-- The texts that came in. -/
def TextsAt (w : World) (a : Option Addr) (T : List (List UInt8)) : Prop := ∀ (i : Nat) (t : List UInt8), T[i]? = some t → t.length ≤ 1048576 ∧ ∃ ad A C, a = some ad ∧ w.cell? (ad.add i) = some (.slice A t.length C) ∧ Bys w (.slice A t.length C) t

theorem TextsAt.below {w w' : World} {a : Option Addr} {T : List (List UInt8)} (h : TextsAt w a T) (hb : Below w.heap.size w w') : TextsAt w' a T := fun i n hi => by
  obtain ⟨h1, ad, A, C, h2, h3, h4⟩ := h i n hi
  exact ⟨h1, ad, A, C, h2, by rw [hb.cell (World.block_lt_of_cell? w _ h3)]; exact h3, h4.below (Nat.le_refl _) hb⟩

/-- append to the row of the first loop, as a walk meets it. -/
theorem grow_row {w wr : World} {B : Nat} {v x : Value} {l l' : List UInt8} (hB : B ≤ wr.heap.size) (h : Row wr B v l) (hx : Bys wr x l') (hlen : l.length + l'.length ≤ 140737488355328) (hw : Below B w wr) :
    ∃ v' w', (Builtin.append_ #[22, 22] 22 #[v, x]).run Tryd.prog wr = .ok v' w' ∧ (Row w' B v' (l ++ l') ∧ Below B w w') := by
  obtain ⟨v', w', h1, h2, h3⟩ := append_bys hB h hx hlen
  exact ⟨v', w', h1, h2, hw.grown h3 hB fun k hk => (World.ownsRow.lt h k hk).1⟩

/-- A slice of texts that came in, where its bulk is bounded. -/
theorem open_texts {H : Type} {enc : TypeId × Value → H} {W : World} {a1 : Option Addr} {len1 cap1 fuel : Nat} {d1 : DataW H} {p1 : List MemPlace} (hb : Rows.uptoBulk d1 ≤ 1048576)
    (hf : DataW.trod enc Tryd.prog W 0 (fun _ => true) true fuel 27 (Value.slice a1 len1 cap1).cells.toList = some (d1, p1)) : ∃ T : List (List UInt8), T.length = len1 ∧ TextsAt W a1 T ∧ len1 ≤ 1048576 ∧ len1 ≤ cap1 := by
  rcases open_int_rows Tryd.underlying27 Tryd.underlying22 Tryd.underlying5 (by kernel_rfl) (by kernel_rfl) hf with ⟨hcs, _⟩ | ⟨x, l, c, A, L, C, Z, hcs, _, hl, hm, hx, hrow⟩
  · simp [Value.cells] at hcs
    obtain ⟨rfl, rfl, rfl⟩ := hcs
    exact ⟨[], rfl, fun i n h => by simp at h, by omega, by omega⟩
  · simp [Value.cells] at hcs
    obtain ⟨rfl, rfl, rfl⟩ := hcs
    have hd : d1 = _ := (Prod.mk.inj hx).1
    have e := Bulk.elems (H := H) ((List.range len1).map fun r => intRow .u8 (A r) (L r) (Z r)) ((List.range (cap1 - len1)).map fun j => intRow .u8 (A (len1 + j)) (L (len1 + j)) (Z (len1 + j)))
    rw [← hd] at e
    have e2 := Bulk.places (H := H) ((List.range len1).map fun r => intRow .u8 (A r) (L r) (Z r))
    simp only [List.length_map, List.length_range] at e2
    have each : ∀ r, r < len1 → ∃ t : List UInt8, t.length = L r ∧ t.length ≤ 1048576 ∧ Bys W (.slice (A r) (L r) (C r)) t := by
      intro r hr
      obtain ⟨hc, hlc, hcm, hzl, hwz, hnone, hcells⟩ := hrow r (by omega)
      have hR : IsRow .u8 W (A r) (L r) (C r) (Z r) := by
        cases hA : A r with
        | none =>
          have h0 := hnone hA
          refine .inl ⟨rfl, by omega, h0, List.eq_nil_of_length_eq_zero (by omega)⟩
        | some ad => exact .inr ⟨ad, rfl, hlc, hcm, hzl, fun i hi => (hcells ad hA).2 i (by omega), hwz⟩
      obtain ⟨t, ht, hb2⟩ := hR.bys
      refine ⟨t, ht, ?_, hb2⟩
      rw [ht]
      cases hA : A r with
      | none => have := hnone hA; omega
      | some ad =>
        have e3 := Bulk.part (H := H) (d := intRow .u8 (A r) (L r) (Z r)) (l := (List.range len1).map fun r => intRow .u8 (A r) (L r) (Z r)) (List.mem_map.2 ⟨r, List.mem_range.2 hr, rfl⟩)
        have e7 : intRow (H := H) .u8 (A r) (L r) (Z r) = .slice (lits .u8 ((Z r).take (L r))) (lits .u8 ((Z r).drop (L r))) := by rw [hA]; rfl
        rw [e7] at e3
        have e4 := Bulk.elems (H := H) (lits .u8 ((Z r).take (L r))) (lits .u8 ((Z r).drop (L r)))
        have e5 := Bulk.places (H := H) (lits .u8 ((Z r).take (L r)))
        simp only [lits, List.length_map, List.length_take] at e5
        simp only [lits] at e4 e3
        omega
    obtain ⟨t, ht⟩ := choose_lt each
    refine ⟨(List.range len1).map t, by simp, fun i u hu => ?_, by omega, by omega⟩
    rw [List.getElem?_map] at hu
    obtain ⟨j, hj, rfl⟩ := Option.map_eq_some_iff.1 hu
    obtain ⟨hj1, hj2⟩ := List.getElem?_eq_some_iff.1 hj
    simp at hj1 hj2
    subst hj2
    obtain ⟨e6, e7, e8⟩ := ht i hj1
    refine ⟨e7, _, A i, C i, rfl, ?_, ?_⟩
    · rw [e6]; exact (hrow i (by omega)).1
    · rw [e6]; exact e8

end Go.Proofs.YthaggdkfaglgaaaDoor
