/- Slices of texts that came in; what is known of the bulk of what came in. -/
import Derived.Test.YtejmmjlmnfnacaaFacts
import Derived.Deep.Matrix
import Derived.OpenShut
namespace Go.Proofs.Ytejmmjlmnfnacaa
open Go.ChangeShapes Go.WideShapes Go.ChangeAt Go.RowKit Go.Deep

namespace Bulk
theorem pos {H : Type} (d : DataW H) : 1 ≤ Rows.uptoBulk d := by
  cases d with
  | lit l => cases l <;> simp [Rows.uptoBulk]
  | _ => simp [Rows.uptoBulk]

theorem places {H : Type} : ∀ l : List (DataW H), l.length ≤ Rows.uptoBulkAll l
  | [] => by simp [Rows.uptoBulkAll]
  | d :: r => by
    have h1 := pos d
    have h2 := places r
    simp only [Rows.uptoBulkAll, List.length_cons]
    omega

theorem part {H : Type} {d : DataW H} : ∀ {l : List (DataW H)}, d ∈ l → Rows.uptoBulk d ≤ Rows.uptoBulkAll l
  | x :: r, h => by
    simp only [Rows.uptoBulkAll]
    rcases List.mem_cons.1 h with rfl | h
    · omega
    · have := part h
      omega

theorem elems {H : Type} (l r : List (DataW H)) : Rows.uptoBulkAll l ≤ Rows.uptoBulk (.slice l r) := by
  simp only [Rows.uptoBulk]; omega
end Bulk

/-- The texts that came in. -/
def TextsAt (w : World) (a : Option Addr) (T : List (List UInt8)) : Prop := ∀ (i : Nat) (t : List UInt8), T[i]? = some t → t.length ≤ 1048576 ∧ ∃ ad A C, a = some ad ∧ w.cell? (ad.add i) = some (.slice A t.length C) ∧ Bys w (.slice A t.length C) t

theorem TextsAt.below {w w' : World} {a : Option Addr} {T : List (List UInt8)} (h : TextsAt w a T) (hb : Below w.heap.size w w') : TextsAt w' a T := fun i n hi => by
  obtain ⟨h1, ad, A, C, h2, h3, h4⟩ := h i n hi
  exact ⟨h1, ad, A, C, h2, by rw [hb.cell (World.block_lt_of_cell? w _ h3)]; exact h3, h4.below (Nat.le_refl _) hb⟩

/-- append to the row of the first loop, as a walk meets it. -/
theorem grow_row {w wr : World} {B : Nat} {v x : Value} {l l' : List UInt8} (hB : B ≤ wr.heap.size) (h : Row wr B v l) (hx : Bys wr x l') (hlen : l.length + l'.length ≤ 140737488355328) (hw : Below B w wr) :
    ∃ v' w', (Builtin.append_ #[50, 50] 50 #[v, x]).run Try.prog wr = .ok v' w' ∧ (Row w' B v' (l ++ l') ∧ Below B w w') := by
  obtain ⟨v', w', h1, h2, h3⟩ := append_bys hB h hx hlen
  exact ⟨v', w', h1, h2, hw.grown h3 hB fun k hk => (World.ownsRow.lt h k hk).1⟩

end Go.Proofs.Ytejmmjlmnfnacaa
