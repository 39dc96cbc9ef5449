/- What is written is one block that was there, and new ones. -/
import Derived.WalkKit
import Derived.Deep.Draws
namespace Go.Proofs.YtdhfabjkpffhnaaDoor
set_option maxRecDepth 20000
open Go Go.RowKit

/-- Of the blocks that were there none has turned but, it may be, R. -/
structure Only (R : Nat) (w w' : World) : Prop where
  os : w'.os = w.os
  tape : w'.tape = w.tape
  output : w'.output = w.output
  size : w.heap.size ≤ w'.heap.size
  block : ∀ k, k < w.heap.size → k ≠ R → w'.heap[k]? = w.heap[k]?

theorem Only.refl (R : Nat) (w : World) : Only R w w := ⟨rfl, rfl, rfl, Nat.le_refl _, fun _ _ _ => rfl⟩

theorem Only.trans {R : Nat} {a b c : World} (h : Only R a b) (k : Only R b c) : Only R a c :=
  ⟨k.os.trans h.os, k.tape.trans h.tape, k.output.trans h.output, Nat.le_trans h.size k.size, fun i hi hr => (k.block i (Nat.lt_of_lt_of_le hi h.size) hr).trans (h.block i hi hr)⟩

theorem Only.of_below {R : Nat} {w w' : World} (h : Below w.heap.size w w') : Only R w w' := ⟨h.os, h.tape, h.output, h.size, fun k hk _ => h.block k hk⟩

/-- Below whatever lies ahead of R nothing has turned. -/
theorem Only.below {R B : Nat} {w w' : World} (h : Only R w w') (hB : B ≤ R) (hs : B ≤ w.heap.size) : Below B w w' :=
  ⟨h.os, h.tape, h.output, h.size, fun k hk => h.block k (by omega) (by omega)⟩

theorem Only.drew {R : Nat} {a w : World} (h : Only R a w) : Only R a w.drew := ⟨h.os, h.tape, h.output, h.size, h.block⟩

theorem Only.drewN {R : Nat} {a w : World} (h : Only R a w) (n : Nat) : Only R a (w.drewN n) := ⟨h.os, h.tape, h.output, h.size, h.block⟩

theorem Only.alloc {R : Nat} {a w : World} (h : Only R a w) (o : Obj) : Only R a (w.alloc o) :=
  h.trans ⟨rfl, rfl, rfl, by simp, fun k hk _ => Below.heap_alloc _ _ _ hk⟩

theorem Only.setR {R : Nat} {a w : World} (h : Only R a w) (i : Nat) (u : Value) : Only R a (w.setCell ⟨R, i, none⟩ u) :=
  h.trans ⟨rfl, rfl, rfl, by simp [World.setCell], fun k _ hr => Below.heap_setCell _ _ _ _ hr⟩

theorem Only.setNew {R : Nat} {a w : World} (h : Only R a w) {p : Addr} (hp : a.heap.size ≤ p.block) (u : Value) : Only R a (w.setCell p u) :=
  ⟨h.os, h.tape, h.output, by simpa [World.setCell] using h.size, fun k hk hr => by rw [Below.heap_setCell _ _ _ _ (by omega)]; exact h.block k hk hr⟩

theorem Only.cell {R : Nat} {w w' : World} (h : Only R w w') {p : Addr} (hp : p.block < w.heap.size) (hr : p.block ≠ R) : w'.cell? p = w.cell? p := World.cell?_of_block (w := w) (h.block p.block hp hr)

theorem Only.frozen {R : Nat} {w w' : World} (h : Only R w w') {p : Addr} (hp : p.block < w.heap.size) (hr : p.block ≠ R) : w'.frozen? p = w.frozen? p := World.frozen?_of_block (w := w) (h.block p.block hp hr)

/-- A store into cell i of a block that is known whole. -/
theorem heap_set_same {w : World} {R i : Nat} {cs : Array Value} {t : TypeId} {fr : Nat × Nat} (h : w.heap[R]? = some (.cells cs t fr)) (u : Value) : (w.setCell ⟨R, i, none⟩ u).heap[R]? = some (.cells (cs.setIfInBounds i u) t fr) := by
  simp only [World.setCell, Array.getElem?_modify, h, if_true, Option.map_some]
  rfl

theorem heap_set_other {w : World} {R k i : Nat} (h : k ≠ R) (u : Value) : (w.setCell ⟨R, i, none⟩ u).heap[k]? = w.heap[k]? := Below.heap_setCell _ _ _ _ h

theorem cell_of_heap {w : World} {R i : Nat} {cs : Array Value} {t : TypeId} {fr : Nat × Nat} (h : w.heap[R]? = some (.cells cs t fr)) : w.cell? ⟨R, i, none⟩ = cs[i]? := by
  simp [World.cell?, h]

theorem free_of_heap {w : World} {R i : Nat} {cs : Array Value} {t : TypeId} (h : w.heap[R]? = some (.cells cs t (0, 0))) : w.frozen? ⟨R, i, none⟩ = false := by
  simp [World.frozen?, h]

/-- Of the blocks that were there only those of S may have turned. -/
structure OnlyS (S : Nat → Prop) (w w' : World) : Prop where
  os : w'.os = w.os
  tape : w'.tape = w.tape
  output : w'.output = w.output
  size : w.heap.size ≤ w'.heap.size
  block : ∀ k, k < w.heap.size → ¬ S k → w'.heap[k]? = w.heap[k]?

theorem OnlyS.refl (S : Nat → Prop) (w : World) : OnlyS S w w := ⟨rfl, rfl, rfl, Nat.le_refl _, fun _ _ _ => rfl⟩

theorem OnlyS.trans {S : Nat → Prop} {a b c : World} (h : OnlyS S a b) (k : OnlyS S b c) : OnlyS S a c :=
  ⟨k.os.trans h.os, k.tape.trans h.tape, k.output.trans h.output, Nat.le_trans h.size k.size, fun i hi hr => (k.block i (Nat.lt_of_lt_of_le hi h.size) hr).trans (h.block i hi hr)⟩

/-- Where all that S' names and that was there is in S. -/
theorem OnlyS.mono {S S' : Nat → Prop} {a b : World} (h : OnlyS S' a b) (hS : ∀ k, k < a.heap.size → S' k → S k) : OnlyS S a b :=
  ⟨h.os, h.tape, h.output, h.size, fun i hi hr => h.block i hi fun hs => hr (hS i hi hs)⟩

theorem OnlyS.of_only {S : Nat → Prop} {R : Nat} {w w' : World} (h : Only R w w') (hS : S R) : OnlyS S w w' := ⟨h.os, h.tape, h.output, h.size, fun k hk hs => h.block k hk fun e => hs (e ▸ hS)⟩

theorem OnlyS.of_below {S : Nat → Prop} {B : Nat} {w w' : World} (h : Below B w w') (hB : ∀ k, k < w.heap.size → ¬ S k → k < B) : OnlyS S w w' := ⟨h.os, h.tape, h.output, h.size, fun k hk hs => h.block k (hB k hk hs)⟩

theorem OnlyS.only {S : Nat → Prop} {R : Nat} {w w' : World} (h : OnlyS S w w') (hS : ∀ k, k < w.heap.size → S k → k = R) : Only R w w' := ⟨h.os, h.tape, h.output, h.size, fun k hk hs => h.block k hk fun e => hs (hS k hk e)⟩

theorem OnlyS.below {S : Nat → Prop} {B : Nat} {w w' : World} (h : OnlyS S w w') (hS : ∀ k, k < B → ¬ S k) (hs : B ≤ w.heap.size) : Below B w w' :=
  ⟨h.os, h.tape, h.output, h.size, fun k hk => h.block k (by omega) (hS k hk)⟩

theorem OnlyS.alloc {S : Nat → Prop} {a w : World} (h : OnlyS S a w) (o : Obj) : OnlyS S a (w.alloc o) :=
  h.trans ⟨rfl, rfl, rfl, by simp, fun k hk _ => Below.heap_alloc _ _ _ hk⟩

theorem OnlyS.drew {S : Nat → Prop} {a w : World} (h : OnlyS S a w) : OnlyS S a w.drew := ⟨h.os, h.tape, h.output, h.size, h.block⟩

theorem OnlyS.setCell {S : Nat → Prop} {a w : World} (h : OnlyS S a w) {p : Addr} (hp : p.block < a.heap.size → S p.block) (u : Value) : OnlyS S a (w.setCell p u) :=
  ⟨h.os, h.tape, h.output, by simpa [World.setCell] using h.size, fun k hk hr => by
    have hne : k ≠ p.block := by
      rintro rfl
      exact hr (hp hk)
    rw [Below.heap_setCell _ _ _ _ hne]; exact h.block k hk hr⟩

/-- A second step that may write, of what was there at first, only blocks of S. -/
theorem OnlyS.then {S T : Nat → Prop} {a b c : World} (h : OnlyS S a b) (k : OnlyS T b c) (hT : ∀ i, i < a.heap.size → T i → S i) : OnlyS S a c :=
  ⟨k.os.trans h.os, k.tape.trans h.tape, k.output.trans h.output, Nat.le_trans h.size k.size, fun i hi hr => (k.block i (Nat.lt_of_lt_of_le hi h.size) fun ht => hr (hT i hi ht)).trans (h.block i hi hr)⟩

end Go.Proofs.YtdhfabjkpffhnaaDoor
