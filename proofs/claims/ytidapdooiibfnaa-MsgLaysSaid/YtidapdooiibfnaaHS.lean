/- Joined: Frame, Bys, Only, Quit. -/
import Derived.Test.YtidapdooiibfnaaRows
import Derived.WalkKit
import Derived.ProofKit
import Derived.OpenShut
import Derived.ShutString
import Derived.ChangeOld
import Derived.Below
import Derived.Laws.AppendOwnNone
import Derived.WalkSpells
import Derived.WalkLawsBesides
import Derived.Lib.Hide
import Derived.Lib.BufferRead
import Derived.Deep.Draws
import Derived.BigQuiet
import Derived.Deep.QuietTactic
/- What every law's proof begins and ends with: an argument that came in, read again behind a call that wrote nothing that was there. -/
namespace Go.Proofs.Ytidapdooiibfnaa
set_option maxRecDepth 20000
open Go.ChangeShapes Go.WideShapes Go.ChangeAt Go.RowKit

theorem own : ownKnob Try.prog.godebug = none := by kernel_rfl
theorem laidOut : laidOutB Try.prog = true := by kernel_rfl

/-- A slice of integers that came in: it is nil; or it leads to a row of cap cells, the numbers zs, the first len of which are its elements; each fits its kind. -/
def IsRow (k : IntKind) (w : World) (a : Option Addr) (len cap : Nat) (zs : List Int) : Prop :=
  (a = none ∧ len = 0 ∧ cap = 0 ∧ zs = []) ∨
  ∃ x, a = some x ∧ len ≤ cap ∧ cap ≤ maxLen ∧ zs.length = cap ∧ (∀ i, i < zs.length → w.cell? (x.add i) = some (.int k (zs.getD i 0))) ∧ ∀ n ∈ zs, (Lit.int k n).wf = true

theorem IsRow.le {k : IntKind} {w : World} {a : Option Addr} {len cap : Nat} {zs : List Int} (h : IsRow k w a len cap zs) : len ≤ cap := by
  rcases h with ⟨_, rfl, rfl, _⟩ | ⟨_, _, hl, _⟩
  · exact Nat.le_refl _
  · exact hl

end Go.Proofs.Ytidapdooiibfnaa

/- Bytes in the program's memory, and what an append to them gives. -/
namespace Go.Proofs.Ytidapdooiibfnaa
set_option maxRecDepth 20000
open Go.RowKit

/-- A byte as a cell holds it. -/
def bv (c : UInt8) : Value := .int .u8 (c.toNat : Int)

theorem info_byte : (Try.prog.info? 5).map (fun i => (i.zero, i.size, i.bytes)) = some (some (.int .u8 0), 1, 1) := by kernel_rfl

/-- A slice of bytes in memory of the call's own, from block B on: the bytes l. -/
def Row (w : World) (B : Nat) (v : Value) (l : List UInt8) : Prop := w.ownsRow B 5 1 v l.length (l.map bv)

/-- A slice of bytes, wherever it lies: the bytes l. -/
def Bys (w : World) (v : Value) (l : List UInt8) : Prop :=
  (v = .slice none 0 0 ∧ l = []) ∨
  ∃ ad cap, v = .slice (some ad) l.length cap ∧ ∀ i (h : i < l.length), w.cell? (ad.add i) = some (bv l[i])

theorem addr_add (b o j : Nat) : (⟨b, o, none⟩ : Addr).add j = ⟨b, o + j, none⟩ := by
  by_cases h : j = 0 <;> simp [Addr.add, h]

theorem add_block (ad : Addr) (j : Nat) : (ad.add j).block = ad.block := by
  by_cases h : j = 0 <;> simp [Addr.add, h]

theorem Bys.below {w w' : World} {v : Value} {l : List UInt8} (h : Bys w v l) {B : Nat} (hB : w.heap.size ≤ B) (hb : Below B w w') : Bys w' v l := by
  rcases h with h | ⟨ad, cap, hv, hc⟩
  · exact .inl h
  · exact .inr ⟨ad, cap, hv, fun i hi => by
      have h1 := hc i hi
      rw [hb.cell (p := ad.add i) (Nat.lt_of_lt_of_le (World.block_lt_of_cell? w _ h1) hB)]
      exact h1⟩

theorem Row.bys {w : World} {B : Nat} {v : Value} {l : List UInt8} (h : Row w B v l) : Bys w v l := by
  have h0 := h
  rcases h.2 with ⟨rfl, hl⟩ | ⟨g, cap, cur, rfl, hB, hg, hn, hm, hs, ht⟩
  · exact .inl ⟨rfl, List.eq_nil_of_length_eq_zero hl⟩
  · refine .inr ⟨⟨g, 0, none⟩, cap, rfl, fun i hi => ?_⟩
    rw [addr_add, Nat.zero_add, h0.cellAt i (by omega)]
    simp [hi]

/-- 'string(v)'. -/
theorem conv_bys {w : World} {v : Value} {l : List UInt8} (h : Bys w v l) : (convert 25 9 v).run Try.prog w = .ok (.string ⟨l.toArray⟩) w := by
  rcases h with ⟨rfl, rfl⟩ | ⟨ad, cap, rfl, hc⟩
  · exact Lib.run_convert_nil_bytes w _ _ _ 0 Try.underlying25 Try.underlying5 Try.underlying9
  · exact run_convert_bytes_back w _ _ _ ad cap l Try.underlying25 Try.underlying5 Try.underlying9 hc

theorem bytes_of (zs : List Int) (h : ∀ n ∈ zs, (Lit.int .u8 n).wf = true) : ∃ l : List UInt8, zs = l.map fun c => (c.toNat : Int) := by
  induction zs with
  | nil => exact ⟨[], rfl⟩
  | cons z zs ih =>
    obtain ⟨l, hl⟩ := ih fun n hn => h n (List.mem_cons_of_mem _ hn)
    have hz := bounds_u8 (h z (by simp))
    refine ⟨UInt8.ofNat z.toNat :: l, ?_⟩
    simp [← hl]
    omega

/-- What came in. -/
theorem IsRow.bys {w : World} {a : Option Addr} {len cap : Nat} {zs : List Int} (h : IsRow .u8 w a len cap zs) : ∃ l : List UInt8, l.length = len ∧ Bys w (.slice a len cap) l := by
  rcases h with ⟨rfl, rfl, rfl, rfl⟩ | ⟨ad, rfl, hl, hm, hz, hc, hw⟩
  · exact ⟨[], rfl, .inl ⟨rfl, rfl⟩⟩
  · obtain ⟨l, rfl⟩ := bytes_of zs hw
    have hll : l.length = cap := by simpa using hz
    have e : (l.take len).length = len := by rw [List.length_take]; omega
    refine ⟨l.take len, e, .inr ⟨ad, cap, by rw [e], fun i hi => ?_⟩⟩
    have hi' : i < l.length := by rw [e] at hi; omega
    rw [hc i (by simpa using hi')]
    simp [bv, List.getD, hi']

/-- The cells of a text, one behind the other. -/
theorem cells_bys {w : World} {ad : Addr} {l : List UInt8} (hc : ∀ i (h : i < l.length), w.cell? (ad.add i) = some (bv l[i])) : ∀ (j : Nat) (u : Value), (l.map bv)[j]? = some u → w.cell? (ad.add j) = some u := by
  intro j u h
  have hj : j < l.length := by have := (List.getElem?_eq_some_iff.1 h).1; simpa using this
  rw [hc j hj]
  simpa [hj] using h

theorem one_bv (l : List UInt8) : ∀ u ∈ l.map bv, u.oneCell' = true := by
  intro u hu
  obtain ⟨c, _, rfl⟩ := List.mem_map.1 hu
  simp [bv, Value.oneCell']

/-- append(v, x...), v the call's own. -/
theorem append_bys {w : World} {B : Nat} {v x : Value} {l l' : List UInt8} (hB : B ≤ w.heap.size) (h : Row w B v l) (hx : Bys w x l') (hlen : l.length + l'.length ≤ 140737488355328) :
    ∃ v' w', (Builtin.append_ #[25, 25] 25 #[v, x]).run Try.prog w = .ok v' w' ∧ Row w' B v' (l ++ l') ∧ w.grownBy w' v.ownBlock := by
  obtain ⟨i0, hi, hz0, hz1, hz2⟩ := info_parts info_byte
  rcases hx with ⟨rfl, rfl⟩ | ⟨ad, cap, rfl, hc⟩
  · refine ⟨v, w, run_append_owned_none (P := Try.prog) (w := w) B _ _ _ i0 1 Try.underlying25 hi v l.length (l.map bv) h, by simpa using h, ?_⟩
    exact ⟨rfl, rfl, rfl, Nat.le_refl _, fun _ _ _ => rfl⟩
  · obtain ⟨v', w', hr, h1, h2, h3⟩ := run_append_own (P := Try.prog) w B 25 25 5 i0 (.int .u8 0) 1 1 Try.underlying25 hi hz0 hz1 hz2 rfl (by decide) v l.length (l.map bv) h ad l'.length cap (l'.map bv) (by simp) (cells_bys hc) (one_bv l') (by unfold maxLen; omega) (by omega) hB
    refine ⟨v', w', hr, ?_, h2⟩
    unfold Row
    rw [List.length_append, List.map_append]
    exact h1

/-- append([]byte{}, x...): nothing that was there is written. -/
theorem append_lit {w : World} {B g : Nat} {x : Value} {l : List UInt8} (hB : B ≤ g) (hg : w.heap[g]? = some (.cells #[] 5 (0, 0))) (hx : Bys w x l) (hlen : l.length ≤ 140737488355328) :
    ∃ v' w', (Builtin.append_ #[25, 25] 25 #[.slice (some ⟨g, 0, none⟩) 0 0, x]).run Try.prog w = .ok v' w' ∧ Row w' B v' l ∧ Below w.heap.size w w' := by
  obtain ⟨i0, hi, hz0, hz1, hz2⟩ := info_parts info_byte
  have hlt : g < w.heap.size := (Array.getElem?_eq_some_iff.1 hg).1
  have hrow : w.ownsRow B 5 1 (.slice (some ⟨g, 0, none⟩) 0 0) 0 [] := ⟨rfl, .inr ⟨g, 0, #[], rfl, hB, hg, Nat.le_refl _, by unfold maxLen; omega, rfl, rfl⟩⟩
  rcases hx with ⟨rfl, rfl⟩ | ⟨ad, cap, rfl, hc⟩
  · exact ⟨_, w, run_append_owned_none (P := Try.prog) (w := w) B _ _ _ i0 1 Try.underlying25 hi _ 0 [] hrow, hrow, Below.refl _ _⟩
  · by_cases hl : l = []
    · subst hl
      have hr := run_append_room (P := Try.prog) w 25 25 5 i0 Try.underlying25 hi g 0 0 #[] hg ad 0 cap [] (by simp) (by simp) (by simp) (by omega) (by simp)
      refine ⟨_, _, hr, ?_, ⟨rfl, rfl, rfl, by simp, fun k hk => ?_⟩⟩
      · refine ⟨rfl, .inr ⟨g, 0, #[], rfl, hB, ?_, Nat.le_refl _, by unfold maxLen; omega, rfl, rfl⟩⟩
        simpa using setRow_heap w g #[] _ 5 _ hg
      · by_cases hkg : k = g
        · subst hkg
          rw [hg]
          simpa using setRow_heap w k #[] _ 5 _ hg
        · exact setRow_other w g k _ hkg
    · have hpos : 0 < l.length := List.length_pos_iff.2 hl
      have hr := run_append_grow (P := Try.prog) w 25 25 5 i0 (.int .u8 0) Try.underlying25 hi hz0 ⟨g, 0, none⟩ 0 0 [] (by simp) (by simp) ad l.length cap (l.map bv) (by simp [hz1]) (cells_bys hc) (by omega) (by omega) (growslice_fits (by omega) (by rw [hz2]; omega))
      refine ⟨_, _, hr, ?_, (Below.refl _ _).drew.alloc (Nat.le_refl _) _⟩
      have hge := grownCap_ge w (0 + l.length) 0 5
      have hge' := grownCap_ge w l.length 0 5
      have hle := grownCap_le_maxLen w (0 + l.length) 0 5 (by unfold maxLen; omega)
      refine ⟨by simp, .inr ⟨w.heap.size, _, _, by rw [Nat.zero_add], by omega, heap_alloc_new w.drew _, by omega, hle, ?_, ?_⟩⟩
      · simp [size_zeroCells]
        simp [Value.cells]
        omega
      · simp


theorem slice_of_row {w : World} {B : Nat} {v : Value} {t : List UInt8} (h : Row w B v t) : ∃ a cap, v = .slice a t.length cap := by
  rcases h.2 with ⟨hv, h0⟩ | ⟨g, cap, cur, hv, _⟩
  · exact ⟨none, 0, by rw [hv, h0]⟩
  · exact ⟨_, _, hv⟩

theorem bv_of (k : Nat) : bv (UInt8.ofNat k) = .int .u8 ((k % 256 : Nat) : Int) := by simp [bv]

/-- Where one byte of a row is written. -/
theorem row_set {w : World} {B g n c : Nat} {l : List UInt8} (h : Row w B (.slice (some ⟨g, 0, none⟩) n c) l) (j : Nat) (b : UInt8) : Row (w.setCell ⟨g, j, none⟩ (bv b)) B (.slice (some ⟨g, 0, none⟩) n c) (l.set j b) := by
  obtain ⟨a', c', e⟩ := slice_of_row h
  cases e
  have h1 := (World.ownsRow.stored h j (bv b)).1
  unfold Row
  rw [List.length_set, List.map_set]
  simpa using h1

theorem row_cell {w : World} {B g n c : Nat} {l : List UInt8} (h : Row w B (.slice (some ⟨g, 0, none⟩) n c) l) (i : Nat) (hi : i < l.length) : (∃ z, w.cell? ⟨g, i, none⟩ = some (.int .u8 z)) ∧ w.frozen? ⟨g, i, none⟩ = false := by
  obtain ⟨a', c', e⟩ := slice_of_row h
  cases e
  have h1 := World.ownsRow.cellAt h i (by omega)
  refine ⟨⟨(l[i].toNat : Int), ?_⟩, World.ownsRow.frozenAt h i⟩
  rw [h1]
  simp [hi, bv]

theorem u8_wrap (z : Int) : ∃ b : UInt8, (Value.int .u8 (IntKind.u8.wrap z)) = bv b := by
  refine ⟨UInt8.ofNat (z % 256).toNat, ?_⟩
  have e := IntKind.wrap_u8 z
  rw [e, bv_of]
  congr 1
  omega

end Go.Proofs.Ytidapdooiibfnaa

/- What is written is one block that was there, and new ones. -/
namespace Go.Proofs.Ytidapdooiibfnaa
set_option maxRecDepth 20000
open Go Go.RowKit

/-- Of the blocks that were there none has turned but, it may be, R. -/
structure Only (R : Nat) (w w' : World) : Prop where
  os : w'.os = w.os
  tape : w'.tape = w.tape
  output : w'.output = w.output
  size : w.heap.size ≤ w'.heap.size
  block : ∀ k, k < w.heap.size → k ≠ R → w'.heap[k]? = w.heap[k]?

theorem Only.refl (R : Nat) (w : World) : Only R w w := ⟨rfl, rfl, rfl, Nat.le_refl _, fun _ _ _ => rfl⟩

theorem Only.trans {R : Nat} {a b c : World} (h : Only R a b) (k : Only R b c) : Only R a c :=
  ⟨k.os.trans h.os, k.tape.trans h.tape, k.output.trans h.output, Nat.le_trans h.size k.size, fun i hi hr => (k.block i (Nat.lt_of_lt_of_le hi h.size) hr).trans (h.block i hi hr)⟩

theorem Only.of_below {R : Nat} {w w' : World} (h : Below w.heap.size w w') : Only R w w' := ⟨h.os, h.tape, h.output, h.size, fun k hk _ => h.block k hk⟩

/-- Below whatever lies ahead of R nothing has turned. -/
theorem Only.below {R B : Nat} {w w' : World} (h : Only R w w') (hB : B ≤ R) (hs : B ≤ w.heap.size) : Below B w w' :=
  ⟨h.os, h.tape, h.output, h.size, fun k hk => h.block k (by omega) (by omega)⟩

theorem Only.drew {R : Nat} {a w : World} (h : Only R a w) : Only R a w.drew := ⟨h.os, h.tape, h.output, h.size, h.block⟩

theorem Only.drewN {R : Nat} {a w : World} (h : Only R a w) (n : Nat) : Only R a (w.drewN n) := ⟨h.os, h.tape, h.output, h.size, h.block⟩

theorem Only.alloc {R : Nat} {a w : World} (h : Only R a w) (o : Obj) : Only R a (w.alloc o) :=
  h.trans ⟨rfl, rfl, rfl, by simp, fun k hk _ => Below.heap_alloc _ _ _ hk⟩

theorem Only.setR {R : Nat} {a w : World} (h : Only R a w) (i : Nat) (u : Value) : Only R a (w.setCell ⟨R, i, none⟩ u) :=
  h.trans ⟨rfl, rfl, rfl, by simp [World.setCell], fun k _ hr => Below.heap_setCell _ _ _ _ hr⟩

theorem Only.setNew {R : Nat} {a w : World} (h : Only R a w) {p : Addr} (hp : a.heap.size ≤ p.block) (u : Value) : Only R a (w.setCell p u) :=
  ⟨h.os, h.tape, h.output, by simpa [World.setCell] using h.size, fun k hk hr => by rw [Below.heap_setCell _ _ _ _ (by omega)]; exact h.block k hk hr⟩

theorem Only.cell {R : Nat} {w w' : World} (h : Only R w w') {p : Addr} (hp : p.block < w.heap.size) (hr : p.block ≠ R) : w'.cell? p = w.cell? p := World.cell?_of_block (w := w) (h.block p.block hp hr)

theorem Only.frozen {R : Nat} {w w' : World} (h : Only R w w') {p : Addr} (hp : p.block < w.heap.size) (hr : p.block ≠ R) : w'.frozen? p = w.frozen? p := World.frozen?_of_block (w := w) (h.block p.block hp hr)

/-- A store into cell i of a block that is known whole. -/
theorem heap_set_same {w : World} {R i : Nat} {cs : Array Value} {t : TypeId} {fr : Nat × Nat} (h : w.heap[R]? = some (.cells cs t fr)) (u : Value) : (w.setCell ⟨R, i, none⟩ u).heap[R]? = some (.cells (cs.setIfInBounds i u) t fr) := by
  simp only [World.setCell, Array.getElem?_modify, h, if_true, Option.map_some]
  rfl

theorem heap_set_other {w : World} {R k i : Nat} (h : k ≠ R) (u : Value) : (w.setCell ⟨R, i, none⟩ u).heap[k]? = w.heap[k]? := Below.heap_setCell _ _ _ _ h

theorem cell_of_heap {w : World} {R i : Nat} {cs : Array Value} {t : TypeId} {fr : Nat × Nat} (h : w.heap[R]? = some (.cells cs t fr)) : w.cell? ⟨R, i, none⟩ = cs[i]? := by
  simp [World.cell?, h]

theorem free_of_heap {w : World} {R i : Nat} {cs : Array Value} {t : TypeId} (h : w.heap[R]? = some (.cells cs t (0, 0))) : w.frozen? ⟨R, i, none⟩ = false := by
  simp [World.frozen?, h]

/-- Of the blocks that were there only those of S may have turned. -/
structure OnlyS (S : Nat → Prop) (w w' : World) : Prop where
  os : w'.os = w.os
  tape : w'.tape = w.tape
  output : w'.output = w.output
  size : w.heap.size ≤ w'.heap.size
  block : ∀ k, k < w.heap.size → ¬ S k → w'.heap[k]? = w.heap[k]?

theorem OnlyS.refl (S : Nat → Prop) (w : World) : OnlyS S w w := ⟨rfl, rfl, rfl, Nat.le_refl _, fun _ _ _ => rfl⟩

theorem OnlyS.trans {S : Nat → Prop} {a b c : World} (h : OnlyS S a b) (k : OnlyS S b c) : OnlyS S a c :=
  ⟨k.os.trans h.os, k.tape.trans h.tape, k.output.trans h.output, Nat.le_trans h.size k.size, fun i hi hr => (k.block i (Nat.lt_of_lt_of_le hi h.size) hr).trans (h.block i hi hr)⟩

/-- Where all that S' names and that was there is in S. -/
theorem OnlyS.mono {S S' : Nat → Prop} {a b : World} (h : OnlyS S' a b) (hS : ∀ k, k < a.heap.size → S' k → S k) : OnlyS S a b :=
  ⟨h.os, h.tape, h.output, h.size, fun i hi hr => h.block i hi fun hs => hr (hS i hi hs)⟩

theorem OnlyS.of_only {S : Nat → Prop} {R : Nat} {w w' : World} (h : Only R w w') (hS : S R) : OnlyS S w w' := ⟨h.os, h.tape, h.output, h.size, fun k hk hs => h.block k hk fun e => hs (e ▸ hS)⟩

theorem OnlyS.of_below {S : Nat → Prop} {B : Nat} {w w' : World} (h : Below B w w') (hB : ∀ k, k < w.heap.size → ¬ S k → k < B) : OnlyS S w w' := ⟨h.os, h.tape, h.output, h.size, fun k hk hs => h.block k (hB k hk hs)⟩

theorem OnlyS.only {S : Nat → Prop} {R : Nat} {w w' : World} (h : OnlyS S w w') (hS : ∀ k, k < w.heap.size → S k → k = R) : Only R w w' := ⟨h.os, h.tape, h.output, h.size, fun k hk hs => h.block k hk fun e => hs (hS k hk e)⟩

theorem OnlyS.below {S : Nat → Prop} {B : Nat} {w w' : World} (h : OnlyS S w w') (hS : ∀ k, k < B → ¬ S k) (hs : B ≤ w.heap.size) : Below B w w' :=
  ⟨h.os, h.tape, h.output, h.size, fun k hk => h.block k (by omega) (hS k hk)⟩

theorem OnlyS.alloc {S : Nat → Prop} {a w : World} (h : OnlyS S a w) (o : Obj) : OnlyS S a (w.alloc o) :=
  h.trans ⟨rfl, rfl, rfl, by simp, fun k hk _ => Below.heap_alloc _ _ _ hk⟩

theorem OnlyS.drew {S : Nat → Prop} {a w : World} (h : OnlyS S a w) : OnlyS S a w.drew := ⟨h.os, h.tape, h.output, h.size, h.block⟩

theorem OnlyS.setCell {S : Nat → Prop} {a w : World} (h : OnlyS S a w) {p : Addr} (hp : p.block < a.heap.size → S p.block) (u : Value) : OnlyS S a (w.setCell p u) :=
  ⟨h.os, h.tape, h.output, by simpa [World.setCell] using h.size, fun k hk hr => by
    have hne : k ≠ p.block := by
      rintro rfl
      exact hr (hp hk)
    rw [Below.heap_setCell _ _ _ _ hne]; exact h.block k hk hr⟩

/-- A second step that may write, of what was there at first, only blocks of S. -/
theorem OnlyS.then {S T : Nat → Prop} {a b c : World} (h : OnlyS S a b) (k : OnlyS T b c) (hT : ∀ i, i < a.heap.size → T i → S i) : OnlyS S a c :=
  ⟨k.os.trans h.os, k.tape.trans h.tape, k.output.trans h.output, Nat.le_trans h.size k.size, fun i hi hr => (k.block i (Nat.lt_of_lt_of_le hi h.size) fun ht => hr (hT i hi ht)).trans (h.block i hi hr)⟩

end Go.Proofs.Ytidapdooiibfnaa

/- Package quit: work that gives up, and is caught. -/
namespace Go.Proofs.Ytidapdooiibfnaa
set_option maxRecDepth 20000
open Go.RowKit

/-- What work that gives up panics with. -/
def gaveUp (c : Int) : List PanicEntry := [{ v := .iface 80 (.agg #[.int .i64 c]), recovered := false }]

/-- It ends, or gives up. -/
def Gives (c : Int) (e : Ending) : Prop := (c = 0 → e = .returned (.tuple #[])) ∧ (c ≠ 0 → e = .panicked (gaveUp c))

theorem quit_ok (w : World) : Calls Try.prog 32 #[.int .i64 0] w fun e w' => e = .returned (.tuple #[]) ∧ w' = w := by
  go_enter Try.func32, Try.ntmps32
  go_wp2
  exact ⟨rfl, .tuple #[], by simp [results, Try.results32, go_sem], rfl, rfl⟩

theorem quit_bad (c : Int) (hc : c ≠ 0) (w : World) : Calls Try.prog 32 #[.int .i64 c] w fun e w' => e = .panicked (gaveUp c) ∧ w' = w := by
  have q : (c == 0) = false := by simpa using hc
  have q' : (c != 0) = true := by simpa using hc
  clear hc
  go_enter Try.func32, Try.ntmps32
  go_wp2
  exact ⟨rfl, rfl, rfl⟩

theorem frame_quit (p x : Value) : #[p] ++ ((Array.replicate 16 undef).setIfInBounds 3 x).setIfInBounds 0 x = #[p, x, undef, undef, x, undef, undef, undef, undef, undef, undef, undef, undef, undef, undef, undef, undef] := by
  apply Array.ext'
  simp only [Array.toList_append, Array.toList_setIfInBounds, Array.toList_replicate]
  rfl

set_option maxHeartbeats 400000 in
/-- The deferred closure, nothing to recover. -/
theorem quit_idle (p : Value) (w : World) :
    CallsD Try.prog 45 #[p] .returning w fun e u' w' => e = .returned (.tuple #[]) ∧ u' = .returning ∧ w' = w := by
  refine callsD_of_wpS Try.func45 rfl fun c₀ cs hu => ?_
  apply wpS_seq
  apply wpS_region
  simp [wpOpsS, go_sem, recoverD, hu, Try.ntmps45, Exit.thenS]
  rw [frame_quit]
  refine wpS_of_wp ?_
  go_wp2
  cases c₀
  simp_all [bodyPostS, results, Try.results45]

theorem is_refused (v : Value) (w : World) : (Instr.typeAssert (.iface 80 v) 20 80 true).run Try.prog w = .ok (.tuple #[v, .bool true]) w := by kernel_rfl

/-- What the closure leaves: the variable E holds c. -/
def QCaught (E : Nat) (c : Int) (w w' : World) : Prop := w'.heap[E]? = some (.cells #[.int .i64 c] 30 (0, 0)) ∧ OnlyS (fun b => b = E) w w'

theorem quit_close {E : Nat} {c x : Int} {w : World} (hE : w.heap[E]? = some (.cells #[.int .i64 x] 30 (0, 0))) (o : Obj) : QCaught E c w ((w.setCell ⟨E, 0, none⟩ (.int .i64 c)).alloc o) := by
  have sE : E < w.heap.size := (Array.getElem?_eq_some_iff.1 hE).1
  refine ⟨?_, ?_⟩
  · rw [Below.heap_alloc _ _ _ (by simpa [World.setCell] using sE), heap_set_same hE]
    rfl
  · exact (((OnlyS.refl (fun b => b = E) w).setCell (p := ⟨E, 0, none⟩) (fun _ => rfl) _).alloc o : OnlyS (fun b => b = E) w _)

set_option maxHeartbeats 1000000 in
theorem quit_one (E : Nat) (c x : Int) (w : World) (hE : w.heap[E]? = some (.cells #[.int .i64 x] 30 (0, 0))) :
    CallsD Try.prog 45 #[.pointer (some ⟨E, 0, none⟩)] (.panicking (gaveUp c)) w fun e u' w' =>
      e = .returned (.tuple #[]) ∧ u' = .panicking [{ v := .iface 80 (.agg #[.int .i64 c]), recovered := true }] ∧ QCaught E c w w' := by
  have cE : w.cell? ⟨E, 0, none⟩ = some (.int .i64 x) := by rw [cell_of_heap hE]; rfl
  have fE : w.frozen? ⟨E, 0, none⟩ = false := free_of_heap hE
  have hta := is_refused
  have sE : E < w.heap.size := (Array.getElem?_eq_some_iff.1 hE).1
  have HE := Lib.hid hE
  have m6 : ¬ w.heap.size = E := by omega
  clear hE
  refine callsD_of_wpS Try.func45 rfl fun c₀ cs' hu => ?_
  apply wpS_seq
  apply wpS_region
  simp [wpOpsS, go_sem, recoverD, hu, gaveUp, Try.ntmps45, Exit.thenS]
  rw [frame_quit]
  refine wpS_of_wp ?_
  go_wp2
  simp [bodyPostS, results, Try.results45]
  exact quit_close HE.out _

theorem enters (F : FuncId) (hfn : ((Try.prog.funcs[F]?).map fun fn => (fn.name == "runtime.NumGoroutine", fn.body.isNone)) = some (false, false)) (args : Array Value) (w : World) : (callFunc F args).run Try.prog w = .ok (.enter F args) w := by
  obtain ⟨fn, hf, hp⟩ := Option.map_eq_some_iff.1 hfn
  simp only [Prod.mk.injEq] at hp
  have h1 : fn.name ≠ "runtime.NumGoroutine" := by simpa using hp.1
  have h2 : fn.body ≠ none := by intro hh; have := hp.2; rw [hh] at this; cases this
  simp [callFunc, hf, h1, h2]

/-- What the work does, as Caught asks it: it ends, or gives up with c. -/
def Worked (w : World) (Q : Int → World → Prop) (w1 : World) (e : Ending) (w2 : World) : Prop :=
  ∃ c, Gives c e ∧ Q c w2 ∧ w1.heap.size ≤ w2.heap.size ∧ w2.heap[w.heap.size]? = w1.heap[w.heap.size]?

/-- How Caught ends; w2: the world behind the work. -/
def Tried (w : World) (Q : Int → World → Prop) (e : Ending) (w' : World) : Prop :=
  ∃ c w2, Q c w2 ∧ e = .returned (.int .i64 c) ∧ w.heap.size + 1 ≤ w2.heap.size ∧ OnlyS (fun b => b = w.heap.size) w2 w'

set_option maxHeartbeats 1000000 in
theorem caught_any (F : FuncId) (fs cs : Array Value) (hF : ∀ (args : Array Value) (w : World), (callFunc F args).run Try.prog w = .ok (.enter F args) w)
    (w : World) (Q : Int → World → Prop)
    (hwork : ∀ w1, Below w.heap.size w w1 → w1.heap.size = w.heap.size + 1 → Calls Try.prog F (fs ++ cs) w1 (Worked w Q w1)) :
    Calls Try.prog 18 #[.func (.func F) fs cs] w (Tried w Q) := by
  have hmf : ∀ (fn : Fn) (first cap : Array Value) (w : World), (Instr.makeFunc fn first cap).run Try.prog w = .ok (.func fn first cap) w := fun _ _ _ _ => rfl
  have HWork := Lib.hid hwork
  clear hwork
  go_enter_defers Try.func18, Try.ntmps18
  go_wp2_with fail
  obtain ⟨w1, hw1⟩ : ∃ w1, w1 = w.alloc (.cells #[.int .i64 0] 30) := ⟨_, rfl⟩
  rw [← hw1]
  have hb1 : Below w.heap.size w w1 := by rw [hw1]; exact (Below.refl _ w).alloc (Nat.le_refl _) _
  have hs1 : w1.heap.size = w.heap.size + 1 := by rw [hw1]; simp
  have e0 : w1.heap[w.heap.size]? = some (.cells #[.int .i64 0] 30 (0, 0)) := by rw [hw1]; exact heap_alloc_new w _
  clear hw1
  refine (HWork.out w1 hb1 hs1).mono ?_
  rintro e w2 ⟨c, hm, hq, hs2, hfar⟩
  have e2 := hfar.trans e0
  have HQ := Lib.hid hq
  have hsz : w.heap.size + 1 ≤ w2.heap.size := by omega
  have HSz := Lib.hid hsz
  have HE := Lib.hid e2
  clear e0 hfar hb1 hs1 hs2 hq hsz HWork
  by_cases hc : c = 0
  · obtain rfl := hm.1 hc
    subst hc
    have ce : w2.cell? ⟨w.heap.size, 0, none⟩ = some (.int .i64 0) := by rw [cell_of_heap e2]; rfl
    have fe : w2.frozen? ⟨w.heap.size, 0, none⟩ = false := free_of_heap e2
    clear e2 hm
    go_wp2
    refine leaves_cons (f := 45) (args := #[.pointer (some ⟨w.heap.size, 0, none⟩)]) (by simp) (by simp [go_sem]) ?_
    refine (quit_idle _ _).mono ?_
    rintro e u' w3 ⟨rfl, rfl, rfl⟩
    have cE : (w2.setCell ⟨w.heap.size, 0, none⟩ (.int .i64 0)).cell? ⟨w.heap.size, 0, none⟩ = some (.int .i64 0) := by rw [cell_of_heap (heap_set_same HE.out _)]; rfl
    have fin : Tried w Q (.returned (.int .i64 0)) (w2.setCell ⟨w.heap.size, 0, none⟩ (.int .i64 0)) :=
      ⟨0, w2, HQ.out, rfl, HSz.out, (OnlyS.refl (fun b => b = w.heap.size) w2).setCell (p := ⟨w.heap.size, 0, none⟩) (fun _ => rfl) _⟩
    clear ce fe
    simp [Leaves, settle, results, Try.results18, go_sem, cE, fin]
  · obtain rfl := hm.2 hc
    have HC := Lib.hid hc
    clear e2 hm
    refine leaves_cons (f := 45) (args := #[.pointer (some ⟨w.heap.size, 0, none⟩)]) (by simp) (by simp [go_sem]) ?_
    refine (quit_one w.heap.size c 0 w2 HE.out).mono ?_
    rintro e u' w3 ⟨rfl, rfl, h1, h2⟩
    have cE : w3.cell? ⟨w.heap.size, 0, none⟩ = some (.int .i64 c) := by rw [cell_of_heap h1]; rfl
    have fin : Tried w Q (.returned (.int .i64 c)) w3 := ⟨c, w2, HQ.out, rfl, HSz.out, h2⟩
    simp [Leaves, settle, results, Try.results18, go_sem, cE, fin]
end Go.Proofs.Ytidapdooiibfnaa

