/- Joined: Bys, Blk, Only, NetMap. -/
import Derived.Test.YtgbhfolbkgibfaaRows
import Derived.Test.YtgbhfolbkgibfaaKAB
import Derived.Laws.AppendOwnNone
import Derived.WalkKit
import Derived.WalkSpells
import Derived.WalkLawsBesides
import Derived.Lib.Hide
import Derived.Lib.BufferRead
import Derived.Laws.Rows
import Derived.StillTailTactics
import Derived.BigQuiet
import Derived.Deep.QuietTactic
import Derived.Deep.Draws
import Derived.Maps.OwnSet
import Derived.DeepKeys4
/- Bytes in the program's memory, and what an append to them gives. -/
namespace Go.Proofs.Ytgbhfolbkgibfaa
set_option maxRecDepth 20000
open Go.RowKit

/-- A byte as a cell holds it. -/
def bv (c : UInt8) : Value := .int .u8 (c.toNat : Int)

theorem info_byte : (Try.prog.info? 5).map (fun i => (i.zero, i.size, i.bytes)) = some (some (.int .u8 0), 1, 1) := by kernel_rfl

/-- A slice of bytes in memory of the call's own, from block B on: the bytes l. -/
def Row (w : World) (B : Nat) (v : Value) (l : List UInt8) : Prop := w.ownsRow B 5 1 v l.length (l.map bv)

/-- A slice of bytes, wherever it lies: the bytes l. -/
def Bys (w : World) (v : Value) (l : List UInt8) : Prop :=
  (v = .slice none 0 0 ∧ l = []) ∨
  ∃ ad cap, v = .slice (some ad) l.length cap ∧ ∀ i (h : i < l.length), w.cell? (ad.add i) = some (bv l[i])

theorem addr_add (b o j : Nat) : (⟨b, o, none⟩ : Addr).add j = ⟨b, o + j, none⟩ := by
  by_cases h : j = 0 <;> simp [Addr.add, h]

theorem Bys.below {w w' : World} {v : Value} {l : List UInt8} (h : Bys w v l) {B : Nat} (hB : w.heap.size ≤ B) (hb : Below B w w') : Bys w' v l := by
  rcases h with h | ⟨ad, cap, hv, hc⟩
  · exact .inl h
  · exact .inr ⟨ad, cap, hv, fun i hi => by
      have h1 := hc i hi
      rw [hb.cell (p := ad.add i) (Nat.lt_of_lt_of_le (World.block_lt_of_cell? w _ h1) hB)]
      exact h1⟩

theorem Row.bys {w : World} {B : Nat} {v : Value} {l : List UInt8} (h : Row w B v l) : Bys w v l := by
  have h0 := h
  rcases h.2 with ⟨rfl, hl⟩ | ⟨g, cap, cur, rfl, hB, hg, hn, hm, hs, ht⟩
  · exact .inl ⟨rfl, List.eq_nil_of_length_eq_zero hl⟩
  · refine .inr ⟨⟨g, 0, none⟩, cap, rfl, fun i hi => ?_⟩
    rw [addr_add, Nat.zero_add, h0.cellAt i (by omega)]
    simp [hi]

/-- 'string(v)'. -/
theorem conv_bys {w : World} {v : Value} {l : List UInt8} (h : Bys w v l) : (convert 34 9 v).run Try.prog w = .ok (.string ⟨l.toArray⟩) w := by
  rcases h with ⟨rfl, rfl⟩ | ⟨ad, cap, rfl, hc⟩
  · exact Lib.run_convert_nil_bytes w _ _ _ 0 Try.underlying34 Try.underlying5 Try.underlying9
  · exact run_convert_bytes_back w _ _ _ ad cap l Try.underlying34 Try.underlying5 Try.underlying9 hc

theorem bytes_of (zs : List Int) (h : ∀ n ∈ zs, (Lit.int .u8 n).wf = true) : ∃ l : List UInt8, zs = l.map fun c => (c.toNat : Int) := by
  induction zs with
  | nil => exact ⟨[], rfl⟩
  | cons z zs ih =>
    obtain ⟨l, hl⟩ := ih fun n hn => h n (List.mem_cons_of_mem _ hn)
    have hz := bounds_u8 (h z (by simp))
    refine ⟨UInt8.ofNat z.toNat :: l, ?_⟩
    simp [← hl]
    omega

/-- What came in. -/
theorem IsRow.bys {w : World} {a : Option Addr} {len cap : Nat} {zs : List Int} (h : IsRow .u8 w a len cap zs) : ∃ l : List UInt8, l.length = len ∧ Bys w (.slice a len cap) l := by
  rcases h with ⟨rfl, rfl, rfl, rfl⟩ | ⟨ad, rfl, hl, hm, hz, hc, hw⟩
  · exact ⟨[], rfl, .inl ⟨rfl, rfl⟩⟩
  · obtain ⟨l, rfl⟩ := bytes_of zs hw
    have hll : l.length = cap := by simpa using hz
    have e : (l.take len).length = len := by rw [List.length_take]; omega
    refine ⟨l.take len, e, .inr ⟨ad, cap, by rw [e], fun i hi => ?_⟩⟩
    have hi' : i < l.length := by rw [e] at hi; omega
    rw [hc i (by simpa using hi')]
    simp [bv, List.getD, hi']

/-- The cells of a text, one behind the other. -/
theorem cells_bys {w : World} {ad : Addr} {l : List UInt8} (hc : ∀ i (h : i < l.length), w.cell? (ad.add i) = some (bv l[i])) : ∀ (j : Nat) (u : Value), (l.map bv)[j]? = some u → w.cell? (ad.add j) = some u := by
  intro j u h
  have hj : j < l.length := by have := (List.getElem?_eq_some_iff.1 h).1; simpa using this
  rw [hc j hj]
  simpa [hj] using h

theorem one_bv (l : List UInt8) : ∀ u ∈ l.map bv, u.oneCell' = true := by
  intro u hu
  obtain ⟨c, _, rfl⟩ := List.mem_map.1 hu
  simp [bv, Value.oneCell']

/-- append(v, x...), v the call's own. -/
theorem append_bys {w : World} {B : Nat} {v x : Value} {l l' : List UInt8} (hB : B ≤ w.heap.size) (h : Row w B v l) (hx : Bys w x l') (hlen : l.length + l'.length ≤ 140737488355328) :
    ∃ v' w', (Builtin.append_ #[34, 34] 34 #[v, x]).run Try.prog w = .ok v' w' ∧ Row w' B v' (l ++ l') ∧ w.grownBy w' v.ownBlock := by
  obtain ⟨i0, hi, hz0, hz1, hz2⟩ := info_parts info_byte
  rcases hx with ⟨rfl, rfl⟩ | ⟨ad, cap, rfl, hc⟩
  · refine ⟨v, w, run_append_owned_none (P := Try.prog) (w := w) B _ _ _ i0 1 Try.underlying34 hi v l.length (l.map bv) h, by simpa using h, ?_⟩
    exact ⟨rfl, rfl, rfl, Nat.le_refl _, fun _ _ _ => rfl⟩
  · obtain ⟨v', w', hr, h1, h2, h3⟩ := run_append_own (P := Try.prog) w B 34 34 5 i0 (.int .u8 0) 1 1 Try.underlying34 hi hz0 hz1 hz2 rfl (by decide) v l.length (l.map bv) h ad l'.length cap (l'.map bv) (by simp) (cells_bys hc) (one_bv l') (by unfold maxLen; omega) (by omega) hB
    refine ⟨v', w', hr, ?_, h2⟩
    unfold Row
    rw [List.length_append, List.map_append]
    exact h1

theorem slice_of_row {w : World} {B : Nat} {v : Value} {t : List UInt8} (h : Row w B v t) : ∃ a cap, v = .slice a t.length cap := by
  rcases h.2 with ⟨hv, h0⟩ | ⟨g, cap, cur, hv, _⟩
  · exact ⟨none, 0, by rw [hv, h0]⟩
  · exact ⟨_, _, hv⟩

theorem bv_of (k : Nat) : bv (UInt8.ofNat k) = .int .u8 ((k % 256 : Nat) : Int) := by simp [bv]

end Go.Proofs.Ytgbhfolbkgibfaa

/- Blocks of a call's own: how a walk reads, writes and loads them whole; a walk's world told by what holds of it. -/
namespace Go.Proofs.Ytgbhfolbkgibfaa
set_option maxRecDepth 20000
open Go.RowKit

theorem still_of_quiet {P : Program} {W : World} {o : Oper} {a : Act} {K : Act → Prop} (h : o.quiet P a (fun w' => w' = W) K) : o.still P a W K := by
  obtain ⟨v, h1, h2⟩ := h
  have h3 := h1 W rfl
  unfold Oper.quietAt at h3
  unfold Oper.still
  generalize (execOp a.eval o).run P W = r at *
  cases r with
  | ok n w' =>
    cases n <;> simp only [Oper.quietUpon] at h3 <;> simp only [Oper.stillUpon]
    case value u => obtain ⟨h4, rfl⟩ := h3; exact ⟨h4, h2⟩
    case skip => obtain ⟨h4, rfl⟩ := h3; exact ⟨h4, h2⟩
    case enter f args => exact ⟨h3.1, v, by rw [← h3.1] at *; exact h3.2, h2⟩
  | halt x w' => simp only [Oper.quietUpon] at h3

theorem wpStill_of_quiet {P : Program} {W : World} {ops : Array Oper} {Q : Act → Prop} : ∀ (l : List Oper) (a : Act), wpQuiet P ops (fun w' => w' = W) Q l a → wpStill P ops W Q l a
  | [], _, h => h
  | o :: r, a, h => by
    unfold wpQuiet at h
    refine wpStill_step fun K hK => ?_
    split
    · rename_i hw
      rw [if_pos hw] at h
      exact still_of_quiet (Oper.quiet_mono (fun a' h' => hK a' (wpStill_of_quiet r a' h')) h)
    · rename_i hw
      rw [if_neg hw] at h
      exact hK _ (wpStill_of_quiet r _ h)

/-- A region that draws its order, whose last operations are in one order; all ahead of them only read. -/
theorem region_tail {P : Program} {id : Nat} {Q : Exit → Act → World → Prop} {a : Act} {w : World} {l : List Oper} (n : Nat) (hm : P.follows .mixedOrders = true) (hB : Region.lexTailB .any l.toArray n = true) (φ : World → Prop) (hφ : φ w.drew)
    (h : ∀ W, φ W → wpQuiet P l.toArray (fun w' => w' = W) (fun a' => wpList P l.toArray Q (l.drop n) a' W) (l.take n) a) : (Code.region id l.toArray true).wp P Q a w :=
  wp_region_still_tail n hm hB (wpStill_of_quiet _ _ (h _ hφ))

/-- A block of the call's own: its cells. -/
def Blk (W : World) (g : Nat) (t : TypeId) (cs : Array Value) : Prop := W.heap[g]? = some (.cells cs t (0, 0))

theorem Blk.below {W W' : World} {g : Nat} {t : TypeId} {cs : Array Value} (h : Blk W g t cs) {B : Nat} (hg : g < B) (hb : Below B W W') : Blk W' g t cs := by
  unfold Blk at *
  rw [hb.block g hg]
  exact h
theorem Blk.lt {W : World} {g : Nat} {t : TypeId} {cs : Array Value} (h : Blk W g t cs) : g < W.heap.size := (Array.getElem?_eq_some_iff.1 h).1
theorem Blk.keep {W W' : World} {g : Nat} {t : TypeId} {cs : Array Value} (h : Blk W g t cs) (hb : Below W.heap.size W W') : Blk W' g t cs := h.below h.lt hb
theorem Blk.new (W : World) (t : TypeId) (cs : Array Value) : Blk (W.alloc (.cells cs t)) W.heap.size t cs := heap_alloc_new W _
theorem Blk.newAt (W : World) (t : TypeId) (xs cs : Array Value) (g : Nat) (hg : g = W.heap.size) (e : xs = cs) : Blk (W.alloc (.cells xs t)) g t cs := by
  subst hg e
  exact heap_alloc_new W _
theorem Blk.alloc {W : World} {g : Nat} {t : TypeId} {cs : Array Value} (h : Blk W g t cs) (o : Obj) : Blk (W.alloc o) g t cs := h.keep ((Below.refl _ _).alloc (Nat.le_refl _) _)
theorem Blk.cell {W : World} {g : Nat} {t : TypeId} {cs : Array Value} (h : Blk W g t cs) (i : Nat) : W.cell? ⟨g, i, none⟩ = cs[i]? := by
  simp [World.cell?, show W.heap[g]? = _ from h]
theorem Blk.frozen {W : World} {g : Nat} {t : TypeId} {cs : Array Value} (h : Blk W g t cs) (i : Nat) : W.frozen? ⟨g, i, none⟩ = false := frozen_of_row W g i cs t h
theorem Blk.set {W : World} {g : Nat} {t : TypeId} {cs : Array Value} (h : Blk W g t cs) (i : Nat) (v : Value) : Blk (W.setCell ⟨g, i, none⟩ v) g t (cs.setIfInBounds i v) := heap_setCell_same W g i cs t v h
theorem Blk.other {W : World} {g : Nat} {t : TypeId} {cs : Array Value} (h : Blk W g t cs) (a : Addr) (v : Value) (hne : g ≠ a.block) : Blk (W.setCell a v) g t cs := by
  unfold Blk at *
  rw [heap_setCell_other W a g v hne]
  exact h

theorem Blk.loads {P : Program} {W : World} {g : Nat} {t : TypeId} {cs : Array Value} (h : Blk W g t cs) (ty : TypeId) (d : TypeDesc) (hu : P.underlying ty = some d)
    (hd : (match d with | .struct _ | .array _ _ => true | _ => false) = true) (hi : (P.info? ty).map (·.size) = some cs.size) : (Instr.loadAt ty (.pointer (some ⟨g, 0, none⟩))).run P W = .ok (.agg cs) W := by
  simp only [Instr.loadAt, Instr.sureAddr, Sem.run_bind, Sem.run_pure, Result.andThen_ok]
  exact run_loadVar_row W g t ty cs (0, 0) d h hu hd hi

theorem Blk.stores {P : Program} {W : World} {g : Nat} {t : TypeId} {old : Array Value} (h : Blk W g t old) (ty : TypeId) (cs : Array Value) (hi : (P.info? ty).map (·.size) = some cs.size) (ho : old.size = cs.size)
    (h1 : cs.all (·.oneCell') = true) : (Instr.storeAt ty (.pointer (some ⟨g, 0, none⟩)) (.agg cs)).run P W = .ok () (W.setRow g cs) := by
  simp only [Instr.storeAt, Instr.sureAddr, Sem.run_bind, Sem.run_pure, Result.andThen_ok]
  exact run_storeVar_row W g t ty old cs h hi ho h1

theorem Blk.row {W : World} {g : Nat} {t : TypeId} {old : Array Value} (h : Blk W g t old) (cs : Array Value) : Blk (W.setRow g cs) g t cs := setRow_heap W g old cs t _ h
end Go.Proofs.Ytgbhfolbkgibfaa

/- What is written is one block that was there, and new ones. -/
namespace Go.Proofs.Ytgbhfolbkgibfaa
set_option maxRecDepth 20000
open Go Go.RowKit

/-- Of the blocks that were there none has turned but, it may be, R. -/
structure Only (R : Nat) (w w' : World) : Prop where
  os : w'.os = w.os
  tape : w'.tape = w.tape
  output : w'.output = w.output
  size : w.heap.size ≤ w'.heap.size
  block : ∀ k, k < w.heap.size → k ≠ R → w'.heap[k]? = w.heap[k]?

theorem Only.refl (R : Nat) (w : World) : Only R w w := ⟨rfl, rfl, rfl, Nat.le_refl _, fun _ _ _ => rfl⟩

theorem Only.trans {R : Nat} {a b c : World} (h : Only R a b) (k : Only R b c) : Only R a c :=
  ⟨k.os.trans h.os, k.tape.trans h.tape, k.output.trans h.output, Nat.le_trans h.size k.size, fun i hi hr => (k.block i (Nat.lt_of_lt_of_le hi h.size) hr).trans (h.block i hi hr)⟩

theorem Only.of_below {R : Nat} {w w' : World} (h : Below w.heap.size w w') : Only R w w' := ⟨h.os, h.tape, h.output, h.size, fun k hk _ => h.block k hk⟩

/-- Below whatever lies ahead of R nothing has turned. -/
theorem Only.below {R B : Nat} {w w' : World} (h : Only R w w') (hB : B ≤ R) (hs : B ≤ w.heap.size) : Below B w w' :=
  ⟨h.os, h.tape, h.output, h.size, fun k hk => h.block k (by omega) (by omega)⟩

theorem Only.drew {R : Nat} {a w : World} (h : Only R a w) : Only R a w.drew := ⟨h.os, h.tape, h.output, h.size, h.block⟩

theorem Only.drewN {R : Nat} {a w : World} (h : Only R a w) (n : Nat) : Only R a (w.drewN n) := ⟨h.os, h.tape, h.output, h.size, h.block⟩

theorem Only.alloc {R : Nat} {a w : World} (h : Only R a w) (o : Obj) : Only R a (w.alloc o) :=
  h.trans ⟨rfl, rfl, rfl, by simp, fun k hk _ => Below.heap_alloc _ _ _ hk⟩

theorem Only.setR {R : Nat} {a w : World} (h : Only R a w) (i : Nat) (u : Value) : Only R a (w.setCell ⟨R, i, none⟩ u) :=
  h.trans ⟨rfl, rfl, rfl, by simp [World.setCell], fun k _ hr => Below.heap_setCell _ _ _ _ hr⟩

theorem Only.setNew {R : Nat} {a w : World} (h : Only R a w) {p : Addr} (hp : a.heap.size ≤ p.block) (u : Value) : Only R a (w.setCell p u) :=
  ⟨h.os, h.tape, h.output, by simpa [World.setCell] using h.size, fun k hk hr => by rw [Below.heap_setCell _ _ _ _ (by omega)]; exact h.block k hk hr⟩

theorem Only.cell {R : Nat} {w w' : World} (h : Only R w w') {p : Addr} (hp : p.block < w.heap.size) (hr : p.block ≠ R) : w'.cell? p = w.cell? p := World.cell?_of_block (w := w) (h.block p.block hp hr)

theorem Only.frozen {R : Nat} {w w' : World} (h : Only R w w') {p : Addr} (hp : p.block < w.heap.size) (hr : p.block ≠ R) : w'.frozen? p = w.frozen? p := World.frozen?_of_block (w := w) (h.block p.block hp hr)

/-- A store into cell i of a block that is known whole. -/
theorem heap_set_same {w : World} {R i : Nat} {cs : Array Value} {t : TypeId} {fr : Nat × Nat} (h : w.heap[R]? = some (.cells cs t fr)) (u : Value) : (w.setCell ⟨R, i, none⟩ u).heap[R]? = some (.cells (cs.setIfInBounds i u) t fr) := by
  simp only [World.setCell, Array.getElem?_modify, h, if_true, Option.map_some]
  rfl

theorem heap_set_other {w : World} {R k i : Nat} (h : k ≠ R) (u : Value) : (w.setCell ⟨R, i, none⟩ u).heap[k]? = w.heap[k]? := Below.heap_setCell _ _ _ _ h

theorem cell_of_heap {w : World} {R i : Nat} {cs : Array Value} {t : TypeId} {fr : Nat × Nat} (h : w.heap[R]? = some (.cells cs t fr)) : w.cell? ⟨R, i, none⟩ = cs[i]? := by
  simp [World.cell?, h]

theorem free_of_heap {w : World} {R i : Nat} {cs : Array Value} {t : TypeId} (h : w.heap[R]? = some (.cells cs t (0, 0))) : w.frozen? ⟨R, i, none⟩ = false := by
  simp [World.frozen?, h]

/-- Of the blocks that were there only those of S may have turned. -/
structure OnlyS (S : Nat → Prop) (w w' : World) : Prop where
  os : w'.os = w.os
  tape : w'.tape = w.tape
  output : w'.output = w.output
  size : w.heap.size ≤ w'.heap.size
  block : ∀ k, k < w.heap.size → ¬ S k → w'.heap[k]? = w.heap[k]?

theorem OnlyS.refl (S : Nat → Prop) (w : World) : OnlyS S w w := ⟨rfl, rfl, rfl, Nat.le_refl _, fun _ _ _ => rfl⟩

theorem OnlyS.trans {S : Nat → Prop} {a b c : World} (h : OnlyS S a b) (k : OnlyS S b c) : OnlyS S a c :=
  ⟨k.os.trans h.os, k.tape.trans h.tape, k.output.trans h.output, Nat.le_trans h.size k.size, fun i hi hr => (k.block i (Nat.lt_of_lt_of_le hi h.size) hr).trans (h.block i hi hr)⟩

/-- Where all that S' names and that was there is in S. -/
theorem OnlyS.mono {S S' : Nat → Prop} {a b : World} (h : OnlyS S' a b) (hS : ∀ k, k < a.heap.size → S' k → S k) : OnlyS S a b :=
  ⟨h.os, h.tape, h.output, h.size, fun i hi hr => h.block i hi fun hs => hr (hS i hi hs)⟩

theorem OnlyS.of_only {S : Nat → Prop} {R : Nat} {w w' : World} (h : Only R w w') (hS : S R) : OnlyS S w w' := ⟨h.os, h.tape, h.output, h.size, fun k hk hs => h.block k hk fun e => hs (e ▸ hS)⟩

theorem OnlyS.of_below {S : Nat → Prop} {B : Nat} {w w' : World} (h : Below B w w') (hB : ∀ k, k < w.heap.size → ¬ S k → k < B) : OnlyS S w w' := ⟨h.os, h.tape, h.output, h.size, fun k hk hs => h.block k (hB k hk hs)⟩

theorem OnlyS.only {S : Nat → Prop} {R : Nat} {w w' : World} (h : OnlyS S w w') (hS : ∀ k, k < w.heap.size → S k → k = R) : Only R w w' := ⟨h.os, h.tape, h.output, h.size, fun k hk hs => h.block k hk fun e => hs (hS k hk e)⟩

theorem OnlyS.below {S : Nat → Prop} {B : Nat} {w w' : World} (h : OnlyS S w w') (hS : ∀ k, k < B → ¬ S k) (hs : B ≤ w.heap.size) : Below B w w' :=
  ⟨h.os, h.tape, h.output, h.size, fun k hk => h.block k (by omega) (hS k hk)⟩

theorem OnlyS.alloc {S : Nat → Prop} {a w : World} (h : OnlyS S a w) (o : Obj) : OnlyS S a (w.alloc o) :=
  h.trans ⟨rfl, rfl, rfl, by simp, fun k hk _ => Below.heap_alloc _ _ _ hk⟩

theorem OnlyS.drew {S : Nat → Prop} {a w : World} (h : OnlyS S a w) : OnlyS S a w.drew := ⟨h.os, h.tape, h.output, h.size, h.block⟩

theorem OnlyS.setCell {S : Nat → Prop} {a w : World} (h : OnlyS S a w) {p : Addr} (hp : p.block < a.heap.size → S p.block) (u : Value) : OnlyS S a (w.setCell p u) :=
  ⟨h.os, h.tape, h.output, by simpa [World.setCell] using h.size, fun k hk hr => by
    have hne : k ≠ p.block := by
      rintro rfl
      exact hr (hp hk)
    rw [Below.heap_setCell _ _ _ _ hne]; exact h.block k hk hr⟩

/-- A second step that may write, of what was there at first, only blocks of S. -/
theorem OnlyS.then {S T : Nat → Prop} {a b c : World} (h : OnlyS S a b) (k : OnlyS T b c) (hT : ∀ i, i < a.heap.size → T i → S i) : OnlyS S a c :=
  ⟨k.os.trans h.os, k.tape.trans h.tape, k.output.trans h.output, Nat.le_trans h.size k.size, fun i hi hr => (k.block i (Nat.lt_of_lt_of_le hi h.size) fun ht => hr (hT i hi ht)).trans (h.block i hi hr)⟩

end Go.Proofs.Ytgbhfolbkgibfaa

/- Layer 19: the ways that are blocked, as a map of the program's memory. -/
namespace Go.Proofs.Ytgbhfolbkgibfaa
set_option maxRecDepth 20000
open Go.RowKit Go.Maps BinMath NetMath

theorem laidOutN : laidOutB Try.prog = true := by kernel_rfl
theorem wayLaw : Keyed Try.prog 72 := Keyed.of_law (deep_law_laid laidOutN (m := 2) (by omega) (of_decide_eq_true (by kernel_rfl)) (by kernel_rfl) (by rw [Try.underlying72]))

/-- A way as a key. -/
def wv (p : Nat × Nat) : Value := .agg #[.int .u64 (p.1 : Int), .int .u64 (p.2 : Int)]
def wk (p : Nat × Nat) : Lit := .string (keyBytes [.int .u64 (p.1 : Int), .int .u64 (p.2 : Int)])
def W64 (p : Nat × Nat) : Prop := p.1 < 18446744073709551616 ∧ p.2 < 18446744073709551616

theorem wf_u64 {n : Nat} (h : n < 18446744073709551616) : (Lit.int .u64 (n : Int)).wf = true := by
  have e1 : IntKind.u64.min = 0 := rfl
  have e2 : IntKind.u64.max = 18446744073709551615 := rfl
  simp [Lit.wf, e1, e2]
  omega

theorem lits_u64 {D n : Nat} (h : n < 18446744073709551616) : Try.prog.keyLits (D + 1) 31 [.int .u64 (n : Int)] = some [.int .u64 (n : Int)] := by
  unfold Program.keyLits
  rw [Try.underlying31]
  simp [wf_u64 h]

theorem keyOf_wv {p : Nat × Nat} (h : W64 p) : keyOf Try.prog 72 (wv p) = some (wk p) := by
  obtain ⟨a, b⟩ := p
  obtain ⟨ha, hb⟩ := h
  have hc : Try.prog.cellsOf 72 = 2 := by kernel_rfl
  have hk : Try.prog.keyType 72 = true := by kernel_rfl
  have hf : (wv (a, b)).formed Try.prog 72 = true := by simp [Value.formed, wv, Try.underlying72, hc]
  have h0 : 1 < Try.prog.types.size := of_decide_eq_true (by kernel_rfl)
  obtain ⟨d, hd⟩ : ∃ d, Try.prog.types.size = d + 1 := ⟨Try.prog.types.size - 1, by omega⟩
  have c1 : Try.prog.cellsOf 31 = 1 := by kernel_rfl
  have hl : Try.prog.keyLits (Try.prog.types.size + 1) 72 (wv (a, b)).cells.toList = some [.int .u64 (a : Int), .int .u64 (b : Int)] := by
    rw [hd]
    unfold Program.keyLits
    rw [Try.underlying72]
    simp [wv, Value.cells, hc, c1, lits_u64 ha, lits_u64 hb]
  unfold keyOf
  rw [Try.underlying72]
  simp only [hk, hf, hl, Bool.and_self, if_true, Option.map_some]
  rfl

theorem wv_inj {p q : Nat × Nat} (h : wv p = wv q) : p = q := by
  obtain ⟨a, b⟩ := p
  obtain ⟨c, d⟩ := q
  simp only [wv, Value.agg.injEq, Array.mk.injEq, List.cons.injEq, Value.int.injEq, true_and, and_true] at h
  obtain ⟨h1, h2⟩ := h
  rw [Int.ofNat_inj.1 h1, Int.ofNat_inj.1 h2]
theorem wk_same {p q : Nat × Nat} (hp : W64 p) (hq : W64 q) : (wk p).sameKey (wk q) = decide (p = q) := by
  by_cases h : p = q
  · subst h
    rw [WideAt.sameKey_self (wayLaw.key (keyOf_wv hp)), decide_eq_true rfl]
  · rw [decide_eq_false h]
    cases hs : (wk p).sameKey (wk q) with
    | false => rfl
    | true =>
      have e := WideAt.sameKey_eq hs
      exact absurd (wv_inj (wayLaw.inj (keyOf_wv hp) (e ▸ keyOf_wv hq))) h

abbrev WD := DataW Value
/-- Ways as the map reads. -/
def encW (G : List (Nat × Nat)) : WD := .map (G.map fun p => (wk p, DataW.agg []))
/-- A way among others, as maps are read. -/
def insW (p : Nat × Nat) : List (Nat × Nat) → List (Nat × Nat)
  | [] => [p]
  | y :: r => if (wk p).before (wk y) = true then p :: y :: r else y :: insW p r
def delW (p : Nat × Nat) (G : List (Nat × Nat)) : List (Nat × Nat) := G.filter fun x => decide (x ≠ p)

theorem insW_perm (p : Nat × Nat) : ∀ G : List (Nat × Nat), (insW p G).Perm (p :: G)
  | [] => List.Perm.refl _
  | y :: r => by
    unfold insW
    split
    · exact List.Perm.refl _
    · exact ((insW_perm p r).cons y).trans (List.Perm.swap p y r)

theorem encW_filter {G : List (Nat × Nat)} {p : Nat × Nat} (hG : ∀ x ∈ G, W64 x) (hp : W64 p) :
    ((G.map fun p => (wk p, (DataW.agg [] : WD))).filter fun x => !x.1.sameKey (wk p)) = (delW p G).map fun p => (wk p, (DataW.agg [] : WD)) := by
  unfold delW
  induction G with
  | nil => rfl
  | cons y r ih =>
    have h1 := wk_same (hG y (by simp)) hp
    have h2 := ih fun x hx => hG x (by simp [hx])
    rw [List.map_cons, List.filter_cons, List.filter_cons]
    simp only [h1]
    by_cases h : y = p
    · rw [if_neg (by simp [h]), if_neg (by simp [h]), h2]
    · rw [if_pos (by simp [h]), if_pos (by simp [h]), List.map_cons, h2]

theorem encW_put {G : List (Nat × Nat)} {p : Nat × Nat} (hG : ∀ x ∈ G, W64 x) (hp : W64 p) : (encW G).put (wk p) (.agg []) = encW (insW p (delW p G)) := by
  show DataW.map (DataW.insert (wk p, DataW.agg []) ((G.map fun p => (wk p, (DataW.agg [] : WD))).filter fun x => !x.1.sameKey (wk p))) = _
  rw [encW_filter hG hp]
  unfold encW
  congr 1
  generalize delW p G = l
  induction l with
  | nil => rfl
  | cons y r ih =>
    by_cases hb : (wk p).before (wk y) = true
    · simp [DataW.insert, insW, hb]
    · simp [DataW.insert, insW, hb, ih]
theorem encW_del {G : List (Nat × Nat)} {p : Nat × Nat} (hG : ∀ x ∈ G, W64 x) (hp : W64 p) : (encW G).del (wk p) = encW (delW p G) := by
  show DataW.map ((G.map fun p => (wk p, (DataW.agg [] : WD))).filter fun x => !x.1.sameKey (wk p)) = _
  rw [encW_filter hG hp]
  rfl
theorem encW_has {G : List (Nat × Nat)} {p : Nat × Nat} (hG : ∀ x ∈ G, W64 x) (hp : W64 p) : Maps.has (encW G) (wk p) = decide (p ∈ G) := by
  rw [encW, Maps.has_eq, List.any_map]
  induction G with
  | nil => rfl
  | cons y r ih =>
    rw [List.any_cons, ih fun x hx => hG x (by simp [hx])]
    have h1 := wk_same (hG y (by simp)) hp
    simp only [Function.comp, h1]
    by_cases h : y = p
    · simp [h]
    · have : p ≠ y := fun e => h e.symm
      simp [h, this]
theorem encW_size (G : List (Nat × Nat)) : Maps.size (encW G) = G.length := by
  rw [encW, Maps.size_eq, List.length_map]

/-- The map at block m holds the ways ws. -/
def WMap (w : World) (m : Nat) (ws : List (Nat × Nat)) : Prop := ∃ G : List (Nat × Nat), G.Perm ws ∧ (∀ x ∈ G, W64 x) ∧ w.ownsMap Try.prog 72 unitElem m G.length (encW G)

theorem WMap.lt {w : World} {m : Nat} {ws : List (Nat × Nat)} (h : WMap w m ws) : m < w.heap.size := by
  obtain ⟨G, -, -, h⟩ := h
  exact h.lt
theorem WMap.same {w w' : World} {m : Nat} {ws : List (Nat × Nat)} (h : WMap w m ws) (hm : w'.heap[m]? = w.heap[m]?) : WMap w' m ws := by
  obtain ⟨G, h1, h2, es, clock, hb, rest⟩ := h
  exact ⟨G, h1, h2, es, clock, hm.trans hb, rest⟩
theorem WMap.ne {w : World} {m d : Nat} {ws : List (Nat × Nat)} {t : TypeId} {cs : Array Value} (h : WMap w m ws) (hb : Blk w d t cs) : m ≠ d := fun e => by
  subst e
  obtain ⟨G, -, -, es, clock, hc, -⟩ := h
  unfold Blk at hb
  rw [hb] at hc
  cases hc
theorem ways_sized {w : World} {m N : Nat} {G : List (Nat × Nat)} (h : w.ownsMap Try.prog 72 unitElem m N (encW G)) : w.ownsMap Try.prog 72 unitElem m G.length (encW G) := by
  obtain ⟨es, clock, hb, Ft, _, hD⟩ := h
  refine ⟨es, clock, hb, Ft, ?_, hD⟩
  have h1 : Maps.size (encW G) = es.size := by rw [hD]; simp [Maps.size, length_sorted]
  rw [encW_size] at h1
  omega
theorem WMap.made (w : World) : WMap (w.alloc (.map #[] 0)) w.heap.size [] :=
  ⟨[], List.Perm.refl _, fun _ hx => absurd hx List.not_mem_nil, World.ownsMap_made w Try.prog 72 unitElem⟩

theorem zero_unit (w : World) : (zeroValue 70).run Try.prog w = .ok (.agg #[]) w := by kernel_rfl

/-- '_, ok := m[p]'. -/
theorem WMap.look {w : World} {m : Nat} {ws : List (Nat × Nat)} (h : WMap w m ws) {p : Nat × Nat} (hp : W64 p) : (Instr.lookup 57 (.map (some m)) (wv p) true).run Try.prog w = .ok (.tuple #[.agg #[], .bool (decide (p ∈ ws))]) w := by
  obtain ⟨G, h1, h2, h3⟩ := h
  obtain ⟨v, ps, hr, hv⟩ := h3.look_ok wayLaw Try.underlying57 (zero_unit w) (zd := .agg []) (zp := []) rfl (keyOf_wv hp)
  rw [hr, encW_has h2 hp, (unitElem_inv hv).1, decide_eq_decide.2 h1.mem_iff]

theorem blockW_yes {G ws : List (Nat × Nat)} (h : G.Perm ws) (p : Nat × Nat) : (insW p (delW p G)).Perm (blockW ws p.1 p.2 true) := by
  refine (insW_perm _ _).trans ?_
  unfold blockW delW
  rw [if_pos rfl]
  exact ((h.filter _).cons p).trans (List.perm_append_comm (l₁ := [p]))
theorem blockW_no {G ws : List (Nat × Nat)} (h : G.Perm ws) (p : Nat × Nat) : (delW p G).Perm (blockW ws p.1 p.2 false) := by
  unfold blockW delW
  rw [if_neg (by simp), List.append_nil]
  exact h.filter _
theorem delW_all {G : List (Nat × Nat)} {p : Nat × Nat} (h : ∀ x ∈ G, W64 x) : ∀ x ∈ delW p G, W64 x := fun x hx => h x (List.mem_filter.1 hx).1

theorem turned_only {w w' : World} {m : Nat} (h : w.mapTurned w' m) : OnlyS (fun k => k = m) w w' := by
  have hg := h.grown
  exact ⟨hg.os, hg.tape, hg.output, hg.size, fun k hk hne => hg.block k hk fun e => hne (by simpa using e)⟩

/-- 'm[p] = struct{}{}'. -/
theorem WMap.store {w : World} {m : Nat} {ws : List (Nat × Nat)} (h : WMap w m ws) {p : Nat × Nat} (hp : W64 p) (hl : ws.length ≤ 1000000) :
    ∃ w', (Instr.mapUpdate 57 (.map (some m)) (wv p) (.agg #[])).run Try.prog w = .ok () w' ∧ (WMap w' m (blockW ws p.1 p.2 true) ∧ OnlyS (fun k => k = m) w w') := by
  obtain ⟨G, h1, h2, h3⟩ := h
  have hlen := h1.length_eq
  obtain ⟨w', hr, h4, h5⟩ := h3.store wayLaw Try.underlying57 (by unfold maxLen; omega) (keyOf_wv hp) (unitElem_mk (H := Value))
  rw [encW_put h2 hp] at h4
  refine ⟨w', hr, ⟨_, blockW_yes h1 p, fun x hx => ?_, ways_sized h4⟩, turned_only h5⟩
  rcases List.mem_cons.1 ((insW_perm _ _).mem_iff.1 hx) with rfl | hx
  · exact hp
  · exact delW_all h2 x hx

/-- 'delete(m, p)'. -/
theorem WMap.drop {w : World} {m : Nat} {ws : List (Nat × Nat)} (h : WMap w m ws) {p : Nat × Nat} (hp : W64 p) (ty : TypeId) :
    ∃ w', (Builtin.delete_ #[57, 72] ty #[.map (some m), wv p]).run Try.prog w = .ok (.tuple #[]) w' ∧ (WMap w' m (blockW ws p.1 p.2 false) ∧ OnlyS (fun k => k = m) w w') := by
  obtain ⟨G, h1, h2, h3⟩ := h
  obtain ⟨w', hr, h4, h5⟩ := h3.drop wayLaw Try.underlying57 (keyOf_wv hp) ty
  rw [encW_del h2 hp] at h4
  exact ⟨w', hr, ⟨_, blockW_no h1 p, delW_all h2, ways_sized h4⟩, turned_only h5⟩

theorem wpList_mapUpdate_to {w : World} {ops : Array Oper} {rest : List Oper} {o : Oper} {a : Act} {Q : Exit → Act → World → Prop} (hgd : o.guard = none) (m x v : Operand) (t : TypeId) (ho : o.op = .mapUpdate t m x v)
    (mv key val : Value) (hm : a.eval m = mv) (hx : a.eval x = key) (hv : a.eval v = val) (R : World → Prop) (hr : ∃ w', (Instr.mapUpdate t mv key val).run Try.prog w = .ok () w' ∧ R w') (h : ∀ w', R w' → wpList Try.prog ops Q rest (a.put o.dst undef) w') : wpList Try.prog ops Q (o :: rest) a w := by
  obtain ⟨w', hrun, hR⟩ := hr
  refine wpList_plain hgd fun K hK => ?_
  unfold Oper.wp
  simp [execOp, ho, hm, hx, hv, hrun, Result.andThen]
  exact hK _ _ (h w' hR)
theorem wpList_delete_to {w : World} {ops : Array Oper} {rest : List Oper} {o : Oper} {a : Act} {Q : Exit → Act → World → Prop} (hgd : o.guard = none) (m x : Operand) (t k : TypeId)
    (ho : o.op = .call { callee := .builtin .delete, args := #[m, x], argTypes := #[t, k] }) (mv key : Value) (hm : a.eval m = mv) (hx : a.eval x = key) (R : World → Prop)
    (hr : ∃ w', (Builtin.delete_ #[t, k] o.type #[mv, key]).run Try.prog w = .ok (.tuple #[]) w' ∧ R w') (h : ∀ w', R w' → wpList Try.prog ops Q rest (a.put o.dst (.tuple #[])) w') : wpList Try.prog ops Q (o :: rest) a w := by
  obtain ⟨w', hrun, hR⟩ := hr
  refine wpList_plain hgd fun K hK => ?_
  unfold Oper.wp
  simp [execOp, ho, resolve, invoke, builtin, hm, hx, hrun, Result.andThen]
  exact hK _ _ (h w' hR)
end Go.Proofs.Ytgbhfolbkgibfaa

