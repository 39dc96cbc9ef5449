/- Joined: Frame, Bys, Blk, Region, Facts, Tail, Arms, Only. -/
import Derived.Test.YthaggdkfaglgaaaGreatDoorRows
import Derived.WalkKit
import Derived.ProofKit
import Derived.OpenShut
import Derived.ShutString
import Derived.ChangeOld
import Derived.Below
import Derived.Laws.AppendOwnNone
import Derived.WalkSpells
import Derived.WalkLawsBesides
import Derived.Lib.Hide
import Derived.Lib.BufferRead
import Derived.Laws.Rows
import Derived.StillTailTactics
import Derived.BigQuiet
import Derived.Deep.QuietTactic
import Derived.Laws.CopyRow
import Derived.Deep.Draws
/- What every law's proof begins and ends with: an argument that came in, read again behind a call that wrote nothing that was there. -/
namespace Go.Proofs.YthaggdkfaglgaaaGreatDoor
set_option maxRecDepth 20000
open Go.ChangeShapes Go.WideShapes Go.ChangeAt Go.RowKit

theorem own : ownKnob Tryz.prog.godebug = none := by kernel_rfl
theorem laidOut : laidOutB Tryz.prog = true := by kernel_rfl

/-- A slice of integers that came in: it is nil; or it leads to a row of cap cells, the numbers zs, the first len of which are its elements; each fits its kind. -/
def IsRow (k : IntKind) (w : World) (a : Option Addr) (len cap : Nat) (zs : List Int) : Prop :=
  (a = none ∧ len = 0 ∧ cap = 0 ∧ zs = []) ∨
  ∃ x, a = some x ∧ len ≤ cap ∧ cap ≤ maxLen ∧ zs.length = cap ∧ (∀ i, i < zs.length → w.cell? (x.add i) = some (.int k (zs.getD i 0))) ∧ ∀ n ∈ zs, (Lit.int k n).wf = true

theorem IsRow.le {k : IntKind} {w : World} {a : Option Addr} {len cap : Nat} {zs : List Int} (h : IsRow k w a len cap zs) : len ≤ cap := by
  rcases h with ⟨_, rfl, rfl, _⟩ | ⟨_, _, hl, _⟩
  · exact Nat.le_refl _
  · exact hl

/-- A uint64 that came in is a number below 2^64. -/
theorem nat_u64 (x : Int) (hx : (Lit.int .u64 x).wf = true) : ∃ n : Nat, x = n ∧ n < 18446744073709551616 := by
  have := bounds_u64 hx
  exact ⟨x.toNat, by omega, by omega⟩

end Go.Proofs.YthaggdkfaglgaaaGreatDoor

/- Bytes in the program's memory, and what an append to them gives. -/
namespace Go.Proofs.YthaggdkfaglgaaaGreatDoor
set_option maxRecDepth 20000
open Go.RowKit

/-- A byte as a cell holds it. -/
def bv (c : UInt8) : Value := .int .u8 (c.toNat : Int)

theorem info_byte : (Tryz.prog.info? 5).map (fun i => (i.zero, i.size, i.bytes)) = some (some (.int .u8 0), 1, 1) := by kernel_rfl

/-- A slice of bytes in memory of the call's own, from block B on: the bytes l. -/
def Row (w : World) (B : Nat) (v : Value) (l : List UInt8) : Prop := w.ownsRow B 5 1 v l.length (l.map bv)

/-- A slice of bytes, wherever it lies: the bytes l. -/
def Bys (w : World) (v : Value) (l : List UInt8) : Prop :=
  (v = .slice none 0 0 ∧ l = []) ∨
  ∃ ad cap, v = .slice (some ad) l.length cap ∧ ∀ i (h : i < l.length), w.cell? (ad.add i) = some (bv l[i])

theorem addr_add (b o j : Nat) : (⟨b, o, none⟩ : Addr).add j = ⟨b, o + j, none⟩ := by
  by_cases h : j = 0 <;> simp [Addr.add, h]

theorem add_block (ad : Addr) (j : Nat) : (ad.add j).block = ad.block := by
  by_cases h : j = 0 <;> simp [Addr.add, h]

theorem Bys.below {w w' : World} {v : Value} {l : List UInt8} (h : Bys w v l) {B : Nat} (hB : w.heap.size ≤ B) (hb : Below B w w') : Bys w' v l := by
  rcases h with h | ⟨ad, cap, hv, hc⟩
  · exact .inl h
  · exact .inr ⟨ad, cap, hv, fun i hi => by
      have h1 := hc i hi
      rw [hb.cell (p := ad.add i) (Nat.lt_of_lt_of_le (World.block_lt_of_cell? w _ h1) hB)]
      exact h1⟩

theorem Row.bys {w : World} {B : Nat} {v : Value} {l : List UInt8} (h : Row w B v l) : Bys w v l := by
  have h0 := h
  rcases h.2 with ⟨rfl, hl⟩ | ⟨g, cap, cur, rfl, hB, hg, hn, hm, hs, ht⟩
  · exact .inl ⟨rfl, List.eq_nil_of_length_eq_zero hl⟩
  · refine .inr ⟨⟨g, 0, none⟩, cap, rfl, fun i hi => ?_⟩
    rw [addr_add, Nat.zero_add, h0.cellAt i (by omega)]
    simp [hi]

/-- 'string(v)'. -/
theorem conv_bys {w : World} {v : Value} {l : List UInt8} (h : Bys w v l) : (convert 27 9 v).run Tryz.prog w = .ok (.string ⟨l.toArray⟩) w := by
  rcases h with ⟨rfl, rfl⟩ | ⟨ad, cap, rfl, hc⟩
  · exact Lib.run_convert_nil_bytes w _ _ _ 0 Tryz.underlying27 Tryz.underlying5 Tryz.underlying9
  · exact run_convert_bytes_back w _ _ _ ad cap l Tryz.underlying27 Tryz.underlying5 Tryz.underlying9 hc

theorem bytes_of (zs : List Int) (h : ∀ n ∈ zs, (Lit.int .u8 n).wf = true) : ∃ l : List UInt8, zs = l.map fun c => (c.toNat : Int) := by
  induction zs with
  | nil => exact ⟨[], rfl⟩
  | cons z zs ih =>
    obtain ⟨l, hl⟩ := ih fun n hn => h n (List.mem_cons_of_mem _ hn)
    have hz := bounds_u8 (h z (by simp))
    refine ⟨UInt8.ofNat z.toNat :: l, ?_⟩
    simp [← hl]
    omega

/-- What came in. -/
theorem IsRow.bys {w : World} {a : Option Addr} {len cap : Nat} {zs : List Int} (h : IsRow .u8 w a len cap zs) : ∃ l : List UInt8, l.length = len ∧ Bys w (.slice a len cap) l := by
  rcases h with ⟨rfl, rfl, rfl, rfl⟩ | ⟨ad, rfl, hl, hm, hz, hc, hw⟩
  · exact ⟨[], rfl, .inl ⟨rfl, rfl⟩⟩
  · obtain ⟨l, rfl⟩ := bytes_of zs hw
    have hll : l.length = cap := by simpa using hz
    have e : (l.take len).length = len := by rw [List.length_take]; omega
    refine ⟨l.take len, e, .inr ⟨ad, cap, by rw [e], fun i hi => ?_⟩⟩
    have hi' : i < l.length := by rw [e] at hi; omega
    rw [hc i (by simpa using hi')]
    simp [bv, List.getD, hi']

/-- The cells of a text, one behind the other. -/
theorem cells_bys {w : World} {ad : Addr} {l : List UInt8} (hc : ∀ i (h : i < l.length), w.cell? (ad.add i) = some (bv l[i])) : ∀ (j : Nat) (u : Value), (l.map bv)[j]? = some u → w.cell? (ad.add j) = some u := by
  intro j u h
  have hj : j < l.length := by have := (List.getElem?_eq_some_iff.1 h).1; simpa using this
  rw [hc j hj]
  simpa [hj] using h

theorem one_bv (l : List UInt8) : ∀ u ∈ l.map bv, u.oneCell' = true := by
  intro u hu
  obtain ⟨c, _, rfl⟩ := List.mem_map.1 hu
  simp [bv, Value.oneCell']

/-- append(v, x...), v the call's own. -/
theorem append_bys {w : World} {B : Nat} {v x : Value} {l l' : List UInt8} (hB : B ≤ w.heap.size) (h : Row w B v l) (hx : Bys w x l') (hlen : l.length + l'.length ≤ 140737488355328) :
    ∃ v' w', (Builtin.append_ #[27, 27] 27 #[v, x]).run Tryz.prog w = .ok v' w' ∧ Row w' B v' (l ++ l') ∧ w.grownBy w' v.ownBlock := by
  obtain ⟨i0, hi, hz0, hz1, hz2⟩ := info_parts info_byte
  rcases hx with ⟨rfl, rfl⟩ | ⟨ad, cap, rfl, hc⟩
  · refine ⟨v, w, run_append_owned_none (P := Tryz.prog) (w := w) B _ _ _ i0 1 Tryz.underlying27 hi v l.length (l.map bv) h, by simpa using h, ?_⟩
    exact ⟨rfl, rfl, rfl, Nat.le_refl _, fun _ _ _ => rfl⟩
  · obtain ⟨v', w', hr, h1, h2, h3⟩ := run_append_own (P := Tryz.prog) w B 27 27 5 i0 (.int .u8 0) 1 1 Tryz.underlying27 hi hz0 hz1 hz2 rfl (by decide) v l.length (l.map bv) h ad l'.length cap (l'.map bv) (by simp) (cells_bys hc) (one_bv l') (by unfold maxLen; omega) (by omega) hB
    refine ⟨v', w', hr, ?_, h2⟩
    unfold Row
    rw [List.length_append, List.map_append]
    exact h1

/-- append([]byte{}, x...): nothing that was there is written. -/
theorem append_lit {w : World} {B g : Nat} {x : Value} {l : List UInt8} (hB : B ≤ g) (hg : w.heap[g]? = some (.cells #[] 5 (0, 0))) (hx : Bys w x l) (hlen : l.length ≤ 140737488355328) :
    ∃ v' w', (Builtin.append_ #[27, 27] 27 #[.slice (some ⟨g, 0, none⟩) 0 0, x]).run Tryz.prog w = .ok v' w' ∧ Row w' B v' l ∧ Below w.heap.size w w' := by
  obtain ⟨i0, hi, hz0, hz1, hz2⟩ := info_parts info_byte
  have hlt : g < w.heap.size := (Array.getElem?_eq_some_iff.1 hg).1
  have hrow : w.ownsRow B 5 1 (.slice (some ⟨g, 0, none⟩) 0 0) 0 [] := ⟨rfl, .inr ⟨g, 0, #[], rfl, hB, hg, Nat.le_refl _, by unfold maxLen; omega, rfl, rfl⟩⟩
  rcases hx with ⟨rfl, rfl⟩ | ⟨ad, cap, rfl, hc⟩
  · exact ⟨_, w, run_append_owned_none (P := Tryz.prog) (w := w) B _ _ _ i0 1 Tryz.underlying27 hi _ 0 [] hrow, hrow, Below.refl _ _⟩
  · by_cases hl : l = []
    · subst hl
      have hr := run_append_room (P := Tryz.prog) w 27 27 5 i0 Tryz.underlying27 hi g 0 0 #[] hg ad 0 cap [] (by simp) (by simp) (by simp) (by omega) (by simp)
      refine ⟨_, _, hr, ?_, ⟨rfl, rfl, rfl, by simp, fun k hk => ?_⟩⟩
      · refine ⟨rfl, .inr ⟨g, 0, #[], rfl, hB, ?_, Nat.le_refl _, by unfold maxLen; omega, rfl, rfl⟩⟩
        simpa using setRow_heap w g #[] _ 5 _ hg
      · by_cases hkg : k = g
        · subst hkg
          rw [hg]
          simpa using setRow_heap w k #[] _ 5 _ hg
        · exact setRow_other w g k _ hkg
    · have hpos : 0 < l.length := List.length_pos_iff.2 hl
      have hr := run_append_grow (P := Tryz.prog) w 27 27 5 i0 (.int .u8 0) Tryz.underlying27 hi hz0 ⟨g, 0, none⟩ 0 0 [] (by simp) (by simp) ad l.length cap (l.map bv) (by simp [hz1]) (cells_bys hc) (by omega) (by omega) (growslice_fits (by omega) (by rw [hz2]; omega))
      refine ⟨_, _, hr, ?_, (Below.refl _ _).drew.alloc (Nat.le_refl _) _⟩
      have hge := grownCap_ge w (0 + l.length) 0 5
      have hge' := grownCap_ge w l.length 0 5
      have hle := grownCap_le_maxLen w (0 + l.length) 0 5 (by unfold maxLen; omega)
      refine ⟨by simp, .inr ⟨w.heap.size, _, _, by rw [Nat.zero_add], by omega, heap_alloc_new w.drew _, by omega, hle, ?_, ?_⟩⟩
      · simp [size_zeroCells]
        simp [Value.cells]
        omega
      · simp


theorem slice_of_row {w : World} {B : Nat} {v : Value} {t : List UInt8} (h : Row w B v t) : ∃ a cap, v = .slice a t.length cap := by
  rcases h.2 with ⟨hv, h0⟩ | ⟨g, cap, cur, hv, _⟩
  · exact ⟨none, 0, by rw [hv, h0]⟩
  · exact ⟨_, _, hv⟩

theorem bv_of (k : Nat) : bv (UInt8.ofNat k) = .int .u8 ((k % 256 : Nat) : Int) := by simp [bv]

/-- Where one byte of a row is written. -/
theorem row_set {w : World} {B g n c : Nat} {l : List UInt8} (h : Row w B (.slice (some ⟨g, 0, none⟩) n c) l) (j : Nat) (b : UInt8) : Row (w.setCell ⟨g, j, none⟩ (bv b)) B (.slice (some ⟨g, 0, none⟩) n c) (l.set j b) := by
  obtain ⟨a', c', e⟩ := slice_of_row h
  cases e
  have h1 := (World.ownsRow.stored h j (bv b)).1
  unfold Row
  rw [List.length_set, List.map_set]
  simpa using h1

/-- The byte that stands there. -/
theorem row_at {w : World} {B g n c : Nat} {l : List UInt8} (h : Row w B (.slice (some ⟨g, 0, none⟩) n c) l) (i : Nat) (hi : i < l.length) : w.cell? ⟨g, i, none⟩ = some (bv l[i]) ∧ w.frozen? ⟨g, i, none⟩ = false := by
  obtain ⟨a', c', e⟩ := slice_of_row h
  cases e
  have h1 := World.ownsRow.cellAt h i (by omega)
  refine ⟨?_, World.ownsRow.frozenAt h i⟩
  rw [h1]
  simp [hi]

theorem row_cell {w : World} {B g n c : Nat} {l : List UInt8} (h : Row w B (.slice (some ⟨g, 0, none⟩) n c) l) (i : Nat) (hi : i < l.length) : (∃ z, w.cell? ⟨g, i, none⟩ = some (.int .u8 z)) ∧ w.frozen? ⟨g, i, none⟩ = false := by
  obtain ⟨a', c', e⟩ := slice_of_row h
  cases e
  have h1 := World.ownsRow.cellAt h i (by omega)
  refine ⟨⟨(l[i].toNat : Int), ?_⟩, World.ownsRow.frozenAt h i⟩
  rw [h1]
  simp [hi, bv]

theorem u8_wrap (z : Int) : ∃ b : UInt8, (Value.int .u8 (IntKind.u8.wrap z)) = bv b := by
  refine ⟨UInt8.ofNat (z % 256).toNat, ?_⟩
  have e := IntKind.wrap_u8 z
  rw [e, bv_of]
  congr 1
  omega

end Go.Proofs.YthaggdkfaglgaaaGreatDoor

/- Blocks of a call's own: how a walk reads, writes and loads them whole; a walk's world told by what holds of it. -/
namespace Go.Proofs.YthaggdkfaglgaaaGreatDoor
set_option maxRecDepth 20000
open Go.RowKit

theorem world_cut {P : Program} {c : Code} {Q : Exit → Act → World → Prop} {a : Act} {W : World} (φ : World → Prop) (h : φ W) (k : ∀ W', φ W' → c.wp P Q a W') : c.wp P Q a W := k W h

theorem still_of_quiet {P : Program} {W : World} {o : Oper} {a : Act} {K : Act → Prop} (h : o.quiet P a (fun w' => w' = W) K) : o.still P a W K := by
  obtain ⟨v, h1, h2⟩ := h
  have h3 := h1 W rfl
  unfold Oper.quietAt at h3
  unfold Oper.still
  generalize (execOp a.eval o).run P W = r at *
  cases r with
  | ok n w' =>
    cases n <;> simp only [Oper.quietUpon] at h3 <;> simp only [Oper.stillUpon]
    case value u => obtain ⟨h4, rfl⟩ := h3; exact ⟨h4, h2⟩
    case skip => obtain ⟨h4, rfl⟩ := h3; exact ⟨h4, h2⟩
    case enter f args => exact ⟨h3.1, v, by rw [← h3.1] at *; exact h3.2, h2⟩
  | halt x w' => simp only [Oper.quietUpon] at h3

theorem wpStill_of_quiet {P : Program} {W : World} {ops : Array Oper} {Q : Act → Prop} : ∀ (l : List Oper) (a : Act), wpQuiet P ops (fun w' => w' = W) Q l a → wpStill P ops W Q l a
  | [], _, h => h
  | o :: r, a, h => by
    unfold wpQuiet at h
    refine wpStill_step fun K hK => ?_
    split
    · rename_i hw
      rw [if_pos hw] at h
      exact still_of_quiet (Oper.quiet_mono (fun a' h' => hK a' (wpStill_of_quiet r a' h')) h)
    · rename_i hw
      rw [if_neg hw] at h
      exact hK _ (wpStill_of_quiet r _ h)

/-- A region that draws its order, whose last operations are in one order; all ahead of them only read. -/
theorem region_tail {P : Program} {id : Nat} {Q : Exit → Act → World → Prop} {a : Act} {w : World} {l : List Oper} (n : Nat) (hm : P.follows .mixedOrders = true) (hB : Region.lexTailB .any l.toArray n = true) (φ : World → Prop) (hφ : φ w.drew)
    (h : ∀ W, φ W → wpQuiet P l.toArray (fun w' => w' = W) (fun a' => wpList P l.toArray Q (l.drop n) a' W) (l.take n) a) : (Code.region id l.toArray true).wp P Q a w :=
  wp_region_still_tail n hm hB (wpStill_of_quiet _ _ (h _ hφ))

/-- A block of the call's own: its cells. -/
def Blk (W : World) (g : Nat) (t : TypeId) (cs : Array Value) : Prop := W.heap[g]? = some (.cells cs t (0, 0))

theorem Blk.below {W W' : World} {g : Nat} {t : TypeId} {cs : Array Value} (h : Blk W g t cs) {B : Nat} (hg : g < B) (hb : Below B W W') : Blk W' g t cs := by
  unfold Blk at *
  rw [hb.block g hg]
  exact h
theorem Blk.lt {W : World} {g : Nat} {t : TypeId} {cs : Array Value} (h : Blk W g t cs) : g < W.heap.size := (Array.getElem?_eq_some_iff.1 h).1
theorem Blk.keep {W W' : World} {g : Nat} {t : TypeId} {cs : Array Value} (h : Blk W g t cs) (hb : Below W.heap.size W W') : Blk W' g t cs := h.below h.lt hb
theorem Blk.new (W : World) (t : TypeId) (cs : Array Value) : Blk (W.alloc (.cells cs t)) W.heap.size t cs := heap_alloc_new W _
theorem Blk.newAt (W : World) (t : TypeId) (xs cs : Array Value) (g : Nat) (hg : g = W.heap.size) (e : xs = cs) : Blk (W.alloc (.cells xs t)) g t cs := by
  subst hg e
  exact heap_alloc_new W _
theorem Blk.alloc {W : World} {g : Nat} {t : TypeId} {cs : Array Value} (h : Blk W g t cs) (o : Obj) : Blk (W.alloc o) g t cs := h.keep ((Below.refl _ _).alloc (Nat.le_refl _) _)
theorem Blk.cell {W : World} {g : Nat} {t : TypeId} {cs : Array Value} (h : Blk W g t cs) (i : Nat) : W.cell? ⟨g, i, none⟩ = cs[i]? := by
  simp [World.cell?, show W.heap[g]? = _ from h]
theorem Blk.frozen {W : World} {g : Nat} {t : TypeId} {cs : Array Value} (h : Blk W g t cs) (i : Nat) : W.frozen? ⟨g, i, none⟩ = false := frozen_of_row W g i cs t h
theorem Blk.set {W : World} {g : Nat} {t : TypeId} {cs : Array Value} (h : Blk W g t cs) (i : Nat) (v : Value) : Blk (W.setCell ⟨g, i, none⟩ v) g t (cs.setIfInBounds i v) := heap_setCell_same W g i cs t v h
theorem Blk.other {W : World} {g : Nat} {t : TypeId} {cs : Array Value} (h : Blk W g t cs) (a : Addr) (v : Value) (hne : g ≠ a.block) : Blk (W.setCell a v) g t cs := by
  unfold Blk at *
  rw [heap_setCell_other W a g v hne]
  exact h

theorem Blk.loads {P : Program} {W : World} {g : Nat} {t : TypeId} {cs : Array Value} (h : Blk W g t cs) (ty : TypeId) (d : TypeDesc) (hu : P.underlying ty = some d)
    (hd : (match d with | .struct _ | .array _ _ => true | _ => false) = true) (hi : (P.info? ty).map (·.size) = some cs.size) : (Instr.loadAt ty (.pointer (some ⟨g, 0, none⟩))).run P W = .ok (.agg cs) W := by
  simp only [Instr.loadAt, Instr.sureAddr, Sem.run_bind, Sem.run_pure, Result.andThen_ok]
  exact run_loadVar_row W g t ty cs (0, 0) d h hu hd hi

theorem Blk.stores {P : Program} {W : World} {g : Nat} {t : TypeId} {old : Array Value} (h : Blk W g t old) (ty : TypeId) (cs : Array Value) (hi : (P.info? ty).map (·.size) = some cs.size) (ho : old.size = cs.size)
    (h1 : cs.all (·.oneCell') = true) : (Instr.storeAt ty (.pointer (some ⟨g, 0, none⟩)) (.agg cs)).run P W = .ok () (W.setRow g cs) := by
  simp only [Instr.storeAt, Instr.sureAddr, Sem.run_bind, Sem.run_pure, Result.andThen_ok]
  exact run_storeVar_row W g t ty old cs h hi ho h1

theorem Blk.row {W : World} {g : Nat} {t : TypeId} {old : Array Value} (h : Blk W g t old) (cs : Array Value) : Blk (W.setRow g cs) g t cs := setRow_heap W g old cs t _ h
theorem Blk.rowOther {W : World} {g k : Nat} {t : TypeId} {cs : Array Value} (h : Blk W g t cs) (xs : Array Value) (hne : g ≠ k) : Blk (W.setRow k xs) g t cs := by
  unfold Blk at *
  rw [setRow_other W k g xs hne]
  exact h
theorem below_setRow {B : Nat} {w W : World} (h : Below B w W) (g : Nat) (cs : Array Value) (hg : B ≤ g) : Below B w (W.setRow g cs) :=
  ⟨h.os, h.tape, h.output, by simpa using h.size, fun k hk => by rw [setRow_other W g k cs (by omega)]; exact h.block k hk⟩

end Go.Proofs.YthaggdkfaglgaaaGreatDoor

/- A region that draws its order, whose operations only add to the memory: each operation has a fact about its value that stays true while the memory grows; whatever the order, all facts hold at the end. -/
namespace Go.Proofs.YthaggdkfaglgaaaGreatDoor.Reg
set_option maxRecDepth 20000
open Go

/-- What an operand is, the slots given as a function. -/
def evalBy (x : Tmp → Value) : Operand → Value
  | .tmp t => x t
  | .const v => v
  | .global g => .pointer (some ⟨g, 0, none⟩)
  | .func f => .func (.func f) #[] #[]

theorem evalBy_eq (a : Act) : a.eval = evalBy (fun t => a.tmps.getD t undef) := by
  funext o; cases o <;> rfl

/-- The operation's run ends with a value of which R holds in the world that it leaves. -/
def givesUpon (P : Program) (R : Value → World → Prop) : Result Next → Prop
  | .ok (.value v) w' => R v w'
  | .ok .skip w' => R undef w'
  | .ok (.enter f args) w' => Calls P f args w' (fun e w'' => ∃ v, e = .returned v ∧ R v w'')
  | _ => False

def gives (P : Program) (o : Oper) (x : Tmp → Value) (w : World) (R : Value → World → Prop) : Prop := givesUpon P R ((execOp (evalBy x) o).run P w)

theorem gives_value {P : Program} {o : Oper} {x : Tmp → Value} {w w' : World} {R : Value → World → Prop} {v : Value} (h : (execOp (evalBy x) o).run P w = .ok (.value v) w') (hR : R v w') : gives P o x w R := by
  unfold gives; rw [h]; exact hR

theorem gives_enter {P : Program} {o : Oper} {x : Tmp → Value} {w w' : World} {R : Value → World → Prop} {f : FuncId} {args : Array Value} (h : (execOp (evalBy x) o).run P w = .ok (.enter f args) w') (hR : Calls P f args w' (fun e w'' => ∃ v, e = .returned v ∧ R v w'')) : gives P o x w R := by
  unfold gives; rw [h]; exact hR

theorem wp_of_gives {P : Program} {o : Oper} {a : Act} {w : World} {R : Value → World → Prop} {K : Act → World → Prop} {Q : Exit → Act → World → Prop}
    (h : gives P o (fun t => a.tmps.getD t undef) w R) (hK : ∀ v w', R v w' → K (a.put o.dst v) w') : o.wp P a w K Q := by
  unfold gives at h
  rw [← evalBy_eq] at h
  unfold Oper.wp
  generalize (execOp a.eval o).run P w = r at *
  cases r with
  | ok n w' =>
    cases n <;> simp only [givesUpon] at h <;> simp only [Oper.upon]
    case value u => exact hK _ _ h
    case skip => exact hK _ _ h
    case enter f args => exact h.mono fun e w'' ⟨v, he, hv⟩ => by subst he; exact hK _ _ hv
  | halt x w' => simp only [givesUpon] at h

/-- Slot k is written by no operation that is still to come. -/
def known (ops : Array Oper) (listed : Array Bool) (k : Tmp) : Prop := ∀ (i : Nat) (o : Oper), ops[i]? = some o → o.dst = some k → listed.getD i false = true

/-- Every operation waits for those whose values it looks at; every edge leads back. -/
def sound (ops : Array Oper) : Bool :=
  (List.range ops.size).all fun i => match ops[i]? with
    | none => true
    | some o => (o.after.all fun e => !Region.binds .any e || decide (e.on < i)) &&
        (o.looksAt ops).all fun k => (List.range ops.size).all fun j => match ops[j]? with
          | none => true
          | some o' => o'.dst != some k || o.after.any fun e => Region.binds .any e && e.on == j

/-- The guard, the slots given as a function. -/
def wantedBy (ops : Array Oper) (o : Oper) (x : Tmp → Value) : Prop :=
  match o.guard with
  | none => True
  | some (j, want) => ∃ d, (ops[j]?).bind (·.dst) = some d ∧ x d = .bool want

/-- The operations that one waits for, directly. -/
def preds (ops : Array Oper) (i : Nat) : List Nat := match ops[i]? with
  | some o => (o.after.toList.filter (Region.binds .any)).map (·.on)
  | none => []

/-- All that each operation waits for, through whatever chain: a table, and the look whether it is no more than that. -/
def table (ops : Array Oper) : List (List Nat) :=
  (List.range ops.size).foldl (fun acc i => acc ++ [((preds ops i) ++ (preds ops i).flatMap fun m => acc.getD m []).eraseDups]) []

def tableOk (ops : Array Oper) (tab : List (List Nat)) : Bool :=
  (List.range ops.size).all fun i => (tab.getD i []).all fun j => (preds ops i).contains j || (preds ops i).any fun m => decide (m < i) && (tab.getD m []).contains j

/-- Behind operation i the value in slot k may still be looked at: it is wanted at the end, or by an operation that i doesn't wait for. -/
def live (ops : Array Oper) (tab : List (List Nat)) (fin : List Tmp) (i : Nat) (k : Tmp) : Bool :=
  fin.contains k || (List.range ops.size).any fun j => match ops[j]? with
    | some o => (o.looksAt ops).contains k && !(j == i) && !(tab.getD i []).contains j
    | none => false

/-- What is asked of one operation. -/
def asked (P : Program) (ops : Array Oper) (tab : List (List Nat)) (fin : List Tmp) (G : World → Prop) (F : Tmp → Value → World → Prop) (i : Nat) (o : Oper) : Prop :=
  ∀ (x : Tmp → Value) (W : World), G W → (∀ k, (o.looksAt ops).contains k = true → F k (x k) W) →
    wantedBy ops o x ∧ gives P o x W (fun v W' => G W' ∧ (∀ k u, o.dst ≠ some k → live ops tab fin i k = true → F k u W → F k u W') ∧ ∀ k, o.dst = some k → F k v W')

/-- A slot's value is still wanted. -/
def wantedStill (ops : Array Oper) (fin : List Tmp) (listed : Array Bool) (k : Tmp) : Prop :=
  fin.contains k = true ∨ ∃ (j : Nat) (o : Oper), ops[j]? = some o ∧ (o.looksAt ops).contains k = true ∧ listed.getD j false = false

structure Inv (ops : Array Oper) (fin : List Tmp) (G : World → Prop) (F : Tmp → Value → World → Prop) (a0 : Act) (listed : Array Bool) (a : Act) (W : World) : Prop where
  grown : G W
  defers : a.defers = a0.defers
  size : a.tmps.size = a0.tmps.size
  lsize : listed.size = ops.size
  down : ∀ (i : Nat) (o : Oper), ops[i]? = some o → listed.getD i false = true → ∀ j ∈ preds ops i, listed.getD j false = true
  facts : ∀ k, known ops listed k → wantedStill ops fin listed k → F k (a.tmps.getD k undef) W

theorem mem_set {listed : Array Bool} {i j : Nat} (h : (listed.setIfInBounds i true).getD j false = true) : j = i ∨ listed.getD j false = true := by
  by_cases hij : j = i
  · exact .inl hij
  · right
    rw [Array.getD_eq_getD_getElem?, Array.getElem?_setIfInBounds_ne (Ne.symm hij), ← Array.getD_eq_getD_getElem?] at h
    exact h

theorem set_mem {listed : Array Bool} {i j : Nat} (h : listed.getD j false = true) : (listed.setIfInBounds i true).getD j false = true := by
  by_cases hij : i = j
  · subst hij
    have hlt : i < listed.size := by
      rcases Nat.lt_or_ge i listed.size with h1 | h1
      · exact h1
      · rw [Array.getD_eq_getD_getElem?, Array.getElem?_eq_none h1] at h; cases h
    rw [Array.getD_eq_getD_getElem?, Array.getElem?_setIfInBounds_self_of_lt hlt]; rfl
  · rw [Array.getD_eq_getD_getElem?, Array.getElem?_setIfInBounds_ne hij, ← Array.getD_eq_getD_getElem?]
    exact h

theorem set_self {listed : Array Bool} {i : Nat} (hlt : i < listed.size) : (listed.setIfInBounds i true).getD i false = true := by
  rw [Array.getD_eq_getD_getElem?, Array.getElem?_setIfInBounds_self_of_lt hlt]; rfl

theorem mem_preds {ops : Array Oper} {i : Nat} {o : Oper} (hi : ops[i]? = some o) {j : Nat} : j ∈ preds ops i ↔ ∃ e ∈ o.after, Region.binds .any e = true ∧ e.on = j := by
  unfold preds
  rw [hi]
  simp only [List.mem_map, List.mem_filter, Array.mem_toList_iff]
  constructor
  · rintro ⟨e, ⟨h1, h2⟩, h3⟩; exact ⟨e, h1, h2, h3⟩
  · rintro ⟨e, h1, h2, h3⟩; exact ⟨e, ⟨h1, h2⟩, h3⟩

/-- Whatever an operation waits for through a chain is listed, once its direct ones are. -/
theorem table_listed {ops : Array Oper} {tab : List (List Nat)} (ht : tableOk ops tab = true) {listed : Array Bool}
    (hdown : ∀ (i : Nat) (o : Oper), ops[i]? = some o → listed.getD i false = true → ∀ j ∈ preds ops i, listed.getD j false = true) :
    ∀ (i : Nat), i < ops.size → (∀ j ∈ preds ops i, listed.getD j false = true) → ∀ j ∈ tab.getD i [], listed.getD j false = true := by
  intro i
  induction i using Nat.strongRecOn with
  | ind i ih =>
    intro hi hp j hj
    unfold tableOk at ht
    have h1 := List.all_eq_true.1 ht i (List.mem_range.2 hi)
    have h2 := List.all_eq_true.1 h1 j hj
    rw [Bool.or_eq_true] at h2
    rcases h2 with h2 | h2
    · exact hp j (by simpa using h2)
    · obtain ⟨m, hm, h3⟩ := List.any_eq_true.1 h2
      simp only [Bool.and_eq_true, decide_eq_true_eq] at h3
      have hml : m < ops.size := by omega
      exact ih m h3.1 hml (hdown m ops[m] (by simp [hml]) (hp m hm)) j (by simpa using h3.2)

theorem inv_step {ops : Array Oper} {tab : List (List Nat)} {fin : List Tmp} {G : World → Prop} {F : Tmp → Value → World → Prop} {a0 a : Act} {listed : Array Bool} {W W' : World} {i : Nat} {o : Oper} {v : Value}
    (ht : tableOk ops tab = true) (h : Inv ops fin G F a0 listed a W) (hi : ops[i]? = some o) (hp : ∀ j ∈ preds ops i, listed.getD j false = true) (hd : ∀ d, o.dst = some d → d < a0.tmps.size) (hG : G W')
    (hm : ∀ k u, o.dst ≠ some k → live ops tab fin i k = true → F k u W → F k u W') (hv : ∀ k, o.dst = some k → F k v W') :
    Inv ops fin G F a0 (listed.setIfInBounds i true) (a.put o.dst v) W' := by
  have hil : i < ops.size := (Array.getElem?_eq_some_iff.1 hi).1
  refine ⟨hG, ?_, ?_, by simpa using h.lsize, ?_, ?_⟩
  · cases hdst : o.dst <;> simp [Act.put, h.defers]
  · cases hdst : o.dst <;> simp [Act.put, h.size]
  · intro j oj hj hlj m hmj
    rcases mem_set hlj with rfl | hlj
    · exact set_mem (hp m hmj)
    · exact set_mem (h.down j oj hj hlj m hmj)
  · intro k hk hw
    by_cases hkd : o.dst = some k
    · have := hv k hkd
      have hlt : k < a.tmps.size := by rw [h.size]; exact hd k hkd
      rw [hkd]
      simp only [Act.put, Array.getD_eq_getD_getElem?, Array.getElem?_setIfInBounds_self_of_lt hlt, Option.getD_some]
      exact this
    · have e : (a.put o.dst v).tmps.getD k undef = a.tmps.getD k undef := by
        cases hdst : o.dst with
        | none => rfl
        | some d =>
          have : d ≠ k := fun e => hkd (by rw [hdst, e])
          simp only [Act.put, Array.getD_eq_getD_getElem?, Array.getElem?_setIfInBounds_ne this]
      rw [e]
      have hlive : live ops tab fin i k = true := by
        unfold live
        rw [Bool.or_eq_true]
        rcases hw with hw | ⟨j, oj, hj, hl, hun⟩
        · exact .inl hw
        · right
          refine List.any_eq_true.2 ⟨j, List.mem_range.2 (Array.getElem?_eq_some_iff.1 hj).1, ?_⟩
          have hji : j ≠ i := by
            rintro rfl
            rw [set_self (by rw [h.lsize]; exact hil)] at hun
            cases hun
          have hjt : (tab.getD i []).contains j = false := by
            cases hq : (tab.getD i []).contains j with
            | false => rfl
            | true =>
              have h1 := table_listed ht h.down i hil hp j (by simpa using hq)
              rw [set_mem h1] at hun
              cases hun
          have hji' : (j == i) = false := by simpa using hji
          simp only [hj, hl, hjt, hji', Bool.not_false, Bool.and_self]
      refine hm _ _ hkd hlive (h.facts k (fun j oj hj hdj => ?_) ?_)
      · rcases mem_set (hk j oj hj hdj) with rfl | h2
        · rw [hi] at hj
          cases hj
          exact absurd hdj hkd
        · exact h2
      · rcases hw with hw | ⟨j, oj, hj, hl, hun⟩
        · exact .inl hw
        · refine .inr ⟨j, oj, hj, hl, ?_⟩
          cases hq : listed.getD j false with
          | false => rfl
          | true => rw [set_mem hq] at hun; cases hun

theorem sound_edge {ops : Array Oper} (h : sound ops = true) {i : Nat} {o : Oper} (hi : ops[i]? = some o) : (∀ e ∈ o.after, Region.binds .any e = true → e.on < i) ∧
    ∀ k ∈ o.looksAt ops, ∀ j o', ops[j]? = some o' → o'.dst = some k → ∃ e ∈ o.after, Region.binds .any e = true ∧ e.on = j := by
  unfold sound at h
  rw [List.all_eq_true] at h
  have hlt : i < ops.size := (Array.getElem?_eq_some_iff.1 hi).1
  have h1 := h i (List.mem_range.2 hlt)
  simp only [hi, Bool.and_eq_true, List.all_eq_true, List.mem_range] at h1
  obtain ⟨h2, h3⟩ := h1
  refine ⟨fun e he hb => ?_, fun k hk j o' hj hd => ?_⟩
  · have := Array.all_eq_true_iff_forall_mem.1 h2 e he
    simpa [hb] using this
  · have := h3 k hk j (Array.getElem?_eq_some_iff.1 hj).1
    simp only [hj, hd, bne_self_eq_false, Bool.false_or] at this
    obtain ⟨e, he, h4⟩ := Array.any_eq_true'.1 this
    simp only [Bool.and_eq_true, beq_iff_eq] at h4
    exact ⟨e, he, h4.1, h4.2⟩

theorem wanted_of {ops : Array Oper} {o : Oper} {a : Act} (h : wantedBy ops o (fun t => a.tmps.getD t undef)) : Region.wanted o (yielded ops a.tmps) = true := by
  unfold wantedBy at h
  unfold Region.wanted
  cases hg : o.guard with
  | none => rfl
  | some p =>
    obtain ⟨j, want⟩ := p
    rw [hg] at h
    obtain ⟨d, hd, hx⟩ := h
    have : a.tmps[d]? = some (.bool want) := by
      have hx : a.tmps.getD d undef = .bool want := hx
      rw [Array.getD_eq_getD_getElem?] at hx
      cases hq : a.tmps[d]? with
      | none => rw [hq] at hx; simp [undef] at hx
      | some u => rw [hq] at hx; simpa using hx
    simp [yielded, hd, this]

/-- How many have not come up. -/
def left (listed : Array Bool) : Nat := (listed.toList.filter (!·)).length

theorem count_set (l : List Bool) : ∀ i, l[i]? = some false → ((l.set i true).filter (!·)).length + 1 = (l.filter (!·)).length := by
  induction l with
  | nil => intro i h; simp at h
  | cons b l ih =>
    intro i h
    cases i with
    | zero => simp at h; subst h; simp
    | succ i =>
      have := ih i (by simpa using h)
      cases b <;> simp at this ⊢ <;> omega

theorem left_set {listed : Array Bool} {i : Nat} (h : listed.getD i true = false) : left (listed.setIfInBounds i true) + 1 = left listed := by
  have hi : i < listed.size := by
    rcases Nat.lt_or_ge i listed.size with h1 | h1
    · exact h1
    · rw [Array.getD_eq_getD_getElem?, Array.getElem?_eq_none h1] at h; cases h
  unfold left
  rw [Array.toList_setIfInBounds]
  refine count_set _ _ ?_
  rw [Array.getD_eq_getD_getElem?, Array.getElem?_eq_getElem hi] at h
  simp [hi]
  simpa using h

/-- Where nothing may come up all has come up: the least that has not could. -/
theorem all_listed {ops : Array Oper} (hs : sound ops = true) {listed : Array Bool} (hl : listed.size = ops.size) (hr : Region.ready .any ops listed = []) : ∀ i, i < ops.size → listed.getD i false = true := by
  intro i
  induction i using Nat.strongRecOn with
  | ind i ih =>
    intro hi
    cases hq : listed.getD i false with
    | true => rfl
    | false =>
      exfalso
      have hm : i ∈ Region.ready .any ops listed := by
        rw [mem_ready]
        refine ⟨?_, ops[i], by simp [hi], fun e he hb => ?_⟩
        · rw [Array.getD_eq_getD_getElem?, Array.getElem?_eq_getElem (by omega)] at hq ⊢
          exact hq
        · have := (sound_edge hs (show ops[i]? = some ops[i] by simp [hi])).1 e he hb
          exact ih e.on this (by omega)
      rw [hr] at hm
      cases hm

theorem any_of_inv {P : Program} {ops : Array Oper} {tab : List (List Nat)} {fin : List Tmp} {G : World → Prop} {F : Tmp → Value → World → Prop} {a0 : Act} {Q : Exit → Act → World → Prop} (hs : sound ops = true) (ht : tableOk ops tab = true)
    (hd : ∀ (i : Nat) (o : Oper), ops[i]? = some o → ∀ d, o.dst = some d → d < a0.tmps.size)
    (hops : ∀ (i : Nat) (o : Oper), ops[i]? = some o → asked P ops tab fin G F i o)
    (hend : ∀ a W, G W → a.defers = a0.defers → a.tmps.size = a0.tmps.size → (∀ k, fin.contains k = true → F k (a.tmps.getD k undef) W) → Q .normal a W) :
    ∀ (fuel : Nat) (listed : Array Bool) (a : Act) (W : World), left listed ≤ fuel → Inv ops fin G F a0 listed a W → wpAny P .any ops Q fuel listed a W := by
  have done : ∀ (listed : Array Bool) (a : Act) (W : World), Inv ops fin G F a0 listed a W → Region.ready .any ops listed = [] → Q .normal a W := fun listed a W h hr =>
    hend a W h.grown h.defers h.size fun k hk => h.facts k (fun i o hi _ => all_listed hs h.lsize hr i (Array.getElem?_eq_some_iff.1 hi).1) (.inl hk)
  intro fuel
  induction fuel with
  | zero =>
    intro listed a W hf h
    have hr : Region.ready .any ops listed = [] := by
      cases hq : Region.ready .any ops listed with
      | nil => rfl
      | cons j js =>
        have hj : j ∈ Region.ready .any ops listed := by rw [hq]; simp
        have := left_set (mem_ready.1 hj).1
        omega
    exact ⟨hr, done listed a W h hr⟩
  | succ fuel ih =>
    intro listed a W hf h
    refine ⟨fun hr => done listed a W h hr, fun i hi => ?_⟩
    obtain ⟨hun, o, ho, hall⟩ := mem_ready.1 hi
    have hil : i < ops.size := (Array.getElem?_eq_some_iff.1 ho).1
    have hun' : listed.getD i false = false := by
      rw [Array.getD_eq_getD_getElem?, Array.getElem?_eq_getElem (by rw [h.lsize]; exact hil)] at hun ⊢
      exact hun
    have hsd := sound_edge hs ho
    have hp : ∀ j ∈ preds ops i, listed.getD j false = true := fun j hj => by
      obtain ⟨e, he, hb, rfl⟩ := (mem_preds ho).1 hj
      exact hall e he hb
    have hF : ∀ k, (o.looksAt ops).contains k = true → F k (a.tmps.getD k undef) W := fun k hk => h.facts k (fun j oj hj hdj => by
      obtain ⟨e, he, hb, rfl⟩ := hsd.2 k (by simpa using hk) j oj hj hdj
      exact hall e he hb) (.inr ⟨i, o, ho, hk, hun'⟩)
    obtain ⟨hw, hg⟩ := hops i o ho (fun t => a.tmps.getD t undef) W h.grown hF
    unfold wpOp
    simp only [ho, wanted_of hw, if_true]
    refine .inl (wp_of_gives hg fun v w' ⟨h1, h2, h3⟩ => ih _ _ _ ?_ (inv_step ht h ho hp (hd i o ho) h1 h2 h3))
    have := left_set hun
    omega

/-- **A REGION BY ITS FACTS.** -/
theorem wp_region_facts {P : Program} {ops : Array Oper} {id : Nat} {a : Act} {w : World} {Q : Exit → Act → World → Prop} (tab : List (List Nat)) (fin : List Tmp) (G : World → Prop) (F : Tmp → Value → World → Prop)
    (hm : P.follows .mixedOrders = true) (hs : sound ops = true) (ht : tableOk ops tab = true) (hd : (ops.all fun o => (o.dst.map fun d => decide (d < a.tmps.size)).getD true) = true)
    (hG : G w.drew) (h0 : ∀ k, F k (a.tmps.getD k undef) w.drew ∨ (ops.any fun o => o.dst == some k) = true)
    (hops : ∀ (i : Nat) (o : Oper), ops[i]? = some o → asked P ops tab fin G F i o)
    (hend : ∀ a' W, G W → a'.defers = a.defers → a'.tmps.size = a.tmps.size → (∀ k, fin.contains k = true → F k (a'.tmps.getD k undef) W) → Q .normal a' W) : (Code.region id ops true).wp P Q a w := by
  refine wp_region_any hm (any_of_inv (tab := tab) (fin := fin) (G := G) (F := F) (a0 := a) hs ht ?_ hops hend _ _ _ _ ?_ ?_)
  · intro i o hi d hdst
    have := Array.all_eq_true_iff_forall_mem.1 hd o (Array.mem_of_getElem? hi)
    simpa [hdst] using this
  · unfold left
    refine Nat.le_trans (List.length_filter_le _ _) (by simp)
  · refine ⟨hG, rfl, rfl, by simp, fun i o hi hl => ?_, fun k hk _ => ?_⟩
    · rw [Array.getD_eq_getD_getElem?] at hl
      simp [Array.getElem?_replicate] at hl
      split at hl <;> simp at hl
    · rcases h0 k with h | h
      · exact h
      · obtain ⟨o, ho, hdst⟩ := Array.any_eq_true'.1 h
        obtain ⟨i, hi⟩ := Array.mem_iff_getElem?.1 ho
        have := hk i o hi (by simpa using hdst)
        rw [Array.getD_eq_getD_getElem?] at this
        simp [Array.getElem?_replicate] at this
        split at this <;> simp at this

end Go.Proofs.YthaggdkfaglgaaaGreatDoor.Reg

/- The facts that regions are told by: a value, the bytes of a slice, a row of the call's own. -/
namespace Go.Proofs.YthaggdkfaglgaaaGreatDoor
set_option maxRecDepth 20000
open Go.RowKit Reg

/-- append in a walk, by whatever is known of its run. -/
theorem wpList_append_by {P : Program} {w : World} {ops : Array Oper} {rest : List Oper} {o : Oper} {a : Act} {Q : Exit → Act → World → Prop} (hgd : o.guard = none) (s x : Operand) (t : TypeId)
    (ho : o.op = .call { callee := .builtin .append, args := #[s, x], argTypes := #[t, t] }) (v y : Value) (hs : a.eval s = v) (hx : a.eval x = y) (R : Value → World → Prop)
    (hr : ∃ v' w', (Builtin.append_ #[t, t] o.type #[v, y]).run P w = .ok v' w' ∧ R v' w')
    (h : ∀ v' w', R v' w' → wpList P ops Q rest (a.put o.dst v') w') : wpList P ops Q (o :: rest) a w := by
  obtain ⟨v', w', hrun, hR⟩ := hr
  refine wpList_plain hgd fun K hK => ?_
  unfold Oper.wp
  simp [execOp, ho, resolve, invoke, builtin, hs, hx, hrun, Result.andThen]
  exact hK _ _ (h v' w' hR)

/-- The shape of a row that isn't empty. -/
theorem Row.shape {w : World} {B : Nat} {v : Value} {l : List UInt8} (h : Row w B v l) (hl : l ≠ []) : ∃ g cap, v = .slice (some ⟨g, 0, none⟩) l.length cap ∧ B ≤ g ∧ g < w.heap.size ∧ l.length ≤ cap ∧ cap ≤ maxLen := by
  rcases h.2 with ⟨_, h0⟩ | ⟨g, cap, cur, hv, hB, hg, hn, hm, hs, ht⟩
  · exact absurd (List.eq_nil_of_length_eq_zero h0) hl
  · exact ⟨g, cap, hv, hB, (Array.getElem?_eq_some_iff.1 hg).1, hn, hm⟩

/-- A beginning of a row. -/
theorem Row.bys_take {w : World} {B g cap : Nat} {l : List UInt8} (h : Row w B (.slice (some ⟨g, 0, none⟩) l.length cap) l) (k : Nat) (hk : k ≤ l.length) : Bys w (.slice (some ⟨g, 0, none⟩) k cap) (l.take k) := by
  have e : (l.take k).length = k := by rw [List.length_take]; omega
  refine .inr ⟨⟨g, 0, none⟩, cap, by rw [e], fun i hi => ?_⟩
  rw [e] at hi
  rw [addr_add, Nat.zero_add, World.ownsRow.cellAt h i (by omega)]
  have : i < l.length := by omega
  simp [this]

/-- A beginning of a slice. -/
theorem Bys.take {w : World} {a : Option Addr} {len cap : Nat} {l : List UInt8} (h : Bys w (.slice a len cap) l) (k : Nat) (hk : k ≤ l.length) : Bys w (.slice a k cap) (l.take k) := by
  rcases h with ⟨h1, rfl⟩ | ⟨ad, cap', h1, hc⟩
  · simp at h1 hk
    obtain ⟨rfl, rfl, rfl⟩ := h1
    subst hk
    exact .inl ⟨rfl, rfl⟩
  · simp at h1
    obtain ⟨rfl, rfl, rfl⟩ := h1
    have e : (l.take k).length = k := by rw [List.length_take]; omega
    refine .inr ⟨ad, cap, by rw [e], fun i hi => ?_⟩
    rw [e] at hi
    rw [hc i (by omega)]
    simp

theorem byte_bys (w : World) (c : UInt8) : Bys (w.alloc (.cells #[bv c] 5)) (.slice (some ⟨w.heap.size, 0, none⟩) 1 1) [c] :=
  .inr ⟨⟨w.heap.size, 0, none⟩, 1, rfl, fun i hi => by
    obtain rfl : i = 0 := by simp at hi; exact hi
    simp [Addr.add, World.cell?_alloc_at]⟩

inductive Fact
  | is (v : Value)
  | bys (l : List UInt8)
  | row (B : Nat) (l : List UInt8)
  | lit (B : Nat)
  | any
  | sat (p : Value → World → Prop) (h : ∀ v W W', p v W → Below W.heap.size W W' → p v W')

def Fact.holds : Fact → Value → World → Prop
  | .is c, v, _ => v = c
  | .bys l, v, w => Bys w v l
  | .row B l, v, w => Row w B v l
  | .lit B, v, w => ∃ g, v = .slice (some ⟨g, 0, none⟩) 0 0 ∧ B ≤ g ∧ w.heap[g]? = some (.cells #[] 5 (0, 0))
  | .any, _, _ => True
  | .sat p _, v, w => p v w

/-- It speaks of no memory. -/
def Fact.still : Fact → Bool
  | .is _ | .any => true
  | _ => false

theorem Row.below {w w' : World} {B : Nat} {v : Value} {l : List UInt8} (h : Row w B v l) (hb : Below w.heap.size w w') : Row w' B v l := by
  rcases h with ⟨h1, h2⟩
  refine ⟨h1, ?_⟩
  rcases h2 with h2 | ⟨g, cap, cur, hv, hB, hg, r⟩
  · exact .inl h2
  · have hlt : g < w.heap.size := (Array.getElem?_eq_some_iff.1 hg).1
    exact .inr ⟨g, cap, cur, hv, hB, by rw [hb.block g hlt]; exact hg, r⟩

theorem Fact.below {f : Fact} {w w' : World} {v : Value} (h : f.holds v w) (hb : Below w.heap.size w w') : f.holds v w' := by
  cases f with
  | is c => exact h
  | bys l => exact Bys.below h (Nat.le_refl _) hb
  | row B l => exact Row.below h hb
  | lit B =>
    obtain ⟨g, h1, h2, h3⟩ := h
    exact ⟨g, h1, h2, by rw [hb.block g (Array.getElem?_eq_some_iff.1 h3).1]; exact h3⟩
  | any => trivial
  | sat p hp => exact hp _ _ _ h hb

theorem Fact.stays {f : Fact} {w w' : World} {v : Value} (hf : f.still = true) (h : f.holds v w) : f.holds v w' := by
  cases f <;> first | exact h | trivial | cases hf

def factsOf (l : List (Tmp × Fact)) (a : Act) (k : Tmp) : Fact := (l.lookup k).getD (.is (a.tmps.getD k undef))

def opFact (f : Tmp → Fact) : Operand → Fact
  | .tmp k => f k
  | .const v => .is v
  | .global g => .is (.pointer (some ⟨g, 0, none⟩))
  | .func n => .is (.func (.func n) #[] #[])

/-- The guard is known to say yes. -/
def guardOk (ops : Array Oper) (f : Tmp → Fact) (o : Oper) : Prop :=
  match o.guard with
  | none => True
  | some (j, b) => ∃ d, (ops[j]?).bind (·.dst) = some d ∧ f d = .is (.bool b)

theorem guard_none {ops : Array Oper} {f : Tmp → Fact} {o : Oper} (h : o.guard = none) : guardOk ops f o := by
  unfold guardOk; rw [h]; trivial

theorem guard_some {ops : Array Oper} {f : Tmp → Fact} {o : Oper} {j : Nat} {b : Bool} {d : Tmp} (h : o.guard = some (j, b)) (hd : (ops[j]?).bind (·.dst) = some d) (hf : f d = .is (.bool b)) : guardOk ops f o := by
  unfold guardOk; rw [h]; exact ⟨d, hd, hf⟩

/-- An operand's value, where it is known. -/
def opVal (f : Tmp → Fact) (s : Operand) : Value := match opFact f s with
  | .is v => v
  | _ => undef

def isIs : Fact → Bool
  | .is _ => true
  | _ => false

section
variable {P : Program} {ops : Array Oper} {tab : List (List Nat)} {fin : List Tmp} {G : World → Prop} {f : Tmp → Fact} {i : Nat} {o : Oper}

/-- What an operation may lean on. -/
def Told (ops : Array Oper) (f : Tmp → Fact) (o : Oper) (x : Tmp → Value) (W : World) : Prop := ∀ k, (o.looksAt ops).contains k = true → (f k).holds (x k) W

def Asked (P : Program) (ops : Array Oper) (tab : List (List Nat)) (fin : List Tmp) (G : World → Prop) (f : Tmp → Fact) (i : Nat) (o : Oper) : Prop :=
  asked P ops tab fin G (fun k v W => (f k).holds v W) i o

theorem guard_ok {x : Tmp → Value} {W : World} (hg : guardOk ops f o) (hk : Told ops f o x W) : wantedBy ops o x := by
  unfold guardOk at hg
  unfold wantedBy
  cases hgd : o.guard with
  | none => trivial
  | some p =>
    obtain ⟨j, b⟩ := p
    rw [hgd] at hg
    obtain ⟨d, hd, hf⟩ := hg
    refine ⟨d, hd, ?_⟩
    have h := hk d (by simp [Oper.looksAt, hgd, hd])
    rw [hf] at h
    exact h

theorem ask_grow (hG : ∀ W W', G W → Below W.heap.size W W' → G W') (hg : guardOk ops f o)
    (h : ∀ x W, G W → Told ops f o x W → gives P o x W (fun v W' => Below W.heap.size W W' ∧ ∀ k, o.dst = some k → (f k).holds v W')) : Asked P ops tab fin G f i o := by
  intro x W hW hk
  refine ⟨guard_ok hg hk, ?_⟩
  have := h x W hW hk
  unfold gives at *
  generalize (execOp (evalBy x) o).run P W = r at *
  cases r with
  | ok n w' =>
    cases n <;> simp only [givesUpon] at this ⊢
    case value v => exact ⟨hG _ _ hW this.1, fun k u _ _ hu => Fact.below hu this.1, this.2⟩
    case skip => exact ⟨hG _ _ hW this.1, fun k u _ _ hu => Fact.below hu this.1, this.2⟩
    case enter g args => exact this.mono fun e w'' ⟨v, he, h1, h2⟩ => ⟨v, he, hG _ _ hW h1, fun k u _ _ hu => Fact.below hu h1, h2⟩
  | halt x w' => simp only [givesUpon] at this

theorem ask_val (hg : guardOk ops f o) (c : Value) (hd : ∀ k, o.dst = some k → f k = .is c) (h : ∀ x W, G W → Told ops f o x W → (execOp (evalBy x) o).run P W = .ok (.value c) W) : Asked P ops tab fin G f i o := by
  intro x W hW hk
  exact ⟨guard_ok hg hk, gives_value (h x W hW hk) ⟨hW, fun k u _ _ hu => hu, fun k hk => by show (f k).holds _ _; rw [hd k hk]; rfl⟩⟩

/-- An operation that may write what no later one looks at. -/
def stillBut (ops : Array Oper) (tab : List (List Nat)) (fin : List Tmp) (f : Tmp → Fact) (i : Nat) (o : Oper) : Bool :=
  (fin ++ ops.toList.flatMap (·.looksAt ops)).all fun k => o.dst == some k || !live ops tab fin i k || (f k).still

theorem still_but (h : stillBut ops tab fin f i o = true) (k : Tmp) (hne : o.dst ≠ some k) (hl : live ops tab fin i k = true) : (f k).still = true := by
  unfold stillBut at h
  have hm : k ∈ fin ++ ops.toList.flatMap (·.looksAt ops) := by
    unfold live at hl
    rw [Bool.or_eq_true] at hl
    rcases hl with hl | hl
    · exact List.mem_append_left _ (by simpa using hl)
    · obtain ⟨j, hj, h1⟩ := List.any_eq_true.1 hl
      refine List.mem_append_right _ (List.mem_flatMap.2 ?_)
      have hjl : j < ops.size := List.mem_range.1 hj
      refine ⟨ops[j], by simp, ?_⟩
      simp only [Array.getElem?_eq_getElem hjl, Bool.and_eq_true] at h1
      simpa using h1.1.1
  have := List.all_eq_true.1 h k hm
  simpa [hl, hne] using this

theorem ask_write (hg : guardOk ops f o) (hs : stillBut ops tab fin f i o = true)
    (h : ∀ x W, G W → Told ops f o x W → gives P o x W (fun v W' => G W' ∧ ∀ k, o.dst = some k → (f k).holds v W')) : Asked P ops tab fin G f i o := by
  intro x W hW hk
  refine ⟨guard_ok hg hk, ?_⟩
  have := h x W hW hk
  unfold gives at *
  generalize (execOp (evalBy x) o).run P W = r at *
  cases r with
  | ok n w' =>
    cases n <;> simp only [givesUpon] at this ⊢
    case value v => exact ⟨this.1, fun k u hne hl hu => Fact.stays (still_but hs k hne hl) hu, this.2⟩
    case skip => exact ⟨this.1, fun k u hne hl hu => Fact.stays (still_but hs k hne hl) hu, this.2⟩
    case enter g args => exact this.mono fun e w'' ⟨v, he, h1, h2⟩ => ⟨v, he, h1, fun k u hne hl hu => Fact.stays (still_but hs k hne hl) hu, h2⟩
  | halt x w' => simp only [givesUpon] at this

theorem told_op {x : Tmp → Value} {W : World} (hk : Told ops f o x W) (s : Operand) (hs : s ∈ o.op.operands.toList) : (opFact f s).holds (evalBy x s) W := by
  cases s with
  | tmp k => exact hk k (by simp only [Oper.looksAt, List.contains_eq_mem, decide_eq_true_eq]; exact List.mem_append_left _ (List.mem_filterMap.2 ⟨_, hs, rfl⟩))
  | const v => exact rfl
  | global g => exact rfl
  | func n => exact rfl

theorem ask_copy (hg : guardOk ops f o) (s : Operand) (ho : o.op = .move s ∨ o.op = .assign s) (hd : ∀ k, o.dst = some k → f k = opFact f s) : Asked P ops tab fin G f i o := by
  intro x W hW hk
  refine ⟨guard_ok hg hk, ?_⟩
  have hs : (opFact f s).holds (evalBy x s) W := told_op hk s (by rcases ho with ho | ho <;> rw [ho] <;> simp [Op.operands])
  refine gives_value (v := evalBy x s) (w' := W) ?_ ⟨hW, fun k u _ _ hu => hu, fun k hk => by show (f k).holds _ _; rw [hd k hk]; exact hs⟩
  rcases ho with ho | ho <;> simp [execOp, ho]

/-- Every operand is known; the operation leaves the memory alone. -/
theorem ask_exec (hg : guardOk ops f o) (c : Value) (hns : (match o.op with | .select .. => false | _ => true) = true) (hk : (o.op.operands.toList.all fun s => isIs (opFact f s)) = true) (hd : ∀ k, o.dst = some k → f k = .is c)
    (hrun : ∀ W, G W → (execOp (opVal f) o).run P W = .ok (.value c) W) : Asked P ops tab fin G f i o := by
  refine ask_val hg c hd fun x W hW ht => ?_
  have e : execOp (evalBy x) o = execOp (opVal f) o := execOp_congr o (fun cs b h => by rw [h] at hns; cases hns) fun s hs => by
    have h1 := told_op ht s (by simpa using hs)
    have h2 := List.all_eq_true.1 hk s (by simpa using hs)
    unfold opVal
    cases hf : opFact f s with
    | is v => rw [hf] at h1; exact h1
    | _ => rw [hf] at h2; cases h2
  rw [e]
  exact hrun W hW

theorem evalBy_opVal {x : Tmp → Value} {W : World} (hk : Told ops f o x W) (s : Operand) (hs : s ∈ o.op.operands.toList) {v : Value} (h : opFact f s = .is v) : evalBy x s = v := by
  have h1 := told_op hk s hs
  rw [h] at h1
  exact h1

theorem ask_bin (hg : guardOk ops f o) (b : BinOp) (ty tz : TypeId) (s t : Operand) (v1 v2 c : Value) (ho : o.op = .binOp b ty s t tz) (hs : opFact f s = .is v1) (ht : opFact f t = .is v2) (hd : ∀ k, o.dst = some k → f k = .is c)
    (hrun : ∀ W, (do eqGuard b ty s t v1 v2; binOp b ty v1 v2 : Sem Value).run P W = .ok c W) : Asked P ops tab fin G f i o := by
  refine ask_val hg c hd fun x W hW hk => ?_
  have e1 := evalBy_opVal hk s (by rw [ho]; simp [Op.operands]) hs
  have e2 := evalBy_opVal hk t (by rw [ho]; simp [Op.operands]) ht
  simp only [execOp, ho, e1, e2]
  rw [Sem.run_bind, hrun W]
  rfl

theorem ask_len (hg : guardOk ops f o) (s : Operand) (t : TypeId) (a : Option Addr) (n cap : Nat) (ho : o.op = .call { callee := .builtin .len, args := #[s], argTypes := #[t] }) (ht : P.underlying t = some (.slice (P.elem t))) (hs : opFact f s = .is (.slice a n cap))
    (hd : ∀ k, o.dst = some k → f k = .is (.int .i64 n)) : Asked P ops tab fin G f i o := by
  refine ask_val hg _ hd fun x W hW hk => ?_
  have e1 := evalBy_opVal hk s (by rw [ho]; simp [Op.operands, Call.operands]) hs
  have hr := run_len_slice (P := P) W t o.type a n cap ht
  simp [execOp, ho, resolve, invoke, builtin, e1, hr, Result.andThen, goInt]

theorem ask_slice (hg : guardOk ops f o) (ty : TypeId) (s : Operand) (lo hi mx : Option Operand) (v c : Value) (lo' hi' mx' : Option Value) (ho : o.op = .slice ty s lo hi mx) (hs : opFact f s = .is v) (hlo : lo.map (opFact f) = lo'.map .is) (hhi : hi.map (opFact f) = hi'.map .is) (hmx : mx.map (opFact f) = mx'.map .is) (hd : ∀ k, o.dst = some k → f k = .is c)
    (hrun : ∀ W, (Instr.sliceAt ty v lo' hi' mx').run P W = .ok c W) : Asked P ops tab fin G f i o := by
  refine ask_val hg c hd fun x W hW hk => ?_
  have e1 := evalBy_opVal hk s (by rw [ho]; simp [Op.operands]) hs
  have hop : ∀ (y : Option Operand) (y' : Option Value), (∀ q, y = some q → q ∈ o.op.operands.toList) → y.map (opFact f) = y'.map .is → y.map (evalBy x) = y' := by
    intro y y' hq h
    cases y with
    | none => cases y' with
      | none => rfl
      | some _ => cases h
    | some q => cases y' with
      | none => cases h
      | some q' =>
        simp at h
        simp [evalBy_opVal hk q (hq q rfl) h]
  have e2 := hop lo lo' (fun q h => by rw [ho, h]; simp [Op.operands]) hlo
  have e3 := hop hi hi' (fun q h => by rw [ho, h]; simp [Op.operands]) hhi
  have e4 := hop mx mx' (fun q h => by rw [ho, h]; simp [Op.operands]) hmx
  simp only [execOp, ho, e1, e2, e3, e4]
  rw [Sem.run_bind, hrun W]
  rfl

/-- 'c && a', 'c || a' with what c is known to be. -/
theorem ask_pick (hg : guardOk ops f o) (c a b : Operand) (t : Bool) (ho : o.op = .pick c a b) (hc : opFact f c = .is (.bool t)) (hd : ∀ k, o.dst = some k → f k = opFact f (if t then a else b)) : Asked P ops tab fin G f i o := by
  intro x W hW hk
  refine ⟨guard_ok hg hk, ?_⟩
  have h1 : evalBy x c = .bool t := by
    have := told_op hk c (by rw [ho]; simp [Op.operands])
    rw [hc] at this
    exact this
  have hs : (opFact f (if t then a else b)).holds (evalBy x (if t then a else b)) W := told_op hk _ (by rw [ho]; cases t <;> simp [Op.operands])
  refine gives_value (v := evalBy x (if t then a else b)) (w' := W) ?_ ⟨hW, fun k u _ _ hu => hu, fun k hk => by show (f k).holds _ _; rw [hd k hk]; exact hs⟩
  cases t <;> simp [execOp, ho, h1, asBool]

/-- Two texts that are the same. -/
theorem ask_same (hg : guardOk ops f o) (s t : Operand) (X : ByteArray) (ty tz : TypeId) (ho : o.op = .binOp .eql ty s t tz) (hs : opFact f s = .is (.string X)) (ht : opFact f t = .is (.string X)) (hd : ∀ k, o.dst = some k → f k = .is (.bool true)) : Asked P ops tab fin G f i o := by
  refine ask_val hg _ hd fun x W hW hk => ?_
  have h1 : evalBy x s = .string X := by
    have := told_op hk s (by rw [ho]; simp [Op.operands])
    rw [hs] at this
    exact this
  have h2 : evalBy x t = .string X := by
    have := told_op hk t (by rw [ho]; simp [Op.operands])
    rw [ht] at this
    exact this
  simp [execOp, ho, h1, h2, eqGuard, go_sem]

/-- append to what `[]byte{}` made. -/
theorem ask_append_lit (hG : ∀ W W', G W → Below W.heap.size W W' → G W') (hg : guardOk ops f o) (s t : Operand) (B : Nat) (l : List UInt8) (hty : o.type = 27)
    (ho : o.op = .call { callee := .builtin .append, args := #[s, t], argTypes := #[27, 27] }) (hs : opFact f s = .lit B) (ht : ∀ x W, G W → Told ops f o x W → Bys W (evalBy x t) l) (hl : l.length ≤ 140737488355328)
    (hd : ∀ k, o.dst = some k → f k = .row B l ∨ f k = .bys l) : Asked Tryz.prog ops tab fin G f i o := by
  refine ask_grow hG hg fun x W hW hk => ?_
  have h1 := told_op hk s (by rw [ho]; simp [Op.operands, Call.operands])
  rw [hs] at h1
  obtain ⟨g, e1, hB, hgw⟩ := h1
  obtain ⟨v', w', hr, h2, h3⟩ := append_lit hB hgw (ht x W hW hk) hl
  rw [← hty, ← e1] at hr
  refine gives_value (v := v') (w' := w') ?_ ⟨h3, fun k hk => ?_⟩
  · simp only [hty] at hr
    simp [execOp, ho, resolve, invoke, builtin, hty, hr, Result.andThen]
  · rcases hd k hk with h | h <;> rw [h]
    · exact h2
    · exact h2.bys

/-- append to a row of the call's own: it may be written in place. -/
theorem ask_append_row (hg : guardOk ops f o) (hst : stillBut ops tab fin f i o = true) (s t : Operand) (B : Nat) (l l' : List UInt8) (hty : o.type = 27)
    (ho : o.op = .call { callee := .builtin .append, args := #[s, t], argTypes := #[27, 27] }) (hs : opFact f s = .row B l) (ht : ∀ x W, G W → Told ops f o x W → Bys W (evalBy x t) l') (hl : l.length + l'.length ≤ 140737488355328)
    (hBG : ∀ W, G W → B ≤ W.heap.size) (hGg : ∀ W W' row, G W → W.grownBy W' row → (∀ k, row = some k → B ≤ k) → G W')
    (hd : ∀ k, o.dst = some k → f k = .row B (l ++ l') ∨ f k = .bys (l ++ l')) : Asked Tryz.prog ops tab fin G f i o := by
  refine ask_write hg hst fun x W hW hk => ?_
  have h1 := told_op hk s (by rw [ho]; simp [Op.operands, Call.operands])
  rw [hs] at h1
  obtain ⟨v', w', hr, h2, h3⟩ := append_bys (hBG W hW) h1 (ht x W hW hk) hl
  refine gives_value (v := v') (w' := w') ?_ ⟨hGg W w' _ hW h3 (fun k hk => (World.ownsRow.lt h1 k hk).1), fun k hk => ?_⟩
  · simp [execOp, ho, resolve, invoke, builtin, hty, hr, Result.andThen]
  · rcases hd k hk with h | h <;> rw [h]
    · exact h2
    · exact h2.bys

/-- 'string(v)'. -/
theorem ask_string (hg : guardOk ops f o) (s : Operand) (l : List UInt8) (hB : opFact f s = .bys l ∨ ∃ B, opFact f s = .row B l) (ho : o.op = .convert 27 9 s) (hd : ∀ k, o.dst = some k → f k = .is (.string ⟨l.toArray⟩)) :
    Asked Tryz.prog ops tab fin G f i o := by
  refine ask_val hg _ hd fun x W hW hk => ?_
  have hs := told_op hk s (by rw [ho]; simp [Op.operands])
  have hb : Bys W (evalBy x s) l := by
    rcases hB with h | ⟨B, h⟩ <;> rw [h] at hs
    · exact hs
    · exact Row.bys hs
  simp only [execOp, ho]
  rw [Sem.run_bind, conv_bys hb]
  simp [Sem.run_pure, Result.andThen]

/-- 'string(v)', v known, its bytes known where it lies. -/
theorem ask_string_is (hg : guardOk ops f o) (s : Operand) (v : Value) (l : List UInt8) (hs : opFact f s = .is v) (hv : ∀ W, G W → Bys W v l) (ho : o.op = .convert 27 9 s) (hd : ∀ k, o.dst = some k → f k = .is (.string ⟨l.toArray⟩)) :
    Asked Tryz.prog ops tab fin G f i o := by
  refine ask_val hg _ hd fun x W hW hk => ?_
  have e := evalBy_opVal hk s (by rw [ho]; simp [Op.operands]) hs
  simp only [execOp, ho, e]
  rw [Sem.run_bind, conv_bys (hv W hW)]
  simp [Sem.run_pure, Result.andThen]

theorem range_one : Array.range 1 = #[0] := by apply Array.ext'; simp [List.range_succ]

theorem size_byte (w : World) : (Go.sizeOf 5).run Tryz.prog w = .ok 1 w := by kernel_rfl

theorem elem_bytes : Tryz.prog.elem 27 = 5 := by kernel_rfl

/-- 'v[:k]'. -/
theorem slice_to (a : Option Addr) (n c k : Nat) (hk : k ≤ c) (W : World) : (Instr.sliceAt 27 (.slice a n c) none (some (.int .i64 (k : Int))) none).run Tryz.prog W = .ok (.slice a k c) W := by
  have ht : Tryz.prog.underlying 27 = some (.slice (Tryz.prog.elem 27)) := by rw [elem_bytes]; exact Tryz.underlying27
  rw [run_sliceAt_slice _ _ _ _ _ _ ht, run_slice_h _ _ _ _ _ ht .i64 (k : Int) (by omega) (by omega), elem_bytes, size_byte]
  cases a with
  | none => simp [Result.andThen, sliced]
  | some ad => simp [Result.andThen, sliced, Addr.add]

theorem ask_build_lit (hG : ∀ W W', G W → Below W.heap.size W W' → G W') (hg : guardOk ops f o) (B : Nat) (hB : ∀ W, G W → B ≤ W.heap.size) (ho : o.op = .buildSlice 27 0 #[]) (hd : ∀ k, o.dst = some k → f k = .lit B) : Asked Tryz.prog ops tab fin G f i o := by
  refine ask_grow hG hg fun x W hW hk => ?_
  have hr : (Instr.buildSlice 27 0 #[]).run Tryz.prog W = .ok (.slice (some ⟨W.heap.size, 0, none⟩) 0 0) (W.alloc (.cells #[] 5)) := by
    simp [Instr.buildSlice, run_underlying Tryz.underlying27, Result.andThen, Instr.fill, newRow, Array.range_zero']
  refine gives_value (v := .slice (some ⟨W.heap.size, 0, none⟩) 0 0) (w' := W.alloc (.cells #[] 5)) ?_ ⟨(Below.refl _ _).alloc (Nat.le_refl _) _, fun k hk => by rw [hd k hk]; exact ⟨_, rfl, hB W hW, heap_alloc_new W _⟩⟩
  simp [execOp, ho, hr, Result.andThen]

theorem ask_build_one (hG : ∀ W W', G W → Below W.heap.size W W' → G W') (hg : guardOk ops f o) (s : Operand) (c : UInt8) (ho : o.op = .buildSlice 27 1 #[(0, s)]) (hs : opFact f s = .is (bv c)) (hd : ∀ k, o.dst = some k → f k = .bys [c]) : Asked Tryz.prog ops tab fin G f i o := by
  refine ask_grow hG hg fun x W hW hk => ?_
  have e := evalBy_opVal hk s (by rw [ho]; simp [Op.operands]) hs
  have hz : (zeroValue 5).run Tryz.prog W = .ok (.int .u8 0) W := by kernel_rfl
  have hr : (Instr.buildSlice 27 1 #[(0, bv c)]).run Tryz.prog W = .ok (.slice (some ⟨W.heap.size, 0, none⟩) 1 1) (W.alloc (.cells #[bv c] 5)) := by
    simp [Instr.buildSlice, run_underlying Tryz.underlying27, Result.andThen, hz, Instr.fill, newRow, bv, Value.cells, range_one]
  refine gives_value (v := .slice (some ⟨W.heap.size, 0, none⟩) 1 1) (w' := W.alloc (.cells #[bv c] 5)) ?_ ⟨(Below.refl _ _).alloc (Nat.le_refl _) _, fun k hk => by rw [hd k hk]; exact byte_bys W c⟩
  simp [execOp, ho, hr, e, Result.andThen]

/-- A call of a Go function, met by its contract. -/
theorem ask_call (hG : ∀ W W', G W → Below W.heap.size W W' → G W') (hg : guardOk ops f o) (n : FuncId) (ss : Array Operand) (ts : Array TypeId) (args : Array Value) (fd : Fact)
    (ho : o.op = .call { callee := .value (.func n), args := ss, argTypes := ts }) (hfn : ((P.funcs[n]?).map fun fn => (fn.name == "runtime.NumGoroutine", fn.body.isNone)) = some (false, false))
    (hk : (ss.toList.all fun s => isIs (opFact f s)) = true) (hargs : ss.toList.map (opVal f) = args.toList) (hd : ∀ k, o.dst = some k → f k = fd)
    (h : ∀ W, G W → Calls P n args W fun e W' => ∃ v, e = .returned v ∧ fd.holds v W' ∧ Below W.heap.size W W') : Asked P ops tab fin G f i o := by
  refine ask_grow hG hg fun x W hW ht => ?_
  have ea : ss.map (evalBy x) = args := by
    have hargs' : ss.map (opVal f) = args := by
      apply Array.toList_inj.1
      rw [Array.toList_map, hargs]
    rw [← hargs']
    refine Array.map_congr_left fun s hs => ?_
    have h1 := told_op ht s (by rw [ho]; simp [Op.operands, Call.operands, hs])
    have h2 := List.all_eq_true.1 hk s (by simpa using hs)
    unfold opVal
    cases hf : opFact f s with
    | is v => rw [hf] at h1; exact h1
    | _ => rw [hf] at h2; cases h2
  refine gives_enter (f := n) (args := args) (w' := W) ?_ ((h W hW).mono fun e W' ⟨v, h1, h2, h3⟩ => ⟨v, h1, h3, fun k hk => by rw [hd k hk]; exact h2⟩)
  obtain ⟨fn, hf, hp⟩ := Option.map_eq_some_iff.1 hfn
  simp only [Prod.mk.injEq] at hp
  have e : execOp (evalBy x) o = callFunc n (#[] ++ ss.map (evalBy x) ++ #[]) := by
    obtain ⟨dst, op, type, pos, after, guard⟩ := o
    simp only at ho
    subst ho
    rfl
  rw [e, ea]
  have h1 : fn.name ≠ "runtime.NumGoroutine" := by simpa using hp.1
  have h2 : fn.body ≠ none := by intro hh; have := hp.2; rw [hh] at this; cases this
  simp [callFunc, hf, h1, h2]

def AskedAll (P : Program) (ops : Array Oper) (tab : List (List Nat)) (fin : List Tmp) (G : World → Prop) (f : Tmp → Fact) : Nat → List Oper → Prop
  | _, [] => True
  | i, o :: r => Asked P ops tab fin G f i o ∧ AskedAll P ops tab fin G f (i + 1) r

theorem asked_of_all : ∀ (l : List Oper) (n : Nat), AskedAll P ops tab fin G f n l → ∀ (i : Nat) (o : Oper), l[i]? = some o → Asked P ops tab fin G f (n + i) o
  | [], _, _, i, o, h => by simp at h
  | _ :: r, n, h, 0, o, hi => by
    simp at hi
    subst hi
    exact h.1
  | _ :: r, n, h, i + 1, o, hi => by
    have := asked_of_all r (n + 1) h.2 i o (by simpa using hi)
    rwa [show n + (i + 1) = n + 1 + i by omega]

end

/-- A region by its facts: those of slots that it writes are listed; the others are as they stand. -/
theorem region_by {P : Program} {ops : Array Oper} {id : Nat} {a : Act} {w : World} {Q : Exit → Act → World → Prop} (l : List (Tmp × Fact)) (fin : List Tmp) (G : World → Prop)
    (hm : P.follows .mixedOrders = true) (hs : sound ops = true) (ht : tableOk ops (table ops) = true) (hd : (ops.all fun o => (o.dst.map fun d => decide (d < a.tmps.size)).getD true) = true)
    (hl : (l.all fun p => ops.any fun o => o.dst == some p.1) = true) (hG : G w.drew)
    (hops : AskedAll P ops (table ops) fin G (factsOf l a) 0 ops.toList)
    (hend : ∀ a' W, G W → a'.defers = a.defers → a'.tmps.size = a.tmps.size → (∀ k, fin.contains k = true → (factsOf l a k).holds (a'.tmps.getD k undef) W) → Q .normal a' W) : (Code.region id ops true).wp P Q a w := by
  refine wp_region_facts (table ops) fin G (fun k v W => (factsOf l a k).holds v W) hm hs ht hd hG (fun k => ?_) (fun i o hi => ?_) hend
  · cases hk : l.lookup k with
    | none => left; simp [factsOf, hk, Fact.holds]
    | some fk =>
      right
      have hmem : (k, fk) ∈ l := by
        clear hl hops hend
        induction l with
        | nil => simp at hk
        | cons p l ih =>
          obtain ⟨p1, p2⟩ := p
          rw [List.lookup_cons] at hk
          by_cases hkp : (k == p1) = true
          · rw [hkp] at hk
            simp at hk hkp
            subst hk hkp
            simp
          · simp only [hkp] at hk
            exact List.mem_cons_of_mem _ (ih hk)
      exact List.all_eq_true.1 hl _ hmem
  · have := asked_of_all ops.toList 0 hops i o (by simpa using hi)
    rwa [Nat.zero_add] at this

/-- An operation that looks at one operand that is known. -/
theorem ask_read {P : Program} {ops : Array Oper} {tab : List (List Nat)} {fin : List Tmp} {K : World → Prop} {f : Tmp → Fact} {i : Nat} {o : Oper} (hg : guardOk ops f o) (s : Operand) (v c : Value) (hs : opFact f s = .is v) (hmem : s ∈ o.op.operands.toList) (hd : ∀ k, o.dst = some k → f k = .is c)
    (h : ∀ (x : Tmp → Value) W, K W → evalBy x s = v → (execOp (evalBy x) o).run P W = .ok (.value c) W) : Asked P ops tab fin K f i o :=
  ask_val hg c hd fun x W hW hk => h x W hW (evalBy_opVal hk s hmem hs)

/-- A frame laid open. -/
theorem act_open (n : Nat) (b : Act) (hs : b.tmps.size = n) (hd : b.defers = []) : ∃ us : Nat → Value, (∀ i, us i = b.tmps.getD i undef) ∧ b = ⟨((List.range n).map us).toArray, []⟩ := by
  refine ⟨fun i => b.tmps.getD i undef, fun _ => rfl, ?_⟩
  obtain ⟨tmps, defers⟩ := b
  simp only at hs hd
  subst hd
  congr 1
  apply Array.ext
  · simp [hs]
  · intro i h1 h2
    simp [Array.getD, h1]

/-- 'v[lo:hi]'. -/
theorem slice_mid (b : Option Addr) (n c lo hi : Nat) (h1 : lo ≤ hi) (h2 : hi ≤ c) (W : World) : (Instr.sliceAt 27 (.slice b n c) (some (.int .i64 (lo : Int))) (some (.int .i64 (hi : Int))) none).run Tryz.prog W = .ok (sliced b lo hi c 1) W := by
  have ht : Tryz.prog.underlying 27 = some (.slice (Tryz.prog.elem 27)) := by rw [elem_bytes]; exact Tryz.underlying27
  rw [run_sliceAt_slice _ _ _ _ _ _ ht, run_slice_lh _ _ _ _ _ ht .i64 .i64 (lo : Int) (hi : Int) (by omega) (by omega) (by omega), elem_bytes, size_byte]
  simp [Result.andThen]

end Go.Proofs.YthaggdkfaglgaaaGreatDoor

/- A region that draws its order, told by facts, with one operation behind all the others: what that one does is walked. -/
namespace Go.Proofs.YthaggdkfaglgaaaGreatDoor
set_option maxRecDepth 20000
open Go.RowKit Reg

theorem any_of_inv_tail {P : Program} {ops : Array Oper} {tab : List (List Nat)} {fin : List Tmp} {G : World → Prop} {F : Tmp → Value → World → Prop} {a0 : Act} {Q : Exit → Act → World → Prop} (n : Nat) (ol : Oper)
    (hs : sound ops = true) (ht : tableOk ops tab = true) (hn : ops[n]? = some ol) (hsize : ops.size = n + 1) (hgd : ol.guard = none) (hall : ((List.range n).all fun j => (preds ops n).contains j || (tab.getD n []).contains j) = true)
    (hdl : ol.dst = none) (hd : ∀ (i : Nat) (o : Oper), ops[i]? = some o → ∀ d, o.dst = some d → d < a0.tmps.size)
    (hops : ∀ (i : Nat) (o : Oper), ops[i]? = some o → i < n → asked P ops tab fin G F i o)
    (hend : ∀ a W, G W → a.defers = a0.defers → a.tmps.size = a0.tmps.size → (∀ k, fin.contains k = true → F k (a.tmps.getD k undef) W) → wpList P ops Q [ol] a W) :
    ∀ (fuel : Nat) (listed : Array Bool) (a : Act) (W : World), left listed ≤ fuel → listed.getD n false = false → Inv ops fin G F a0 listed a W → wpAny P .any ops Q fuel listed a W := by
  have hlt : n < ops.size := by omega
  have unl : ∀ (listed : Array Bool), listed.size = ops.size → listed.getD n false = false → listed.getD n true = false := fun listed hl h => by
    rw [Array.getD_eq_getD_getElem?, Array.getElem?_eq_getElem (by omega)] at h ⊢
    exact h
  intro fuel
  induction fuel with
  | zero =>
    intro listed a W hf hnl h
    have := left_set (unl listed h.lsize hnl)
    omega
  | succ fuel ih =>
    intro listed a W hf hnl h
    refine ⟨fun hr => ?_, fun i hi => ?_⟩
    · have := all_listed hs h.lsize hr n hlt
      rw [hnl] at this
      cases this
    obtain ⟨hun, o, ho, hpre⟩ := mem_ready.1 hi
    have hil : i < ops.size := (Array.getElem?_eq_some_iff.1 ho).1
    have hun' : listed.getD i false = false := by
      rw [Array.getD_eq_getD_getElem?, Array.getElem?_eq_getElem (by rw [h.lsize]; exact hil)] at hun ⊢
      exact hun
    have hsd := sound_edge hs ho
    have hp : ∀ j ∈ preds ops i, listed.getD j false = true := fun j hj => by
      obtain ⟨e, he, hb, rfl⟩ := (mem_preds ho).1 hj
      exact hpre e he hb
    by_cases hin : i = n
    · subst hin
      rw [hn] at ho
      cases ho
      have hbelow : ∀ j, j < i → listed.getD j false = true := fun j hj => by
        have h1 := List.all_eq_true.1 hall j (List.mem_range.2 hj)
        rw [Bool.or_eq_true] at h1
        rcases h1 with h1 | h1
        · exact hp j (by simpa using h1)
        · exact table_listed ht h.down i hil hp j (by simpa using h1)
      have hfin : ∀ k, fin.contains k = true → F k (a.tmps.getD k undef) W := fun k hk => h.facts k (fun j oj hj hdj => by
        have hjl : j < ops.size := (Array.getElem?_eq_some_iff.1 hj).1
        have hjn : j ≠ i := by
          rintro rfl
          rw [hn] at hj
          cases hj
          rw [hdl] at hdj
          cases hdj
        exact hbelow j (by omega)) (.inl hk)
      have hw := hend a W h.grown h.defers h.size hfin
      have hwant : Region.wanted ol (yielded ops a.tmps) = true := by unfold Region.wanted; rw [hgd]
      unfold wpOp
      simp only [hn, hwant, if_true]
      unfold wpList at hw
      simp only [hwant, if_true] at hw
      have hdone : ∀ a' w', Q .normal a' w' → wpAny P .any ops Q fuel (listed.setIfInBounds i true) a' w' := fun a' w' hq => by
        have hready : Region.ready .any ops (listed.setIfInBounds i true) = [] := by
          cases hq : Region.ready .any ops (listed.setIfInBounds i true) with
          | nil => rfl
          | cons j js =>
            exfalso
            have hj : j ∈ Region.ready .any ops (listed.setIfInBounds i true) := by rw [hq]; simp
            obtain ⟨hju, oj, hoj, _⟩ := mem_ready.1 hj
            have hjl : j < ops.size := (Array.getElem?_eq_some_iff.1 hoj).1
            have h1 : (listed.setIfInBounds i true).getD j false = true := by
              by_cases hji : j = i
              · subst hji
                exact set_self (by rw [h.lsize]; exact hjl)
              · exact set_mem (hbelow j (by omega))
            have hjs : j < (listed.setIfInBounds i true).size := by simp [h.lsize]; exact hjl
            rw [Array.getD_eq_getD_getElem?, Array.getElem?_eq_getElem hjs] at h1 hju
            simp only [Option.getD_some] at h1 hju
            rw [h1] at hju
            cases hju
        cases fuel with
        | zero => exact ⟨hready, hq⟩
        | succ f => exact ⟨fun _ => hq, fun j hj => by rw [hready] at hj; cases hj⟩
      rcases hw with hw | hw
      · exact .inl (Oper.wp_mono hdone hw)
      · exact .inr hw
    · have hF : ∀ k, (o.looksAt ops).contains k = true → F k (a.tmps.getD k undef) W := fun k hk => h.facts k (fun j oj hj hdj => by
        obtain ⟨e, he, hb, rfl⟩ := hsd.2 k (by simpa using hk) j oj hj hdj
        exact hpre e he hb) (.inr ⟨i, o, ho, hk, hun'⟩)
      obtain ⟨hw, hg⟩ := hops i o ho (by omega) (fun t => a.tmps.getD t undef) W h.grown hF
      unfold wpOp
      simp only [ho, wanted_of hw, if_true]
      refine .inl (wp_of_gives hg fun v w' ⟨h1, h2, h3⟩ => ih _ _ _ ?_ ?_ (inv_step ht h ho hp (hd i o ho) h1 h2 h3))
      · have := left_set hun
        omega
      · rw [Array.getD_eq_getD_getElem?, Array.getElem?_setIfInBounds_ne hin, ← Array.getD_eq_getD_getElem?]
        exact hnl

/-- **A REGION BY ITS FACTS, the last operation behind all others.** -/
theorem region_tail_by {P : Program} {ops : Array Oper} {id : Nat} {a : Act} {w : World} {Q : Exit → Act → World → Prop} (n : Nat) (ol : Oper) (l : List (Tmp × Fact)) (fin : List Tmp) (G : World → Prop)
    (hm : P.follows .mixedOrders = true) (hs : sound ops = true) (ht : tableOk ops (table ops) = true) (hd : (ops.all fun o => (o.dst.map fun d => decide (d < a.tmps.size)).getD true) = true)
    (hl : (l.all fun p => ops.any fun o => o.dst == some p.1) = true)
    (hn : ops[n]? = some ol) (hsize : ops.size = n + 1) (hgd : ol.guard = none) (hdl : ol.dst = none) (hall : ((List.range n).all fun j => (preds ops n).contains j || ((table ops).getD n []).contains j) = true) (hG : G w.drew)
    (hops : AskedAll P ops (table ops) fin G (factsOf l a) 0 (ops.toList.take n))
    (hend : ∀ a' W, G W → a'.defers = a.defers → a'.tmps.size = a.tmps.size → (∀ k, fin.contains k = true → (factsOf l a k).holds (a'.tmps.getD k undef) W) → wpList P ops Q [ol] a' W) : (Code.region id ops true).wp P Q a w := by
  refine wp_region_any hm (any_of_inv_tail (tab := table ops) (fin := fin) (G := G) (F := fun k v W => (factsOf l a k).holds v W) (a0 := a) n ol hs ht hn hsize hgd hall hdl ?_ (fun i o hi hin => ?_) hend _ _ _ _ ?_ ?_ ?_)
  · intro i o hi d hdst
    have := Array.all_eq_true_iff_forall_mem.1 hd o (Array.mem_of_getElem? hi)
    simpa [hdst] using this
  · have := asked_of_all (ops.toList.take n) 0 hops i o (by rw [List.getElem?_take, if_pos hin]; simpa using hi)
    rwa [Nat.zero_add] at this
  · unfold Reg.left
    refine Nat.le_trans (List.length_filter_le _ _) (by simp)
  · rw [Array.getD_eq_getD_getElem?]
    simp [Array.getElem?_replicate]
    split <;> simp
  · refine ⟨hG, rfl, rfl, by simp, fun i o hi hl => ?_, fun k hk _ => ?_⟩
    · rw [Array.getD_eq_getD_getElem?] at hl
      simp [Array.getElem?_replicate] at hl
      split at hl <;> simp at hl
    · cases hkl : l.lookup k with
      | none => simp [factsOf, hkl, Fact.holds]
      | some fk =>
        exfalso
        have hmem : (k, fk) ∈ l := by
          clear hl hops hend
          induction l with
          | nil => simp at hkl
          | cons p l ih =>
            obtain ⟨p1, p2⟩ := p
            rw [List.lookup_cons] at hkl
            by_cases hkp : (k == p1) = true
            · rw [hkp] at hkl
              simp at hkl hkp
              subst hkl hkp
              simp
            · simp only [hkp] at hkl
              exact List.mem_cons_of_mem _ (ih hkl)
        have h := List.all_eq_true.1 hl _ hmem
        obtain ⟨o, ho, hdst⟩ := Array.any_eq_true'.1 h
        obtain ⟨i, hi⟩ := Array.mem_iff_getElem?.1 ho
        have := hk i o hi (by simpa using hdst)
        rw [Array.getD_eq_getD_getElem?] at this
        simp [Array.getElem?_replicate] at this
        split at this <;> simp at this

end Go.Proofs.YthaggdkfaglgaaaGreatDoor

/- Arms of a walk by whatever is known of a run: loads, stores, copies; parts of a block; operations of a region that load or address. -/
namespace Go.Proofs.YthaggdkfaglgaaaGreatDoor
set_option maxRecDepth 20000
open Go.RowKit Reg

theorem wpList_load_by {P : Program} {w : World} {ops : Array Oper} {rest : List Oper} {o : Oper} {a : Act} {Q : Exit → Act → World → Prop} (hgd : o.guard = none) (ty : TypeId) (x : Operand) (ho : o.op = .load ty x)
    (p v : Value) (hx : a.eval x = p) (hr : (Instr.loadAt ty p).run P w = .ok v w) (h : wpList P ops Q rest (a.put o.dst v) w) : wpList P ops Q (o :: rest) a w := by
  refine wpList_plain hgd fun K hK => ?_
  unfold Oper.wp
  simp only [execOp, ho, hx, Sem.run_bind, hr, Result.andThen_ok]
  exact hK _ _ h

theorem wpList_load_guarded {P : Program} {w : World} {ops : Array Oper} {rest : List Oper} {o : Oper} {a : Act} {Q : Exit → Act → World → Prop} (hgd : Region.wanted o (yielded ops a.tmps) = true) (ty : TypeId) (x : Operand) (ho : o.op = .load ty x)
    (p v : Value) (hx : a.eval x = p) (hr : (Instr.loadAt ty p).run P w = .ok v w) (h : wpList P ops Q rest (a.put o.dst v) w) : wpList P ops Q (o :: rest) a w := by
  refine wpList_step fun K hK => ?_
  rw [if_pos hgd]
  unfold Oper.wp
  simp only [execOp, ho, hx, Sem.run_bind, hr, Result.andThen_ok]
  exact hK _ _ h

theorem wpList_store_by {P : Program} {w : World} {ops : Array Oper} {rest : List Oper} {o : Oper} {a : Act} {Q : Exit → Act → World → Prop} (hgd : o.guard = none) (ty : TypeId) (x y : Operand) (ho : o.op = .store ty x y)
    (p v : Value) (hx : a.eval x = p) (hy : a.eval y = v) (w' : World) (hr : (Instr.storeAt ty p v).run P w = .ok () w') (h : wpList P ops Q rest (a.put o.dst undef) w') : wpList P ops Q (o :: rest) a w := by
  refine wpList_plain hgd fun K hK => ?_
  unfold Oper.wp
  simp only [execOp, ho, hx, hy, Sem.run_bind, hr, Result.andThen_ok]
  exact hK _ _ h

theorem wpList_copy_by {P : Program} {w : World} {ops : Array Oper} {rest : List Oper} {o : Oper} {a : Act} {Q : Exit → Act → World → Prop} (hgd : o.guard = none) (s x : Operand) (t : TypeId)
    (ho : o.op = .call { callee := .builtin .copy, args := #[s, x], argTypes := #[t, t] }) (v y c : Value) (w' : World) (hs : a.eval s = v) (hx : a.eval x = y)
    (hr : (Builtin.copy_ #[t, t] o.type #[v, y]).run P w = .ok c w') (h : wpList P ops Q rest (a.put o.dst c) w') : wpList P ops Q (o :: rest) a w := by
  refine wpList_plain hgd fun K hK => ?_
  unfold Oper.wp
  simp [execOp, ho, resolve, invoke, builtin, hs, hx, hr, Result.andThen]
  exact hK _ _ h

/-- A frame told slot by slot. -/
theorem frame_cut {P : Program} {c : Code} {Q : Exit → Act → World → Prop} {a : Act} {W : World} (n : Nat) (hs : a.tmps.size = n) (hd : a.defers = [])
    (h : ∀ us : Nat → Value, (∀ i, us i = a.tmps.getD i undef) → c.wp P Q ⟨((List.range n).map us).toArray, []⟩ W) : c.wp P Q a W := by
  obtain ⟨us, h1, h2⟩ := act_open n a hs hd
  rw [h2]
  exact h us h1

/-- A part of a block, loaded. -/
theorem Blk.loadsAt {P : Program} {W : World} {g : Nat} {t : TypeId} {cs : Array Value} (h : Blk W g t cs) (ty : TypeId) (d : TypeDesc) (o n : Nat) (vs : List Value) (hu : P.underlying ty = some d)
    (hd : (match d with | .struct _ | .array _ _ => true | _ => false) = true) (hi : (P.info? ty).map (·.size) = some vs.length) (hv : ∀ j u, vs[j]? = some u → cs[o + j]? = some u) (hn : n = o) :
    (Instr.loadAt ty (.pointer (some ⟨g, n, none⟩))).run P W = .ok (.agg vs.toArray) W := by
  subst hn
  have hl : (loadCells ⟨g, n, none⟩ vs.length).run P W = .ok vs.toArray W :=
    run_loadCells_list (P := P) W ⟨g, n, none⟩ vs (fun j v hj => by rw [addr_add, h.cell]; exact hv j v hj)
  cases hq : P.info? ty with
  | none => simp [hq] at hi
  | some i =>
    have hs : i.size = vs.length := by simpa [hq] using hi
    have hagg : (isAgg ty).run P W = .ok true W := by
      unfold isAgg
      rw [Sem.run_bind, run_underlying hu W]
      cases d <;> simp_all
    simp [Instr.loadAt, Instr.sureAddr, loadVar, Sem.run_bind, hagg, sizeOf, typeInfo, hq, hs, hl]

/-- Cells of a variable that is known cell by cell. -/
theorem loads_cells {P : Program} {W : World} (ad : Addr) (ty : TypeId) (d : TypeDesc) (vs : List Value) (hu : P.underlying ty = some d)
    (hd : (match d with | .struct _ | .array _ _ => true | _ => false) = true) (hi : (P.info? ty).map (·.size) = some vs.length) (hv : ∀ j u, vs[j]? = some u → W.cell? (ad.add j) = some u) :
    (Instr.loadAt ty (.pointer (some ad))).run P W = .ok (.agg vs.toArray) W := by
  have hl : (loadCells ad vs.length).run P W = .ok vs.toArray W := run_loadCells_list (P := P) W ad vs hv
  cases hq : P.info? ty with
  | none => simp [hq] at hi
  | some i =>
    have hs : i.size = vs.length := by simpa [hq] using hi
    have hagg : (isAgg ty).run P W = .ok true W := by
      unfold isAgg
      rw [Sem.run_bind, run_underlying hu W]
      cases d <;> simp_all
    simp [Instr.loadAt, Instr.sureAddr, loadVar, Sem.run_bind, hagg, sizeOf, typeInfo, hq, hs, hl]

/-- What a block holds where a part of it is written. -/
def patch (cs : Array Value) (o : Nat) (vs : List Value) : Array Value := (cs.toList.take o ++ vs ++ cs.toList.drop (o + vs.length)).toArray

theorem Blk.storesAt {P : Program} {W : World} {g : Nat} {t : TypeId} {cs : Array Value} (h : Blk W g t cs) (ty : TypeId) (o : Nat) (vs : List Value) (hi : (P.info? ty).map (·.size) = some vs.length) (hfit : o + vs.length ≤ cs.size)
    (h1 : ∀ v ∈ vs, v.oneCell' = true) : (Instr.storeAt ty (.pointer (some ⟨g, o, none⟩)) (.agg vs.toArray)).run P W = .ok () (W.setRow g (patch cs o vs)) := by
  have hst := run_storeCells_at P g o t vs 0 cs W h (by simpa using hfit) h1
  cases hq : P.info? ty with
  | none => simp [hq] at hi
  | some i =>
    have hs : i.size = vs.length := by simpa [hq] using hi
    simp [Instr.storeAt, Instr.sureAddr, storeVar, Sem.run_bind, sizeOf, typeInfo, hq, hs, Value.cells, hst, patch]

/-- A part of bytes, as slicing gives it. -/
theorem bys_sliced (a : Option Addr) (len cap lo hi : Nat) (l : List UInt8) (W : World) (h : Bys W (.slice a len cap) l) (h1 : lo ≤ hi) (h2 : hi ≤ len) (hc : len ≤ cap) :
    Bys W (.slice (if cap = lo then a else a.map (·.add (lo * 1))) (hi - lo) (cap - lo)) ((l.take hi).drop lo) := by
  rcases h with ⟨e, rfl⟩ | ⟨ad, c, e, hcell⟩
  · simp at e
    obtain ⟨rfl, rfl, rfl⟩ := e
    have : lo = 0 := by omega
    subst this
    have : hi = 0 := by omega
    subst this
    exact .inl ⟨by simp, by simp⟩
  · simp at e
    obtain ⟨rfl, rfl, rfl⟩ := e
    have el : ((l.take hi).drop lo).length = hi - lo := by rw [List.length_drop, List.length_take]; omega
    by_cases hcl : cap = lo
    · have hz : hi - lo = 0 := by omega
      refine .inr ⟨ad, cap - lo, by rw [if_pos hcl, el], fun i hi' => by rw [el] at hi'; omega⟩
    · refine .inr ⟨ad.add lo, cap - lo, by rw [if_neg hcl, el]; simp, fun i hi' => ?_⟩
      rw [el] at hi'
      have e2 : (ad.add lo).add i = ad.add (lo + i) := by
        unfold Addr.add
        by_cases hl : lo = 0
        · subst hl; simp
        · by_cases hi0 : i = 0
          · subst hi0; simp [hl]
          · simp [hl, hi0]; omega
      rw [e2, hcell (lo + i) (by omega)]
      simp [List.getElem_drop, List.getElem_take]

/-- 's[n:]' of bytes. -/
theorem bys_from (a : Option Addr) (len cap n : Nat) (l : List UInt8) (W : World) (h : Bys W (.slice a len cap) l) (hlen : l.length = len) (hc : len ≤ cap) (hn : n ≤ len) :
    ∃ a', (∀ W', (Instr.sliceAt 27 (.slice a len cap) (some (.int .i64 (n : Int))) none none).run Tryz.prog W' = .ok (.slice a' (len - n) (cap - n)) W') ∧ Bys W (.slice a' (len - n) (cap - n)) (l.drop n) := by
  have ht : Tryz.prog.underlying 27 = some (.slice (Tryz.prog.elem 27)) := by rw [elem_bytes]; exact Tryz.underlying27
  refine ⟨if cap = n then a else a.map (·.add (n * 1)), fun W' => ?_, ?_⟩
  · rw [run_sliceAt_slice _ _ _ _ _ _ ht, run_slice_l _ _ _ _ _ ht .i64 (n : Int) (by omega) (by omega), elem_bytes, size_byte]
    simp only [Result.andThen_ok, Int.toNat_natCast]
    rfl
  · have := bys_sliced a len cap n len l W h hn (Nat.le_refl _) hc
    rwa [List.take_of_length_le (by omega)] at this

/-- 's[lo:hi]' of bytes. -/
theorem bys_mid (a : Option Addr) (len cap lo hi : Nat) (l : List UInt8) (W : World) (h : Bys W (.slice a len cap) l) (h1 : lo ≤ hi) (h2 : hi ≤ len) (hc : len ≤ cap) :
    ∃ a', (∀ W', (Instr.sliceAt 27 (.slice a len cap) (some (.int .i64 (lo : Int))) (some (.int .i64 (hi : Int))) none).run Tryz.prog W' = .ok (.slice a' (hi - lo) (cap - lo)) W') ∧ Bys W (.slice a' (hi - lo) (cap - lo)) ((l.take hi).drop lo) := by
  have ht : Tryz.prog.underlying 27 = some (.slice (Tryz.prog.elem 27)) := by rw [elem_bytes]; exact Tryz.underlying27
  refine ⟨if cap = lo then a else a.map (·.add (lo * 1)), fun W' => ?_, bys_sliced a len cap lo hi l W h h1 h2 hc⟩
  rw [run_sliceAt_slice _ _ _ _ _ _ ht, run_slice_lh _ _ _ _ _ ht .i64 .i64 (lo : Int) (hi : Int) (by omega) (by omega) (by omega), elem_bytes, size_byte]
  simp only [Result.andThen_ok, Int.toNat_natCast]
  rfl

section
variable {P : Program} {ops : Array Oper} {tab : List (List Nat)} {fin : List Tmp} {G : World → Prop} {f : Tmp → Fact} {i : Nat} {o : Oper}

theorem ask_load (hg : guardOk ops f o) (ty : TypeId) (s : Operand) (p v : Value) (ho : o.op = .load ty s) (hs : opFact f s = .is p) (hd : ∀ k, o.dst = some k → f k = .is v)
    (hr : ∀ W, G W → (Instr.loadAt ty p).run P W = .ok v W) : Asked P ops tab fin G f i o := by
  refine ask_read hg s p v hs (by rw [ho]; simp [Op.operands]) hd fun x W hW e => ?_
  simp only [execOp, ho, e, Sem.run_bind, hr W hW, Result.andThen_ok, Sem.run_pure]

theorem ask_field (hg : guardOk ops f o) (ty : TypeId) (s : Operand) (n : Nat) (p v : Value) (ho : o.op = .fieldAddr ty s n) (hs : opFact f s = .is p) (hd : ∀ k, o.dst = some k → f k = .is v)
    (hr : ∀ W, (Instr.fieldAt ty p n).run P W = .ok v W) : Asked P ops tab fin G f i o := by
  refine ask_read hg s p v hs (by rw [ho]; simp [Op.operands]) hd fun x W hW e => ?_
  simp only [execOp, ho, e, Sem.run_bind, hr W, Result.andThen_ok, Sem.run_pure]

/-- A call by its contract, whatever is known of its operands. -/
theorem ask_call_by (hG : ∀ W W', G W → Below W.heap.size W W' → G W') (hg : guardOk ops f o) (n : FuncId) (ss : Array Operand) (ts : Array TypeId) (fd : Fact)
    (ho : o.op = .call { callee := .value (.func n), args := ss, argTypes := ts }) (hfn : ((P.funcs[n]?).map fun fn => (fn.name == "runtime.NumGoroutine", fn.body.isNone)) = some (false, false)) (hd : ∀ k, o.dst = some k → f k = fd)
    (h : ∀ x W, G W → Told ops f o x W → Calls P n (ss.toList.map (evalBy x)).toArray W fun e W' => ∃ v, e = .returned v ∧ fd.holds v W' ∧ Below W.heap.size W W') : Asked P ops tab fin G f i o := by
  refine ask_grow hG hg fun x W hW ht => ?_
  have em : ss.map (evalBy x) = (ss.toList.map (evalBy x)).toArray := by
    apply Array.toList_inj.1
    simp
  refine gives_enter (f := n) (args := (ss.toList.map (evalBy x)).toArray) (w' := W) ?_ ((h x W hW ht).mono fun e W' ⟨v, h1, h2, h3⟩ => ⟨v, h1, h3, fun k hk => by rw [hd k hk]; exact h2⟩)
  obtain ⟨fn, hf, hp⟩ := Option.map_eq_some_iff.1 hfn
  simp only [Prod.mk.injEq] at hp
  have e : execOp (evalBy x) o = callFunc n (#[] ++ ss.map (evalBy x) ++ #[]) := by
    obtain ⟨dst, op, type, pos, after, guard⟩ := o
    simp only at ho
    subst ho
    rfl
  rw [e, em]
  have h1 : fn.name ≠ "runtime.NumGoroutine" := by simpa using hp.1
  have h2 : fn.body ≠ none := by intro hh; have := hp.2; rw [hh] at this; cases this
  simp [callFunc, hf, h1, h2]

/-- A variable made. -/
theorem ask_alloc (hG : ∀ W W', G W → Below W.heap.size W W' → G W') (hg : guardOk ops f o) (ty : TypeId) (zs : Value) (fd : Fact) (ho : o.op = .alloc ty) (hz : ∀ W, (zeroValue ty).run P W = .ok zs W) (hd : ∀ k, o.dst = some k → f k = fd)
    (h : ∀ W, G W → fd.holds (.pointer (some ⟨W.heap.size, 0, none⟩)) (W.alloc (.cells zs.cells ty))) : Asked P ops tab fin G f i o := by
  refine ask_grow hG hg fun x W hW _ => ?_
  refine gives_value (v := .pointer (some ⟨W.heap.size, 0, none⟩)) (w' := W.alloc (.cells zs.cells ty)) ?_ ⟨(Below.refl _ _).alloc (Nat.le_refl _) _, fun k hk => by rw [hd k hk]; exact h W hW⟩
  simp [execOp, ho, Instr.alloc, hz, newVar, newRow, Result.andThen]

/-- Two values that are told apart or held to be the same. -/
theorem ask_cmp (hg : guardOk ops f o) (b : BinOp) (ty tz : TypeId) (s t : Operand) (v1 v2 c : Value) (ho : o.op = .binOp b ty s t tz) (hs : opFact f s = .is v1) (ht : opFact f t = .is v2) (hd : ∀ k, o.dst = some k → f k = .is c)
    (hrun : ∀ W, (do eqGuard b ty s t v1 v2; binOp b ty v1 v2 : Sem Value).run P W = .ok c W) : Asked P ops tab fin G f i o := ask_bin hg b ty tz s t v1 v2 c ho hs ht hd hrun
end
end Go.Proofs.YthaggdkfaglgaaaGreatDoor

/- What is written is one block that was there, and new ones. -/
namespace Go.Proofs.YthaggdkfaglgaaaGreatDoor
set_option maxRecDepth 20000
open Go Go.RowKit

/-- Of the blocks that were there none has turned but, it may be, R. -/
structure Only (R : Nat) (w w' : World) : Prop where
  os : w'.os = w.os
  tape : w'.tape = w.tape
  output : w'.output = w.output
  size : w.heap.size ≤ w'.heap.size
  block : ∀ k, k < w.heap.size → k ≠ R → w'.heap[k]? = w.heap[k]?

theorem Only.refl (R : Nat) (w : World) : Only R w w := ⟨rfl, rfl, rfl, Nat.le_refl _, fun _ _ _ => rfl⟩

theorem Only.trans {R : Nat} {a b c : World} (h : Only R a b) (k : Only R b c) : Only R a c :=
  ⟨k.os.trans h.os, k.tape.trans h.tape, k.output.trans h.output, Nat.le_trans h.size k.size, fun i hi hr => (k.block i (Nat.lt_of_lt_of_le hi h.size) hr).trans (h.block i hi hr)⟩

theorem Only.of_below {R : Nat} {w w' : World} (h : Below w.heap.size w w') : Only R w w' := ⟨h.os, h.tape, h.output, h.size, fun k hk _ => h.block k hk⟩

/-- Below whatever lies ahead of R nothing has turned. -/
theorem Only.below {R B : Nat} {w w' : World} (h : Only R w w') (hB : B ≤ R) (hs : B ≤ w.heap.size) : Below B w w' :=
  ⟨h.os, h.tape, h.output, h.size, fun k hk => h.block k (by omega) (by omega)⟩

theorem Only.drew {R : Nat} {a w : World} (h : Only R a w) : Only R a w.drew := ⟨h.os, h.tape, h.output, h.size, h.block⟩

theorem Only.drewN {R : Nat} {a w : World} (h : Only R a w) (n : Nat) : Only R a (w.drewN n) := ⟨h.os, h.tape, h.output, h.size, h.block⟩

theorem Only.alloc {R : Nat} {a w : World} (h : Only R a w) (o : Obj) : Only R a (w.alloc o) :=
  h.trans ⟨rfl, rfl, rfl, by simp, fun k hk _ => Below.heap_alloc _ _ _ hk⟩

theorem Only.setR {R : Nat} {a w : World} (h : Only R a w) (i : Nat) (u : Value) : Only R a (w.setCell ⟨R, i, none⟩ u) :=
  h.trans ⟨rfl, rfl, rfl, by simp [World.setCell], fun k _ hr => Below.heap_setCell _ _ _ _ hr⟩

theorem Only.setNew {R : Nat} {a w : World} (h : Only R a w) {p : Addr} (hp : a.heap.size ≤ p.block) (u : Value) : Only R a (w.setCell p u) :=
  ⟨h.os, h.tape, h.output, by simpa [World.setCell] using h.size, fun k hk hr => by rw [Below.heap_setCell _ _ _ _ (by omega)]; exact h.block k hk hr⟩

theorem Only.cell {R : Nat} {w w' : World} (h : Only R w w') {p : Addr} (hp : p.block < w.heap.size) (hr : p.block ≠ R) : w'.cell? p = w.cell? p := World.cell?_of_block (w := w) (h.block p.block hp hr)

theorem Only.frozen {R : Nat} {w w' : World} (h : Only R w w') {p : Addr} (hp : p.block < w.heap.size) (hr : p.block ≠ R) : w'.frozen? p = w.frozen? p := World.frozen?_of_block (w := w) (h.block p.block hp hr)

/-- A store into cell i of a block that is known whole. -/
theorem heap_set_same {w : World} {R i : Nat} {cs : Array Value} {t : TypeId} {fr : Nat × Nat} (h : w.heap[R]? = some (.cells cs t fr)) (u : Value) : (w.setCell ⟨R, i, none⟩ u).heap[R]? = some (.cells (cs.setIfInBounds i u) t fr) := by
  simp only [World.setCell, Array.getElem?_modify, h, if_true, Option.map_some]
  rfl

theorem heap_set_other {w : World} {R k i : Nat} (h : k ≠ R) (u : Value) : (w.setCell ⟨R, i, none⟩ u).heap[k]? = w.heap[k]? := Below.heap_setCell _ _ _ _ h

theorem cell_of_heap {w : World} {R i : Nat} {cs : Array Value} {t : TypeId} {fr : Nat × Nat} (h : w.heap[R]? = some (.cells cs t fr)) : w.cell? ⟨R, i, none⟩ = cs[i]? := by
  simp [World.cell?, h]

theorem free_of_heap {w : World} {R i : Nat} {cs : Array Value} {t : TypeId} (h : w.heap[R]? = some (.cells cs t (0, 0))) : w.frozen? ⟨R, i, none⟩ = false := by
  simp [World.frozen?, h]

/-- Of the blocks that were there only those of S may have turned. -/
structure OnlyS (S : Nat → Prop) (w w' : World) : Prop where
  os : w'.os = w.os
  tape : w'.tape = w.tape
  output : w'.output = w.output
  size : w.heap.size ≤ w'.heap.size
  block : ∀ k, k < w.heap.size → ¬ S k → w'.heap[k]? = w.heap[k]?

theorem OnlyS.refl (S : Nat → Prop) (w : World) : OnlyS S w w := ⟨rfl, rfl, rfl, Nat.le_refl _, fun _ _ _ => rfl⟩

theorem OnlyS.trans {S : Nat → Prop} {a b c : World} (h : OnlyS S a b) (k : OnlyS S b c) : OnlyS S a c :=
  ⟨k.os.trans h.os, k.tape.trans h.tape, k.output.trans h.output, Nat.le_trans h.size k.size, fun i hi hr => (k.block i (Nat.lt_of_lt_of_le hi h.size) hr).trans (h.block i hi hr)⟩

/-- Where all that S' names and that was there is in S. -/
theorem OnlyS.mono {S S' : Nat → Prop} {a b : World} (h : OnlyS S' a b) (hS : ∀ k, k < a.heap.size → S' k → S k) : OnlyS S a b :=
  ⟨h.os, h.tape, h.output, h.size, fun i hi hr => h.block i hi fun hs => hr (hS i hi hs)⟩

theorem OnlyS.of_only {S : Nat → Prop} {R : Nat} {w w' : World} (h : Only R w w') (hS : S R) : OnlyS S w w' := ⟨h.os, h.tape, h.output, h.size, fun k hk hs => h.block k hk fun e => hs (e ▸ hS)⟩

theorem OnlyS.of_below {S : Nat → Prop} {B : Nat} {w w' : World} (h : Below B w w') (hB : ∀ k, k < w.heap.size → ¬ S k → k < B) : OnlyS S w w' := ⟨h.os, h.tape, h.output, h.size, fun k hk hs => h.block k (hB k hk hs)⟩

theorem OnlyS.only {S : Nat → Prop} {R : Nat} {w w' : World} (h : OnlyS S w w') (hS : ∀ k, k < w.heap.size → S k → k = R) : Only R w w' := ⟨h.os, h.tape, h.output, h.size, fun k hk hs => h.block k hk fun e => hs (hS k hk e)⟩

theorem OnlyS.below {S : Nat → Prop} {B : Nat} {w w' : World} (h : OnlyS S w w') (hS : ∀ k, k < B → ¬ S k) (hs : B ≤ w.heap.size) : Below B w w' :=
  ⟨h.os, h.tape, h.output, h.size, fun k hk => h.block k (by omega) (hS k hk)⟩

theorem OnlyS.alloc {S : Nat → Prop} {a w : World} (h : OnlyS S a w) (o : Obj) : OnlyS S a (w.alloc o) :=
  h.trans ⟨rfl, rfl, rfl, by simp, fun k hk _ => Below.heap_alloc _ _ _ hk⟩

theorem OnlyS.drew {S : Nat → Prop} {a w : World} (h : OnlyS S a w) : OnlyS S a w.drew := ⟨h.os, h.tape, h.output, h.size, h.block⟩

theorem OnlyS.setCell {S : Nat → Prop} {a w : World} (h : OnlyS S a w) {p : Addr} (hp : p.block < a.heap.size → S p.block) (u : Value) : OnlyS S a (w.setCell p u) :=
  ⟨h.os, h.tape, h.output, by simpa [World.setCell] using h.size, fun k hk hr => by
    have hne : k ≠ p.block := by
      rintro rfl
      exact hr (hp hk)
    rw [Below.heap_setCell _ _ _ _ hne]; exact h.block k hk hr⟩

/-- A second step that may write, of what was there at first, only blocks of S. -/
theorem OnlyS.then {S T : Nat → Prop} {a b c : World} (h : OnlyS S a b) (k : OnlyS T b c) (hT : ∀ i, i < a.heap.size → T i → S i) : OnlyS S a c :=
  ⟨k.os.trans h.os, k.tape.trans h.tape, k.output.trans h.output, Nat.le_trans h.size k.size, fun i hi hr => (k.block i (Nat.lt_of_lt_of_le hi h.size) fun ht => hr (hT i hi ht)).trans (h.block i hi hr)⟩

end Go.Proofs.YthaggdkfaglgaaaGreatDoor

