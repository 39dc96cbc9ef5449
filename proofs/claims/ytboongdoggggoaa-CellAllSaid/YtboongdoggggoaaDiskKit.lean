/- Files as a map of the program's memory holds them: what they are, what a look-up, a store, a removal gives; rows of bytes that are laid over and made longer. -/
import Derived.Test.YtboongdoggggoaaArms
import Derived.Test.YtboongdoggggoaaOnly
import Derived.Test.YtboongdoggggoaaDiskMath
import Derived.Maps.OwnSet
import Derived.Maps.Ext
import Derived.Maps.AppendAt
import Derived.Lib.AppendZerosOnto
namespace Go.Proofs.Ytboongdoggggoaa
set_option maxRecDepth 20000
open Go.RowKit Go.Maps DiskMath

/-- A name as a value. -/
def nm (n : List UInt8) : Value := .string ⟨n.toArray⟩

theorem nm_of (s : ByteArray) : Value.string s = nm s.data.toList := by simp [nm]

abbrev DV := DataW Value
def tokR (v : Value) : Option (DV × List MemPlace) := some (.held v, [])

theorem klaw : Keyed Try.prog 9 := string_keyed Try.underlying9

theorem keyOf_nm {n : List UInt8} (h : n.length ≤ 9223372036854775807) : keyOf Try.prog 9 (nm n) = some (.string n) := by
  have := WideMaps.keyOf_string_mk (P := Try.prog) Try.underlying9 (s := ⟨n.toArray⟩) (by show n.toArray.size ≤ _; simp; unfold maxLen; omega)
  simpa [nm] using this

/-- Files with the slices in which their bytes lie. -/
abbrev Gf := List (Nm × (Value × List UInt8))
def pr (F : Gf) : Fs := F.map fun p => (p.1, p.2.2)
def encD (F : Gf) : DV := .map (F.map fun p => (Lit.string p.1, DataW.held p.2.1))

/-- Two slices of unlike blocks. -/
def Apart (u v : Value) : Prop := ∀ k, u.ownBlock = some k → v.ownBlock ≠ some k
theorem Apart.symm {u v : Value} (h : Apart u v) : Apart v u := fun k hk e => h k e hk

/-- The map at block m holds the files F; of the file of name X, if that is one, its bytes are not told. -/
structure KeepBut (X : Option Nm) (w : World) (m : Nat) (F : Gf) : Prop where
  map : w.ownsMap Try.prog 9 tokR m F.length (encD F)
  rowX : ∀ p ∈ F, X ≠ some p.1 → Row w 0 p.2.1 p.2.2
  apart : F.Pairwise fun p q => Apart p.2.1 q.2.1

abbrev Keep : World → Nat → Gf → Prop := KeepBut none

theorem KeepBut.row {w : World} {m : Nat} {F : Gf} (h : Keep w m F) : ∀ p ∈ F, Row w 0 p.2.1 p.2.2 := fun p hp => h.rowX p hp (by simp)
theorem KeepBut.but {w : World} {m : Nat} {F : Gf} (h : Keep w m F) (X : Option Nm) : KeepBut X w m F := ⟨h.map, fun p hp _ => h.row p hp, h.apart⟩

/-- Each slice is as long as its text. -/
def Long (F : Gf) : Prop := ∀ p ∈ F, ∃ a c, p.2.1 = .slice a p.2.2.length c

/-- The blocks in which the files' bytes lie. -/
def foot (F : Gf) (k : Nat) : Prop := ∃ p ∈ F, p.2.1.ownBlock = some k

theorem encD_put (F : Gf) (n : Nm) (v : Value) (t : List UInt8) : (encD F).put (.string n) (.held v) = encD (putA n (v, t) F) := by
  show DataW.map (DataW.insert (Lit.string n, DataW.held v) ((F.map fun p => (Lit.string p.1, DataW.held p.2.1)).filter fun p => !p.1.sameKey (.string n))) = _
  have e1 : ((F.map fun p => (Lit.string p.1, (DataW.held p.2.1 : DV))).filter fun p => !p.1.sameKey (.string n)) = (delA n F).map fun p => (Lit.string p.1, (DataW.held p.2.1 : DV)) := by
    rw [List.filter_map]
    rfl
  rw [e1]
  unfold encD putA
  congr 1
  generalize delA n F = l
  induction l with
  | nil => rfl
  | cons y r ih =>
    by_cases hb : bytesBefore n y.1 = true
    · simp [DataW.insert, insA, Lit.before, hb]
    · simp [DataW.insert, insA, Lit.before, hb, ih]

theorem encD_del (F : Gf) (n : Nm) : (encD F).del (.string n) = encD (delA n F) := by
  show DataW.map ((F.map fun p => (Lit.string p.1, (DataW.held p.2.1 : DV))).filter fun p => !p.1.sameKey (.string n)) = _
  rw [List.filter_map]
  rfl

theorem encD_has (F : Gf) (n : Nm) : Maps.has (encD F) (.string n) = (getA n F).isSome := by
  rw [encD, Maps.has_eq, List.any_map]
  unfold getA
  rw [Option.isSome_map, List.isSome_find?]
  rfl

theorem encD_at (F : Gf) (n : Nm) (z : DV) : (encD F).atKey (.string n) z = ((getA n F).map fun x => DataW.held x.1).getD z := by
  unfold encD DataW.atKey getA
  simp only
  rw [List.find?_map]
  have hf : F.find? ((fun p : Lit × DV => p.1.sameKey (Lit.string n)) ∘ fun p => (Lit.string p.1, DataW.held p.2.1)) = F.find? (fun p => p.1 == n) := rfl
  rw [hf]
  cases F.find? (fun p => p.1 == n) <;> rfl

theorem encD_size (F : Gf) : Maps.size (encD F) = F.length := by
  rw [encD, Maps.size_eq, List.length_map]

theorem map_sized {w : World} {m N : Nat} {F : Gf} (h : w.ownsMap Try.prog 9 tokR m N (encD F)) : w.ownsMap Try.prog 9 tokR m F.length (encD F) := by
  obtain ⟨es, clock, hb, Ft, _, hD⟩ := h
  refine ⟨es, clock, hb, Ft, ?_, hD⟩
  have h1 : Maps.size (encD F) = es.size := by rw [hD]; simp [Maps.size, length_sorted]
  rw [encD_size] at h1
  omega

theorem map_same {w w' : World} {m N : Nat} {D : DV} (h : w.ownsMap Try.prog 9 tokR m N D) (hm : w'.heap[m]? = w.heap[m]?) : w'.ownsMap Try.prog 9 tokR m N D := by
  obtain ⟨es, clock, hb, rest⟩ := h
  exact ⟨es, clock, hm.trans hb, rest⟩

theorem Row.same {w w' : World} {B : Nat} {v : Value} {t : List UInt8} (h : Row w B v t) (hk : ∀ k, v.ownBlock = some k → w'.heap[k]? = w.heap[k]?) : Row w' B v t := by
  refine ⟨h.1, ?_⟩
  rcases h.2 with h0 | ⟨g, cap, cur, h1, h2, h3, h4⟩
  · exact .inl h0
  · subst h1
    exact .inr ⟨g, cap, cur, rfl, h2, by rw [hk g rfl]; exact h3, h4⟩

theorem Row.lt {w : World} {B : Nat} {v : Value} {t : List UInt8} (h : Row w B v t) {k : Nat} (hk : v.ownBlock = some k) : B ≤ k ∧ k < w.heap.size := World.ownsRow.lt h k hk

/-- What lies in a row's block. -/
theorem Row.block {w : World} {B : Nat} {v : Value} {t : List UInt8} (h : Row w B v t) {k : Nat} (hk : v.ownBlock = some k) : ∃ cur, w.heap[k]? = some (.cells cur 5 (0, 0)) := by
  rcases h.2 with ⟨h0, _⟩ | ⟨g, cap, cur, h1, h2, h3, h4⟩
  · subst h0; simp [Value.ownBlock] at hk
  · subst h1
    simp [Value.ownBlock] at hk
    subst hk
    exact ⟨cur, h3⟩

theorem KeepBut.sameX {X : Option Nm} {w w' : World} {m : Nat} {F : Gf} (h : KeepBut X w m F) (hm : w'.heap[m]? = w.heap[m]?) (hf : ∀ p ∈ F, X ≠ some p.1 → ∀ k, p.2.1.ownBlock = some k → w'.heap[k]? = w.heap[k]?) : KeepBut X w' m F :=
  ⟨map_same h.map hm, fun p hp hX => (h.rowX p hp hX).same fun k hk => hf p hp hX k hk, h.apart⟩

theorem KeepBut.same {X : Option Nm} {w w' : World} {m : Nat} {F : Gf} (h : KeepBut X w m F) (hm : w'.heap[m]? = w.heap[m]?) (hf : ∀ k, foot F k → w'.heap[k]? = w.heap[k]?) : KeepBut X w' m F :=
  h.sameX hm fun p hp _ k hk => hf k ⟨p, hp, hk⟩

theorem KeepBut.foot_lt {w : World} {m : Nat} {F : Gf} (h : Keep w m F) {k : Nat} (hk : foot F k) : k < w.heap.size := by
  obtain ⟨p, hp, h1⟩ := hk
  exact ((h.row p hp).lt h1).2

theorem KeepBut.lt {X : Option Nm} {w : World} {m : Nat} {F : Gf} (h : KeepBut X w m F) : m < w.heap.size := h.map.lt

/-- The map's block is no row's. -/
theorem KeepBut.ne {X : Option Nm} {w : World} {m : Nat} {F : Gf} (h : KeepBut X w m F) {v : Value} {B : Nat} {t : List UInt8} (hr : Row w B v t) : v.ownBlock ≠ some m := fun e => by
  obtain ⟨cur, hc⟩ := hr.block e
  obtain ⟨es, clock, hb, _⟩ := h.map
  rw [hc] at hb
  cases hb

theorem KeepBut.ne_blk {X : Option Nm} {w : World} {m d : Nat} {F : Gf} {t : TypeId} {cs : Array Value} (h : KeepBut X w m F) (hb : Blk w d t cs) : m ≠ d := fun e => by
  subst e
  obtain ⟨es, clock, hm, _⟩ := h.map
  unfold Blk at hb
  rw [hm] at hb
  cases hb

theorem row_ne_blk {w : World} {d B : Nat} {v : Value} {l : List UInt8} {t : TypeId} {cs : Array Value} (h : Row w B v l) (hb : Blk w d t cs) (ht : t ≠ 5) : v.ownBlock ≠ some d := fun e => by
  obtain ⟨cur, hc⟩ := h.block e
  unfold Blk at hb
  rw [hc] at hb
  simp at hb
  exact ht hb.2.symm

theorem KeepBut.below {w w' : World} {m : Nat} {F : Gf} (h : Keep w m F) (hb : Below w.heap.size w w') : Keep w' m F := h.same (hb.block m h.lt) fun k hk => hb.block k (h.foot_lt hk)

theorem KeepBut.rise {X : Option Nm} {w : World} {m : Nat} {F : Gf} (h : KeepBut X w m F) : Rise F := by
  obtain ⟨es, e, h1, _⟩ := h.map.canon klaw
  have e2 : F.map (fun p => (Lit.string p.1, (DataW.held p.2.1 : DV))) = es := by
    unfold encD at e
    injection e
  rw [← e2, List.pairwise_map] at h1
  exact h1

theorem KeepBut.riseP {X : Option Nm} {w : World} {m : Nat} {F : Gf} (h : KeepBut X w m F) : Rise (pr F) := (rise_map (fun x : Value × List UInt8 => x.2)).2 h.rise

theorem pr_get (F : Gf) (n : Nm) : getA n (pr F) = (getA n F).map (·.2) := getA_map _
theorem pr_put (F : Gf) (n : Nm) (v : Value) (t : List UInt8) : pr (putA n (v, t) F) = putA n t (pr F) := (putA_map (fun x : Value × List UInt8 => x.2) (a := (v, t))).symm
theorem pr_del (F : Gf) (n : Nm) : pr (delA n F) = delA n (pr F) := (delA_map (fun x : Value × List UInt8 => x.2)).symm
theorem pr_length (F : Gf) : (pr F).length = F.length := by simp [pr]

/-- The slice of a file; nil of none. -/
def vOf (n : Nm) (F : Gf) : Value := ((getA n F).map (·.1)).getD (.slice none 0 0)

theorem KeepBut.long {w : World} {m : Nat} {F : Gf} (h : Keep w m F) : Long F := fun p hp => slice_of_row (h.row p hp)

theorem vOf_long {F : Gf} (h : Long F) (n : Nm) : ∃ a c, vOf n F = .slice a ((getA n (pr F)).getD []).length c := by
  rw [pr_get]
  unfold vOf
  cases hg : getA n F with
  | none => exact ⟨none, 0, rfl⟩
  | some x => exact h _ (getA_mem hg)

theorem vOf_row {w : World} {m : Nat} {F : Gf} (h : Keep w m F) (n : Nm) : Row w 0 (vOf n F) ((getA n (pr F)).getD []) := by
  rw [pr_get]
  unfold vOf
  cases hg : getA n F with
  | none => exact World.ownsRow_nil _ _ _ _
  | some x => exact h.row _ (getA_mem hg)

theorem vOf_foot {n : Nm} {F : Gf} {k : Nat} (h : (vOf n F).ownBlock = some k) : foot F k := by
  unfold vOf at h
  cases hg : getA n F with
  | none => rw [hg] at h; simp [Value.ownBlock] at h
  | some x => rw [hg] at h; exact ⟨_, getA_mem hg, h⟩

/-- The others lie elsewhere. -/
theorem vOf_apart {X : Option Nm} {w : World} {m : Nat} {F : Gf} (h : KeepBut X w m F) (n : Nm) : ∀ p ∈ F, p.1 ≠ n → Apart (vOf n F) p.2.1 := by
  intro p hp hne
  unfold vOf
  cases hg : getA n F with
  | none => intro k hk; simp [Value.ownBlock] at hk
  | some x =>
    have hm := getA_mem hg
    have hall : ∀ {l : Gf}, l.Pairwise (fun p q => Apart p.2.1 q.2.1) → ∀ a ∈ l, ∀ b ∈ l, a ≠ b → Apart a.2.1 b.2.1 := by
      intro l hl
      induction l with
      | nil => intro a ha; cases ha
      | cons y r ih =>
        rw [List.pairwise_cons] at hl
        intro a ha b hb hab
        rcases List.mem_cons.1 ha with e1 | h1
        · rcases List.mem_cons.1 hb with e2 | h2
          · exact absurd (e1.trans e2.symm) hab
          · rw [e1]; exact hl.1 b h2
        · rcases List.mem_cons.1 hb with e2 | h2
          · rw [e2]; exact (hl.1 a h1).symm
          · exact ih hl.2 a h1 b h2 hab
    exact hall h.apart _ hm p hp fun e => hne (by rw [← e])

theorem zero_slice (w : World) : (zeroValue 22).run Try.prog w = .ok (.slice none 0 0) w := by kernel_rfl

/-- 'm[n]'. -/
theorem look {X : Option Nm} {w : World} {m : Nat} {F : Gf} (h : KeepBut X w m F) {n : Nm} (hn : n.length ≤ 9223372036854775807) : (Instr.lookup 118 (.map (some m)) (nm n) false).run Try.prog w = .ok (vOf n F) w := by
  obtain ⟨v, ps, hr, hv⟩ := h.map.lookup klaw Try.underlying118 (zero_slice w) (zd := .held (.slice none 0 0)) (zp := []) rfl (keyOf_nm hn)
  rw [hr]
  rw [encD_at] at hv
  unfold tokR at hv
  simp only [Option.some.injEq, Prod.mk.injEq] at hv
  have e : v = vOf n F := by
    unfold vOf
    have h1 := hv.1
    cases hg : getA n F with
    | none => rw [hg] at h1; simpa using h1
    | some x => rw [hg] at h1; simpa using h1
  rw [e]

/-- 'v, ok := m[n]'. -/
theorem look_ok {X : Option Nm} {w : World} {m : Nat} {F : Gf} (h : KeepBut X w m F) {n : Nm} (hn : n.length ≤ 9223372036854775807) : (Instr.lookup 118 (.map (some m)) (nm n) true).run Try.prog w = .ok (.tuple #[vOf n F, .bool (getA n F).isSome]) w := by
  obtain ⟨v, ps, hr, hv⟩ := h.map.look_ok klaw Try.underlying118 (zero_slice w) (zd := .held (.slice none 0 0)) (zp := []) rfl (keyOf_nm hn)
  rw [hr]
  rw [encD_at] at hv
  unfold tokR at hv
  simp only [Option.some.injEq, Prod.mk.injEq] at hv
  have e : v = vOf n F := by
    unfold vOf
    have h1 := hv.1
    cases hg : getA n F with
    | none => rw [hg] at h1; simpa using h1
    | some x => rw [hg] at h1; simpa using h1
  rw [e, encD_has]

/-- 'm[n] = v'. -/
theorem store {w : World} {m : Nat} {F : Gf} {n : Nm} (h : KeepBut (some n) w m F) (hn : n.length ≤ 9223372036854775807) (hc : F.length ≤ 1048576) {v : Value} {t : List UInt8} (hv : Row w 0 v t) (ha : ∀ p ∈ F, p.1 ≠ n → Apart v p.2.1) :
    ∃ w', (Instr.mapUpdate 118 (.map (some m)) (nm n) v).run Try.prog w = .ok () w' ∧ (Keep w' m (putA n (v, t) F) ∧ OnlyS (fun k => k = m) w w') := by
  obtain ⟨w', hr, h1, h2⟩ := h.map.store klaw Try.underlying118 (by unfold maxLen; omega) (keyOf_nm hn) (show tokR v = some (.held v, []) from rfl)
  rw [encD_put F n v t] at h1
  have hg := h2.grown
  have hrow : ∀ (u : Value) (s : List UInt8), Row w 0 u s → Row w' 0 u s := fun u s hu => hu.same fun k hk => hg.block k (hu.lt hk).2 fun e => h.ne hu (by rw [hk, e])
  refine ⟨w', hr, ⟨map_sized h1, fun p hp _ => ?_, ?_⟩, ⟨hg.os, hg.tape, hg.output, hg.size, fun k hk hne => hg.block k hk fun e => hne (by simpa using e)⟩⟩
  · rcases mem_put.1 hp with rfl | ⟨hp, hne⟩
    · exact hrow _ _ hv
    · exact hrow _ _ (h.rowX p hp fun e => hne (Option.some.inj e).symm)
  · exact pair_put h.apart (fun p hp hne => ha p hp hne) fun p hp hne => (ha p hp hne).symm

/-- 'delete(m, n)'. -/
theorem drop {w : World} {m : Nat} {F : Gf} (h : Keep w m F) {n : Nm} (hn : n.length ≤ 9223372036854775807) (ty : TypeId) :
    ∃ w', (Builtin.delete_ #[118, 9] ty #[.map (some m), nm n]).run Try.prog w = .ok (.tuple #[]) w' ∧ (Keep w' m (delA n F) ∧ OnlyS (fun k => k = m) w w') := by
  obtain ⟨w', hr, h1, h2⟩ := h.map.drop klaw Try.underlying118 (keyOf_nm hn) ty
  rw [encD_del] at h1
  have hg := h2.grown
  have hrow : ∀ (u : Value) (s : List UInt8), Row w 0 u s → Row w' 0 u s := fun u s hu => hu.same fun k hk => hg.block k (hu.lt hk).2 fun e => h.ne hu (by rw [hk, e])
  exact ⟨w', hr, ⟨map_sized h1, fun p hp _ => hrow _ _ (h.row p (mem_del.1 hp).1), pair_del h.apart⟩, ⟨hg.os, hg.tape, hg.output, hg.size, fun k hk hne => hg.block k hk fun e => hne (by simpa using e)⟩⟩

/-! ### rows that grow and are laid over -/

/-- Where a slice lies that came of another. -/
def Near (w : World) (v v' : Value) : Prop := ∀ k, v'.ownBlock = some k → v.ownBlock = some k ∨ w.heap.size ≤ k

theorem Near.trans {w w' : World} {a b c : Value} (h : Near w a b) (hs : w.heap.size ≤ w'.heap.size) (k : Near w' b c) : Near w a c := fun j hj => by
  rcases k j hj with h1 | h1
  · exact h j h1
  · exact .inr (Nat.le_trans hs h1)

theorem near_refl (w : World) (v : Value) : Near w v v := fun _ h => .inl h

/-- append(v, x...). -/
theorem append_at {w : World} {B : Nat} {v x : Value} {l l' : List UInt8} (hB : B ≤ w.heap.size) (h : Row w B v l) (hx : Bys w x l') (hlen : l.length + l'.length ≤ 140737488351232) :
    ∃ v' w', (Builtin.append_ #[22, 22] 22 #[v, x]).run Try.prog w = .ok v' w' ∧ (Row w' B v' (l ++ l') ∧ OnlyS (fun k => v.ownBlock = some k) w w' ∧ Near w v v') := by
  obtain ⟨i0, hi, hz0, hz1, hz2⟩ := info_parts info_byte
  rcases hx with ⟨rfl, rfl⟩ | ⟨ad, cap, rfl, hc⟩
  · exact ⟨v, w, run_append_owned_none (P := Try.prog) (w := w) B _ _ _ i0 1 Try.underlying22 hi v l.length (l.map bv) h, by simpa using h, OnlyS.refl _ _, near_refl _ _⟩
  · obtain ⟨v', w', hr, h1, h2, h3, h4⟩ := run_append_own_at (P := Try.prog) w B 22 22 5 i0 (.int .u8 0) 1 1 Try.underlying22 hi hz0 hz1 hz2 rfl (by decide) v l.length (l.map bv) h ad l'.length cap (l'.map bv) (by simp) (cells_bys hc) (one_bv l') (by unfold maxLen; omega) (by omega) hB
    refine ⟨v', w', hr, ?_, ⟨h2.os, h2.tape, h2.output, h2.size, fun k hk hne => h2.block k hk fun e => hne e.symm⟩, fun k hk => ?_⟩
    · unfold Row
      rw [List.length_append, List.map_append]
      exact h1
    · rcases h4 with h4 | h4
      · exact .inl (h4 ▸ hk)
      · rw [h4] at hk
        simp at hk
        exact .inr (Nat.le_of_eq hk)

theorem zero_cells (k : Nat) : (Builtin.zeroCells (Value.int .u8 0).cells k).toList = (List.replicate k (0 : UInt8)).map bv := by
  apply List.ext_getElem
  · simp [Builtin.zeroCells, Value.cells]
  · intro i h1 h2
    simp [Builtin.zeroCells, Value.cells, bv, Nat.mod_one]

/-- append(v, make([]byte, k)...). -/
theorem append_zeros {w : World} {B : Nat} {v : Value} {l : List UInt8} (hB : B ≤ w.heap.size) (h : Row w B v l) (k : Nat) (hlen : l.length + k ≤ 1099511627776) :
    ∃ v' w', (Builtin.append_ #[22, 3] 22 #[v, .int .i64 (k : Int)]).run Try.prog w = .ok v' w' ∧ (Row w' B v' (l ++ List.replicate k 0) ∧ OnlyS (fun k => v.ownBlock = some k) w w' ∧ Near w v v') := by
  obtain ⟨i0, hi, hz0, hz1, hz2⟩ := info_parts info_byte
  have hwk : IntKind.i64.wrap (k : Int) = k := by rw [IntKind.wrap_i64]; omega
  have hw0 : IntKind.i64.wrap 0 = 0 := by rw [IntKind.wrap_i64]; rfl
  have hneg : ¬ ((k : Int) < 0) := by omega
  have h48i : ¬ (281474976710656 < (k : Int)) := by omega
  rcases h.2 with ⟨rfl, h0⟩ | ⟨g, cap, cur, rfl, hbg, hg, hnc, hcm, hcs, htake⟩
  · obtain rfl := List.eq_nil_of_length_eq_zero h0
    by_cases hk : k = 0
    · subst hk
      refine ⟨.slice none 0 0, w, ?_, by simpa using h, OnlyS.refl _ _, near_refl _ _⟩
      simp [Builtin.append_, run_underlying Try.underlying22, run_underlying Try.underlying3, sizeOf, typeInfo, hi, hz2, asInt, asIntOf, hw0]
    · have hr := Lib.run_append_nil_zeros (P := Try.prog) w 22 3 22 5 i0 (.int .u8 0) .i64 .i64 Try.underlying22 Try.underlying3 hi hz0 k (by omega) (by omega) (by omega) (by rw [hz2]; omega)
      refine ⟨_, _, hr, ?_, ⟨rfl, rfl, rfl, by simp, fun j hj _ => Below.heap_alloc w.drew _ j hj⟩, fun j hj => .inr (by simp [Value.ownBlock] at hj; omega)⟩
      have hge := grownCap_ge w k 0 5
      have hle := grownCap_le_maxLen w k 0 5 (by unfold maxLen; omega)
      refine ⟨by simp, .inr ⟨w.heap.size, _, _, by simp, hB, heap_alloc_new w.drew _, by simpa using hge, hle, ?_, ?_⟩⟩
      · simp [size_zeroCells, Value.cells]
        omega
      · simp only [Array.toList_append, zero_cells, List.nil_append, List.length_replicate, Nat.mul_one]
        rw [List.take_append_of_le_length (by simp)]
        rw [List.take_of_length_le (by simp)]
  · by_cases hroom : l.length + k ≤ cap
    · have hst := run_storeCells_at Try.prog g l.length 5 ((List.replicate k (0 : UInt8)).map bv) 0 cur w hg (by simp; omega) (one_bv _)
      refine ⟨.slice (some ⟨g, 0, none⟩) (l.length + k) cap, _, ?_, ⟨by simp, .inr ⟨g, cap, _, by simp, hbg, setRow_heap w g cur (cur.toList.take l.length ++ (List.replicate k (0 : UInt8)).map bv ++ cur.toList.drop (l.length + k)).toArray 5 _ hg, by simpa using hroom, hcm, ?_, ?_⟩⟩, ⟨rfl, rfl, rfl, by simp, fun j hj hne => setRow_other w g j _ fun e => hne (by simp [Value.ownBlock, e])⟩, near_refl _ _⟩
      · have e1 : (Builtin.zeroCells (Value.int .u8 0).cells k).toList = (List.replicate k (0 : UInt8)).map bv := zero_cells k
        simp only [Nat.add_zero] at hst
        by_cases hk : k = 0
        · subst hk
          simp [Builtin.append_, run_underlying Try.underlying22, run_underlying Try.underlying3, sizeOf, typeInfo, hi, hz1, hz2, asInt, asIntOf, hw0, show l.length ≤ cap by omega, addr_add]
          simp at hst
          simp [hst]
        · simp [Builtin.append_, run_underlying Try.underlying22, run_underlying Try.underlying3, sizeOf, typeInfo, zeroValue, hi, hz0, hz1, hz2, asInt, asIntOf, hwk, hneg, h48i, hroom, hk, e1]
          simp at hst
          simp [addr_add, hst]
      · simp only [List.size_toArray, List.length_append, List.length_take, List.length_drop, Array.length_toList, List.length_map, List.length_replicate]
        omega
      · simp only [List.length_append, List.length_replicate, Nat.mul_one, List.map_append] at htake ⊢
        rw [htake]
        rw [List.take_append_of_le_length (by simp)]
        rw [List.take_of_length_le (by simp)]
    · have holds : ∀ j u, (l.map bv)[j]? = some u → w.cell? ((⟨g, 0, none⟩ : Addr).add j) = some u := World.ownsRow.cells h (g := g) rfl
      have hold := run_firstCells_some (P := Try.prog) w.drew i0.size l.length ⟨g, 0, none⟩ l.length cap (l.map bv) (by simp [hz1]) (by simpa using holds)
      have hr := Lib.run_append_grow_zeros (P := Try.prog) w 22 3 22 5 i0 (.int .u8 0) .i64 .i64 Try.underlying22 Try.underlying3 hi hz0 (some ⟨g, 0, none⟩) l.length cap (l.map bv) hold k (by omega) (by omega) (by omega) (by omega) (by rw [hz2]; omega) (growslice_fits (by omega) (by rw [hz2]; omega))
      refine ⟨_, _, hr, ?_, ⟨rfl, rfl, rfl, by simp, fun j hj _ => Below.heap_alloc w.drew _ j hj⟩, fun j hj => .inr (by simp [Value.ownBlock] at hj; omega)⟩
      have hge := grownCap_ge w (l.length + k) cap 5
      have hle := grownCap_le_maxLen w (l.length + k) cap 5 (by unfold maxLen; omega)
      refine ⟨by simp, .inr ⟨w.heap.size, _, _, by simp, hB, heap_alloc_new w.drew _, by simpa using hge, hle, ?_, ?_⟩⟩
      · simp [size_zeroCells, Value.cells]
        omega
      · simp only [Array.toList_append, zero_cells, List.length_append, List.length_replicate, Nat.mul_one, List.map_append]
        rw [List.take_append_of_le_length (by simp)]
        rw [List.take_of_length_le (by simp)]

end Go.Proofs.Ytboongdoggggoaa
