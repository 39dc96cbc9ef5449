/- Bytes in the program's memory, and what an append to them gives. -/
import Derived.Test.YtdhfabjkpffhnaaDoorRows
import Derived.Test.YtdhfabjkpffhnaaDoorFrame
import Derived.Laws.AppendOwnNone
import Derived.WalkKit
import Derived.WalkSpells
import Derived.WalkLawsBesides
import Derived.Lib.Hide
import Derived.Lib.BufferRead
namespace Go.Proofs.YtdhfabjkpffhnaaDoor
set_option maxRecDepth 20000
open Go.RowKit

/-- A byte as a cell holds it. -/
def bv (c : UInt8) : Value := .int .u8 (c.toNat : Int)

theorem info_byte : (Tryd.prog.info? 5).map (fun i => (i.zero, i.size, i.bytes)) = some (some (.int .u8 0), 1, 1) := by kernel_rfl

/-- A slice of bytes in memory of the call's own, from block B on: the bytes l. -/
def Row (w : World) (B : Nat) (v : Value) (l : List UInt8) : Prop := w.ownsRow B 5 1 v l.length (l.map bv)

/-- A slice of bytes, wherever it lies: the bytes l. -/
def Bys (w : World) (v : Value) (l : List UInt8) : Prop :=
  (v = .slice none 0 0 ∧ l = []) ∨
  ∃ ad cap, v = .slice (some ad) l.length cap ∧ ∀ i (h : i < l.length), w.cell? (ad.add i) = some (bv l[i])

theorem addr_add (b o j : Nat) : (⟨b, o, none⟩ : Addr).add j = ⟨b, o + j, none⟩ := by
  by_cases h : j = 0 <;> simp [Addr.add, h]

theorem add_block (ad : Addr) (j : Nat) : (ad.add j).block = ad.block := by
  by_cases h : j = 0 <;> simp [Addr.add, h]

theorem Bys.below {w w' : World} {v : Value} {l : List UInt8} (h : Bys w v l) {B : Nat} (hB : w.heap.size ≤ B) (hb : Below B w w') : Bys w' v l := by
  rcases h with h | ⟨ad, cap, hv, hc⟩
  · exact .inl h
  · exact .inr ⟨ad, cap, hv, fun i hi => by
      have h1 := hc i hi
      rw [hb.cell (p := ad.add i) (Nat.lt_of_lt_of_le (World.block_lt_of_cell? w _ h1) hB)]
      exact h1⟩

theorem Row.bys {w : World} {B : Nat} {v : Value} {l : List UInt8} (h : Row w B v l) : Bys w v l := by
  have h0 := h
  rcases h.2 with ⟨rfl, hl⟩ | ⟨g, cap, cur, rfl, hB, hg, hn, hm, hs, ht⟩
  · exact .inl ⟨rfl, List.eq_nil_of_length_eq_zero hl⟩
  · refine .inr ⟨⟨g, 0, none⟩, cap, rfl, fun i hi => ?_⟩
    rw [addr_add, Nat.zero_add, h0.cellAt i (by omega)]
    simp [hi]

/-- 'string(v)'. -/
theorem conv_bys {w : World} {v : Value} {l : List UInt8} (h : Bys w v l) : (convert 22 9 v).run Tryd.prog w = .ok (.string ⟨l.toArray⟩) w := by
  rcases h with ⟨rfl, rfl⟩ | ⟨ad, cap, rfl, hc⟩
  · exact Lib.run_convert_nil_bytes w _ _ _ 0 Tryd.underlying22 Tryd.underlying5 Tryd.underlying9
  · exact run_convert_bytes_back w _ _ _ ad cap l Tryd.underlying22 Tryd.underlying5 Tryd.underlying9 hc

theorem bytes_of (zs : List Int) (h : ∀ n ∈ zs, (Lit.int .u8 n).wf = true) : ∃ l : List UInt8, zs = l.map fun c => (c.toNat : Int) := by
  induction zs with
  | nil => exact ⟨[], rfl⟩
  | cons z zs ih =>
    obtain ⟨l, hl⟩ := ih fun n hn => h n (List.mem_cons_of_mem _ hn)
    have hz := bounds_u8 (h z (by simp))
    refine ⟨UInt8.ofNat z.toNat :: l, ?_⟩
    simp [← hl]
    omega

/-- What came in. -/
theorem IsRow.bys {w : World} {a : Option Addr} {len cap : Nat} {zs : List Int} (h : IsRow .u8 w a len cap zs) : ∃ l : List UInt8, l.length = len ∧ Bys w (.slice a len cap) l := by
  rcases h with ⟨rfl, rfl, rfl, rfl⟩ | ⟨ad, rfl, hl, hm, hz, hc, hw⟩
  · exact ⟨[], rfl, .inl ⟨rfl, rfl⟩⟩
  · obtain ⟨l, rfl⟩ := bytes_of zs hw
    have hll : l.length = cap := by simpa using hz
    have e : (l.take len).length = len := by rw [List.length_take]; omega
    refine ⟨l.take len, e, .inr ⟨ad, cap, by rw [e], fun i hi => ?_⟩⟩
    have hi' : i < l.length := by rw [e] at hi; omega
    rw [hc i (by simpa using hi')]
    simp [bv, List.getD, hi']

/-- The cells of a text, one behind the other. -/
theorem cells_bys {w : World} {ad : Addr} {l : List UInt8} (hc : ∀ i (h : i < l.length), w.cell? (ad.add i) = some (bv l[i])) : ∀ (j : Nat) (u : Value), (l.map bv)[j]? = some u → w.cell? (ad.add j) = some u := by
  intro j u h
  have hj : j < l.length := by have := (List.getElem?_eq_some_iff.1 h).1; simpa using this
  rw [hc j hj]
  simpa [hj] using h

theorem one_bv (l : List UInt8) : ∀ u ∈ l.map bv, u.oneCell' = true := by
  intro u hu
  obtain ⟨c, _, rfl⟩ := List.mem_map.1 hu
  simp [bv, Value.oneCell']

/-- append(v, x...), v the call's own. -/
theorem append_bys {w : World} {B : Nat} {v x : Value} {l l' : List UInt8} (hB : B ≤ w.heap.size) (h : Row w B v l) (hx : Bys w x l') (hlen : l.length + l'.length ≤ 140737488355328) :
    ∃ v' w', (Builtin.append_ #[22, 22] 22 #[v, x]).run Tryd.prog w = .ok v' w' ∧ Row w' B v' (l ++ l') ∧ w.grownBy w' v.ownBlock := by
  obtain ⟨i0, hi, hz0, hz1, hz2⟩ := info_parts info_byte
  rcases hx with ⟨rfl, rfl⟩ | ⟨ad, cap, rfl, hc⟩
  · refine ⟨v, w, run_append_owned_none (P := Tryd.prog) (w := w) B _ _ _ i0 1 Tryd.underlying22 hi v l.length (l.map bv) h, by simpa using h, ?_⟩
    exact ⟨rfl, rfl, rfl, Nat.le_refl _, fun _ _ _ => rfl⟩
  · obtain ⟨v', w', hr, h1, h2, h3⟩ := run_append_own (P := Tryd.prog) w B 22 22 5 i0 (.int .u8 0) 1 1 Tryd.underlying22 hi hz0 hz1 hz2 rfl (by decide) v l.length (l.map bv) h ad l'.length cap (l'.map bv) (by simp) (cells_bys hc) (one_bv l') (by unfold maxLen; omega) (by omega) hB
    refine ⟨v', w', hr, ?_, h2⟩
    unfold Row
    rw [List.length_append, List.map_append]
    exact h1

/-- append([]byte{}, x...): nothing that was there is written. -/
theorem append_lit {w : World} {B g : Nat} {x : Value} {l : List UInt8} (hB : B ≤ g) (hg : w.heap[g]? = some (.cells #[] 5 (0, 0))) (hx : Bys w x l) (hlen : l.length ≤ 140737488355328) :
    ∃ v' w', (Builtin.append_ #[22, 22] 22 #[.slice (some ⟨g, 0, none⟩) 0 0, x]).run Tryd.prog w = .ok v' w' ∧ Row w' B v' l ∧ Below w.heap.size w w' := by
  obtain ⟨i0, hi, hz0, hz1, hz2⟩ := info_parts info_byte
  have hlt : g < w.heap.size := (Array.getElem?_eq_some_iff.1 hg).1
  have hrow : w.ownsRow B 5 1 (.slice (some ⟨g, 0, none⟩) 0 0) 0 [] := ⟨rfl, .inr ⟨g, 0, #[], rfl, hB, hg, Nat.le_refl _, by unfold maxLen; omega, rfl, rfl⟩⟩
  rcases hx with ⟨rfl, rfl⟩ | ⟨ad, cap, rfl, hc⟩
  · exact ⟨_, w, run_append_owned_none (P := Tryd.prog) (w := w) B _ _ _ i0 1 Tryd.underlying22 hi _ 0 [] hrow, hrow, Below.refl _ _⟩
  · by_cases hl : l = []
    · subst hl
      have hr := run_append_room (P := Tryd.prog) w 22 22 5 i0 Tryd.underlying22 hi g 0 0 #[] hg ad 0 cap [] (by simp) (by simp) (by simp) (by omega) (by simp)
      refine ⟨_, _, hr, ?_, ⟨rfl, rfl, rfl, by simp, fun k hk => ?_⟩⟩
      · refine ⟨rfl, .inr ⟨g, 0, #[], rfl, hB, ?_, Nat.le_refl _, by unfold maxLen; omega, rfl, rfl⟩⟩
        simpa using setRow_heap w g #[] _ 5 _ hg
      · by_cases hkg : k = g
        · subst hkg
          rw [hg]
          simpa using setRow_heap w k #[] _ 5 _ hg
        · exact setRow_other w g k _ hkg
    · have hpos : 0 < l.length := List.length_pos_iff.2 hl
      have hr := run_append_grow (P := Tryd.prog) w 22 22 5 i0 (.int .u8 0) Tryd.underlying22 hi hz0 ⟨g, 0, none⟩ 0 0 [] (by simp) (by simp) ad l.length cap (l.map bv) (by simp [hz1]) (cells_bys hc) (by omega) (by omega) (growslice_fits (by omega) (by rw [hz2]; omega))
      refine ⟨_, _, hr, ?_, (Below.refl _ _).drew.alloc (Nat.le_refl _) _⟩
      have hge := grownCap_ge w (0 + l.length) 0 5
      have hge' := grownCap_ge w l.length 0 5
      have hle := grownCap_le_maxLen w (0 + l.length) 0 5 (by unfold maxLen; omega)
      refine ⟨by simp, .inr ⟨w.heap.size, _, _, by rw [Nat.zero_add], by omega, heap_alloc_new w.drew _, by omega, hle, ?_, ?_⟩⟩
      · simp [size_zeroCells]
        simp [Value.cells]
        omega
      · simp


theorem slice_of_row {w : World} {B : Nat} {v : Value} {t : List UInt8} (h : Row w B v t) : ∃ a cap, v = .slice a t.length cap := by
  rcases h.2 with ⟨hv, h0⟩ | ⟨g, cap, cur, hv, _⟩
  · exact ⟨none, 0, by rw [hv, h0]⟩
  · exact ⟨_, _, hv⟩

theorem bv_of (k : Nat) : bv (UInt8.ofNat k) = .int .u8 ((k % 256 : Nat) : Int) := by simp [bv]

/-- Where one byte of a row is written. -/
theorem row_set {w : World} {B g n c : Nat} {l : List UInt8} (h : Row w B (.slice (some ⟨g, 0, none⟩) n c) l) (j : Nat) (b : UInt8) : Row (w.setCell ⟨g, j, none⟩ (bv b)) B (.slice (some ⟨g, 0, none⟩) n c) (l.set j b) := by
  obtain ⟨a', c', e⟩ := slice_of_row h
  cases e
  have h1 := (World.ownsRow.stored h j (bv b)).1
  unfold Row
  rw [List.length_set, List.map_set]
  simpa using h1

/-- The byte that stands there. -/
theorem row_at {w : World} {B g n c : Nat} {l : List UInt8} (h : Row w B (.slice (some ⟨g, 0, none⟩) n c) l) (i : Nat) (hi : i < l.length) : w.cell? ⟨g, i, none⟩ = some (bv l[i]) ∧ w.frozen? ⟨g, i, none⟩ = false := by
  obtain ⟨a', c', e⟩ := slice_of_row h
  cases e
  have h1 := World.ownsRow.cellAt h i (by omega)
  refine ⟨?_, World.ownsRow.frozenAt h i⟩
  rw [h1]
  simp [hi]

theorem row_cell {w : World} {B g n c : Nat} {l : List UInt8} (h : Row w B (.slice (some ⟨g, 0, none⟩) n c) l) (i : Nat) (hi : i < l.length) : (∃ z, w.cell? ⟨g, i, none⟩ = some (.int .u8 z)) ∧ w.frozen? ⟨g, i, none⟩ = false := by
  obtain ⟨a', c', e⟩ := slice_of_row h
  cases e
  have h1 := World.ownsRow.cellAt h i (by omega)
  refine ⟨⟨(l[i].toNat : Int), ?_⟩, World.ownsRow.frozenAt h i⟩
  rw [h1]
  simp [hi, bv]

theorem u8_wrap (z : Int) : ∃ b : UInt8, (Value.int .u8 (IntKind.u8.wrap z)) = bv b := by
  refine ⟨UInt8.ofNat (z % 256).toNat, ?_⟩
  have e := IntKind.wrap_u8 z
  rw [e, bv_of]
  congr 1
  omega

end Go.Proofs.YtdhfabjkpffhnaaDoor
