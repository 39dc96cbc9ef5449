/- A new reader; what the laws of layer 1 begin with. -/
import Derived.Test.YthaggdkfaglgaaaDoorBinMethods
namespace Go.Proofs.YthaggdkfaglgaaaDoor
set_option maxRecDepth 20000
open Go.RowKit BinMath
variable {G : Nat}

theorem bys_cells {w : World} {a : Option Addr} {len cap : Nat} {l : List UInt8} (h : Bys w (.slice a len cap) l) : len = l.length ∧ (0 < l.length → ∃ ad, a = some ad ∧ ∀ j v, (l.map bv)[j]? = some v → w.cell? (ad.add j) = some v) := by
  rcases h with ⟨h1, rfl⟩ | ⟨ad, cap', h1, hc⟩
  · simp at h1
    exact ⟨h1.2.1, fun h => by simp at h⟩
  · simp at h1
    obtain ⟨rfl, rfl, rfl⟩ := h1
    exact ⟨rfl, fun _ => ⟨ad, rfl, cells_bys hc⟩⟩

theorem made {w1 : World} {B T n : Nat} {xs : List Value} (h : w1.ownsRow B 5 1 (.slice (some ⟨T, 0, none⟩) n n) n xs) : ∃ cur, w1.heap[T]? = some (.cells cur 5 (0, 0)) ∧ cur.size = n := by
  rcases h.2 with ⟨h0, _⟩ | ⟨T', cap0, cur, hT, hBT, hg1, hnc, hcm0, hcs, htk⟩
  · cases h0
  · simp at hT
    obtain ⟨rfl, rfl⟩ := hT
    exact ⟨cur, hg1, by simpa using hcs⟩

theorem pos_ready {w w1 : World} {T : Nat} {a : Option Addr} {l : List UInt8} (hc : 0 < l.length → ∃ ad, a = some ad ∧ ∀ j v, (l.map bv)[j]? = some v → w.cell? (ad.add j) = some v) (hb : Below w.heap.size w w1) :
    0 < (l.map bv).length → some (⟨T, 0, none⟩ : Addr) = some ⟨T, 0, none⟩ ∧ ∃ ad, a = some ad ∧ ∀ j v, (l.map bv)[j]? = some v → w1.cell? (ad.add j) = some v := fun h => by
  rw [List.length_map] at h
  obtain ⟨ad, h1, h2⟩ := hc h
  refine ⟨rfl, ad, h1, fun j v hj => ?_⟩
  have h3 := h2 j v hj
  rw [hb.cell (World.block_lt_of_cell? w _ h3)]
  exact h3

set_option maxHeartbeats 400000 in
theorem rnew_any (a : Option Addr) (len cap : Nat) (l : List UInt8) (w : World) (hx : Bys w (.slice a len cap) l) (hl : l.length ≤ 140737488351232) :
    Calls Tryd.prog 15 #[.slice a len cap] w fun e w' => ∃ R, e = .returned (.pointer (some ⟨R, 0, none⟩)) ∧ w.heap.size ≤ R ∧ IsRd w' R w'.heap.size l 0 0 ∧ Below w.heap.size w w' := by
  obtain ⟨i0, hi, hz0, hz1, hz2⟩ := info_parts info_byte
  obtain ⟨hlen, hc⟩ := bys_cells hx
  have HX := Lib.hid hx
  have HC := Lib.hid hc
  have HLen := Lib.hid hlen
  have hll : len ≤ 140737488351232 := by omega
  clear hx hc hlen hl
  go_enter Tryd.func15, Tryd.ntmps15
  go_wp2_with (first | (at_make; refine wpList_make_full _ rfl _ _ 22 rfl w.heap.size 5 i0 (.int .u8 0) 1 Tryd.underlying22 hi hz0 hz1 _ _ _ _ len rfl rfl rfl rfl (by rw [hz2]; omega) (by unfold maxLen; omega) (Nat.le_refl _) ?_; intro w1 hown hgrow; (obtain ⟨cur, hg1, hcs⟩ := made hown); (have HB := Lib.hid ((Below.refl _ w).grown hgrow (Nat.le_refl _) (by simp))); (have HG := Lib.hid hg1); (have HCs := Lib.hid hcs); (have HPos := Lib.hid (pos_ready (T := w.heap.size) HC.out HB.out)); clear hown hgrow hg1 hcs) | (refine wpList_copy_splice rfl (.tmp 7) (.tmp 8) 22 22 rfl 5 Tryd.underlying22 (by kernel_rfl) _ _ _ _ _ _ rfl rfl w.heap.size 0 cur.toList 5 HG.out (l.map bv) (by rw [List.length_map, ← HLen.out]; show _ = min _ _; omega) HPos.out (by rw [List.length_map, ← HLen.out]; simp [HCs.out]) (one_bv l) w.heap.size w HB.out (Nat.le_refl _) ?_; intro w2 hg2 hb2; (have HB2 := Lib.hid hb2); clear hb2))
  go_wp2
  go_ret
  have hlen := HLen.out
  have hgs : w.heap.size < w2.heap.size := by
    have := hg2.out
    exact (Array.getElem?_eq_some_iff.1 this).1
  refine ⟨w2.heap.size, rfl, HB2.out.size, ⟨some ⟨w.heap.size, 0, none⟩, len, ?_, Nat.zero_le _, by omega, ⟨by omega, by unfold maxLen; omega, Nat.le_refl _⟩, .inr ⟨w.heap.size, rfl, by omega, by rw [World.size_alloc]; omega, fun i hi => ?_⟩⟩, HB2.out.alloc HB2.out.size _⟩
  · rw [← HLen.out]
    exact heap_alloc_new w2 _
  · have h1 : (w2.alloc (.cells #[.slice (some ⟨w.heap.size, 0, none⟩) len len, .int .i64 0, .int .i64 0] 53)).heap[w.heap.size]? = some (.cells (splice cur.toList 0 (l.map bv)).toArray 5 (0, 0)) := by
      rw [Below.heap_alloc _ _ _ hgs]; exact hg2.out
    refine (cell_of_heap h1).trans ?_
    have e : splice cur.toList 0 (l.map bv) = l.map bv := by
      have := HCs.out
      have := HLen.out
      simp [splice]
      omega
    rw [e]
    simp [hi]

theorem four_bytes (w : World) : Bys (w.alloc (.cells #[.int .u8 2, .int .u8 1, .int .u8 0, .int .u8 9] 5)) (.slice (some ⟨w.heap.size, 0, none⟩) 4 4) [2, 1, 0, 9] :=
  .inr ⟨⟨w.heap.size, 0, none⟩, 4, rfl, fun i hi => by
    rw [addr_add, Nat.zero_add, World.cell?_alloc_at _ _ _ _ rfl]
    have : i < 4 := hi
    match i, this with
    | 0, _ => rfl
    | 1, _ => rfl
    | 2, _ => rfl
    | 3, _ => rfl⟩

end Go.Proofs.YthaggdkfaglgaaaDoor
