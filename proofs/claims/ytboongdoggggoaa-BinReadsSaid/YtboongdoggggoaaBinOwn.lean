/- New, told by where its memory lies; loops that count up the bytes of a row. -/
import Derived.Test.YtboongdoggggoaaBinNil
import Derived.Test.YtboongdoggggoaaBinNew
import Derived.Test.YtboongdoggggoaaRefRaw
namespace Go.Proofs.Ytboongdoggggoaa
set_option maxRecDepth 20000
open Go.RowKit BinMath

/-- A reader, as long as the blocks from B to G are as they were. -/
def Rests (w' : World) (R B : Nat) (l : List UInt8) : Prop := ∀ W : World, w'.heap.size ≤ W.heap.size → (∀ g, B ≤ g → g < w'.heap.size → W.heap[g]? = w'.heap[g]?) → IsRd W R w'.heap.size l 0 0

set_option maxHeartbeats 400000 in
theorem new_own (a : Option Addr) (len cap : Nat) (l : List UInt8) (w : World) (hx : Bys w (.slice a len cap) l) (hl : l.length ≤ 140737488351232) :
    Calls Try.prog 13 #[.slice a len cap] w fun e w' => ∃ R, e = .returned (.pointer (some ⟨R, 0, none⟩)) ∧ w.heap.size ≤ R ∧ R < w'.heap.size ∧ Rests w' R w.heap.size l ∧ Below w.heap.size w w' := by
  obtain ⟨i0, hi, hz0, hz1, hz2⟩ := info_parts info_byte
  obtain ⟨hlen, hc⟩ := bys_cells hx
  have HX := Lib.hid hx
  have HC := Lib.hid hc
  have HLen := Lib.hid hlen
  have hll : len ≤ 140737488351232 := by omega
  clear hx hc hlen hl
  go_enter Try.func13, Try.ntmps13
  go_wp2_with (first | (at_make; refine wpList_make_full _ rfl _ _ 22 rfl w.heap.size 5 i0 (.int .u8 0) 1 Try.underlying22 hi hz0 hz1 _ _ _ _ len rfl rfl rfl rfl (by rw [hz2]; omega) (by unfold maxLen; omega) (Nat.le_refl _) ?_; intro w1 hown hgrow; (obtain ⟨cur, hg1, hcs⟩ := made hown); (have HB := Lib.hid ((Below.refl _ w).grown hgrow (Nat.le_refl _) (by simp))); (have HG := Lib.hid hg1); (have HCs := Lib.hid hcs); (have HPos := Lib.hid (pos_ready (T := w.heap.size) HC.out HB.out)); clear hown hgrow hg1 hcs) | (refine wpList_copy_splice rfl (.tmp 7) (.tmp 8) 22 22 rfl 5 Try.underlying22 (by kernel_rfl) _ _ _ _ _ _ rfl rfl w.heap.size 0 cur.toList 5 HG.out (l.map bv) (by rw [List.length_map, ← HLen.out]; show _ = min _ _; omega) HPos.out (by rw [List.length_map, ← HLen.out]; simp [HCs.out]) (one_bv l) w.heap.size w HB.out (Nat.le_refl _) ?_; intro w2 hg2 hb2; (have HB2 := Lib.hid hb2); clear hb2))
  go_wp2
  go_ret
  have hlen := HLen.out
  have hgs : w.heap.size < w2.heap.size := by
    have := hg2.out
    exact (Array.getElem?_eq_some_iff.1 this).1
  refine ⟨w2.heap.size, rfl, HB2.out.size, by rw [World.size_alloc]; omega, fun W hW hsame => ?_, HB2.out.alloc HB2.out.size _⟩
  rw [World.size_alloc] at hsame hW ⊢
  refine ⟨some ⟨w.heap.size, 0, none⟩, len, ?_, Nat.zero_le _, by omega, ⟨by omega, by unfold maxLen; omega, hW⟩, .inr ⟨w.heap.size, rfl, by omega, by omega, fun i hi => ?_⟩⟩
  · rw [hsame _ HB2.out.size (by omega), ← HLen.out]
    exact heap_alloc_new w2 _
  · have h1 : W.heap[w.heap.size]? = some (.cells (splice cur.toList 0 (l.map bv)).toArray 5 (0, 0)) := by
      rw [hsame _ (Nat.le_refl _) (by omega), Below.heap_alloc _ _ _ hgs]; exact hg2.out
    refine (cell_of_heap h1).trans ?_
    have e : splice cur.toList 0 (l.map bv) = l.map bv := by
      have := HCs.out
      have := HLen.out
      simp [splice]
      omega
    rw [e]
    simp [hi]

theorem textS_len {l t : List UInt8} {most k st c k' : Nat} (h : textS l most k st = (t, c, k')) : t.length ≤ l.length := by
  unfold textS at h
  split at h
  · cases h; simp
  · cases hp : pText most (l.drop k) with
    | ok p =>
      obtain ⟨t', u⟩ := p
      rw [hp] at h
      cases h
      have := pText_used hp
      rw [List.length_drop] at this
      omega
    | error c' =>
      rw [hp] at h
      cases h
      simp

theorem row_keep {w w' : World} {B Q : Nat} {v : Value} {l : List UInt8} (h : Row w B v l) (ho : Only Q w w') (hQ : Q < B) : Row w' B v l := by
  refine ⟨h.1, h.2.imp id fun ⟨g, cap, cur, hv, hB, hg, r⟩ => ⟨g, cap, cur, hv, hB, ?_, r⟩⟩
  rw [ho.block g (Array.getElem?_eq_some_iff.1 hg).1 (by omega)]
  exact hg

end Go.Proofs.Ytboongdoggggoaa
