/- BinOrder: the walk. -/
import Derived.Test.YtboongdoggggoaaBinNum
import Derived.Test.YtboongdoggggoaaFrame
import Derived.Lib.BufferRead
namespace Go.Proofs.Ytboongdoggggoaa
set_option maxRecDepth 20000
open Go.RowKit BinMath

/-- 'string(v)' of a slice of the call's own. -/
theorem conv_row {w : World} {B : Nat} {v : Value} {l : List UInt8} (h : Row w B v l) : (convert 22 9 v).run Try.prog w = .ok (.string ⟨l.toArray⟩) w := by
  have h0 := h
  rcases h.2 with ⟨rfl, hl⟩ | ⟨g, cap, cur, rfl, hB, hg, hn, hm, hs, ht⟩
  · obtain rfl : l = [] := List.eq_nil_of_length_eq_zero hl
    exact Lib.run_convert_nil_bytes w _ _ _ 0 Try.underlying22 Try.underlying5 Try.underlying9
  · refine run_convert_bytes_back w _ _ _ ⟨g, 0, none⟩ cap l Try.underlying22 Try.underlying5 Try.underlying9 fun j hj => ?_
    have := h0.cellAt j (by omega)
    rw [show (⟨g, 0, none⟩ : Addr).add j = ⟨g, j, none⟩ by by_cases h : j = 0 <;> simp [Addr.add, h]]
    simpa [hj, bv] using this

/-- bin.Num, as a text. -/
theorem num_str (n : Nat) (X : ByteArray) (w : World) (hn : n < 18446744073709551616) (hX : X = ⟨(numL n).toArray⟩) :
    Calls Try.prog 24 #[.int .u64 n] w fun e w' => ∃ v, e = .returned v ∧ (convert 22 9 v).run Try.prog w' = .ok (.string X) w' ∧ Below w.heap.size w w' := by
  refine (num_any n w hn).mono fun e w' ⟨v, h1, h2, h3⟩ => ⟨v, h1, ?_, h3⟩
  rw [hX]
  exact conv_row h2

/-- What the walk of BinOrder is told of two texts. -/
structure Two (a b : Nat) (X Y : ByteArray) : Prop where
  eql : (X.toList == Y.toList) = decide (a = b)
  lss : Op.bytesLess X.toList Y.toList = decide (a < b)
  pre : a ≠ b → X.size ≤ Y.size → ((Y.extract 0 X.size).toList == X.toList) = false
  erp : a ≠ b → Y.size ≤ X.size → ((X.extract 0 Y.size).toList == Y.toList) = false

theorem two (a b : Nat) (ha : a < 18446744073709551616) (hb : b < 18446744073709551616) : Two a b ⟨(numL a).toArray⟩ ⟨(numL b).toArray⟩ := by
  have pre : ∀ a b : Nat, a < 18446744073709551616 → b < 18446744073709551616 → a ≠ b → (((⟨(numL b).toArray⟩ : ByteArray).extract 0 (⟨(numL a).toArray⟩ : ByteArray).size).toList == (⟨(numL a).toArray⟩ : ByteArray).toList) = false := by
    intro a b ha hb hne
    rw [beq_eq_false_iff_ne, ByteArray.toList_mk, ByteArray.toList_eq]
    intro h
    refine hne (numL_prefix a b ha hb ?_)
    have hs : (⟨(numL a).toArray⟩ : ByteArray).size = (numL a).length := by simp [ByteArray.size]
    rw [hs] at h
    rw [Lib.extract_data] at h
    simpa using h
  refine ⟨?_, ?_, fun h _ => pre a b ha hb h, fun h _ => pre b a hb ha (Ne.symm h)⟩
  · rw [ByteArray.toList_mk, ByteArray.toList_mk, Bool.eq_iff_iff]
    simp only [beq_iff_eq, decide_eq_true_eq]
    exact ⟨numL_inj a b ha hb, fun h => by rw [h]⟩
  · rw [ByteArray.toList_mk, ByteArray.toList_mk]
    exact less_numL a b ha hb

end Go.Proofs.Ytboongdoggggoaa
