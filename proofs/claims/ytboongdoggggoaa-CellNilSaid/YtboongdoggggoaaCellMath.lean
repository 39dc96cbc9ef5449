/- Layer 10 as plain functions: a term and a vote as a text. No program is named here. -/
import Derived.Test.YtboongdoggggoaaSwapMath
import Derived.Test.YtboongdoggggoaaReadMath
namespace Go.Proofs.Ytboongdoggggoaa.CellMath
set_option maxRecDepth 20000
open Go DiskMath BinMath SwapMath

/-- A term and a vote. -/
abbrev Hd := Nat × Nat
def okH (h : Hd) : Prop := h.1 < 18446744073709551616 ∧ h.2 < 18446744073709551616
instance (h : Hd) : Decidable (okH h) := by unfold okH; infer_instance
def txt (h : Hd) : List UInt8 := numL h.1 ++ numL h.2

theorem txt_len (h : Hd) (ho : okH h) : 2 ≤ (txt h).length ∧ (txt h).length ≤ 18 := by
  have h1 := nb_le h.1 ho.1
  have h2 := nb_le h.2 ho.2
  rw [txt, List.length_append, numL_length, numL_length]
  omega

/-- What bytes tell. -/
def hardOf (t : List UInt8) : Hd := if (numS t (numS t 0 0).2.2 (numS t 0 0).2.1).2.1 = 0 then ((numS t 0 0).1, (numS t (numS t 0 0).2.2 (numS t 0 0).2.1).1) else (0, 0)

theorem hardOf_txt (h : Hd) (ho : okH h) (r : List UInt8) : hardOf (txt h ++ r) = h := by
  have e1 : numS (txt h ++ r) 0 0 = (h.1, 0, (numL h.1).length) := by
    unfold numS txt
    rw [if_neg (by simp), List.drop_zero, List.append_assoc, pNum_numL _ _ ho.1]
    simp
  have e2 : numS (txt h ++ r) (numL h.1).length 0 = (h.2, 0, (numL h.1).length + (numL h.2).length) := by
    unfold numS txt
    rw [if_neg (by simp), List.append_assoc, List.drop_left, pNum_numL _ _ ho.2]
  unfold hardOf
  rw [e1]
  simp only
  rw [e2]
  simp

/-- What a text tells, or none. -/
def hdOf : Tx → Hd
  | none => (0, 0)
  | some t => hardOf t

theorem hdOf_txt (h : Hd) (ho : okH h) : hdOf (some (txt h)) = h := by
  have := hardOf_txt h ho []
  rw [List.append_nil] at this
  exact this

theorem txt_short (h : Hd) (ho : okH h) : (txt h).length ≤ 32768 := by
  have := (txt_len h ho).2
  omega
end Go.Proofs.Ytboongdoggggoaa.CellMath
