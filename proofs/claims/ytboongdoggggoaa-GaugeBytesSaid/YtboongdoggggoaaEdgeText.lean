/- A float's bytes, there and back; texts and errors that are told apart. -/
import Derived.Test.YtboongdoggggoaaEdgeGet
import Derived.Test.YtboongdoggggoaaFacts
namespace Go.Proofs.Ytboongdoggggoaa
set_option maxRecDepth 20000
open Go.RowKit EdgeMath BinMath Reg

theorem rk_canon (x : Nat) : rk (canon x) = rk x := by
  unfold canon
  split
  · rename_i h
    rw [h]
    rfl
  · rfl

theorem canon_lt (x : Nat) (hx : x < 18446744073709551616) : canon x < 18446744073709551616 := by
  unfold canon
  split <;> omega

theorem getR_put (x : Nat) (hx : x < 18446744073709551616) : getR (be 8 (canon x)) = (canon x, 0) := by
  have hc := canon_lt x hx
  have e : getV (be 8 (canon x)) = canon x := by
    unfold getV
    rw [getV_be]
    omega
  unfold getR
  rw [be_length, if_neg (by omega), if_neg (by omega), e, if_neg]
  rintro ⟨h1, h2⟩
  rw [rk_canon] at h1
  unfold canon at h2
  rw [if_pos h1] at h2
  exact h2 rfl

theorem getR_zero (l : List UInt8) (F : Nat) (h : getR l = (F, 0)) : be 8 (canon F) = l := by
  unfold getR at h
  split at h
  · cases h
  · split at h
    · cases h
    · split at h
      · cases h
      · rename_i h1 h2 h3
        obtain ⟨rfl, -⟩ := Prod.mk.inj h
        have e : canon (getV l) = getV l := by
          unfold canon
          split
          · rename_i h4
            by_cases h5 : getV l = 9221120237041090560
            · exact h5.symm
            · exact absurd ⟨h4, h5⟩ h3
          · rfl
        rw [e]
        have := be_getV l 0
        rw [show l.length = 8 by omega] at this
        exact this

theorem not_true_run {P : Program} (W : World) : (Op.unary .not (.bool true)).run P W = .ok (.bool false) W := rfl

theorem neq_str (s t : Operand) (X : ByteArray) (W : World) : (do eqGuard .neq 9 s t (.string X) (.string X); binOp .neq 9 (.string X) (.string X) : Sem Value).run Try.prog W = .ok (.bool false) W := by
  simp [eqGuard, go_sem]

theorem eql_str (s t : Operand) (X : ByteArray) (W : World) : (do eqGuard .eql 9 s t (.string X) (.string X); binOp .eql 9 (.string X) (.string X) : Sem Value).run Try.prog W = .ok (.bool true) W := by
  simp [eqGuard, go_sem]

theorem neq_err (s t : Operand) (a b : Int) (r : Bool) (h : (a != b) = r) (W : World) : (do eqGuard .neq 28 s t (.int .i64 a) (.int .i64 b); binOp .neq 28 (.int .i64 a) (.int .i64 b) : Sem Value).run Try.prog W = .ok (.bool r) W := by
  simp [eqGuard, go_sem, h]

theorem eql_err (s t : Operand) (a b : Int) (r : Bool) (h : (a == b) = r) (W : World) : (do eqGuard .eql 28 s t (.int .i64 a) (.int .i64 b); binOp .eql 28 (.int .i64 a) (.int .i64 b) : Sem Value).run Try.prog W = .ok (.bool r) W := by
  simp [eqGuard, go_sem, h]

end Go.Proofs.Ytboongdoggggoaa
