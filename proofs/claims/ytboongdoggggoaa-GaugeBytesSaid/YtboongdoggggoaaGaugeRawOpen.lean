/- A raw gauge that came in: its cells. -/
import Derived.Test.YtboongdoggggoaaGaugeRaw
import Derived.ChangeArms
import Derived.Laws.IdiomArrays
namespace Go.Proofs.Ytboongdoggggoaa
set_option maxRecDepth 20000
open Go.RowKit Go.ChangeShapes EdgeMath

theorem int_u64 (n : Int) (h : (Lit.int .u64 n).wf = true) : ∃ k : Nat, n = k ∧ k < 18446744073709551616 := by
  have := bounds_u64 h
  exact ⟨n.toNat, by omega, by omega⟩

theorem five_cells (l : List Value) (h : l.length = 5) : ∃ a b c d e, l = [a, b, c, d, e] := by
  match l, h with
  | [a, b, c, d, e], _ => exact ⟨a, b, c, d, e, rfl⟩

theorem raw_open {H : Type} {enc : TypeId × Value → H} {W : World} {base : Nat} {spare : Nat → Bool} {held : Bool} {fuel : Nat} {cs : List Value} {x : DataW H × List MemPlace}
    (h : DataW.trod enc Try.prog W base spare held fuel 51 cs = some x) : ∃ g : G, g.Ok ∧ cs = g.raws.toList := by
  obtain ⟨xs, n', -, -, hlen, hxl, hfld⟩ := DataW.trod_struct Try.underlying51 h
  have f0 : DataW.trod enc Try.prog W base spare held n' 33 ((cs.drop 0).take (Try.prog.cellsOf 33)) = xs[0]? := hfld 0 { name := "N", type := 33, offset := 0, embedded := false, tag := "", pkgPath := "", byteOffset := 0 } rfl
  have f1 : DataW.trod enc Try.prog W base spare held n' 49 ((cs.drop 1).take (Try.prog.cellsOf 49)) = xs[1]? := hfld 1 { name := "Bits", type := 49, offset := 1, embedded := false, tag := "", pkgPath := "", byteOffset := 8 } rfl
  have c0 : Try.prog.cellsOf 33 = 1 := by kernel_rfl
  have c1 : Try.prog.cellsOf 49 = 4 := by kernel_rfl
  have cr : Try.prog.cellsOf 51 = 5 := by kernel_rfl
  rw [cr] at hlen
  rw [c0] at f0
  rw [c1] at f1
  obtain ⟨u0, u1, u2, u3, u4, rfl⟩ := five_cells cs hlen
  have l2 : xs.length = 2 := hxl
  rw [List.getElem?_eq_getElem (by omega)] at f0 f1
  obtain ⟨k0, e0, -, w0⟩ := DataW.trod_int Try.underlying33 f0
  obtain ⟨y0, y1, y2, y3, m, -, g1, g2, g3, g4⟩ := trod_array4 Try.underlying49 c0 f1
  obtain ⟨k1, e1, -, w1⟩ := DataW.trod_int Try.underlying33 g1
  obtain ⟨k2, e2, -, w2⟩ := DataW.trod_int Try.underlying33 g2
  obtain ⟨k3, e3, -, w3⟩ := DataW.trod_int Try.underlying33 g3
  obtain ⟨k4, e4, -, w4⟩ := DataW.trod_int Try.underlying33 g4
  simp at e0 e1 e2 e3 e4
  obtain ⟨n0, rfl, h0⟩ := int_u64 k0 w0
  obtain ⟨n1, rfl, h1⟩ := int_u64 k1 w1
  obtain ⟨n2, rfl, h2⟩ := int_u64 k2 w2
  obtain ⟨n3, rfl, h3⟩ := int_u64 k3 w3
  obtain ⟨n4, rfl, h4⟩ := int_u64 k4 w4
  subst e0 e1 e2 e3 e4
  exact ⟨⟨n0, n1, n2, n3, n4⟩, ⟨h0, h1, h2, h3, h4⟩, rfl⟩

end Go.Proofs.Ytboongdoggggoaa
