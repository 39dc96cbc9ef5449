/- An entry that came in. -/
import Derived.Test.YtboongdoggggoaaCmdCopy
import Derived.ChangeArms
import Derived.ChangeSlices
import Derived.Laws.IdiomArrays
import Derived.SizedLaws
namespace Go.Proofs.Ytboongdoggggoaa
set_option maxRecDepth 20000
open Go.RowKit Go.ChangeShapes BinMath CmdMath

theorem six_cells (l : List Value) (h : l.length = 6) : ∃ a b c d e f, l = [a, b, c, d, e, f] := by
  match l, h with
  | [a, b, c, d, e, f], _ => exact ⟨a, b, c, d, e, f, rfl⟩

theorem u64_nat (n : Int) (h : (Lit.int .u64 n).wf = true) : ∃ k : Nat, n = k ∧ k < 18446744073709551616 := by
  have := bounds_u64 h
  exact ⟨n.toNat, by omega, by omega⟩

theorem ent_open {H : Type} {enc : TypeId × Value → H} {W : World} {fuel : Nat} {cs : List Value} {x : DataW H × List MemPlace}
    (h : DataW.trod enc Try.prog W 0 (fun _ => true) true fuel 87 cs = some x) :
    ∃ (e : Ent) (a : Option Addr) (ca : Nat) (b : Option Addr) (cb : Nat), cs = (entC e a ca b cb).toList ∧ e.Ok ∧ Bys W (.slice a e.d.length ca) e.d ∧ Nums W (.slice b e.m.length cb) e.m ∧
      ((x.1.weights Try.prog 87).all (· ≤ reachBytes) = true → e.d.length ≤ 140737488351232 ∧ e.m.length ≤ 17592186043904) := by
  obtain ⟨xs, n', -, hx, hlen, hxl, hfld⟩ := DataW.trod_struct Try.underlying87 h
  have f0 : DataW.trod enc Try.prog W 0 (fun _ => true) true n' 33 ((cs.drop 0).take (Try.prog.cellsOf 33)) = xs[0]? := hfld 0 _ rfl
  have f1 : DataW.trod enc Try.prog W 0 (fun _ => true) true n' 3 ((cs.drop 1).take (Try.prog.cellsOf 3)) = xs[1]? := hfld 1 _ rfl
  have f2 : DataW.trod enc Try.prog W 0 (fun _ => true) true n' 33 ((cs.drop 2).take (Try.prog.cellsOf 33)) = xs[2]? := hfld 2 _ rfl
  have f3 : DataW.trod enc Try.prog W 0 (fun _ => true) true n' 33 ((cs.drop 3).take (Try.prog.cellsOf 33)) = xs[3]? := hfld 3 _ rfl
  have f4 : DataW.trod enc Try.prog W 0 (fun _ => true) true n' 22 ((cs.drop 4).take (Try.prog.cellsOf 22)) = xs[4]? := hfld 4 _ rfl
  have f5 : DataW.trod enc Try.prog W 0 (fun _ => true) true n' 43 ((cs.drop 5).take (Try.prog.cellsOf 43)) = xs[5]? := hfld 5 _ rfl
  have c0 : Try.prog.cellsOf 33 = 1 := by kernel_rfl
  have c1 : Try.prog.cellsOf 3 = 1 := by kernel_rfl
  have c4 : Try.prog.cellsOf 22 = 1 := by kernel_rfl
  have c5 : Try.prog.cellsOf 43 = 1 := by kernel_rfl
  have cr : Try.prog.cellsOf 87 = 6 := by kernel_rfl
  rw [cr] at hlen
  rw [c0] at f0 f2 f3
  rw [c1] at f1
  rw [c4] at f4
  rw [c5] at f5
  obtain ⟨u0, u1, u2, u3, u4, u5, rfl⟩ := six_cells cs hlen
  have l6 : xs.length = 6 := hxl
  rw [List.getElem?_eq_getElem (by omega)] at f0 f1 f2 f3 f4 f5
  obtain ⟨k0, e0, -, w0⟩ := DataW.trod_int Try.underlying33 f0
  obtain ⟨k1, e1, -, w1⟩ := DataW.trod_int Try.underlying3 f1
  obtain ⟨k2, e2, -, w2⟩ := DataW.trod_int Try.underlying33 f2
  obtain ⟨k3, e3, -, w3⟩ := DataW.trod_int Try.underlying33 f3
  simp at e0 e1 e2 e3
  obtain ⟨t, rfl, ht⟩ := u64_nat k0 w0
  have hk := bounds_i64 w1
  obtain ⟨c, rfl, hc⟩ := u64_nat k2 w2
  obtain ⟨s, rfl, hs⟩ := u64_nat k3 w3
  subst e0 e1 e2 e3
  have hw : (x.1.weights Try.prog 87).all (· ≤ reachBytes) = true → (DataW.weightsEach Try.prog [33, 3, 33, 33, 22, 43] (xs.map (·.1))).all (· ≤ reachBytes) = true := by
    rw [hx]
    simp only [DataW.weights, Try.underlying87]
    exact fun h => h
  obtain ⟨A, C, d, g4, hdl, hby⟩ : ∃ A C, ∃ d : List UInt8, u4 = .slice A d.length C ∧ ((x.1.weights Try.prog 87).all (· ≤ reachBytes) = true → d.length ≤ 140737488351232) ∧ Bys W (.slice A d.length C) d := by
    obtain ⟨y, hy⟩ : ∃ y, y = xs[4] := ⟨_, rfl⟩
    rw [← hy] at f4
    obtain ⟨yd, yp⟩ := y
    have f4' : DataW.trod enc Try.prog W 0 (fun _ => true) true n' 22 [u4] = some (yd, yp) := f4
    rcases open_ints Try.underlying22 Try.underlying5 (by kernel_rfl) f4' with ⟨hcs, _⟩ | ⟨x', l', c', zs, hcs, _, hl', hm', hz', hx', hcell', hwz'⟩
    · simp at hcs
      subst hcs
      exact ⟨none, 0, [], rfl, by simp, .inl ⟨rfl, rfl⟩⟩
    · simp at hcs
      subst hcs
      simp only [if_true] at hz'
      obtain ⟨d, hd, hbd⟩ := IsRow.bys (w := W) (a := some x') (len := l') (cap := c') (zs := zs) (.inr ⟨_, rfl, hl', hm', hz', hcell', hwz'⟩)
      subst hd
      refine ⟨some x', c', d, rfl, fun hh => ?_, hbd⟩
      have hyd : yd = _ := (Prod.mk.inj hx').1
      have hs4 := sized_slice (hw hh) (j := 4) (t := 22) (e := 5) (elems := lits .u8 (zs.take d.length)) (spare := lits .u8 (zs.drop d.length)) rfl
        (by rw [List.getElem?_map, List.getElem?_eq_getElem (by omega), ← hy, ← hyd]; rfl) Try.underlying22
      have hb : Try.prog.bytesOf 5 = 1 := by kernel_rfl
      rw [hb] at hs4
      simp only [lits, List.length_map, List.length_take, List.length_drop, reachBytes] at hs4
      omega
  obtain ⟨B, E, m, g5, hml, hmb, hnu⟩ : ∃ A C, ∃ m : List Nat, u5 = .slice A m.length C ∧ ((x.1.weights Try.prog 87).all (· ≤ reachBytes) = true → m.length ≤ 17592186043904) ∧ (∀ y ∈ m, y < 18446744073709551616) ∧ Nums W (.slice A m.length C) m := by
    obtain ⟨y, hy⟩ : ∃ y, y = xs[5] := ⟨_, rfl⟩
    rw [← hy] at f5
    obtain ⟨yd, yp⟩ := y
    have f5' : DataW.trod enc Try.prog W 0 (fun _ => true) true n' 43 [u5] = some (yd, yp) := f5
    rcases open_ints Try.underlying43 Try.underlying33 (by kernel_rfl) f5' with ⟨hcs, _⟩ | ⟨x', l', c', zs, hcs, _, hl', hm', hz', hx', hcell', hwz'⟩
    · simp at hcs
      subst hcs
      exact ⟨none, 0, [], rfl, by simp, by simp, .inl ⟨rfl, rfl⟩⟩
    · simp at hcs
      subst hcs
      simp only [if_true] at hz'
      obtain ⟨m, hm, hmb, hbm⟩ := IsRow.nums (w := W) (a := some x') (len := l') (cap := c') (zs := zs) (.inr ⟨_, rfl, hl', hm', hz', hcell', hwz'⟩)
      subst hm
      refine ⟨some x', c', m, rfl, fun hh => ?_, hmb, hbm⟩
      have hyd : yd = _ := (Prod.mk.inj hx').1
      have hs5 := sized_slice (hw hh) (j := 5) (t := 43) (e := 33) (elems := lits .u64 (zs.take m.length)) (spare := lits .u64 (zs.drop m.length)) rfl
        (by rw [List.getElem?_map, List.getElem?_eq_getElem (by omega), ← hy, ← hyd]; rfl) Try.underlying43
      have hb : Try.prog.bytesOf 33 = 8 := by kernel_rfl
      rw [hb] at hs5
      simp only [lits, List.length_map, List.length_take, List.length_drop, reachBytes] at hs5
      omega
  subst g4 g5
  exact ⟨⟨t, k1, c, s, d, m⟩, A, C, B, E, rfl, ⟨ht, hk.1, Int.lt_of_le_of_lt hk.2 (by decide), hc, hs, hmb⟩, hby, hnu, fun hh => ⟨hdl hh, hml hh⟩⟩

end Go.Proofs.Ytboongdoggggoaa
