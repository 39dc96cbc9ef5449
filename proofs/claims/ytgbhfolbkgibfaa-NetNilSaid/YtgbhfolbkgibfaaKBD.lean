/- Joined: MsgOpen, NetOpen. -/
import Derived.Test.YtgbhfolbkgibfaaKAO
import Derived.Deep.Slices
import Derived.OpenShut
import Derived.SizedLaws
import Derived.Test.YtgbhfolbkgibfaaKAZ
/- A message that came in. -/
namespace Go.Proofs.Ytgbhfolbkgibfaa
set_option maxRecDepth 20000
open Go.RowKit Go.ChangeShapes Go.Deep BinMath
open CmdMath (Ent)
open MsgMath (Mg)

theorem twelve_cells (l : List Value) (h : l.length = 12) : ∃ a b c d e f g i j k m n, l = [a, b, c, d, e, f, g, i, j, k, m, n] := by
  match l, h with
  | [a, b, c, d, e, f, g, i, j, k, m, n], _ => exact ⟨a, b, c, d, e, f, g, i, j, k, m, n, rfl⟩

theorem weights_one {H : Type} {t : TypeId} {d : DataW H} (h : (d.weights Try.prog t).all (· ≤ reachBytes) = true) : (DataW.weightsEach Try.prog [t] [d]).all (· ≤ reachBytes) = true := by
  simpa [DataW.weightsEach] using h

theorem bytes_in {H : Type} {enc : TypeId × Value → H} {W : World} {n : Nat} {u : Value} {y : DataW H × List MemPlace} (f4 : DataW.trod enc Try.prog W 0 (fun _ => true) true n 34 [u] = some y) :
    ∃ A C, ∃ d : List UInt8, u = .slice A d.length C ∧ Bys W (.slice A d.length C) d ∧ ((y.1.weights Try.prog 34).all (· ≤ reachBytes) = true → d.length ≤ 140737488351232) := by
  obtain ⟨yd, yp⟩ := y
  rcases open_ints Try.underlying34 Try.underlying5 (by kernel_rfl) f4 with ⟨hcs, _⟩ | ⟨x', l', c', zs, hcs, _, hl', hm', hz', hx', hcell', hwz'⟩
  · simp at hcs
    subst hcs
    exact ⟨none, 0, [], rfl, .inl ⟨rfl, rfl⟩, fun _ => by simp⟩
  · simp at hcs
    subst hcs
    simp only [if_true] at hz'
    obtain ⟨d, hd, hbd⟩ := IsRow.bys (w := W) (a := some x') (len := l') (cap := c') (zs := zs) (.inr ⟨_, rfl, hl', hm', hz', hcell', hwz'⟩)
    subst hd
    refine ⟨some x', c', d, rfl, hbd, fun hh => ?_⟩
    have hyd : yd = _ := (Prod.mk.inj hx').1
    have hs4 := sized_slice (weights_one hh) (j := 0) (t := 34) (e := 5) (elems := lits .u8 (zs.take d.length)) (spare := lits .u8 (zs.drop d.length)) rfl
      (by rw [← hyd]; rfl) Try.underlying34
    have hb : Try.prog.bytesOf 5 = 1 := by kernel_rfl
    rw [hb] at hs4
    simp only [lits, List.length_map, List.length_take, List.length_drop, reachBytes] at hs4
    omega

theorem nums_in {H : Type} {enc : TypeId × Value → H} {W : World} {n : Nat} {u : Value} {y : DataW H × List MemPlace} (f5 : DataW.trod enc Try.prog W 0 (fun _ => true) true n 33 [u] = some y) :
    ∃ A C, ∃ m : List Nat, u = .slice A m.length C ∧ Nums W (.slice A m.length C) m ∧ (∀ y ∈ m, y < 18446744073709551616) ∧ ((y.1.weights Try.prog 33).all (· ≤ reachBytes) = true → m.length ≤ 17592186043904) := by
  obtain ⟨yd, yp⟩ := y
  rcases open_ints Try.underlying33 Try.underlying31 (by kernel_rfl) f5 with ⟨hcs, _⟩ | ⟨x', l', c', zs, hcs, _, hl', hm', hz', hx', hcell', hwz'⟩
  · simp at hcs
    subst hcs
    exact ⟨none, 0, [], rfl, .inl ⟨rfl, rfl⟩, by simp, fun _ => by simp⟩
  · simp at hcs
    subst hcs
    simp only [if_true] at hz'
    obtain ⟨m, hm, hmb, hbm⟩ := IsRow.nums (w := W) (a := some x') (len := l') (cap := c') (zs := zs) (.inr ⟨_, rfl, hl', hm', hz', hcell', hwz'⟩)
    subst hm
    refine ⟨some x', c', m, rfl, hbm, hmb, fun hh => ?_⟩
    have hyd : yd = _ := (Prod.mk.inj hx').1
    have hs5 := sized_slice (weights_one hh) (j := 0) (t := 33) (e := 31) (elems := lits .u64 (zs.take m.length)) (spare := lits .u64 (zs.drop m.length)) rfl
      (by rw [← hyd]; rfl) Try.underlying33
    have hb : Try.prog.bytesOf 31 = 8 := by kernel_rfl
    rw [hb] at hs5
    simp only [lits, List.length_map, List.length_take, List.length_drop, reachBytes] at hs5
    omega

instance : Inhabited EE := ⟨⟨Ent.zero, none, 0, none, 0⟩⟩

theorem weights_all {H : Type} {e : TypeId} : ∀ {l : List (DataW H)} {d : DataW H}, d ∈ l → ∀ n ∈ d.weights Try.prog e, n ∈ DataW.weightsAll Try.prog e l
  | x :: l, d, hd, n, hn => by
    simp only [DataW.weightsAll, List.mem_append]
    rcases List.mem_cons.1 hd with rfl | h
    · exact .inl hn
    · exact .inr (weights_all h n hn)

/-- A list of entries that came in. -/
theorem els_open {H : Type} {enc : TypeId × Value → H} {W : World} {fuel : Nat} {v : Value} {x : DataW H × List MemPlace}
    (hf : DataW.trod enc Try.prog W 0 (fun _ => true) true fuel 32 [v] = some x) :
    ∃ us : List EE, Els W v us ∧ (∀ u ∈ us, u.e.Ok) ∧ ((x.1.weights Try.prog 32).all (· ≤ reachBytes) = true → HasAll W us ∧ us.length ≤ 1759218604390 ∧ ∀ u ∈ us, u.e.m.length ≤ 17592186043904) := by
  rcases open_slice Try.underlying32 hf with ⟨hcs, _⟩ | ⟨ad, ln, c, m, n, D, Pl, hcs, _, hl, hm, hmm, hx, hel⟩
  · simp at hcs
    subst hcs
    exact ⟨[], .inl ⟨rfl, rfl⟩, by simp, fun _ => ⟨fun u hu => absurd hu List.not_mem_nil, by simp, by simp⟩⟩
  · simp at hcs
    subst hcs
    simp only [if_true] at hmm
    have hC : Try.prog.cellsOf 62 = 6 := by kernel_rfl
    obtain ⟨f, hfp⟩ := choose_lt (α := EE) (n := ln) (p := fun i u => u.e.Ok ∧ Bys W (.slice u.a u.e.d.length u.ca) u.e.d ∧ Nums W (.slice u.b u.e.m.length u.cb) u.e.m ∧
        (((D i).weights Try.prog 62).all (· ≤ reachBytes) = true → u.e.d.length ≤ 140737488351232 ∧ u.e.m.length ≤ 17592186043904) ∧
        ∀ j v, u.cells[j]? = some v → W.cell? ((ad.add (i * 6)).add j) = some v) (fun i hi => by
      obtain ⟨cs', h1, h2⟩ := hel i (by omega)
      rw [hC] at h1
      obtain ⟨-, hlen, hcell⟩ := World.cells?_some h1
      obtain ⟨e, a, ca, b, cb, rfl, ho, hb, hn, hw⟩ := ent_open h2
      refine ⟨⟨e, a, ca, b, cb⟩, ho, hb, hn, hw, fun j v hj => ?_⟩
      have hj6 : j < 6 := (List.getElem?_eq_some_iff.1 hj).1
      have h3 := hcell j hj6
      rw [← hj]
      exact h3)
    have hget : ∀ (i : Nat) (u : EE), ((List.range ln).map f)[i]? = some u → i < ln ∧ u = f i := fun i u hi => by
      rw [List.getElem?_map] at hi
      obtain ⟨j, hj, rfl⟩ := Option.map_eq_some_iff.1 hi
      obtain ⟨hj1, hj2⟩ := List.getElem?_eq_some_iff.1 hj
      simp at hj1 hj2
      subst hj2
      exact ⟨hj1, rfl⟩
    have hmem : ∀ u ∈ (List.range ln).map f, ∃ i, i < ln ∧ u = f i := fun u hu => by
      obtain ⟨i, hi⟩ := List.mem_iff_getElem?.1 hu
      exact ⟨i, hget i u hi⟩
    refine ⟨(List.range ln).map f, .inr ⟨ad, c, by simp, by simp; omega, fun j u hj => ?_⟩, fun u hu => ?_, fun hw => ?_⟩
    · have hjl : j < ln * 6 := by
        have := (List.getElem?_eq_some_iff.1 hj).1
        rw [cells_all] at this
        simpa using this
      have hi : j / 6 < ((List.range ln).map f).length := by simp; omega
      have hd := cells_drop ((List.range ln).map f) (j / 6)
      rw [List.drop_eq_getElem_cons hi, List.flatMap_cons] at hd
      have h4 : (((List.range ln).map f)[j / 6]).cells[j % 6]? = some u := by
        have h5 : ((((List.range ln).map f).flatMap EE.cells).drop (j / 6 * 6))[j % 6]? = some u := by
          rw [List.getElem?_drop, show j / 6 * 6 + j % 6 = j by omega]
          exact hj
        rw [hd, List.getElem?_append_left (by rw [EE.cells_len]; omega)] at h5
        exact h5
      obtain ⟨h7, h8⟩ := hget (j / 6) _ (List.getElem?_eq_getElem hi)
      rw [h8] at h4
      have h6 := (hfp _ h7).2.2.2.2 _ _ h4
      rwa [addr_add_add, show j / 6 * 6 + j % 6 = j by omega] at h6
    · obtain ⟨i, hi, rfl⟩ := hmem u hu
      exact (hfp i hi).1
    · rw [hx] at hw
      simp only [DataW.weights, Try.underlying32, List.all_cons, Bool.and_eq_true, List.all_append] at hw
      obtain ⟨h1, h2, -⟩ := hw
      have hb : Try.prog.bytesOf 62 = 80 := by kernel_rfl
      rw [hb] at h1
      simp only [List.length_map, List.length_range, reachBytes, decide_eq_true_eq] at h1
      have hD : ∀ i, i < ln → ((D i).weights Try.prog 62).all (· ≤ reachBytes) = true := fun i hi =>
        List.all_eq_true.2 fun n hn => List.all_eq_true.1 h2 n (weights_all (List.mem_map.2 ⟨i, List.mem_range.2 hi, rfl⟩) n hn)
      refine ⟨fun u hu => ?_, by simp; omega, fun u hu => ?_⟩
      · obtain ⟨i, hi, rfl⟩ := hmem u hu
        obtain ⟨p1, p2, p3, p4, -⟩ := hfp i hi
        obtain ⟨q1, q2⟩ := p4 (hD i hi)
        exact ⟨p1, p2, p3, q1, Nat.le_trans q2 (by decide)⟩
      · obtain ⟨i, hi, rfl⟩ := hmem u hu
        exact ((hfp i hi).2.2.2.1 (hD i hi)).2

theorem msg_open {H : Type} {enc : TypeId × Value → H} {W : World} {fuel : Nat} {cs : List Value} {x : DataW H × List MemPlace}
    (h : DataW.trod enc Try.prog W 0 (fun _ => true) true fuel 36 cs = some x) :
    ∃ (m : Mg) (ve vm vg : Value) (us : List EE), cs = (mgC m ve vm vg).toList ∧
      ((x.1.weights Try.prog 36).all (· ≤ reachBytes) = true → MHas W m ve vm vg us ∧ us.length ≤ 1759218604390 ∧ m.m.length ≤ 17592186043904 ∧ ∀ u ∈ us, u.e.m.length ≤ 17592186043904) := by
  obtain ⟨xs, n', -, hx, hlen, hxl, hfld⟩ := DataW.trod_struct Try.underlying36 h
  have f0 : DataW.trod enc Try.prog W 0 (fun _ => true) true n' 3 ((cs.drop 0).take (Try.prog.cellsOf 3)) = xs[0]? := hfld 0 _ rfl
  have f1 : DataW.trod enc Try.prog W 0 (fun _ => true) true n' 31 ((cs.drop 1).take (Try.prog.cellsOf 31)) = xs[1]? := hfld 1 _ rfl
  have f2 : DataW.trod enc Try.prog W 0 (fun _ => true) true n' 31 ((cs.drop 2).take (Try.prog.cellsOf 31)) = xs[2]? := hfld 2 _ rfl
  have f3 : DataW.trod enc Try.prog W 0 (fun _ => true) true n' 31 ((cs.drop 3).take (Try.prog.cellsOf 31)) = xs[3]? := hfld 3 _ rfl
  have f4 : DataW.trod enc Try.prog W 0 (fun _ => true) true n' 31 ((cs.drop 4).take (Try.prog.cellsOf 31)) = xs[4]? := hfld 4 _ rfl
  have f5 : DataW.trod enc Try.prog W 0 (fun _ => true) true n' 31 ((cs.drop 5).take (Try.prog.cellsOf 31)) = xs[5]? := hfld 5 _ rfl
  have f6 : DataW.trod enc Try.prog W 0 (fun _ => true) true n' 31 ((cs.drop 6).take (Try.prog.cellsOf 31)) = xs[6]? := hfld 6 _ rfl
  have f7 : DataW.trod enc Try.prog W 0 (fun _ => true) true n' 31 ((cs.drop 7).take (Try.prog.cellsOf 31)) = xs[7]? := hfld 7 _ rfl
  have f8 : DataW.trod enc Try.prog W 0 (fun _ => true) true n' 4 ((cs.drop 8).take (Try.prog.cellsOf 4)) = xs[8]? := hfld 8 _ rfl
  have f9 : DataW.trod enc Try.prog W 0 (fun _ => true) true n' 32 ((cs.drop 9).take (Try.prog.cellsOf 32)) = xs[9]? := hfld 9 _ rfl
  have f10 : DataW.trod enc Try.prog W 0 (fun _ => true) true n' 33 ((cs.drop 10).take (Try.prog.cellsOf 33)) = xs[10]? := hfld 10 _ rfl
  have f11 : DataW.trod enc Try.prog W 0 (fun _ => true) true n' 34 ((cs.drop 11).take (Try.prog.cellsOf 34)) = xs[11]? := hfld 11 _ rfl
  have c0 : Try.prog.cellsOf 3 = 1 := by kernel_rfl
  have c1 : Try.prog.cellsOf 31 = 1 := by kernel_rfl
  have c2 : Try.prog.cellsOf 4 = 1 := by kernel_rfl
  have c3 : Try.prog.cellsOf 32 = 1 := by kernel_rfl
  have c4 : Try.prog.cellsOf 33 = 1 := by kernel_rfl
  have c5 : Try.prog.cellsOf 34 = 1 := by kernel_rfl
  have cr : Try.prog.cellsOf 36 = 12 := by kernel_rfl
  rw [cr] at hlen
  rw [c0] at f0
  rw [c1] at f1 f2 f3 f4 f5 f6 f7
  rw [c2] at f8
  rw [c3] at f9
  rw [c4] at f10
  rw [c5] at f11
  obtain ⟨u0, u1, u2, u3, u4, u5, u6, u7, u8, u9, u10, u11, rfl⟩ := twelve_cells cs hlen
  have l12 : xs.length = 12 := hxl
  rw [List.getElem?_eq_getElem (by omega)] at f0 f1 f2 f3 f4 f5 f6 f7 f8 f9 f10 f11
  obtain ⟨k, e0, -, w0⟩ := DataW.trod_int Try.underlying3 f0
  obtain ⟨k1, e1, -, w1⟩ := DataW.trod_int Try.underlying31 f1
  obtain ⟨k2, e2, -, w2⟩ := DataW.trod_int Try.underlying31 f2
  obtain ⟨k3, e3, -, w3⟩ := DataW.trod_int Try.underlying31 f3
  obtain ⟨k4, e4, -, w4⟩ := DataW.trod_int Try.underlying31 f4
  obtain ⟨k5, e5, -, w5⟩ := DataW.trod_int Try.underlying31 f5
  obtain ⟨k6, e6, -, w6⟩ := DataW.trod_int Try.underlying31 f6
  obtain ⟨k7, e7, -, w7⟩ := DataW.trod_int Try.underlying31 f7
  obtain ⟨b8, e8, -⟩ := DataW.trod_bool Try.underlying4 f8
  simp at e0 e1 e2 e3 e4 e5 e6 e7 e8
  have hk := bounds_i64 w0
  obtain ⟨f, rfl, hf⟩ := u64_nat k1 w1
  obtain ⟨o, rfl, ho⟩ := u64_nat k2 w2
  obtain ⟨t, rfl, ht⟩ := u64_nat k3 w3
  obtain ⟨i, rfl, hi⟩ := u64_nat k4 w4
  obtain ⟨l, rfl, hl⟩ := u64_nat k5 w5
  obtain ⟨c, rfl, hc⟩ := u64_nat k6 w6
  obtain ⟨s, rfl, hs⟩ := u64_nat k7 w7
  subst e0 e1 e2 e3 e4 e5 e6 e7 e8
  have hw : ∀ (j : Nat) (ty : TypeId) (d : DataW H), (x.1.weights Try.prog 36).all (· ≤ reachBytes) = true → [3, 31, 31, 31, 31, 31, 31, 31, 4, 32, 33, 34][j]? = some ty → (xs.map (·.1))[j]? = some d → (d.weights Try.prog ty).all (· ≤ reachBytes) = true := by
    rw [hx]
    simp only [DataW.weights, Try.underlying36]
    exact fun j ty d h h1 h2 => List.all_eq_true.2 fun n hn => List.all_eq_true.1 h n (DataW.weights_mem_each h1 h2 n hn)
  obtain ⟨us, hels, huo, huw⟩ := els_open f9
  obtain ⟨B, E, mm, rfl, hnu, hmb, hml⟩ := nums_in f10
  obtain ⟨A, C, g, rfl, hby, hgl⟩ := bytes_in f11
  refine ⟨⟨k, f, o, t, i, l, c, s, b8, us.map EE.e, mm, g⟩, u9, _, _, us, rfl, fun hh => ?_⟩
  have h9 := huw (hw 9 _ _ hh rfl (by rw [List.getElem?_map, List.getElem?_eq_getElem (by omega)]; rfl))
  have h10 := hml (hw 10 _ _ hh rfl (by rw [List.getElem?_map, List.getElem?_eq_getElem (by omega)]; rfl))
  have h11 := hgl (hw 11 _ _ hh rfl (by rw [List.getElem?_map, List.getElem?_eq_getElem (by omega)]; rfl))
  refine ⟨⟨⟨hk.1, Int.lt_of_le_of_lt hk.2 (by decide), hf, ho, ht, hi, hl, hc, hs, fun e he => ?_, hmb⟩, hels, h9.1, rfl, hnu, hby, by omega, ?_, h11⟩, h9.2.1, h10, h9.2.2⟩
  · obtain ⟨u, hu, rfl⟩ := List.mem_map.1 he
    exact huo u hu
  · exact Nat.le_trans h10 (by decide)
end Go.Proofs.Ytgbhfolbkgibfaa

/- Layer 19: messages and calls in a row that came in. -/
namespace Go.Proofs.Ytgbhfolbkgibfaa
set_option maxRecDepth 20000
open Go.RowKit Go.ChangeShapes Go.Deep BinMath
open CmdMath (Ent)
open MsgMath (Mg)

/-- The sizes of what came in. -/
structure MM.Fits (x : MM) : Prop where
  es : x.us.length ≤ 1759218604390
  ms : x.m.m.length ≤ 17592186043904
  em : ∀ u ∈ x.us, u.e.m.length ≤ 17592186043904

/-- A call of a script. -/
structure NOp where
  kind : Int
  i : Int
  a : Nat
  b : Nat
  yes : Bool
  x : MM

def NOp.cells (o : NOp) : List Value := .int .i64 o.kind :: .int .i64 o.i :: .int .u64 (o.a : Int) :: .int .u64 (o.b : Int) :: .bool o.yes :: o.x.cells
theorem NOp.cells_len (o : NOp) : o.cells.length = 17 := rfl

structure NOp.Ok (o : NOp) : Prop where
  k0 : -9223372036854775808 ≤ o.kind
  k1 : o.kind ≤ 9223372036854775807
  i0 : -9223372036854775808 ≤ o.i
  i1 : o.i ≤ 9223372036854775807
  a1 : o.a < 18446744073709551616
  b1 : o.b < 18446744073709551616

/-- What lies in a row that came in, n cells each. -/
def InRow {α : Type} (n : Nat) (cells : α → List Value) (W : World) (v : Value) (L : List α) : Prop := ∃ (a : Option Addr) (c : Nat), v = .slice a L.length c ∧ (L.length ≤ 9223372036854775807 ∧ L.length ≤ c) ∧
  ∀ i o, L[i]? = some o → ∃ ad : Addr, a = some ad ∧ ∀ j u, (cells o)[j]? = some u → W.cell? ((ad.add (i * n)).add j) = some u

theorem InRow.below {α : Type} {n : Nat} {cells : α → List Value} {W W' : World} {v : Value} {L : List α} (h : InRow n cells W v L) {B : Nat} (hB : W.heap.size ≤ B) (hb : Below B W W') : InRow n cells W' v L := by
  obtain ⟨a, c, h1, h2, h3⟩ := h
  refine ⟨a, c, h1, h2, fun i o hi => ?_⟩
  obtain ⟨ad, h4, h5⟩ := h3 i o hi
  exact ⟨ad, h4, fun j u hj => by rw [hb.cell (Nat.lt_of_lt_of_le (World.block_lt_of_cell? W _ (h5 j u hj)) hB)]; exact h5 j u hj⟩

theorem op_open {H : Type} {enc : TypeId × Value → H} {W : World} {fuel : Nat} {cs : List Value} {x : DataW H × List MemPlace}
    (h : DataW.trod enc Try.prog W 0 (fun _ => true) true fuel 38 cs = some x) :
    ∃ o : NOp, cs = o.cells ∧ o.Ok ∧ ((x.1.weights Try.prog 38).all (· ≤ reachBytes) = true → o.x.Has W ∧ o.x.Fits) := by
  obtain ⟨xs, n', -, hx, hlen, hxl, hfld⟩ := DataW.trod_struct Try.underlying38 h
  have f0 : DataW.trod enc Try.prog W 0 (fun _ => true) true n' 3 ((cs.drop 0).take (Try.prog.cellsOf 3)) = xs[0]? := hfld 0 _ rfl
  have f1 : DataW.trod enc Try.prog W 0 (fun _ => true) true n' 3 ((cs.drop 1).take (Try.prog.cellsOf 3)) = xs[1]? := hfld 1 _ rfl
  have f2 : DataW.trod enc Try.prog W 0 (fun _ => true) true n' 31 ((cs.drop 2).take (Try.prog.cellsOf 31)) = xs[2]? := hfld 2 _ rfl
  have f3 : DataW.trod enc Try.prog W 0 (fun _ => true) true n' 31 ((cs.drop 3).take (Try.prog.cellsOf 31)) = xs[3]? := hfld 3 _ rfl
  have f4 : DataW.trod enc Try.prog W 0 (fun _ => true) true n' 4 ((cs.drop 4).take (Try.prog.cellsOf 4)) = xs[4]? := hfld 4 _ rfl
  have f5 : DataW.trod enc Try.prog W 0 (fun _ => true) true n' 36 ((cs.drop 5).take (Try.prog.cellsOf 36)) = xs[5]? := hfld 5 _ rfl
  have c0 : Try.prog.cellsOf 3 = 1 := by kernel_rfl
  have c1 : Try.prog.cellsOf 31 = 1 := by kernel_rfl
  have c2 : Try.prog.cellsOf 4 = 1 := by kernel_rfl
  have c3 : Try.prog.cellsOf 36 = 12 := by kernel_rfl
  have cr : Try.prog.cellsOf 38 = 17 := by kernel_rfl
  rw [cr] at hlen
  rw [c0] at f0 f1
  rw [c1] at f2 f3
  rw [c2] at f4
  rw [c3] at f5
  obtain ⟨u0, u1, u2, u3, u4, r, rfl, hr⟩ : ∃ u0 u1 u2 u3 u4 r, cs = u0 :: u1 :: u2 :: u3 :: u4 :: r ∧ r.length = 12 := by
    match cs, hlen with
    | u0 :: u1 :: u2 :: u3 :: u4 :: r, hl => exact ⟨u0, u1, u2, u3, u4, r, rfl, by simpa using hl⟩
  have l6 : xs.length = 6 := hxl
  rw [List.getElem?_eq_getElem (by omega)] at f0 f1 f2 f3 f4 f5
  obtain ⟨k, e0, -, w0⟩ := DataW.trod_int Try.underlying3 f0
  obtain ⟨k1, e1, -, w1⟩ := DataW.trod_int Try.underlying3 f1
  obtain ⟨k2, e2, -, w2⟩ := DataW.trod_int Try.underlying31 f2
  obtain ⟨k3, e3, -, w3⟩ := DataW.trod_int Try.underlying31 f3
  obtain ⟨b4, e4, -⟩ := DataW.trod_bool Try.underlying4 f4
  simp at e0 e1 e2 e3 e4
  have hk0 := bounds_i64 w0
  have hk1 := bounds_i64 w1
  obtain ⟨a, rfl, ha⟩ := u64_nat k2 w2
  obtain ⟨b, rfl, hb⟩ := u64_nat k3 w3
  subst e0 e1 e2 e3 e4
  have f5' : DataW.trod enc Try.prog W 0 (fun _ => true) true n' 36 (r.take 12) = some (xs[5]'(by omega)) := f5
  rw [List.take_of_length_le (by omega)] at f5'
  obtain ⟨m, ve, vm, vg, us, rfl, hm⟩ := msg_open f5'
  refine ⟨⟨k, k1, a, b, b4, ⟨m, ve, vm, vg, us⟩⟩, rfl, ⟨hk0.1, hk0.2, hk1.1, hk1.2, ha, hb⟩, fun hh => ?_⟩
  have hw : ((xs[5]'(by omega)).1.weights Try.prog 36).all (· ≤ reachBytes) = true := by
    rw [hx] at hh
    simp only [DataW.weights, Try.underlying38] at hh
    exact List.all_eq_true.2 fun n hn => List.all_eq_true.1 hh n (DataW.weights_mem_each (j := 5) (t := 36) rfl (by rw [List.getElem?_map, List.getElem?_eq_getElem (by omega)]; rfl) n hn)
  obtain ⟨p1, p2, p3, p4⟩ := hm hw
  exact ⟨p1, p2, p3, p4⟩

theorem ops_open {H : Type} {enc : TypeId × Value → H} {W : World} {fuel : Nat} {v : Value} {x : DataW H × List MemPlace}
    (hf : DataW.trod enc Try.prog W 0 (fun _ => true) true fuel 22 [v] = some x) :
    ∃ L : List NOp, InRow 17 NOp.cells W v L ∧ (∀ o ∈ L, o.Ok) ∧ ((x.1.weights Try.prog 22).all (· ≤ reachBytes) = true → ∀ o ∈ L, o.x.Has W ∧ o.x.Fits) := by
  rcases open_slice Try.underlying22 hf with ⟨hcs, _⟩ | ⟨ad, ln, c, m, n, D, Pl, hcs, _, hl, hm, hmm, hx, hel⟩
  · simp at hcs
    subst hcs
    exact ⟨[], ⟨none, 0, rfl, by simp, fun i o hi => by simp at hi⟩, by simp, fun _ o ho => absurd ho List.not_mem_nil⟩
  · simp at hcs
    subst hcs
    simp only [if_true] at hmm
    have hC : Try.prog.cellsOf 38 = 17 := by kernel_rfl
    haveI : Inhabited NOp := ⟨⟨0, 0, 0, 0, false, ⟨Mg.zero, .bool false, .bool false, .bool false, []⟩⟩⟩
    obtain ⟨f, hfp⟩ := choose_lt (α := NOp) (n := ln) (p := fun i o => o.Ok ∧ (((D i).weights Try.prog 38).all (· ≤ reachBytes) = true → o.x.Has W ∧ o.x.Fits) ∧
        ∀ j v, o.cells[j]? = some v → W.cell? ((ad.add (i * 17)).add j) = some v) (fun i hi => by
      obtain ⟨cs', h1, h2⟩ := hel i (by omega)
      rw [hC] at h1
      obtain ⟨-, hlen, hcell⟩ := World.cells?_some h1
      obtain ⟨o, rfl, ho, hw⟩ := op_open h2
      refine ⟨o, ho, hw, fun j v hj => ?_⟩
      have hj6 : j < 17 := (List.getElem?_eq_some_iff.1 hj).1
      have h3 := hcell j hj6
      rw [← hj]
      exact h3)
    have hmem : ∀ u ∈ (List.range ln).map f, ∃ i, i < ln ∧ u = f i := fun u hu => by
      obtain ⟨i, hi, rfl⟩ := List.mem_map.1 hu
      exact ⟨i, List.mem_range.1 hi, rfl⟩
    refine ⟨(List.range ln).map f, ⟨some ad, c, by simp, by unfold maxLen at hm; simp; omega, fun i o hi => ?_⟩, fun u hu => ?_, fun hw u hu => ?_⟩
    · rw [List.getElem?_map] at hi
      obtain ⟨j, hj, rfl⟩ := Option.map_eq_some_iff.1 hi
      obtain ⟨hj1, hj2⟩ := List.getElem?_eq_some_iff.1 hj
      simp at hj1 hj2
      subst hj2
      exact ⟨ad, rfl, (hfp _ hj1).2.2⟩
    · obtain ⟨i, hi, rfl⟩ := hmem u hu
      exact (hfp i hi).1
    · rw [hx] at hw
      simp only [DataW.weights, Try.underlying22, List.all_cons, Bool.and_eq_true, List.all_append] at hw
      obtain ⟨h1, h2, -⟩ := hw
      obtain ⟨i, hi, rfl⟩ := hmem u hu
      exact (hfp i hi).2.1 (List.all_eq_true.2 fun n hn => List.all_eq_true.1 h2 n (weights_all (List.mem_map.2 ⟨i, List.mem_range.2 hi, rfl⟩) n hn))

theorem msgs_open {H : Type} {enc : TypeId × Value → H} {W : World} {fuel : Nat} {v : Value} {x : DataW H × List MemPlace}
    (hf : DataW.trod enc Try.prog W 0 (fun _ => true) true fuel 27 [v] = some x) :
    ∃ L : List MM, InRow 12 MM.cells W v L ∧ ((x.1.weights Try.prog 27).all (· ≤ reachBytes) = true → ∀ o ∈ L, o.Has W ∧ o.Fits) := by
  rcases open_slice Try.underlying27 hf with ⟨hcs, _⟩ | ⟨ad, ln, c, m, n, D, Pl, hcs, _, hl, hm, hmm, hx, hel⟩
  · simp at hcs
    subst hcs
    exact ⟨[], ⟨none, 0, rfl, by simp, fun i o hi => by simp at hi⟩, fun _ o ho => absurd ho List.not_mem_nil⟩
  · simp at hcs
    subst hcs
    simp only [if_true] at hmm
    have hC : Try.prog.cellsOf 36 = 12 := by kernel_rfl
    haveI : Inhabited MM := ⟨⟨Mg.zero, .bool false, .bool false, .bool false, []⟩⟩
    obtain ⟨f, hfp⟩ := choose_lt (α := MM) (n := ln) (p := fun i o => (((D i).weights Try.prog 36).all (· ≤ reachBytes) = true → o.Has W ∧ o.Fits) ∧
        ∀ j v, o.cells[j]? = some v → W.cell? ((ad.add (i * 12)).add j) = some v) (fun i hi => by
      obtain ⟨cs', h1, h2⟩ := hel i (by omega)
      rw [hC] at h1
      obtain ⟨-, hlen, hcell⟩ := World.cells?_some h1
      obtain ⟨m, ve, vm, vg, us, rfl, hw⟩ := msg_open h2
      refine ⟨⟨m, ve, vm, vg, us⟩, fun hh => ?_, fun j v hj => ?_⟩
      · obtain ⟨p1, p2, p3, p4⟩ := hw hh
        exact ⟨p1, p2, p3, p4⟩
      have hj6 : j < 12 := (List.getElem?_eq_some_iff.1 hj).1
      have h3 := hcell j hj6
      rw [← hj]
      exact h3)
    have hmem : ∀ u ∈ (List.range ln).map f, ∃ i, i < ln ∧ u = f i := fun u hu => by
      obtain ⟨i, hi, rfl⟩ := List.mem_map.1 hu
      exact ⟨i, List.mem_range.1 hi, rfl⟩
    refine ⟨(List.range ln).map f, ⟨some ad, c, by simp, by unfold maxLen at hm; simp; omega, fun i o hi => ?_⟩, fun hw u hu => ?_⟩
    · rw [List.getElem?_map] at hi
      obtain ⟨j, hj, rfl⟩ := Option.map_eq_some_iff.1 hi
      obtain ⟨hj1, hj2⟩ := List.getElem?_eq_some_iff.1 hj
      simp at hj1 hj2
      subst hj2
      exact ⟨ad, rfl, (hfp _ hj1).2⟩
    · rw [hx] at hw
      simp only [DataW.weights, Try.underlying27, List.all_cons, Bool.and_eq_true, List.all_append] at hw
      obtain ⟨h1, h2, -⟩ := hw
      obtain ⟨i, hi, rfl⟩ := hmem u hu
      exact (hfp i hi).1 (List.all_eq_true.2 fun n hn => List.all_eq_true.1 h2 n (weights_all (List.mem_map.2 ⟨i, List.mem_range.2 hi, rfl⟩) n hn))
end Go.Proofs.Ytgbhfolbkgibfaa

