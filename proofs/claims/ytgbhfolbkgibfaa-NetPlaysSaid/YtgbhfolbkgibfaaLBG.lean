/- Joined: NetOpen, NetKeepKit, NetTwice, NetPlayKit. -/
import Derived.Test.YtgbhfolbkgibfaaLAY
import Derived.Test.YtgbhfolbkgibfaaLBF
import Derived.Test.YtgbhfolbkgibfaaLBA
import Derived.Test.YtgbhfolbkgibfaaLAS
import Derived.Maps.AppendAt
import Derived.IntWalk
import Derived.Test.YtgbhfolbkgibfaaLBD
import Derived.Test.YtgbhfolbkgibfaaLBB
/- Layer 19: messages and calls in a row that came in. -/
namespace Go.Proofs.Ytgbhfolbkgibfaa
set_option maxRecDepth 20000
open Go.RowKit Go.ChangeShapes Go.Deep BinMath
open CmdMath (Ent)
open MsgMath (Mg)

/-- The sizes of what came in. -/
structure MM.Fits (x : MM) : Prop where
  es : x.us.length ≤ 1759218604390
  ms : x.m.m.length ≤ 17592186043904
  em : ∀ u ∈ x.us, u.e.m.length ≤ 17592186043904

/-- A call of a script. -/
structure NOp where
  kind : Int
  i : Int
  a : Nat
  b : Nat
  yes : Bool
  x : MM

def NOp.cells (o : NOp) : List Value := .int .i64 o.kind :: .int .i64 o.i :: .int .u64 (o.a : Int) :: .int .u64 (o.b : Int) :: .bool o.yes :: o.x.cells
theorem NOp.cells_len (o : NOp) : o.cells.length = 17 := rfl

structure NOp.Ok (o : NOp) : Prop where
  k0 : -9223372036854775808 ≤ o.kind
  k1 : o.kind ≤ 9223372036854775807
  i0 : -9223372036854775808 ≤ o.i
  i1 : o.i ≤ 9223372036854775807
  a1 : o.a < 18446744073709551616
  b1 : o.b < 18446744073709551616

/-- What lies in a row that came in, n cells each. -/
def InRow {α : Type} (n : Nat) (cells : α → List Value) (W : World) (v : Value) (L : List α) : Prop := ∃ (a : Option Addr) (c : Nat), v = .slice a L.length c ∧ (L.length ≤ 9223372036854775807 ∧ L.length ≤ c) ∧
  ∀ i o, L[i]? = some o → ∃ ad : Addr, a = some ad ∧ ∀ j u, (cells o)[j]? = some u → W.cell? ((ad.add (i * n)).add j) = some u

theorem InRow.below {α : Type} {n : Nat} {cells : α → List Value} {W W' : World} {v : Value} {L : List α} (h : InRow n cells W v L) {B : Nat} (hB : W.heap.size ≤ B) (hb : Below B W W') : InRow n cells W' v L := by
  obtain ⟨a, c, h1, h2, h3⟩ := h
  refine ⟨a, c, h1, h2, fun i o hi => ?_⟩
  obtain ⟨ad, h4, h5⟩ := h3 i o hi
  exact ⟨ad, h4, fun j u hj => by rw [hb.cell (Nat.lt_of_lt_of_le (World.block_lt_of_cell? W _ (h5 j u hj)) hB)]; exact h5 j u hj⟩

theorem op_open {H : Type} {enc : TypeId × Value → H} {W : World} {fuel : Nat} {cs : List Value} {x : DataW H × List MemPlace}
    (h : DataW.trod enc Try.prog W 0 (fun _ => true) true fuel 38 cs = some x) :
    ∃ o : NOp, cs = o.cells ∧ o.Ok ∧ ((x.1.weights Try.prog 38).all (· ≤ reachBytes) = true → o.x.Has W ∧ o.x.Fits) := by
  obtain ⟨xs, n', -, hx, hlen, hxl, hfld⟩ := DataW.trod_struct Try.underlying38 h
  have f0 : DataW.trod enc Try.prog W 0 (fun _ => true) true n' 3 ((cs.drop 0).take (Try.prog.cellsOf 3)) = xs[0]? := hfld 0 _ rfl
  have f1 : DataW.trod enc Try.prog W 0 (fun _ => true) true n' 3 ((cs.drop 1).take (Try.prog.cellsOf 3)) = xs[1]? := hfld 1 _ rfl
  have f2 : DataW.trod enc Try.prog W 0 (fun _ => true) true n' 31 ((cs.drop 2).take (Try.prog.cellsOf 31)) = xs[2]? := hfld 2 _ rfl
  have f3 : DataW.trod enc Try.prog W 0 (fun _ => true) true n' 31 ((cs.drop 3).take (Try.prog.cellsOf 31)) = xs[3]? := hfld 3 _ rfl
  have f4 : DataW.trod enc Try.prog W 0 (fun _ => true) true n' 4 ((cs.drop 4).take (Try.prog.cellsOf 4)) = xs[4]? := hfld 4 _ rfl
  have f5 : DataW.trod enc Try.prog W 0 (fun _ => true) true n' 36 ((cs.drop 5).take (Try.prog.cellsOf 36)) = xs[5]? := hfld 5 _ rfl
  have c0 : Try.prog.cellsOf 3 = 1 := by kernel_rfl
  have c1 : Try.prog.cellsOf 31 = 1 := by kernel_rfl
  have c2 : Try.prog.cellsOf 4 = 1 := by kernel_rfl
  have c3 : Try.prog.cellsOf 36 = 12 := by kernel_rfl
  have cr : Try.prog.cellsOf 38 = 17 := by kernel_rfl
  rw [cr] at hlen
  rw [c0] at f0 f1
  rw [c1] at f2 f3
  rw [c2] at f4
  rw [c3] at f5
  obtain ⟨u0, u1, u2, u3, u4, r, rfl, hr⟩ : ∃ u0 u1 u2 u3 u4 r, cs = u0 :: u1 :: u2 :: u3 :: u4 :: r ∧ r.length = 12 := by
    match cs, hlen with
    | u0 :: u1 :: u2 :: u3 :: u4 :: r, hl => exact ⟨u0, u1, u2, u3, u4, r, rfl, by simpa using hl⟩
  have l6 : xs.length = 6 := hxl
  rw [List.getElem?_eq_getElem (by omega)] at f0 f1 f2 f3 f4 f5
  obtain ⟨k, e0, -, w0⟩ := DataW.trod_int Try.underlying3 f0
  obtain ⟨k1, e1, -, w1⟩ := DataW.trod_int Try.underlying3 f1
  obtain ⟨k2, e2, -, w2⟩ := DataW.trod_int Try.underlying31 f2
  obtain ⟨k3, e3, -, w3⟩ := DataW.trod_int Try.underlying31 f3
  obtain ⟨b4, e4, -⟩ := DataW.trod_bool Try.underlying4 f4
  simp at e0 e1 e2 e3 e4
  have hk0 := bounds_i64 w0
  have hk1 := bounds_i64 w1
  obtain ⟨a, rfl, ha⟩ := u64_nat k2 w2
  obtain ⟨b, rfl, hb⟩ := u64_nat k3 w3
  subst e0 e1 e2 e3 e4
  have f5' : DataW.trod enc Try.prog W 0 (fun _ => true) true n' 36 (r.take 12) = some (xs[5]'(by omega)) := f5
  rw [List.take_of_length_le (by omega)] at f5'
  obtain ⟨m, ve, vm, vg, us, rfl, hm⟩ := msg_open f5'
  refine ⟨⟨k, k1, a, b, b4, ⟨m, ve, vm, vg, us⟩⟩, rfl, ⟨hk0.1, hk0.2, hk1.1, hk1.2, ha, hb⟩, fun hh => ?_⟩
  have hw : ((xs[5]'(by omega)).1.weights Try.prog 36).all (· ≤ reachBytes) = true := by
    rw [hx] at hh
    simp only [DataW.weights, Try.underlying38] at hh
    exact List.all_eq_true.2 fun n hn => List.all_eq_true.1 hh n (DataW.weights_mem_each (j := 5) (t := 36) rfl (by rw [List.getElem?_map, List.getElem?_eq_getElem (by omega)]; rfl) n hn)
  obtain ⟨p1, p2, p3, p4⟩ := hm hw
  exact ⟨p1, p2, p3, p4⟩

theorem ops_open {H : Type} {enc : TypeId × Value → H} {W : World} {fuel : Nat} {v : Value} {x : DataW H × List MemPlace}
    (hf : DataW.trod enc Try.prog W 0 (fun _ => true) true fuel 22 [v] = some x) :
    ∃ L : List NOp, InRow 17 NOp.cells W v L ∧ (∀ o ∈ L, o.Ok) ∧ ((x.1.weights Try.prog 22).all (· ≤ reachBytes) = true → ∀ o ∈ L, o.x.Has W ∧ o.x.Fits) := by
  rcases open_slice Try.underlying22 hf with ⟨hcs, _⟩ | ⟨ad, ln, c, m, n, D, Pl, hcs, _, hl, hm, hmm, hx, hel⟩
  · simp at hcs
    subst hcs
    exact ⟨[], ⟨none, 0, rfl, by simp, fun i o hi => by simp at hi⟩, by simp, fun _ o ho => absurd ho List.not_mem_nil⟩
  · simp at hcs
    subst hcs
    simp only [if_true] at hmm
    have hC : Try.prog.cellsOf 38 = 17 := by kernel_rfl
    haveI : Inhabited NOp := ⟨⟨0, 0, 0, 0, false, ⟨Mg.zero, .bool false, .bool false, .bool false, []⟩⟩⟩
    obtain ⟨f, hfp⟩ := choose_lt (α := NOp) (n := ln) (p := fun i o => o.Ok ∧ (((D i).weights Try.prog 38).all (· ≤ reachBytes) = true → o.x.Has W ∧ o.x.Fits) ∧
        ∀ j v, o.cells[j]? = some v → W.cell? ((ad.add (i * 17)).add j) = some v) (fun i hi => by
      obtain ⟨cs', h1, h2⟩ := hel i (by omega)
      rw [hC] at h1
      obtain ⟨-, hlen, hcell⟩ := World.cells?_some h1
      obtain ⟨o, rfl, ho, hw⟩ := op_open h2
      refine ⟨o, ho, hw, fun j v hj => ?_⟩
      have hj6 : j < 17 := (List.getElem?_eq_some_iff.1 hj).1
      have h3 := hcell j hj6
      rw [← hj]
      exact h3)
    have hmem : ∀ u ∈ (List.range ln).map f, ∃ i, i < ln ∧ u = f i := fun u hu => by
      obtain ⟨i, hi, rfl⟩ := List.mem_map.1 hu
      exact ⟨i, List.mem_range.1 hi, rfl⟩
    refine ⟨(List.range ln).map f, ⟨some ad, c, by simp, by unfold maxLen at hm; simp; omega, fun i o hi => ?_⟩, fun u hu => ?_, fun hw u hu => ?_⟩
    · rw [List.getElem?_map] at hi
      obtain ⟨j, hj, rfl⟩ := Option.map_eq_some_iff.1 hi
      obtain ⟨hj1, hj2⟩ := List.getElem?_eq_some_iff.1 hj
      simp at hj1 hj2
      subst hj2
      exact ⟨ad, rfl, (hfp _ hj1).2.2⟩
    · obtain ⟨i, hi, rfl⟩ := hmem u hu
      exact (hfp i hi).1
    · rw [hx] at hw
      simp only [DataW.weights, Try.underlying22, List.all_cons, Bool.and_eq_true, List.all_append] at hw
      obtain ⟨h1, h2, -⟩ := hw
      obtain ⟨i, hi, rfl⟩ := hmem u hu
      exact (hfp i hi).2.1 (List.all_eq_true.2 fun n hn => List.all_eq_true.1 h2 n (weights_all (List.mem_map.2 ⟨i, List.mem_range.2 hi, rfl⟩) n hn))

end Go.Proofs.Ytgbhfolbkgibfaa

/- Layer 19's law: a net, and beside it a list of what was sent. -/
namespace Go.Proofs.Ytgbhfolbkgibfaa
set_option maxRecDepth 20000
open Go.RowKit Go.Maps BinMath NetMath Reg
open MsgMath (Mg formedM)

/-- The net at P has the messages ms; the list v has those of ys. -/
structure KNet (hp : NetProg) (Z : Nat) (w W : World) (P : Nat) (U : Nat → Prop) (L : List MM) (ms : List Mg) (v : Value) (ys : List MM) : Prop where
  is_ : hp.Is W P ⟨ms, []⟩ U
  uz : ∀ k, U k → Z ≤ k
  row : MRow W Z v ys
  apart : ∀ k, v.ownBlock = some k → ¬ U k
  sub : ∀ y ∈ ys, y ∈ L
  zl : Z ≤ W.heap.size
  wz : w.heap.size ≤ Z
  bel : Below w.heap.size w W

theorem KNet.below {hp : NetProg} {Z : Nat} {w W W' : World} {P : Nat} {U : Nat → Prop} {L : List MM} {ms : List Mg} {v : Value} {ys : List MM} (h : KNet hp Z w W P U L ms v ys) (hb : Below W.heap.size W W') : KNet hp Z w W' P U L ms v ys :=
  ⟨hp.keep h.is_ (OnlyS.of_below (S := fun _ => False) hb fun _ hk _ => hk) fun _ _ e => e.elim, h.uz, ownsRow_keep h.row hb, h.apart, h.sub, Nat.le_trans h.zl hb.size, h.wz, h.bel.trans (hb.mono h.bel.size)⟩
/-- The net has moved on. -/
theorem KNet.net {hp : NetProg} {Z : Nat} {w W W' : World} {P : Nat} {U : Nat → Prop} {L : List MM} {ms ms' : List Mg} {v : Value} {ys : List MM} {p : Ending → World → Prop} {e : Ending} {n : Nt} (h : KNet hp Z w W P U L ms v ys) (hn : NetEnd hp.Is P U n W p e W') (he : n = ⟨ms', []⟩) : p e W' ∧ ∃ U', KNet hp Z w W' P U' L ms' v ys := by
  subst he
  obtain ⟨h1, ho, U', h2, h3⟩ := hn
  refine ⟨h1, U', h2, fun k hk => (h3 k hk).elim (h.uz k) (Nat.le_trans h.zl), ownsRow_to h.row fun k e => ho.block k (World.ownsRow.lt h.row k e).2 (h.apart k e), fun k e e2 => (h3 k e2).elim (h.apart k e) fun e3 => ?_, h.sub, Nat.le_trans h.zl ho.size, h.wz,
    h.bel.trans (ho.below (fun k hk e => ?_) h.bel.size)⟩
  · have := (World.ownsRow.lt h.row k e).2
    omega
  · have := h.uz k e
    have := h.wz
    omega
/-- The list is another one. -/
theorem KNet.list {hp : NetProg} {Z : Nat} {w W W' : World} {P : Nat} {U : Nat → Prop} {L : List MM} {ms : List Mg} {v v' : Value} {ys ys' : List MM} (h : KNet hp Z w W P U L ms v ys) (hg : W.grownBy W' v.ownBlock) (hr : MRow W' Z v' ys') (hn : ∀ k, v'.ownBlock = some k → v.ownBlock = some k ∨ W.heap.size ≤ k) (hs : ∀ y ∈ ys', y ∈ L) : KNet hp Z w W' P U L ms v' ys' := by
  have ho : OnlyS (fun k => v.ownBlock = some k) W W' := ⟨hg.os, hg.tape, hg.output, hg.size, fun k hk hne => hg.block k hk fun e => hne e.symm⟩
  refine ⟨hp.keep h.is_ ho fun k _ e => h.apart k e, h.uz, hr, fun k e e2 => (hn k e).elim (fun e3 => h.apart k e3 e2) fun e3 => ?_, hs, Nat.le_trans h.zl hg.size, h.wz, h.bel.trans (ho.below (fun k hk e => ?_) h.bel.size)⟩
  · have := hp.lt h.is_ k e2
    omega
  · have := (World.ownsRow.lt h.row k e).1
    have := h.wz
    omega
theorem KNet.has {hp : NetProg} {Z : Nat} {w W : World} {P : Nat} {U : Nat → Prop} {L : List MM} {ms : List Mg} {v : Value} {ys : List MM} (h : KNet hp Z w W P U L ms v ys) (hm : MMHas w L) : MMHas W ys := fun y hy => (hm.below (Nat.le_refl _) h.bel) y (h.sub y hy)

/-- The list is made anew. -/
theorem KNet.fresh {hp : NetProg} {Z : Nat} {w W W' : World} {P : Nat} {U : Nat → Prop} {L : List MM} {ms : List Mg} {v v' : Value} {ys ys' : List MM} (h : KNet hp Z w W P U L ms v ys) (hb : Below W.heap.size W W') (hr : MRow W' W.heap.size v' ys') (hs : ∀ y ∈ ys', y ∈ L) : KNet hp Z w W' P U L ms v' ys' := by
  have h2 := h.below hb
  refine ⟨h2.is_, h.uz, ?_, fun k e e2 => ?_, hs, h2.zl, h.wz, h2.bel⟩
  · obtain ⟨r1, r2⟩ := hr
    exact ⟨r1, r2.elim .inl fun ⟨g, cap, cur, hv, hB, r⟩ => .inr ⟨g, cap, cur, hv, Nat.le_trans h.zl hB, r⟩⟩
  · have := (World.ownsRow.lt hr k e).1
    have := hp.lt h.is_ k e2
    omega

theorem ix_mm (W : World) (g n c i : Nat) (hi : i < n) : (Instr.indexAt 27 (.slice (some ⟨g, 0, none⟩) n c) (.int .i64 (i : Int))).run Try.prog W = .ok (.pointer (some ⟨g, i * 12, none⟩)) W := by
  have hs : (Go.sizeOf 36).run Try.prog W = .ok 12 W := by kernel_rfl
  have e : Try.prog.elem 27 = 36 := by kernel_rfl
  have ht : Try.prog.underlying 27 = some (.slice (Try.prog.elem 27)) := by rw [e]; exact Try.underlying27
  rw [run_indexAt_slice (h := ht), if_pos (by omega), e, hs]
  simp [Result.andThen, addr_add]

end Go.Proofs.Ytgbhfolbkgibfaa

/- Layer 19's reference: Twice. -/
namespace Go.Proofs.Ytgbhfolbkgibfaa
set_option maxRecDepth 20000
open Go.RowKit Go.Maps BinMath NetMath Reg
open MsgMath (Mg formedM)

set_option maxHeartbeats 4000000 in
theorem refTwice_yes (R : Nat) (n : Nt) (vL vW : Value) (xs : List MM) (i : Nat) (x : MM) (w : World) (h : RNet w R n vL vW xs) (hx : xs[i]? = some x) (h256 : xs.length < 256) :
    Calls Try.prog 18 #[.pointer (some ⟨R, 0, none⟩), .int .i64 (i : Int)] w (RPut R vW (xs ++ [x]) w) := by
  have hhas : x.Has w := h.has x (List.mem_of_getElem? hx)
  have HAt := Lib.hid (refAt_in R vL vW xs i x w h.blk h.row hx hhas)
  obtain ⟨m, ve, vm, vg, us⟩ := x
  have hm : MHas w m ve vm vg us := hhas
  have hRw : R < w.heap.size := h.blk.lt
  obtain ⟨a, c, rfl⟩ := h.row.form
  obtain ⟨l, hl⟩ : ∃ l, l = xs.length := ⟨_, rfl⟩
  have hl2 : (l : Int) < 256 := by omega
  have HLn := Lib.hid hl.symm
  have HL1 := Lib.hid (show xs.length ≤ 1000 by omega)
  have HLc := Lib.hid (show l ≤ c by
    rcases h.row.2 with ⟨h1, h0⟩ | ⟨g, cap, cur, h1, -, -, hn, -⟩
    · omega
    · cases h1
      omega)
  have HRow0 := Lib.hid (show MRow w 0 (.slice a l c) xs by have := h.row; rwa [← hl] at this)
  have HR0 := Lib.hid (show Blk w R 30 #[.slice a l c, vW] by have := h.blk; rwa [← hl] at this)
  have HM := Lib.hid hm
  clear hm hx hhas h h256 hl
  simp only at HAt
  go_enter Try.func18, Try.ntmps18
  go_wp2_with fail
  refine HAt.out.mono ?_
  rintro e w2 ⟨rfl, hb⟩
  have HB0 := Lib.hid hb
  have HM2 := Lib.hid (HM.out.below (Nat.le_refl _) hb)
  have kR : ∀ W, Below w2.heap.size w2 W → W.cell? ⟨R, 0, none⟩ = some (.slice a l c) := fun W hW => by rw [((HR0.out.keep HB0.out).keep hW).cell]; rfl
  have HKR := Lib.hid kR
  clear hb kR
  go_upto_region 4 with (refine wpList_store_all rfl 36 (.tmp 5) (.tmp 11) rfl w2.heap.size (mgC m ve vm vg) rfl rfl 36 zeroM (Blk.new w2 36 zeroM) (mgM_info _ _ _ _) rfl (by rw [← Array.all_toList, List.all_eq_true]; exact mm_one (x := ⟨m, ve, vm, vg, us⟩) HM2.out) ?_; intro w3 hb hos; (have HE3 := Lib.hid hb); (have HW3 := Lib.hid (show Below w2.heap.size w2 w3 from ((Below.refl _ _).alloc (Nat.le_refl _) _).trans (hos.below (fun k hk e => by have e : k = w2.heap.size := e; omega) (by simp)))); clear hb hos)
  have c0 : w3.cell? ⟨R, 0, none⟩ = some (.slice a l c) := HKR.out w3 HW3.out
  have HB2 := Lib.hid (show Below w.heap.size w w3 from HB0.out.trans (HW3.out.mono HB0.out.size))
  have HR3 := Lib.hid ((HR0.out.keep HB0.out).keep HW3.out)
  have HLd := Lib.hid (fun (W : World) (hW : Below w3.heap.size w3 W) => load_ml W ⟨R, 0, none⟩ (.slice a l c) (by rw [(HR3.out.keep hW).cell]; rfl))
  have HRow := Lib.hid (show MRow w3 0 (.slice a l c) xs from ownsRow_to HRow0.out fun k hk => HB2.out.block k (World.ownsRow.lt HRow0.out k hk).2)
  have HSz := Lib.hid HB2.out.size
  obtain ⟨E, hE⟩ : ∃ E, E = w2.heap.size := ⟨_, rfl⟩
  rw [← hE] at HE3 ⊢
  clear hE
  go_upto_region 6 with fail
  clear c0 hl2
  have hG : ∀ W W' : World, Below w3.heap.size w3 W → Below W.heap.size W W' → Below w3.heap.size w3 W' := fun W W' hW hb => hW.trans (hb.mono hW.size)
  refine region_tail_by 21 _ [(22, .is (.pointer (some ⟨R, 0, none⟩))), (23, .is (.pointer (some ⟨R, 0, none⟩))), (24, .is (.pointer (some ⟨R, 0, none⟩))), (25, .is (.pointer (some ⟨R, 0, none⟩))), (26, .is (.slice a l c)), (27, .is (.pointer (some ⟨R, 0, none⟩))), (28, .is (.pointer (some ⟨R, 0, none⟩))), (29, .is (.pointer (some ⟨R, 0, none⟩))), (30, .is (.slice a l c)), (31, .is (.int .i64 (l : Int))), (32, .is (.pointer (some ⟨R, 0, none⟩))), (33, .is (.pointer (some ⟨R, 0, none⟩))), (34, .is (.pointer (some ⟨R, 0, none⟩))), (35, .is (.slice a l c)), (36, .is (.int .i64 (l : Int))), (37, .is (.slice a l l)), (38, .is (.agg (mgC m ve vm vg))), (39, oneF (mgC m ve vm vg)), (40, newF w.heap.size (xs ++ [⟨m, ve, vm, vg, us⟩])), (41, .is (.pointer (some ⟨R, 0, none⟩))), (42, .is (.pointer (some ⟨R, 0, none⟩)))] [0, 1, 2, 3, 4, 40, 42] (fun W => Below w3.heap.size w3 W) (by kernel_rfl) (by kernel_rfl) (by kernel_rfl) (by kernel_rfl) (by kernel_rfl) rfl rfl rfl rfl (by kernel_rfl) ((Below.refl _ _).drew) ?_ ?_
  · refine ⟨?c0, ?c1, ?c2, ?c3, ?c4, ?c5, ?c6, ?c7, ?c8, ?c9, ?c10, ?c11, ?c12, ?c13, ?c14, ?c15, ?c16, ?c17, ?c18, ?c19, ?c20, trivial⟩
    case c0 => exact ask_copy (guard_none rfl) (.tmp 0) (.inl rfl) (by intro k hk; cases hk; rfl)
    case c1 => exact ask_copy (guard_none rfl) (.tmp 0) (.inl rfl) (by intro k hk; cases hk; rfl)
    case c2 => exact ask_exec (guard_none rfl) (.pointer (some ⟨R, 0, none⟩)) rfl rfl (by intro k hk; cases hk; rfl) (fun W hW => by kernel_rfl)
    case c3 => exact ask_field (guard_none rfl) _ (.tmp 24) 0 (.pointer (some ⟨R, 0, none⟩)) (.pointer (some ⟨R, 0, none⟩)) rfl rfl (by intro k hk; cases hk; rfl) (fun W => by kernel_rfl)
    case c4 => exact ask_load (guard_none rfl) _ (.tmp 25) (.pointer (some ⟨R, 0, none⟩)) (.slice a l c) rfl rfl (by intro k hk; cases hk; rfl) (fun W hW => HLd.out W hW)
    case c5 => exact ask_copy (guard_none rfl) (.tmp 0) (.inl rfl) (by intro k hk; cases hk; rfl)
    case c6 => exact ask_exec (guard_none rfl) (.pointer (some ⟨R, 0, none⟩)) rfl rfl (by intro k hk; cases hk; rfl) (fun W hW => by kernel_rfl)
    case c7 => exact ask_field (guard_none rfl) _ (.tmp 28) 0 (.pointer (some ⟨R, 0, none⟩)) (.pointer (some ⟨R, 0, none⟩)) rfl rfl (by intro k hk; cases hk; rfl) (fun W => by kernel_rfl)
    case c8 => exact ask_load (guard_none rfl) _ (.tmp 29) (.pointer (some ⟨R, 0, none⟩)) (.slice a l c) rfl rfl (by intro k hk; cases hk; rfl) (fun W hW => HLd.out W hW)
    case c9 => exact ask_len (guard_none rfl) (.tmp 30) 27 a l c rfl (by rw [elem_msgs]; exact Try.underlying27) rfl (by intro k hk; cases hk; rfl)
    case c10 => exact ask_copy (guard_none rfl) (.tmp 0) (.inl rfl) (by intro k hk; cases hk; rfl)
    case c11 => exact ask_exec (guard_none rfl) (.pointer (some ⟨R, 0, none⟩)) rfl rfl (by intro k hk; cases hk; rfl) (fun W hW => by kernel_rfl)
    case c12 => exact ask_field (guard_none rfl) _ (.tmp 33) 0 (.pointer (some ⟨R, 0, none⟩)) (.pointer (some ⟨R, 0, none⟩)) rfl rfl (by intro k hk; cases hk; rfl) (fun W => by kernel_rfl)
    case c13 => exact ask_load (guard_none rfl) _ (.tmp 34) (.pointer (some ⟨R, 0, none⟩)) (.slice a l c) rfl rfl (by intro k hk; cases hk; rfl) (fun W hW => HLd.out W hW)
    case c14 => exact ask_len (guard_none rfl) (.tmp 35) 27 a l c rfl (by rw [elem_msgs]; exact Try.underlying27) rfl (by intro k hk; cases hk; rfl)
    case c15 => exact ask_slice (guard_none rfl) _ (.tmp 26) none (some (.tmp 31)) (some (.tmp 36)) (.slice a l c) (.slice a l l) none (some (.int .i64 (l : Int))) (some (.int .i64 (l : Int))) rfl rfl rfl rfl rfl (by intro k hk; cases hk; rfl) (fun W => slice_full a l c HLc.out W)
    case c16 => exact ask_load (guard_none rfl) _ (.tmp 5) (.pointer (some ⟨E, 0, none⟩)) (.agg (mgC m ve vm vg)) rfl rfl (by intro k hk; cases hk; rfl) (fun W hW => Blk.loads (P := Try.prog) (HE3.out.keep hW) 36 _ Try.underlying36 rfl (mgM_info _ _ _ _))
    case c17 => exact ask_build_mm hG (guard_none rfl) (.tmp 38) (mgC m ve vm vg) rfl rfl rfl (by intro k hk; cases hk; rfl)
    case c18 => exact ask_append_full hG (guard_none rfl) (.tmp 37) (.tmp 39) a l c w.heap.size xs ⟨m, ve, vm, vg, us⟩ HLn.out HL1.out (by kernel_rfl) rfl rfl rfl (fun W hW => ⟨ownsRow_keep HRow.out hW, Nat.le_trans HSz.out hW.size⟩) (by intro k hk; cases hk; rfl)
    case c19 => exact ask_exec (guard_none rfl) (.pointer (some ⟨R, 0, none⟩)) rfl rfl (by intro k hk; cases hk; rfl) (fun W hW => by kernel_rfl)
    case c20 => exact ask_field (guard_none rfl) _ (.tmp 41) 0 (.pointer (some ⟨R, 0, none⟩)) (.pointer (some ⟨R, 0, none⟩)) rfl rfl (by intro k hk; cases hk; rfl) (fun W => by kernel_rfl)
  · intro a' W hW hd' hs' hf'
    have t0 : a'.tmps.getD 0 undef = .pointer (some ⟨R, 0, none⟩) := hf' 0 rfl
    have t1 : a'.tmps.getD 1 undef = .int .i64 (i : Int) := hf' 1 rfl
    have t2 : a'.tmps.getD 2 undef = undef := hf' 2 rfl
    have t3 : a'.tmps.getD 3 undef = undef := hf' 3 rfl
    have t4 : a'.tmps.getD 4 undef = .int .i64 0 := hf' 4 rfl
    have hrow : MRow W w.heap.size (a'.tmps.getD 40 undef) (xs ++ [⟨m, ve, vm, vg, us⟩]) := hf' 40 rfl
    have tp : a'.tmps.getD 42 undef = .pointer (some ⟨R, 0, none⟩) := hf' 42 rfl
    obtain ⟨us', hus, ha'⟩ := act_open 43 a' hs' hd'
    rw [← hus] at hrow tp t0 t1 t2 t3 t4
    have el : ((List.range 43).map us').toArray = #[us' 0, us' 1, us' 2, us' 3, us' 4, us' 5, us' 6, us' 7, us' 8, us' 9, us' 10, us' 11, us' 12, us' 13, us' 14, us' 15, us' 16, us' 17, us' 18, us' 19, us' 20, us' 21, us' 22, us' 23, us' 24, us' 25, us' 26, us' 27, us' 28, us' 29, us' 30, us' 31, us' 32, us' 33, us' 34, us' 35, us' 36, us' 37, us' 38, us' 39, us' 40, us' 41, us' 42] := rfl
    rw [el] at ha'
    subst ha'
    rw [t0, t1, t2, t3, t4, tp]
    obtain ⟨v', hv'⟩ : ∃ v', v' = us' 40 := ⟨_, rfl⟩
    rw [← hv'] at hrow ⊢
    obtain ⟨na, nc, hvs⟩ := hrow.form
    obtain ⟨nl, hnl⟩ : ∃ nl, nl = (xs ++ [(⟨m, ve, vm, vg, us⟩ : MM)]).length := ⟨_, rfl⟩
    rw [← hnl] at hvs
    subst hvs
    have HNew := Lib.hid hrow
    have HW := Lib.hid hW
    clear hrow hW hd' hs' hf' hus el hv' hnl tp t0 t1 t2 t3 t4
    go_wp2_with (refine wpList_store_fld rfl 27 (.tmp 42) (.tmp 40) rfl R 0 (.slice na nl nc) rfl rfl 30 #[.slice a l c, vW] #[.slice na nl nc, vW] (HR3.out.keep HW.out) (by simp) rfl (by kernel_rfl) rfl ?_; intro w5 hb ho; (have HZ := Lib.hid hb); (have HO := Lib.hid ho); clear hb ho)
    go_ret
    exact rPut_end (HB2.out.trans (HW.out.mono HB2.out.size)) hRw HNew.out HZ.out HO.out

set_option maxHeartbeats 2000000 in
theorem refTwice_full (R : Nat) (n : Nt) (vL vW : Value) (xs : List MM) (i : Nat) (x : MM) (w : World) (h : RNet w R n vL vW xs) (hx : xs[i]? = some x) (h256 : 256 ≤ xs.length) :
    Calls Try.prog 18 #[.pointer (some ⟨R, 0, none⟩), .int .i64 (i : Int)] w fun e w' => e = .returned (.int .i64 7) ∧ Below w.heap.size w w' := by
  have hhas : x.Has w := h.has x (List.mem_of_getElem? hx)
  have HAt := Lib.hid (refAt_in R vL vW xs i x w h.blk h.row hx hhas)
  obtain ⟨m, ve, vm, vg, us⟩ := x
  have hm : MHas w m ve vm vg us := hhas
  obtain ⟨a, c, rfl⟩ := h.row.form
  obtain ⟨l, hl⟩ : ∃ l, l = xs.length := ⟨_, rfl⟩
  have hl2 : (256 : Int) ≤ (l : Int) := by omega
  have HR0 := Lib.hid (show Blk w R 30 #[.slice a l c, vW] by have := h.blk; rwa [← hl] at this)
  have HM := Lib.hid hm
  clear hm hx hhas h h256 hl
  simp only at HAt
  go_enter Try.func18, Try.ntmps18
  go_wp2_with fail
  refine HAt.out.mono ?_
  rintro e w2 ⟨rfl, hb⟩
  have HB0 := Lib.hid hb
  have HM2 := Lib.hid (HM.out.below (Nat.le_refl _) hb)
  have HKR := Lib.hid (fun (W : World) (hW : Below w2.heap.size w2 W) => show W.cell? ⟨R, 0, none⟩ = some (.slice a l c) by rw [((HR0.out.keep HB0.out).keep hW).cell]; rfl)
  clear hb
  go_upto_region 4 with (refine wpList_store_all rfl 36 (.tmp 5) (.tmp 11) rfl w2.heap.size (mgC m ve vm vg) rfl rfl 36 zeroM (Blk.new w2 36 zeroM) (mgM_info _ _ _ _) rfl (by rw [← Array.all_toList, List.all_eq_true]; exact mm_one (x := ⟨m, ve, vm, vg, us⟩) HM2.out) ?_; intro w3 hb hos; (have HW3 := Lib.hid (show Below w2.heap.size w2 w3 from ((Below.refl _ _).alloc (Nat.le_refl _) _).trans (hos.below (fun k hk e => by have e : k = w2.heap.size := e; omega) (by simp)))); clear hb hos)
  have c0 : w3.cell? ⟨R, 0, none⟩ = some (.slice a l c) := HKR.out w3 HW3.out
  have HB2 := Lib.hid (show Below w.heap.size w w3 from HB0.out.trans (HW3.out.mono HB0.out.size))
  go_wp2
  go_ret
  exact ⟨rfl, HB2.out⟩

set_option maxHeartbeats 2000000 in
theorem refTwice_out (R : Nat) (n : Nt) (vL vW : Value) (xs : List MM) (i : Int) (w : World) (h : RNet w R n vL vW xs) (hi : ¬ (0 ≤ i ∧ i < xs.length)) :
    Calls Try.prog 18 #[.pointer (some ⟨R, 0, none⟩), .int .i64 i] w fun e w' => e = .returned (.int .i64 9) ∧ Below w.heap.size w w' := by
  have HAt := Lib.hid (refAt_out R vL vW xs i w h.blk h.row hi)
  clear h hi
  go_enter Try.func18, Try.ntmps18
  go_wp2_with fail
  refine HAt.out.mono ?_
  rintro e w2 ⟨rfl, hb⟩
  have HB0 := Lib.hid hb
  clear hb
  go_wp2_with (refine wpList_store_all rfl 36 (.tmp 5) (.tmp 11) rfl w2.heap.size zeroM rfl rfl 36 zeroM (Blk.new w2 36 zeroM) (mgM_info _ _ _ _) rfl zeroM_one ?_; intro w3 hb hos; (have HW3 := Lib.hid (show Below w2.heap.size w2 w3 from ((Below.refl _ _).alloc (Nat.le_refl _) _).trans (hos.below (fun k hk e => by have e : k = w2.heap.size := e; omega) (by simp)))); clear hb hos)
  go_ret
  exact ⟨rfl, HB0.out.trans (HW3.out.mono HB0.out.size)⟩
end Go.Proofs.Ytgbhfolbkgibfaa

/- Layer 19's law: the calls of both nets, one by one. -/
namespace Go.Proofs.Ytgbhfolbkgibfaa
set_option maxRecDepth 20000
open Go.RowKit Go.Maps BinMath NetMath Reg
open MsgMath (Mg formedM)

theorem load_op (W : World) (p : Addr) (o : NOp) (h : ∀ j v, o.cells[j]? = some v → W.cell? (p.add j) = some v) : (Instr.loadAt 38 (.pointer (some p))).run Try.prog W = .ok (.agg o.cells.toArray) W :=
  loads_cells p 38 _ o.cells Try.underlying38 rfl (by kernel_rfl) h
theorem neq_errno_self (s t : Operand) (l : Nat) (W : World) : (do eqGuard .neq 39 s t (.int .i64 (l : Int)) (.int .i64 (l : Int)); binOp .neq 39 (.int .i64 (l : Int)) (.int .i64 (l : Int)) : Sem Value).run Try.prog W = .ok (.bool false) W := by
  have h : ((l : Int) != (l : Int)) = false := by simp
  simp [eqGuard, go_sem]
theorem neq_bool_self (s t : Operand) (b : Bool) (W : World) : (do eqGuard .neq 4 s t (.bool b) (.bool b); binOp .neq 4 (.bool b) (.bool b) : Sem Value).run Try.prog W = .ok (.bool false) W := by
  cases b <;> kernel_rfl
/-- The kind of a call. -/
theorem op_kind (k : Int) : ∃ q : Nat, (wrap64 (k.tmod 6 + 6)).tmod 6 = (q : Int) ∧ q ≤ 5 := by
  have h2 : -6 < k.tmod 6 ∧ k.tmod 6 < 6 := ⟨by have := Int.lt_tmod_of_pos k (b := 6) (by decide); omega, Int.tmod_lt_of_pos k (by decide)⟩
  rw [IntWalk.wrap64_in _ ⟨by omega, by omega⟩, Int.tmod_eq_emod_of_nonneg (by omega)]
  exact ⟨((k.tmod 6 + 6) % 6).toNat, by omega, by omega⟩


theorem op_msg {W : World} {G : Nat} {o : NOp} (h : Blk W G 38 o.cells.toArray) : (Instr.loadAt 36 (.pointer (some ⟨G, 5, none⟩))).run Try.prog W = .ok (.agg (mgC o.x.m o.x.ve o.x.vm o.x.vg)) W :=
  load_mm W ⟨G, 5, none⟩ o.x fun j v hj => by
    rw [addr_add, h.cell, List.getElem?_toArray, Nat.add_comm 5 j]
    exact hj
theorem send_ways (q : Nt) (m : Mg) : (q.send m).2.W = q.W := by
  unfold Nt.send
  split
  · rfl
  · split
    · rfl
    · split <;> rfl
theorem take_ways (q : Nt) (i : Int) : (q.take i).W = q.W := by unfold Nt.take; split <;> rfl
theorem twice_ways (q : Nt) (i : Int) : (q.twice i).2.W = q.W := by
  unfold Nt.twice
  split
  · split <;> rfl
  · rfl

section
variable {hp : NetProg} {Z : Nat} {X : Nat → Prop} {W : World} {P R : Nat} {n' q : Nt} {U : Nat → Prop} {vL vW : Value} {xs : List MM}

/-- A message as the answer, at a world. -/
def yAns (Y : Nat → Prop) (m : Mg) (c : Nat) (e : Ending) (w' : World) : Prop := ∃ ve vm vg us, e = .returned (.tuple #[.agg (mgC m ve vm vg), .int .i64 (c : Int)]) ∧ Stay w' Y 0 (fun V => MHas V m ve vm vg us)

theorem take_send {q : Nt} {m : Mg} (h : (q.send m).1 = 0) : (q.send m).2 = ⟨q.L ++ [m], q.W⟩ ∧ q.L.length < 256 := by
  unfold Nt.send at h ⊢
  split at h
  · simp at h
  · split at h
    · simp at h
    · split at h
      · simp at h
      · rename_i h1 h2 h3
        exact ⟨by rw [if_neg h1, if_neg h2, if_neg h3], by omega⟩
theorem send_same {q : Nt} {m : Mg} (h : (q.send m).1 ≠ 0) : (q.send m).2 = q := by
  unfold Nt.send at h ⊢
  split
  · rfl
  · split
    · rfl
    · split
      · rfl
      · rename_i h1 h2 h3
        rw [if_neg h1, if_neg h2, if_neg h3] at h
        simp at h

theorem duo_send (h : Duo hp Z X W P R n' q U vL vW xs) (hw : q.W.length ≤ 1000) (x : MM) (hx : Stay W (fun k => U k ∨ k = R ∨ X k) 0 (fun V => x.Has V)) :
    Calls Try.prog 11 #[.pointer (some ⟨R, 0, none⟩), .agg (mgC x.m x.ve x.vm x.vg)] W fun e w' => e = .returned (.int .i64 ((q.send x.m).1 : Int)) ∧ ∃ vL' xs', Duo hp Z X w' P R n' (q.send x.m).2 U vL' vW xs' ∧ OnlyS (fun k => k = R) W w' ∧ ∀ k, vL'.ownBlock = some k → vL.ownBlock = some k ∨ W.heap.size ≤ k := by
  by_cases h0 : (q.send x.m).1 = 0
  · obtain ⟨h1, h2⟩ := take_send h0
    refine (refSend_yes R q vL vW xs x W (h.rnet hw) hx.now h0).mono ?_
    rintro e w' ⟨rfl, ⟨vL', hb, hl⟩, ho⟩
    refine ⟨by rw [h0]; rfl, vL', xs ++ [x], ?_, ho, fun k e => .inr (World.ownsRow.lt hl k e).1⟩
    rw [h1]
    exact h.refr ho hb hl (fun y hy => (List.mem_append.1 hy).imp id fun e => by rw [List.mem_singleton] at e; rw [e]; exact hx) (by rw [List.map_append, h.ms]; rfl) rfl (by have := h.len; rw [List.length_append]; simp; omega)
  · refine (refSend_not R q vL vW xs x W (h.rnet hw) hx.now h0).mono ?_
    rintro e w' ⟨rfl, hb⟩
    refine ⟨rfl, vL, xs, ?_, OnlyS.of_below hb fun _ hk _ => hk, fun _ e => .inl e⟩
    rw [send_same h0]
    exact h.below hb

theorem duo_at (h : Duo hp Z X W P R n' q U vL vW xs) (i : Int) :
    Calls Try.prog 16 #[.pointer (some ⟨R, 0, none⟩), .int .i64 i] W fun e w' => yAns (fun k => U k ∨ k = R ∨ X k) (q.at_ i).1 (q.at_ i).2 e w' ∧ Below W.heap.size W w' := by
  by_cases hi : 0 ≤ i ∧ i < xs.length
  · obtain ⟨j, rfl⟩ : ∃ j : Nat, i = (j : Int) := ⟨i.toNat, by omega⟩
    obtain ⟨x, hx⟩ : ∃ x, xs[j]? = some x := ⟨xs[j]'(by omega), List.getElem?_eq_getElem _⟩
    have hst := h.has x (List.mem_of_getElem? hx)
    have hh := hst.now
    have e1 : q.at_ (j : Int) = (x.m, 0) := by
      have hL : q.L[j]? = some x.m := by rw [← h.ms, List.getElem?_map, hx]; rfl
      obtain ⟨h1, h2⟩ := List.getElem?_eq_some_iff.1 hL
      unfold Nt.at_
      rw [dif_pos ⟨by omega, by simpa using h1⟩]
      simp [h2]
    rw [e1]
    refine (refAt_in R vL vW xs j x W h.blk (ownsRow_from h.lrow (Nat.zero_le _)) hx hh).mono ?_
    rintro e w' ⟨rfl, hb⟩
    exact ⟨⟨_, _, _, _, rfl, hst.step (OnlyS.of_below (S := fun _ => False) hb fun _ hk _ => hk) (fun _ _ e => e.elim) (fun _ _ e => e)⟩, hb⟩
  · have e1 : q.at_ i = (Mg.zero, 9) := by
      unfold Nt.at_
      rw [dif_neg (by rw [h.len]; omega)]
    rw [e1]
    refine (refAt_out R vL vW xs i W h.blk (ownsRow_from h.lrow (Nat.zero_le _)) hi).mono ?_
    rintro e w' ⟨rfl, hb⟩
    exact ⟨⟨_, _, _, [], rfl, Stay.all MHas.zero⟩, hb⟩

theorem duo_take (h : Duo hp Z X W P R n' q U vL vW xs) (hw : q.W.length ≤ 1000) (i : Int) :
    Calls Try.prog 14 #[.pointer (some ⟨R, 0, none⟩), .int .i64 i] W fun e w' => yAns (fun k => U k ∨ k = R ∨ X k) (q.at_ i).1 (q.at_ i).2 e w' ∧ ∃ vL' xs', Duo hp Z X w' P R n' (q.take i) U vL' vW xs' ∧ OnlyS (fun k => k = R) W w' ∧ ∀ k, vL'.ownBlock = some k → vL.ownBlock = some k ∨ W.heap.size ≤ k := by
  by_cases hi : 0 ≤ i ∧ i < xs.length
  · obtain ⟨j, rfl⟩ : ∃ j : Nat, i = (j : Int) := ⟨i.toNat, by omega⟩
    obtain ⟨x, hx⟩ : ∃ x, xs[j]? = some x := ⟨xs[j]'(by omega), List.getElem?_eq_getElem _⟩
    have hst := h.has x (List.mem_of_getElem? hx)
    have hL : q.L[j]? = some x.m := by rw [← h.ms, List.getElem?_map, hx]; rfl
    obtain ⟨h1, h2⟩ := List.getElem?_eq_some_iff.1 hL
    have e1 : q.at_ (j : Int) = (x.m, 0) := by
      unfold Nt.at_
      rw [dif_pos ⟨by omega, by simpa using h1⟩]
      simp [h2]
    have e2 : q.take (j : Int) = ⟨q.L.eraseIdx j, q.W⟩ := by
      unfold Nt.take
      rw [if_pos ⟨by omega, by simpa using h1⟩]
      rfl
    rw [e1, e2]
    refine (refTake_in R q vL vW xs j x W (h.rnet hw) hx).mono ?_
    rintro e w' ⟨rfl, ⟨vL', hb, hl⟩, ho⟩
    refine ⟨⟨_, _, _, _, rfl, hst.step ho (fun _ _ e => .inr (.inl e)) (fun _ _ e => e)⟩, vL', _, h.refr ho hb hl (fun y hy => .inl ((List.mem_append.1 hy).elim List.mem_of_mem_take List.mem_of_mem_drop)) ?_ rfl ?_, ho, fun k e => .inr (World.ownsRow.lt hl k e).1⟩
    · rw [List.map_append, List.map_take, List.map_drop, h.ms, List.eraseIdx_eq_take_drop_succ]
    · have := h.ll
      rw [List.length_append, List.length_take, List.length_drop]
      omega
  · have e1 : q.at_ i = (Mg.zero, 9) := by
      unfold Nt.at_
      rw [dif_neg (by rw [h.len]; omega)]
    have e2 : q.take i = q := by
      unfold Nt.take
      rw [if_neg (by rw [h.len]; omega)]
    rw [e1, e2]
    refine (refTake_out R q vL vW xs i W (h.rnet hw) hi).mono ?_
    rintro e w' ⟨rfl, hb⟩
    exact ⟨⟨_, _, _, [], rfl, Stay.all MHas.zero⟩, vL, xs, h.below hb, OnlyS.of_below hb fun _ hk _ => hk, fun _ e => .inl e⟩

theorem duo_twice (h : Duo hp Z X W P R n' q U vL vW xs) (hw : q.W.length ≤ 1000) (i : Int) :
    Calls Try.prog 18 #[.pointer (some ⟨R, 0, none⟩), .int .i64 i] W fun e w' => e = .returned (.int .i64 ((q.twice i).1 : Int)) ∧ ∃ vL' xs', Duo hp Z X w' P R n' (q.twice i).2 U vL' vW xs' ∧ OnlyS (fun k => k = R) W w' := by
  by_cases hi : 0 ≤ i ∧ i < xs.length
  · obtain ⟨j, rfl⟩ : ∃ j : Nat, i = (j : Int) := ⟨i.toNat, by omega⟩
    obtain ⟨x, hx⟩ : ∃ x, xs[j]? = some x := ⟨xs[j]'(by omega), List.getElem?_eq_getElem _⟩
    have hst := h.has x (List.mem_of_getElem? hx)
    have hL : q.L[j]? = some x.m := by rw [← h.ms, List.getElem?_map, hx]; rfl
    obtain ⟨h1, h2⟩ := List.getElem?_eq_some_iff.1 hL
    have e1 : q.twice (j : Int) = if 256 ≤ q.L.length then (7, q) else (0, ⟨q.L ++ [x.m], q.W⟩) := by
      unfold Nt.twice
      rw [dif_pos ⟨by omega, by simpa using h1⟩]
      simp [h2]
    by_cases hf : 256 ≤ q.L.length
    · rw [e1, if_pos hf]
      refine (refTwice_full R q vL vW xs j x W (h.rnet hw) hx (by rw [← h.len]; exact hf)).mono ?_
      rintro e w' ⟨rfl, hb⟩
      exact ⟨rfl, vL, xs, h.below hb, OnlyS.of_below hb fun _ hk _ => hk⟩
    · rw [e1, if_neg hf]
      refine (refTwice_yes R q vL vW xs j x W (h.rnet hw) hx (by rw [← h.len]; omega)).mono ?_
      rintro e w' ⟨rfl, ⟨vL', hb, hl⟩, ho⟩
      refine ⟨rfl, vL', _, h.refr ho hb hl (fun y hy => .inl ((List.mem_append.1 hy).elim id fun e => by rw [List.mem_singleton] at e; rw [e]; exact List.mem_of_getElem? hx)) (by rw [List.map_append, h.ms]; rfl) rfl ?_, ho⟩
      have := h.len
      rw [List.length_append]
      simp
      omega
  · have e1 : q.twice i = (9, q) := by
      unfold Nt.twice
      rw [dif_neg (by rw [h.len]; omega)]
    rw [e1]
    refine (refTwice_out R q vL vW xs i W (h.rnet hw) hi).mono ?_
    rintro e w' ⟨rfl, hb⟩
    exact ⟨rfl, vL, xs, h.below hb, OnlyS.of_below hb fun _ hk _ => hk⟩

theorem duo_block (h : Duo hp Z X W P R n' q U vL vW xs) (hw : q.W.length ≤ 1000) (a b : Nat) (yes : Bool) :
    Calls Try.prog 20 #[.pointer (some ⟨R, 0, none⟩), .int .u64 (a : Int), .int .u64 (b : Int), .bool yes] W fun e w' => e = .returned (.tuple #[]) ∧ ∃ vW', Duo hp Z X w' P R n' (q.block a b yes) U vL vW' xs ∧ OnlyS (fun k => k = R) W w' := by
  refine (refBlock_any R vL vW q.W a b yes W h.blk (WRow.ways h.wrow) hw).mono ?_
  rintro e w' ⟨rfl, v', hb, hr, ho⟩
  exact ⟨rfl, v', h.refw (q' := q.block a b yes) ho hb hr rfl, ho⟩
end
end Go.Proofs.Ytgbhfolbkgibfaa

