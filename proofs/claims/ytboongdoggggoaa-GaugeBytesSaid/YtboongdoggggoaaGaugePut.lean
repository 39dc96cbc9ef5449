/- gauge's Put and the reference's: a gauge's bytes. -/
import Derived.Test.YtboongdoggggoaaGaugeSpread
import Derived.Test.YtboongdoggggoaaEdgePut
import Derived.Test.YtboongdoggggoaaBinNum
import Derived.Test.YtboongdoggggoaaBinRef
import Derived.Test.YtboongdoggggoaaFacts
namespace Go.Proofs.Ytboongdoggggoaa
set_option maxRecDepth 20000
open Go.RowKit EdgeMath BinMath

def EdgeMath.G.fls (a : G) : List Nat := [a.m, a.s, a.lo, a.hi]

/-- The bytes of a gauge's number and of its first i floats. -/
def EdgeMath.G.txt (a : G) (i : Nat) : List UInt8 := numL a.n ++ (a.fls.take i).flatMap fun x => be 8 (canon x)

theorem txt_zero (a : G) : a.txt 0 = numL a.n := by simp [G.txt]

theorem txt_step (a : G) (i : Nat) (hi : i < 4) (y : Nat) (hy : y = a.fls[i]'(by simpa [G.fls] using hi)) : a.txt (i + 1) = a.txt i ++ be 8 (canon y) := by
  unfold G.txt
  rw [List.take_succ_eq_append_getElem (by simpa [G.fls] using hi), List.flatMap_append, ← List.append_assoc, hy]
  simp

theorem txt_length (a : G) : ∀ i, i ≤ 4 → (a.txt i).length = (numL a.n).length + 8 * i := by
  intro i
  induction i with
  | zero => intro _; simp [G.txt]
  | succ i ih =>
    intro h
    rw [txt_step a i (by omega) _ rfl, List.length_append, ih (by omega), be_length]
    omega

theorem fls_lt {a : G} (h : a.Ok) (i : Nat) (hi : i < 4) : a.fls[i]'(by simpa [G.fls] using hi) < 18446744073709551616 := by
  match i, hi with
  | 0, _ => exact h.m
  | 1, _ => exact h.s
  | 2, _ => exact h.lo
  | 3, _ => exact h.hi

/-- A block that holds the floats. -/
def FBlk (W : World) (g : Nat) (a : G) : Prop := W.heap[g]? = some (.cells #[.float .f64 a.m, .float .f64 a.s, .float .f64 a.lo, .float .f64 a.hi] 52 (0, 0))

theorem FBlk.cell {W : World} {g : Nat} {a : G} (h : FBlk W g a) (i : Nat) (hi : i < 4) : W.cell? ⟨g, i, none⟩ = some (.float .f64 (a.fls[i]'(by simpa [G.fls] using hi))) := by
  unfold FBlk at h
  match i, hi with
  | 0, _ => simp [World.cell?, h, G.fls]
  | 1, _ => simp [World.cell?, h, G.fls]
  | 2, _ => simp [World.cell?, h, G.fls]
  | 3, _ => simp [World.cell?, h, G.fls]

theorem FBlk.below {W W' : World} {g : Nat} {a : G} (h : FBlk W g a) (hb : Below W.heap.size W W') : FBlk W' g a := by
  unfold FBlk at *
  rw [hb.block g (Array.getElem?_eq_some_iff.1 h).1]
  exact h

theorem row_apart {W : World} {B g : Nat} {v : Value} {l : List UInt8} {a : G} (h : Row W B v l) (hg : FBlk W g a) : v.ownBlock ≠ some g := by
  rcases h.2 with ⟨rfl, _⟩ | ⟨k, cap, cur, rfl, hB, hk, _⟩
  · simp [Value.ownBlock]
  · simp only [Value.ownBlock]
    intro e
    obtain rfl : k = g := by simpa using e
    unfold FBlk at hg
    rw [hg] at hk
    have : (52 : Nat) = 5 := by
      have h := Option.some.inj hk
      injection h
    exact absurd this (by decide)

theorem FBlk.grown {W W' : World} {B g : Nat} {v : Value} {l : List UInt8} {a : G} (h : FBlk W g a) (hr : Row W B v l) (hg : W.grownBy W' v.ownBlock) : FBlk W' g a := by
  have h1 := row_apart hr h
  unfold FBlk at *
  rw [hg.block g (Array.getElem?_eq_some_iff.1 h).1 (fun e => h1 e.symm)]
  exact h

/-- 'b = append(b, x...)' on a row of the call's own. -/
theorem put_append {w w2 : World} {B : Nat} {v x : Value} {l l' : List UInt8} (hB : B ≤ w2.heap.size) (hbel : Below B w w2) (hr : Row w2 B v l) (hx : Bys w2 x l') (hlen : l.length + l'.length ≤ 140737488355328) :
    ∃ v' w', (Builtin.append_ #[22, 22] 22 #[v, x]).run Try.prog w2 = .ok v' w' ∧ Row w' B v' (l ++ l') ∧ Below B w w' ∧ w2.grownBy w' v.ownBlock := by
  obtain ⟨v', w', h1, h2, h3⟩ := append_bys hB hr hx hlen
  refine ⟨v', w', h1, h2, hbel.grown h3 hB fun k hk => ?_, h3⟩
  exact (World.ownsRow.lt hr k hk).1

theorem Row.lower {w : World} {B B' : Nat} {v : Value} {l : List UInt8} (h : Row w B v l) (hB : B' ≤ B) : Row w B' v l := by
  obtain ⟨h1, h2⟩ := h
  refine ⟨h1, h2.elim .inl fun ⟨g, cap, cur, e, hg, r⟩ => .inr ⟨g, cap, cur, e, Nat.le_trans hB hg, r⟩⟩

theorem kept_cell {w w1 : World} {cs : Array Value} {t : TypeId} (hb : Below (w.alloc (.cells cs t)).heap.size (w.alloc (.cells cs t)) w1) (i : Nat) (v : Value) (h : cs[i]? = some v) : w1.cell? ⟨w.heap.size, i, none⟩ = some v := by
  rw [hb.cell (p := ⟨w.heap.size, i, none⟩) (by simp), World.cell?_alloc_at (hn := rfl), h]

set_option maxRecDepth 100000 in
set_option maxHeartbeats 1000000 in
theorem gput_any (a : G) (w : World) (ha : a.Ok) :
    Calls Try.prog 28 #[.agg a.cells] w fun e w' => ∃ v, e = .returned v ∧ Row w' w.heap.size v (a.txt 4) ∧ Below w.heap.size w w' := by
  have HA := Lib.hid ha
  have hnl : (numL a.n).length ≤ 9 := by rw [numL_length]; have := nb_le a.n ha.n; omega
  have hn := ha.n
  have HNL := Lib.hid hnl
  clear ha hnl
  have he : a.cells = #[.int .u64 (a.n : Int), .float .f64 a.m, .float .f64 a.s, .float .f64 a.lo, .float .f64 a.hi] := rfl
  have hF : ∀ W : World, FBlk (W.alloc (.cells #[.float .f64 a.m, .float .f64 a.s, .float .f64 a.lo, .float .f64 a.hi] 52)) W.heap.size a := fun W => heap_alloc_new W _
  have HF := Lib.hid hF
  rw [he]
  clear he hF
  go_enter Try.func28, Try.ntmps28
  go_wp2_with fail
  refine (num_any a.n _ hn).mono ?_
  rintro e w1 ⟨v, rfl, hrow, hbel⟩
  have hs1 : w.heap.size + 1 ≤ w1.heap.size := by have := hbel.size; simpa using this
  have hc0 := kept_cell hbel 0 _ rfl
  have hc1 := kept_cell hbel 1 _ rfl
  have hc2 := kept_cell hbel 2 _ rfl
  have hc3 := kept_cell hbel 3 _ rfl
  have hc4 := kept_cell hbel 4 _ rfl
  have HRw := Lib.hid (Row.lower (B' := w.heap.size) hrow (by simp))
  have HBw := Lib.hid (show Below w.heap.size w w1 from ((Below.refl _ _).alloc (Nat.le_refl _) _).trans (hbel.mono (by simp)))
  clear hrow hbel
  go_wp2
  clear hc0 hc1 hc2 hc3 hc4
  go_loopw [3, 19] (fun s3 s19 wr => ∃ i : Nat, i ≤ 4 ∧ s19 = .int .i64 (i : Int) ∧ Row wr w.heap.size s3 (a.txt i) ∧ FBlk wr w1.heap.size a ∧ Below w.heap.size w wr) (fun _ s19 _ => 4 - (intOf s19).toNat)
  case atStart =>
    refine ⟨0, by omega, rfl, ?_, HF.out w1, ?_⟩
    · rw [txt_zero]
      exact (HRw.out.below ((Below.refl _ _).alloc (Nat.le_refl _) _))
    · exact HBw.out.alloc (by omega) _
  case round =>
    obtain ⟨i, hi, rfl, hrow, hblk, hbel⟩ := hrel
    have HR := Lib.hid hrow
    have HK := Lib.hid hblk
    have HB := Lib.hid hbel
    clear hrow hbel
    by_cases hlt : i < 4
    · have hcell := hblk.cell i hlt
      obtain ⟨y, hy⟩ : ∃ y, y = a.fls[i]'(by simpa [G.fls] using hlt) := ⟨_, rfl⟩
      have hyb : y < 18446744073709551616 := by rw [hy]; exact fls_lt HA.out i hlt
      have htx := txt_step a i hlt y hy
      have htl := txt_length a i (by omega)
      rw [← hy] at hcell
      have HT := Lib.hid htx
      have HTl := Lib.hid htl
      clear hy htx htl hblk
      go_wp2_with fail
      refine (put_any y _ hyb).mono ?_
      rintro e w2 ⟨v2, rfl, hr2, hb2⟩
      have HB2 := Lib.hid (HB.out.trans (hb2.mono HB.out.size))
      have HR2 := Lib.hid (HR.out.below hb2)
      have HK2 := Lib.hid (HK.out.below hb2)
      have HA2 := Lib.hid (put_append HB2.out.size HB2.out HR2.out hr2.bys (by rw [HTl.out, be_length]; have := HNL.out; omega))
      clear hr2 hb2 hyb HR HK HB
      go_wp2_with (at_builtin; refine wpList_append_by rfl _ _ _ rfl _ _ rfl rfl _ HA2.out ?_; intro v3 w3 hR3; (have H3 := Lib.hid hR3); clear hR3)
      go_roundw
      case rel =>
        refine ⟨i + 1, by omega, by go_num, ?_, HK2.out.grown HR2.out H3.out.2.2, H3.out.2.1⟩
        rw [HT.out]
        exact H3.out.1
      case measure => simp [intOf]; omega
    · obtain rfl : i = 4 := by omega
      clear hblk
      go_wp2
      go_ret
      exact ⟨_, rfl, HR.out, HB.out⟩

set_option maxRecDepth 100000 in
set_option maxHeartbeats 1000000 in
theorem refgput_any (a : G) (w : World) (ha : a.Ok) :
    Calls Try.prog 31 #[.agg a.cells] w fun e w' => ∃ v, e = .returned v ∧ Row w' w.heap.size v (a.txt 4) ∧ Below w.heap.size w w' := by
  have HA := Lib.hid ha
  have hnl : (numL a.n).length ≤ 9 := by rw [numL_length]; have := nb_le a.n ha.n; omega
  have hn := ha.n
  have HNL := Lib.hid hnl
  clear ha hnl
  have he : a.cells = #[.int .u64 (a.n : Int), .float .f64 a.m, .float .f64 a.s, .float .f64 a.lo, .float .f64 a.hi] := rfl
  have hF : ∀ W : World, FBlk (W.alloc (.cells #[.float .f64 a.m, .float .f64 a.s, .float .f64 a.lo, .float .f64 a.hi] 52)) W.heap.size a := fun W => heap_alloc_new W _
  have HF := Lib.hid hF
  rw [he]
  clear he hF
  go_enter Try.func31, Try.ntmps31
  go_wp2_with fail
  refine (refnum_any a.n _ hn).mono ?_
  rintro e w1 ⟨v, rfl, hrow, hbel⟩
  have hs1 : w.heap.size + 1 ≤ w1.heap.size := by have := hbel.size; simpa using this
  have hc0 := kept_cell hbel 0 _ rfl
  have hc1 := kept_cell hbel 1 _ rfl
  have hc2 := kept_cell hbel 2 _ rfl
  have hc3 := kept_cell hbel 3 _ rfl
  have hc4 := kept_cell hbel 4 _ rfl
  have HRw := Lib.hid (Row.lower (B' := w.heap.size) hrow (by simp))
  have HBw := Lib.hid (show Below w.heap.size w w1 from ((Below.refl _ _).alloc (Nat.le_refl _) _).trans (hbel.mono (by simp)))
  clear hrow hbel
  go_wp2
  clear hc0 hc1 hc2 hc3 hc4
  go_loopw [3, 5] (fun s3 s5 wr => ∃ i : Nat, i ≤ 4 ∧ s5 = .int .i64 (i : Int) ∧ Row wr w.heap.size s3 (a.txt i) ∧ FBlk wr w1.heap.size a ∧ Below w.heap.size w wr) (fun _ s5 _ => 4 - (intOf s5).toNat)
  case atStart =>
    refine ⟨0, by omega, rfl, ?_, HF.out w1, ?_⟩
    · rw [txt_zero]
      exact (HRw.out.below ((Below.refl _ _).alloc (Nat.le_refl _) _))
    · exact HBw.out.alloc (by omega) _
  case round =>
    obtain ⟨i, hi, rfl, hrow, hblk, hbel⟩ := hrel
    have HR := Lib.hid hrow
    have HK := Lib.hid hblk
    have HB := Lib.hid hbel
    clear hrow hbel
    by_cases hlt : i < 4
    · have hcell := hblk.cell i hlt
      obtain ⟨y, hy⟩ : ∃ y, y = a.fls[i]'(by simpa [G.fls] using hlt) := ⟨_, rfl⟩
      have hyb : y < 18446744073709551616 := by rw [hy]; exact fls_lt HA.out i hlt
      have htx := txt_step a i hlt y hy
      have htl := txt_length a i (by omega)
      rw [← hy] at hcell
      have HT := Lib.hid htx
      have HTl := Lib.hid htl
      clear hy htx htl hblk
      go_wp2_with fail
      refine (refput_any y _ hyb).mono ?_
      rintro e w2 ⟨v2, rfl, hr2, hb2⟩
      have HB2 := Lib.hid (HB.out.trans (hb2.mono HB.out.size))
      have HR2 := Lib.hid (HR.out.below hb2)
      have HK2 := Lib.hid (HK.out.below hb2)
      have HA2 := Lib.hid (put_append HB2.out.size HB2.out HR2.out hr2.bys (by rw [HTl.out, be_length]; have := HNL.out; omega))
      clear hr2 hb2 hyb HR HK HB
      go_wp2_with (at_builtin; refine wpList_append_by rfl _ _ _ rfl _ _ rfl rfl _ HA2.out ?_; intro v3 w3 hR3; (have H3 := Lib.hid hR3); clear hR3)
      go_roundw
      case rel =>
        refine ⟨i + 1, by omega, by go_num, ?_, HK2.out.grown HR2.out H3.out.2.2, H3.out.2.1⟩
        rw [HT.out]
        exact H3.out.1
      case measure => simp [intOf]; omega
    · obtain rfl : i = 4 := by omega
      clear hblk
      go_wp2
      go_ret
      exact ⟨_, rfl, HR.out, HB.out⟩

end Go.Proofs.Ytboongdoggggoaa
