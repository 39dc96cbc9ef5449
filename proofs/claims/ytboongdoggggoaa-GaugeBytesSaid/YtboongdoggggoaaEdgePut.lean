/- edge.Put and the reference's: a float's bytes, in new memory. -/
import Derived.Test.YtboongdoggggoaaEdgeSame
import Derived.Test.YtboongdoggggoaaBinMath
import Derived.Test.YtboongdoggggoaaBys
namespace Go.Proofs.Ytboongdoggggoaa
set_option maxRecDepth 20000
open Go.RowKit EdgeMath BinMath

theorem put_made (m : Nat) : (madeCells (Value.int IntKind.u8 0).cells (m * 1)).toList = List.replicate m (.int .u8 0) := by
  rw [Nat.mul_one]
  refine List.ext_getElem (by simp [madeCells]) fun j h1 h2 => ?_
  simp [madeCells, Value.cells, Nat.mod_one]

/-- The row of the loop: the bytes that are there, and the places that are still 0. -/
def putAt (x i : Nat) : List UInt8 := (be 8 x).take i ++ List.replicate (8 - i) 0

theorem putAt_length (x i : Nat) (hi : i ≤ 8) : (putAt x i).length = 8 := by
  simp [putAt, be_length]
  omega

theorem be_at (k x : Nat) : ∀ i, i < k → (be k x)[i]? = some (UInt8.ofNat (x / 256 ^ (k - 1 - i) % 256)) := by
  induction k with
  | zero => intro i h; omega
  | succ k ih =>
    intro i h
    cases i with
    | zero => simp [be]
    | succ i =>
      rw [be, List.getElem?_cons_succ, ih i (by omega)]
      congr 5
      omega

theorem putAt_set (x i : Nat) (hi : i < 8) : (putAt x i).set i (UInt8.ofNat (x / 256 ^ (7 - i) % 256)) = putAt x (i + 1) := by
  have hb := be_at 8 x i hi
  have ht : ((be 8 x).take i).length = i := by rw [List.length_take, be_length]; omega
  unfold putAt
  rw [List.take_add_one, hb, List.set_append_right _ _ (by omega), ht, Nat.sub_self, show 8 - i = 8 - (i + 1) + 1 by omega, List.replicate_succ, List.set_cons_zero]
  simp

theorem byte_one (w : World) (x : Value) : ∀ (j : Nat) (u : Value), [x][j]? = some u → (w.alloc (.cells #[x] 5)).cell? ((⟨w.heap.size, 0, none⟩ : Addr).add j) = some u := by
  intro j u h
  cases j with
  | zero => simp at h; subst h; simp [Addr.add, World.cell?_alloc_at]
  | succ j => simp at h

theorem put_grown {w1 : World} {B : Nat} {v' : Value} (i y : Nat) (z : Int) (hi : i < 8) (hz : z = ((y / 256 ^ (7 - i) % 256 % 256 : Nat) : Int))
    (h : w1.ownsRow B 5 1 v' (((be 8 y).take i).length + 1) (((be 8 y).take i).map bv ++ [.int .u8 z])) : Row w1 B v' ((be 8 y).take (i + 1)) := by
  have ht : ((be 8 y).take i).length = i := by rw [List.length_take, be_length]; omega
  have ht' : ((be 8 y).take (i + 1)).length = i + 1 := by rw [List.length_take, be_length]; omega
  unfold Row
  rw [ht', List.take_add_one, be_at 8 y i hi, List.map_append]
  rw [ht] at h
  simp only [Option.toList_some, List.map_cons, List.map_nil, bv_of]
  rw [show 8 - 1 - i = 7 - i by omega, ← hz]
  exact h

set_option maxRecDepth 100000 in
set_option maxHeartbeats 1000000 in
theorem put_any (x : Nat) (w : World) (hx : x < 18446744073709551616) :
    Calls Try.prog 66 #[.float .f64 x] w fun e w' => ∃ v, e = .returned v ∧ Row w' w.heap.size v (be 8 (canon x)) ∧ Below w.heap.size w w' := by
  obtain ⟨i0, hi, hz0, hz1, hz2⟩ := info_parts info_byte
  obtain ⟨y, hy⟩ : ∃ y, y = canon x := ⟨_, rfl⟩
  have hyb : y < 18446744073709551616 := by rw [hy]; unfold canon; split <;> omega
  rw [← hy]
  have HY := Lib.hid hy
  clear hy
  have hb := run_bits
  go_enter Try.func66, Try.ntmps66
  go_wp2_with (at_make; refine wpList_make_full _ rfl _ _ 22 rfl w.heap.size 5 i0 (.int .u8 0) 1 Try.underlying22 hi hz0 hz1 _ _ _ _ 8 rfl rfl (by omega) (by omega) (by rw [hz2]; omega) (by unfold maxLen; omega) (Nat.le_refl _) ?_; intro w1 hown hgrow; rw [put_made] at hown; (have HO := Lib.hid hown); (have HG := Lib.hid hgrow); clear hown hgrow)
  · have h : (FloatKind.f64.format.order x x != some Ordering.eq) = true := by assumption
    have e : (9221120237041090560 : Int) = (y : Int) := by
      have hn : rk x = 9218868437227405313 := by simpa only [nan_test, decide_eq_true_eq] using h
      have := HY.out
      unfold canon at this
      rw [if_pos hn] at this
      omega
    rw [e]
    clear e h
    go_loopw [14] (fun s14 wr => ∃ i : Nat, i ≤ 8 ∧ s14 = .int .i64 (i : Int) ∧ Row wr w.heap.size (.slice (some ⟨w.heap.size, 0, none⟩) 8 8) (putAt y i) ∧ Below w.heap.size w wr) (fun s14 _ => (8 - intOf s14).toNat)
    case atStart =>
      refine ⟨0, by omega, rfl, ?_, ?_⟩
      · have h := HO.out
        unfold Row
        rw [putAt_length _ _ (by omega)]
        simpa [putAt, bv] using h
      · exact (Below.refl _ _).grown HG.out (Nat.le_refl _) (by simp)
    case round =>
      obtain ⟨i, hi', rfl, hrow, hbel⟩ := hrel
      have HR := Lib.hid hrow
      have HB := Lib.hid hbel
      clear hbel
      by_cases h8 : i = 8
      · subst h8
        clear hrow
        go_wp2
        go_ret
        refine ⟨_, rfl, ?_, HB.out⟩
        have h := HR.out
        have e : putAt y 8 = be 8 y := by unfold putAt; rw [List.take_of_length_le (by rw [be_length]; omega)]; simp
        rw [e] at h
        exact h
      · have hcell := row_cell hrow i (by rw [putAt_length _ _ hi']; omega)
        obtain ⟨⟨z, hz⟩, hfr⟩ := hcell
        have hst : ∀ z : Int, z = ((y / 256 ^ (7 - i) % 256 % 256 : Nat) : Int) → Row (wr.setCell ⟨w.heap.size, i, none⟩ (.int .u8 z)) w.heap.size (.slice (some ⟨w.heap.size, 0, none⟩) 8 8) (putAt y (i + 1)) := by
          intro z hz
          have h := row_set hrow i (UInt8.ofNat (y / 256 ^ (7 - i) % 256))
          rw [putAt_set y i (by omega), bv_of] at h
          rw [hz]
          exact h
        have HS := Lib.hid hst
        clear hst hrow
        have hc : i = 0 ∨ i = 1 ∨ i = 2 ∨ i = 3 ∨ i = 4 ∨ i = 5 ∨ i = 6 ∨ i = 7 := by omega
        clear hi' h8
        rcases hc with rfl | rfl | rfl | rfl | rfl | rfl | rfl | rfl
        all_goals
          go_wp2
          go_roundw
          case rel =>
            refine ⟨_, ?_, rfl, HS.out _ (by first | omega | (simp; done) | (simp; omega)), (HB.out).setCell (by simp) _⟩
            decide
          case measure => simp [intOf]
  · have h : (FloatKind.f64.format.order x x != some Ordering.eq) = false := by assumption
    have e : (x : Int) = (y : Int) := by
      have hn : ¬ rk x = 9218868437227405313 := by simpa only [nan_test, decide_eq_false_iff_not] using h
      have := HY.out
      unfold canon at this
      rw [if_neg hn] at this
      omega
    rw [e]
    clear e h
    go_loopw [14] (fun s14 wr => ∃ i : Nat, i ≤ 8 ∧ s14 = .int .i64 (i : Int) ∧ Row wr w.heap.size (.slice (some ⟨w.heap.size, 0, none⟩) 8 8) (putAt y i) ∧ Below w.heap.size w wr) (fun s14 _ => (8 - intOf s14).toNat)
    case atStart =>
      refine ⟨0, by omega, rfl, ?_, ?_⟩
      · have h := HO.out
        unfold Row
        rw [putAt_length _ _ (by omega)]
        simpa [putAt, bv] using h
      · exact (Below.refl _ _).grown HG.out (Nat.le_refl _) (by simp)
    case round =>
      obtain ⟨i, hi', rfl, hrow, hbel⟩ := hrel
      have HR := Lib.hid hrow
      have HB := Lib.hid hbel
      clear hbel
      by_cases h8 : i = 8
      · subst h8
        clear hrow
        go_wp2
        go_ret
        refine ⟨_, rfl, ?_, HB.out⟩
        have h := HR.out
        have e : putAt y 8 = be 8 y := by unfold putAt; rw [List.take_of_length_le (by rw [be_length]; omega)]; simp
        rw [e] at h
        exact h
      · have hcell := row_cell hrow i (by rw [putAt_length _ _ hi']; omega)
        obtain ⟨⟨z, hz⟩, hfr⟩ := hcell
        have hst : ∀ z : Int, z = ((y / 256 ^ (7 - i) % 256 % 256 : Nat) : Int) → Row (wr.setCell ⟨w.heap.size, i, none⟩ (.int .u8 z)) w.heap.size (.slice (some ⟨w.heap.size, 0, none⟩) 8 8) (putAt y (i + 1)) := by
          intro z hz
          have h := row_set hrow i (UInt8.ofNat (y / 256 ^ (7 - i) % 256))
          rw [putAt_set y i (by omega), bv_of] at h
          rw [hz]
          exact h
        have HS := Lib.hid hst
        clear hst hrow
        have hc : i = 0 ∨ i = 1 ∨ i = 2 ∨ i = 3 ∨ i = 4 ∨ i = 5 ∨ i = 6 ∨ i = 7 := by omega
        clear hi' h8
        rcases hc with rfl | rfl | rfl | rfl | rfl | rfl | rfl | rfl
        all_goals
          go_wp2
          go_roundw
          case rel =>
            refine ⟨_, ?_, rfl, HS.out _ (by first | omega | (simp; done) | (simp; omega)), (HB.out).setCell (by simp) _⟩
            decide
          case measure => simp [intOf]

theorem refput_any (x : Nat) (w : World) (hx : x < 18446744073709551616) :
    Calls Try.prog 70 #[.float .f64 x] w fun e w' => ∃ v, e = .returned v ∧ Row w' w.heap.size v (be 8 (canon x)) ∧ Below w.heap.size w w' := by
  obtain ⟨i0, hi, hz0, hz1, hz2⟩ := info_parts info_byte
  obtain ⟨y, hy⟩ : ∃ y, y = canon x := ⟨_, rfl⟩
  have hyb : y < 18446744073709551616 := by rw [hy]; unfold canon; split <;> omega
  rw [← hy]
  have hB : ∀ W, Calls Try.prog 103 #[.float .f64 x] W fun e w' => e = .returned (.int .u64 (y : Int)) ∧ W = w' := by rw [hy]; exact refbits_any x
  have HBt := Lib.hid hB
  clear hy hB
  go_enter Try.func70, Try.ntmps70
  go_wp2
  go_loopw [3, 4] (fun s3 s4 wr => ∃ i : Nat, i ≤ 8 ∧ s4 = .int .i64 (7 - (i : Int)) ∧ Row wr w.heap.size s3 ((be 8 y).take i) ∧ Below w.heap.size w wr) (fun _ s4 _ => (intOf s4 + 1).toNat)
  case atStart => exact ⟨0, by omega, rfl, World.ownsRow_nil _ _ _ _, Below.refl _ _⟩
  case round =>
    obtain ⟨i, hi', rfl, hrow, hbel⟩ := hrel
    have HR := Lib.hid hrow
    have HB := Lib.hid hbel
    clear hbel hrow
    by_cases h8 : i = 8
    · subst h8
      go_wp2
      go_ret
      refine ⟨_, rfl, ?_, HB.out⟩
      have h := HR.out
      rw [List.take_of_length_le (by rw [be_length]; omega)] at h
      exact h
    · have hc : i = 0 ∨ i = 1 ∨ i = 2 ∨ i = 3 ∨ i = 4 ∨ i = 5 ∨ i = 6 ∨ i = 7 := by omega
      clear hi' h8
      rcases hc with rfl | rfl | rfl | rfl | rfl | rfl | rfl | rfl
      all_goals
        go_wp2_with fail
        refine (HBt.out _).mono ?_
        rintro e w' ⟨rfl, rfl⟩
        go_wp2_with (at_builtin; refine wpList_append_own _ rfl _ _ 22 rfl w.heap.size 5 i0 (.int .u8 0) 1 1 Try.underlying22 hi hz0 hz1 hz2 rfl (by decide) _ _ _ rfl (World.ownsRow.alloc HR.out _) ⟨wr.heap.size, 0, none⟩ 1 1 [_] rfl rfl (byte_one _ _) (by simp [Value.oneCell']) (by rw [List.length_take, be_length]; unfold maxLen; omega) (by rw [List.length_take, be_length]; omega) (by have := HB.out.size; simp; omega) ?_; intro v' w1 hown1 hgrow1 hnil1; (have HO1 := Lib.hid hown1); (have HG1 := Lib.hid hgrow1); clear hown1 hgrow1 hnil1)
        go_roundw
        case rel =>
          refine ⟨_, ?_, ?_, put_grown _ y _ (by decide) ?_ HO1.out, ?_⟩
          · decide
          · exact congrArg (Value.int .i64) (by omega)
          · first | omega | (simp; done) | (simp; omega)
          · refine Below.grown (HB.out.alloc HB.out.size _) HG1.out (by have := HB.out.size; simp; omega) (fun k hk => ?_)
            exact (World.ownsRow.lt HR.out k hk).1
        case measure => simp [intOf]

end Go.Proofs.Ytboongdoggggoaa
