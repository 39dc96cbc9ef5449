/- BinOrder: the walk. -/
import Derived.Test.YtdibjllacjcniaaBinNum
import Derived.Test.YtdibjllacjcniaaFrame
import Derived.Lib.BufferRead
namespace Go.Proofs.Ytdibjllacjcniaa
open Go.RowKit BinMath

/-- 'string(v)' of a slice of the call's own. -/
theorem conv_row {w : World} {B : Nat} {v : Value} {l : List UInt8} (h : Row w B v l) : (convert 23 9 v).run Try.prog w = .ok (.string ⟨l.toArray⟩) w := by
  have h0 := h
  rcases h.2 with ⟨rfl, hl⟩ | ⟨g, cap, cur, rfl, hB, hg, hn, hm, hs, ht⟩
  · obtain rfl : l = [] := List.eq_nil_of_length_eq_zero hl
    exact Lib.run_convert_nil_bytes w _ _ _ 0 Try.underlying23 Try.underlying5 Try.underlying9
  · refine run_convert_bytes_back w _ _ _ ⟨g, 0, none⟩ cap l Try.underlying23 Try.underlying5 Try.underlying9 fun j hj => ?_
    have := h0.cellAt j (by omega)
    rw [show (⟨g, 0, none⟩ : Addr).add j = ⟨g, j, none⟩ by by_cases h : j = 0 <;> simp [Addr.add, h]]
    simpa [hj, bv] using this

/-- bin.Num, as a text. -/
theorem num_str (n : Nat) (X : ByteArray) (w : World) (hn : n < 18446744073709551616) (hX : X = ⟨(numL n).toArray⟩) :
    Calls Try.prog 9 #[.int .u64 n] w fun e w' => ∃ v, e = .returned v ∧ (convert 23 9 v).run Try.prog w' = .ok (.string X) w' ∧ Below w.heap.size w w' := by
  refine (num_any n w hn).mono fun e w' ⟨v, h1, h2, h3⟩ => ⟨v, h1, ?_, h3⟩
  rw [hX]
  exact conv_row h2

set_option maxHeartbeats 400000 in
theorem lays_any (w : World) : Calls Try.prog 8 #[] w fun e w' => e = .returned (.bool true) ∧ Below w.heap.size w w' := by
  go_enter Try.func8, Try.ntmps8
  go_wp2_with fail
  refine (num_str 256 ⟨#[2, 1, 0]⟩ _ (by omega) (by decide +kernel)).mono ?_
  rintro e w1 ⟨v, rfl, hcv, hb⟩
  have HB := Lib.hid hb
  clear hb
  go_wp2
  go_ret
  exact ⟨rfl, HB.out⟩

/-- What the walk of BinOrder is told of two texts. -/
structure Two (a b : Nat) (X Y : ByteArray) : Prop where
  eql : (X.toList == Y.toList) = decide (a = b)
  lss : Op.bytesLess X.toList Y.toList = decide (a < b)
  pre : a ≠ b → X.size ≤ Y.size → ((Y.extract 0 X.size).toList == X.toList) = false
  erp : a ≠ b → Y.size ≤ X.size → ((X.extract 0 Y.size).toList == Y.toList) = false

theorem two (a b : Nat) (ha : a < 18446744073709551616) (hb : b < 18446744073709551616) : Two a b ⟨(numL a).toArray⟩ ⟨(numL b).toArray⟩ := by
  have pre : ∀ a b : Nat, a < 18446744073709551616 → b < 18446744073709551616 → a ≠ b → (((⟨(numL b).toArray⟩ : ByteArray).extract 0 (⟨(numL a).toArray⟩ : ByteArray).size).toList == (⟨(numL a).toArray⟩ : ByteArray).toList) = false := by
    intro a b ha hb hne
    rw [beq_eq_false_iff_ne, ByteArray.toList_mk, ByteArray.toList_eq]
    intro h
    refine hne (numL_prefix a b ha hb ?_)
    have hs : (⟨(numL a).toArray⟩ : ByteArray).size = (numL a).length := by simp [ByteArray.size]
    rw [hs] at h
    rw [Lib.extract_data] at h
    simpa using h
  refine ⟨?_, ?_, fun h _ => pre a b ha hb h, fun h _ => pre b a hb ha (Ne.symm h)⟩
  · rw [ByteArray.toList_mk, ByteArray.toList_mk, Bool.eq_iff_iff]
    simp only [beq_iff_eq, decide_eq_true_eq]
    exact ⟨numL_inj a b ha hb, fun h => by rw [h]⟩
  · rw [ByteArray.toList_mk, ByteArray.toList_mk]
    exact less_numL a b ha hb

set_option maxHeartbeats 1000000 in
theorem order_eq (a b : Nat) (X Y : ByteArray) (w : World) (ha : a < 18446744073709551616) (hb : b < 18446744073709551616) (hab : ((a : Int) == (b : Int)) = true) (he : (X.toList == Y.toList) = true) (HX : Hid (X = ⟨(numL a).toArray⟩)) (HY : Hid (Y = ⟨(numL b).toArray⟩)) :
    Calls Try.prog 6 #[.int .u64 a, .int .u64 b] w fun e w' => e = .returned (.bool true) ∧ Below w.heap.size w w' := by
  go_enter Try.func6, Try.ntmps6
  go_wp2_with fail
  refine (lays_any _).mono ?_
  rintro e w1 ⟨rfl, hb1⟩
  have B1 := Lib.hid hb1; clear hb1
  go_wp2_with fail
  refine (num_str a X _ ha HX.out).mono ?_
  rintro e w2 ⟨v, rfl, hcv, hb2⟩
  have B2 := Lib.hid hb2; clear hb2
  go_wp2_with fail
  refine (num_str b Y _ hb HY.out).mono ?_
  rintro e w3 ⟨u, rfl, hcu, hb3⟩
  have B3 := Lib.hid hb3; clear hb3
  go_wp2
  go_ret
  exact ⟨rfl, B1.out.trans ((B2.out.mono B1.out.size).trans (B3.out.mono (Nat.le_trans B1.out.size B2.out.size)))⟩

set_option maxHeartbeats 1000000 in
theorem order_lt_a (a b : Nat) (X Y : ByteArray) (w : World) (ha : a < 18446744073709551616) (hb : b < 18446744073709551616) (hab : ((a : Int) == (b : Int)) = false) (hlt : a < b) (hl : Op.bytesLess X.toList Y.toList = true) (hs : X.size < Y.size) (hp : ((Y.extract 0 X.size).toList == X.toList) = false) (_hsX : X.size ≤ 9) (_hsY : Y.size ≤ 9) (HX : Hid (X = ⟨(numL a).toArray⟩)) (HY : Hid (Y = ⟨(numL b).toArray⟩)) :
    Calls Try.prog 6 #[.int .u64 a, .int .u64 b] w fun e w' => e = .returned (.bool true) ∧ Below w.heap.size w w' := by
  go_enter Try.func6, Try.ntmps6
  go_wp2_with fail
  refine (lays_any _).mono ?_
  rintro e w1 ⟨rfl, hb1⟩
  have B1 := Lib.hid hb1; clear hb1
  go_wp2_with fail
  refine (num_str a X _ ha HX.out).mono ?_
  rintro e w2 ⟨v, rfl, hcv, hb2⟩
  have B2 := Lib.hid hb2; clear hb2
  go_wp2_with fail
  refine (num_str b Y _ hb HY.out).mono ?_
  rintro e w3 ⟨u, rfl, hcu, hb3⟩
  have B3 := Lib.hid hb3; clear hb3
  go_wp2
  go_ret
  exact ⟨rfl, B1.out.trans ((B2.out.mono B1.out.size).trans (B3.out.mono (Nat.le_trans B1.out.size B2.out.size)))⟩

set_option maxHeartbeats 1000000 in
theorem order_gt_a (a b : Nat) (X Y : ByteArray) (w : World) (ha : a < 18446744073709551616) (hb : b < 18446744073709551616) (hab : ((a : Int) == (b : Int)) = false) (hlt : a < b) (hl : Op.bytesLess X.toList Y.toList = true) (hs : Y.size < X.size) (hp : ((X.extract 0 Y.size).toList == Y.toList) = false) (_hsX : X.size ≤ 9) (_hsY : Y.size ≤ 9) (HX : Hid (X = ⟨(numL a).toArray⟩)) (HY : Hid (Y = ⟨(numL b).toArray⟩)) :
    Calls Try.prog 6 #[.int .u64 a, .int .u64 b] w fun e w' => e = .returned (.bool true) ∧ Below w.heap.size w w' := by
  go_enter Try.func6, Try.ntmps6
  go_wp2_with fail
  refine (lays_any _).mono ?_
  rintro e w1 ⟨rfl, hb1⟩
  have B1 := Lib.hid hb1; clear hb1
  go_wp2_with fail
  refine (num_str a X _ ha HX.out).mono ?_
  rintro e w2 ⟨v, rfl, hcv, hb2⟩
  have B2 := Lib.hid hb2; clear hb2
  go_wp2_with fail
  refine (num_str b Y _ hb HY.out).mono ?_
  rintro e w3 ⟨u, rfl, hcu, hb3⟩
  have B3 := Lib.hid hb3; clear hb3
  go_wp2
  go_ret
  exact ⟨rfl, B1.out.trans ((B2.out.mono B1.out.size).trans (B3.out.mono (Nat.le_trans B1.out.size B2.out.size)))⟩

set_option maxHeartbeats 1000000 in
theorem order_same_a (a b : Nat) (X Y : ByteArray) (w : World) (ha : a < 18446744073709551616) (hb : b < 18446744073709551616) (hab : ((a : Int) == (b : Int)) = false) (hlt : a < b) (hl : Op.bytesLess X.toList Y.toList = true) (hs : X.size = Y.size) (he1 : ((X.extract 0 Y.size).toList == Y.toList) = false) (he2 : (Y.toList == X.toList) = false) (_hsX : X.size ≤ 9) (_hsY : Y.size ≤ 9) (HX : Hid (X = ⟨(numL a).toArray⟩)) (HY : Hid (Y = ⟨(numL b).toArray⟩)) :
    Calls Try.prog 6 #[.int .u64 a, .int .u64 b] w fun e w' => e = .returned (.bool true) ∧ Below w.heap.size w w' := by
  go_enter Try.func6, Try.ntmps6
  go_wp2_with fail
  refine (lays_any _).mono ?_
  rintro e w1 ⟨rfl, hb1⟩
  have B1 := Lib.hid hb1; clear hb1
  go_wp2_with fail
  refine (num_str a X _ ha HX.out).mono ?_
  rintro e w2 ⟨v, rfl, hcv, hb2⟩
  have B2 := Lib.hid hb2; clear hb2
  go_wp2_with fail
  refine (num_str b Y _ hb HY.out).mono ?_
  rintro e w3 ⟨u, rfl, hcu, hb3⟩
  have B3 := Lib.hid hb3; clear hb3
  go_wp2
  go_ret
  exact ⟨rfl, B1.out.trans ((B2.out.mono B1.out.size).trans (B3.out.mono (Nat.le_trans B1.out.size B2.out.size)))⟩

set_option maxHeartbeats 1000000 in
theorem order_lt_b (a b : Nat) (X Y : ByteArray) (w : World) (ha : a < 18446744073709551616) (hb : b < 18446744073709551616) (hab : ((a : Int) == (b : Int)) = false) (hlt : decide (a < b) = false) (hl : Op.bytesLess X.toList Y.toList = false) (hs : X.size < Y.size) (hp : ((Y.extract 0 X.size).toList == X.toList) = false) (_hsX : X.size ≤ 9) (_hsY : Y.size ≤ 9) (HX : Hid (X = ⟨(numL a).toArray⟩)) (HY : Hid (Y = ⟨(numL b).toArray⟩)) :
    Calls Try.prog 6 #[.int .u64 a, .int .u64 b] w fun e w' => e = .returned (.bool true) ∧ Below w.heap.size w w' := by
  go_enter Try.func6, Try.ntmps6
  go_wp2_with fail
  refine (lays_any _).mono ?_
  rintro e w1 ⟨rfl, hb1⟩
  have B1 := Lib.hid hb1; clear hb1
  go_wp2_with fail
  refine (num_str a X _ ha HX.out).mono ?_
  rintro e w2 ⟨v, rfl, hcv, hb2⟩
  have B2 := Lib.hid hb2; clear hb2
  go_wp2_with fail
  refine (num_str b Y _ hb HY.out).mono ?_
  rintro e w3 ⟨u, rfl, hcu, hb3⟩
  have B3 := Lib.hid hb3; clear hb3
  go_wp2
  go_ret
  exact ⟨rfl, B1.out.trans ((B2.out.mono B1.out.size).trans (B3.out.mono (Nat.le_trans B1.out.size B2.out.size)))⟩

set_option maxHeartbeats 1000000 in
theorem order_gt_b (a b : Nat) (X Y : ByteArray) (w : World) (ha : a < 18446744073709551616) (hb : b < 18446744073709551616) (hab : ((a : Int) == (b : Int)) = false) (hlt : decide (a < b) = false) (hl : Op.bytesLess X.toList Y.toList = false) (hs : Y.size < X.size) (hp : ((X.extract 0 Y.size).toList == Y.toList) = false) (_hsX : X.size ≤ 9) (_hsY : Y.size ≤ 9) (HX : Hid (X = ⟨(numL a).toArray⟩)) (HY : Hid (Y = ⟨(numL b).toArray⟩)) :
    Calls Try.prog 6 #[.int .u64 a, .int .u64 b] w fun e w' => e = .returned (.bool true) ∧ Below w.heap.size w w' := by
  go_enter Try.func6, Try.ntmps6
  go_wp2_with fail
  refine (lays_any _).mono ?_
  rintro e w1 ⟨rfl, hb1⟩
  have B1 := Lib.hid hb1; clear hb1
  go_wp2_with fail
  refine (num_str a X _ ha HX.out).mono ?_
  rintro e w2 ⟨v, rfl, hcv, hb2⟩
  have B2 := Lib.hid hb2; clear hb2
  go_wp2_with fail
  refine (num_str b Y _ hb HY.out).mono ?_
  rintro e w3 ⟨u, rfl, hcu, hb3⟩
  have B3 := Lib.hid hb3; clear hb3
  go_wp2
  go_ret
  exact ⟨rfl, B1.out.trans ((B2.out.mono B1.out.size).trans (B3.out.mono (Nat.le_trans B1.out.size B2.out.size)))⟩

set_option maxHeartbeats 1000000 in
theorem order_same_b (a b : Nat) (X Y : ByteArray) (w : World) (ha : a < 18446744073709551616) (hb : b < 18446744073709551616) (hab : ((a : Int) == (b : Int)) = false) (hlt : decide (a < b) = false) (hl : Op.bytesLess X.toList Y.toList = false) (hs : X.size = Y.size) (he1 : ((X.extract 0 Y.size).toList == Y.toList) = false) (he2 : (Y.toList == X.toList) = false) (_hsX : X.size ≤ 9) (_hsY : Y.size ≤ 9) (HX : Hid (X = ⟨(numL a).toArray⟩)) (HY : Hid (Y = ⟨(numL b).toArray⟩)) :
    Calls Try.prog 6 #[.int .u64 a, .int .u64 b] w fun e w' => e = .returned (.bool true) ∧ Below w.heap.size w w' := by
  go_enter Try.func6, Try.ntmps6
  go_wp2_with fail
  refine (lays_any _).mono ?_
  rintro e w1 ⟨rfl, hb1⟩
  have B1 := Lib.hid hb1; clear hb1
  go_wp2_with fail
  refine (num_str a X _ ha HX.out).mono ?_
  rintro e w2 ⟨v, rfl, hcv, hb2⟩
  have B2 := Lib.hid hb2; clear hb2
  go_wp2_with fail
  refine (num_str b Y _ hb HY.out).mono ?_
  rintro e w3 ⟨u, rfl, hcu, hb3⟩
  have B3 := Lib.hid hb3; clear hb3
  go_wp2
  go_ret
  exact ⟨rfl, B1.out.trans ((B2.out.mono B1.out.size).trans (B3.out.mono (Nat.le_trans B1.out.size B2.out.size)))⟩

/-- The walk, the tests of its last lines told. -/
theorem order_walk (a b : Nat) (w : World) (ha : a < 18446744073709551616) (hb : b < 18446744073709551616) :
    Calls Try.prog 6 #[.int .u64 a, .int .u64 b] w fun e w' => e = .returned (.bool true) ∧ Below w.heap.size w w' := by
  have H := two a b ha hb
  obtain ⟨X, hX⟩ : ∃ X : ByteArray, X = ⟨(numL a).toArray⟩ := ⟨_, rfl⟩
  obtain ⟨Y, hY⟩ : ∃ Y : ByteArray, Y = ⟨(numL b).toArray⟩ := ⟨_, rfl⟩
  rw [← hX, ← hY] at H
  have HX := Lib.hid hX
  have HY := Lib.hid hY
  have hsX : X.size ≤ 9 := by rw [hX]; have := numL_length a; have := nb_le a ha; simp [ByteArray.size]; omega
  have hsY : Y.size ≤ 9 := by rw [hY]; have := numL_length b; have := nb_le b hb; simp [ByteArray.size]; omega
  clear hX hY
  by_cases hab : a = b
  · have he := H.eql
    rw [decide_eq_true hab] at he
    have hab' : ((a : Int) == (b : Int)) = true := by simp; omega
    exact order_eq a b X Y w ha hb hab' he HX HY
  · have hab' : ((a : Int) == (b : Int)) = false := by simp; omega
    have hl := H.lss
    have he := H.eql
    rw [decide_eq_false hab] at he
    by_cases hlt : a < b
    · rw [decide_eq_true hlt] at hl
      rcases Nat.lt_trichotomy X.size Y.size with h | h | h
      · exact order_lt_a a b X Y w ha hb hab' (by omega) hl h (H.pre hab (by omega)) hsX hsY HX HY
      · exact order_same_a a b X Y w ha hb hab' hlt hl h (H.erp hab (by omega)) (by rw [beq_eq_false_iff_ne] at he ⊢; exact Ne.symm he) hsX hsY HX HY
      · exact order_gt_a a b X Y w ha hb hab' (by omega) hl h (H.erp hab (by omega)) hsX hsY HX HY
    · rw [decide_eq_false hlt] at hl
      rcases Nat.lt_trichotomy X.size Y.size with h | h | h
      · exact order_lt_b a b X Y w ha hb hab' (decide_eq_false hlt) hl h (H.pre hab (by omega)) hsX hsY HX HY
      · exact order_same_b a b X Y w ha hb hab' (decide_eq_false hlt) hl h (H.erp hab (by omega)) (by rw [beq_eq_false_iff_ne] at he ⊢; exact Ne.symm he) hsX hsY HX HY
      · exact order_gt_b a b X Y w ha hb hab' (decide_eq_false hlt) hl h (H.erp hab (by omega)) hsX hsY HX HY

/-- The walk at the numbers that came in. -/
theorem order_all (w : World) (a : Int) (wa : (Lit.int .u64 a).wf = true) (b : Int) (wb : (Lit.int .u64 b).wf = true) :
    Calls Try.prog 6 #[.int .u64 a, .int .u64 b] w fun e w' => e = .returned (.bool true) ∧ Below w.heap.size w w' := by
  obtain ⟨m, rfl, hm⟩ := nat_u64 a wa
  obtain ⟨n, rfl, hn⟩ := nat_u64 b wb
  exact order_walk m n w hm hn

end Go.Proofs.Ytdibjllacjcniaa
