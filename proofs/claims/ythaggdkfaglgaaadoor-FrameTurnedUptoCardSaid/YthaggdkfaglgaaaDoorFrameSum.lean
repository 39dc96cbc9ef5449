/- frame.sumOf: the four bytes of a sum; the reference's Frame. -/
import Derived.Test.YthaggdkfaglgaaaDoorFrameKit
namespace Go.Proofs.YthaggdkfaglgaaaDoor
set_option maxRecDepth 20000
open Go.RowKit FrameMath CrcMath

theorem four_cells (x : BitVec 32) : [Value.int .u8 (rv x / 16777216 % 256), .int .u8 (rv x / 65536 % 256), .int .u8 (rv x / 256 % 256), .int .u8 (rv x % 256)] = (four x).map bv := by
  simp [four, bv, rv]

theorem four_row (w : World) (x : BitVec 32) : Row (w.alloc (.cells #[Value.int .u8 (rv x / 16777216 % 256), .int .u8 (rv x / 65536 % 256), .int .u8 (rv x / 256 % 256), .int .u8 (rv x % 256)] 5)) w.heap.size (.slice (some ⟨w.heap.size, 0, none⟩) 4 4) (four x) := by
  have h := World.ownsRow_lit (base := w.heap.size) (e := 5) (size := 1) w #[Value.int .u8 (rv x / 16777216 % 256), .int .u8 (rv x / 65536 % 256), .int .u8 (rv x / 256 % 256), .int .u8 (rv x % 256)] 4 (Nat.le_refl _) (by unfold maxLen; omega) rfl
  unfold Row
  rw [← four_cells]
  exact h

set_option maxHeartbeats 400000 in
theorem sumOf_any (v : Value) (l : List UInt8) (w : World) (hv : Bys w v l) (hl : l.length ≤ 140737488355328) (ht : Tab w) :
    Calls Tryd.prog 19 #[v] w fun e w' => ∃ v', e = .returned v' ∧ Row w' w.heap.size v' (sealF l) ∧ Below w.heap.size w w' := by
  have HS := Lib.hid (sum_any v l w hv hl ht)
  obtain ⟨x, hx⟩ : ∃ x, x = sum l := ⟨_, rfl⟩
  rw [← hx] at HS
  have HX := Lib.hid hx
  clear hv hl ht hx
  go_enter Tryd.func19, Tryd.ntmps19
  go_wp2_with fail
  refine HS.out.mono ?_
  rintro e w' ⟨rfl, rfl⟩
  go_wp2
  go_ret
  refine ⟨_, rfl, ?_, (Below.refl _ _).alloc (Nat.le_refl _) _⟩
  unfold sealF
  rw [← HX.out]
  exact four_row w x

set_option maxHeartbeats 400000 in
theorem refframe_any (v : Value) (t : List UInt8) (w : World) (hv : Bys w v t) (hl : t.length ≤ 4194304) :
    Calls Tryd.prog 14 #[v] w fun e w' => ∃ v', e = .returned v' ∧ Row w' w.heap.size v' (frameF t) ∧ Below w.heap.size w w' := by
  have HV := Lib.hid hv
  have hrl : (rawL t).length ≤ 4194320 := by
    have := BinMath.numL_length t.length
    have := BinMath.nb_le t.length (by omega)
    unfold rawL
    rw [List.length_append]
    omega
  clear hv
  go_enter Tryd.func14, Tryd.ntmps14
  go_wp2_with fail
  refine (refraw_any v t _ HV.out (by omega)).mono ?_
  rintro e w1 ⟨u, rfl, hr, hb⟩
  have HR := Lib.hid hr
  have HB := Lib.hid hb
  have HS := Lib.hid (refsum_any u (rawL t) w1 hr.bys (by omega))
  obtain ⟨x, hx⟩ : ∃ x, x = sum (rawL t) := ⟨_, rfl⟩
  rw [← hx] at HS
  have HX := Lib.hid hx
  clear hr hb hx
  go_wp2_with fail
  refine HS.out.mono ?_
  rintro e w' ⟨rfl, rfl⟩
  have hw2 := Below.alloc (Below.refl w1.heap.size w1) (Nat.le_refl _) (Obj.cells #[Value.int .u8 (rv x / 16777216 % 256), .int .u8 (rv x / 65536 % 256), .int .u8 (rv x / 256 % 256), .int .u8 (rv x % 256)] 5)
  have A1 := Lib.hid (grow_row (w := w) (B := w.heap.size) (Nat.le_trans HB.out.size hw2.size) (HR.out.below hw2) (four_row w1 x).bys (by rw [four_length]; omega) (HB.out.trans (hw2.mono HB.out.size)))
  clear hw2
  go_wp2_with (at_builtin; refine wpList_append_by rfl _ _ 22 rfl _ _ rfl rfl _ A1.out ?_; rintro v' w' ⟨hr', hb'⟩; (have HR' := Lib.hid hr'); (have HB' := Lib.hid hb'); clear hr' hb')
  go_ret
  refine ⟨_, rfl, ?_, HB'.out⟩
  have h := HR'.out
  rw [HX.out] at h
  exact h

end Go.Proofs.YthaggdkfaglgaaaDoor
