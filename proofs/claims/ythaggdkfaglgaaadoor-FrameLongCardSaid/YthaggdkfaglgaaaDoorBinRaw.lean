/- bin.Raw and the reference's: the bytes of a text, in new memory. -/
import Derived.Test.YthaggdkfaglgaaaDoorBinRef
import Derived.Test.YthaggdkfaglgaaaDoorFrame
import Derived.Lib.BufferRead
namespace Go.Proofs.YthaggdkfaglgaaaDoor
set_option maxRecDepth 20000
open Go.RowKit BinMath

def rawL (l : List UInt8) : List UInt8 := numL l.length ++ l

set_option maxHeartbeats 1000000 in
theorem raw_any (v : Value) (l : List UInt8) (w : World) (hv : Bys w v l) (hl : l.length ≤ 140737488351232) :
    Calls Tryd.prog 23 #[v] w fun e w' => ∃ v', e = .returned v' ∧ Row w' w.heap.size v' (rawL l) ∧ Below w.heap.size w w' := by
  obtain ⟨i0, hi, hz0, hz1, hz2⟩ := info_parts info_byte
  obtain ⟨n, hn⟩ : ∃ n, n = l.length := ⟨_, rfl⟩
  have hnb := nb_le n (by omega)
  have hlen := numL_length n
  rcases hv with ⟨rfl, rfl⟩ | ⟨ad, cap, rfl, hc⟩
  · simp at hn
    subst hn
    go_enter Tryd.func23, Tryd.ntmps23
    go_wp2_with fail
    refine (num_any 0 _ (by omega)).mono ?_
    rintro e w1 ⟨u, rfl, hrow, hb1⟩
    have HR := Lib.hid hrow
    have HB := Lib.hid hb1
    clear hrow hb1
    go_wp2_with (at_builtin; refine wpList_append_own_none rfl _ _ 22 rfl w.heap.size 5 i0 1 Tryd.underlying22 hi _ _ _ rfl HR.out rfl ?_)
    go_ret
    refine ⟨_, rfl, ?_, HB.out⟩
    simpa [rawL] using HR.out
  · rw [← hn]
    have HN := Lib.hid hn
    have HC := Lib.hid hc
    have hl' : n ≤ 140737488351232 := by omega
    clear hn hc hl
    go_enter Tryd.func23, Tryd.ntmps23
    go_wp2_with fail
    refine (num_any n _ (by omega)).mono ?_
    rintro e w1 ⟨u, rfl, hrow, hb1⟩
    have hc1 : ∀ i (h : i < l.length), w1.cell? (ad.add i) = some (bv l[i]) := fun i h => by rw [hb1.cell (World.block_lt_of_cell? w _ (HC.out i h))]; exact HC.out i h
    have HR := Lib.hid hrow
    have HB := Lib.hid hb1
    have HC1 := Lib.hid hc1
    clear hrow hb1 hc1
    go_wp2_with (at_builtin; refine wpList_append_own _ rfl _ _ 22 rfl w.heap.size 5 i0 (.int .u8 0) 1 1 Tryd.underlying22 hi hz0 hz1 hz2 rfl (by decide) _ _ _ rfl HR.out ad n cap (l.map bv) rfl (by rw [List.length_map, HN.out, Nat.mul_one]) (cells_bys HC1.out) (one_bv l) (by unfold maxLen; omega) (by omega) HB.out.size ?_; intro v' w2 hown2 hgrow2 hnil2; (have HO2 := Lib.hid hown2); (have HG2 := Lib.hid hgrow2); clear hown2 hgrow2 hnil2)
    go_ret
    refine ⟨_, rfl, ?_, HB.out.grown HG2.out HB.out.size fun k hk => (HR.out.lt k hk).1⟩
    have h := HO2.out
    unfold Row rawL
    rw [← HN.out, List.length_append, List.map_append, ← HN.out]
    exact h

set_option maxHeartbeats 1000000 in
theorem refraw_any (v : Value) (l : List UInt8) (w : World) (hv : Bys w v l) (hl : l.length ≤ 140737488351232) :
    Calls Tryd.prog 24 #[v] w fun e w' => ∃ v', e = .returned v' ∧ Row w' w.heap.size v' (rawL l) ∧ Below w.heap.size w w' := by
  obtain ⟨i0, hi, hz0, hz1, hz2⟩ := info_parts info_byte
  obtain ⟨n, hn⟩ : ∃ n, n = l.length := ⟨_, rfl⟩
  have hnb := nb_le n (by omega)
  have hlen := numL_length n
  rcases hv with ⟨rfl, rfl⟩ | ⟨ad, cap, rfl, hc⟩
  · simp at hn
    subst hn
    go_enter Tryd.func24, Tryd.ntmps24
    go_wp2_with fail
    refine (refnum_any 0 _ (by omega)).mono ?_
    rintro e w1 ⟨u, rfl, hrow, hb1⟩
    have HR := Lib.hid hrow
    have HB := Lib.hid hb1
    clear hrow hb1
    go_wp2_with (at_builtin; refine wpList_append_own_none rfl _ _ 22 rfl w.heap.size 5 i0 1 Tryd.underlying22 hi _ _ _ rfl HR.out rfl ?_)
    go_ret
    refine ⟨_, rfl, ?_, HB.out⟩
    simpa [rawL] using HR.out
  · rw [← hn]
    have HN := Lib.hid hn
    have HC := Lib.hid hc
    have hl' : n ≤ 140737488351232 := by omega
    clear hn hc hl
    go_enter Tryd.func24, Tryd.ntmps24
    go_wp2_with fail
    refine (refnum_any n _ (by omega)).mono ?_
    rintro e w1 ⟨u, rfl, hrow, hb1⟩
    have hc1 : ∀ i (h : i < l.length), w1.cell? (ad.add i) = some (bv l[i]) := fun i h => by rw [hb1.cell (World.block_lt_of_cell? w _ (HC.out i h))]; exact HC.out i h
    have HR := Lib.hid hrow
    have HB := Lib.hid hb1
    have HC1 := Lib.hid hc1
    clear hrow hb1 hc1
    go_wp2_with (at_builtin; refine wpList_append_own _ rfl _ _ 22 rfl w.heap.size 5 i0 (.int .u8 0) 1 1 Tryd.underlying22 hi hz0 hz1 hz2 rfl (by decide) _ _ _ rfl HR.out ad n cap (l.map bv) rfl (by rw [List.length_map, HN.out, Nat.mul_one]) (cells_bys HC1.out) (one_bv l) (by unfold maxLen; omega) (by omega) HB.out.size ?_; intro v' w2 hown2 hgrow2 hnil2; (have HO2 := Lib.hid hown2); (have HG2 := Lib.hid hgrow2); clear hown2 hgrow2 hnil2)
    go_ret
    refine ⟨_, rfl, ?_, HB.out.grown HG2.out HB.out.size fun k hk => (HR.out.lt k hk).1⟩
    have h := HO2.out
    unfold Row rawL
    rw [← HN.out, List.length_append, List.map_append, ← HN.out]
    exact h

end Go.Proofs.YthaggdkfaglgaaaDoor
