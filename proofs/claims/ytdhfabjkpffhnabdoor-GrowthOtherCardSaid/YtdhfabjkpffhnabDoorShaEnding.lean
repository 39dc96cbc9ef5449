/- What the program lays behind a text. -/
import Derived.Test.YtdhfabjkpffhnabDoorShaMath
import Derived.Test.YtdhfabjkpffhnabDoorArr
import Derived.Test.YtdhfabjkpffhnabDoorArms
import Derived.Deep.DeepCutAuto
namespace Go.Proofs.YtdhfabjkpffhnabDoor
set_option maxRecDepth 20000
open Go.RowKit ShaMath

/-- append to a row of the call's own, as a walk meets it. -/
theorem grow_own {w wr : World} {B : Nat} {v x : Value} {l l' : List UInt8} (hB : B ≤ wr.heap.size) (h : Row wr B v l) (hx : Bys wr x l') (hlen : l.length + l'.length ≤ 140737488355328) (hw : Below B w wr) :
    ∃ v' w', (Builtin.append_ #[54, 54] 54 #[v, x]).run Tryd.prog wr = .ok v' w' ∧ (Row w' B v' (l ++ l') ∧ Below B w w') := by
  obtain ⟨v', w', h1, h2, h3⟩ := append_bys hB h hx hlen
  exact ⟨v', w', h1, h2, hw.grown h3 hB fun k hk => (World.ownsRow.lt h k hk).1⟩

/-- append of one byte. -/
theorem grow_one {w wr : World} {B : Nat} {v : Value} {l : List UInt8} (z : Int) (c : UInt8) (hz : Value.int .u8 z = bv c) (hB : B ≤ wr.heap.size) (h : Row wr B v l) (hlen : l.length ≤ 140737488355320) (hw : Below B w wr) :
    ∃ v' w', (Builtin.append_ #[54, 54] 54 #[v, .slice (some ⟨wr.heap.size, 0, none⟩) 1 1]).run Tryd.prog (wr.alloc (.cells #[.int .u8 z] 5)) = .ok v' w' ∧ (Row w' B v' (l ++ [c]) ∧ Below B w w') := by
  rw [hz]
  exact grow_own (by simp; omega) (h.below ((Below.refl _ _).alloc (Nat.le_refl _) _)) (byte_bys wr c) (by simp; omega) (hw.alloc hB _)

def sl : Value → Nat
  | .slice _ n _ => n
  | _ => 0

theorem Row.len {w : World} {B : Nat} {v : Value} {l : List UInt8} (h : Row w B v l) : ∃ a cap, v = .slice a l.length cap := slice_of_row h

def GapAt (n : Nat) (w : World) (s3 : Value) (wr : World) : Prop :=
  ∃ k, k ≤ gap n ∧ Row wr w.heap.size s3 (128 :: List.replicate k 0) ∧ Below w.heap.size w wr
def LenAt (n : Nat) (w : World) (s3 s4 : Value) (wr : World) : Prop :=
  ∃ j : Nat, j ≤ 8 ∧ s4 = .int .i64 (56 - 8 * (j : Int)) ∧ Row wr w.heap.size s3 (128 :: (List.replicate (gap n) 0 ++ (lenB n).take j)) ∧ Below w.heap.size w wr

theorem lenB_at (n j : Nat) (hj : j < 8) : (lenB n)[j]? = some (UInt8.ofNat (8 * n % 18446744073709551616 / 2 ^ (56 - 8 * j))) := by
  have : j = 0 ∨ j = 1 ∨ j = 2 ∨ j = 3 ∨ j = 4 ∨ j = 5 ∨ j = 6 ∨ j = 7 := by omega
  rcases this with rfl | rfl | rfl | rfl | rfl | rfl | rfl | rfl <;> rfl
theorem lenB_step (n j : Nat) (hj : j < 8) : (lenB n).take (j + 1) = (lenB n).take j ++ [UInt8.ofNat (8 * n % 18446744073709551616 / 2 ^ (56 - 8 * j))] := by
  have h := lenB_at n j hj
  obtain ⟨h1, h2⟩ := List.getElem?_eq_some_iff.1 h
  rw [List.take_succ_eq_append_getElem h1, h2]

theorem first_row (w : World) : Row (w.alloc (.cells (Value.int .u8 128 :: List.replicate 71 (Value.int .u8 0)).toArray 5)) w.heap.size (.slice (some ⟨w.heap.size, 0, none⟩) 1 72) [128] := by
  refine ⟨rfl, .inr ⟨w.heap.size, 72, _, rfl, Nat.le_refl _, heap_alloc_new w _, by simp, by unfold maxLen; omega, ?_, ?_⟩⟩
  · simp
  · rfl

theorem gap_more (n k : Nat) (h : k < gap n) : (n + (k + 1)) % 64 ≠ 56 := by
  unfold gap at h
  omega
theorem gap_end (n : Nat) : (n + (gap n + 1)) % 64 = 56 := by
  unfold gap
  omega

set_option maxRecDepth 100000 in
theorem ending_any (n : Nat) (w : World) (hn : n ≤ 1152921504606846976) :
    Calls Tryd.prog 60 #[.int .u64 (n : Int)] w fun e w' => ∃ v, e = .returned v ∧ Row w' w.heap.size v (tail n) ∧ Below w.heap.size w w' := by
  have hmk : ∀ W, (Instr.makeSlice 54 (.int .i64 1) (.int .i64 72)).run Tryd.prog W = .ok (.slice (some ⟨W.heap.size, 0, none⟩) 1 72) (W.alloc (.cells (List.replicate 72 (Value.int .u8 0)).toArray 5)) := fun W => by kernel_rfl
  go_enter Tryd.func60, Tryd.ntmps60
  go_upto_region 3 with fail
  clear hmk
  go_loopw [3] (fun s3 wr => GapAt n w s3 wr) (fun s3 _ => 100 - sl s3)
  case atStart => exact ⟨0, Nat.zero_le _, first_row w, (Below.refl _ _).alloc (Nat.le_refl _) _⟩
  case round =>
    obtain ⟨k, hk, hrow, hbel⟩ := hrel
    obtain ⟨a, cap, rfl⟩ := slice_of_row hrow
    obtain ⟨m, hm⟩ : ∃ m, m = (128 :: List.replicate k (0 : UInt8)).length := ⟨_, rfl⟩
    have hm1 : m = k + 1 := by rw [hm]; simp
    rw [← hm] at hrow ⊢
    have hk64 : gap n < 64 := by unfold gap; omega
    have hmb : m ≤ 64 := by omega
    have HM := Lib.hid hm1
    have HR := Lib.hid hrow
    have HB := Lib.hid hbel
    have hsz := hbel.size
    clear hm hrow hbel
    by_cases hlt : k < gap n
    · have hc : (((n : Int) + (m : Int)) % 64 != 56) = true := by
        have := gap_more n k hlt
        rw [hm1]
        simp
        omega
      clear hm1
      have HA := Lib.hid (grow_one (w := w) 0 0 rfl hsz HR.out (by simp; omega) HB.out)
      go_wp2_with (at_builtin; refine wpList_append_by rfl (.tmp 15) (.tmp 16) 54 rfl _ _ rfl rfl _ HA.out ?_; rintro v' w2 ⟨hr2, hb2⟩; (have HR2 := Lib.hid hr2); (have HB2 := Lib.hid hb2); clear hr2 hb2)
      go_roundw
      case rel =>
        refine ⟨k + 1, hlt, ?_, HB2.out⟩
        have h := HR2.out
        rwa [List.cons_append, ← List.replicate_succ'] at h
      case measure =>
        obtain ⟨a2, cap2, e⟩ := slice_of_row HR2.out
        have h := HM.out
        subst e
        simp [sl]
        omega
    · have hc : (((n : Int) + (m : Int)) % 64 != 56) = false := by
        have := gap_end n
        rw [hm1, show k = gap n by omega]
        simp
        omega
      have hkg : k = gap n := by omega
      have HKG := Lib.hid hkg
      clear hm1 hkg hlt
      go_wp2
      clear hc
      obtain ⟨wo, rfl⟩ : ∃ wo : World, wo = wr := ⟨_, rfl⟩
      go_loopw [3, 4] (fun s3 s4 wr => LenAt n w s3 s4 wr) (fun s3 _ _ => 200 - sl s3)
      case atStart => exact ⟨0, by omega, rfl, by rw [← HKG.out]; simpa using HR.out, HB.out⟩
      case round =>
        obtain ⟨j, hj, rfl, hrow, hbel⟩ := hrel
        obtain ⟨a1, cap1, rfl⟩ := slice_of_row hrow
        obtain ⟨m1, hm1⟩ : ∃ m, m = (128 :: (List.replicate (gap n) (0 : UInt8) ++ (lenB n).take j)).length := ⟨_, rfl⟩
        have hll : (lenB n).length = 8 := rfl
        have hm2 : m1 = gap n + 1 + j := by rw [hm1]; simp [hll]; omega
        rw [← hm1] at hrow ⊢
        have hmb1 : m1 ≤ 80 := by omega
        have HM1 := Lib.hid hm2
        have HR1 := Lib.hid hrow
        have HB1 := Lib.hid hbel
        have hsz1 := hbel.size
        clear hm1 hm2 hrow hbel hll
        by_cases hlt : j < 8
        · obtain ⟨t, ht⟩ : ∃ t : Nat, (t : Int) = 56 - 8 * (j : Int) := ⟨56 - 8 * j, by omega⟩
          rw [← ht]
          have ht2 : t = 56 - 8 * j := by omega
          have ht56 : t ≤ 56 := by omega
          obtain ⟨c, hcc⟩ : ∃ c, c = UInt8.ofNat (8 * n % 18446744073709551616 / 2 ^ (56 - 8 * j)) := ⟨_, rfl⟩
          obtain ⟨q, hq⟩ : ∃ q : Nat, q = 8 * n / 2 ^ t := ⟨_, rfl⟩
          have f1 : (8 : Int) * (n : Int) / 2 ^ t = (q : Int) := by rw [hq]; simp
          have hz : Value.int .u8 ((q : Int) % 256) = bv c := by
            rw [hcc, hq, ← ht2, Nat.mod_eq_of_lt (by omega), bv_of]
            simp
          have HA := Lib.hid (grow_one (w := w) ((q : Int) % 256) c hz hsz1 HR1.out (by simp; omega) HB1.out)
          have HC := Lib.hid hcc
          have HT := Lib.hid ht
          clear hcc hq hz ht ht2
          go_wp2_with (at_builtin; refine wpList_append_by rfl (.tmp 22) (.tmp 28) 54 rfl _ _ rfl rfl _ HA.out ?_; rintro v' w2 ⟨hr2, hb2⟩; (have HR2 := Lib.hid hr2); (have HB2 := Lib.hid hb2); clear hr2 hb2)
          refine ⟨⟨j + 1, by omega, ?_, ?_, HB2.out⟩, ?_⟩
          · have := HT.out
            have e : (t : Int) - 8 = 56 - 8 * ((j + 1 : Nat) : Int) := by omega
            rw [e]
          · have h := HR2.out
            rw [lenB_step n j hlt, ← HC.out]
            simpa using h
          · obtain ⟨a2, cap2, e⟩ := slice_of_row HR2.out
            have h := HM1.out
            have hll : (lenB n).length = 8 := rfl
            subst e
            simp [sl, hll]
            omega
        · have hj8 : j = 8 := by omega
          have hneg : ¬ (0 : Int) ≤ 56 - 8 * (j : Int) := by omega
          have HJ := Lib.hid hj8
          clear hj8 hlt hj
          go_wp2
          go_ret
          refine ⟨_, rfl, ?_, HB1.out⟩
          have h := HR1.out
          rw [HJ.out, List.take_of_length_le (by show 8 ≤ 8; omega)] at h
          exact h
end Go.Proofs.YtdhfabjkpffhnabDoor
