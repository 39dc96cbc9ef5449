/- bin.Num: the bytes of a number, in new memory. -/
import Derived.Test.YthaggdkfaglgaaaDoorRows
import Derived.Test.YthaggdkfaglgaaaDoorBinMath
import Derived.Test.YthaggdkfaglgaaaDoorBinLen
import Derived.Test.YthaggdkfaglgaaaDoorBys
import Derived.WalkKit
import Derived.WalkSpells
import Derived.WalkLawsBesides
import Derived.Lib.Hide
namespace Go.Proofs.YthaggdkfaglgaaaDoor
set_option maxRecDepth 20000
open Go.RowKit BinMath

/-- Len64, its answer under a name. -/
theorem len64_named (n b : Nat) (w : World) (hn : n < 18446744073709551616) (hb : b = Lib.bitLen n) :
    Calls Tryd.prog 41 #[.int .u64 n] w fun e w' => e = .returned (.int .i64 b) ∧ w = w' := by
  subst hb
  exact (len64_any n w (by omega) (by omega)).mono fun _ _ ⟨h1, h2⟩ => ⟨by simpa using h1, h2.symm⟩

theorem made_bytes (m : Nat) : (madeCells (Value.int IntKind.u8 0).cells ((m + 1) * 1)).toList = .int .u8 0 :: List.replicate m (.int .u8 0) := by
  have h : ∀ k, (madeCells (Value.int IntKind.u8 0).cells k).toList = List.replicate k (.int .u8 0) := by
    intro k
    refine List.ext_getElem (by simp [madeCells]) fun j h1 h2 => ?_
    simp [madeCells, Value.cells, Nat.mod_one]
  rw [Nat.mul_one, h, List.replicate_succ]

/-- The row of the loop: the head, the places that are still 0, the bytes that are there. -/
def rowAt (m n i : Nat) : List Value := bv (UInt8.ofNat m) :: (List.replicate i (.int .u8 0) ++ (be (m - i) n).map bv)

theorem rowAt_step (m n i : Nat) (hi : i + 1 ≤ m) : (rowAt m n (i + 1)).set (i + 1) (.int .u8 ((n / 256 ^ (m - (i + 1)) % 256 : Nat) : Int)) = rowAt m n i := by
  unfold rowAt
  rw [set_rep]
  congr 2
  rw [show m - i = m - (i + 1) + 1 by omega, be, List.map_cons, bv_of, Nat.mod_mod]

theorem div_step (n k : Nat) : n / 256 ^ k / 256 = n / 256 ^ (k + 1) := by rw [Nat.div_div_eq_div_mul, Nat.pow_succ]

set_option maxHeartbeats 1000000 in
theorem num_any (n : Nat) (w : World) (hn : n < 18446744073709551616) :
    Calls Tryd.prog 32 #[.int .u64 n] w fun e w' => ∃ v, e = .returned v ∧ Row w' w.heap.size v (numL n) ∧ Below w.heap.size w w' := by
  obtain ⟨i0, hi, hz0, hz1, hz2⟩ := info_parts info_byte
  obtain ⟨b, hb⟩ : ∃ b, b = Lib.bitLen n := ⟨_, rfl⟩
  obtain ⟨m, hm⟩ : ∃ m, m = nb n := ⟨_, rfl⟩
  have hb64 : b ≤ 64 := by rw [hb]; exact Lib.bitLen_le n 64 (by omega) hn
  have hk8 : m ≤ 8 := by rw [hm]; exact nb_le n hn
  have hq : ((b : Int) + 7) / 8 = (m : Int) := by rw [hm, hb]; unfold nb; omega
  have HB := Lib.hid hb
  have HM := Lib.hid hm
  clear hb hm
  go_enter Tryd.func32, Tryd.ntmps32
  go_wp2_with (first | (go_at_call 41; refine (len64_named n b _ hn HB.out).mono ?_; rintro e w' ⟨rfl, rfl⟩) | (at_make; refine wpList_make_full _ rfl _ _ 22 rfl w.heap.size 5 i0 (.int .u8 0) 1 Tryd.underlying22 hi hz0 hz1 _ _ _ _ (m + 1) rfl rfl (by omega) (by omega) (by rw [hz2]; omega) (by unfold maxLen; omega) (Nat.le_refl _) ?_; intro w1 hown hgrow; (have hf0 := hown.frozenAt 0); (have hc0 := hown.cellAt 0 (by omega)); rw [made_bytes] at hown hc0; (have HO := Lib.hid hown); (have HG := Lib.hid hgrow); clear hown hgrow))
  clear hq
  go_loopw [0, 5] (fun s0 s5 wr => ∃ i : Nat, i ≤ m ∧ s5 = .int .i64 i ∧ s0 = .int .u64 ((n / 256 ^ (m - i) : Nat) : Int) ∧ wr.ownsRow w.heap.size 5 1 (.slice (some ⟨w.heap.size, 0, none⟩) (m + 1) (m + 1)) (m + 1) (rowAt m n i) ∧ Below w.heap.size w wr) (fun _ s5 _ => (intOf s5).toNat)
  case atStart =>
    refine ⟨m, Nat.le_refl _, rfl, by simp, ?_, ?_⟩
    · have h := (HO.out.stored 0 (.int .u8 (m : Int))).1
      unfold rowAt
      rw [bv_of, Nat.mod_eq_of_lt (by omega), Nat.sub_self]
      simpa [be] using h
    · exact ((Below.refl _ _).grown HG.out (Nat.le_refl _) (by simp)).setCell (by simp) _
  case round =>
    obtain ⟨i, hi', rfl, rfl, hown, hbel⟩ := hrel
    obtain ⟨q, hq⟩ : ∃ q, q = n / 256 ^ (m - i) := ⟨_, rfl⟩
    have HQ := Lib.hid hq
    rw [← hq]
    have HO2 := Lib.hid hown
    have HBe := Lib.hid hbel
    clear hf0 hc0 hq
    by_cases h0 : i = 0
    · subst h0
      clear hown hbel
      go_wp2
      go_ret
      refine ⟨_, rfl, ?_, HBe.out⟩
      have h := HO2.out
      unfold rowAt at h
      unfold Row
      rw [numL_length, ← HM.out]
      have e : numL n = UInt8.ofNat m :: be m n := by rw [numL, ← HM.out]
      rw [e]
      simpa using h
    · obtain ⟨j, rfl⟩ : ∃ j, i = j + 1 := ⟨i - 1, by omega⟩
      have hcj : ∃ u, wr.cell? ⟨w.heap.size, j + 1, none⟩ = some u := by
        have hl := hown.1
        rw [hown.cellAt (j + 1) (by omega), List.getElem?_eq_getElem (by omega)]
        exact ⟨_, rfl⟩
      obtain ⟨u, hcj⟩ := hcj
      have hfj := hown.frozenAt (j + 1)
      clear hown hbel h0
      go_wp2
      go_roundw
      case rel =>
        refine ⟨j, by omega, rfl, ?_, ?_, (HBe.out).setCell (by simp) _⟩
        · rw [show m - j = m - (j + 1) + 1 by omega, ← div_step, ← HQ.out]; simp
        · have h := (HO2.out.stored (j + 1) (.int .u8 ((q % 256 : Nat) : Int))).1
          rw [HQ.out, rowAt_step m n j hi', ← HQ.out] at h
          simpa using h
      case measure => simp [intOf]
end Go.Proofs.YthaggdkfaglgaaaDoor
