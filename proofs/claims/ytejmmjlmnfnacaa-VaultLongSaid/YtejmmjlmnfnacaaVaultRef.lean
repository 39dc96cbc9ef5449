/- The reference's vault. -/
import Derived.Test.YtejmmjlmnfnacaaVaultAwake
namespace Go.Proofs.Ytejmmjlmnfnacaa
open Go.RowKit Go.Maps DiskMath SwapMath Reg

theorem below_dn {B : Nat} {w W : World} (h : Below B w W) (q : Nat) : Below B w (W.drewN q) := ⟨h.os, h.tape, h.output, h.size, h.block⟩

/-- The reference's vault: what it has, what it may have, whether it is over. -/
structure RV where
  has : Tx
  may : Tx
  over : Bool

def rC (V : RV) : Array Value := #[nm (V.has.getD []), .bool V.has.isSome, nm (V.may.getD []), .bool V.may.isSome, .bool V.over]

/-- What a call leaves that writes the reference's vault. -/
def RNx (w : World) (y : Nat) (V : RV) (w' : World) : Prop := Blk w' y 61 (rC V) ∧ OnlyS (fun k => k = y) w w'

theorem nm_str (l : List UInt8) : nm l = .string ⟨l.toArray⟩ := rfl

theorem took_any {w : World} {y : Nat} {V : RV} {t : Tx} (hb : Blk w y 61 (rC V)) : Calls Try.prog 42 #[.pointer (some ⟨y, 0, none⟩), tv t] w fun e w' => e = .returned (.tuple #[]) ∧ RNx w y ⟨t, t, false⟩ w' := by
  obtain ⟨A, hA⟩ : ∃ A : ByteArray, A = ⟨(t.getD []).toArray⟩ := ⟨_, rfl⟩
  obtain ⟨a, ha⟩ : ∃ a, a = t.isSome := ⟨_, rfl⟩
  have hnA : nm (t.getD []) = .string A := by rw [hA]; rfl
  unfold tv
  rw [hnA, ← ha]
  obtain ⟨w1, hw1⟩ : ∃ w1, w1 = w.alloc (.cells #[.string A, .bool a] 59) := ⟨_, rfl⟩
  have g0 : Blk w1 w.heap.size 59 #[.string A, .bool a] := by rw [hw1]; exact Blk.new w _ _
  have hb1 : Blk w1 y 61 (rC V) := by rw [hw1]; exact hb.keep ((Below.refl _ w).alloc (Nat.le_refl _) _)
  have hy : y < w.heap.size := hb.lt
  have hne : w.heap.size ≠ y := by omega
  have b0 : w1.cell? ⟨w.heap.size, 0, none⟩ = some (.string A) := by rw [g0.cell]; rfl
  have b1 : w1.cell? ⟨w.heap.size, 1, none⟩ = some (.bool a) := by rw [g0.cell]; rfl
  obtain ⟨B1, hB1⟩ : ∃ B1 : ByteArray, B1 = ⟨(V.has.getD []).toArray⟩ := ⟨_, rfl⟩
  obtain ⟨B2, hB2⟩ : ∃ B2 : ByteArray, B2 = ⟨(V.may.getD []).toArray⟩ := ⟨_, rfl⟩
  obtain ⟨c1, hc1⟩ : ∃ c1, c1 = V.has.isSome := ⟨_, rfl⟩
  obtain ⟨c2, hc2⟩ : ∃ c2, c2 = V.may.isSome := ⟨_, rfl⟩
  have k0 : w1.cell? ⟨y, 0, none⟩ = some (.string B1) := by rw [hb1.cell, hB1]; rfl
  have k1 : w1.cell? ⟨y, 1, none⟩ = some (.bool c1) := by rw [hb1.cell, hc1]; rfl
  have k2 : w1.cell? ⟨y, 2, none⟩ = some (.string B2) := by rw [hb1.cell, hB2]; rfl
  have k3 : w1.cell? ⟨y, 3, none⟩ = some (.bool c2) := by rw [hb1.cell, hc2]; rfl
  have k4 : w1.cell? ⟨y, 4, none⟩ = some (.bool V.over) := by rw [hb1.cell]; rfl
  have f0 : w1.frozen? ⟨y, 0, none⟩ = false := hb1.frozen 0
  have f1 : w1.frozen? ⟨y, 1, none⟩ = false := hb1.frozen 1
  have f2 : w1.frozen? ⟨y, 2, none⟩ = false := hb1.frozen 2
  have f3 : w1.frozen? ⟨y, 3, none⟩ = false := hb1.frozen 3
  have f4 : w1.frozen? ⟨y, 4, none⟩ = false := hb1.frozen 4
  have HB := Lib.hid hb1
  have HW : Hid (Below w.heap.size w w1) := Lib.hid (by rw [hw1]; exact (Below.refl _ w).alloc (Nat.le_refl _) _)
  have HE := Lib.hid hw1
  have HNA := Lib.hid hnA
  have HA := Lib.hid ha
  clear hb g0 hb1 hw1 hy hnA
  clear hB1 hB2 hc1 hc2 hA ha
  go_enter Try.func42, Try.ntmps42
  go_upto_region 1 with fail
  rw [← HE.out]
  clear HE
  go_wp2
  go_end0
  refine ⟨rfl, ?_, (only_put (only_put (only_put (only_put (only_put (OnlyS.of_below (S := fun k => k = y) HW.out fun k hk _ => hk) rfl 0 _) rfl 1 _) rfl 2 _) rfl 3 _) rfl 4 _)⟩
  unfold rC
  simp only
  rw [HNA.out, ← HA.out]
  exact (Blk.set (Blk.set (Blk.set (Blk.set (Blk.set HB.out 0 _) 1 _) 2 _) 3 _) 4 _)

theorem lost_any {w : World} {y : Nat} {V : RV} {t : Tx} (hb : Blk w y 61 (rC V)) : Calls Try.prog 43 #[.pointer (some ⟨y, 0, none⟩), tv t] w fun e w' => e = .returned (.tuple #[]) ∧ RNx w y ⟨V.has, t, true⟩ w' := by
  obtain ⟨A, hA⟩ : ∃ A : ByteArray, A = ⟨(t.getD []).toArray⟩ := ⟨_, rfl⟩
  obtain ⟨a, ha⟩ : ∃ a, a = t.isSome := ⟨_, rfl⟩
  have hnA : nm (t.getD []) = .string A := by rw [hA]; rfl
  unfold tv
  rw [hnA, ← ha]
  obtain ⟨w1, hw1⟩ : ∃ w1, w1 = w.alloc (.cells #[.string A, .bool a] 59) := ⟨_, rfl⟩
  have g0 : Blk w1 w.heap.size 59 #[.string A, .bool a] := by rw [hw1]; exact Blk.new w _ _
  have hb1 : Blk w1 y 61 (rC V) := by rw [hw1]; exact hb.keep ((Below.refl _ w).alloc (Nat.le_refl _) _)
  have hy : y < w.heap.size := hb.lt
  have hne : w.heap.size ≠ y := by omega
  have b0 : w1.cell? ⟨w.heap.size, 0, none⟩ = some (.string A) := by rw [g0.cell]; rfl
  have b1 : w1.cell? ⟨w.heap.size, 1, none⟩ = some (.bool a) := by rw [g0.cell]; rfl
  obtain ⟨B1, hB1⟩ : ∃ B1 : ByteArray, B1 = ⟨(V.has.getD []).toArray⟩ := ⟨_, rfl⟩
  obtain ⟨B2, hB2⟩ : ∃ B2 : ByteArray, B2 = ⟨(V.may.getD []).toArray⟩ := ⟨_, rfl⟩
  obtain ⟨c1, hc1⟩ : ∃ c1, c1 = V.has.isSome := ⟨_, rfl⟩
  obtain ⟨c2, hc2⟩ : ∃ c2, c2 = V.may.isSome := ⟨_, rfl⟩
  have k0 : w1.cell? ⟨y, 0, none⟩ = some (.string B1) := by rw [hb1.cell, hB1]; rfl
  have k1 : w1.cell? ⟨y, 1, none⟩ = some (.bool c1) := by rw [hb1.cell, hc1]; rfl
  have k2 : w1.cell? ⟨y, 2, none⟩ = some (.string B2) := by rw [hb1.cell, hB2]; rfl
  have k3 : w1.cell? ⟨y, 3, none⟩ = some (.bool c2) := by rw [hb1.cell, hc2]; rfl
  have k4 : w1.cell? ⟨y, 4, none⟩ = some (.bool V.over) := by rw [hb1.cell]; rfl
  have f0 : w1.frozen? ⟨y, 0, none⟩ = false := hb1.frozen 0
  have f1 : w1.frozen? ⟨y, 1, none⟩ = false := hb1.frozen 1
  have f2 : w1.frozen? ⟨y, 2, none⟩ = false := hb1.frozen 2
  have f3 : w1.frozen? ⟨y, 3, none⟩ = false := hb1.frozen 3
  have f4 : w1.frozen? ⟨y, 4, none⟩ = false := hb1.frozen 4
  have HB := Lib.hid hb1
  have HW : Hid (Below w.heap.size w w1) := Lib.hid (by rw [hw1]; exact (Below.refl _ w).alloc (Nat.le_refl _) _)
  have HE := Lib.hid hw1
  have HNA := Lib.hid hnA
  have HA := Lib.hid ha
  clear hb g0 hb1 hw1 hy hnA
  clear hB1 hB2 hc1 hc2 hA ha
  go_enter Try.func43, Try.ntmps43
  go_upto_region 1 with fail
  rw [← HE.out]
  clear HE
  go_wp2
  go_end0
  refine ⟨rfl, ?_, (only_put (only_put (only_put (OnlyS.of_below (S := fun k => k = y) HW.out fun k hk _ => hk) rfl 2 _) rfl 3 _) rfl 4 _)⟩
  unfold rC
  simp only
  rw [HNA.out, ← HA.out]
  exact (Blk.set (Blk.set (Blk.set HB.out 2 _) 3 _) 4 _)

theorem fits_any {w : World} {y : Nat} {V : RV} {t : Tx} (hb : Blk w y 61 (rC V)) (hf : t = V.has ∨ t = V.may) : Calls Try.prog 44 #[.pointer (some ⟨y, 0, none⟩), tv t] w fun e w' => e = .returned (.bool true) ∧ Below w.heap.size w w' := by
  obtain ⟨A, hA⟩ : ∃ A : ByteArray, A = ⟨(t.getD []).toArray⟩ := ⟨_, rfl⟩
  obtain ⟨a, ha⟩ : ∃ a, a = t.isSome := ⟨_, rfl⟩
  have hnA : nm (t.getD []) = .string A := by rw [hA]; rfl
  unfold tv
  rw [hnA, ← ha]
  obtain ⟨w1, hw1⟩ : ∃ w1, w1 = w.alloc (.cells #[.string A, .bool a] 59) := ⟨_, rfl⟩
  have g0 : Blk w1 w.heap.size 59 #[.string A, .bool a] := by rw [hw1]; exact Blk.new w _ _
  have hb1 : Blk w1 y 61 (rC V) := by rw [hw1]; exact hb.keep ((Below.refl _ w).alloc (Nat.le_refl _) _)
  have hy : y < w.heap.size := hb.lt
  have hne : w.heap.size ≠ y := by omega
  have b0 : w1.cell? ⟨w.heap.size, 0, none⟩ = some (.string A) := by rw [g0.cell]; rfl
  have b1 : w1.cell? ⟨w.heap.size, 1, none⟩ = some (.bool a) := by rw [g0.cell]; rfl
  obtain ⟨B1, hB1⟩ : ∃ B1 : ByteArray, B1 = ⟨(V.has.getD []).toArray⟩ := ⟨_, rfl⟩
  obtain ⟨B2, hB2⟩ : ∃ B2 : ByteArray, B2 = ⟨(V.may.getD []).toArray⟩ := ⟨_, rfl⟩
  obtain ⟨c1, hc1⟩ : ∃ c1, c1 = V.has.isSome := ⟨_, rfl⟩
  obtain ⟨c2, hc2⟩ : ∃ c2, c2 = V.may.isSome := ⟨_, rfl⟩
  have k0 : w1.cell? ⟨y, 0, none⟩ = some (.string B1) := by rw [hb1.cell, hB1]; rfl
  have k1 : w1.cell? ⟨y, 1, none⟩ = some (.bool c1) := by rw [hb1.cell, hc1]; rfl
  have k2 : w1.cell? ⟨y, 2, none⟩ = some (.string B2) := by rw [hb1.cell, hB2]; rfl
  have k3 : w1.cell? ⟨y, 3, none⟩ = some (.bool c2) := by rw [hb1.cell, hc2]; rfl
  have k4 : w1.cell? ⟨y, 4, none⟩ = some (.bool V.over) := by rw [hb1.cell]; rfl
  have f0 : w1.frozen? ⟨y, 0, none⟩ = false := hb1.frozen 0
  have f1 : w1.frozen? ⟨y, 1, none⟩ = false := hb1.frozen 1
  have f2 : w1.frozen? ⟨y, 2, none⟩ = false := hb1.frozen 2
  have f3 : w1.frozen? ⟨y, 3, none⟩ = false := hb1.frozen 3
  have f4 : w1.frozen? ⟨y, 4, none⟩ = false := hb1.frozen 4
  have HB := Lib.hid hb1
  have HW : Hid (Below w.heap.size w w1) := Lib.hid (by rw [hw1]; exact (Below.refl _ w).alloc (Nat.le_refl _) _)
  have HE := Lib.hid hw1
  have HNA := Lib.hid hnA
  have HA := Lib.hid ha
  clear hb g0 hb1 hw1 hy hnA
  have hf' : (A = B1 ∧ a = c1) ∨ (A = B2 ∧ a = c2) := by
    rcases hf with rfl | rfl
    · exact .inl ⟨by rw [hA, hB1], by rw [ha, hc1]⟩
    · exact .inr ⟨by rw [hA, hB2], by rw [ha, hc2]⟩
  clear hB1 hB2 hc1 hc2 hA ha hf
  go_enter Try.func44, Try.ntmps44
  go_upto_region 1 with fail
  rw [← HE.out]
  clear HE
  rcases hf' with ⟨rfl, rfl⟩ | ⟨rfl, rfl⟩
  · go_quiet (fail)
    go_wp2
    go_ret
    exact ⟨rfl, below_dn HW.out _⟩
  · by_cases h1 : A.toList = B1.toList
    · by_cases h2 : a = c1
      · subst h2
        go_quiet (fail)
        go_wp2
        go_ret
        exact ⟨rfl, below_dn HW.out _⟩
      · go_quiet (fail)
        go_wp2
        go_ret
        exact ⟨rfl, below_dn HW.out _⟩
    · go_quiet (fail)
      go_wp2
      go_ret
      exact ⟨rfl, below_dn HW.out _⟩

theorem eq_in (A B : ByteArray) (a b : Bool) (w : World) : (Op.equalIn 10000 59 (.agg #[.string A, .bool a]) (.agg #[.string B, .bool b])).run Try.prog w = .ok (decide (A.toList = B.toList ∧ a = b)) w := by
  have u := Try.underlying9
  have u2 := Try.underlying4
  have ag := Try.isAgg9
  have z := Try.sizeOf9
  have ag2 := Try.isAgg4
  have z2 := Try.sizeOf4
  rw [run_equalIn_agg w 9999 59 _ _ (by kernel_rfl) (by kernel_rfl)]
  simp only [Program.fieldsOf, Try.underlying59]
  go_simp
  by_cases h1 : A.toList = B.toList <;> by_cases h2 : a = b <;> simp [h1, h2]

theorem eql_self (s t : Operand) (x : Tx) (W : World) : (do eqGuard .eql 59 s t (tv x) (tv x); binOp .eql 59 (tv x) (tv x) : Sem Value).run Try.prog W = .ok (.bool true) W := by
  have hg : Try.prog.eqGuardType Try.prog.depth 59 = false := by kernel_rfl
  simp [eqGuard, go_sem, hg, nm_str, eq_in]

theorem neq_self (s t : Operand) (x : Tx) (W : World) : (do eqGuard .neq 59 s t (tv x) (tv x); binOp .neq 59 (tv x) (tv x) : Sem Value).run Try.prog W = .ok (.bool false) W := by
  have hg : Try.prog.eqGuardType Try.prog.depth 59 = false := by kernel_rfl
  simp [eqGuard, go_sem, hg, nm_str, eq_in]
end Go.Proofs.Ytejmmjlmnfnacaa
