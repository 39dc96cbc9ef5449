/- The reference's cell. -/
import Derived.Test.YtboongdoggggoaaCellAwake
namespace Go.Proofs.Ytboongdoggggoaa
set_option maxRecDepth 20000
open Go.RowKit Go.Maps DiskMath SwapMath CellMath BinMath Reg

theorem below_dn {B : Nat} {w W : World} (h : Below B w W) (q : Nat) : Below B w (W.drewN q) := ⟨h.os, h.tape, h.output, h.size, h.block⟩

/-- The reference's cell: what it has, what it may have, whether it is over. -/
structure RV where
  has : Hd
  may : Hd
  over : Bool

def rC (V : RV) : Array Value := #[.int .u64 (V.has.1 : Int), .int .u64 (V.has.2 : Int), .int .u64 (V.may.1 : Int), .int .u64 (V.may.2 : Int), .bool V.over]

/-- What a call leaves that writes the reference's cell. -/
def RNx (w : World) (y : Nat) (V : RV) (w' : World) : Prop := Blk w' y 77 (rC V) ∧ OnlyS (fun k => k = y) w w'

theorem took_any {w : World} {y : Nat} {V : RV} {h : Hd} (hb : Blk w y 77 (rC V)) : Calls Try.prog 72 #[.pointer (some ⟨y, 0, none⟩), hv h] w fun e w' => e = .returned (.tuple #[]) ∧ RNx w y ⟨h, h, false⟩ w' := by
  obtain ⟨a, b⟩ := h
  obtain ⟨w1, hw1⟩ : ∃ w1, w1 = w.alloc (.cells #[.int .u64 (a : Int), .int .u64 (b : Int)] 63) := ⟨_, rfl⟩
  have g0 : Blk w1 w.heap.size 63 #[.int .u64 (a : Int), .int .u64 (b : Int)] := by rw [hw1]; exact Blk.new w _ _
  have hb1 : Blk w1 y 77 (rC V) := by rw [hw1]; exact hb.keep ((Below.refl _ w).alloc (Nat.le_refl _) _)
  have hy : y < w.heap.size := hb.lt
  have hne : w.heap.size ≠ y := by omega
  have b0 : w1.cell? ⟨w.heap.size, 0, none⟩ = some (.int .u64 (a : Int)) := by rw [g0.cell]; rfl
  have b1 : w1.cell? ⟨w.heap.size, 1, none⟩ = some (.int .u64 (b : Int)) := by rw [g0.cell]; rfl
  have k0 : w1.cell? ⟨y, 0, none⟩ = some (.int .u64 (V.has.1 : Int)) := by rw [hb1.cell]; rfl
  have k1 : w1.cell? ⟨y, 1, none⟩ = some (.int .u64 (V.has.2 : Int)) := by rw [hb1.cell]; rfl
  have k2 : w1.cell? ⟨y, 2, none⟩ = some (.int .u64 (V.may.1 : Int)) := by rw [hb1.cell]; rfl
  have k3 : w1.cell? ⟨y, 3, none⟩ = some (.int .u64 (V.may.2 : Int)) := by rw [hb1.cell]; rfl
  have k4 : w1.cell? ⟨y, 4, none⟩ = some (.bool V.over) := by rw [hb1.cell]; rfl
  have f0 : w1.frozen? ⟨y, 0, none⟩ = false := hb1.frozen 0
  have f1 : w1.frozen? ⟨y, 1, none⟩ = false := hb1.frozen 1
  have f2 : w1.frozen? ⟨y, 2, none⟩ = false := hb1.frozen 2
  have f3 : w1.frozen? ⟨y, 3, none⟩ = false := hb1.frozen 3
  have f4 : w1.frozen? ⟨y, 4, none⟩ = false := hb1.frozen 4
  have HB := Lib.hid hb1
  have HW : Hid (Below w.heap.size w w1) := Lib.hid (by rw [hw1]; exact (Below.refl _ w).alloc (Nat.le_refl _) _)
  have HE := Lib.hid hw1
  clear hb g0 hb1 hw1 hy
  go_enter Try.func72, Try.ntmps72
  go_upto_region 1 with fail
  rw [← HE.out]
  clear HE
  go_wp2
  go_end0
  exact ⟨rfl, (Blk.set (Blk.set (Blk.set (Blk.set (Blk.set HB.out 0 _) 1 _) 2 _) 3 _) 4 _), (only_put (only_put (only_put (only_put (only_put (OnlyS.of_below (S := fun k => k = y) HW.out fun k hk _ => hk) rfl 0 _) rfl 1 _) rfl 2 _) rfl 3 _) rfl 4 _)⟩

theorem lost_any {w : World} {y : Nat} {V : RV} {h : Hd} (hb : Blk w y 77 (rC V)) : Calls Try.prog 74 #[.pointer (some ⟨y, 0, none⟩), hv h] w fun e w' => e = .returned (.tuple #[]) ∧ RNx w y ⟨V.has, h, true⟩ w' := by
  obtain ⟨a, b⟩ := h
  obtain ⟨w1, hw1⟩ : ∃ w1, w1 = w.alloc (.cells #[.int .u64 (a : Int), .int .u64 (b : Int)] 63) := ⟨_, rfl⟩
  have g0 : Blk w1 w.heap.size 63 #[.int .u64 (a : Int), .int .u64 (b : Int)] := by rw [hw1]; exact Blk.new w _ _
  have hb1 : Blk w1 y 77 (rC V) := by rw [hw1]; exact hb.keep ((Below.refl _ w).alloc (Nat.le_refl _) _)
  have hy : y < w.heap.size := hb.lt
  have hne : w.heap.size ≠ y := by omega
  have b0 : w1.cell? ⟨w.heap.size, 0, none⟩ = some (.int .u64 (a : Int)) := by rw [g0.cell]; rfl
  have b1 : w1.cell? ⟨w.heap.size, 1, none⟩ = some (.int .u64 (b : Int)) := by rw [g0.cell]; rfl
  have k0 : w1.cell? ⟨y, 0, none⟩ = some (.int .u64 (V.has.1 : Int)) := by rw [hb1.cell]; rfl
  have k1 : w1.cell? ⟨y, 1, none⟩ = some (.int .u64 (V.has.2 : Int)) := by rw [hb1.cell]; rfl
  have k2 : w1.cell? ⟨y, 2, none⟩ = some (.int .u64 (V.may.1 : Int)) := by rw [hb1.cell]; rfl
  have k3 : w1.cell? ⟨y, 3, none⟩ = some (.int .u64 (V.may.2 : Int)) := by rw [hb1.cell]; rfl
  have k4 : w1.cell? ⟨y, 4, none⟩ = some (.bool V.over) := by rw [hb1.cell]; rfl
  have f0 : w1.frozen? ⟨y, 0, none⟩ = false := hb1.frozen 0
  have f1 : w1.frozen? ⟨y, 1, none⟩ = false := hb1.frozen 1
  have f2 : w1.frozen? ⟨y, 2, none⟩ = false := hb1.frozen 2
  have f3 : w1.frozen? ⟨y, 3, none⟩ = false := hb1.frozen 3
  have f4 : w1.frozen? ⟨y, 4, none⟩ = false := hb1.frozen 4
  have HB := Lib.hid hb1
  have HW : Hid (Below w.heap.size w w1) := Lib.hid (by rw [hw1]; exact (Below.refl _ w).alloc (Nat.le_refl _) _)
  have HE := Lib.hid hw1
  clear hb g0 hb1 hw1 hy
  go_enter Try.func74, Try.ntmps74
  go_upto_region 1 with fail
  rw [← HE.out]
  clear HE
  go_wp2
  go_end0
  exact ⟨rfl, (Blk.set (Blk.set (Blk.set HB.out 2 _) 3 _) 4 _), (only_put (only_put (only_put (OnlyS.of_below (S := fun k => k = y) HW.out fun k hk _ => hk) rfl 2 _) rfl 3 _) rfl 4 _)⟩

theorem fits_any {w : World} {y : Nat} {V : RV} {h : Hd} (hb : Blk w y 77 (rC V)) (hf : h = V.has ∨ h = V.may) : Calls Try.prog 78 #[.pointer (some ⟨y, 0, none⟩), hv h] w fun e w' => e = .returned (.bool true) ∧ Below w.heap.size w w' := by
  obtain ⟨a, b⟩ := h
  obtain ⟨w1, hw1⟩ : ∃ w1, w1 = w.alloc (.cells #[.int .u64 (a : Int), .int .u64 (b : Int)] 63) := ⟨_, rfl⟩
  have g0 : Blk w1 w.heap.size 63 #[.int .u64 (a : Int), .int .u64 (b : Int)] := by rw [hw1]; exact Blk.new w _ _
  have hb1 : Blk w1 y 77 (rC V) := by rw [hw1]; exact hb.keep ((Below.refl _ w).alloc (Nat.le_refl _) _)
  have hy : y < w.heap.size := hb.lt
  have hne : w.heap.size ≠ y := by omega
  have b0 : w1.cell? ⟨w.heap.size, 0, none⟩ = some (.int .u64 (a : Int)) := by rw [g0.cell]; rfl
  have b1 : w1.cell? ⟨w.heap.size, 1, none⟩ = some (.int .u64 (b : Int)) := by rw [g0.cell]; rfl
  have k0 : w1.cell? ⟨y, 0, none⟩ = some (.int .u64 (V.has.1 : Int)) := by rw [hb1.cell]; rfl
  have k1 : w1.cell? ⟨y, 1, none⟩ = some (.int .u64 (V.has.2 : Int)) := by rw [hb1.cell]; rfl
  have k2 : w1.cell? ⟨y, 2, none⟩ = some (.int .u64 (V.may.1 : Int)) := by rw [hb1.cell]; rfl
  have k3 : w1.cell? ⟨y, 3, none⟩ = some (.int .u64 (V.may.2 : Int)) := by rw [hb1.cell]; rfl
  have k4 : w1.cell? ⟨y, 4, none⟩ = some (.bool V.over) := by rw [hb1.cell]; rfl
  have f0 : w1.frozen? ⟨y, 0, none⟩ = false := hb1.frozen 0
  have f1 : w1.frozen? ⟨y, 1, none⟩ = false := hb1.frozen 1
  have f2 : w1.frozen? ⟨y, 2, none⟩ = false := hb1.frozen 2
  have f3 : w1.frozen? ⟨y, 3, none⟩ = false := hb1.frozen 3
  have f4 : w1.frozen? ⟨y, 4, none⟩ = false := hb1.frozen 4
  have HB := Lib.hid hb1
  have HW : Hid (Below w.heap.size w w1) := Lib.hid (by rw [hw1]; exact (Below.refl _ w).alloc (Nat.le_refl _) _)
  have HE := Lib.hid hw1
  clear hb g0 hb1 hw1 hy
  have HF := Lib.hid hf
  clear hf
  go_enter Try.func78, Try.ntmps78
  go_upto_region 1 with fail
  rw [← HE.out]
  clear HE
  by_cases h1 : ((a, b) : Hd) = V.has
  · have e1 : a = V.has.1 := congrArg Prod.fst h1
    have e2 : b = V.has.2 := congrArg Prod.snd h1
    rw [← e1] at k0
    rw [← e2] at k1
    clear h1 e1 e2
    go_quiet (fail)
    go_wp2
    go_ret
    exact ⟨rfl, below_dn HW.out _⟩
  · have hm : ((a, b) : Hd) = V.may := (HF.out).resolve_left h1
    have e1 : a = V.may.1 := congrArg Prod.fst hm
    have e2 : b = V.may.2 := congrArg Prod.snd hm
    rw [← e1] at k2
    rw [← e2] at k3
    obtain ⟨c, hc⟩ : ∃ c, c = V.has.1 := ⟨_, rfl⟩
    obtain ⟨d, hd⟩ : ∃ d, d = V.has.2 := ⟨_, rfl⟩
    rw [← hc] at k0
    rw [← hd] at k1
    have hx : (((a : Int) == (c : Int)) = false) ∨ (((a : Int) == (c : Int)) = true ∧ ((b : Int) == (d : Int)) = false) := by
      by_cases h : a = c
      · right
        refine ⟨by simp [h], ?_⟩
        have : b ≠ d := fun h' => h1 (by rw [h, h', hc, hd])
        simp; omega
      · left
        simp; omega
    clear h1 hm e1 e2 hc hd
    rcases hx with hx | ⟨hx, hx2⟩
    · go_quiet (fail)
      go_wp2
      go_ret
      exact ⟨rfl, below_dn HW.out _⟩
    · go_quiet (fail)
      go_wp2
      go_ret
      exact ⟨rfl, below_dn HW.out _⟩
end Go.Proofs.Ytboongdoggggoaa
