/- What every law of layer 8 asks first. -/
import Derived.Test.YtabddeoeihlnnaaDiskLone
import Derived.Lib.SlBytesConst
namespace Go.Proofs.Ytabddeoeihlnnaa
open Go.RowKit Go.Maps DiskMath

def sA : St := ((St.new 100).write [97] 1 [120, 121]).2
theorem sA_said : ((St.new 100).write [97] 1 [120, 121]).1 = 0 := by decide +kernel
theorem sA_read : sA.read [97] = (0, [0, 120, 121]) := by decide +kernel
theorem sA_ops : sA.ops.length = 1 := by decide +kernel
theorem sA_tot : tot sA.now = 3 := by decide +kernel

set_option maxHeartbeats 1000000 in
set_option maxRecDepth 20000 in
theorem dawake_any (w : World) : Calls Try.prog 8 #[] w fun e w' => e = .returned (.bool true) ∧ Below w.heap.size w w' := by
  go_enter Try.func8, Try.ntmps8
  have kc := fun (w : World) (C : Array Value) (n c : Nat) => Lib.run_convert_bytes_const (P := Try.prog) w 30 5 C n c Try.underlying30 Try.underlying5
  go_wp2_with fail
  refine (lnew_any w w 100 (Below.refl _ _)).mono ?_
  rintro e w1 ⟨d, rfl, hl⟩
  have HL := Lib.hid hl
  clear hl
  go_wp2_with fail
  clear kc
  have hb : Below w1.heap.size w1 (w1.alloc (.cells #[.int .u8 120, .int .u8 121] 5 (2, 3))) := (Below.refl _ _).alloc (Nat.le_refl _) _
  have hx : Bys (w1.alloc (.cells #[.int .u8 120, .int .u8 121] 5 (2, 3))) (.slice (some ⟨w1.heap.size, 0, none⟩) 2 2) [120, 121] := .inr ⟨_, _, rfl, fun i hi => by
    rw [addr_add, Nat.zero_add, World.cell?_alloc_mark]
    have h2 : i = 0 ∨ i = 1 := by simp at hi; omega
    rcases h2 with rfl | rfl <;> rfl⟩
  have hw := lwrite_any (HL.out.below hb) (n := [97]) (a := 1) (by omega) (by decide) (by omega) hx rfl (by omega)
  rw [sA_said] at hw
  have HWr := Lib.hid hw
  clear hb hx hw
  refine HWr.out.mono ?_
  rintro e w2 ⟨rfl, hl2⟩
  have HL2 : Hid (Lone w w2 d (0 + 1) sA) := hl2
  clear hl2 HWr
  go_wp2_with fail
  have hr := lread_any HL2.out (n := [97]) (by decide)
  rw [sA_read] at hr
  have HR := Lib.hid hr
  clear hr
  refine HR.out.mono ?_
  rintro e w3 ⟨v, rfl, hr, hb3, hl3⟩
  have hcv := conv_bys hr.bys
  have HL3 := Lib.hid hl3
  have hu := lused_any hl3
  have hwt := lwaiting_any hl3
  rw [sA_tot] at hu
  rw [sA_ops] at hwt
  have HU := Lib.hid hu
  have HWt := Lib.hid hwt
  clear hr hb3 hl3 HR hu hwt
  go_wp2_with fail
  refine HWt.out.mono ?_
  rintro e w4 ⟨rfl, rfl⟩
  go_wp2_with fail
  refine HU.out.mono ?_
  rintro e w4 ⟨rfl, rfl⟩
  go_wp2
  go_ret
  exact ⟨rfl, HL3.out.bel⟩
end Go.Proofs.Ytabddeoeihlnnaa
