/- Proved here: what the operations on words give; the turns of the program and of the reference. -/
import Derived.Test.YtdhfabjkpffhnaaDoorRows
import Derived.Test.YtdhfabjkpffhnaaDoorShaMath
import Derived.WalkKit
import Derived.WalkSpells
import Derived.WalkLawsBesides
import Derived.Lib.Hide
import Derived.OpenShut
namespace Go.Proofs.YtdhfabjkpffhnaaDoor
set_option maxRecDepth 20000
open Go.RowKit ShaMath

/-- A word as a number; as a value. -/
def rv (x : BitVec 32) : Int := (x.toNat : Int)
def ru (x : BitVec 32) : Value := .int .u32 (rv x)

theorem rv_bd (x : BitVec 32) : 0 ≤ rv x ∧ rv x ≤ 4294967295 := by
  have := x.isLt
  unfold rv
  omega
theorem rv_xor (x y : BitVec 32) : bits .xor .u32 (rv x) (rv y) = rv (x ^^^ y) := by
  unfold rv
  rw [u32_xor_nat _ _ x.isLt y.isLt, BitVec.toNat_xor]
theorem rv_and (x y : BitVec 32) : bits .and .u32 (rv x) (rv y) = rv (x &&& y) := by
  unfold rv
  rw [u32_and_nat _ _ x.isLt y.isLt, BitVec.toNat_and]
theorem rv_or (x y : BitVec 32) : bits .or .u32 (rv x) (rv y) = rv (x ||| y) := by
  unfold rv
  rw [u32_or_nat _ _ x.isLt y.isLt, BitVec.toNat_or]
theorem rv_add (x y : BitVec 32) : IntKind.u32.wrap (rv x + rv y) = rv (x + y) := by
  rw [IntKind.wrap_u32']
  unfold rv
  rw [BitVec.toNat_add]
  omega
theorem rv_shr (x : BitVec 32) (k : Nat) : rv x / 2 ^ k = rv (x >>> k) := by
  unfold rv
  rw [BitVec.toNat_ushiftRight, Nat.shiftRight_eq_div_pow]
  simp
theorem rv_shl (x : BitVec 32) (k : Nat) : IntKind.u32.wrap (rv x * 2 ^ k) = rv (x <<< k) := by
  rw [IntKind.wrap_u32']
  unfold rv
  rw [BitVec.toNat_shiftLeft, Nat.shiftLeft_eq]
  simp

theorem rv_shl_lit (x : BitVec 32) (k : Nat) (n : Int) (hn : n = 2 ^ k) : rv x * n % 4294967296 = rv (x <<< k) := by
  rw [hn, ← rv_shl, IntKind.wrap_u32']
theorem rv_shr_lit (x : BitVec 32) (k : Nat) (n : Int) (hn : n = 2 ^ k) : rv x / n = rv (x >>> k) := by
  rw [hn, rv_shr]
theorem rv_add_mod (x y : BitVec 32) : (rv x + rv y) % 4294967296 = rv (x + y) := by
  rw [← rv_add, IntKind.wrap_u32']

theorem ret_u32 {a b : Int} (h : a = b) : Ending.returned (.int .u32 a) = .returned (.int .u32 b) := by rw [h]

theorem right_any (x : BitVec 32) (k : Nat) (w : World) (h0 : 0 < k) (hk : k < 32) :
    Calls Tryd.prog 103 #[.int .u32 (rv x), .int .u64 (k : Int)] w fun e w' => e = .returned (.int .u32 (rv (ror x k))) ∧ w = w' := by
  have b0 := (rv_bd x).1
  have b1 := (rv_bd x).2
  go_enter Tryd.func103, Tryd.ntmps103
  go_wp2
  go_ret
  refine ⟨ret_u32 ?_, rfl⟩
  have e : rv x * 2 ^ (32 - k) % 4294967296 = rv (x <<< (32 - k)) := by rw [← rv_shl, IntKind.wrap_u32']
  rw [e, rv_shr, rv_or]
  rfl

theorem rot_any (x : BitVec 32) (k : Nat) (w : World) (h0 : 0 < k) (hk : k < 32) :
    Calls Tryd.prog 101 #[.int .u32 (rv x), .int .u64 (k : Int)] w fun e w' => e = .returned (.int .u32 (rv (ror x k))) ∧ w = w' := by
  have b0 := (rv_bd x).1
  have b1 := (rv_bd x).2
  go_enter Tryd.func101, Tryd.ntmps101
  go_wp2
  go_ret
  refine ⟨ret_u32 ?_, rfl⟩
  have e : rv x * 2 ^ (32 - k) % 4294967296 = rv (x <<< (32 - k)) := by rw [← rv_shl, IntKind.wrap_u32']
  rw [e, rv_shr, rv_or]
  rfl
end Go.Proofs.YtdhfabjkpffhnaaDoor
