/- Proved here: the sums of the program (by its table) and of the reference are those of the plain words, of any bytes wherever they lie; what every law asks first. -/
import Derived.Test.YthaggdkfaglgaaaDoorCrcNum
import Derived.Test.YthaggdkfaglgaaaDoorBys
import Derived.Lib.SlBytesConst
namespace Go.Proofs.YthaggdkfaglgaaaDoor
set_option maxRecDepth 20000
open Go.RowKit CrcMath

/-- The table's cells. -/
def Tab (w : World) : Prop := ∀ j : Nat, j < 16 → w.cell? ⟨0, j, none⟩ = some (.int .u32 (rv (T j)))

theorem Tab.below {w w' : World} (h : Tab w) {B : Nat} (hB : w.heap.size ≤ B) (hb : Below B w w') : Tab w' := fun j hj => by
  have h1 := h j hj
  rw [hb.cell (p := ⟨0, j, none⟩) (Nat.lt_of_lt_of_le (World.block_lt_of_cell? w _ h1) hB)]
  exact h1

theorem zx_rv (b : UInt8) : (b.toNat : Int) = rv (zx b) := by
  unfold rv zx
  have := b.toNat_lt
  rw [BitVec.toNat_ofNat]
  omega

theorem rv_and15 (y : BitVec 32) : bits .and .u32 (rv y) 15 = ((y.toNat % 16 : Nat) : Int) := by
  have h := rv_and y 15 (by decide)
  rw [nat_mask4] at h
  exact h

theorem rv_not (x : BitVec 32) : bits .xor .u32 IntKind.u32.max (rv x) = rv (~~~ x) := by
  have e : IntKind.u32.max = rv (4294967295#32) := by decide +kernel
  rw [e, rv_xor]
  congr 1

/-- What a loop over the bytes of a text has done so far. -/
def ReadAt (c : BitVec 32) (l : List UInt8) (s5 s12 : Value) : Prop := ∃ i : Nat, i ≤ l.length ∧ s12 = .int .i64 i ∧ s5 = .int .u32 (rv (R (l.take i) c))

theorem R_snoc (l : List UInt8) (i : Nat) (h : i < l.length) (c : BitVec 32) : R (l.take (i + 1)) c = P 8 (R (l.take i) c ^^^ zx l[i]) := by
  rw [List.take_succ_eq_append_getElem h, R_append]
  rfl

set_option maxHeartbeats 1000000 in
theorem more_any (x : BitVec 32) (v : Value) (l : List UInt8) (w : World) (hv : Bys w v l) (hl : l.length ≤ 140737488355328) (ht : Tab w) :
    Calls Tryd.prog 39 #[.int .u32 (rv x), v] w fun e w' => e = .returned (.int .u32 (rv (more x l))) ∧ w = w' := by
  have HT := Lib.hid ht
  clear ht
  obtain ⟨n, hn⟩ : ∃ n, n = l.length := ⟨_, rfl⟩
  have hb : (∃ ad cap, v = .slice ad n cap ∧ ∀ (i : Nat) (h : i < l.length), ∃ a, ad = some a ∧ w.cell? (a.add i) = some (bv l[i])) := by
    rcases hv with ⟨rfl, rfl⟩ | ⟨ad, cap, rfl, hc⟩
    · exact ⟨none, 0, by simp at hn; subst hn; rfl, fun i h => by simp at h⟩
    · exact ⟨some ad, cap, by rw [hn], fun i h => ⟨ad, rfl, hc i h⟩⟩
  obtain ⟨ad, cap, rfl, hc⟩ := hb
  have HC := Lib.hid hc
  have HN := Lib.hid hn
  have hn1 : n ≤ 140737488355328 := by omega
  clear hc hn hv hl
  go_enter Tryd.func39, Tryd.ntmps39
  go_wp2
  go_loop [5, 12] (fun s5 s12 => ReadAt (~~~ x) l s5 s12) (fun _ s12 => n - (intOf s12).toNat)
  case atStart => exact ⟨0, by omega, rfl, by rw [rv_not]; rfl⟩
  case round =>
    obtain ⟨i, hi, rfl, rfl⟩ := hrel
    obtain ⟨c, hc⟩ : ∃ c, c = R (l.take i) (~~~ x) := ⟨_, rfl⟩
    rw [← hc]
    have HR := Lib.hid hc
    clear hc
    by_cases hlt : i < n
    · have hil : i < l.length := by have := HN.out; omega
      obtain ⟨a, rfl, hcell⟩ := HC.out i hil
      obtain ⟨b, hb⟩ : ∃ b, b = l[i] := ⟨_, rfl⟩
      obtain ⟨k, hk⟩ : ∃ k : Nat, k = b.toNat := ⟨_, rfl⟩
      rw [← hb] at hcell
      rw [bv, ← hk] at hcell
      have hk255 : k ≤ 255 := by have := b.toNat_lt; omega
      obtain ⟨y, hy⟩ : ∃ y, y = c ^^^ zx b := ⟨_, rfl⟩
      obtain ⟨j, hj⟩ : ∃ j, j = y.toNat % 16 := ⟨_, rfl⟩
      obtain ⟨t, ht⟩ : ∃ t, t = T j := ⟨_, rfl⟩
      obtain ⟨z, hz⟩ : ∃ z, z = half y := ⟨_, rfl⟩
      obtain ⟨j2, hj2⟩ : ∃ j, j = z.toNat % 16 := ⟨_, rfl⟩
      obtain ⟨t2, ht2⟩ : ∃ t, t = T j2 := ⟨_, rfl⟩
      obtain ⟨r, hr⟩ : ∃ r, r = half z := ⟨_, rfl⟩
      have f1 : bits .xor .u32 (rv c) (k : Int) = rv y := by rw [hk, zx_rv, rv_xor, hy]
      have f2 : bits .and .u32 (rv y) 15 = (j : Int) := by rw [rv_and15, hj]
      have f3 : w.cell? ⟨0, j, none⟩ = some (.int .u32 (rv t)) := by rw [ht]; exact HT.out j (by omega)
      have f4 : bits .xor .u32 (rv y / 16) (rv t) = rv z := by rw [rv_xor' (rv_shr4 y) rfl, hz, half, ht, hj]
      have f5 : bits .and .u32 (rv z) 15 = (j2 : Int) := by rw [rv_and15, hj2]
      have f6 : w.cell? ⟨0, j2, none⟩ = some (.int .u32 (rv t2)) := by rw [ht2]; exact HT.out j2 (by omega)
      have f7 : bits .xor .u32 (rv z / 16) (rv t2) = rv r := by rw [rv_xor' (rv_shr4 z) rfl, hr, half, ht2, hj2]
      have hj16 : j < 16 := by omega
      have hj216 : j2 < 16 := by omega
      have hend : r = R (l.take (i + 1)) (~~~ x) := by rw [R_snoc l i hil, ← hb, ← HR.out, ← hy, ← half_half, hr, hz]
      have HE := Lib.hid hend
      have b0 := (rv_bd y).1
      have b1 := (rv_bd y).2
      have b2 := (rv_bd z).1
      have b3 := (rv_bd z).2
      clear hb hk hy hj ht hz hj2 ht2 hr hend
      go_wp2
      go_round
      case rel => exact ⟨i + 1, by omega, by go_num, by rw [HE.out]⟩
      case measure => simp [intOf]; omega
    · go_wp2
      go_ret
      exact ⟨ret_u32 (by rw [rv_not, HR.out, List.take_of_length_le (by have := HN.out; omega)]; rfl), rfl⟩

theorem sum_any (v : Value) (l : List UInt8) (w : World) (hv : Bys w v l) (hl : l.length ≤ 140737488355328) (ht : Tab w) :
    Calls Tryd.prog 29 #[v] w fun e w' => e = .returned (.int .u32 (rv (sum l))) ∧ w = w' := by
  have HT := Lib.hid ht
  have HV := Lib.hid hv
  clear ht hv
  go_enter Tryd.func29, Tryd.ntmps29
  go_wp2_with fail
  refine (more_any 0#32 v l _ HV.out hl HT.out).mono ?_
  rintro e w' ⟨rfl, rfl⟩
  go_wp2
  go_ret
  exact ⟨rfl, rfl⟩

set_option maxHeartbeats 1000000 in
theorem refmore_any (x : BitVec 32) (v : Value) (l : List UInt8) (w : World) (hv : Bys w v l) (hl : l.length ≤ 140737488355328) :
    Calls Tryd.prog 34 #[.int .u32 (rv x), v] w fun e w' => e = .returned (.int .u32 (rv (more x l))) ∧ w = w' := by
  obtain ⟨n, hn⟩ : ∃ n, n = l.length := ⟨_, rfl⟩
  have hb : (∃ ad cap, v = .slice ad n cap ∧ ∀ (i : Nat) (h : i < l.length), ∃ a, ad = some a ∧ w.cell? (a.add i) = some (bv l[i])) := by
    rcases hv with ⟨rfl, rfl⟩ | ⟨ad, cap, rfl, hc⟩
    · exact ⟨none, 0, by simp at hn; subst hn; rfl, fun i h => by simp at h⟩
    · exact ⟨some ad, cap, by rw [hn], fun i h => ⟨ad, rfl, hc i h⟩⟩
  obtain ⟨ad, cap, rfl, hc⟩ := hb
  have HC := Lib.hid hc
  have HN := Lib.hid hn
  have hn1 : n ≤ 140737488355328 := by omega
  clear hc hn hv hl
  go_enter Tryd.func34, Tryd.ntmps34
  go_wp2
  go_loop [5, 6] (fun s5 s6 => ReadAt (~~~ x) l s5 s6) (fun _ s6 => n - (intOf s6).toNat)
  case atStart => exact ⟨0, by omega, rfl, by rw [rv_not]; rfl⟩
  case round =>
    obtain ⟨i, hi, rfl, rfl⟩ := hrel
    obtain ⟨c, hc⟩ : ∃ c, c = R (l.take i) (~~~ x) := ⟨_, rfl⟩
    rw [← hc]
    have HR := Lib.hid hc
    clear hc
    by_cases hlt : i < n
    · have hil : i < l.length := by have := HN.out; omega
      obtain ⟨a, rfl, hcell⟩ := HC.out i hil
      obtain ⟨b, hb⟩ : ∃ b, b = l[i] := ⟨_, rfl⟩
      obtain ⟨k, hk⟩ : ∃ k : Nat, k = b.toNat := ⟨_, rfl⟩
      rw [← hb] at hcell
      rw [bv, ← hk] at hcell
      have hk255 : k ≤ 255 := by have := b.toNat_lt; omega
      obtain ⟨y, hy⟩ : ∃ y, y = c ^^^ zx b := ⟨_, rfl⟩
      have f1 : bits .xor .u32 (rv c) (k : Int) = rv y := by rw [hk, zx_rv, rv_xor, hy]
      have hend : P 8 y = R (l.take (i + 1)) (~~~ x) := by rw [R_snoc l i hil, ← hb, ← HR.out, ← hy]
      have HE := Lib.hid hend
      clear hb hk hy hend
      go_wp2_with (go_at_call 42; refine (steps_any y _).mono ?_; rintro e w' ⟨rfl, rfl⟩)
      go_round
      case rel => exact ⟨i + 1, by omega, by go_num, by rw [HE.out]⟩
      case measure => simp [intOf]; omega
    · go_wp2
      go_ret
      exact ⟨ret_u32 (by rw [rv_not, HR.out, List.take_of_length_le (by have := HN.out; omega)]; rfl), rfl⟩

theorem refsum_any (v : Value) (l : List UInt8) (w : World) (hv : Bys w v l) (hl : l.length ≤ 140737488355328) :
    Calls Tryd.prog 25 #[v] w fun e w' => e = .returned (.int .u32 (rv (sum l))) ∧ w = w' := by
  have HV := Lib.hid hv
  clear hv
  go_enter Tryd.func25, Tryd.ntmps25
  go_wp2_with fail
  refine (refmore_any 0#32 v l _ HV.out hl).mono ?_
  rintro e w' ⟨rfl, rfl⟩
  go_wp2
  go_ret
  exact ⟨rfl, rfl⟩

def nine : List UInt8 := [49, 50, 51, 52, 53, 54, 55, 56, 57]
theorem nine_sum : rv (sum nine) = 3808858755 := by decide +kernel
theorem five_three : rv (join 5#32 3#32 0) = 6 := by decide +kernel

end Go.Proofs.YthaggdkfaglgaaaDoor
