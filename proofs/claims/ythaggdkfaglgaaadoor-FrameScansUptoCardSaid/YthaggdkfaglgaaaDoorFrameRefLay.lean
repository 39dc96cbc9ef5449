/- The reference's Lay; Same. -/
import Derived.Test.YthaggdkfaglgaaaDoorFrameLay
import Derived.BigQuiet
import Derived.Deep.QuietTactic
namespace Go.Proofs.YthaggdkfaglgaaaDoor
set_option maxRecDepth 20000
open Go.RowKit FrameMath CrcMath

set_option maxHeartbeats 1000000 in
/-- Lists of the same texts are the same. -/
theorem same_any (va vb : Value) (T : List (List UInt8)) (w : World) (ha : Txs w va T) (hb : Txs w vb T) (hn : T.length ≤ 1099511627776) :
    Calls Tryd.prog 12 #[va, vb] w fun e w' => e = .returned (.bool true) ∧ ∃ q, w' = w.drewN q := by
  obtain ⟨a, cap, rfl, hcap, hT⟩ := ha
  obtain ⟨b, cap2, rfl, hcap2, hT2⟩ := hb
  have HA := Lib.hid hT
  have HB := Lib.hid hT2
  obtain ⟨n, hn'⟩ : ∃ n, n = T.length := ⟨_, rfl⟩
  rw [← hn'] at hcap hcap2 hn ⊢
  have HN := Lib.hid hn'
  clear hT hT2 hn'
  go_enter Tryd.func12, Tryd.ntmps12
  go_wp2
  go_loopw [5] (fun s5 wr => ∃ i q : Nat, i ≤ n ∧ s5 = .int .i64 i ∧ wr = w.drewN q) (fun s5 _ => n - (intOf s5).toNat)
  case atStart => exact ⟨0, 0, Nat.zero_le _, rfl, rfl⟩
  case round =>
    obtain ⟨i, q, hi, rfl, rfl⟩ := hrel
    by_cases hlt : i < n
    · obtain ⟨t, hti⟩ : ∃ t, T[i]? = some t := ⟨T[i]'(by have := HN.out; omega), List.getElem?_eq_getElem _⟩
      obtain ⟨ad, A, C, rfl, hc0, hx0⟩ := HA.out i t hti
      obtain ⟨ad2, A2, C2, rfl, hc2, hx2⟩ := HB.out i t hti
      have c1 : ∀ N, (convert 22 9 (.slice A t.length C)).run Tryd.prog (w.drewN N) = .ok (.string ⟨t.toArray⟩) (w.drewN N) := fun N => conv_bys (show Bys (w.drewN N) _ t from hx0)
      have c2 : ∀ N, (convert 22 9 (.slice A2 t.length C2)).run Tryd.prog (w.drewN N) = .ok (.string ⟨t.toArray⟩) (w.drewN N) := fun N => conv_bys (show Bys (w.drewN N) _ t from hx2)
      obtain ⟨m, hm⟩ : ∃ m, m = t.length := ⟨_, rfl⟩
      obtain ⟨X, hX⟩ : ∃ X : ByteArray, X = ⟨t.toArray⟩ := ⟨_, rfl⟩
      rw [← hm] at hc0 hc2 c1 c2
      rw [← hX] at c1 c2
      have i0 : (0 : Int) ≤ (i : Int) := Int.natCast_nonneg _
      have i1 : (i : Int) < (n : Int) := by omega
      clear hti hx0 hx2 hm hX
      go_wp2_with fail
      go_quiet (fail)
      go_wp2
      go_roundw
      case rel => exact ⟨i + 1, _, by omega, by go_num, rfl⟩
      case measure => simp [intOf]; omega
    · obtain rfl : i = n := by omega
      go_wp2
      go_ret
      exact ⟨rfl, _, rfl⟩
end Go.Proofs.YthaggdkfaglgaaaDoor
