/- The reference's Members. -/
import Derived.Test.YtleoiklcddkgdaaCmdSame
namespace Go.Proofs.Ytleoiklcddkgdaa
open Go.RowKit BinMath CmdMath

set_option maxHeartbeats 2000000 in
theorem refMembers_any (v : Value) (l : List Nat) (w : World) (hv : Nums w v l) (hl : l.length ≤ 140737488351232) :
    Calls Try.prog 15 #[v] w fun e w' => e = .returned (.bool (memOk l)) ∧ ∃ n, w' = w.drewN n := by
  obtain ⟨a, cap, rfl⟩ := hv.shape
  obtain ⟨-, hlc, hc⟩ := hv.at
  obtain ⟨n, hn⟩ : ∃ n, n = l.length := ⟨_, rfl⟩
  have h0 : rises 0 l = rises 0 (l.drop 0) := rfl
  have hmk : memOk l = (decide (0 < n) && rises 0 l) := by
    subst hn
    cases l with
    | nil => rfl
    | cons x r => simp [memOk]
  rw [hmk]
  rw [← hn] at hlc hl ⊢
  have HC := Lib.hid hc
  have HN := Lib.hid hn
  have H0 := Lib.hid h0
  clear hc hn h0 hmk hv
  go_enter Try.func15, Try.ntmps15
  go_wp2
  go_loopw [3] (fun s3 W => ∃ i k m : Nat, i ≤ n ∧ s3 = .int .i64 (i : Int) ∧ (i = 0 → m = 0) ∧ (∀ j, i = j + 1 → ∃ h : j < l.length, m = l[j]) ∧ rises 0 l = rises m (l.drop i) ∧ W = w.drewN k) (fun s3 _ => n - (intOf s3).toNat)
  case atStart => exact ⟨0, 0, 0, by omega, rfl, fun _ => rfl, fun j h => absurd h (by omega), H0.out, rfl⟩
  case round =>
    obtain ⟨i, k, m, hi, rfl, hm0, hmj, hr, rfl⟩ := hrel
    have HR := Lib.hid hr
    clear hr
    by_cases hlt : i < n
    · have hil : i < l.length := by have := HN.out; omega
      obtain ⟨ad, rfl, hcell⟩ := HC.out i hil
      have hst := rises_step (a := m) hil
      have hnx : ∀ j, i + 1 = j + 1 → ∃ h : j < l.length, l[i] = l[j] := fun j e => by
        obtain rfl : i = j := by omega
        exact ⟨hil, rfl⟩
      obtain ⟨y, hye⟩ : ∃ y, y = l[i] := ⟨_, rfl⟩
      rw [← hye] at hcell hst hnx
      have HS := Lib.hid hst
      have HX := Lib.hid hnx
      clear hst hye hil hnx
      by_cases hy1 : (y : Int) < 1
      · have HY := Lib.hid hy1
        have HM0 := Lib.hid hm0
        have HMJ := Lib.hid hmj
        have hd : decide ((y : Int) < 1) = true := by simpa using hy1
        clear hm0 hmj
        go_wp2
        go_quiet (fail)
        go_wp2
        go_ret
        have e : ¬ (m < y ∧ y ≤ 7) := by have := HY.out; omega
        rw [HR.out, HS.out, decide_eq_false e, Bool.false_and, Bool.and_false]
        exact ⟨rfl, _, World.drewN_drewN ..⟩
      · have hd1 : decide ((y : Int) < 1) = false := by simpa using hy1
        by_cases hy7 : (7 : Int) < (y : Int)
        · have HY := Lib.hid hy7
          have hd : decide ((7 : Int) < (y : Int)) = true := by simpa using hy7
          clear hm0 hmj
          go_wp2
          go_quiet (fail)
          go_wp2
          go_ret
          have e : ¬ (m < y ∧ y ≤ 7) := by have := HY.out; omega
          rw [HR.out, HS.out, decide_eq_false e, Bool.false_and, Bool.and_false]
          exact ⟨rfl, _, World.drewN_drewN ..⟩
        · have hd7 : decide ((7 : Int) < (y : Int)) = false := by simpa using hy7
          have HY1 := Lib.hid hy1
          have HY7 := Lib.hid hy7
          rcases Nat.eq_zero_or_pos i with hi0 | hi0
          · subst hi0
            obtain rfl := hm0 rfl
            have hcell0 : w.cell? ad = some (.int .u64 (y : Int)) := by simpa [Addr.add] using hcell
            clear hm0 hmj hy1 hy7 hcell
            go_wp2
            go_quiet (fail)
            go_wp2
            go_round
            case rel =>
              have e : 0 < y ∧ y ≤ 7 := by have := HY1.out; have := HY7.out; omega
              exact ⟨1, _, y, by omega, rfl, fun h => absurd h (by omega), HX.out, by rw [HR.out, HS.out, decide_eq_true e, Bool.true_and], rfl⟩
            case measure => simp [intOf]; omega
          · obtain ⟨j, hj⟩ : ∃ j, i = j + 1 := ⟨i - 1, by omega⟩
            obtain ⟨hjl, hmj'⟩ := hmj j hj
            obtain ⟨ad', hade, hcj⟩ := HC.out j hjl
            obtain rfl : ad = ad' := by simpa using hade
            rw [← hmj'] at hcj
            clear hm0 hmj hmj' hjl hade hy1 hy7
            have hpos : (0 : Int) < (i : Int) := by omega
            have hjn : j < n := by omega
            have hwr : IntKind.i64.wrap ((i : Int) - 1) = (j : Int) := by rw [IntKind.wrap_i64]; omega
            have HI := Lib.hid hj
            clear hj
            by_cases hmy : (y : Int) ≤ (m : Int)
            · have HMY := Lib.hid hmy
              have hdm : decide ((y : Int) ≤ (m : Int)) = true := by simpa using hmy
              have hmyN : y ≤ m := by omega
              clear hmy
              go_wp2
              go_quiet (fail)
              go_wp2
              go_ret
              have e : ¬ (m < y ∧ y ≤ 7) := by have := HMY.out; omega
              rw [HR.out, HS.out, decide_eq_false e, Bool.false_and, Bool.and_false]
              exact ⟨rfl, _, World.drewN_drewN ..⟩
            · have HMY := Lib.hid hmy
              have hdm : decide ((y : Int) ≤ (m : Int)) = false := by simpa using hmy
              have hmyN : ¬ y ≤ m := by omega
              clear hmy
              go_wp2
              go_quiet (fail)
              go_wp2
              go_round
              case rel =>
                have e : m < y ∧ y ≤ 7 := by have := HMY.out; have := HY7.out; omega
                exact ⟨i + 1, _, y, by omega, by go_num, fun h => absurd h (by omega), HX.out, by rw [HR.out, HS.out, decide_eq_true e, Bool.true_and], rfl⟩
              case measure => simp [intOf]; omega
    · go_wp2
      go_ret
      have e : l.drop i = [] := List.drop_eq_nil_of_le (by have := HN.out; omega)
      rw [HR.out, e]
      refine ⟨congrArg (fun b => Ending.returned (Value.bool b)) ?_, _, rfl⟩
      simp [rises]

end Go.Proofs.Ytleoiklcddkgdaa
