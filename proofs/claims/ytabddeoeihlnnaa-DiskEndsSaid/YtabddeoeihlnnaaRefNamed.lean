/- The reference's Named. -/
import Derived.Test.YtabddeoeihlnnaaRefKit
namespace Go.Proofs.Ytabddeoeihlnnaa
open Go.RowKit Go.Maps DiskMath

set_option maxHeartbeats 1000000 in
theorem named_any (n : Nm) (w : World) (hn : n.length ≤ 9223372036854775807) : Calls Try.prog 49 #[nm n] w fun e w' => e = .returned (.bool (named n)) ∧ w = w' := by
  obtain ⟨S, hS⟩ : ∃ S : ByteArray, nm n = .string S := ⟨_, rfl⟩
  have hsz : S.size = n.length := by
    unfold nm at hS
    cases hS
    show n.toArray.size = _
    simp
  have hget : ∀ (i : Nat) (h : i < S.size) (h' : i < n.length), (S[i]'h).toNat = (n[i]'h').toNat := fun i h h' => by
    unfold nm at hS
    cases hS
    rfl
  rw [hS]
  by_cases h1 : n.length < 1
  · have hr : named n = false := by unfold named; simp; omega
    have b1 : decide ((n.length : Int) < 1) = true := by simp; omega
    rw [hr]
    go_enter Try.func49, Try.ntmps49
    go_wp2
    all_goals first | (go_ret; exact ⟨rfl, rfl⟩) | skip
  by_cases h2 : 16 < n.length
  · have hr : named n = false := by unfold named; simp; omega
    have b1 : decide ((n.length : Int) < 1) = false := by simp; omega
    have b2 : decide (16 < (n.length : Int)) = true := by simp; omega
    rw [hr]
    go_enter Try.func49, Try.ntmps49
    go_wp2
    all_goals first | (go_ret; exact ⟨rfl, rfl⟩) | skip
  have b1 : decide ((n.length : Int) < 1) = false := by simp; omega
  have b2 : decide (16 < (n.length : Int)) = false := by simp; omega
  obtain ⟨L, hL⟩ : ∃ L, L = n.length := ⟨_, rfl⟩
  rw [← hL] at b1 b2 hsz h1 h2
  have HL := Lib.hid hL
  clear hL hn
  go_enter Try.func49, Try.ntmps49
  go_wp2
  go_loop [3] (fun s3 => ∃ i : Nat, i ≤ L ∧ s3 = .int .i64 i ∧ (n.take i).all okC = true) (fun s3 => L - (intOf s3).toNat)
  case atStart => exact ⟨0, Nat.zero_le _, rfl, rfl⟩
  case round =>
    obtain ⟨i, hi, rfl, hall⟩ := hrel
    have HAll := Lib.hid hall
    clear hall b1 b2
    by_cases hlt : i < L
    · have i0 : (0 : Int) ≤ (i : Int) := Int.natCast_nonneg _
      have i1 : (i : Int) < (L : Int) := by omega
      have hin : i < n.length := by have := HL.out; omega
      have hbad : okC n[i] = false → named n = false := fun h => by
        unfold named
        rw [Bool.and_eq_false_iff]
        right
        rw [List.all_eq_false]
        exact ⟨n[i], List.getElem_mem _, by rw [h]; simp⟩
      have hgood : okC n[i] = true → (n.take (i + 1)).all okC = true := fun h => by
        rw [List.take_succ_eq_append_getElem hin, List.all_append, HAll.out]
        simp [h]
      have HBad := Lib.hid hbad
      have HGood := Lib.hid hgood
      have HG := Lib.hid (hget i (by omega) hin)
      clear hbad hgood
      go_wp2
      all_goals try
        (refine ⟨⟨i + 1, by omega, by go_num, HGood.out ?_⟩, by simp [intOf]; omega⟩
         have h := HG.out
         unfold okC
         simp only [Bool.or_eq_true, Bool.and_eq_true, Bool.not_eq_false', decide_eq_true_eq, beq_iff_eq] at *
         omega)
      all_goals
        refine bodyPost_ret (v := .bool false) (by simp [results, Try.results49, go_sem]) rfl ⟨?_, rfl⟩
        have h := HG.out
        rw [HBad.out (by unfold okC; simp only [Bool.not_eq_true', Bool.or_eq_false_iff, Bool.and_eq_false_iff, decide_eq_false_iff_not, beq_eq_false_iff_ne, ne_eq] at *; omega)]
    · obtain rfl : i = L := by omega
      have hr : named n = true := by
        have h := HAll.out
        rw [List.take_of_length_le (by have := HL.out; omega)] at h
        have := HL.out
        unfold named
        rw [h]
        simp
        omega
      have HR := Lib.hid hr
      clear hr hget
      go_wp2
      exact bodyPost_ret (v := .bool true) (by simp [results, Try.results49, go_sem]) rfl ⟨by rw [HR.out], rfl⟩
end Go.Proofs.Ytabddeoeihlnnaa
