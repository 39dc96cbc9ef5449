/- Which entries are formed: the reference. -/
import Derived.Test.YtleoiklcddkgdaaCmdForm
namespace Go.Proofs.Ytleoiklcddkgdaa
open Go.RowKit BinMath CmdMath

set_option maxHeartbeats 4000000 in
theorem refFormed_any (e : Ent) (a b : Option Addr) (ca cb : Nat) (w : World) (he : Has w e a ca b cb) :
    Calls Try.prog 13 #[.agg (entC e a ca b cb)] w fun r w' => r = .returned (.bool (formed e)) ∧ Below w.heap.size w w' := by
  obtain ⟨t, k, c, s, d, m⟩ := e
  obtain ⟨nd, hnd⟩ : ∃ nd, nd = d.length := ⟨_, rfl⟩
  obtain ⟨nm, hnm⟩ : ∃ nm, nm = m.length := ⟨_, rfl⟩
  have b1 : Below w.heap.size w (w.alloc (.cells (entC ⟨t, k, c, s, d, m⟩ a ca b cb) 26)) := (Below.refl _ _).alloc (Nat.le_refl _) _
  have h1 := he.below (Nat.le_refl _) b1
  have HB := Lib.hid b1
  have hdl := he.dl
  have hml := he.ml
  have ht64 := he.ok.t
  have hM := refMembers_any _ m _ h1.m hml
  simp only [entC] at hM h1 HB hdl hml ⊢
  rw [← hnd, ← hnm] at HB ⊢
  rw [← hnd, ← hnm] at hM
  rw [← hnm] at hml
  rw [← hnd] at hdl
  have HM := Lib.hid hM
  have HND := Lib.hid hnd
  have HNM := Lib.hid hnm
  clear he b1 h1 hM hnd hnm
  by_cases ht1 : t < 1
  · rw [formed_term (fun h => absurd h.1 (show ¬ 1 ≤ t by omega))]
    have q : decide ((t : Int) < 1) = true := by simp; omega
    go_enter Try.func13, Try.ntmps13
    go_wp2
    go_ret
    exact ⟨rfl, HB.out⟩
  · have q1 : decide ((t : Int) < 1) = false := by simp; omega
    by_cases ht2 : 4611686018427387904 < t
    · rw [formed_term (fun h => absurd h.2 (show ¬ t ≤ 4611686018427387904 by omega))]
      have q : decide ((4611686018427387904 : Int) < (t : Int)) = true := by simp; omega
      go_enter Try.func13, Try.ntmps13
      go_wp2
      go_ret
      exact ⟨rfl, HB.out⟩
    · have q2 : decide ((4611686018427387904 : Int) < (t : Int)) = false := by simp; omega
      have HT := Lib.hid (show 1 ≤ t ∧ t ≤ 4611686018427387904 by omega)
      clear ht1 ht2
      by_cases hc : c = 0
      · subst hc
        by_cases hs : s = 0
        · subst hs
          by_cases hd : nd = 0
          · have HBR0 : Hid (∀ k : Int, bare ⟨t, k, 0, 0, d, m⟩ = true) := Lib.hid fun k => by simp only [bare]; rw [← HND.out, hd]; rfl
            have e0 : ((nd : Int) == 0) = true := by rw [hd]; rfl
            clear hd
            by_cases k1 : k = 1
            · subst k1
              go_enter Try.func13, Try.ntmps13
              go_wp2
              go_ret
              refine ⟨congrArg (fun b => Ending.returned (Value.bool b)) ?_, HB.out⟩
              rw [formed_one HT.out rfl, (show bare ⟨t, 1, 0, 0, d, m⟩ = true from HBR0.out _)]
              rw [Bool.true_and, ← HNM.out]
              by_cases h0 : nm = 0 <;> simp [h0]
            · by_cases k2 : k = 2
              · subst k2
                by_cases h64 : nd ≤ 64
                · have H64 := Lib.hid h64
                  have q : decide ((nd : Int) ≤ 64) = true := by simp; omega
                  clear h64
                  go_enter Try.func13, Try.ntmps13
                  go_wp2
                  go_ret
                  refine ⟨congrArg (fun b => Ending.returned (Value.bool b)) ?_, HB.out⟩
                  rw [formed_two HT.out rfl, decide_eq_true (show d.length ≤ 64 by rw [← HND.out]; exact H64.out), ← HNM.out, Bool.true_and]
                  by_cases h0 : nm = 0 <;> simp [h0]
                · have H64 := Lib.hid h64
                  have q : decide ((nd : Int) ≤ 64) = false := by simp; omega
                  clear h64
                  go_enter Try.func13, Try.ntmps13
                  go_wp2
                  go_ret
                  refine ⟨congrArg (fun b => Ending.returned (Value.bool b)) ?_, HB.out⟩
                  rw [formed_two HT.out rfl, decide_eq_false (show ¬ d.length ≤ 64 by rw [← HND.out]; exact H64.out)]
                  rfl
              · by_cases k3 : k = 3
                · subst k3
                  go_enter Try.func13, Try.ntmps13
                  go_wp2_with fail
                  refine HM.out.mono ?_
                  rintro r w' ⟨rfl, nq, rfl⟩
                  go_wp2
                  go_ret
                  exact ⟨congrArg (fun b => Ending.returned (Value.bool b)) (by rw [formed_three HT.out rfl, (show bare ⟨t, 3, 0, 0, d, m⟩ = true from HBR0.out _), Bool.true_and]), below_drewN HB.out nq⟩
                · have e1 : (k == 1) = false := beq_false_of_ne k1
                  have e2 : (k == 2) = false := beq_false_of_ne k2
                  have e3 : (k == 3) = false := beq_false_of_ne k3
                  rw [formed_none k1 k2 k3]
                  go_enter Try.func13, Try.ntmps13
                  go_wp2
                  go_ret
                  exact ⟨rfl, HB.out⟩
          · have HBR0 : Hid (∀ k : Int, bare ⟨t, k, 0, 0, d, m⟩ = false) := Lib.hid fun k => by simp only [bare]; rw [← HND.out, decide_eq_false hd, Bool.and_false]
            have e0 : ((nd : Int) == 0) = false := beq_false_of_ne (by omega)
            clear hd
            by_cases k1 : k = 1
            · subst k1
              go_enter Try.func13, Try.ntmps13
              go_wp2
              go_ret
              refine ⟨congrArg (fun b => Ending.returned (Value.bool b)) ?_, HB.out⟩
              rw [formed_one HT.out rfl, (show bare ⟨t, 1, 0, 0, d, m⟩ = false from HBR0.out _)]
              rfl
            · by_cases k2 : k = 2
              · subst k2
                by_cases h64 : nd ≤ 64
                · have H64 := Lib.hid h64
                  have q : decide ((nd : Int) ≤ 64) = true := by simp; omega
                  clear h64
                  go_enter Try.func13, Try.ntmps13
                  go_wp2
                  go_ret
                  refine ⟨congrArg (fun b => Ending.returned (Value.bool b)) ?_, HB.out⟩
                  rw [formed_two HT.out rfl, decide_eq_true (show d.length ≤ 64 by rw [← HND.out]; exact H64.out), ← HNM.out, Bool.true_and]
                  by_cases h0 : nm = 0 <;> simp [h0]
                · have H64 := Lib.hid h64
                  have q : decide ((nd : Int) ≤ 64) = false := by simp; omega
                  clear h64
                  go_enter Try.func13, Try.ntmps13
                  go_wp2
                  go_ret
                  refine ⟨congrArg (fun b => Ending.returned (Value.bool b)) ?_, HB.out⟩
                  rw [formed_two HT.out rfl, decide_eq_false (show ¬ d.length ≤ 64 by rw [← HND.out]; exact H64.out)]
                  rfl
              · by_cases k3 : k = 3
                · subst k3
                  go_enter Try.func13, Try.ntmps13
                  go_wp2
                  go_ret
                  exact ⟨congrArg (fun b => Ending.returned (Value.bool b)) (by rw [formed_three HT.out rfl, (show bare ⟨t, 3, 0, 0, d, m⟩ = false from HBR0.out _), Bool.false_and]), HB.out⟩
                · have e1 : (k == 1) = false := beq_false_of_ne k1
                  have e2 : (k == 2) = false := beq_false_of_ne k2
                  have e3 : (k == 3) = false := beq_false_of_ne k3
                  rw [formed_none k1 k2 k3]
                  go_enter Try.func13, Try.ntmps13
                  go_wp2
                  go_ret
                  exact ⟨rfl, HB.out⟩
        · have HBR0 : Hid (∀ k : Int, bare ⟨t, k, 0, s, d, m⟩ = false) := Lib.hid fun k => by simp only [bare]; rw [decide_eq_false hs, Bool.and_false, Bool.false_and]
          have e0 : ((s : Int) == 0) = false := beq_false_of_ne (by omega)
          clear hs
          by_cases k1 : k = 1
          · subst k1
            go_enter Try.func13, Try.ntmps13
            go_wp2
            go_ret
            refine ⟨congrArg (fun b => Ending.returned (Value.bool b)) ?_, HB.out⟩
            rw [formed_one HT.out rfl, (show bare ⟨t, 1, 0, s, d, m⟩ = false from HBR0.out _)]
            rfl
          · by_cases k2 : k = 2
            · subst k2
              by_cases h64 : nd ≤ 64
              · have H64 := Lib.hid h64
                have q : decide ((nd : Int) ≤ 64) = true := by simp; omega
                clear h64
                go_enter Try.func13, Try.ntmps13
                go_wp2
                go_ret
                refine ⟨congrArg (fun b => Ending.returned (Value.bool b)) ?_, HB.out⟩
                rw [formed_two HT.out rfl, decide_eq_true (show d.length ≤ 64 by rw [← HND.out]; exact H64.out), ← HNM.out, Bool.true_and]
                by_cases h0 : nm = 0 <;> simp [h0]
              · have H64 := Lib.hid h64
                have q : decide ((nd : Int) ≤ 64) = false := by simp; omega
                clear h64
                go_enter Try.func13, Try.ntmps13
                go_wp2
                go_ret
                refine ⟨congrArg (fun b => Ending.returned (Value.bool b)) ?_, HB.out⟩
                rw [formed_two HT.out rfl, decide_eq_false (show ¬ d.length ≤ 64 by rw [← HND.out]; exact H64.out)]
                rfl
            · by_cases k3 : k = 3
              · subst k3
                go_enter Try.func13, Try.ntmps13
                go_wp2
                go_ret
                exact ⟨congrArg (fun b => Ending.returned (Value.bool b)) (by rw [formed_three HT.out rfl, (show bare ⟨t, 3, 0, s, d, m⟩ = false from HBR0.out _), Bool.false_and]), HB.out⟩
              · have e1 : (k == 1) = false := beq_false_of_ne k1
                have e2 : (k == 2) = false := beq_false_of_ne k2
                have e3 : (k == 3) = false := beq_false_of_ne k3
                rw [formed_none k1 k2 k3]
                go_enter Try.func13, Try.ntmps13
                go_wp2
                go_ret
                exact ⟨rfl, HB.out⟩
      · have HBR0 : Hid (∀ k : Int, bare ⟨t, k, c, s, d, m⟩ = false) := Lib.hid fun k => by simp only [bare]; rw [decide_eq_false hc, Bool.false_and, Bool.false_and]
        have e0 : ((c : Int) == 0) = false := beq_false_of_ne (by omega)
        clear hc
        by_cases k1 : k = 1
        · subst k1
          go_enter Try.func13, Try.ntmps13
          go_wp2
          go_ret
          refine ⟨congrArg (fun b => Ending.returned (Value.bool b)) ?_, HB.out⟩
          rw [formed_one HT.out rfl, (show bare ⟨t, 1, c, s, d, m⟩ = false from HBR0.out _)]
          rfl
        · by_cases k2 : k = 2
          · subst k2
            by_cases h64 : nd ≤ 64
            · have H64 := Lib.hid h64
              have q : decide ((nd : Int) ≤ 64) = true := by simp; omega
              clear h64
              go_enter Try.func13, Try.ntmps13
              go_wp2
              go_ret
              refine ⟨congrArg (fun b => Ending.returned (Value.bool b)) ?_, HB.out⟩
              rw [formed_two HT.out rfl, decide_eq_true (show d.length ≤ 64 by rw [← HND.out]; exact H64.out), ← HNM.out, Bool.true_and]
              by_cases h0 : nm = 0 <;> simp [h0]
            · have H64 := Lib.hid h64
              have q : decide ((nd : Int) ≤ 64) = false := by simp; omega
              clear h64
              go_enter Try.func13, Try.ntmps13
              go_wp2
              go_ret
              refine ⟨congrArg (fun b => Ending.returned (Value.bool b)) ?_, HB.out⟩
              rw [formed_two HT.out rfl, decide_eq_false (show ¬ d.length ≤ 64 by rw [← HND.out]; exact H64.out)]
              rfl
          · by_cases k3 : k = 3
            · subst k3
              go_enter Try.func13, Try.ntmps13
              go_wp2
              go_ret
              exact ⟨congrArg (fun b => Ending.returned (Value.bool b)) (by rw [formed_three HT.out rfl, (show bare ⟨t, 3, c, s, d, m⟩ = false from HBR0.out _), Bool.false_and]), HB.out⟩
            · have e1 : (k == 1) = false := beq_false_of_ne k1
              have e2 : (k == 2) = false := beq_false_of_ne k2
              have e3 : (k == 3) = false := beq_false_of_ne k3
              rw [formed_none k1 k2 k3]
              go_enter Try.func13, Try.ntmps13
              go_wp2
              go_ret
              exact ⟨rfl, HB.out⟩

end Go.Proofs.Ytleoiklcddkgdaa
