/- Joined: CmdEq, CmdRefMem, CmdForm, CmdRefForm. -/
import Derived.Test.YtgbhfolbkgibfaaKAK
/- Same, of entries. -/
namespace Go.Proofs.Ytgbhfolbkgibfaa
set_option maxRecDepth 20000
open Go.RowKit BinMath CmdMath

/-- What two boxes are behind. -/
theorem boxes (w : World) (X Y : Array Value) (t : TypeId) : Below w.heap.size w ((w.alloc (.cells X t)).alloc (.cells Y t)) := ((Below.refl _ _).alloc (Nat.le_refl _) _).alloc (by simp) _

set_option maxHeartbeats 4000000 in
theorem same_any (e f : Ent) (a b a' b' : Option Addr) (ca cb ca' cb' : Nat) (w : World) (he : Has w e a ca b cb) (hf : Has w f a' ca' b' cb') :
    Calls Try.prog 55 #[.agg (entC e a ca b cb), .agg (entC f a' ca' b' cb')] w fun r w' => r = .returned (.bool (decide (e = f))) ∧ Below w.heap.size w w' := by
  obtain ⟨t, k, c, s, d, m⟩ := e
  obtain ⟨t', k', c', s', d', m'⟩ := f
  obtain ⟨nd, hnd⟩ : ∃ nd, nd = d.length := ⟨_, rfl⟩
  obtain ⟨nm, hnm⟩ : ∃ nm, nm = m.length := ⟨_, rfl⟩
  obtain ⟨nd', hnd'⟩ : ∃ nd', nd' = d'.length := ⟨_, rfl⟩
  obtain ⟨nm', hnm'⟩ : ∃ nm', nm' = m'.length := ⟨_, rfl⟩
  obtain ⟨-, hd, hm, hdl, hml⟩ := he
  obtain ⟨-, hd', hm', -, -⟩ := hf
  simp only [entC] at hd hm hdl hml hd' hm' ⊢
  rw [← hnd] at hd
  rw [← hnm] at hm
  rw [← hnd'] at hd'
  rw [← hnm'] at hm'
  rw [← hnd, ← hnm, ← hnd', ← hnm']
  clear hnd hnm hnd' hnm' hdl
  have b2 := boxes w #[.int .u64 (t : Int), .int .i64 k, .int .u64 (c : Int), .int .u64 (s : Int), .slice a nd ca, .slice b nm cb] #[.int .u64 (t' : Int), .int .i64 k', .int .u64 (c' : Int), .int .u64 (s' : Int), .slice a' nd' ca', .slice b' nm' cb'] 62
  have HB := Lib.hid b2
  have hq := Lib.hid (equal_any _ _ d d' _ (hd.below (Nat.le_refl _) b2) (hd'.below (Nat.le_refl _) b2))
  have hn := Lib.hid (eqNums_any _ _ m m' _ (hm.below (Nat.le_refl _) b2) (hm'.below (Nat.le_refl _) b2) hml)
  clear hd hm hd' hm' b2 hml
  by_cases ht : t = t'
  · subst ht
    by_cases hk : k = k'
    · subst hk
      by_cases hc : c = c'
      · subst hc
        by_cases hs : s = s'
        · subst hs
          by_cases hd : d = d'
          · have HD := Lib.hid hd
            clear hd
            go_enter Try.func55, Try.ntmps55
            go_wp2_with fail
            refine hq.out.mono ?_
            rintro r w' ⟨rfl, rfl⟩
            rw [decide_eq_true HD.out]
            go_wp2_with fail
            refine hn.out.mono ?_
            rintro r w' ⟨rfl, nq, rfl⟩
            go_wp2
            go_ret
            refine ⟨congrArg (fun b => Ending.returned (Value.bool b)) (decide_eq_decide.2 ⟨fun h => by rw [HD.out, h], fun h => by injection h⟩), below_drewN HB.out nq⟩
          · rw [decide_eq_false (show ¬ ((⟨t, k, c, s, d, m⟩ : Ent) = ⟨t, k, c, s, d', m'⟩) from fun h => hd (by injection h))]
            have HD := Lib.hid hd
            clear hd
            go_enter Try.func55, Try.ntmps55
            go_wp2_with fail
            refine hq.out.mono ?_
            rintro r w' ⟨rfl, rfl⟩
            rw [decide_eq_false HD.out]
            go_wp2
            go_ret
            exact ⟨rfl, HB.out⟩
        · have q : ((s : Int) == (s' : Int)) = false := beq_false_of_ne (by omega)
          rw [decide_eq_false (show ¬ ((⟨t, k, c, s, d, m⟩ : Ent) = ⟨t, k, c, s', d', m'⟩) from fun h => hs (by injection h))]
          clear hs
          go_enter Try.func55, Try.ntmps55
          go_wp2
          go_ret
          exact ⟨rfl, HB.out⟩
      · have q : ((c : Int) == (c' : Int)) = false := beq_false_of_ne (by omega)
        rw [decide_eq_false (show ¬ ((⟨t, k, c, s, d, m⟩ : Ent) = ⟨t, k, c', s', d', m'⟩) from fun h => hc (by injection h))]
        clear hc
        go_enter Try.func55, Try.ntmps55
        go_wp2
        go_ret
        exact ⟨rfl, HB.out⟩
    · have q : (k == k') = false := beq_false_of_ne (by omega)
      rw [decide_eq_false (show ¬ ((⟨t, k, c, s, d, m⟩ : Ent) = ⟨t, k', c', s', d', m'⟩) from fun h => hk (by injection h))]
      clear hk
      go_enter Try.func55, Try.ntmps55
      go_wp2
      go_ret
      exact ⟨rfl, HB.out⟩
  · have q : ((t : Int) == (t' : Int)) = false := beq_false_of_ne (by omega)
    rw [decide_eq_false (show ¬ ((⟨t, k, c, s, d, m⟩ : Ent) = ⟨t', k', c', s', d', m'⟩) from fun h => ht (by injection h))]
    clear ht
    go_enter Try.func55, Try.ntmps55
    go_wp2
    go_ret
    exact ⟨rfl, HB.out⟩

set_option maxHeartbeats 4000000 in
theorem refSame_any (e f : Ent) (a b a' b' : Option Addr) (ca cb ca' cb' : Nat) (w : World) (he : Has w e a ca b cb) (hf : Has w f a' ca' b' cb') :
    Calls Try.prog 46 #[.agg (entC e a ca b cb), .agg (entC f a' ca' b' cb')] w fun r w' => r = .returned (.bool (decide (e = f))) ∧ Below w.heap.size w w' := by
  obtain ⟨t, k, c, s, d, m⟩ := e
  obtain ⟨t', k', c', s', d', m'⟩ := f
  obtain ⟨nd, hnd⟩ : ∃ nd, nd = d.length := ⟨_, rfl⟩
  obtain ⟨nm, hnm⟩ : ∃ nm, nm = m.length := ⟨_, rfl⟩
  obtain ⟨nd', hnd'⟩ : ∃ nd', nd' = d'.length := ⟨_, rfl⟩
  obtain ⟨nm', hnm'⟩ : ∃ nm', nm' = m'.length := ⟨_, rfl⟩
  obtain ⟨-, hd, hm, hdl, hml⟩ := he
  obtain ⟨-, hd', hm', -, -⟩ := hf
  simp only [entC] at hd hm hdl hml hd' hm' ⊢
  rw [← hnd] at hd
  rw [← hnm] at hm
  rw [← hnd'] at hd'
  rw [← hnm'] at hm'
  rw [← hnd, ← hnm, ← hnd', ← hnm']
  clear hnd hnm hnd' hnm' hdl
  have b2 := boxes w #[.int .u64 (t : Int), .int .i64 k, .int .u64 (c : Int), .int .u64 (s : Int), .slice a nd ca, .slice b nm cb] #[.int .u64 (t' : Int), .int .i64 k', .int .u64 (c' : Int), .int .u64 (s' : Int), .slice a' nd' ca', .slice b' nm' cb'] 62
  have HB := Lib.hid b2
  have c1 := conv_bys (hd.below (Nat.le_refl _) b2)
  have c2 := conv_bys (hd'.below (Nat.le_refl _) b2)
  have hn := Lib.hid (refNums_any _ _ m m' _ (hm.below (Nat.le_refl _) b2) (hm'.below (Nat.le_refl _) b2) hml)
  obtain ⟨X, hX⟩ : ∃ X : ByteArray, X = ⟨d.toArray⟩ := ⟨_, rfl⟩
  obtain ⟨Y, hY⟩ : ∃ Y : ByteArray, Y = ⟨d'.toArray⟩ := ⟨_, rfl⟩
  rw [← hX] at c1
  rw [← hY] at c2
  have hXY : d ≠ d' → (X.toList == Y.toList) = false := fun h => by rw [hX, hY, ByteArray.toList_mk, ByteArray.toList_mk]; exact beq_false_of_ne h
  have hXX : d = d' → (X.toList == Y.toList) = true := fun h => by rw [hX, hY, ByteArray.toList_mk, ByteArray.toList_mk]; exact beq_iff_eq.2 h
  have HXY := Lib.hid hXY
  have HXX := Lib.hid hXX
  clear hX hY hXY hXX
  clear hd hm hd' hm' b2 hml
  by_cases ht : t = t'
  · subst ht
    by_cases hk : k = k'
    · subst hk
      by_cases hc : c = c'
      · subst hc
        by_cases hs : s = s'
        · subst hs
          by_cases hd : d = d'
          · have HD := Lib.hid hd
            have q := HXX.out hd
            clear hd
            go_enter Try.func46, Try.ntmps46
            go_wp2_with fail
            refine hn.out.mono ?_
            rintro r w' ⟨rfl, nq, rfl⟩
            go_wp2
            go_ret
            refine ⟨congrArg (fun b => Ending.returned (Value.bool b)) (decide_eq_decide.2 ⟨fun h => by rw [HD.out, h], fun h => by injection h⟩), below_drewN HB.out nq⟩
          · rw [decide_eq_false (show ¬ ((⟨t, k, c, s, d, m⟩ : Ent) = ⟨t, k, c, s, d', m'⟩) from fun h => hd (by injection h))]
            have q := HXY.out hd
            clear hd
            go_enter Try.func46, Try.ntmps46
            go_wp2
            go_ret
            exact ⟨rfl, HB.out⟩
        · have q : ((s : Int) == (s' : Int)) = false := beq_false_of_ne (by omega)
          rw [decide_eq_false (show ¬ ((⟨t, k, c, s, d, m⟩ : Ent) = ⟨t, k, c, s', d', m'⟩) from fun h => hs (by injection h))]
          clear hs
          go_enter Try.func46, Try.ntmps46
          go_wp2
          go_ret
          exact ⟨rfl, HB.out⟩
      · have q : ((c : Int) == (c' : Int)) = false := beq_false_of_ne (by omega)
        rw [decide_eq_false (show ¬ ((⟨t, k, c, s, d, m⟩ : Ent) = ⟨t, k, c', s', d', m'⟩) from fun h => hc (by injection h))]
        clear hc
        go_enter Try.func46, Try.ntmps46
        go_wp2
        go_ret
        exact ⟨rfl, HB.out⟩
    · have q : (k == k') = false := beq_false_of_ne (by omega)
      rw [decide_eq_false (show ¬ ((⟨t, k, c, s, d, m⟩ : Ent) = ⟨t, k', c', s', d', m'⟩) from fun h => hk (by injection h))]
      clear hk
      go_enter Try.func46, Try.ntmps46
      go_wp2
      go_ret
      exact ⟨rfl, HB.out⟩
  · have q : ((t : Int) == (t' : Int)) = false := beq_false_of_ne (by omega)
    rw [decide_eq_false (show ¬ ((⟨t, k, c, s, d, m⟩ : Ent) = ⟨t', k', c', s', d', m'⟩) from fun h => ht (by injection h))]
    clear ht
    go_enter Try.func46, Try.ntmps46
    go_wp2
    go_ret
    exact ⟨rfl, HB.out⟩

end Go.Proofs.Ytgbhfolbkgibfaa

/- The reference's Members. -/
namespace Go.Proofs.Ytgbhfolbkgibfaa
set_option maxRecDepth 20000
open Go.RowKit BinMath CmdMath

end Go.Proofs.Ytgbhfolbkgibfaa

/- Which entries are formed. -/
namespace Go.Proofs.Ytgbhfolbkgibfaa
set_option maxRecDepth 20000
open Go.RowKit BinMath CmdMath

theorem formed_term {e : Ent} (h : ¬ (1 ≤ e.t ∧ e.t ≤ 4611686018427387904)) : formed e = false := by simp [formed, termOk, h]
theorem formed_one {e : Ent} (h : 1 ≤ e.t ∧ e.t ≤ 4611686018427387904) (hk : e.k = 1) : formed e = (bare e && decide (e.m.length = 0)) := by simp [formed, termOk, h, hk]
theorem formed_two {e : Ent} (h : 1 ≤ e.t ∧ e.t ≤ 4611686018427387904) (hk : e.k = 2) : formed e = (decide (e.d.length ≤ 64) && decide (e.m.length = 0)) := by simp [formed, termOk, h, hk]
theorem formed_three {e : Ent} (h : 1 ≤ e.t ∧ e.t ≤ 4611686018427387904) (hk : e.k = 3) : formed e = (bare e && memOk e.m) := by simp [formed, termOk, h, hk]
theorem formed_none {e : Ent} (h1 : e.k ≠ 1) (h2 : e.k ≠ 2) (h3 : e.k ≠ 3) : formed e = false := by simp [formed, h1, h2, h3]

theorem same_none (t : Nat) (k : Int) (c s : Nat) (d : List UInt8) (m : List Nat) : decide ((⟨t, k, c, s, d, m⟩ : Ent) = ⟨t, k, 0, 0, [], []⟩) = (bare ⟨t, k, c, s, d, m⟩ && decide (m.length = 0)) := by
  simp only [bare, Ent.mk.injEq, true_and, List.length_eq_zero_iff]
  rw [Bool.eq_iff_iff]
  simp [and_assoc]

theorem same_conf (t : Nat) (k : Int) (c s : Nat) (d : List UInt8) (m : List Nat) : decide ((⟨t, k, c, s, d, m⟩ : Ent) = ⟨t, k, 0, 0, [], m⟩) = bare ⟨t, k, c, s, d, m⟩ := by
  simp only [bare, Ent.mk.injEq, true_and, List.length_eq_zero_iff]
  rw [Bool.eq_iff_iff]
  simp [and_assoc]

set_option maxHeartbeats 4000000 in
theorem formed_any (e : Ent) (a b : Option Addr) (ca cb : Nat) (w : World) (he : Has w e a ca b cb) :
    Calls Try.prog 88 #[.agg (entC e a ca b cb)] w fun r w' => r = .returned (.bool (formed e)) ∧ Below w.heap.size w w' := by
  obtain ⟨t, k, c, s, d, m⟩ := e
  obtain ⟨nd, hnd⟩ : ∃ nd, nd = d.length := ⟨_, rfl⟩
  obtain ⟨nm, hnm⟩ : ∃ nm, nm = m.length := ⟨_, rfl⟩
  have b1 : Below w.heap.size w (w.alloc (.cells (entC ⟨t, k, c, s, d, m⟩ a ca b cb) 62)) := (Below.refl _ _).alloc (Nat.le_refl _) _
  have h1 := he.below (Nat.le_refl _) b1
  have HB := Lib.hid b1
  have hdl := he.dl
  have hml := he.ml
  have hm64 := he.ok.m
  have ht64 := he.ok.t
  have hS1 := same_any ⟨t, k, c, s, d, m⟩ ⟨t, k, 0, 0, [], []⟩ a b none none ca cb 0 0 _ h1 ⟨⟨ht64, he.ok.kl, he.ok.kh, by simp, by simp, by simp⟩, .inl ⟨rfl, rfl⟩, .inl ⟨rfl, rfl⟩, by simp, by simp⟩
  have hS3 := same_any ⟨t, k, c, s, d, m⟩ ⟨t, k, 0, 0, [], m⟩ a b none b ca cb 0 cb _ h1 ⟨⟨ht64, he.ok.kl, he.ok.kh, by simp, by simp, hm64⟩, .inl ⟨rfl, rfl⟩, h1.m, by simp, hml⟩
  have hM := members_any _ m _ h1.m hml hm64
  have hT := fun W => isTerm_any t W ht64
  rw [same_none] at hS1
  rw [same_conf] at hS3
  simp only [entC, List.length_nil] at hS1 hS3 hM h1 HB hdl hml ⊢
  rw [← hnd, ← hnm] at hS1 hS3 HB ⊢
  rw [← hnd, ← hnm] at hM
  rw [← hnm] at hml
  rw [← hnd] at hdl
  have HS1 := Lib.hid hS1
  have HS3 := Lib.hid hS3
  have HM := Lib.hid hM
  have HND := Lib.hid hnd
  have HNM := Lib.hid hnm
  clear he b1 h1 hS1 hS3 hM hnd hnm hm64 ht64
  by_cases ht : 1 ≤ t ∧ t ≤ 4611686018427387904
  · rw [decide_eq_true ht] at hT
    have HT := Lib.hid hT
    have HTT := Lib.hid ht
    clear hT ht
    by_cases k1 : k = 1
    · subst k1
      go_enter Try.func88, Try.ntmps88
      go_wp2_with fail
      refine (HT.out _).mono ?_
      rintro r w' ⟨rfl, rfl⟩
      go_wp2_with fail
      refine HS1.out.mono ?_
      rintro r w' ⟨rfl, hb⟩
      have HB2 := Lib.hid hb
      clear hb
      go_wp2
      go_ret
      exact ⟨congrArg (fun b => Ending.returned (Value.bool b)) (by rw [formed_one HTT.out rfl, ← HNM.out]), HB.out.trans (HB2.out.mono (by simp))⟩
    · by_cases k2 : k = 2
      · subst k2
        by_cases h64 : nd ≤ 64
        · have H64 := Lib.hid h64
          have q : decide ((nd : Int) ≤ 64) = true := by simp; omega
          clear h64
          go_enter Try.func88, Try.ntmps88
          go_wp2_with fail
          refine (HT.out _).mono ?_
          rintro r w' ⟨rfl, rfl⟩
          go_wp2
          go_ret
          refine ⟨congrArg (fun b => Ending.returned (Value.bool b)) ?_, HB.out⟩
          rw [formed_two HTT.out rfl, decide_eq_true (show d.length ≤ 64 by rw [← HND.out]; exact H64.out), ← HNM.out, Bool.true_and]
          by_cases h0 : nm = 0 <;> simp [h0]
        · have H64 := Lib.hid h64
          have q : decide ((nd : Int) ≤ 64) = false := by simp; omega
          clear h64
          go_enter Try.func88, Try.ntmps88
          go_wp2_with fail
          refine (HT.out _).mono ?_
          rintro r w' ⟨rfl, rfl⟩
          go_wp2
          go_ret
          refine ⟨congrArg (fun b => Ending.returned (Value.bool b)) ?_, HB.out⟩
          rw [formed_two HTT.out rfl, decide_eq_false (show ¬ d.length ≤ 64 by rw [← HND.out]; exact H64.out)]
          rfl
      · by_cases k3 : k = 3
        · subst k3
          cases hmo : memOk m with
          | true =>
            have HMO := Lib.hid hmo
            have hM2 := HM.out
            rw [hmo] at hM2
            have HM2 := Lib.hid hM2
            clear hmo hM2
            go_enter Try.func88, Try.ntmps88
            go_wp2_with fail
            refine (HT.out _).mono ?_
            rintro r w' ⟨rfl, rfl⟩
            go_wp2_with fail
            refine HM2.out.mono ?_
            rintro r w' ⟨rfl, rfl⟩
            go_wp2_with fail
            refine HS3.out.mono ?_
            rintro r w' ⟨rfl, hb⟩
            have HB2 := Lib.hid hb
            clear hb
            go_wp2
            go_ret
            exact ⟨congrArg (fun b => Ending.returned (Value.bool b)) (by rw [formed_three HTT.out rfl, HMO.out, Bool.and_true]), HB.out.trans (HB2.out.mono (by simp))⟩
          | false =>
            have HMO := Lib.hid hmo
            have hM2 := HM.out
            rw [hmo] at hM2
            have HM2 := Lib.hid hM2
            clear hmo hM2
            go_enter Try.func88, Try.ntmps88
            go_wp2_with fail
            refine (HT.out _).mono ?_
            rintro r w' ⟨rfl, rfl⟩
            go_wp2_with fail
            refine HM2.out.mono ?_
            rintro r w' ⟨rfl, rfl⟩
            go_wp2
            go_ret
            exact ⟨congrArg (fun b => Ending.returned (Value.bool b)) (by rw [formed_three HTT.out rfl, HMO.out, Bool.and_false]), HB.out⟩
        · have q1 : (k == 1) = false := beq_false_of_ne k1
          have q2 : (k == 2) = false := beq_false_of_ne k2
          have q3 : (k == 3) = false := beq_false_of_ne k3
          rw [formed_none k1 k2 k3]
          go_enter Try.func88, Try.ntmps88
          go_wp2_with fail
          refine (HT.out _).mono ?_
          rintro r w' ⟨rfl, rfl⟩
          go_wp2
          go_ret
          exact ⟨rfl, HB.out⟩
  · rw [decide_eq_false ht] at hT
    have HT := Lib.hid hT
    rw [formed_term ht]
    clear hT ht
    go_enter Try.func88, Try.ntmps88
    go_wp2_with fail
    refine (HT.out _).mono ?_
    rintro r w' ⟨rfl, rfl⟩
    go_wp2
    go_ret
    exact ⟨rfl, HB.out⟩

end Go.Proofs.Ytgbhfolbkgibfaa

/- Which entries are formed: the reference. -/
namespace Go.Proofs.Ytgbhfolbkgibfaa
set_option maxRecDepth 20000
open Go.RowKit BinMath CmdMath

end Go.Proofs.Ytgbhfolbkgibfaa

