/- Joined: CmdEq, CmdRefMem, CmdForm, CmdRefForm. -/
import Derived.Test.YtgbhfolbkgibfaaLAK
/- Same, of entries. -/
namespace Go.Proofs.Ytgbhfolbkgibfaa
set_option maxRecDepth 20000
open Go.RowKit BinMath CmdMath

/-- What two boxes are behind. -/
theorem boxes (w : World) (X Y : Array Value) (t : TypeId) : Below w.heap.size w ((w.alloc (.cells X t)).alloc (.cells Y t)) := ((Below.refl _ _).alloc (Nat.le_refl _) _).alloc (by simp) _

set_option maxHeartbeats 4000000 in
theorem same_any (e f : Ent) (a b a' b' : Option Addr) (ca cb ca' cb' : Nat) (w : World) (he : Has w e a ca b cb) (hf : Has w f a' ca' b' cb') :
    Calls Try.prog 55 #[.agg (entC e a ca b cb), .agg (entC f a' ca' b' cb')] w fun r w' => r = .returned (.bool (decide (e = f))) ∧ Below w.heap.size w w' := by
  obtain ⟨t, k, c, s, d, m⟩ := e
  obtain ⟨t', k', c', s', d', m'⟩ := f
  obtain ⟨nd, hnd⟩ : ∃ nd, nd = d.length := ⟨_, rfl⟩
  obtain ⟨nm, hnm⟩ : ∃ nm, nm = m.length := ⟨_, rfl⟩
  obtain ⟨nd', hnd'⟩ : ∃ nd', nd' = d'.length := ⟨_, rfl⟩
  obtain ⟨nm', hnm'⟩ : ∃ nm', nm' = m'.length := ⟨_, rfl⟩
  obtain ⟨-, hd, hm, hdl, hml⟩ := he
  obtain ⟨-, hd', hm', -, -⟩ := hf
  simp only [entC] at hd hm hdl hml hd' hm' ⊢
  rw [← hnd] at hd
  rw [← hnm] at hm
  rw [← hnd'] at hd'
  rw [← hnm'] at hm'
  rw [← hnd, ← hnm, ← hnd', ← hnm']
  clear hnd hnm hnd' hnm' hdl
  have b2 := boxes w #[.int .u64 (t : Int), .int .i64 k, .int .u64 (c : Int), .int .u64 (s : Int), .slice a nd ca, .slice b nm cb] #[.int .u64 (t' : Int), .int .i64 k', .int .u64 (c' : Int), .int .u64 (s' : Int), .slice a' nd' ca', .slice b' nm' cb'] 62
  have HB := Lib.hid b2
  have hq := Lib.hid (equal_any _ _ d d' _ (hd.below (Nat.le_refl _) b2) (hd'.below (Nat.le_refl _) b2))
  have hn := Lib.hid (eqNums_any _ _ m m' _ (hm.below (Nat.le_refl _) b2) (hm'.below (Nat.le_refl _) b2) hml)
  clear hd hm hd' hm' b2 hml
  by_cases ht : t = t'
  · subst ht
    by_cases hk : k = k'
    · subst hk
      by_cases hc : c = c'
      · subst hc
        by_cases hs : s = s'
        · subst hs
          by_cases hd : d = d'
          · have HD := Lib.hid hd
            clear hd
            go_enter Try.func55, Try.ntmps55
            go_wp2_with fail
            refine hq.out.mono ?_
            rintro r w' ⟨rfl, rfl⟩
            rw [decide_eq_true HD.out]
            go_wp2_with fail
            refine hn.out.mono ?_
            rintro r w' ⟨rfl, nq, rfl⟩
            go_wp2
            go_ret
            refine ⟨congrArg (fun b => Ending.returned (Value.bool b)) (decide_eq_decide.2 ⟨fun h => by rw [HD.out, h], fun h => by injection h⟩), below_drewN HB.out nq⟩
          · rw [decide_eq_false (show ¬ ((⟨t, k, c, s, d, m⟩ : Ent) = ⟨t, k, c, s, d', m'⟩) from fun h => hd (by injection h))]
            have HD := Lib.hid hd
            clear hd
            go_enter Try.func55, Try.ntmps55
            go_wp2_with fail
            refine hq.out.mono ?_
            rintro r w' ⟨rfl, rfl⟩
            rw [decide_eq_false HD.out]
            go_wp2
            go_ret
            exact ⟨rfl, HB.out⟩
        · have q : ((s : Int) == (s' : Int)) = false := beq_false_of_ne (by omega)
          rw [decide_eq_false (show ¬ ((⟨t, k, c, s, d, m⟩ : Ent) = ⟨t, k, c, s', d', m'⟩) from fun h => hs (by injection h))]
          clear hs
          go_enter Try.func55, Try.ntmps55
          go_wp2
          go_ret
          exact ⟨rfl, HB.out⟩
      · have q : ((c : Int) == (c' : Int)) = false := beq_false_of_ne (by omega)
        rw [decide_eq_false (show ¬ ((⟨t, k, c, s, d, m⟩ : Ent) = ⟨t, k, c', s', d', m'⟩) from fun h => hc (by injection h))]
        clear hc
        go_enter Try.func55, Try.ntmps55
        go_wp2
        go_ret
        exact ⟨rfl, HB.out⟩
    · have q : (k == k') = false := beq_false_of_ne (by omega)
      rw [decide_eq_false (show ¬ ((⟨t, k, c, s, d, m⟩ : Ent) = ⟨t, k', c', s', d', m'⟩) from fun h => hk (by injection h))]
      clear hk
      go_enter Try.func55, Try.ntmps55
      go_wp2
      go_ret
      exact ⟨rfl, HB.out⟩
  · have q : ((t : Int) == (t' : Int)) = false := beq_false_of_ne (by omega)
    rw [decide_eq_false (show ¬ ((⟨t, k, c, s, d, m⟩ : Ent) = ⟨t', k', c', s', d', m'⟩) from fun h => ht (by injection h))]
    clear ht
    go_enter Try.func55, Try.ntmps55
    go_wp2
    go_ret
    exact ⟨rfl, HB.out⟩

set_option maxHeartbeats 4000000 in
theorem refSame_any (e f : Ent) (a b a' b' : Option Addr) (ca cb ca' cb' : Nat) (w : World) (he : Has w e a ca b cb) (hf : Has w f a' ca' b' cb') :
    Calls Try.prog 46 #[.agg (entC e a ca b cb), .agg (entC f a' ca' b' cb')] w fun r w' => r = .returned (.bool (decide (e = f))) ∧ Below w.heap.size w w' := by
  obtain ⟨t, k, c, s, d, m⟩ := e
  obtain ⟨t', k', c', s', d', m'⟩ := f
  obtain ⟨nd, hnd⟩ : ∃ nd, nd = d.length := ⟨_, rfl⟩
  obtain ⟨nm, hnm⟩ : ∃ nm, nm = m.length := ⟨_, rfl⟩
  obtain ⟨nd', hnd'⟩ : ∃ nd', nd' = d'.length := ⟨_, rfl⟩
  obtain ⟨nm', hnm'⟩ : ∃ nm', nm' = m'.length := ⟨_, rfl⟩
  obtain ⟨-, hd, hm, hdl, hml⟩ := he
  obtain ⟨-, hd', hm', -, -⟩ := hf
  simp only [entC] at hd hm hdl hml hd' hm' ⊢
  rw [← hnd] at hd
  rw [← hnm] at hm
  rw [← hnd'] at hd'
  rw [← hnm'] at hm'
  rw [← hnd, ← hnm, ← hnd', ← hnm']
  clear hnd hnm hnd' hnm' hdl
  have b2 := boxes w #[.int .u64 (t : Int), .int .i64 k, .int .u64 (c : Int), .int .u64 (s : Int), .slice a nd ca, .slice b nm cb] #[.int .u64 (t' : Int), .int .i64 k', .int .u64 (c' : Int), .int .u64 (s' : Int), .slice a' nd' ca', .slice b' nm' cb'] 62
  have HB := Lib.hid b2
  have c1 := conv_bys (hd.below (Nat.le_refl _) b2)
  have c2 := conv_bys (hd'.below (Nat.le_refl _) b2)
  have hn := Lib.hid (refNums_any _ _ m m' _ (hm.below (Nat.le_refl _) b2) (hm'.below (Nat.le_refl _) b2) hml)
  obtain ⟨X, hX⟩ : ∃ X : ByteArray, X = ⟨d.toArray⟩ := ⟨_, rfl⟩
  obtain ⟨Y, hY⟩ : ∃ Y : ByteArray, Y = ⟨d'.toArray⟩ := ⟨_, rfl⟩
  rw [← hX] at c1
  rw [← hY] at c2
  have hXY : d ≠ d' → (X.toList == Y.toList) = false := fun h => by rw [hX, hY, ByteArray.toList_mk, ByteArray.toList_mk]; exact beq_false_of_ne h
  have hXX : d = d' → (X.toList == Y.toList) = true := fun h => by rw [hX, hY, ByteArray.toList_mk, ByteArray.toList_mk]; exact beq_iff_eq.2 h
  have HXY := Lib.hid hXY
  have HXX := Lib.hid hXX
  clear hX hY hXY hXX
  clear hd hm hd' hm' b2 hml
  by_cases ht : t = t'
  · subst ht
    by_cases hk : k = k'
    · subst hk
      by_cases hc : c = c'
      · subst hc
        by_cases hs : s = s'
        · subst hs
          by_cases hd : d = d'
          · have HD := Lib.hid hd
            have q := HXX.out hd
            clear hd
            go_enter Try.func46, Try.ntmps46
            go_wp2_with fail
            refine hn.out.mono ?_
            rintro r w' ⟨rfl, nq, rfl⟩
            go_wp2
            go_ret
            refine ⟨congrArg (fun b => Ending.returned (Value.bool b)) (decide_eq_decide.2 ⟨fun h => by rw [HD.out, h], fun h => by injection h⟩), below_drewN HB.out nq⟩
          · rw [decide_eq_false (show ¬ ((⟨t, k, c, s, d, m⟩ : Ent) = ⟨t, k, c, s, d', m'⟩) from fun h => hd (by injection h))]
            have q := HXY.out hd
            clear hd
            go_enter Try.func46, Try.ntmps46
            go_wp2
            go_ret
            exact ⟨rfl, HB.out⟩
        · have q : ((s : Int) == (s' : Int)) = false := beq_false_of_ne (by omega)
          rw [decide_eq_false (show ¬ ((⟨t, k, c, s, d, m⟩ : Ent) = ⟨t, k, c, s', d', m'⟩) from fun h => hs (by injection h))]
          clear hs
          go_enter Try.func46, Try.ntmps46
          go_wp2
          go_ret
          exact ⟨rfl, HB.out⟩
      · have q : ((c : Int) == (c' : Int)) = false := beq_false_of_ne (by omega)
        rw [decide_eq_false (show ¬ ((⟨t, k, c, s, d, m⟩ : Ent) = ⟨t, k, c', s', d', m'⟩) from fun h => hc (by injection h))]
        clear hc
        go_enter Try.func46, Try.ntmps46
        go_wp2
        go_ret
        exact ⟨rfl, HB.out⟩
    · have q : (k == k') = false := beq_false_of_ne (by omega)
      rw [decide_eq_false (show ¬ ((⟨t, k, c, s, d, m⟩ : Ent) = ⟨t, k', c', s', d', m'⟩) from fun h => hk (by injection h))]
      clear hk
      go_enter Try.func46, Try.ntmps46
      go_wp2
      go_ret
      exact ⟨rfl, HB.out⟩
  · have q : ((t : Int) == (t' : Int)) = false := beq_false_of_ne (by omega)
    rw [decide_eq_false (show ¬ ((⟨t, k, c, s, d, m⟩ : Ent) = ⟨t', k', c', s', d', m'⟩) from fun h => ht (by injection h))]
    clear ht
    go_enter Try.func46, Try.ntmps46
    go_wp2
    go_ret
    exact ⟨rfl, HB.out⟩

end Go.Proofs.Ytgbhfolbkgibfaa

/- The reference's Members. -/
namespace Go.Proofs.Ytgbhfolbkgibfaa
set_option maxRecDepth 20000
open Go.RowKit BinMath CmdMath

set_option maxHeartbeats 2000000 in
theorem refMembers_any (v : Value) (l : List Nat) (w : World) (hv : Nums w v l) (hl : l.length ≤ 140737488351232) :
    Calls Try.prog 41 #[v] w fun e w' => e = .returned (.bool (memOk l)) ∧ ∃ n, w' = w.drewN n := by
  obtain ⟨a, cap, rfl⟩ := hv.shape
  obtain ⟨-, hlc, hc⟩ := hv.at
  obtain ⟨n, hn⟩ : ∃ n, n = l.length := ⟨_, rfl⟩
  have h0 : rises 0 l = rises 0 (l.drop 0) := rfl
  have hmk : memOk l = (decide (0 < n) && rises 0 l) := by
    subst hn
    cases l with
    | nil => rfl
    | cons x r => simp [memOk]
  rw [hmk]
  rw [← hn] at hlc hl ⊢
  have HC := Lib.hid hc
  have HN := Lib.hid hn
  have H0 := Lib.hid h0
  clear hc hn h0 hmk hv
  go_enter Try.func41, Try.ntmps41
  go_wp2
  go_loopw [3] (fun s3 W => ∃ i k m : Nat, i ≤ n ∧ s3 = .int .i64 (i : Int) ∧ (i = 0 → m = 0) ∧ (∀ j, i = j + 1 → ∃ h : j < l.length, m = l[j]) ∧ rises 0 l = rises m (l.drop i) ∧ W = w.drewN k) (fun s3 _ => n - (intOf s3).toNat)
  case atStart => exact ⟨0, 0, 0, by omega, rfl, fun _ => rfl, fun j h => absurd h (by omega), H0.out, rfl⟩
  case round =>
    obtain ⟨i, k, m, hi, rfl, hm0, hmj, hr, rfl⟩ := hrel
    have HR := Lib.hid hr
    clear hr
    by_cases hlt : i < n
    · have hil : i < l.length := by have := HN.out; omega
      obtain ⟨ad, rfl, hcell⟩ := HC.out i hil
      have hst := rises_step (a := m) hil
      have hnx : ∀ j, i + 1 = j + 1 → ∃ h : j < l.length, l[i] = l[j] := fun j e => by
        obtain rfl : i = j := by omega
        exact ⟨hil, rfl⟩
      obtain ⟨y, hye⟩ : ∃ y, y = l[i] := ⟨_, rfl⟩
      rw [← hye] at hcell hst hnx
      have HS := Lib.hid hst
      have HX := Lib.hid hnx
      clear hst hye hil hnx
      by_cases hy1 : (y : Int) < 1
      · have HY := Lib.hid hy1
        have HM0 := Lib.hid hm0
        have HMJ := Lib.hid hmj
        have hd : decide ((y : Int) < 1) = true := by simpa using hy1
        clear hm0 hmj
        go_wp2
        go_quiet (fail)
        go_wp2
        go_ret
        have e : ¬ (m < y ∧ y ≤ 7) := by have := HY.out; omega
        rw [HR.out, HS.out, decide_eq_false e, Bool.false_and, Bool.and_false]
        exact ⟨rfl, _, World.drewN_drewN ..⟩
      · have hd1 : decide ((y : Int) < 1) = false := by simpa using hy1
        by_cases hy7 : (7 : Int) < (y : Int)
        · have HY := Lib.hid hy7
          have hd : decide ((7 : Int) < (y : Int)) = true := by simpa using hy7
          clear hm0 hmj
          go_wp2
          go_quiet (fail)
          go_wp2
          go_ret
          have e : ¬ (m < y ∧ y ≤ 7) := by have := HY.out; omega
          rw [HR.out, HS.out, decide_eq_false e, Bool.false_and, Bool.and_false]
          exact ⟨rfl, _, World.drewN_drewN ..⟩
        · have hd7 : decide ((7 : Int) < (y : Int)) = false := by simpa using hy7
          have HY1 := Lib.hid hy1
          have HY7 := Lib.hid hy7
          rcases Nat.eq_zero_or_pos i with hi0 | hi0
          · subst hi0
            obtain rfl := hm0 rfl
            have hcell0 : w.cell? ad = some (.int .u64 (y : Int)) := by simpa [Addr.add] using hcell
            clear hm0 hmj hy1 hy7 hcell
            go_wp2
            go_quiet (fail)
            go_wp2
            go_round
            case rel =>
              have e : 0 < y ∧ y ≤ 7 := by have := HY1.out; have := HY7.out; omega
              exact ⟨1, _, y, by omega, rfl, fun h => absurd h (by omega), HX.out, by rw [HR.out, HS.out, decide_eq_true e, Bool.true_and], rfl⟩
            case measure => simp [intOf]; omega
          · obtain ⟨j, hj⟩ : ∃ j, i = j + 1 := ⟨i - 1, by omega⟩
            obtain ⟨hjl, hmj'⟩ := hmj j hj
            obtain ⟨ad', hade, hcj⟩ := HC.out j hjl
            obtain rfl : ad = ad' := by simpa using hade
            rw [← hmj'] at hcj
            clear hm0 hmj hmj' hjl hade hy1 hy7
            have hpos : (0 : Int) < (i : Int) := by omega
            have hjn : j < n := by omega
            have hwr : IntKind.i64.wrap ((i : Int) - 1) = (j : Int) := by rw [IntKind.wrap_i64]; omega
            have HI := Lib.hid hj
            clear hj
            by_cases hmy : (y : Int) ≤ (m : Int)
            · have HMY := Lib.hid hmy
              have hdm : decide ((y : Int) ≤ (m : Int)) = true := by simpa using hmy
              have hmyN : y ≤ m := by omega
              clear hmy
              go_wp2
              go_quiet (fail)
              go_wp2
              go_ret
              have e : ¬ (m < y ∧ y ≤ 7) := by have := HMY.out; omega
              rw [HR.out, HS.out, decide_eq_false e, Bool.false_and, Bool.and_false]
              exact ⟨rfl, _, World.drewN_drewN ..⟩
            · have HMY := Lib.hid hmy
              have hdm : decide ((y : Int) ≤ (m : Int)) = false := by simpa using hmy
              have hmyN : ¬ y ≤ m := by omega
              clear hmy
              go_wp2
              go_quiet (fail)
              go_wp2
              go_round
              case rel =>
                have e : m < y ∧ y ≤ 7 := by have := HMY.out; have := HY7.out; omega
                exact ⟨i + 1, _, y, by omega, by go_num, fun h => absurd h (by omega), HX.out, by rw [HR.out, HS.out, decide_eq_true e, Bool.true_and], rfl⟩
              case measure => simp [intOf]; omega
    · go_wp2
      go_ret
      have e : l.drop i = [] := List.drop_eq_nil_of_le (by have := HN.out; omega)
      rw [HR.out, e]
      refine ⟨congrArg (fun b => Ending.returned (Value.bool b)) ?_, _, rfl⟩
      simp [rises]

end Go.Proofs.Ytgbhfolbkgibfaa

/- Which entries are formed. -/
namespace Go.Proofs.Ytgbhfolbkgibfaa
set_option maxRecDepth 20000
open Go.RowKit BinMath CmdMath

theorem formed_term {e : Ent} (h : ¬ (1 ≤ e.t ∧ e.t ≤ 4611686018427387904)) : formed e = false := by simp [formed, termOk, h]
theorem formed_one {e : Ent} (h : 1 ≤ e.t ∧ e.t ≤ 4611686018427387904) (hk : e.k = 1) : formed e = (bare e && decide (e.m.length = 0)) := by simp [formed, termOk, h, hk]
theorem formed_two {e : Ent} (h : 1 ≤ e.t ∧ e.t ≤ 4611686018427387904) (hk : e.k = 2) : formed e = (decide (e.d.length ≤ 64) && decide (e.m.length = 0)) := by simp [formed, termOk, h, hk]
theorem formed_three {e : Ent} (h : 1 ≤ e.t ∧ e.t ≤ 4611686018427387904) (hk : e.k = 3) : formed e = (bare e && memOk e.m) := by simp [formed, termOk, h, hk]
theorem formed_none {e : Ent} (h1 : e.k ≠ 1) (h2 : e.k ≠ 2) (h3 : e.k ≠ 3) : formed e = false := by simp [formed, h1, h2, h3]

theorem same_none (t : Nat) (k : Int) (c s : Nat) (d : List UInt8) (m : List Nat) : decide ((⟨t, k, c, s, d, m⟩ : Ent) = ⟨t, k, 0, 0, [], []⟩) = (bare ⟨t, k, c, s, d, m⟩ && decide (m.length = 0)) := by
  simp only [bare, Ent.mk.injEq, true_and, List.length_eq_zero_iff]
  rw [Bool.eq_iff_iff]
  simp [and_assoc]

theorem same_conf (t : Nat) (k : Int) (c s : Nat) (d : List UInt8) (m : List Nat) : decide ((⟨t, k, c, s, d, m⟩ : Ent) = ⟨t, k, 0, 0, [], m⟩) = bare ⟨t, k, c, s, d, m⟩ := by
  simp only [bare, Ent.mk.injEq, true_and, List.length_eq_zero_iff]
  rw [Bool.eq_iff_iff]
  simp [and_assoc]

set_option maxHeartbeats 4000000 in
theorem formed_any (e : Ent) (a b : Option Addr) (ca cb : Nat) (w : World) (he : Has w e a ca b cb) :
    Calls Try.prog 88 #[.agg (entC e a ca b cb)] w fun r w' => r = .returned (.bool (formed e)) ∧ Below w.heap.size w w' := by
  obtain ⟨t, k, c, s, d, m⟩ := e
  obtain ⟨nd, hnd⟩ : ∃ nd, nd = d.length := ⟨_, rfl⟩
  obtain ⟨nm, hnm⟩ : ∃ nm, nm = m.length := ⟨_, rfl⟩
  have b1 : Below w.heap.size w (w.alloc (.cells (entC ⟨t, k, c, s, d, m⟩ a ca b cb) 62)) := (Below.refl _ _).alloc (Nat.le_refl _) _
  have h1 := he.below (Nat.le_refl _) b1
  have HB := Lib.hid b1
  have hdl := he.dl
  have hml := he.ml
  have hm64 := he.ok.m
  have ht64 := he.ok.t
  have hS1 := same_any ⟨t, k, c, s, d, m⟩ ⟨t, k, 0, 0, [], []⟩ a b none none ca cb 0 0 _ h1 ⟨⟨ht64, he.ok.kl, he.ok.kh, by simp, by simp, by simp⟩, .inl ⟨rfl, rfl⟩, .inl ⟨rfl, rfl⟩, by simp, by simp⟩
  have hS3 := same_any ⟨t, k, c, s, d, m⟩ ⟨t, k, 0, 0, [], m⟩ a b none b ca cb 0 cb _ h1 ⟨⟨ht64, he.ok.kl, he.ok.kh, by simp, by simp, hm64⟩, .inl ⟨rfl, rfl⟩, h1.m, by simp, hml⟩
  have hM := members_any _ m _ h1.m hml hm64
  have hT := fun W => isTerm_any t W ht64
  rw [same_none] at hS1
  rw [same_conf] at hS3
  simp only [entC, List.length_nil] at hS1 hS3 hM h1 HB hdl hml ⊢
  rw [← hnd, ← hnm] at hS1 hS3 HB ⊢
  rw [← hnd, ← hnm] at hM
  rw [← hnm] at hml
  rw [← hnd] at hdl
  have HS1 := Lib.hid hS1
  have HS3 := Lib.hid hS3
  have HM := Lib.hid hM
  have HND := Lib.hid hnd
  have HNM := Lib.hid hnm
  clear he b1 h1 hS1 hS3 hM hnd hnm hm64 ht64
  by_cases ht : 1 ≤ t ∧ t ≤ 4611686018427387904
  · rw [decide_eq_true ht] at hT
    have HT := Lib.hid hT
    have HTT := Lib.hid ht
    clear hT ht
    by_cases k1 : k = 1
    · subst k1
      go_enter Try.func88, Try.ntmps88
      go_wp2_with fail
      refine (HT.out _).mono ?_
      rintro r w' ⟨rfl, rfl⟩
      go_wp2_with fail
      refine HS1.out.mono ?_
      rintro r w' ⟨rfl, hb⟩
      have HB2 := Lib.hid hb
      clear hb
      go_wp2
      go_ret
      exact ⟨congrArg (fun b => Ending.returned (Value.bool b)) (by rw [formed_one HTT.out rfl, ← HNM.out]), HB.out.trans (HB2.out.mono (by simp))⟩
    · by_cases k2 : k = 2
      · subst k2
        by_cases h64 : nd ≤ 64
        · have H64 := Lib.hid h64
          have q : decide ((nd : Int) ≤ 64) = true := by simp; omega
          clear h64
          go_enter Try.func88, Try.ntmps88
          go_wp2_with fail
          refine (HT.out _).mono ?_
          rintro r w' ⟨rfl, rfl⟩
          go_wp2
          go_ret
          refine ⟨congrArg (fun b => Ending.returned (Value.bool b)) ?_, HB.out⟩
          rw [formed_two HTT.out rfl, decide_eq_true (show d.length ≤ 64 by rw [← HND.out]; exact H64.out), ← HNM.out, Bool.true_and]
          by_cases h0 : nm = 0 <;> simp [h0]
        · have H64 := Lib.hid h64
          have q : decide ((nd : Int) ≤ 64) = false := by simp; omega
          clear h64
          go_enter Try.func88, Try.ntmps88
          go_wp2_with fail
          refine (HT.out _).mono ?_
          rintro r w' ⟨rfl, rfl⟩
          go_wp2
          go_ret
          refine ⟨congrArg (fun b => Ending.returned (Value.bool b)) ?_, HB.out⟩
          rw [formed_two HTT.out rfl, decide_eq_false (show ¬ d.length ≤ 64 by rw [← HND.out]; exact H64.out)]
          rfl
      · by_cases k3 : k = 3
        · subst k3
          cases hmo : memOk m with
          | true =>
            have HMO := Lib.hid hmo
            have hM2 := HM.out
            rw [hmo] at hM2
            have HM2 := Lib.hid hM2
            clear hmo hM2
            go_enter Try.func88, Try.ntmps88
            go_wp2_with fail
            refine (HT.out _).mono ?_
            rintro r w' ⟨rfl, rfl⟩
            go_wp2_with fail
            refine HM2.out.mono ?_
            rintro r w' ⟨rfl, rfl⟩
            go_wp2_with fail
            refine HS3.out.mono ?_
            rintro r w' ⟨rfl, hb⟩
            have HB2 := Lib.hid hb
            clear hb
            go_wp2
            go_ret
            exact ⟨congrArg (fun b => Ending.returned (Value.bool b)) (by rw [formed_three HTT.out rfl, HMO.out, Bool.and_true]), HB.out.trans (HB2.out.mono (by simp))⟩
          | false =>
            have HMO := Lib.hid hmo
            have hM2 := HM.out
            rw [hmo] at hM2
            have HM2 := Lib.hid hM2
            clear hmo hM2
            go_enter Try.func88, Try.ntmps88
            go_wp2_with fail
            refine (HT.out _).mono ?_
            rintro r w' ⟨rfl, rfl⟩
            go_wp2_with fail
            refine HM2.out.mono ?_
            rintro r w' ⟨rfl, rfl⟩
            go_wp2
            go_ret
            exact ⟨congrArg (fun b => Ending.returned (Value.bool b)) (by rw [formed_three HTT.out rfl, HMO.out, Bool.and_false]), HB.out⟩
        · have q1 : (k == 1) = false := beq_false_of_ne k1
          have q2 : (k == 2) = false := beq_false_of_ne k2
          have q3 : (k == 3) = false := beq_false_of_ne k3
          rw [formed_none k1 k2 k3]
          go_enter Try.func88, Try.ntmps88
          go_wp2_with fail
          refine (HT.out _).mono ?_
          rintro r w' ⟨rfl, rfl⟩
          go_wp2
          go_ret
          exact ⟨rfl, HB.out⟩
  · rw [decide_eq_false ht] at hT
    have HT := Lib.hid hT
    rw [formed_term ht]
    clear hT ht
    go_enter Try.func88, Try.ntmps88
    go_wp2_with fail
    refine (HT.out _).mono ?_
    rintro r w' ⟨rfl, rfl⟩
    go_wp2
    go_ret
    exact ⟨rfl, HB.out⟩

end Go.Proofs.Ytgbhfolbkgibfaa

/- Which entries are formed: the reference. -/
namespace Go.Proofs.Ytgbhfolbkgibfaa
set_option maxRecDepth 20000
open Go.RowKit BinMath CmdMath

set_option maxHeartbeats 4000000 in
theorem refFormed_any (e : Ent) (a b : Option Addr) (ca cb : Nat) (w : World) (he : Has w e a ca b cb) :
    Calls Try.prog 40 #[.agg (entC e a ca b cb)] w fun r w' => r = .returned (.bool (formed e)) ∧ Below w.heap.size w w' := by
  obtain ⟨t, k, c, s, d, m⟩ := e
  obtain ⟨nd, hnd⟩ : ∃ nd, nd = d.length := ⟨_, rfl⟩
  obtain ⟨nm, hnm⟩ : ∃ nm, nm = m.length := ⟨_, rfl⟩
  have b1 : Below w.heap.size w (w.alloc (.cells (entC ⟨t, k, c, s, d, m⟩ a ca b cb) 62)) := (Below.refl _ _).alloc (Nat.le_refl _) _
  have h1 := he.below (Nat.le_refl _) b1
  have HB := Lib.hid b1
  have hdl := he.dl
  have hml := he.ml
  have ht64 := he.ok.t
  have hM := refMembers_any _ m _ h1.m hml
  simp only [entC] at hM h1 HB hdl hml ⊢
  rw [← hnd, ← hnm] at HB ⊢
  rw [← hnd, ← hnm] at hM
  rw [← hnm] at hml
  rw [← hnd] at hdl
  have HM := Lib.hid hM
  have HND := Lib.hid hnd
  have HNM := Lib.hid hnm
  clear he b1 h1 hM hnd hnm
  by_cases ht1 : t < 1
  · rw [formed_term (fun h => absurd h.1 (show ¬ 1 ≤ t by omega))]
    have q : decide ((t : Int) < 1) = true := by simp; omega
    go_enter Try.func40, Try.ntmps40
    go_wp2
    go_ret
    exact ⟨rfl, HB.out⟩
  · have q1 : decide ((t : Int) < 1) = false := by simp; omega
    by_cases ht2 : 4611686018427387904 < t
    · rw [formed_term (fun h => absurd h.2 (show ¬ t ≤ 4611686018427387904 by omega))]
      have q : decide ((4611686018427387904 : Int) < (t : Int)) = true := by simp; omega
      go_enter Try.func40, Try.ntmps40
      go_wp2
      go_ret
      exact ⟨rfl, HB.out⟩
    · have q2 : decide ((4611686018427387904 : Int) < (t : Int)) = false := by simp; omega
      have HT := Lib.hid (show 1 ≤ t ∧ t ≤ 4611686018427387904 by omega)
      clear ht1 ht2
      by_cases hc : c = 0
      · subst hc
        by_cases hs : s = 0
        · subst hs
          by_cases hd : nd = 0
          · have HBR0 : Hid (∀ k : Int, bare ⟨t, k, 0, 0, d, m⟩ = true) := Lib.hid fun k => by simp only [bare]; rw [← HND.out, hd]; rfl
            have e0 : ((nd : Int) == 0) = true := by rw [hd]; rfl
            clear hd
            by_cases k1 : k = 1
            · subst k1
              go_enter Try.func40, Try.ntmps40
              go_wp2
              go_ret
              refine ⟨congrArg (fun b => Ending.returned (Value.bool b)) ?_, HB.out⟩
              rw [formed_one HT.out rfl, (show bare ⟨t, 1, 0, 0, d, m⟩ = true from HBR0.out _)]
              rw [Bool.true_and, ← HNM.out]
              by_cases h0 : nm = 0 <;> simp [h0]
            · by_cases k2 : k = 2
              · subst k2
                by_cases h64 : nd ≤ 64
                · have H64 := Lib.hid h64
                  have q : decide ((nd : Int) ≤ 64) = true := by simp; omega
                  clear h64
                  go_enter Try.func40, Try.ntmps40
                  go_wp2
                  go_ret
                  refine ⟨congrArg (fun b => Ending.returned (Value.bool b)) ?_, HB.out⟩
                  rw [formed_two HT.out rfl, decide_eq_true (show d.length ≤ 64 by rw [← HND.out]; exact H64.out), ← HNM.out, Bool.true_and]
                  by_cases h0 : nm = 0 <;> simp [h0]
                · have H64 := Lib.hid h64
                  have q : decide ((nd : Int) ≤ 64) = false := by simp; omega
                  clear h64
                  go_enter Try.func40, Try.ntmps40
                  go_wp2
                  go_ret
                  refine ⟨congrArg (fun b => Ending.returned (Value.bool b)) ?_, HB.out⟩
                  rw [formed_two HT.out rfl, decide_eq_false (show ¬ d.length ≤ 64 by rw [← HND.out]; exact H64.out)]
                  rfl
              · by_cases k3 : k = 3
                · subst k3
                  go_enter Try.func40, Try.ntmps40
                  go_wp2_with fail
                  refine HM.out.mono ?_
                  rintro r w' ⟨rfl, nq, rfl⟩
                  go_wp2
                  go_ret
                  exact ⟨congrArg (fun b => Ending.returned (Value.bool b)) (by rw [formed_three HT.out rfl, (show bare ⟨t, 3, 0, 0, d, m⟩ = true from HBR0.out _), Bool.true_and]), below_drewN HB.out nq⟩
                · have e1 : (k == 1) = false := beq_false_of_ne k1
                  have e2 : (k == 2) = false := beq_false_of_ne k2
                  have e3 : (k == 3) = false := beq_false_of_ne k3
                  rw [formed_none k1 k2 k3]
                  go_enter Try.func40, Try.ntmps40
                  go_wp2
                  go_ret
                  exact ⟨rfl, HB.out⟩
          · have HBR0 : Hid (∀ k : Int, bare ⟨t, k, 0, 0, d, m⟩ = false) := Lib.hid fun k => by simp only [bare]; rw [← HND.out, decide_eq_false hd, Bool.and_false]
            have e0 : ((nd : Int) == 0) = false := beq_false_of_ne (by omega)
            clear hd
            by_cases k1 : k = 1
            · subst k1
              go_enter Try.func40, Try.ntmps40
              go_wp2
              go_ret
              refine ⟨congrArg (fun b => Ending.returned (Value.bool b)) ?_, HB.out⟩
              rw [formed_one HT.out rfl, (show bare ⟨t, 1, 0, 0, d, m⟩ = false from HBR0.out _)]
              rfl
            · by_cases k2 : k = 2
              · subst k2
                by_cases h64 : nd ≤ 64
                · have H64 := Lib.hid h64
                  have q : decide ((nd : Int) ≤ 64) = true := by simp; omega
                  clear h64
                  go_enter Try.func40, Try.ntmps40
                  go_wp2
                  go_ret
                  refine ⟨congrArg (fun b => Ending.returned (Value.bool b)) ?_, HB.out⟩
                  rw [formed_two HT.out rfl, decide_eq_true (show d.length ≤ 64 by rw [← HND.out]; exact H64.out), ← HNM.out, Bool.true_and]
                  by_cases h0 : nm = 0 <;> simp [h0]
                · have H64 := Lib.hid h64
                  have q : decide ((nd : Int) ≤ 64) = false := by simp; omega
                  clear h64
                  go_enter Try.func40, Try.ntmps40
                  go_wp2
                  go_ret
                  refine ⟨congrArg (fun b => Ending.returned (Value.bool b)) ?_, HB.out⟩
                  rw [formed_two HT.out rfl, decide_eq_false (show ¬ d.length ≤ 64 by rw [← HND.out]; exact H64.out)]
                  rfl
              · by_cases k3 : k = 3
                · subst k3
                  go_enter Try.func40, Try.ntmps40
                  go_wp2
                  go_ret
                  exact ⟨congrArg (fun b => Ending.returned (Value.bool b)) (by rw [formed_three HT.out rfl, (show bare ⟨t, 3, 0, 0, d, m⟩ = false from HBR0.out _), Bool.false_and]), HB.out⟩
                · have e1 : (k == 1) = false := beq_false_of_ne k1
                  have e2 : (k == 2) = false := beq_false_of_ne k2
                  have e3 : (k == 3) = false := beq_false_of_ne k3
                  rw [formed_none k1 k2 k3]
                  go_enter Try.func40, Try.ntmps40
                  go_wp2
                  go_ret
                  exact ⟨rfl, HB.out⟩
        · have HBR0 : Hid (∀ k : Int, bare ⟨t, k, 0, s, d, m⟩ = false) := Lib.hid fun k => by simp only [bare]; rw [decide_eq_false hs, Bool.and_false, Bool.false_and]
          have e0 : ((s : Int) == 0) = false := beq_false_of_ne (by omega)
          clear hs
          by_cases k1 : k = 1
          · subst k1
            go_enter Try.func40, Try.ntmps40
            go_wp2
            go_ret
            refine ⟨congrArg (fun b => Ending.returned (Value.bool b)) ?_, HB.out⟩
            rw [formed_one HT.out rfl, (show bare ⟨t, 1, 0, s, d, m⟩ = false from HBR0.out _)]
            rfl
          · by_cases k2 : k = 2
            · subst k2
              by_cases h64 : nd ≤ 64
              · have H64 := Lib.hid h64
                have q : decide ((nd : Int) ≤ 64) = true := by simp; omega
                clear h64
                go_enter Try.func40, Try.ntmps40
                go_wp2
                go_ret
                refine ⟨congrArg (fun b => Ending.returned (Value.bool b)) ?_, HB.out⟩
                rw [formed_two HT.out rfl, decide_eq_true (show d.length ≤ 64 by rw [← HND.out]; exact H64.out), ← HNM.out, Bool.true_and]
                by_cases h0 : nm = 0 <;> simp [h0]
              · have H64 := Lib.hid h64
                have q : decide ((nd : Int) ≤ 64) = false := by simp; omega
                clear h64
                go_enter Try.func40, Try.ntmps40
                go_wp2
                go_ret
                refine ⟨congrArg (fun b => Ending.returned (Value.bool b)) ?_, HB.out⟩
                rw [formed_two HT.out rfl, decide_eq_false (show ¬ d.length ≤ 64 by rw [← HND.out]; exact H64.out)]
                rfl
            · by_cases k3 : k = 3
              · subst k3
                go_enter Try.func40, Try.ntmps40
                go_wp2
                go_ret
                exact ⟨congrArg (fun b => Ending.returned (Value.bool b)) (by rw [formed_three HT.out rfl, (show bare ⟨t, 3, 0, s, d, m⟩ = false from HBR0.out _), Bool.false_and]), HB.out⟩
              · have e1 : (k == 1) = false := beq_false_of_ne k1
                have e2 : (k == 2) = false := beq_false_of_ne k2
                have e3 : (k == 3) = false := beq_false_of_ne k3
                rw [formed_none k1 k2 k3]
                go_enter Try.func40, Try.ntmps40
                go_wp2
                go_ret
                exact ⟨rfl, HB.out⟩
      · have HBR0 : Hid (∀ k : Int, bare ⟨t, k, c, s, d, m⟩ = false) := Lib.hid fun k => by simp only [bare]; rw [decide_eq_false hc, Bool.false_and, Bool.false_and]
        have e0 : ((c : Int) == 0) = false := beq_false_of_ne (by omega)
        clear hc
        by_cases k1 : k = 1
        · subst k1
          go_enter Try.func40, Try.ntmps40
          go_wp2
          go_ret
          refine ⟨congrArg (fun b => Ending.returned (Value.bool b)) ?_, HB.out⟩
          rw [formed_one HT.out rfl, (show bare ⟨t, 1, c, s, d, m⟩ = false from HBR0.out _)]
          rfl
        · by_cases k2 : k = 2
          · subst k2
            by_cases h64 : nd ≤ 64
            · have H64 := Lib.hid h64
              have q : decide ((nd : Int) ≤ 64) = true := by simp; omega
              clear h64
              go_enter Try.func40, Try.ntmps40
              go_wp2
              go_ret
              refine ⟨congrArg (fun b => Ending.returned (Value.bool b)) ?_, HB.out⟩
              rw [formed_two HT.out rfl, decide_eq_true (show d.length ≤ 64 by rw [← HND.out]; exact H64.out), ← HNM.out, Bool.true_and]
              by_cases h0 : nm = 0 <;> simp [h0]
            · have H64 := Lib.hid h64
              have q : decide ((nd : Int) ≤ 64) = false := by simp; omega
              clear h64
              go_enter Try.func40, Try.ntmps40
              go_wp2
              go_ret
              refine ⟨congrArg (fun b => Ending.returned (Value.bool b)) ?_, HB.out⟩
              rw [formed_two HT.out rfl, decide_eq_false (show ¬ d.length ≤ 64 by rw [← HND.out]; exact H64.out)]
              rfl
          · by_cases k3 : k = 3
            · subst k3
              go_enter Try.func40, Try.ntmps40
              go_wp2
              go_ret
              exact ⟨congrArg (fun b => Ending.returned (Value.bool b)) (by rw [formed_three HT.out rfl, (show bare ⟨t, 3, c, s, d, m⟩ = false from HBR0.out _), Bool.false_and]), HB.out⟩
            · have e1 : (k == 1) = false := beq_false_of_ne k1
              have e2 : (k == 2) = false := beq_false_of_ne k2
              have e3 : (k == 3) = false := beq_false_of_ne k3
              rw [formed_none k1 k2 k3]
              go_enter Try.func40, Try.ntmps40
              go_wp2
              go_ret
              exact ⟨rfl, HB.out⟩

end Go.Proofs.Ytgbhfolbkgibfaa

