/- Same, of entries. -/
import Derived.Test.YtboongdoggggoaaCmdSame
namespace Go.Proofs.Ytboongdoggggoaa
set_option maxRecDepth 20000
open Go.RowKit BinMath CmdMath

/-- What two boxes are behind. -/
theorem boxes (w : World) (X Y : Array Value) (t : TypeId) : Below w.heap.size w ((w.alloc (.cells X t)).alloc (.cells Y t)) := ((Below.refl _ _).alloc (Nat.le_refl _) _).alloc (by simp) _

set_option maxHeartbeats 4000000 in
theorem same_any (e f : Ent) (a b a' b' : Option Addr) (ca cb ca' cb' : Nat) (w : World) (he : Has w e a ca b cb) (hf : Has w f a' ca' b' cb') :
    Calls Try.prog 50 #[.agg (entC e a ca b cb), .agg (entC f a' ca' b' cb')] w fun r w' => r = .returned (.bool (decide (e = f))) ∧ Below w.heap.size w w' := by
  obtain ⟨t, k, c, s, d, m⟩ := e
  obtain ⟨t', k', c', s', d', m'⟩ := f
  obtain ⟨nd, hnd⟩ : ∃ nd, nd = d.length := ⟨_, rfl⟩
  obtain ⟨nm, hnm⟩ : ∃ nm, nm = m.length := ⟨_, rfl⟩
  obtain ⟨nd', hnd'⟩ : ∃ nd', nd' = d'.length := ⟨_, rfl⟩
  obtain ⟨nm', hnm'⟩ : ∃ nm', nm' = m'.length := ⟨_, rfl⟩
  obtain ⟨-, hd, hm, hdl, hml⟩ := he
  obtain ⟨-, hd', hm', -, -⟩ := hf
  simp only [entC] at hd hm hdl hml hd' hm' ⊢
  rw [← hnd] at hd
  rw [← hnm] at hm
  rw [← hnd'] at hd'
  rw [← hnm'] at hm'
  rw [← hnd, ← hnm, ← hnd', ← hnm']
  clear hnd hnm hnd' hnm' hdl
  have b2 := boxes w #[.int .u64 (t : Int), .int .i64 k, .int .u64 (c : Int), .int .u64 (s : Int), .slice a nd ca, .slice b nm cb] #[.int .u64 (t' : Int), .int .i64 k', .int .u64 (c' : Int), .int .u64 (s' : Int), .slice a' nd' ca', .slice b' nm' cb'] 87
  have HB := Lib.hid b2
  have hq := Lib.hid (equal_any _ _ d d' _ (hd.below (Nat.le_refl _) b2) (hd'.below (Nat.le_refl _) b2))
  have hn := Lib.hid (eqNums_any _ _ m m' _ (hm.below (Nat.le_refl _) b2) (hm'.below (Nat.le_refl _) b2) hml)
  clear hd hm hd' hm' b2 hml
  by_cases ht : t = t'
  · subst ht
    by_cases hk : k = k'
    · subst hk
      by_cases hc : c = c'
      · subst hc
        by_cases hs : s = s'
        · subst hs
          by_cases hd : d = d'
          · have HD := Lib.hid hd
            clear hd
            go_enter Try.func50, Try.ntmps50
            go_wp2_with fail
            refine hq.out.mono ?_
            rintro r w' ⟨rfl, rfl⟩
            rw [decide_eq_true HD.out]
            go_wp2_with fail
            refine hn.out.mono ?_
            rintro r w' ⟨rfl, nq, rfl⟩
            go_wp2
            go_ret
            refine ⟨congrArg (fun b => Ending.returned (Value.bool b)) (decide_eq_decide.2 ⟨fun h => by rw [HD.out, h], fun h => by injection h⟩), below_drewN HB.out nq⟩
          · rw [decide_eq_false (show ¬ ((⟨t, k, c, s, d, m⟩ : Ent) = ⟨t, k, c, s, d', m'⟩) from fun h => hd (by injection h))]
            have HD := Lib.hid hd
            clear hd
            go_enter Try.func50, Try.ntmps50
            go_wp2_with fail
            refine hq.out.mono ?_
            rintro r w' ⟨rfl, rfl⟩
            rw [decide_eq_false HD.out]
            go_wp2
            go_ret
            exact ⟨rfl, HB.out⟩
        · have q : ((s : Int) == (s' : Int)) = false := beq_false_of_ne (by omega)
          rw [decide_eq_false (show ¬ ((⟨t, k, c, s, d, m⟩ : Ent) = ⟨t, k, c, s', d', m'⟩) from fun h => hs (by injection h))]
          clear hs
          go_enter Try.func50, Try.ntmps50
          go_wp2
          go_ret
          exact ⟨rfl, HB.out⟩
      · have q : ((c : Int) == (c' : Int)) = false := beq_false_of_ne (by omega)
        rw [decide_eq_false (show ¬ ((⟨t, k, c, s, d, m⟩ : Ent) = ⟨t, k, c', s', d', m'⟩) from fun h => hc (by injection h))]
        clear hc
        go_enter Try.func50, Try.ntmps50
        go_wp2
        go_ret
        exact ⟨rfl, HB.out⟩
    · have q : (k == k') = false := beq_false_of_ne (by omega)
      rw [decide_eq_false (show ¬ ((⟨t, k, c, s, d, m⟩ : Ent) = ⟨t, k', c', s', d', m'⟩) from fun h => hk (by injection h))]
      clear hk
      go_enter Try.func50, Try.ntmps50
      go_wp2
      go_ret
      exact ⟨rfl, HB.out⟩
  · have q : ((t : Int) == (t' : Int)) = false := beq_false_of_ne (by omega)
    rw [decide_eq_false (show ¬ ((⟨t, k, c, s, d, m⟩ : Ent) = ⟨t', k', c', s', d', m'⟩) from fun h => ht (by injection h))]
    clear ht
    go_enter Try.func50, Try.ntmps50
    go_wp2
    go_ret
    exact ⟨rfl, HB.out⟩

set_option maxHeartbeats 4000000 in
theorem refSame_any (e f : Ent) (a b a' b' : Option Addr) (ca cb ca' cb' : Nat) (w : World) (he : Has w e a ca b cb) (hf : Has w f a' ca' b' cb') :
    Calls Try.prog 47 #[.agg (entC e a ca b cb), .agg (entC f a' ca' b' cb')] w fun r w' => r = .returned (.bool (decide (e = f))) ∧ Below w.heap.size w w' := by
  obtain ⟨t, k, c, s, d, m⟩ := e
  obtain ⟨t', k', c', s', d', m'⟩ := f
  obtain ⟨nd, hnd⟩ : ∃ nd, nd = d.length := ⟨_, rfl⟩
  obtain ⟨nm, hnm⟩ : ∃ nm, nm = m.length := ⟨_, rfl⟩
  obtain ⟨nd', hnd'⟩ : ∃ nd', nd' = d'.length := ⟨_, rfl⟩
  obtain ⟨nm', hnm'⟩ : ∃ nm', nm' = m'.length := ⟨_, rfl⟩
  obtain ⟨-, hd, hm, hdl, hml⟩ := he
  obtain ⟨-, hd', hm', -, -⟩ := hf
  simp only [entC] at hd hm hdl hml hd' hm' ⊢
  rw [← hnd] at hd
  rw [← hnm] at hm
  rw [← hnd'] at hd'
  rw [← hnm'] at hm'
  rw [← hnd, ← hnm, ← hnd', ← hnm']
  clear hnd hnm hnd' hnm' hdl
  have b2 := boxes w #[.int .u64 (t : Int), .int .i64 k, .int .u64 (c : Int), .int .u64 (s : Int), .slice a nd ca, .slice b nm cb] #[.int .u64 (t' : Int), .int .i64 k', .int .u64 (c' : Int), .int .u64 (s' : Int), .slice a' nd' ca', .slice b' nm' cb'] 87
  have HB := Lib.hid b2
  have c1 := conv_bys (hd.below (Nat.le_refl _) b2)
  have c2 := conv_bys (hd'.below (Nat.le_refl _) b2)
  have hn := Lib.hid (refNums_any _ _ m m' _ (hm.below (Nat.le_refl _) b2) (hm'.below (Nat.le_refl _) b2) hml)
  obtain ⟨X, hX⟩ : ∃ X : ByteArray, X = ⟨d.toArray⟩ := ⟨_, rfl⟩
  obtain ⟨Y, hY⟩ : ∃ Y : ByteArray, Y = ⟨d'.toArray⟩ := ⟨_, rfl⟩
  rw [← hX] at c1
  rw [← hY] at c2
  have hXY : d ≠ d' → (X.toList == Y.toList) = false := fun h => by rw [hX, hY, ByteArray.toList_mk, ByteArray.toList_mk]; exact beq_false_of_ne h
  have hXX : d = d' → (X.toList == Y.toList) = true := fun h => by rw [hX, hY, ByteArray.toList_mk, ByteArray.toList_mk]; exact beq_iff_eq.2 h
  have HXY := Lib.hid hXY
  have HXX := Lib.hid hXX
  clear hX hY hXY hXX
  clear hd hm hd' hm' b2 hml
  by_cases ht : t = t'
  · subst ht
    by_cases hk : k = k'
    · subst hk
      by_cases hc : c = c'
      · subst hc
        by_cases hs : s = s'
        · subst hs
          by_cases hd : d = d'
          · have HD := Lib.hid hd
            have q := HXX.out hd
            clear hd
            go_enter Try.func47, Try.ntmps47
            go_wp2_with fail
            refine hn.out.mono ?_
            rintro r w' ⟨rfl, nq, rfl⟩
            go_wp2
            go_ret
            refine ⟨congrArg (fun b => Ending.returned (Value.bool b)) (decide_eq_decide.2 ⟨fun h => by rw [HD.out, h], fun h => by injection h⟩), below_drewN HB.out nq⟩
          · rw [decide_eq_false (show ¬ ((⟨t, k, c, s, d, m⟩ : Ent) = ⟨t, k, c, s, d', m'⟩) from fun h => hd (by injection h))]
            have q := HXY.out hd
            clear hd
            go_enter Try.func47, Try.ntmps47
            go_wp2
            go_ret
            exact ⟨rfl, HB.out⟩
        · have q : ((s : Int) == (s' : Int)) = false := beq_false_of_ne (by omega)
          rw [decide_eq_false (show ¬ ((⟨t, k, c, s, d, m⟩ : Ent) = ⟨t, k, c, s', d', m'⟩) from fun h => hs (by injection h))]
          clear hs
          go_enter Try.func47, Try.ntmps47
          go_wp2
          go_ret
          exact ⟨rfl, HB.out⟩
      · have q : ((c : Int) == (c' : Int)) = false := beq_false_of_ne (by omega)
        rw [decide_eq_false (show ¬ ((⟨t, k, c, s, d, m⟩ : Ent) = ⟨t, k, c', s', d', m'⟩) from fun h => hc (by injection h))]
        clear hc
        go_enter Try.func47, Try.ntmps47
        go_wp2
        go_ret
        exact ⟨rfl, HB.out⟩
    · have q : (k == k') = false := beq_false_of_ne (by omega)
      rw [decide_eq_false (show ¬ ((⟨t, k, c, s, d, m⟩ : Ent) = ⟨t, k', c', s', d', m'⟩) from fun h => hk (by injection h))]
      clear hk
      go_enter Try.func47, Try.ntmps47
      go_wp2
      go_ret
      exact ⟨rfl, HB.out⟩
  · have q : ((t : Int) == (t' : Int)) = false := beq_false_of_ne (by omega)
    rw [decide_eq_false (show ¬ ((⟨t, k, c, s, d, m⟩ : Ent) = ⟨t', k', c', s', d', m'⟩) from fun h => ht (by injection h))]
    clear ht
    go_enter Try.func47, Try.ntmps47
    go_wp2
    go_ret
    exact ⟨rfl, HB.out⟩

end Go.Proofs.Ytboongdoggggoaa
