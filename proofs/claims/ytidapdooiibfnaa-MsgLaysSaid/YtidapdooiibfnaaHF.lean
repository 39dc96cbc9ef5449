/- Joined: CmdSame, CmdEq, CmdRefMem, CmdForm, CmdRefForm. -/
import Derived.Test.YtidapdooiibfnaaHE
/- Members, and lists that are held against each other. -/
namespace Go.Proofs.Ytidapdooiibfnaa
set_option maxRecDepth 20000
open Go.RowKit BinMath CmdMath

theorem rises_step {l : List Nat} {a i : Nat} (hi : i < l.length) : rises a (l.drop i) = (decide (a < l[i] ∧ l[i] ≤ 7) && rises l[i] (l.drop (i + 1))) := by
  rw [List.drop_eq_getElem_cons hi, rises]

set_option maxHeartbeats 1000000 in
theorem members_any (v : Value) (l : List Nat) (w : World) (hv : Nums w v l) (hl : l.length ≤ 140737488351232) (hb : ∀ x ∈ l, x < 18446744073709551616) :
    Calls Try.prog 60 #[v] w fun e w' => e = .returned (.bool (memOk l)) ∧ w' = w := by
  obtain ⟨a, cap, rfl⟩ := hv.shape
  obtain ⟨-, hlc, hc⟩ := hv.at
  obtain ⟨n, hn⟩ : ∃ n, n = l.length := ⟨_, rfl⟩
  have hcv := conv_len n (by omega)
  have hct := fun W => isCount_any n W (by omega)
  by_cases h17 : 1 ≤ n ∧ n ≤ 7
  · have hne : l.isEmpty = false := by cases l with
      | nil => simp at hn; omega
      | cons x r => rfl
    have he : memOk l = rises 0 l := by simp [memOk, hne]
    have h0 : rises 0 l = rises 0 (l.drop 0) := rfl
    rw [he]
    rw [decide_eq_true h17] at hct
    rw [← hn] at hlc ⊢
    have HC := Lib.hid hc
    have HB := Lib.hid hb
    have HN := Lib.hid hn
    have H0 := Lib.hid h0
    have HT := Lib.hid hct
    have hn7 := h17.2
    clear hc hb hn h0 hct h17 hne he hv hl
    go_enter Try.func60, Try.ntmps60
    go_wp2_with fail
    refine (HT.out _).mono ?_
    rintro e w' ⟨rfl, rfl⟩
    go_wp2
    go_loop [3, 13] (fun s3 s13 => ∃ i m : Nat, i ≤ n ∧ s13 = .int .i64 (i : Int) ∧ s3 = .int .u64 (m : Int) ∧ m < 18446744073709551616 ∧ rises 0 l = rises m (l.drop i)) (fun _ s13 => n - (intOf s13).toNat)
    case atStart => exact ⟨0, 0, by omega, rfl, rfl, by omega, H0.out⟩
    case round =>
      obtain ⟨i, m, hi, rfl, rfl, hm, hr⟩ := hrel
      have HR := Lib.hid hr
      clear hr
      by_cases hlt : i < n
      · have hil : i < l.length := by have := HN.out; omega
        obtain ⟨ad, rfl, hcell⟩ := HC.out i hil
        have hy := HB.out l[i] (List.getElem_mem _)
        have hst := rises_step (a := m) hil
        obtain ⟨y, hye⟩ : ∃ y, y = l[i] := ⟨_, rfl⟩
        rw [← hye] at hcell hy hst
        have HS := Lib.hid hst
        clear hst hye hil
        have hnx := fun W => isNext_any m y W hy
        by_cases hyl : m < y ∧ y ≤ 7
        · rw [decide_eq_true hyl] at hnx
          have HX := Lib.hid hnx
          have HY := Lib.hid hyl
          clear hnx hyl
          go_wp2_with fail
          refine (HX.out _).mono ?_
          rintro e w' ⟨rfl, rfl⟩
          go_wp2
          go_round
          case rel => exact ⟨i + 1, y, by omega, by go_num, rfl, hy, by rw [HR.out, HS.out, decide_eq_true HY.out]; rfl⟩
          case measure => simp [intOf]; omega
        · rw [decide_eq_false hyl] at hnx
          have HX := Lib.hid hnx
          have HY := Lib.hid hyl
          clear hnx hyl
          go_wp2_with fail
          refine (HX.out _).mono ?_
          rintro e w' ⟨rfl, rfl⟩
          go_wp2
          go_ret
          rw [HR.out, HS.out, decide_eq_false HY.out]
          exact ⟨rfl, rfl⟩
      · go_wp2
        go_ret
        have e : l.drop i = [] := List.drop_eq_nil_of_le (by have := HN.out; omega)
        rw [HR.out, e]
        exact ⟨rfl, rfl⟩
  · have he : memOk l = false := by
      cases h : memOk l with
      | false => rfl
      | true => exact absurd (hn ▸ memOk_len h) h17
    rw [he]
    rw [decide_eq_false h17] at hct
    rw [← hn]
    have HT := Lib.hid hct
    have HN := Lib.hid hn
    have hn47 : n ≤ 140737488351232 := by omega
    clear hc hb hct he h17 hv hl hlc hn
    go_enter Try.func60, Try.ntmps60
    go_wp2_with fail
    refine (HT.out _).mono ?_
    rintro e w' ⟨rfl, rfl⟩
    go_wp2
    go_ret
    exact ⟨rfl, rfl⟩

set_option maxHeartbeats 400000 in
theorem equal_any (va vb : Value) (la lb : List UInt8) (w : World) (ha : Bys w va la) (hb : Bys w vb lb) :
    Calls Try.prog 44 #[va, vb] w fun e w' => e = .returned (.bool (decide (la = lb))) ∧ w' = w := by
  have c1 := conv_bys ha
  have c2 := conv_bys hb
  obtain ⟨X, hX⟩ : ∃ X : ByteArray, X = ⟨la.toArray⟩ := ⟨_, rfl⟩
  obtain ⟨Y, hY⟩ : ∃ Y : ByteArray, Y = ⟨lb.toArray⟩ := ⟨_, rfl⟩
  rw [← hX] at c1
  rw [← hY] at c2
  have he : decide (la = lb) = (X.toList == Y.toList) := by
    rw [hX, hY, ByteArray.toList_mk, ByteArray.toList_mk]
    by_cases h : la = lb
    · rw [decide_eq_true h, h]; exact (beq_self_eq_true lb).symm
    · rw [decide_eq_false h]; exact (beq_false_of_ne h).symm
  rw [he]
  clear ha hb hX hY he
  go_enter Try.func44, Try.ntmps44
  go_wp2
  go_ret
  exact ⟨rfl, rfl⟩

/-- Lists that are one up to i. -/
def eqTo (a b : List Nat) (i : Nat) : Prop := ∀ j (ha : j < a.length) (hb : j < b.length), j < i → a[j] = b[j]

theorem eqTo_step {a b : List Nat} {i : Nat} (h : eqTo a b i) (ha : i < a.length) (hb : i < b.length) (he : a[i] = b[i]) : eqTo a b (i + 1) := fun j h1 h2 h3 => by
  by_cases hj : j = i
  · subst hj; exact he
  · exact h j h1 h2 (by omega)

theorem eqTo_all {a b : List Nat} (hl : a.length = b.length) (h : eqTo a b a.length) : a = b := List.ext_getElem hl fun j h1 h2 => h j h1 h2 h1

set_option maxHeartbeats 1000000 in
theorem eqNums_any (va vb : Value) (la lb : List Nat) (w : World) (ha : Nums w va la) (hb : Nums w vb lb) (hl : la.length ≤ 140737488351232) :
    Calls Try.prog 43 #[va, vb] w fun e w' => e = .returned (.bool (decide (la = lb))) ∧ ∃ n, w' = w.drewN n := by
  obtain ⟨a, ca, rfl⟩ := ha.shape
  obtain ⟨b, cb, rfl⟩ := hb.shape
  obtain ⟨-, hac, hA⟩ := ha.at
  obtain ⟨-, hbc, hB⟩ := hb.at
  obtain ⟨n, hn⟩ : ∃ n, n = la.length := ⟨_, rfl⟩
  by_cases hlen : la.length = lb.length
  · have hm : n = lb.length := by omega
    rw [← hn] at hac hl
    rw [← hm] at hbc
    rw [← hn, ← hm]
    have HA := Lib.hid hA
    have HB := Lib.hid hB
    have HN := Lib.hid hn
    have HM := Lib.hid hm
    clear hA hB hn hm hlen ha hb
    go_enter Try.func43, Try.ntmps43
    go_wp2
    go_loopw [13] (fun s13 W => ∃ i k : Nat, i ≤ n ∧ s13 = .int .i64 (i : Int) ∧ eqTo la lb i ∧ W = w.drewN k) (fun s13 _ => n - (intOf s13).toNat)
    case atStart => exact ⟨0, 0, by omega, rfl, fun j _ _ h => absurd h (by omega), rfl⟩
    case round =>
      obtain ⟨i, k, hi, rfl, he, rfl⟩ := hrel
      have HE := Lib.hid he
      clear he
      by_cases hlt : i < n
      · have hil : i < la.length := by have := HN.out; omega
        have hjl : i < lb.length := by have := HM.out; omega
        obtain ⟨ad, rfl, hca⟩ := HA.out i hil
        obtain ⟨bd, rfl, hcb⟩ := HB.out i hjl
        have hst := fun h => eqTo_step HE.out hil hjl h
        have hno : la[i] ≠ lb[i] → la ≠ lb := fun h e => h (by subst e; rfl)
        obtain ⟨x, hx⟩ : ∃ x, x = la[i] := ⟨_, rfl⟩
        obtain ⟨y, hy⟩ : ∃ y, y = lb[i] := ⟨_, rfl⟩
        rw [← hx, ← hy] at hst hno
        rw [← hx] at hca
        rw [← hy] at hcb
        have HS := Lib.hid hst
        have HO := Lib.hid hno
        clear hst hno hx hy hil hjl
        by_cases hxy : x = y
        · subst hxy
          go_wp2
          go_quiet (fail)
          go_wp2
          go_round
          case rel => exact ⟨i + 1, _, by omega, by go_num, HS.out trivial, rfl⟩
          case measure => simp [intOf]; omega
        · have hq : ((x : Int) != (y : Int)) = true := by simp; omega
          have HXY := Lib.hid hxy
          clear hxy
          go_wp2
          go_quiet (fail)
          go_wp2
          go_ret
          rw [decide_eq_false (HO.out HXY.out)]
          exact ⟨rfl, _, World.drewN_drewN ..⟩
      · go_wp2
        go_ret
        have e : la = lb := eqTo_all (by rw [← HN.out, ← HM.out]) (by rw [← HN.out, ← show i = n by omega]; exact HE.out)
        rw [decide_eq_true e]
        exact ⟨rfl, _, rfl⟩
  · have hq : ((la.length : Int) != (lb.length : Int)) = true := by simp; omega
    have hne : la ≠ lb := fun e => hlen (by rw [e])
    rw [decide_eq_false hne]
    obtain ⟨m, hm⟩ : ∃ m, m = lb.length := ⟨_, rfl⟩
    rw [← hn, ← hm] at hq
    rw [← hn, ← hm]
    clear hA hB hn hm hlen ha hb hne hac hbc
    go_enter Try.func43, Try.ntmps43
    go_wp2
    go_ret
    exact ⟨rfl, 0, rfl⟩

set_option maxHeartbeats 1000000 in
theorem refNums_any (va vb : Value) (la lb : List Nat) (w : World) (ha : Nums w va la) (hb : Nums w vb lb) (hl : la.length ≤ 140737488351232) :
    Calls Try.prog 29 #[va, vb] w fun e w' => e = .returned (.bool (decide (la = lb))) ∧ ∃ n, w' = w.drewN n := by
  obtain ⟨a, ca, rfl⟩ := ha.shape
  obtain ⟨b, cb, rfl⟩ := hb.shape
  obtain ⟨-, hac, hA⟩ := ha.at
  obtain ⟨-, hbc, hB⟩ := hb.at
  obtain ⟨n, hn⟩ : ∃ n, n = la.length := ⟨_, rfl⟩
  by_cases hlen : la.length = lb.length
  · have hm : n = lb.length := by omega
    rw [← hn] at hac hl
    rw [← hm] at hbc
    rw [← hn, ← hm]
    have HA := Lib.hid hA
    have HB := Lib.hid hB
    have HN := Lib.hid hn
    have HM := Lib.hid hm
    clear hA hB hn hm hlen ha hb
    go_enter Try.func29, Try.ntmps29
    go_wp2
    go_loopw [5] (fun s5 W => ∃ i k : Nat, i ≤ n ∧ s5 = .int .i64 (i : Int) ∧ eqTo la lb i ∧ W = w.drewN k) (fun s5 _ => n - (intOf s5).toNat)
    case atStart => exact ⟨0, 0, by omega, rfl, fun j _ _ h => absurd h (by omega), rfl⟩
    case round =>
      obtain ⟨i, k, hi, rfl, he, rfl⟩ := hrel
      have HE := Lib.hid he
      clear he
      by_cases hlt : i < n
      · have hil : i < la.length := by have := HN.out; omega
        have hjl : i < lb.length := by have := HM.out; omega
        obtain ⟨ad, rfl, hca⟩ := HA.out i hil
        obtain ⟨bd, rfl, hcb⟩ := HB.out i hjl
        have hst := fun h => eqTo_step HE.out hil hjl h
        have hno : la[i] ≠ lb[i] → la ≠ lb := fun h e => h (by subst e; rfl)
        obtain ⟨x, hx⟩ : ∃ x, x = la[i] := ⟨_, rfl⟩
        obtain ⟨y, hy⟩ : ∃ y, y = lb[i] := ⟨_, rfl⟩
        rw [← hx, ← hy] at hst hno
        rw [← hx] at hca
        rw [← hy] at hcb
        have HS := Lib.hid hst
        have HO := Lib.hid hno
        clear hst hno hx hy hil hjl
        by_cases hxy : x = y
        · subst hxy
          go_wp2
          go_quiet (fail)
          go_wp2
          go_round
          case rel => exact ⟨i + 1, _, by omega, by go_num, HS.out trivial, rfl⟩
          case measure => simp [intOf]; omega
        · have hq : ((x : Int) != (y : Int)) = true := by simp; omega
          have HXY := Lib.hid hxy
          clear hxy
          go_wp2
          go_quiet (fail)
          go_wp2
          go_ret
          rw [decide_eq_false (HO.out HXY.out)]
          exact ⟨rfl, _, World.drewN_drewN ..⟩
      · go_wp2
        go_ret
        have e : la = lb := eqTo_all (by rw [← HN.out, ← HM.out]) (by rw [← HN.out, ← show i = n by omega]; exact HE.out)
        rw [decide_eq_true e]
        exact ⟨rfl, _, rfl⟩
  · have hq : ((la.length : Int) != (lb.length : Int)) = true := by simp; omega
    have hne : la ≠ lb := fun e => hlen (by rw [e])
    rw [decide_eq_false hne]
    obtain ⟨m, hm⟩ : ∃ m, m = lb.length := ⟨_, rfl⟩
    rw [← hn, ← hm] at hq
    rw [← hn, ← hm]
    clear hA hB hn hm hlen ha hb hne hac hbc
    go_enter Try.func29, Try.ntmps29
    go_wp2
    go_ret
    exact ⟨rfl, 0, rfl⟩

end Go.Proofs.Ytidapdooiibfnaa

/- Same, of entries. -/
namespace Go.Proofs.Ytidapdooiibfnaa
set_option maxRecDepth 20000
open Go.RowKit BinMath CmdMath

/-- What two boxes are behind. -/
theorem boxes (w : World) (X Y : Array Value) (t : TypeId) : Below w.heap.size w ((w.alloc (.cells X t)).alloc (.cells Y t)) := ((Below.refl _ _).alloc (Nat.le_refl _) _).alloc (by simp) _

set_option maxHeartbeats 4000000 in
theorem same_any (e f : Ent) (a b a' b' : Option Addr) (ca cb ca' cb' : Nat) (w : World) (he : Has w e a ca b cb) (hf : Has w f a' ca' b' cb') :
    Calls Try.prog 42 #[.agg (entC e a ca b cb), .agg (entC f a' ca' b' cb')] w fun r w' => r = .returned (.bool (decide (e = f))) ∧ Below w.heap.size w w' := by
  obtain ⟨t, k, c, s, d, m⟩ := e
  obtain ⟨t', k', c', s', d', m'⟩ := f
  obtain ⟨nd, hnd⟩ : ∃ nd, nd = d.length := ⟨_, rfl⟩
  obtain ⟨nm, hnm⟩ : ∃ nm, nm = m.length := ⟨_, rfl⟩
  obtain ⟨nd', hnd'⟩ : ∃ nd', nd' = d'.length := ⟨_, rfl⟩
  obtain ⟨nm', hnm'⟩ : ∃ nm', nm' = m'.length := ⟨_, rfl⟩
  obtain ⟨-, hd, hm, hdl, hml⟩ := he
  obtain ⟨-, hd', hm', -, -⟩ := hf
  simp only [entC] at hd hm hdl hml hd' hm' ⊢
  rw [← hnd] at hd
  rw [← hnm] at hm
  rw [← hnd'] at hd'
  rw [← hnm'] at hm'
  rw [← hnd, ← hnm, ← hnd', ← hnm']
  clear hnd hnm hnd' hnm' hdl
  have b2 := boxes w #[.int .u64 (t : Int), .int .i64 k, .int .u64 (c : Int), .int .u64 (s : Int), .slice a nd ca, .slice b nm cb] #[.int .u64 (t' : Int), .int .i64 k', .int .u64 (c' : Int), .int .u64 (s' : Int), .slice a' nd' ca', .slice b' nm' cb'] 42
  have HB := Lib.hid b2
  have hq := Lib.hid (equal_any _ _ d d' _ (hd.below (Nat.le_refl _) b2) (hd'.below (Nat.le_refl _) b2))
  have hn := Lib.hid (eqNums_any _ _ m m' _ (hm.below (Nat.le_refl _) b2) (hm'.below (Nat.le_refl _) b2) hml)
  clear hd hm hd' hm' b2 hml
  by_cases ht : t = t'
  · subst ht
    by_cases hk : k = k'
    · subst hk
      by_cases hc : c = c'
      · subst hc
        by_cases hs : s = s'
        · subst hs
          by_cases hd : d = d'
          · have HD := Lib.hid hd
            clear hd
            go_enter Try.func42, Try.ntmps42
            go_wp2_with fail
            refine hq.out.mono ?_
            rintro r w' ⟨rfl, rfl⟩
            rw [decide_eq_true HD.out]
            go_wp2_with fail
            refine hn.out.mono ?_
            rintro r w' ⟨rfl, nq, rfl⟩
            go_wp2
            go_ret
            refine ⟨congrArg (fun b => Ending.returned (Value.bool b)) (decide_eq_decide.2 ⟨fun h => by rw [HD.out, h], fun h => by injection h⟩), below_drewN HB.out nq⟩
          · rw [decide_eq_false (show ¬ ((⟨t, k, c, s, d, m⟩ : Ent) = ⟨t, k, c, s, d', m'⟩) from fun h => hd (by injection h))]
            have HD := Lib.hid hd
            clear hd
            go_enter Try.func42, Try.ntmps42
            go_wp2_with fail
            refine hq.out.mono ?_
            rintro r w' ⟨rfl, rfl⟩
            rw [decide_eq_false HD.out]
            go_wp2
            go_ret
            exact ⟨rfl, HB.out⟩
        · have q : ((s : Int) == (s' : Int)) = false := beq_false_of_ne (by omega)
          rw [decide_eq_false (show ¬ ((⟨t, k, c, s, d, m⟩ : Ent) = ⟨t, k, c, s', d', m'⟩) from fun h => hs (by injection h))]
          clear hs
          go_enter Try.func42, Try.ntmps42
          go_wp2
          go_ret
          exact ⟨rfl, HB.out⟩
      · have q : ((c : Int) == (c' : Int)) = false := beq_false_of_ne (by omega)
        rw [decide_eq_false (show ¬ ((⟨t, k, c, s, d, m⟩ : Ent) = ⟨t, k, c', s', d', m'⟩) from fun h => hc (by injection h))]
        clear hc
        go_enter Try.func42, Try.ntmps42
        go_wp2
        go_ret
        exact ⟨rfl, HB.out⟩
    · have q : (k == k') = false := beq_false_of_ne (by omega)
      rw [decide_eq_false (show ¬ ((⟨t, k, c, s, d, m⟩ : Ent) = ⟨t, k', c', s', d', m'⟩) from fun h => hk (by injection h))]
      clear hk
      go_enter Try.func42, Try.ntmps42
      go_wp2
      go_ret
      exact ⟨rfl, HB.out⟩
  · have q : ((t : Int) == (t' : Int)) = false := beq_false_of_ne (by omega)
    rw [decide_eq_false (show ¬ ((⟨t, k, c, s, d, m⟩ : Ent) = ⟨t', k', c', s', d', m'⟩) from fun h => ht (by injection h))]
    clear ht
    go_enter Try.func42, Try.ntmps42
    go_wp2
    go_ret
    exact ⟨rfl, HB.out⟩

set_option maxHeartbeats 4000000 in
theorem refSame_any (e f : Ent) (a b a' b' : Option Addr) (ca cb ca' cb' : Nat) (w : World) (he : Has w e a ca b cb) (hf : Has w f a' ca' b' cb') :
    Calls Try.prog 53 #[.agg (entC e a ca b cb), .agg (entC f a' ca' b' cb')] w fun r w' => r = .returned (.bool (decide (e = f))) ∧ Below w.heap.size w w' := by
  obtain ⟨t, k, c, s, d, m⟩ := e
  obtain ⟨t', k', c', s', d', m'⟩ := f
  obtain ⟨nd, hnd⟩ : ∃ nd, nd = d.length := ⟨_, rfl⟩
  obtain ⟨nm, hnm⟩ : ∃ nm, nm = m.length := ⟨_, rfl⟩
  obtain ⟨nd', hnd'⟩ : ∃ nd', nd' = d'.length := ⟨_, rfl⟩
  obtain ⟨nm', hnm'⟩ : ∃ nm', nm' = m'.length := ⟨_, rfl⟩
  obtain ⟨-, hd, hm, hdl, hml⟩ := he
  obtain ⟨-, hd', hm', -, -⟩ := hf
  simp only [entC] at hd hm hdl hml hd' hm' ⊢
  rw [← hnd] at hd
  rw [← hnm] at hm
  rw [← hnd'] at hd'
  rw [← hnm'] at hm'
  rw [← hnd, ← hnm, ← hnd', ← hnm']
  clear hnd hnm hnd' hnm' hdl
  have b2 := boxes w #[.int .u64 (t : Int), .int .i64 k, .int .u64 (c : Int), .int .u64 (s : Int), .slice a nd ca, .slice b nm cb] #[.int .u64 (t' : Int), .int .i64 k', .int .u64 (c' : Int), .int .u64 (s' : Int), .slice a' nd' ca', .slice b' nm' cb'] 42
  have HB := Lib.hid b2
  have c1 := conv_bys (hd.below (Nat.le_refl _) b2)
  have c2 := conv_bys (hd'.below (Nat.le_refl _) b2)
  have hn := Lib.hid (refNums_any _ _ m m' _ (hm.below (Nat.le_refl _) b2) (hm'.below (Nat.le_refl _) b2) hml)
  obtain ⟨X, hX⟩ : ∃ X : ByteArray, X = ⟨d.toArray⟩ := ⟨_, rfl⟩
  obtain ⟨Y, hY⟩ : ∃ Y : ByteArray, Y = ⟨d'.toArray⟩ := ⟨_, rfl⟩
  rw [← hX] at c1
  rw [← hY] at c2
  have hXY : d ≠ d' → (X.toList == Y.toList) = false := fun h => by rw [hX, hY, ByteArray.toList_mk, ByteArray.toList_mk]; exact beq_false_of_ne h
  have hXX : d = d' → (X.toList == Y.toList) = true := fun h => by rw [hX, hY, ByteArray.toList_mk, ByteArray.toList_mk]; exact beq_iff_eq.2 h
  have HXY := Lib.hid hXY
  have HXX := Lib.hid hXX
  clear hX hY hXY hXX
  clear hd hm hd' hm' b2 hml
  by_cases ht : t = t'
  · subst ht
    by_cases hk : k = k'
    · subst hk
      by_cases hc : c = c'
      · subst hc
        by_cases hs : s = s'
        · subst hs
          by_cases hd : d = d'
          · have HD := Lib.hid hd
            have q := HXX.out hd
            clear hd
            go_enter Try.func53, Try.ntmps53
            go_wp2_with fail
            refine hn.out.mono ?_
            rintro r w' ⟨rfl, nq, rfl⟩
            go_wp2
            go_ret
            refine ⟨congrArg (fun b => Ending.returned (Value.bool b)) (decide_eq_decide.2 ⟨fun h => by rw [HD.out, h], fun h => by injection h⟩), below_drewN HB.out nq⟩
          · rw [decide_eq_false (show ¬ ((⟨t, k, c, s, d, m⟩ : Ent) = ⟨t, k, c, s, d', m'⟩) from fun h => hd (by injection h))]
            have q := HXY.out hd
            clear hd
            go_enter Try.func53, Try.ntmps53
            go_wp2
            go_ret
            exact ⟨rfl, HB.out⟩
        · have q : ((s : Int) == (s' : Int)) = false := beq_false_of_ne (by omega)
          rw [decide_eq_false (show ¬ ((⟨t, k, c, s, d, m⟩ : Ent) = ⟨t, k, c, s', d', m'⟩) from fun h => hs (by injection h))]
          clear hs
          go_enter Try.func53, Try.ntmps53
          go_wp2
          go_ret
          exact ⟨rfl, HB.out⟩
      · have q : ((c : Int) == (c' : Int)) = false := beq_false_of_ne (by omega)
        rw [decide_eq_false (show ¬ ((⟨t, k, c, s, d, m⟩ : Ent) = ⟨t, k, c', s', d', m'⟩) from fun h => hc (by injection h))]
        clear hc
        go_enter Try.func53, Try.ntmps53
        go_wp2
        go_ret
        exact ⟨rfl, HB.out⟩
    · have q : (k == k') = false := beq_false_of_ne (by omega)
      rw [decide_eq_false (show ¬ ((⟨t, k, c, s, d, m⟩ : Ent) = ⟨t, k', c', s', d', m'⟩) from fun h => hk (by injection h))]
      clear hk
      go_enter Try.func53, Try.ntmps53
      go_wp2
      go_ret
      exact ⟨rfl, HB.out⟩
  · have q : ((t : Int) == (t' : Int)) = false := beq_false_of_ne (by omega)
    rw [decide_eq_false (show ¬ ((⟨t, k, c, s, d, m⟩ : Ent) = ⟨t', k', c', s', d', m'⟩) from fun h => ht (by injection h))]
    clear ht
    go_enter Try.func53, Try.ntmps53
    go_wp2
    go_ret
    exact ⟨rfl, HB.out⟩

end Go.Proofs.Ytidapdooiibfnaa

/- The reference's Members. -/
namespace Go.Proofs.Ytidapdooiibfnaa
set_option maxRecDepth 20000
open Go.RowKit BinMath CmdMath

set_option maxHeartbeats 2000000 in
theorem refMembers_any (v : Value) (l : List Nat) (w : World) (hv : Nums w v l) (hl : l.length ≤ 140737488351232) :
    Calls Try.prog 27 #[v] w fun e w' => e = .returned (.bool (memOk l)) ∧ ∃ n, w' = w.drewN n := by
  obtain ⟨a, cap, rfl⟩ := hv.shape
  obtain ⟨-, hlc, hc⟩ := hv.at
  obtain ⟨n, hn⟩ : ∃ n, n = l.length := ⟨_, rfl⟩
  have h0 : rises 0 l = rises 0 (l.drop 0) := rfl
  have hmk : memOk l = (decide (0 < n) && rises 0 l) := by
    subst hn
    cases l with
    | nil => rfl
    | cons x r => simp [memOk]
  rw [hmk]
  rw [← hn] at hlc hl ⊢
  have HC := Lib.hid hc
  have HN := Lib.hid hn
  have H0 := Lib.hid h0
  clear hc hn h0 hmk hv
  go_enter Try.func27, Try.ntmps27
  go_wp2
  go_loopw [3] (fun s3 W => ∃ i k m : Nat, i ≤ n ∧ s3 = .int .i64 (i : Int) ∧ (i = 0 → m = 0) ∧ (∀ j, i = j + 1 → ∃ h : j < l.length, m = l[j]) ∧ rises 0 l = rises m (l.drop i) ∧ W = w.drewN k) (fun s3 _ => n - (intOf s3).toNat)
  case atStart => exact ⟨0, 0, 0, by omega, rfl, fun _ => rfl, fun j h => absurd h (by omega), H0.out, rfl⟩
  case round =>
    obtain ⟨i, k, m, hi, rfl, hm0, hmj, hr, rfl⟩ := hrel
    have HR := Lib.hid hr
    clear hr
    by_cases hlt : i < n
    · have hil : i < l.length := by have := HN.out; omega
      obtain ⟨ad, rfl, hcell⟩ := HC.out i hil
      have hst := rises_step (a := m) hil
      have hnx : ∀ j, i + 1 = j + 1 → ∃ h : j < l.length, l[i] = l[j] := fun j e => by
        obtain rfl : i = j := by omega
        exact ⟨hil, rfl⟩
      obtain ⟨y, hye⟩ : ∃ y, y = l[i] := ⟨_, rfl⟩
      rw [← hye] at hcell hst hnx
      have HS := Lib.hid hst
      have HX := Lib.hid hnx
      clear hst hye hil hnx
      by_cases hy1 : (y : Int) < 1
      · have HY := Lib.hid hy1
        have HM0 := Lib.hid hm0
        have HMJ := Lib.hid hmj
        have hd : decide ((y : Int) < 1) = true := by simpa using hy1
        clear hm0 hmj
        go_wp2
        go_quiet (fail)
        go_wp2
        go_ret
        have e : ¬ (m < y ∧ y ≤ 7) := by have := HY.out; omega
        rw [HR.out, HS.out, decide_eq_false e, Bool.false_and, Bool.and_false]
        exact ⟨rfl, _, World.drewN_drewN ..⟩
      · have hd1 : decide ((y : Int) < 1) = false := by simpa using hy1
        by_cases hy7 : (7 : Int) < (y : Int)
        · have HY := Lib.hid hy7
          have hd : decide ((7 : Int) < (y : Int)) = true := by simpa using hy7
          clear hm0 hmj
          go_wp2
          go_quiet (fail)
          go_wp2
          go_ret
          have e : ¬ (m < y ∧ y ≤ 7) := by have := HY.out; omega
          rw [HR.out, HS.out, decide_eq_false e, Bool.false_and, Bool.and_false]
          exact ⟨rfl, _, World.drewN_drewN ..⟩
        · have hd7 : decide ((7 : Int) < (y : Int)) = false := by simpa using hy7
          have HY1 := Lib.hid hy1
          have HY7 := Lib.hid hy7
          rcases Nat.eq_zero_or_pos i with hi0 | hi0
          · subst hi0
            obtain rfl := hm0 rfl
            have hcell0 : w.cell? ad = some (.int .u64 (y : Int)) := by simpa [Addr.add] using hcell
            clear hm0 hmj hy1 hy7 hcell
            go_wp2
            go_quiet (fail)
            go_wp2
            go_round
            case rel =>
              have e : 0 < y ∧ y ≤ 7 := by have := HY1.out; have := HY7.out; omega
              exact ⟨1, _, y, by omega, rfl, fun h => absurd h (by omega), HX.out, by rw [HR.out, HS.out, decide_eq_true e, Bool.true_and], rfl⟩
            case measure => simp [intOf]; omega
          · obtain ⟨j, hj⟩ : ∃ j, i = j + 1 := ⟨i - 1, by omega⟩
            obtain ⟨hjl, hmj'⟩ := hmj j hj
            obtain ⟨ad', hade, hcj⟩ := HC.out j hjl
            obtain rfl : ad = ad' := by simpa using hade
            rw [← hmj'] at hcj
            clear hm0 hmj hmj' hjl hade hy1 hy7
            have hpos : (0 : Int) < (i : Int) := by omega
            have hjn : j < n := by omega
            have hwr : IntKind.i64.wrap ((i : Int) - 1) = (j : Int) := by rw [IntKind.wrap_i64]; omega
            have HI := Lib.hid hj
            clear hj
            by_cases hmy : (y : Int) ≤ (m : Int)
            · have HMY := Lib.hid hmy
              have hdm : decide ((y : Int) ≤ (m : Int)) = true := by simpa using hmy
              have hmyN : y ≤ m := by omega
              clear hmy
              go_wp2
              go_quiet (fail)
              go_wp2
              go_ret
              have e : ¬ (m < y ∧ y ≤ 7) := by have := HMY.out; omega
              rw [HR.out, HS.out, decide_eq_false e, Bool.false_and, Bool.and_false]
              exact ⟨rfl, _, World.drewN_drewN ..⟩
            · have HMY := Lib.hid hmy
              have hdm : decide ((y : Int) ≤ (m : Int)) = false := by simpa using hmy
              have hmyN : ¬ y ≤ m := by omega
              clear hmy
              go_wp2
              go_quiet (fail)
              go_wp2
              go_round
              case rel =>
                have e : m < y ∧ y ≤ 7 := by have := HMY.out; have := HY7.out; omega
                exact ⟨i + 1, _, y, by omega, by go_num, fun h => absurd h (by omega), HX.out, by rw [HR.out, HS.out, decide_eq_true e, Bool.true_and], rfl⟩
              case measure => simp [intOf]; omega
    · go_wp2
      go_ret
      have e : l.drop i = [] := List.drop_eq_nil_of_le (by have := HN.out; omega)
      rw [HR.out, e]
      refine ⟨congrArg (fun b => Ending.returned (Value.bool b)) ?_, _, rfl⟩
      simp [rises]

end Go.Proofs.Ytidapdooiibfnaa

/- Which entries are formed. -/
namespace Go.Proofs.Ytidapdooiibfnaa
set_option maxRecDepth 20000
open Go.RowKit BinMath CmdMath

theorem formed_term {e : Ent} (h : ¬ (1 ≤ e.t ∧ e.t ≤ 4611686018427387904)) : formed e = false := by simp [formed, termOk, h]
theorem formed_one {e : Ent} (h : 1 ≤ e.t ∧ e.t ≤ 4611686018427387904) (hk : e.k = 1) : formed e = (bare e && decide (e.m.length = 0)) := by simp [formed, termOk, h, hk]
theorem formed_two {e : Ent} (h : 1 ≤ e.t ∧ e.t ≤ 4611686018427387904) (hk : e.k = 2) : formed e = (decide (e.d.length ≤ 64) && decide (e.m.length = 0)) := by simp [formed, termOk, h, hk]
theorem formed_three {e : Ent} (h : 1 ≤ e.t ∧ e.t ≤ 4611686018427387904) (hk : e.k = 3) : formed e = (bare e && memOk e.m) := by simp [formed, termOk, h, hk]
theorem formed_none {e : Ent} (h1 : e.k ≠ 1) (h2 : e.k ≠ 2) (h3 : e.k ≠ 3) : formed e = false := by simp [formed, h1, h2, h3]

theorem same_none (t : Nat) (k : Int) (c s : Nat) (d : List UInt8) (m : List Nat) : decide ((⟨t, k, c, s, d, m⟩ : Ent) = ⟨t, k, 0, 0, [], []⟩) = (bare ⟨t, k, c, s, d, m⟩ && decide (m.length = 0)) := by
  simp only [bare, Ent.mk.injEq, true_and, List.length_eq_zero_iff]
  rw [Bool.eq_iff_iff]
  simp [and_assoc]

theorem same_conf (t : Nat) (k : Int) (c s : Nat) (d : List UInt8) (m : List Nat) : decide ((⟨t, k, c, s, d, m⟩ : Ent) = ⟨t, k, 0, 0, [], m⟩) = bare ⟨t, k, c, s, d, m⟩ := by
  simp only [bare, Ent.mk.injEq, true_and, List.length_eq_zero_iff]
  rw [Bool.eq_iff_iff]
  simp [and_assoc]

set_option maxHeartbeats 4000000 in
theorem formed_any (e : Ent) (a b : Option Addr) (ca cb : Nat) (w : World) (he : Has w e a ca b cb) :
    Calls Try.prog 87 #[.agg (entC e a ca b cb)] w fun r w' => r = .returned (.bool (formed e)) ∧ Below w.heap.size w w' := by
  obtain ⟨t, k, c, s, d, m⟩ := e
  obtain ⟨nd, hnd⟩ : ∃ nd, nd = d.length := ⟨_, rfl⟩
  obtain ⟨nm, hnm⟩ : ∃ nm, nm = m.length := ⟨_, rfl⟩
  have b1 : Below w.heap.size w (w.alloc (.cells (entC ⟨t, k, c, s, d, m⟩ a ca b cb) 42)) := (Below.refl _ _).alloc (Nat.le_refl _) _
  have h1 := he.below (Nat.le_refl _) b1
  have HB := Lib.hid b1
  have hdl := he.dl
  have hml := he.ml
  have hm64 := he.ok.m
  have ht64 := he.ok.t
  have hS1 := same_any ⟨t, k, c, s, d, m⟩ ⟨t, k, 0, 0, [], []⟩ a b none none ca cb 0 0 _ h1 ⟨⟨ht64, he.ok.kl, he.ok.kh, by simp, by simp, by simp⟩, .inl ⟨rfl, rfl⟩, .inl ⟨rfl, rfl⟩, by simp, by simp⟩
  have hS3 := same_any ⟨t, k, c, s, d, m⟩ ⟨t, k, 0, 0, [], m⟩ a b none b ca cb 0 cb _ h1 ⟨⟨ht64, he.ok.kl, he.ok.kh, by simp, by simp, hm64⟩, .inl ⟨rfl, rfl⟩, h1.m, by simp, hml⟩
  have hM := members_any _ m _ h1.m hml hm64
  have hT := fun W => isTerm_any t W ht64
  rw [same_none] at hS1
  rw [same_conf] at hS3
  simp only [entC, List.length_nil] at hS1 hS3 hM h1 HB hdl hml ⊢
  rw [← hnd, ← hnm] at hS1 hS3 HB ⊢
  rw [← hnd, ← hnm] at hM
  rw [← hnm] at hml
  rw [← hnd] at hdl
  have HS1 := Lib.hid hS1
  have HS3 := Lib.hid hS3
  have HM := Lib.hid hM
  have HND := Lib.hid hnd
  have HNM := Lib.hid hnm
  clear he b1 h1 hS1 hS3 hM hnd hnm hm64 ht64
  by_cases ht : 1 ≤ t ∧ t ≤ 4611686018427387904
  · rw [decide_eq_true ht] at hT
    have HT := Lib.hid hT
    have HTT := Lib.hid ht
    clear hT ht
    by_cases k1 : k = 1
    · subst k1
      go_enter Try.func87, Try.ntmps87
      go_wp2_with fail
      refine (HT.out _).mono ?_
      rintro r w' ⟨rfl, rfl⟩
      go_wp2_with fail
      refine HS1.out.mono ?_
      rintro r w' ⟨rfl, hb⟩
      have HB2 := Lib.hid hb
      clear hb
      go_wp2
      go_ret
      exact ⟨congrArg (fun b => Ending.returned (Value.bool b)) (by rw [formed_one HTT.out rfl, ← HNM.out]), HB.out.trans (HB2.out.mono (by simp))⟩
    · by_cases k2 : k = 2
      · subst k2
        by_cases h64 : nd ≤ 64
        · have H64 := Lib.hid h64
          have q : decide ((nd : Int) ≤ 64) = true := by simp; omega
          clear h64
          go_enter Try.func87, Try.ntmps87
          go_wp2_with fail
          refine (HT.out _).mono ?_
          rintro r w' ⟨rfl, rfl⟩
          go_wp2
          go_ret
          refine ⟨congrArg (fun b => Ending.returned (Value.bool b)) ?_, HB.out⟩
          rw [formed_two HTT.out rfl, decide_eq_true (show d.length ≤ 64 by rw [← HND.out]; exact H64.out), ← HNM.out, Bool.true_and]
          by_cases h0 : nm = 0 <;> simp [h0]
        · have H64 := Lib.hid h64
          have q : decide ((nd : Int) ≤ 64) = false := by simp; omega
          clear h64
          go_enter Try.func87, Try.ntmps87
          go_wp2_with fail
          refine (HT.out _).mono ?_
          rintro r w' ⟨rfl, rfl⟩
          go_wp2
          go_ret
          refine ⟨congrArg (fun b => Ending.returned (Value.bool b)) ?_, HB.out⟩
          rw [formed_two HTT.out rfl, decide_eq_false (show ¬ d.length ≤ 64 by rw [← HND.out]; exact H64.out)]
          rfl
      · by_cases k3 : k = 3
        · subst k3
          cases hmo : memOk m with
          | true =>
            have HMO := Lib.hid hmo
            have hM2 := HM.out
            rw [hmo] at hM2
            have HM2 := Lib.hid hM2
            clear hmo hM2
            go_enter Try.func87, Try.ntmps87
            go_wp2_with fail
            refine (HT.out _).mono ?_
            rintro r w' ⟨rfl, rfl⟩
            go_wp2_with fail
            refine HM2.out.mono ?_
            rintro r w' ⟨rfl, rfl⟩
            go_wp2_with fail
            refine HS3.out.mono ?_
            rintro r w' ⟨rfl, hb⟩
            have HB2 := Lib.hid hb
            clear hb
            go_wp2
            go_ret
            exact ⟨congrArg (fun b => Ending.returned (Value.bool b)) (by rw [formed_three HTT.out rfl, HMO.out, Bool.and_true]), HB.out.trans (HB2.out.mono (by simp))⟩
          | false =>
            have HMO := Lib.hid hmo
            have hM2 := HM.out
            rw [hmo] at hM2
            have HM2 := Lib.hid hM2
            clear hmo hM2
            go_enter Try.func87, Try.ntmps87
            go_wp2_with fail
            refine (HT.out _).mono ?_
            rintro r w' ⟨rfl, rfl⟩
            go_wp2_with fail
            refine HM2.out.mono ?_
            rintro r w' ⟨rfl, rfl⟩
            go_wp2
            go_ret
            exact ⟨congrArg (fun b => Ending.returned (Value.bool b)) (by rw [formed_three HTT.out rfl, HMO.out, Bool.and_false]), HB.out⟩
        · have q1 : (k == 1) = false := beq_false_of_ne k1
          have q2 : (k == 2) = false := beq_false_of_ne k2
          have q3 : (k == 3) = false := beq_false_of_ne k3
          rw [formed_none k1 k2 k3]
          go_enter Try.func87, Try.ntmps87
          go_wp2_with fail
          refine (HT.out _).mono ?_
          rintro r w' ⟨rfl, rfl⟩
          go_wp2
          go_ret
          exact ⟨rfl, HB.out⟩
  · rw [decide_eq_false ht] at hT
    have HT := Lib.hid hT
    rw [formed_term ht]
    clear hT ht
    go_enter Try.func87, Try.ntmps87
    go_wp2_with fail
    refine (HT.out _).mono ?_
    rintro r w' ⟨rfl, rfl⟩
    go_wp2
    go_ret
    exact ⟨rfl, HB.out⟩

end Go.Proofs.Ytidapdooiibfnaa

/- Which entries are formed: the reference. -/
namespace Go.Proofs.Ytidapdooiibfnaa
set_option maxRecDepth 20000
open Go.RowKit BinMath CmdMath

set_option maxHeartbeats 4000000 in
theorem refFormed_any (e : Ent) (a b : Option Addr) (ca cb : Nat) (w : World) (he : Has w e a ca b cb) :
    Calls Try.prog 26 #[.agg (entC e a ca b cb)] w fun r w' => r = .returned (.bool (formed e)) ∧ Below w.heap.size w w' := by
  obtain ⟨t, k, c, s, d, m⟩ := e
  obtain ⟨nd, hnd⟩ : ∃ nd, nd = d.length := ⟨_, rfl⟩
  obtain ⟨nm, hnm⟩ : ∃ nm, nm = m.length := ⟨_, rfl⟩
  have b1 : Below w.heap.size w (w.alloc (.cells (entC ⟨t, k, c, s, d, m⟩ a ca b cb) 42)) := (Below.refl _ _).alloc (Nat.le_refl _) _
  have h1 := he.below (Nat.le_refl _) b1
  have HB := Lib.hid b1
  have hdl := he.dl
  have hml := he.ml
  have ht64 := he.ok.t
  have hM := refMembers_any _ m _ h1.m hml
  simp only [entC] at hM h1 HB hdl hml ⊢
  rw [← hnd, ← hnm] at HB ⊢
  rw [← hnd, ← hnm] at hM
  rw [← hnm] at hml
  rw [← hnd] at hdl
  have HM := Lib.hid hM
  have HND := Lib.hid hnd
  have HNM := Lib.hid hnm
  clear he b1 h1 hM hnd hnm
  by_cases ht1 : t < 1
  · rw [formed_term (fun h => absurd h.1 (show ¬ 1 ≤ t by omega))]
    have q : decide ((t : Int) < 1) = true := by simp; omega
    go_enter Try.func26, Try.ntmps26
    go_wp2
    go_ret
    exact ⟨rfl, HB.out⟩
  · have q1 : decide ((t : Int) < 1) = false := by simp; omega
    by_cases ht2 : 4611686018427387904 < t
    · rw [formed_term (fun h => absurd h.2 (show ¬ t ≤ 4611686018427387904 by omega))]
      have q : decide ((4611686018427387904 : Int) < (t : Int)) = true := by simp; omega
      go_enter Try.func26, Try.ntmps26
      go_wp2
      go_ret
      exact ⟨rfl, HB.out⟩
    · have q2 : decide ((4611686018427387904 : Int) < (t : Int)) = false := by simp; omega
      have HT := Lib.hid (show 1 ≤ t ∧ t ≤ 4611686018427387904 by omega)
      clear ht1 ht2
      by_cases hc : c = 0
      · subst hc
        by_cases hs : s = 0
        · subst hs
          by_cases hd : nd = 0
          · have HBR0 : Hid (∀ k : Int, bare ⟨t, k, 0, 0, d, m⟩ = true) := Lib.hid fun k => by simp only [bare]; rw [← HND.out, hd]; rfl
            have e0 : ((nd : Int) == 0) = true := by rw [hd]; rfl
            clear hd
            by_cases k1 : k = 1
            · subst k1
              go_enter Try.func26, Try.ntmps26
              go_wp2
              go_ret
              refine ⟨congrArg (fun b => Ending.returned (Value.bool b)) ?_, HB.out⟩
              rw [formed_one HT.out rfl, (show bare ⟨t, 1, 0, 0, d, m⟩ = true from HBR0.out _)]
              rw [Bool.true_and, ← HNM.out]
              by_cases h0 : nm = 0 <;> simp [h0]
            · by_cases k2 : k = 2
              · subst k2
                by_cases h64 : nd ≤ 64
                · have H64 := Lib.hid h64
                  have q : decide ((nd : Int) ≤ 64) = true := by simp; omega
                  clear h64
                  go_enter Try.func26, Try.ntmps26
                  go_wp2
                  go_ret
                  refine ⟨congrArg (fun b => Ending.returned (Value.bool b)) ?_, HB.out⟩
                  rw [formed_two HT.out rfl, decide_eq_true (show d.length ≤ 64 by rw [← HND.out]; exact H64.out), ← HNM.out, Bool.true_and]
                  by_cases h0 : nm = 0 <;> simp [h0]
                · have H64 := Lib.hid h64
                  have q : decide ((nd : Int) ≤ 64) = false := by simp; omega
                  clear h64
                  go_enter Try.func26, Try.ntmps26
                  go_wp2
                  go_ret
                  refine ⟨congrArg (fun b => Ending.returned (Value.bool b)) ?_, HB.out⟩
                  rw [formed_two HT.out rfl, decide_eq_false (show ¬ d.length ≤ 64 by rw [← HND.out]; exact H64.out)]
                  rfl
              · by_cases k3 : k = 3
                · subst k3
                  go_enter Try.func26, Try.ntmps26
                  go_wp2_with fail
                  refine HM.out.mono ?_
                  rintro r w' ⟨rfl, nq, rfl⟩
                  go_wp2
                  go_ret
                  exact ⟨congrArg (fun b => Ending.returned (Value.bool b)) (by rw [formed_three HT.out rfl, (show bare ⟨t, 3, 0, 0, d, m⟩ = true from HBR0.out _), Bool.true_and]), below_drewN HB.out nq⟩
                · have e1 : (k == 1) = false := beq_false_of_ne k1
                  have e2 : (k == 2) = false := beq_false_of_ne k2
                  have e3 : (k == 3) = false := beq_false_of_ne k3
                  rw [formed_none k1 k2 k3]
                  go_enter Try.func26, Try.ntmps26
                  go_wp2
                  go_ret
                  exact ⟨rfl, HB.out⟩
          · have HBR0 : Hid (∀ k : Int, bare ⟨t, k, 0, 0, d, m⟩ = false) := Lib.hid fun k => by simp only [bare]; rw [← HND.out, decide_eq_false hd, Bool.and_false]
            have e0 : ((nd : Int) == 0) = false := beq_false_of_ne (by omega)
            clear hd
            by_cases k1 : k = 1
            · subst k1
              go_enter Try.func26, Try.ntmps26
              go_wp2
              go_ret
              refine ⟨congrArg (fun b => Ending.returned (Value.bool b)) ?_, HB.out⟩
              rw [formed_one HT.out rfl, (show bare ⟨t, 1, 0, 0, d, m⟩ = false from HBR0.out _)]
              rfl
            · by_cases k2 : k = 2
              · subst k2
                by_cases h64 : nd ≤ 64
                · have H64 := Lib.hid h64
                  have q : decide ((nd : Int) ≤ 64) = true := by simp; omega
                  clear h64
                  go_enter Try.func26, Try.ntmps26
                  go_wp2
                  go_ret
                  refine ⟨congrArg (fun b => Ending.returned (Value.bool b)) ?_, HB.out⟩
                  rw [formed_two HT.out rfl, decide_eq_true (show d.length ≤ 64 by rw [← HND.out]; exact H64.out), ← HNM.out, Bool.true_and]
                  by_cases h0 : nm = 0 <;> simp [h0]
                · have H64 := Lib.hid h64
                  have q : decide ((nd : Int) ≤ 64) = false := by simp; omega
                  clear h64
                  go_enter Try.func26, Try.ntmps26
                  go_wp2
                  go_ret
                  refine ⟨congrArg (fun b => Ending.returned (Value.bool b)) ?_, HB.out⟩
                  rw [formed_two HT.out rfl, decide_eq_false (show ¬ d.length ≤ 64 by rw [← HND.out]; exact H64.out)]
                  rfl
              · by_cases k3 : k = 3
                · subst k3
                  go_enter Try.func26, Try.ntmps26
                  go_wp2
                  go_ret
                  exact ⟨congrArg (fun b => Ending.returned (Value.bool b)) (by rw [formed_three HT.out rfl, (show bare ⟨t, 3, 0, 0, d, m⟩ = false from HBR0.out _), Bool.false_and]), HB.out⟩
                · have e1 : (k == 1) = false := beq_false_of_ne k1
                  have e2 : (k == 2) = false := beq_false_of_ne k2
                  have e3 : (k == 3) = false := beq_false_of_ne k3
                  rw [formed_none k1 k2 k3]
                  go_enter Try.func26, Try.ntmps26
                  go_wp2
                  go_ret
                  exact ⟨rfl, HB.out⟩
        · have HBR0 : Hid (∀ k : Int, bare ⟨t, k, 0, s, d, m⟩ = false) := Lib.hid fun k => by simp only [bare]; rw [decide_eq_false hs, Bool.and_false, Bool.false_and]
          have e0 : ((s : Int) == 0) = false := beq_false_of_ne (by omega)
          clear hs
          by_cases k1 : k = 1
          · subst k1
            go_enter Try.func26, Try.ntmps26
            go_wp2
            go_ret
            refine ⟨congrArg (fun b => Ending.returned (Value.bool b)) ?_, HB.out⟩
            rw [formed_one HT.out rfl, (show bare ⟨t, 1, 0, s, d, m⟩ = false from HBR0.out _)]
            rfl
          · by_cases k2 : k = 2
            · subst k2
              by_cases h64 : nd ≤ 64
              · have H64 := Lib.hid h64
                have q : decide ((nd : Int) ≤ 64) = true := by simp; omega
                clear h64
                go_enter Try.func26, Try.ntmps26
                go_wp2
                go_ret
                refine ⟨congrArg (fun b => Ending.returned (Value.bool b)) ?_, HB.out⟩
                rw [formed_two HT.out rfl, decide_eq_true (show d.length ≤ 64 by rw [← HND.out]; exact H64.out), ← HNM.out, Bool.true_and]
                by_cases h0 : nm = 0 <;> simp [h0]
              · have H64 := Lib.hid h64
                have q : decide ((nd : Int) ≤ 64) = false := by simp; omega
                clear h64
                go_enter Try.func26, Try.ntmps26
                go_wp2
                go_ret
                refine ⟨congrArg (fun b => Ending.returned (Value.bool b)) ?_, HB.out⟩
                rw [formed_two HT.out rfl, decide_eq_false (show ¬ d.length ≤ 64 by rw [← HND.out]; exact H64.out)]
                rfl
            · by_cases k3 : k = 3
              · subst k3
                go_enter Try.func26, Try.ntmps26
                go_wp2
                go_ret
                exact ⟨congrArg (fun b => Ending.returned (Value.bool b)) (by rw [formed_three HT.out rfl, (show bare ⟨t, 3, 0, s, d, m⟩ = false from HBR0.out _), Bool.false_and]), HB.out⟩
              · have e1 : (k == 1) = false := beq_false_of_ne k1
                have e2 : (k == 2) = false := beq_false_of_ne k2
                have e3 : (k == 3) = false := beq_false_of_ne k3
                rw [formed_none k1 k2 k3]
                go_enter Try.func26, Try.ntmps26
                go_wp2
                go_ret
                exact ⟨rfl, HB.out⟩
      · have HBR0 : Hid (∀ k : Int, bare ⟨t, k, c, s, d, m⟩ = false) := Lib.hid fun k => by simp only [bare]; rw [decide_eq_false hc, Bool.false_and, Bool.false_and]
        have e0 : ((c : Int) == 0) = false := beq_false_of_ne (by omega)
        clear hc
        by_cases k1 : k = 1
        · subst k1
          go_enter Try.func26, Try.ntmps26
          go_wp2
          go_ret
          refine ⟨congrArg (fun b => Ending.returned (Value.bool b)) ?_, HB.out⟩
          rw [formed_one HT.out rfl, (show bare ⟨t, 1, c, s, d, m⟩ = false from HBR0.out _)]
          rfl
        · by_cases k2 : k = 2
          · subst k2
            by_cases h64 : nd ≤ 64
            · have H64 := Lib.hid h64
              have q : decide ((nd : Int) ≤ 64) = true := by simp; omega
              clear h64
              go_enter Try.func26, Try.ntmps26
              go_wp2
              go_ret
              refine ⟨congrArg (fun b => Ending.returned (Value.bool b)) ?_, HB.out⟩
              rw [formed_two HT.out rfl, decide_eq_true (show d.length ≤ 64 by rw [← HND.out]; exact H64.out), ← HNM.out, Bool.true_and]
              by_cases h0 : nm = 0 <;> simp [h0]
            · have H64 := Lib.hid h64
              have q : decide ((nd : Int) ≤ 64) = false := by simp; omega
              clear h64
              go_enter Try.func26, Try.ntmps26
              go_wp2
              go_ret
              refine ⟨congrArg (fun b => Ending.returned (Value.bool b)) ?_, HB.out⟩
              rw [formed_two HT.out rfl, decide_eq_false (show ¬ d.length ≤ 64 by rw [← HND.out]; exact H64.out)]
              rfl
          · by_cases k3 : k = 3
            · subst k3
              go_enter Try.func26, Try.ntmps26
              go_wp2
              go_ret
              exact ⟨congrArg (fun b => Ending.returned (Value.bool b)) (by rw [formed_three HT.out rfl, (show bare ⟨t, 3, c, s, d, m⟩ = false from HBR0.out _), Bool.false_and]), HB.out⟩
            · have e1 : (k == 1) = false := beq_false_of_ne k1
              have e2 : (k == 2) = false := beq_false_of_ne k2
              have e3 : (k == 3) = false := beq_false_of_ne k3
              rw [formed_none k1 k2 k3]
              go_enter Try.func26, Try.ntmps26
              go_wp2
              go_ret
              exact ⟨rfl, HB.out⟩

end Go.Proofs.Ytidapdooiibfnaa

