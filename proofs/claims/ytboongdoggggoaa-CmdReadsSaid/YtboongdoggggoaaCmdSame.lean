/- Members, and lists that are held against each other. -/
import Derived.Test.YtboongdoggggoaaCmdKit
namespace Go.Proofs.Ytboongdoggggoaa
set_option maxRecDepth 20000
open Go.RowKit BinMath CmdMath

theorem rises_step {l : List Nat} {a i : Nat} (hi : i < l.length) : rises a (l.drop i) = (decide (a < l[i] ∧ l[i] ≤ 7) && rises l[i] (l.drop (i + 1))) := by
  rw [List.drop_eq_getElem_cons hi, rises]

set_option maxHeartbeats 1000000 in
theorem members_any (v : Value) (l : List Nat) (w : World) (hv : Nums w v l) (hl : l.length ≤ 140737488351232) (hb : ∀ x ∈ l, x < 18446744073709551616) :
    Calls Try.prog 85 #[v] w fun e w' => e = .returned (.bool (memOk l)) ∧ w' = w := by
  obtain ⟨a, cap, rfl⟩ := hv.shape
  obtain ⟨-, hlc, hc⟩ := hv.at
  obtain ⟨n, hn⟩ : ∃ n, n = l.length := ⟨_, rfl⟩
  have hcv := conv_len n (by omega)
  have hct := fun W => isCount_any n W (by omega)
  by_cases h17 : 1 ≤ n ∧ n ≤ 7
  · have hne : l.isEmpty = false := by cases l with
      | nil => simp at hn; omega
      | cons x r => rfl
    have he : memOk l = rises 0 l := by simp [memOk, hne]
    have h0 : rises 0 l = rises 0 (l.drop 0) := rfl
    rw [he]
    rw [decide_eq_true h17] at hct
    rw [← hn] at hlc ⊢
    have HC := Lib.hid hc
    have HB := Lib.hid hb
    have HN := Lib.hid hn
    have H0 := Lib.hid h0
    have HT := Lib.hid hct
    have hn7 := h17.2
    clear hc hb hn h0 hct h17 hne he hv hl
    go_enter Try.func85, Try.ntmps85
    go_wp2_with fail
    refine (HT.out _).mono ?_
    rintro e w' ⟨rfl, rfl⟩
    go_wp2
    go_loop [3, 13] (fun s3 s13 => ∃ i m : Nat, i ≤ n ∧ s13 = .int .i64 (i : Int) ∧ s3 = .int .u64 (m : Int) ∧ m < 18446744073709551616 ∧ rises 0 l = rises m (l.drop i)) (fun _ s13 => n - (intOf s13).toNat)
    case atStart => exact ⟨0, 0, by omega, rfl, rfl, by omega, H0.out⟩
    case round =>
      obtain ⟨i, m, hi, rfl, rfl, hm, hr⟩ := hrel
      have HR := Lib.hid hr
      clear hr
      by_cases hlt : i < n
      · have hil : i < l.length := by have := HN.out; omega
        obtain ⟨ad, rfl, hcell⟩ := HC.out i hil
        have hy := HB.out l[i] (List.getElem_mem _)
        have hst := rises_step (a := m) hil
        obtain ⟨y, hye⟩ : ∃ y, y = l[i] := ⟨_, rfl⟩
        rw [← hye] at hcell hy hst
        have HS := Lib.hid hst
        clear hst hye hil
        have hnx := fun W => isNext_any m y W hy
        by_cases hyl : m < y ∧ y ≤ 7
        · rw [decide_eq_true hyl] at hnx
          have HX := Lib.hid hnx
          have HY := Lib.hid hyl
          clear hnx hyl
          go_wp2_with fail
          refine (HX.out _).mono ?_
          rintro e w' ⟨rfl, rfl⟩
          go_wp2
          go_round
          case rel => exact ⟨i + 1, y, by omega, by go_num, rfl, hy, by rw [HR.out, HS.out, decide_eq_true HY.out]; rfl⟩
          case measure => simp [intOf]; omega
        · rw [decide_eq_false hyl] at hnx
          have HX := Lib.hid hnx
          have HY := Lib.hid hyl
          clear hnx hyl
          go_wp2_with fail
          refine (HX.out _).mono ?_
          rintro e w' ⟨rfl, rfl⟩
          go_wp2
          go_ret
          rw [HR.out, HS.out, decide_eq_false HY.out]
          exact ⟨rfl, rfl⟩
      · go_wp2
        go_ret
        have e : l.drop i = [] := List.drop_eq_nil_of_le (by have := HN.out; omega)
        rw [HR.out, e]
        exact ⟨rfl, rfl⟩
  · have he : memOk l = false := by
      cases h : memOk l with
      | false => rfl
      | true => exact absurd (hn ▸ memOk_len h) h17
    rw [he]
    rw [decide_eq_false h17] at hct
    rw [← hn]
    have HT := Lib.hid hct
    have HN := Lib.hid hn
    have hn47 : n ≤ 140737488351232 := by omega
    clear hc hb hct he h17 hv hl hlc hn
    go_enter Try.func85, Try.ntmps85
    go_wp2_with fail
    refine (HT.out _).mono ?_
    rintro e w' ⟨rfl, rfl⟩
    go_wp2
    go_ret
    exact ⟨rfl, rfl⟩

set_option maxHeartbeats 400000 in
theorem equal_any (va vb : Value) (la lb : List UInt8) (w : World) (ha : Bys w va la) (hb : Bys w vb lb) :
    Calls Try.prog 93 #[va, vb] w fun e w' => e = .returned (.bool (decide (la = lb))) ∧ w' = w := by
  have c1 := conv_bys ha
  have c2 := conv_bys hb
  obtain ⟨X, hX⟩ : ∃ X : ByteArray, X = ⟨la.toArray⟩ := ⟨_, rfl⟩
  obtain ⟨Y, hY⟩ : ∃ Y : ByteArray, Y = ⟨lb.toArray⟩ := ⟨_, rfl⟩
  rw [← hX] at c1
  rw [← hY] at c2
  have he : decide (la = lb) = (X.toList == Y.toList) := by
    rw [hX, hY, ByteArray.toList_mk, ByteArray.toList_mk]
    by_cases h : la = lb
    · rw [decide_eq_true h, h]; exact (beq_self_eq_true lb).symm
    · rw [decide_eq_false h]; exact (beq_false_of_ne h).symm
  rw [he]
  clear ha hb hX hY he
  go_enter Try.func93, Try.ntmps93
  go_wp2
  go_ret
  exact ⟨rfl, rfl⟩

/-- Lists that are one up to i. -/
def eqTo (a b : List Nat) (i : Nat) : Prop := ∀ j (ha : j < a.length) (hb : j < b.length), j < i → a[j] = b[j]

theorem eqTo_step {a b : List Nat} {i : Nat} (h : eqTo a b i) (ha : i < a.length) (hb : i < b.length) (he : a[i] = b[i]) : eqTo a b (i + 1) := fun j h1 h2 h3 => by
  by_cases hj : j = i
  · subst hj; exact he
  · exact h j h1 h2 (by omega)

theorem eqTo_all {a b : List Nat} (hl : a.length = b.length) (h : eqTo a b a.length) : a = b := List.ext_getElem hl fun j h1 h2 => h j h1 h2 h1

set_option maxHeartbeats 1000000 in
theorem eqNums_any (va vb : Value) (la lb : List Nat) (w : World) (ha : Nums w va la) (hb : Nums w vb lb) (hl : la.length ≤ 140737488351232) :
    Calls Try.prog 94 #[va, vb] w fun e w' => e = .returned (.bool (decide (la = lb))) ∧ ∃ n, w' = w.drewN n := by
  obtain ⟨a, ca, rfl⟩ := ha.shape
  obtain ⟨b, cb, rfl⟩ := hb.shape
  obtain ⟨-, hac, hA⟩ := ha.at
  obtain ⟨-, hbc, hB⟩ := hb.at
  obtain ⟨n, hn⟩ : ∃ n, n = la.length := ⟨_, rfl⟩
  by_cases hlen : la.length = lb.length
  · have hm : n = lb.length := by omega
    rw [← hn] at hac hl
    rw [← hm] at hbc
    rw [← hn, ← hm]
    have HA := Lib.hid hA
    have HB := Lib.hid hB
    have HN := Lib.hid hn
    have HM := Lib.hid hm
    clear hA hB hn hm hlen ha hb
    go_enter Try.func94, Try.ntmps94
    go_wp2
    go_loopw [13] (fun s13 W => ∃ i k : Nat, i ≤ n ∧ s13 = .int .i64 (i : Int) ∧ eqTo la lb i ∧ W = w.drewN k) (fun s13 _ => n - (intOf s13).toNat)
    case atStart => exact ⟨0, 0, by omega, rfl, fun j _ _ h => absurd h (by omega), rfl⟩
    case round =>
      obtain ⟨i, k, hi, rfl, he, rfl⟩ := hrel
      have HE := Lib.hid he
      clear he
      by_cases hlt : i < n
      · have hil : i < la.length := by have := HN.out; omega
        have hjl : i < lb.length := by have := HM.out; omega
        obtain ⟨ad, rfl, hca⟩ := HA.out i hil
        obtain ⟨bd, rfl, hcb⟩ := HB.out i hjl
        have hst := fun h => eqTo_step HE.out hil hjl h
        have hno : la[i] ≠ lb[i] → la ≠ lb := fun h e => h (by subst e; rfl)
        obtain ⟨x, hx⟩ : ∃ x, x = la[i] := ⟨_, rfl⟩
        obtain ⟨y, hy⟩ : ∃ y, y = lb[i] := ⟨_, rfl⟩
        rw [← hx, ← hy] at hst hno
        rw [← hx] at hca
        rw [← hy] at hcb
        have HS := Lib.hid hst
        have HO := Lib.hid hno
        clear hst hno hx hy hil hjl
        by_cases hxy : x = y
        · subst hxy
          go_wp2
          go_quiet (fail)
          go_wp2
          go_round
          case rel => exact ⟨i + 1, _, by omega, by go_num, HS.out trivial, rfl⟩
          case measure => simp [intOf]; omega
        · have hq : ((x : Int) != (y : Int)) = true := by simp; omega
          have HXY := Lib.hid hxy
          clear hxy
          go_wp2
          go_quiet (fail)
          go_wp2
          go_ret
          rw [decide_eq_false (HO.out HXY.out)]
          exact ⟨rfl, _, World.drewN_drewN ..⟩
      · go_wp2
        go_ret
        have e : la = lb := eqTo_all (by rw [← HN.out, ← HM.out]) (by rw [← HN.out, ← show i = n by omega]; exact HE.out)
        rw [decide_eq_true e]
        exact ⟨rfl, _, rfl⟩
  · have hq : ((la.length : Int) != (lb.length : Int)) = true := by simp; omega
    have hne : la ≠ lb := fun e => hlen (by rw [e])
    rw [decide_eq_false hne]
    obtain ⟨m, hm⟩ : ∃ m, m = lb.length := ⟨_, rfl⟩
    rw [← hn, ← hm] at hq
    rw [← hn, ← hm]
    clear hA hB hn hm hlen ha hb hne hac hbc
    go_enter Try.func94, Try.ntmps94
    go_wp2
    go_ret
    exact ⟨rfl, 0, rfl⟩

set_option maxHeartbeats 1000000 in
theorem refNums_any (va vb : Value) (la lb : List Nat) (w : World) (ha : Nums w va la) (hb : Nums w vb lb) (hl : la.length ≤ 140737488351232) :
    Calls Try.prog 90 #[va, vb] w fun e w' => e = .returned (.bool (decide (la = lb))) ∧ ∃ n, w' = w.drewN n := by
  obtain ⟨a, ca, rfl⟩ := ha.shape
  obtain ⟨b, cb, rfl⟩ := hb.shape
  obtain ⟨-, hac, hA⟩ := ha.at
  obtain ⟨-, hbc, hB⟩ := hb.at
  obtain ⟨n, hn⟩ : ∃ n, n = la.length := ⟨_, rfl⟩
  by_cases hlen : la.length = lb.length
  · have hm : n = lb.length := by omega
    rw [← hn] at hac hl
    rw [← hm] at hbc
    rw [← hn, ← hm]
    have HA := Lib.hid hA
    have HB := Lib.hid hB
    have HN := Lib.hid hn
    have HM := Lib.hid hm
    clear hA hB hn hm hlen ha hb
    go_enter Try.func90, Try.ntmps90
    go_wp2
    go_loopw [5] (fun s5 W => ∃ i k : Nat, i ≤ n ∧ s5 = .int .i64 (i : Int) ∧ eqTo la lb i ∧ W = w.drewN k) (fun s5 _ => n - (intOf s5).toNat)
    case atStart => exact ⟨0, 0, by omega, rfl, fun j _ _ h => absurd h (by omega), rfl⟩
    case round =>
      obtain ⟨i, k, hi, rfl, he, rfl⟩ := hrel
      have HE := Lib.hid he
      clear he
      by_cases hlt : i < n
      · have hil : i < la.length := by have := HN.out; omega
        have hjl : i < lb.length := by have := HM.out; omega
        obtain ⟨ad, rfl, hca⟩ := HA.out i hil
        obtain ⟨bd, rfl, hcb⟩ := HB.out i hjl
        have hst := fun h => eqTo_step HE.out hil hjl h
        have hno : la[i] ≠ lb[i] → la ≠ lb := fun h e => h (by subst e; rfl)
        obtain ⟨x, hx⟩ : ∃ x, x = la[i] := ⟨_, rfl⟩
        obtain ⟨y, hy⟩ : ∃ y, y = lb[i] := ⟨_, rfl⟩
        rw [← hx, ← hy] at hst hno
        rw [← hx] at hca
        rw [← hy] at hcb
        have HS := Lib.hid hst
        have HO := Lib.hid hno
        clear hst hno hx hy hil hjl
        by_cases hxy : x = y
        · subst hxy
          go_wp2
          go_quiet (fail)
          go_wp2
          go_round
          case rel => exact ⟨i + 1, _, by omega, by go_num, HS.out trivial, rfl⟩
          case measure => simp [intOf]; omega
        · have hq : ((x : Int) != (y : Int)) = true := by simp; omega
          have HXY := Lib.hid hxy
          clear hxy
          go_wp2
          go_quiet (fail)
          go_wp2
          go_ret
          rw [decide_eq_false (HO.out HXY.out)]
          exact ⟨rfl, _, World.drewN_drewN ..⟩
      · go_wp2
        go_ret
        have e : la = lb := eqTo_all (by rw [← HN.out, ← HM.out]) (by rw [← HN.out, ← show i = n by omega]; exact HE.out)
        rw [decide_eq_true e]
        exact ⟨rfl, _, rfl⟩
  · have hq : ((la.length : Int) != (lb.length : Int)) = true := by simp; omega
    have hne : la ≠ lb := fun e => hlen (by rw [e])
    rw [decide_eq_false hne]
    obtain ⟨m, hm⟩ : ∃ m, m = lb.length := ⟨_, rfl⟩
    rw [← hn, ← hm] at hq
    rw [← hn, ← hm]
    clear hA hB hn hm hlen ha hb hne hac hbc
    go_enter Try.func90, Try.ntmps90
    go_wp2
    go_ret
    exact ⟨rfl, 0, rfl⟩

end Go.Proofs.Ytboongdoggggoaa
