/- The reference's reader: a number. -/
import Derived.Test.YthaggdkfaglgaaaDoorRefRead
namespace Go.Proofs.YthaggdkfaglgaaaDoor
set_option maxRecDepth 20000
open Go.RowKit BinMath
variable {G : Nat} {a : Option Addr} {cap : Nat}

/-- 'n*256 + c'. -/
theorem times_plus (acc c i : Nat) (hi : i < 8) (ha : acc < 256 ^ i) (hc : c < 256) : IntKind.u64.wrap (IntKind.u64.wrap ((acc : Int) * 256) + (c : Int)) = ((acc * 256 + c : Nat) : Int) := by
  have h7 : 256 ^ i ≤ 256 ^ 7 := Nat.pow_le_pow_right (by decide) (by omega)
  have e7 : (256 : Nat) ^ 7 = 72057594037927936 := by decide
  have e : IntKind.u64.wrap ((acc : Int) * 256) = (acc : Int) * 256 := IntWalk.u64_in _ ⟨by omega, by omega⟩
  rw [e, IntWalk.u64_in _ ⟨by omega, by omega⟩]
  omega

theorem numS_open (l : List UInt8) (k : Nat) : numS l k 0 = match pNum (l.drop k) with
    | .ok (n, u) => (n, 0, k + u)
    | .error c => (0, c, k) := by
  simp only [numS]
  rcases pNum (l.drop k) with c | ⟨n, u⟩ <;> rfl

theorem byteS_at {l : List UInt8} {k : Nat} (h : k < l.length) : byteS l k 0 = (l[k].toNat, 0, k + 1) := by
  simp only [byteS, List.drop_eq_getElem_cons h]; rfl

theorem byteS_past {l : List UInt8} {k : Nat} (h : ¬ k < l.length) : byteS l k 0 = (0, 2, k) := by
  simp only [byteS, List.drop_eq_nil_of_le (Nat.le_of_not_lt h)]; rfl

set_option maxHeartbeats 400000 in
/-- Where the first byte isn't to be had. -/
theorem refNum_none (Q : Nat) (l : List UInt8) (k st c : Nat) (w : World) (h : IsRef w Q G a cap l k st) (hb : byteS l k st = (0, c, k)) (hc : c ≠ 0) :
    Calls Tryd.prog 30 #[.pointer (some ⟨Q, 0, none⟩)] w (RefAnswers G Q a cap l w (.int .u64 0) c k) := by
  obtain ⟨c0, c1, c2, f1, f2⟩ := h.cells
  have hB := refByte_any Q l k st w h
  rw [hb] at hB
  have hs : ((c : Int) != 0) = true := by simp; omega
  have HB := Lib.hid hB
  clear hB h hb hc
  go_enter Tryd.func30, Tryd.ntmps30
  go_wp2_with fail
  refine HB.out.mono ?_
  rintro e w1 ⟨ho, rfl, hr⟩
  have HR := Lib.hid hr
  have HO := Lib.hid ho
  clear hr ho
  go_wp2
  exact bodyPost_ret (v := .tuple #[.int .u64 0, .int .i64 (c : Int)]) (by simp [results, Tryd.results30, go_sem]) rfl ⟨HO.out, rfl, HR.out⟩

set_option maxHeartbeats 1000000 in
theorem refNum_some (Q : Nat) (l : List UInt8) (k : Nat) (w : World) (h : IsRef w Q G a cap l k 0) (hlt : k < l.length) :
    Calls Tryd.prog 30 #[.pointer (some ⟨Q, 0, none⟩)] w (RefAnswers G Q a cap l w (.int .u64 ((numS l k 0).1 : Int)) (numS l k 0).2.1 (numS l k 0).2.2) := by
  obtain ⟨c0, c1, c2, f1, f2⟩ := h.cells
  have hf := h.facts
  have hB := refByte_any Q l k 0 w h
  rw [byteS_at hlt] at hB
  have hdr : l.drop k = l[k] :: l.drop (k + 1) := by rw [List.drop_eq_getElem_cons hlt]
  obtain ⟨y, hy⟩ : ∃ y, y = l[k].toNat := ⟨_, rfl⟩
  have hyb : y < 256 := by rw [hy]; exact l[k].toNat_lt
  rw [← hy] at hB
  have HY := Lib.hid hy
  have HD := Lib.hid hdr
  have HF := Lib.hid hf
  have HB := Lib.hid hB
  clear hy hdr hB hf
  obtain ⟨n, c, k', hq⟩ : ∃ n c k', numS l k 0 = (n, c, k') := ⟨_, _, _, rfl⟩
  rw [hq]
  have HQ := Lib.hid hq
  clear hq
  have hsz : (((0 : Nat) : Int) != 0) = false := rfl
  by_cases h8 : 8 < y
  · have h8' : ((8 : Int) < (y : Int)) := by omega
    go_enter Tryd.func30, Tryd.ntmps30
    go_wp2_with fail
    refine HB.out.mono ?_
    rintro e w1 ⟨ho, rfl, hr⟩
    have HR := Lib.hid hr
    have HO := Lib.hid ho
    have hF := refFail_any Q l (k + 1) k 0 3 w1 hr (by have := HF.out; omega)
    have HFl := Lib.hid hF
    clear hr ho hF h
    go_wp2_with fail
    refine HFl.out.mono ?_
    rintro e w2 ⟨rfl, hr, ho⟩
    have HR2 := Lib.hid hr
    have HO2 := Lib.hid ho
    clear hr ho
    go_wp2
    have hq := HQ.out
    have e : numS l k 0 = (0, 3, k) := by simp only [numS, HD.out, pNum, if_pos (show 8 < l[k].toNat by rw [← HY.out]; exact h8)]; rfl
    rw [e] at hq
    cases hq
    exact bodyPost_ret (v := .tuple #[.int .u64 0, .int .i64 3]) (by simp [results, Tryd.results30, go_sem]) rfl ⟨HO.out.trans HO2.out, rfl, HR2.out⟩
  · have h8' : ¬ ((8 : Int) < (y : Int)) := by omega
    go_enter Tryd.func30, Tryd.ntmps30
    go_wp2_with fail
    refine HB.out.mono ?_
    rintro e w1 ⟨ho, rfl, hr⟩
    have HR := Lib.hid hr
    have HO := Lib.hid ho
    clear hr ho h
    go_wp2_with fail
    clear h8'
    go_loopw [7, 8] (fun s7 s8 wr => ∃ i acc : Nat, i ≤ y ∧ s8 = .int .i64 (i : Int) ∧ s7 = .int .u64 (acc : Int) ∧ acc < 256 ^ i ∧ IsRef wr Q G a cap l (k + 1 + i) 0 ∧ Only Q w wr ∧ digs (y - i) (i == 0) acc (l.drop (k + 1 + i)) = digs y true 0 (l.drop (k + 1))) (fun _ s8 _ => (y - intOf s8).toNat)
    case atStart => exact ⟨0, 0, Nat.zero_le _, rfl, rfl, by simp, HR.out, HO.out, rfl⟩
    case round =>
      obtain ⟨i, acc, hi, rfl, rfl, hacc, hrd, hon, heq⟩ := hrel
      have HA := Lib.hid hacc
      have HRd := Lib.hid hrd
      have HOn := Lib.hid hon
      have HE := Lib.hid heq
      have hN := refByte_any Q l (k + 1 + i) 0 wr hrd
      clear hacc hrd hon heq
      by_cases hiy : i < y
      · have hiy' : ((i : Int) < (y : Int)) := by omega
        by_cases hin : k + 1 + i < l.length
        · rw [byteS_at hin] at hN
          obtain ⟨d, hd⟩ : ∃ d, d = l[k + 1 + i].toNat := ⟨_, rfl⟩
          have hcb : d < 256 := by rw [hd]; exact UInt8.toNat_lt _
          rw [← hd] at hN
          have hdr : l.drop (k + 1 + i) = l[k + 1 + i] :: l.drop (k + 1 + i + 1) := List.drop_eq_getElem_cons hin
          have hdig : digs (y - i) (i == 0) acc (l.drop (k + 1 + i)) = if (i == 0) && d == 0 then .error 3 else digs (y - (i + 1)) false (acc * 256 + d) (l.drop (k + 1 + i + 1)) := by
            rw [show y - i = y - (i + 1) + 1 by omega, hdr, digs, hd]
          have HDg := Lib.hid hdig
          have HN := Lib.hid hN
          clear hd hdr hdig hN
          go_wp2_with fail
          refine HN.out.mono ?_
          rintro e w2 ⟨ho2, rfl, hr2⟩
          have HR2 := Lib.hid hr2
          have HO2 := Lib.hid ho2
          have hF := refFail_any Q l (k + 1 + i + 1) k 0 3 w2 hr2 (by have := HF.out; omega)
          have HFl := Lib.hid hF
          clear hr2 ho2 hF
          by_cases h0 : i = 0
          · by_cases hc0 : d = 0
            · have e1 : ((i : Int) == 0) = true := by simp; omega
              have e2 : ((d : Int) == 0) = true := by simp; omega
              have H0 := Lib.hid h0
              have HC0 := Lib.hid hc0
              clear h0 hc0
              go_wp2_with fail
              refine HFl.out.mono ?_
              rintro e w3 ⟨rfl, hr, ho⟩
              have HR3 := Lib.hid hr
              have HO3 := Lib.hid ho
              clear hr ho
              go_wp2
              have hq := HQ.out
              have e : numS l k 0 = (0, 3, k) := by
                rw [numS_open, pNum_eq HD.out HY.out h8, ← HE.out, HDg.out, if_pos (by rw [H0.out, HC0.out]; rfl)]
              rw [e] at hq
              cases hq
              exact bodyPost_ret (v := .tuple #[.int .u64 0, .int .i64 3]) (by simp [results, Tryd.results30, go_sem]) rfl ⟨(HOn.out.trans HO2.out).trans HO3.out, rfl, HR3.out⟩
            · have e1 : ((i : Int) == 0) = true := by simp; omega
              have e2 : ((d : Int) == 0) = false := by simp; omega
              have H0 := Lib.hid h0
              have HC0 := Lib.hid hc0
              clear h0 hc0
              go_wp2
              go_roundw
              case rel =>
                refine ⟨i + 1, acc * 256 + d, by omega, by go_num, congrArg (Value.int IntKind.u64) (times_plus acc d i (by omega) HA.out hcb), ?_, HR2.out, HOn.out.trans HO2.out, ?_⟩
                · have := HA.out; rw [Nat.pow_succ]; omega
                · rw [← HE.out, HDg.out, if_neg (by simp; exact fun _ => HC0.out)]; rfl
              case measure => simp [intOf]; omega
          · have e1 : ((i : Int) == 0) = false := by simp; omega
            have H0 := Lib.hid h0
            clear h0
            go_wp2
            go_roundw
            case rel =>
              refine ⟨i + 1, acc * 256 + d, by omega, by go_num, congrArg (Value.int IntKind.u64) (times_plus acc d i (by omega) HA.out hcb), ?_, HR2.out, HOn.out.trans HO2.out, ?_⟩
              · have := HA.out; rw [Nat.pow_succ]; omega
              · rw [← HE.out, HDg.out, if_neg (by simp; exact fun h => absurd h H0.out)]; rfl
            case measure => simp [intOf]; omega
        · rw [byteS_past hin] at hN
          have HN := Lib.hid hN
          clear hN
          go_wp2_with fail
          refine HN.out.mono ?_
          rintro e w2 ⟨ho2, rfl, hr2⟩
          have HO2 := Lib.hid ho2
          have hF := refFail_any Q l (k + 1 + i) k 2 2 w2 hr2 (by have := HF.out; omega)
          have HFl := Lib.hid hF
          clear hr2 ho2 hF
          go_wp2_with fail
          refine HFl.out.mono ?_
          rintro e w3 ⟨rfl, hr, ho⟩
          have HR3 := Lib.hid hr
          have HO3 := Lib.hid ho
          clear hr ho
          go_wp2
          have hq := HQ.out
          have e : numS l k 0 = (0, 2, k) := by
            rw [numS_open, pNum_eq HD.out HY.out h8, ← HE.out, List.drop_eq_nil_of_le (by omega), show y - i = y - (i + 1) + 1 by omega, digs]
          rw [e] at hq
          cases hq
          exact bodyPost_ret (v := .tuple #[.int .u64 0, .int .i64 2]) (by simp [results, Tryd.results30, go_sem]) rfl ⟨(HOn.out.trans HO2.out).trans HO3.out, rfl, HR3.out⟩
      · have hiy' : ¬ ((i : Int) < (y : Int)) := by omega
        clear hN
        go_wp2
        have hq := HQ.out
        have e : numS l k 0 = (acc, 0, k + (y + 1)) := by
          rw [numS_open, pNum_eq HD.out HY.out h8, ← HE.out, show y - i = 0 by omega, digs]
        rw [e] at hq
        cases hq
        have hrd := HRd.out
        rw [show k + 1 + i = k + (y + 1) by omega] at hrd
        exact bodyPost_ret (v := .tuple #[.int .u64 (n : Int), .int .i64 0]) (by simp [results, Tryd.results30, go_sem]) rfl ⟨HOn.out, rfl, hrd⟩

theorem refNum_any (Q : Nat) (l : List UInt8) (k st : Nat) (w : World) (h : IsRef w Q G a cap l k st) :
    Calls Tryd.prog 30 #[.pointer (some ⟨Q, 0, none⟩)] w (RefAnswers G Q a cap l w (.int .u64 ((numS l k st).1 : Int)) (numS l k st).2.1 (numS l k st).2.2) := by
  by_cases hst : st = 0
  · subst hst
    by_cases hlt : k < l.length
    · exact refNum_some Q l k w h hlt
    · have e : numS l k 0 = (0, 2, k) := by simp only [numS, List.drop_eq_nil_of_le (Nat.le_of_not_lt hlt)]; rfl
      rw [e]
      exact refNum_none Q l k 0 2 w h (byteS_past hlt) (by decide)
  · have e : numS l k st = (0, st, k) := if_pos hst
    rw [e]
    exact refNum_none Q l k st st w h (if_pos hst) hst

end Go.Proofs.YthaggdkfaglgaaaDoor
