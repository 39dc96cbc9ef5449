/- The reference's reader: a text. -/
import Derived.Test.YthaggdkfaglgaaaDoorRefNum
import Derived.Test.YthaggdkfaglgaaaDoorFacts
import Derived.Test.YthaggdkfaglgaaaDoorBinMethods2
namespace Go.Proofs.YthaggdkfaglgaaaDoor
set_option maxRecDepth 20000
open Go.RowKit BinMath Reg
variable {G : Nat} {a : Option Addr} {cap : Nat}

theorem addr_add_add (ad : Addr) (i j : Nat) : (ad.add i).add j = ad.add (i + j) := by
  by_cases hi : i = 0
  · subst hi; simp [Addr.add]
  · by_cases hj : j = 0
    · subst hj; simp [Addr.add]
    · simp [Addr.add, hi, hj, Nat.add_assoc]

/-- The piece of the bytes. -/
theorem IsRef.piece {w : World} {Q : Nat} {l : List UInt8} {k : Nat} {st : Int} (h : IsRef w Q G a cap l k st) (m : Nat) (hm : k + m ≤ l.length) : Bys w (sliced a k (k + m) cap 1) ((l.drop k).take m) := by
  have hf := h.facts
  have e : ((l.drop k).take m).length = m := by rw [List.length_take, List.length_drop]; omega
  unfold sliced
  rw [show k + m - k = m by omega]
  by_cases hm0 : m = 0
  · subst hm0
    rw [List.take_zero]
    split
    · cases a with
      | none => rename_i hc; rw [show cap - k = 0 by omega]; exact .inl ⟨rfl, rfl⟩
      | some ad => exact .inr ⟨ad, _, rfl, fun i hi => by simp at hi⟩
    · cases a with
      | none =>
        exfalso
        have := h.2.2.2.1.2 rfl
        omega
      | some ad => exact .inr ⟨_, _, rfl, fun i hi => by simp at hi⟩
  · obtain ⟨ad, ha, -, -⟩ := h.2.2.2.2.2 k (by omega)
    subst ha
    rw [if_neg (by omega)]
    refine .inr ⟨ad.add (k * 1), cap - k, by rw [e]; rfl, fun i hi => ?_⟩
    rw [e] at hi
    obtain ⟨ad', ha', -, hc⟩ := h.2.2.2.2.2 (k + i) (by omega)
    cases ha'
    rw [Nat.mul_one, addr_add_add, hc]
    simp

/-- How the reading of a text by the reference ends. -/
def RefText (G Q : Nat) (a : Option Addr) (cap : Nat) (l : List UInt8) (w : World) (t : List UInt8) (c k' : Nat) (e : Ending) (w' : World) : Prop :=
  Only Q w w' ∧ ∃ v, e = .returned (.tuple #[v, .int .i64 (c : Int)]) ∧ Row w' w.heap.size v t ∧ IsRef w' Q G a cap l k' c

theorem textS_open (most : Nat) (l : List UInt8) (k : Nat) : textS l most k 0 = match pText most (l.drop k) with
    | .ok (t, u) => (t, 0, k + u)
    | .error c => ([], c, k) := by
  simp only [textS]
  rcases pText most (l.drop k) with c | ⟨n, u⟩ <;> rfl

theorem wrap64_sum (p n : Nat) (h : p + n ≤ 140737488351232) : wrap64 ((p : Int) + (n : Int)) = (p : Int) + (n : Int) := IntWalk.wrap64_in _ ⟨by omega, by omega⟩

theorem wrap64_small (n : Nat) (h : n ≤ 140737488351232) : wrap64 (n : Int) = (n : Int) := IntWalk.wrap64_in _ ⟨by omega, by omega⟩

set_option maxHeartbeats 400000 in
/-- Where the number isn't to be had. -/
theorem refRaw_none (Q : Nat) (l : List UInt8) (k st c : Nat) (most : Int) (w : World) (h : IsRef w Q G a cap l k st) (hb : numS l k st = (0, c, k)) (hc : c ≠ 0) :
    Calls Tryd.prog 21 #[.pointer (some ⟨Q, 0, none⟩), .int .i64 most] w (RefText G Q a cap l w [] c k) := by
  obtain ⟨c0, c1, c2, f1, f2⟩ := h.cells
  have hB := refNum_any Q l k st w h
  rw [hb] at hB
  have hs : ((c : Int) != 0) = true := by simp; omega
  have HB := Lib.hid hB
  clear hB h hb hc
  go_enter Tryd.func21, Tryd.ntmps21
  go_wp2_with fail
  refine HB.out.mono ?_
  rintro e w1 ⟨ho, rfl, hr⟩
  have HR := Lib.hid hr
  have HO := Lib.hid ho
  clear hr ho
  go_wp2
  exact bodyPost_ret (v := .tuple #[.slice none 0 0, .int .i64 (c : Int)]) (by simp [results, Tryd.results21, go_sem]) rfl ⟨HO.out, _, rfl, World.ownsRow_nil _ _ _ _, HR.out⟩

set_option maxRecDepth 100000 in
set_option maxHeartbeats 2000000 in
theorem refRaw_some (Q : Nat) (l : List UInt8) (k n u : Nat) (most : Int) (hm : -9223372036854775808 ≤ most ∧ most ≤ 9223372036854775807) (w : World) (h : IsRef w Q G a cap l k 0) (hp : pNum (l.drop k) = .ok (n, u)) :
    Calls Tryd.prog 21 #[.pointer (some ⟨Q, 0, none⟩), .int .i64 most] w (RefText G Q a cap l w (textS l most.toNat k 0).1 (textS l most.toNat k 0).2.1 (textS l most.toNat k 0).2.2) := by
  obtain ⟨c0, c1, c2, f1, f2⟩ := h.cells
  have hf := h.facts
  have hN := refNum_any Q l k 0 w h
  have en : numS l k 0 = (n, 0, k + u) := by rw [numS_open, hp]
  rw [en] at hN
  obtain ⟨hul, hnb, hu1⟩ := pNum_used hp
  rw [List.length_drop] at hul
  obtain ⟨p, hpk⟩ : ∃ p, p = k + u := ⟨_, rfl⟩
  rw [← hpk] at hN
  have HN := Lib.hid hN
  have HF := Lib.hid hf
  have hz0 : (((0 : Nat) : Int) != 0) = false := rfl
  have hzz : ((0 : Int) != 0) = false := rfl
  by_cases h4 : most.toNat < n
  · have e : textS l most.toNat k 0 = ([], 4, k) := by rw [textS_open, pText, hp]; simp only [if_pos h4]
    rw [e]
    by_cases hneg : most < 0
    · have hge : ¬ (0 ≤ most) := by omega
      have hn0 : (0 : Int) < (n : Int) := by omega
      clear hN en hp hf h c0 c2 f1 f2 h4 hul hu1 hpk
      go_enter Tryd.func21, Tryd.ntmps21
      go_wp2_with fail
      refine HN.out.mono ?_
      rintro e w1 ⟨ho1, rfl, hr1⟩
      have HO1 := Lib.hid ho1
      have HR1 := Lib.hid hr1
      have HFl := Lib.hid (refFail_any Q l p k 0 4 w1 hr1 (by have := HF.out; omega))
      clear hr1 ho1
      go_wp2_with fail
      refine HFl.out.mono ?_
      rintro e w2 ⟨rfl, hr, ho⟩
      have HR2 := Lib.hid hr
      have HO2 := Lib.hid ho
      clear hr ho
      go_wp2
      exact bodyPost_ret (v := .tuple #[.slice none 0 0, .int .i64 4]) (by simp [results, Tryd.results21, go_sem]) rfl ⟨HO1.out.trans HO2.out, _, rfl, World.ownsRow_nil _ _ _ _, HR2.out⟩
    · obtain ⟨M, rfl⟩ : ∃ M : Nat, most = M := ⟨most.toNat, by omega⟩
      have hnn : ¬ ((M : Int) < 0) := by omega
      have hge : (0 : Int) ≤ (M : Int) := by omega
      have hgt : (M : Int) < (n : Int) := by omega
      have hcw : IntKind.u64.wrap (M : Int) = (M : Int) := IntWalk.u64_in _ ⟨by omega, by omega⟩
      clear hN en hp hf h c0 c2 f1 f2 h4 hul hu1 hneg hpk
      go_enter Tryd.func21, Tryd.ntmps21
      go_wp2_with fail
      refine HN.out.mono ?_
      rintro e w1 ⟨ho1, rfl, hr1⟩
      have HO1 := Lib.hid ho1
      have HR1 := Lib.hid hr1
      have HFl := Lib.hid (refFail_any Q l p k 0 4 w1 hr1 (by have := HF.out; omega))
      clear hr1 ho1
      go_wp2_with fail
      refine HFl.out.mono ?_
      rintro e w2 ⟨rfl, hr, ho⟩
      have HR2 := Lib.hid hr
      have HO2 := Lib.hid ho
      clear hr ho
      go_wp2
      exact bodyPost_ret (v := .tuple #[.slice none 0 0, .int .i64 4]) (by simp [results, Tryd.results21, go_sem]) rfl ⟨HO1.out.trans HO2.out, _, rfl, World.ownsRow_nil _ _ _ _, HR2.out⟩
  · by_cases h2 : l.length - p < n
    · have e : textS l most.toNat k 0 = ([], 2, k) := by
        rw [textS_open, pText, hp]
        simp only [if_neg h4]
        rw [if_pos (by rw [List.length_drop]; omega)]
      rw [e]
      by_cases hneg : most < 0
      · exfalso
        omega
      · obtain ⟨M, rfl⟩ : ∃ M : Nat, most = M := ⟨most.toNat, by omega⟩
        have hnn : ¬ ((M : Int) < 0) := by omega
        have hge : (0 : Int) ≤ (M : Int) := by omega
        have hgt : ¬ ((M : Int) < (n : Int)) := by omega
        have hcw : IntKind.u64.wrap (M : Int) = (M : Int) := IntWalk.u64_in _ ⟨by omega, by omega⟩
        clear hN en hp hf h c0 c2 f1 f2 h4 hneg hpk
        go_enter Tryd.func21, Tryd.ntmps21
        go_wp2_with fail
        refine HN.out.mono ?_
        rintro e w1 ⟨ho1, rfl, hr1⟩
        have HO1 := Lib.hid ho1
        have HR1 := Lib.hid hr1
        have HFl := Lib.hid (fun q => refFail_any Q l p k 0 2 (w1.drewN q) (hr1.drewN q) (by have := HF.out; omega))
        have hr1f := hr1.facts
        obtain ⟨d0, d1, d2, -, -⟩ := hr1.cells
        obtain ⟨ln, hln⟩ : ∃ ln, ln = l.length := ⟨_, rfl⟩
        rw [← hln] at d0
        have HLn := Lib.hid hln
        obtain ⟨m, hm⟩ : ∃ m : Nat, m = ln - p := ⟨_, rfl⟩
        have hsub : IntKind.i64.wrap ((ln : Int) - (p : Int)) = (m : Int) := by rw [IntWalk.i64_in _ ⟨by omega, by omega⟩]; omega
        have hsub' : wrap64 ((ln : Int) - (p : Int)) = (m : Int) := by rw [IntWalk.wrap64_in _ ⟨by omega, by omega⟩]; omega
        have hsu : IntKind.u64.wrap (m : Int) = (m : Int) := IntWalk.u64_in _ ⟨by omega, by omega⟩
        have hlt : (m : Int) < (n : Int) := by omega
        clear hr1 ho1 h2 hln hm hr1f
        go_wp2
        go_quiet (fail)
        clear hsub hsub' hsu
        go_wp2_with fail
        refine (HFl.out nq).mono ?_
        rintro e w2 ⟨rfl, hr, ho⟩
        have HR2 := Lib.hid hr
        have HO2 := Lib.hid ho
        clear hr ho
        go_wp2
        exact bodyPost_ret (v := .tuple #[.slice none 0 0, .int .i64 2]) (by simp [results, Tryd.results21, go_sem]) rfl ⟨(HO1.out.drewN nq).trans HO2.out, _, rfl, World.ownsRow_nil _ _ _ _, HR2.out⟩
    · have e : textS l most.toNat k 0 = ((l.drop p).take n, 0, p + n) := by
        rw [textS_open, pText, hp]
        simp only [if_neg h4]
        rw [if_neg (by rw [List.length_drop]; omega)]
        simp only [List.drop_drop, ← Nat.add_assoc, ← hpk]
      rw [e]
      by_cases hneg : most < 0
      · have hge : ¬ (0 ≤ most) := by omega
        have hn0 : ¬ ((0 : Int) < (n : Int)) := by omega
        clear hN en hp hf h c0 c2 f1 f2 h4 hpk
        go_enter Tryd.func21, Tryd.ntmps21
        go_wp2_with fail
        refine HN.out.mono ?_
        rintro e w1 ⟨ho1, rfl, hr1⟩
        have HO1 := Lib.hid ho1
        have HR1 := Lib.hid hr1
        have hr1f := hr1.facts
        obtain ⟨d0, d1, d2, -, -⟩ := hr1.cells
        obtain ⟨ln, hln⟩ : ∃ ln, ln = l.length := ⟨_, rfl⟩
        rw [← hln] at d0
        have HLn := Lib.hid hln
        obtain ⟨m, hm⟩ : ∃ m : Nat, m = ln - p := ⟨_, rfl⟩
        have hsub : IntKind.i64.wrap ((ln : Int) - (p : Int)) = (m : Int) := by rw [IntWalk.i64_in _ ⟨by omega, by omega⟩]; omega
        have hsub' : wrap64 ((ln : Int) - (p : Int)) = (m : Int) := by rw [IntWalk.wrap64_in _ ⟨by omega, by omega⟩]; omega
        have hsu : IntKind.u64.wrap (m : Int) = (m : Int) := IntWalk.u64_in _ ⟨by omega, by omega⟩
        have hlt : ¬ ((m : Int) < (n : Int)) := by have := HLn.out; omega
        have hlt2 : decide ((m : Int) < (n : Int)) = false := decide_eq_false hlt
        have HE2 := Lib.hid (wrap64_small n (by have := HF.out; have := HLn.out; omega))
        have HE3 := Lib.hid (wrap64_sum p n (by have := HF.out; have := HLn.out; omega))
        have HFit := Lib.hid (show p + n ≤ l.length by have := HLn.out; omega)
        clear hr1 ho1 h2 hln hm
        go_wp2
        go_quiet (fail)
        clear hsub hsub' hsu
        go_wp2
        obtain ⟨w2, hw2⟩ : ∃ w2, w2 = w1.drewN nq := ⟨_, rfl⟩
        have hr2 : IsRef w2 Q G a cap l p 0 := by rw [hw2]; exact HR1.out.drewN nq
        have ho2 : Only Q w w2 := by rw [hw2]; exact HO1.out.drewN nq
        have hsz2 : w.heap.size ≤ w2.heap.size := ho2.size
        rw [← hw2]
        have HR2 := Lib.hid hr2
        have HO2 := Lib.hid ho2
        have hq0 : ∀ W, Below w2.heap.size w2 W → W.cell? ⟨Q, 0, none⟩ = some (.slice a ln cap) ∧ W.cell? ⟨Q, 1, none⟩ = some (.int .i64 (p : Int)) := fun W hW => by
          have h := (HR2.out.below hW).cells
          rw [HLn.out]
          exact ⟨h.1, h.2.1⟩
        have hpc : ∀ W, Below w2.heap.size w2 W → Bys W (sliced a p (p + n) cap 1) ((l.drop p).take n) := fun W hW => (HR2.out.below hW).piece n HFit.out
        have hG : ∀ W W' : World, Below w2.heap.size w2 W → Below W.heap.size W W' → Below w2.heap.size w2 W' := fun W W' h h' => h.trans (h'.mono h.size)
        have hfit : p + n ≤ l.length := HFit.out
        have hcl : p + n ≤ cap := by have := HR2.out.facts; omega
        have HQ0 := Lib.hid hq0
        have HPc := Lib.hid hpc
        clear hq0 hpc hw2 hr2 ho2 c1 d0 d1 d2
        refine region_by [(55, .lit w2.heap.size), (56, .is (.pointer (some ⟨Q, 0, none⟩))), (57, .is (.pointer (some ⟨Q, 0, none⟩))), (58, .is (.pointer (some ⟨Q, 0, none⟩))), (59, .is (.slice a ln cap)), (60, .is (.pointer (some ⟨Q, 0, none⟩))), (61, .is (.pointer (some ⟨Q, 0, none⟩))), (62, .is (.pointer (some ⟨Q, 1, none⟩))), (63, .is (.int .i64 (p : Int))), (64, .is (.pointer (some ⟨Q, 0, none⟩))), (65, .is (.pointer (some ⟨Q, 0, none⟩))), (66, .is (.pointer (some ⟨Q, 1, none⟩))), (67, .is (.int .i64 (p : Int))), (68, .is (.int .u64 (n : Int))), (69, .is (.int .i64 (n : Int))), (70, .is (.int .i64 ((p : Int) + (n : Int)))), (71, .is (sliced a p (p + n) cap 1)), (72, .row w2.heap.size ((l.drop p).take n)), (9, .row w2.heap.size ((l.drop p).take n))] [0, 7, 9] (fun W => Below w2.heap.size w2 W) (by kernel_rfl) (by kernel_rfl) (by kernel_rfl) (by kernel_rfl) (by kernel_rfl) ((Below.refl _ _).drew) ?_ ?_
        · refine ⟨?a0, ?a1, ?a2, ?a3, ?a4, ?a5, ?a6, ?a7, ?a8, ?a9, ?a10, ?a11, ?a12, ?a13, ?a14, ?a15, ?a16, ?a17, ?a18, trivial⟩
          case a0 => exact ask_build_lit hG (guard_none rfl) w2.heap.size (fun W hW => hW.size) rfl (by intro k hk; cases hk; rfl)
          case a1 => exact ask_copy (guard_none rfl) (.tmp 0) (.inl rfl) (by intro k hk; cases hk; rfl)
          case a2 => exact ask_read (guard_none rfl) (.tmp 56) _ _ rfl (by simp [Op.operands]) (by intro k hk; cases hk; rfl) (fun x W hW hx => by simp only [execOp, hx]; kernel_rfl)
          case a3 => exact ask_read (guard_none rfl) (.tmp 57) _ _ rfl (by simp [Op.operands]) (by intro k hk; cases hk; rfl) (fun x W hW hx => by simp only [execOp, hx]; kernel_rfl)
          case a4 => exact ask_read (guard_none rfl) (.tmp 58) _ _ rfl (by simp [Op.operands]) (by intro k hk; cases hk; rfl) (fun x W hW hx => by simp [execOp, hx, go_sem, (HQ0.out W hW).1])
          case a5 => exact ask_copy (guard_none rfl) (.tmp 0) (.inl rfl) (by intro k hk; cases hk; rfl)
          case a6 => exact ask_read (guard_none rfl) (.tmp 60) _ _ rfl (by simp [Op.operands]) (by intro k hk; cases hk; rfl) (fun x W hW hx => by simp only [execOp, hx]; kernel_rfl)
          case a7 => exact ask_read (guard_none rfl) (.tmp 61) _ _ rfl (by simp [Op.operands]) (by intro k hk; cases hk; rfl) (fun x W hW hx => by simp only [execOp, hx]; kernel_rfl)
          case a8 => exact ask_read (guard_none rfl) (.tmp 62) _ _ rfl (by simp [Op.operands]) (by intro k hk; cases hk; rfl) (fun x W hW hx => by simp [execOp, hx, go_sem, (HQ0.out W hW).2])
          case a9 => exact ask_copy (guard_none rfl) (.tmp 0) (.inl rfl) (by intro k hk; cases hk; rfl)
          case a10 => exact ask_read (guard_none rfl) (.tmp 64) _ _ rfl (by simp [Op.operands]) (by intro k hk; cases hk; rfl) (fun x W hW hx => by simp only [execOp, hx]; kernel_rfl)
          case a11 => exact ask_read (guard_none rfl) (.tmp 65) _ _ rfl (by simp [Op.operands]) (by intro k hk; cases hk; rfl) (fun x W hW hx => by simp only [execOp, hx]; kernel_rfl)
          case a12 => exact ask_read (guard_none rfl) (.tmp 66) _ _ rfl (by simp [Op.operands]) (by intro k hk; cases hk; rfl) (fun x W hW hx => by simp [execOp, hx, go_sem, (HQ0.out W hW).2])
          case a13 => exact ask_copy (guard_none rfl) (.tmp 7) (.inl rfl) (by intro k hk; cases hk; rfl)
          case a14 => exact ask_read (guard_none rfl) (.tmp 68) _ _ rfl (by simp [Op.operands]) (by intro k hk; cases hk; rfl) (fun x W hW hx => by have e : IntKind.i64.wrap (n : Int) = (n : Int) := IntWalk.i64_in _ ⟨by omega, by omega⟩; simp [execOp, hx, go_sem, e])
          case a15 => exact ask_bin (guard_none rfl) _ _ _ _ _ _ _ _ rfl rfl rfl (by intro k hk; cases hk; rfl) (fun W => by simp [eqGuard, go_sem]; exact IntWalk.i64_in _ ⟨by omega, by omega⟩)
          case a16 => exact ask_slice (guard_none rfl) _ _ _ _ _ _ _ (some (.int .i64 (p : Int))) (some (.int .i64 ((p : Int) + (n : Int)))) none rfl rfl rfl rfl rfl (by intro k hk; cases hk; rfl) (fun W => slice_mid a ln cap p (p + n) (by omega) hcl W)
          case a17 => exact ask_append_lit hG (guard_none rfl) _ _ w2.heap.size _ rfl rfl rfl (fun x W hW hk => by have e : x 71 = _ := hk 71 rfl; show Bys W (x 71) _; rw [e]; exact HPc.out W hW) (by rw [List.length_take, List.length_drop]; omega) (by intro k hk; cases hk; exact .inl rfl)
          case a18 => exact ask_copy (guard_none rfl) (.tmp 72) (.inr rfl) (by intro k hk; cases hk; rfl)
        · intro a' W hW hd hs hf
          have h0 : a'.tmps.getD 0 undef = .pointer (some ⟨Q, 0, none⟩) := hf 0 rfl
          have h7 : a'.tmps.getD 7 undef = .int .u64 (n : Int) := hf 7 rfl
          have h9 : Row W w2.heap.size (a'.tmps.getD 9 undef) ((l.drop p).take n) := hf 9 rfl
          obtain ⟨us, hus, ha'⟩ := act_open 83 a' hs hd
          rw [← hus] at h0 h7 h9
          have el : ((List.range 83).map us).toArray = #[us 0, us 1, us 2, us 3, us 4, us 5, us 6, us 7, us 8, us 9, us 10, us 11, us 12, us 13, us 14, us 15, us 16, us 17, us 18, us 19, us 20, us 21, us 22, us 23, us 24, us 25, us 26, us 27, us 28, us 29, us 30, us 31, us 32, us 33, us 34, us 35, us 36, us 37, us 38, us 39, us 40, us 41, us 42, us 43, us 44, us 45, us 46, us 47, us 48, us 49, us 50, us 51, us 52, us 53, us 54, us 55, us 56, us 57, us 58, us 59, us 60, us 61, us 62, us 63, us 64, us 65, us 66, us 67, us 68, us 69, us 70, us 71, us 72, us 73, us 74, us 75, us 76, us 77, us 78, us 79, us 80, us 81, us 82] := by kernel_rfl
          rw [el] at ha'
          subst ha'
          rw [h0, h7]
          obtain ⟨v9, h9e⟩ : ∃ v, us 9 = v := ⟨_, rfl⟩
          rw [h9e] at h9 ⊢
          obtain ⟨b9, c9, rfl⟩ := slice_of_row h9
          have hrw := HR2.out.below hW
          obtain ⟨c0, c1, -, f1, -⟩ := hrw.cells
          have hww : w2.heap.size ≤ W.heap.size := hW.size
          have hfin : IsRef (W.setCell ⟨Q, 1, none⟩ (.int .i64 ((p : Int) + (n : Int)))) Q G a cap l (p + n) 0 := hrw.step hfit
          have hfo : Only Q w (W.setCell ⟨Q, 1, none⟩ (.int .i64 ((p : Int) + (n : Int)))) := (HO2.out.trans (Only.of_below hW)).setR 1 _
          have hfr : Row (W.setCell ⟨Q, 1, none⟩ (.int .i64 ((p : Int) + (n : Int)))) w.heap.size (.slice b9 ((l.drop p).take n).length c9) ((l.drop p).take n) := by
            have hx : Row (W.setCell ⟨Q, 1, none⟩ (.int .i64 ((p : Int) + (n : Int)))) w2.heap.size (.slice b9 ((l.drop p).take n).length c9) ((l.drop p).take n) := row_only h9 (fun g hg => heap_set_other (by have := HR2.out.facts; omega) _)
            exact ⟨hx.1, hx.2.imp id fun ⟨g, cap, cur, hv2, hB, r⟩ => ⟨g, cap, cur, hv2, by omega, r⟩⟩
          obtain ⟨q9, hq9⟩ : ∃ q, q = ((l.drop p).take n).length := ⟨_, rfl⟩
          rw [← hq9] at hfr ⊢
          have HFi := Lib.hid hfin
          have HFo := Lib.hid hfo
          have HFr := Lib.hid hfr
          clear hus h0 h7 h9 h9e el hf hs hd hfin hfo hfr hrw hq9
          go_wp2
          try rw [HE2.out]
          try rw [HE3.out]
          exact bodyPost_ret (v := .tuple #[.slice b9 q9 c9, .int .i64 0]) (by simp [results, Tryd.results21, go_sem]) rfl ⟨HFo.out, _, rfl, HFr.out, HFi.out⟩
      · obtain ⟨M, rfl⟩ : ∃ M : Nat, most = M := ⟨most.toNat, by omega⟩
        have hnn : ¬ ((M : Int) < 0) := by omega
        have hge : (0 : Int) ≤ (M : Int) := by omega
        have hgt : ¬ ((M : Int) < (n : Int)) := by omega
        have hcw : IntKind.u64.wrap (M : Int) = (M : Int) := IntWalk.u64_in _ ⟨by omega, by omega⟩
        clear hN en hp hf h c0 c2 f1 f2 h4 hneg hpk
        go_enter Tryd.func21, Tryd.ntmps21
        go_wp2_with fail
        refine HN.out.mono ?_
        rintro e w1 ⟨ho1, rfl, hr1⟩
        have HO1 := Lib.hid ho1
        have HR1 := Lib.hid hr1
        have hr1f := hr1.facts
        obtain ⟨d0, d1, d2, -, -⟩ := hr1.cells
        obtain ⟨ln, hln⟩ : ∃ ln, ln = l.length := ⟨_, rfl⟩
        rw [← hln] at d0
        have HLn := Lib.hid hln
        obtain ⟨m, hm⟩ : ∃ m : Nat, m = ln - p := ⟨_, rfl⟩
        have hsub : IntKind.i64.wrap ((ln : Int) - (p : Int)) = (m : Int) := by rw [IntWalk.i64_in _ ⟨by omega, by omega⟩]; omega
        have hsub' : wrap64 ((ln : Int) - (p : Int)) = (m : Int) := by rw [IntWalk.wrap64_in _ ⟨by omega, by omega⟩]; omega
        have hsu : IntKind.u64.wrap (m : Int) = (m : Int) := IntWalk.u64_in _ ⟨by omega, by omega⟩
        have hlt : ¬ ((m : Int) < (n : Int)) := by have := HLn.out; omega
        have hlt2 : decide ((m : Int) < (n : Int)) = false := decide_eq_false hlt
        have HE2 := Lib.hid (wrap64_small n (by have := HF.out; have := HLn.out; omega))
        have HE3 := Lib.hid (wrap64_sum p n (by have := HF.out; have := HLn.out; omega))
        have HFit := Lib.hid (show p + n ≤ l.length by have := HLn.out; omega)
        clear hr1 ho1 h2 hln hm
        go_wp2
        go_quiet (fail)
        clear hsub hsub' hsu
        go_wp2
        obtain ⟨w2, hw2⟩ : ∃ w2, w2 = w1.drewN nq := ⟨_, rfl⟩
        have hr2 : IsRef w2 Q G a cap l p 0 := by rw [hw2]; exact HR1.out.drewN nq
        have ho2 : Only Q w w2 := by rw [hw2]; exact HO1.out.drewN nq
        have hsz2 : w.heap.size ≤ w2.heap.size := ho2.size
        rw [← hw2]
        have HR2 := Lib.hid hr2
        have HO2 := Lib.hid ho2
        have hq0 : ∀ W, Below w2.heap.size w2 W → W.cell? ⟨Q, 0, none⟩ = some (.slice a ln cap) ∧ W.cell? ⟨Q, 1, none⟩ = some (.int .i64 (p : Int)) := fun W hW => by
          have h := (HR2.out.below hW).cells
          rw [HLn.out]
          exact ⟨h.1, h.2.1⟩
        have hpc : ∀ W, Below w2.heap.size w2 W → Bys W (sliced a p (p + n) cap 1) ((l.drop p).take n) := fun W hW => (HR2.out.below hW).piece n HFit.out
        have hG : ∀ W W' : World, Below w2.heap.size w2 W → Below W.heap.size W W' → Below w2.heap.size w2 W' := fun W W' h h' => h.trans (h'.mono h.size)
        have hfit : p + n ≤ l.length := HFit.out
        have hcl : p + n ≤ cap := by have := HR2.out.facts; omega
        have HQ0 := Lib.hid hq0
        have HPc := Lib.hid hpc
        clear hq0 hpc hw2 hr2 ho2 c1 d0 d1 d2
        refine region_by [(55, .lit w2.heap.size), (56, .is (.pointer (some ⟨Q, 0, none⟩))), (57, .is (.pointer (some ⟨Q, 0, none⟩))), (58, .is (.pointer (some ⟨Q, 0, none⟩))), (59, .is (.slice a ln cap)), (60, .is (.pointer (some ⟨Q, 0, none⟩))), (61, .is (.pointer (some ⟨Q, 0, none⟩))), (62, .is (.pointer (some ⟨Q, 1, none⟩))), (63, .is (.int .i64 (p : Int))), (64, .is (.pointer (some ⟨Q, 0, none⟩))), (65, .is (.pointer (some ⟨Q, 0, none⟩))), (66, .is (.pointer (some ⟨Q, 1, none⟩))), (67, .is (.int .i64 (p : Int))), (68, .is (.int .u64 (n : Int))), (69, .is (.int .i64 (n : Int))), (70, .is (.int .i64 ((p : Int) + (n : Int)))), (71, .is (sliced a p (p + n) cap 1)), (72, .row w2.heap.size ((l.drop p).take n)), (9, .row w2.heap.size ((l.drop p).take n))] [0, 7, 9] (fun W => Below w2.heap.size w2 W) (by kernel_rfl) (by kernel_rfl) (by kernel_rfl) (by kernel_rfl) (by kernel_rfl) ((Below.refl _ _).drew) ?_ ?_
        · refine ⟨?a0, ?a1, ?a2, ?a3, ?a4, ?a5, ?a6, ?a7, ?a8, ?a9, ?a10, ?a11, ?a12, ?a13, ?a14, ?a15, ?a16, ?a17, ?a18, trivial⟩
          case a0 => exact ask_build_lit hG (guard_none rfl) w2.heap.size (fun W hW => hW.size) rfl (by intro k hk; cases hk; rfl)
          case a1 => exact ask_copy (guard_none rfl) (.tmp 0) (.inl rfl) (by intro k hk; cases hk; rfl)
          case a2 => exact ask_read (guard_none rfl) (.tmp 56) _ _ rfl (by simp [Op.operands]) (by intro k hk; cases hk; rfl) (fun x W hW hx => by simp only [execOp, hx]; kernel_rfl)
          case a3 => exact ask_read (guard_none rfl) (.tmp 57) _ _ rfl (by simp [Op.operands]) (by intro k hk; cases hk; rfl) (fun x W hW hx => by simp only [execOp, hx]; kernel_rfl)
          case a4 => exact ask_read (guard_none rfl) (.tmp 58) _ _ rfl (by simp [Op.operands]) (by intro k hk; cases hk; rfl) (fun x W hW hx => by simp [execOp, hx, go_sem, (HQ0.out W hW).1])
          case a5 => exact ask_copy (guard_none rfl) (.tmp 0) (.inl rfl) (by intro k hk; cases hk; rfl)
          case a6 => exact ask_read (guard_none rfl) (.tmp 60) _ _ rfl (by simp [Op.operands]) (by intro k hk; cases hk; rfl) (fun x W hW hx => by simp only [execOp, hx]; kernel_rfl)
          case a7 => exact ask_read (guard_none rfl) (.tmp 61) _ _ rfl (by simp [Op.operands]) (by intro k hk; cases hk; rfl) (fun x W hW hx => by simp only [execOp, hx]; kernel_rfl)
          case a8 => exact ask_read (guard_none rfl) (.tmp 62) _ _ rfl (by simp [Op.operands]) (by intro k hk; cases hk; rfl) (fun x W hW hx => by simp [execOp, hx, go_sem, (HQ0.out W hW).2])
          case a9 => exact ask_copy (guard_none rfl) (.tmp 0) (.inl rfl) (by intro k hk; cases hk; rfl)
          case a10 => exact ask_read (guard_none rfl) (.tmp 64) _ _ rfl (by simp [Op.operands]) (by intro k hk; cases hk; rfl) (fun x W hW hx => by simp only [execOp, hx]; kernel_rfl)
          case a11 => exact ask_read (guard_none rfl) (.tmp 65) _ _ rfl (by simp [Op.operands]) (by intro k hk; cases hk; rfl) (fun x W hW hx => by simp only [execOp, hx]; kernel_rfl)
          case a12 => exact ask_read (guard_none rfl) (.tmp 66) _ _ rfl (by simp [Op.operands]) (by intro k hk; cases hk; rfl) (fun x W hW hx => by simp [execOp, hx, go_sem, (HQ0.out W hW).2])
          case a13 => exact ask_copy (guard_none rfl) (.tmp 7) (.inl rfl) (by intro k hk; cases hk; rfl)
          case a14 => exact ask_read (guard_none rfl) (.tmp 68) _ _ rfl (by simp [Op.operands]) (by intro k hk; cases hk; rfl) (fun x W hW hx => by have e : IntKind.i64.wrap (n : Int) = (n : Int) := IntWalk.i64_in _ ⟨by omega, by omega⟩; simp [execOp, hx, go_sem, e])
          case a15 => exact ask_bin (guard_none rfl) _ _ _ _ _ _ _ _ rfl rfl rfl (by intro k hk; cases hk; rfl) (fun W => by simp [eqGuard, go_sem]; exact IntWalk.i64_in _ ⟨by omega, by omega⟩)
          case a16 => exact ask_slice (guard_none rfl) _ _ _ _ _ _ _ (some (.int .i64 (p : Int))) (some (.int .i64 ((p : Int) + (n : Int)))) none rfl rfl rfl rfl rfl (by intro k hk; cases hk; rfl) (fun W => slice_mid a ln cap p (p + n) (by omega) hcl W)
          case a17 => exact ask_append_lit hG (guard_none rfl) _ _ w2.heap.size _ rfl rfl rfl (fun x W hW hk => by have e : x 71 = _ := hk 71 rfl; show Bys W (x 71) _; rw [e]; exact HPc.out W hW) (by rw [List.length_take, List.length_drop]; omega) (by intro k hk; cases hk; exact .inl rfl)
          case a18 => exact ask_copy (guard_none rfl) (.tmp 72) (.inr rfl) (by intro k hk; cases hk; rfl)
        · intro a' W hW hd hs hf
          have h0 : a'.tmps.getD 0 undef = .pointer (some ⟨Q, 0, none⟩) := hf 0 rfl
          have h7 : a'.tmps.getD 7 undef = .int .u64 (n : Int) := hf 7 rfl
          have h9 : Row W w2.heap.size (a'.tmps.getD 9 undef) ((l.drop p).take n) := hf 9 rfl
          obtain ⟨us, hus, ha'⟩ := act_open 83 a' hs hd
          rw [← hus] at h0 h7 h9
          have el : ((List.range 83).map us).toArray = #[us 0, us 1, us 2, us 3, us 4, us 5, us 6, us 7, us 8, us 9, us 10, us 11, us 12, us 13, us 14, us 15, us 16, us 17, us 18, us 19, us 20, us 21, us 22, us 23, us 24, us 25, us 26, us 27, us 28, us 29, us 30, us 31, us 32, us 33, us 34, us 35, us 36, us 37, us 38, us 39, us 40, us 41, us 42, us 43, us 44, us 45, us 46, us 47, us 48, us 49, us 50, us 51, us 52, us 53, us 54, us 55, us 56, us 57, us 58, us 59, us 60, us 61, us 62, us 63, us 64, us 65, us 66, us 67, us 68, us 69, us 70, us 71, us 72, us 73, us 74, us 75, us 76, us 77, us 78, us 79, us 80, us 81, us 82] := by kernel_rfl
          rw [el] at ha'
          subst ha'
          rw [h0, h7]
          obtain ⟨v9, h9e⟩ : ∃ v, us 9 = v := ⟨_, rfl⟩
          rw [h9e] at h9 ⊢
          obtain ⟨b9, c9, rfl⟩ := slice_of_row h9
          have hrw := HR2.out.below hW
          obtain ⟨c0, c1, -, f1, -⟩ := hrw.cells
          have hww : w2.heap.size ≤ W.heap.size := hW.size
          have hfin : IsRef (W.setCell ⟨Q, 1, none⟩ (.int .i64 ((p : Int) + (n : Int)))) Q G a cap l (p + n) 0 := hrw.step hfit
          have hfo : Only Q w (W.setCell ⟨Q, 1, none⟩ (.int .i64 ((p : Int) + (n : Int)))) := (HO2.out.trans (Only.of_below hW)).setR 1 _
          have hfr : Row (W.setCell ⟨Q, 1, none⟩ (.int .i64 ((p : Int) + (n : Int)))) w.heap.size (.slice b9 ((l.drop p).take n).length c9) ((l.drop p).take n) := by
            have hx : Row (W.setCell ⟨Q, 1, none⟩ (.int .i64 ((p : Int) + (n : Int)))) w2.heap.size (.slice b9 ((l.drop p).take n).length c9) ((l.drop p).take n) := row_only h9 (fun g hg => heap_set_other (by have := HR2.out.facts; omega) _)
            exact ⟨hx.1, hx.2.imp id fun ⟨g, cap, cur, hv2, hB, r⟩ => ⟨g, cap, cur, hv2, by omega, r⟩⟩
          obtain ⟨q9, hq9⟩ : ∃ q, q = ((l.drop p).take n).length := ⟨_, rfl⟩
          rw [← hq9] at hfr ⊢
          have HFi := Lib.hid hfin
          have HFo := Lib.hid hfo
          have HFr := Lib.hid hfr
          clear hus h0 h7 h9 h9e el hf hs hd hfin hfo hfr hrw hq9
          go_wp2
          try rw [HE2.out]
          try rw [HE3.out]
          exact bodyPost_ret (v := .tuple #[.slice b9 q9 c9, .int .i64 0]) (by simp [results, Tryd.results21, go_sem]) rfl ⟨HFo.out, _, rfl, HFr.out, HFi.out⟩

theorem refRaw_any (Q : Nat) (l : List UInt8) (k st : Nat) (most : Int) (hm : -9223372036854775808 ≤ most ∧ most ≤ 9223372036854775807) (w : World) (h : IsRef w Q G a cap l k st) :
    Calls Tryd.prog 21 #[.pointer (some ⟨Q, 0, none⟩), .int .i64 most] w (RefText G Q a cap l w (textS l most.toNat k st).1 (textS l most.toNat k st).2.1 (textS l most.toNat k st).2.2) := by
  by_cases hst : st = 0
  · subst hst
    cases hp : pNum (l.drop k) with
    | error c =>
      have hc := pNum_err hp
      have e : textS l most.toNat k 0 = ([], c, k) := by rw [textS_open, pText, hp]
      rw [e]
      exact refRaw_none Q l k 0 c most w h (by rw [numS_open, hp]) (by omega)
    | ok p =>
      obtain ⟨n, u⟩ := p
      exact refRaw_some Q l k n u most hm w h hp
  · have e : textS l most.toNat k st = ([], st, k) := if_pos hst
    rw [e]
    exact refRaw_none Q l k st st most w h (if_pos hst) hst

end Go.Proofs.YthaggdkfaglgaaaDoor
