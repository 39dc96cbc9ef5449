/- bytes.Equal and bytes.Clone. -/
import Derived.Test.YthaggdkfaglgaaaDoorFrameSum
import Derived.Test.YthaggdkfaglgaaaDoorBinNew
import Derived.Test.YthaggdkfaglgaaaDoorArms
import Derived.Lib.SliceRun
namespace Go.Proofs.YthaggdkfaglgaaaDoor
set_option maxRecDepth 20000
open Go.RowKit FrameMath CrcMath

set_option maxHeartbeats 400000 in
theorem equal_any (va vb : Value) (la lb : List UInt8) (w : World) (ha : Bys w va la) (hb : Bys w vb lb) :
    Calls Tryd.prog 18 #[va, vb] w fun e w' => e = .returned (.bool (la == lb)) ∧ w = w' := by
  have c1 := conv_bys ha
  have c2 := conv_bys hb
  obtain ⟨X, hX⟩ : ∃ X : ByteArray, X = ⟨la.toArray⟩ := ⟨_, rfl⟩
  obtain ⟨Y, hY⟩ : ∃ Y : ByteArray, Y = ⟨lb.toArray⟩ := ⟨_, rfl⟩
  rw [← hX] at c1
  rw [← hY] at c2
  have he : (la == lb) = (X.toList == Y.toList) := by rw [hX, hY, ByteArray.toList_mk, ByteArray.toList_mk]
  rw [he]
  clear ha hb hX hY he
  go_enter Tryd.func18, Tryd.ntmps18
  go_wp2
  go_ret
  exact ⟨rfl, rfl⟩

set_option maxHeartbeats 400000 in
theorem fclone_any (a : Option Addr) (n c : Nat) (l : List UInt8) (w : World) (h : Bys w (.slice a n c) l) (hl : l.length ≤ 140737488355328) :
    Calls Tryd.prog 20 #[.slice a n c] w fun e w' => ∃ v', e = .returned v' ∧ Row w' w.heap.size v' l ∧ Below w.heap.size w w' := by
  have HX := Lib.hid h
  have qT : ∀ (w : World) (a : Option Addr) (n c n' c' : Nat), (binOp .eql 22 (.slice a n c) (.slice none n' c')).run Tryd.prog w = .ok (.bool a.isNone) w := fun w a n c n' c' => Lib.run_eql_slice_nil w _ _ a n c n' c' Tryd.underlying22
  rcases h with ⟨h1, rfl⟩ | ⟨ad, cap, h1, hc⟩
  · simp at h1
    obtain ⟨rfl, rfl, rfl⟩ := h1
    go_enter Tryd.func20, Tryd.ntmps20
    go_wp2
    go_ret
    exact ⟨_, rfl, World.ownsRow_nil _ _ _ _, Below.refl _ _⟩
  · simp at h1
    obtain ⟨rfl, rfl, rfl⟩ := h1
    clear hc
    have A1 := Lib.hid (append_lit (B := w.heap.size) (Nat.le_refl _) (heap_alloc_new w (.cells #[] 5)) (HX.out.below (Nat.le_refl _) ((Below.refl _ _).alloc (Nat.le_refl _) (.cells #[] 5))) hl)
    obtain ⟨m, hm⟩ : ∃ m, m = l.length := ⟨_, rfl⟩
    rw [← hm] at A1 ⊢
    clear hm
    go_enter Tryd.func20, Tryd.ntmps20
    go_wp2_with (at_builtin; refine wpList_append_by rfl _ _ 22 rfl _ _ rfl rfl _ A1.out ?_; rintro x w2 ⟨hr2, hb2⟩; (have HR2 := Lib.hid hr2); (have HB2 := Lib.hid hb2); clear hr2 hb2)
    go_ret
    exact ⟨_, rfl, HR2.out, ((Below.refl _ _).alloc (Nat.le_refl _) (.cells #[] 5)).trans (HB2.out.mono (by simp))⟩

/-- How One ends. -/
def OneEnd (w : World) (b : List UInt8) (e : Ending) (w' : World) : Prop :=
  Below w.heap.size w w' ∧ match oneF b with
    | .ok (t, n) => ∃ v, e = .returned (.tuple #[v, .int .i64 (n : Int), .int .i64 0]) ∧ Row w' w.heap.size v t
    | .error c => e = .returned (.tuple #[.slice none 0 0, .int .i64 0, .int .i64 (c : Int)])

theorem front_num (b : List UInt8) : BinMath.numS (b.take 9) 0 0 = match BinMath.pNum b with
    | .ok (n, u) => (n, 0, u)
    | .error c => (0, c, 0) := by
  simp only [BinMath.numS, ne_eq, not_true_eq_false, if_false, List.drop_zero, pNum_take]
  rcases BinMath.pNum b with c | ⟨n, u⟩ <;> simp

set_option maxRecDepth 100000 in
set_option maxHeartbeats 1000000 in
theorem one_any (a : Option Addr) (len cap : Nat) (b : List UInt8) (w : World) (hb : Bys w (.slice a len cap) b) (hl : b.length = len) (hc : len ≤ cap) (hn : len ≤ 140737488351232) (ht : Tab w) :
    Calls Tryd.prog 8 #[.slice a len cap] w (OneEnd w b) := by
  have HX := Lib.hid hb
  have HT := Lib.hid ht
  have HL := Lib.hid hl
  obtain ⟨k, hk⟩ : ∃ k, k = min len 9 := ⟨_, rfl⟩
  have hmin : ∀ (ts : Array TypeId) (t : TypeId) (W : World), (Builtin.min_ ts t #[.int .i64 (len : Int), .int .i64 9]).run Tryd.prog W = .ok (.int .i64 (k : Int)) W := fun ts t W => by
    rw [run_min_int2, hk]
    congr 2
    omega
  have hslice : ∀ W, (Instr.sliceAt 22 (.slice a len cap) none (some (.int .i64 (k : Int))) none).run Tryd.prog W = .ok (.slice a k cap) W := slice_to a len cap k (by omega)
  have hfront : Bys w (.slice a k cap) (b.take k) := hb.take k (by omega)
  have hbk : b.take k = b.take 9 := by
    rcases Nat.lt_or_ge len 9 with h | h
    · rw [List.take_of_length_le (by omega), List.take_of_length_le (by omega)]
    · rw [show k = 9 by omega]
  have hfl : (b.take 9).length = k := by rw [← hbk, List.length_take]; omega
  rw [hbk] at hfront
  have HN := Lib.hid (rnew_any a k cap (b.take 9) w hfront (by omega))
  have HFl := Lib.hid hfl
  have HK := Lib.hid hk
  have hk9 : k ≤ 9 := by omega
  clear hb hl ht hk hfront hbk hfl
  go_enter Tryd.func8, Tryd.ntmps8
  go_wp2_with fail
  refine HN.out.mono ?_
  rintro e w1 ⟨R, rfl, hR, hrd, hb1⟩
  clear hmin hslice HN
  have HB1 := Lib.hid hb1
  have hq := rdNum_any R (b.take 9) 0 0 w1 hrd
  rw [front_num] at hq
  cases hp : BinMath.pNum b with
  | error c =>
    rw [hp] at hq
    have hc0 := BinMath.pNum_err hp
    have HQ := Lib.hid hq
    have HO := Lib.hid (one_err hp)
    have hcne : ((c : Int) != 0) = true := by simp; omega
    clear hq hb1 hrd hp hc0
    go_wp2_with fail
    refine HQ.out.mono ?_
    rintro e w2 ⟨ho, rfl, hr⟩
    have HB2 := Lib.hid (HB1.out.trans (ho.below hR HB1.out.size))
    clear ho hr HQ
    go_wp2
    exact bodyPost_ret (v := .tuple #[.slice none 0 0, .int .i64 0, .int .i64 (c : Int)]) (by simp [results, Tryd.results8, go_sem]) rfl ⟨HB2.out, by rw [HO.out]⟩
  | ok p =>
    obtain ⟨n, u⟩ := p
    rw [hp] at hq
    have HQ := Lib.hid hq
    have hu9 := pNum_used9 hp
    have hul := (BinMath.pNum_used hp)
    have hn64 : n < 18446744073709551616 := hul.2.1
    have hku : u ≤ k := by have := HK.out; have := HL.out; omega
    have HP := Lib.hid hp
    clear hq hb1 hrd hp hul hu9
    go_wp2_with fail
    refine HQ.out.mono ?_
    rintro e w2 ⟨ho, rfl, hr⟩
    have HB2 := Lib.hid (HB1.out.trans (ho.below hR HB1.out.size))
    have HLeft := Lib.hid (left_any (b.take 9) u 0 R w2 hr)
    clear ho hr HQ
    by_cases hbig : 32768 < n
    · have HO := Lib.hid (one_long HP.out hbig)
      go_wp2
      exact bodyPost_ret (v := .tuple #[.slice none 0 0, .int .i64 0, .int .i64 4]) (by simp [results, Tryd.results8, go_sem]) rfl ⟨HB2.out, by rw [HO.out]; rfl⟩
    · obtain ⟨q, hq⟩ : ∃ q, q = (b.take 9).length - u := ⟨_, rfl⟩
      have hkq : k = u + q := by have := HFl.out; omega
      rw [← hq] at HLeft
      have HKQ := Lib.hid hkq
      clear hq
      go_wp2_with fail
      refine HLeft.out.mono ?_
      rintro e w3 ⟨rfl, nq, rfl⟩
      by_cases hsh : len < u + n + 4
      · have HO := Lib.hid (one_short HP.out (by omega) (by have := HL.out; omega))
        go_wp2
        exact bodyPost_ret (v := .tuple #[.slice none 0 0, .int .i64 0, .int .i64 2]) (by simp [results, Tryd.results8, go_sem]) rfl ⟨below_dn HB2.out nq, by rw [HO.out]; rfl⟩
      have HO := Lib.hid (one_form HP.out (by omega) (by have := HL.out; omega))
      obtain ⟨a1, h1, h2⟩ := bys_mid a len cap (u + n) (u + n + 4) b w HX.out (by omega) (by omega) hc
      have h3 := slice_to a len cap (u + n) (by omega)
      have h4 := HX.out.take (u + n) (by have := HL.out; omega)
      obtain ⟨a5, h5, h6⟩ := bys_mid a len cap u (u + n) b w HX.out (by omega) (by omega) hc
      have e1 : ((u + n : Nat) : Int) = (u : Int) + (n : Int) := by omega
      have e2 : ((u + n + 4 : Nat) : Int) = (u : Int) + (n : Int) + 4 := by omega
      rw [e1, e2, show u + n + 4 - (u + n) = 4 by omega] at h1
      rw [show u + n + 4 - (u + n) = 4 by omega] at h2
      rw [e1] at h3
      rw [e1, show u + n - u = n by omega] at h5
      rw [show u + n - u = n by omega] at h6
      obtain ⟨c1, hc1⟩ : ∃ c1, c1 = cap - (u + n) := ⟨_, rfl⟩
      obtain ⟨c5, hc5⟩ : ∃ c5, c5 = cap - u := ⟨_, rfl⟩
      obtain ⟨E, hE⟩ : ∃ E, E = u + n := ⟨_, rfl⟩
      obtain ⟨B, hB⟩ : ∃ B, B = b.take (u + n) := ⟨_, rfl⟩
      obtain ⟨S4, hS4⟩ : ∃ S4, S4 = (b.take (u + n + 4)).drop (u + n) := ⟨_, rfl⟩
      obtain ⟨Rt, hRt⟩ : ∃ Rt, Rt = (b.take (u + n)).drop u := ⟨_, rfl⟩
      obtain ⟨r, hr⟩ : ∃ r, r = (S4 == sealF B) := ⟨_, rfl⟩
      rw [← hc1] at h1 h2
      rw [← hS4] at h2
      rw [← hc5] at h5 h6
      rw [← hRt] at h6
      rw [← hE] at h3 h4
      rw [hE, ← hB] at h4
      rw [← hE] at h4
      have hBl : B.length = E := by rw [hB, hE, List.length_take]; have := HL.out; omega
      have hRl : Rt.length = n := by rw [hRt, List.length_drop, List.length_take]; have := HL.out; omega
      have hEn : E ≤ 32777 := by have := pNum_used9 HP.out; omega
      have hfin : oneF b = if r = true then .ok (Rt, u + n + 4) else .error 3 := by
        rw [HO.out, hr, hS4, hRt, hB]
        rw [show (b.drop (u + n)).take 4 = (b.take (u + n + 4)).drop (u + n) by rw [List.drop_take, show u + n + 4 - (u + n) = 4 by omega], show (b.drop u).take n = (b.take (u + n)).drop u by rw [List.drop_take, show u + n - u = n by omega]]
        simp only [beq_iff_eq]
      have HFin := Lib.hid hfin
      have HS1 := Lib.hid h1
      have HS4 := Lib.hid h2
      have HS2 := Lib.hid h3
      have HB := Lib.hid h4
      have HS5 := Lib.hid h5
      have HRt := Lib.hid h6
      have HBl : Hid (B.length ≤ 32777) := by rw [hBl]; exact hEn
      have HRl := Lib.hid hRl
      have Hr := Lib.hid hr
      clear h1 h2 h3 h4 h5 h6 hBl hfin hr hB hS4 hRt hc1 hc5 hE hEn hRl
      go_wp2
      have HB3 := Lib.hid (show Below w.heap.size w (w2.drewN nq) by have h := HB2.out; exact ⟨h.os, h.tape, h.output, h.size, h.block⟩)
      have hG : ∀ W W' : World, Below w.heap.size w W → Below W.heap.size W W' → Below w.heap.size w W' := fun W W' hW hb => hW.trans (hb.mono hW.size)
      refine region_by [(44, .is (.slice a len cap)), (45, .is (.int .i64 ((u : Int) + (n : Int)))), (46, .is (.int .i64 ((u : Int) + (n : Int) + 4))), (47, .is (.slice a1 4 c1)), (48, .is (.slice a len cap)), (49, .is (.int .i64 ((u : Int) + (n : Int)))), (50, .is (.slice a E cap)), (51, .row w.heap.size (sealF B)), (52, .is (.bool r)), (53, .is (.bool (!r)))] [0, 9, 10, 11, 53] (fun W => Below w.heap.size w W) (by kernel_rfl) (by kernel_rfl) (by kernel_rfl) (by kernel_rfl) (by kernel_rfl) (hG _ _ HB3.out (Below.refl _ _).drew) ?_ ?_
      · refine ⟨?a0, ?a1, ?a2, ?a3, ?a4, ?a5, ?a6, ?a7, ?a8, ?a9, trivial⟩
        case a0 => exact ask_copy (guard_none rfl) (.tmp 0) (.inl rfl) (by intro k hk; cases hk; rfl)
        case a1 => exact ask_copy (guard_none rfl) (.tmp 10) (.inl rfl) (by intro k hk; cases hk; rfl)
        case a2 => exact ask_copy (guard_none rfl) (.tmp 11) (.inl rfl) (by intro k hk; cases hk; rfl)
        case a3 => exact ask_slice (guard_none rfl) _ _ _ _ _ _ _ (some (.int .i64 ((u : Int) + (n : Int)))) (some (.int .i64 ((u : Int) + (n : Int) + 4))) none rfl rfl rfl rfl rfl (by intro k hk; cases hk; rfl) HS1.out
        case a4 => exact ask_copy (guard_none rfl) (.tmp 0) (.inl rfl) (by intro k hk; cases hk; rfl)
        case a5 => exact ask_copy (guard_none rfl) (.tmp 10) (.inl rfl) (by intro k hk; cases hk; rfl)
        case a6 => exact ask_slice (guard_none rfl) _ _ _ _ _ _ _ none (some (.int .i64 ((u : Int) + (n : Int)))) none rfl rfl rfl rfl rfl (by intro k hk; cases hk; rfl) HS2.out
        case a7 => exact ask_call hG (guard_none rfl) _ _ _ #[.slice a E cap] (.row w.heap.size (sealF B)) rfl (by kernel_rfl) rfl rfl (by intro k hk; cases hk; rfl) (fun W hW => (sumOf_any _ B W (HB.out.below (Nat.le_refl _) hW) (by have := HBl.out; omega) (HT.out.below (Nat.le_refl _) hW)).mono fun e w' h => by
          obtain ⟨v, h1, h2, h3⟩ := h
          exact ⟨v, h1, row_lower h2 hW.size, h3⟩)
        case a8 => exact ask_call_by hG (guard_none rfl) _ _ _ (.is (.bool r)) rfl (by kernel_rfl) (by intro k hk; cases hk; rfl) (fun x W hW hk => by
          have e1 : x 47 = .slice a1 4 c1 := hk 47 rfl
          have e2 : Row W w.heap.size (x 51) (sealF B) := hk 51 rfl
          show Calls _ _ #[x 47, x 51] W _
          rw [e1]
          exact (equal_any _ (x 51) S4 (sealF B) W (HS4.out.below (Nat.le_refl _) hW) e2.bys).mono fun e w' h => by
            obtain ⟨h1, rfl⟩ := h
            exact ⟨_, h1, by rw [Hr.out]; rfl, Below.refl _ _⟩)
        case a9 => exact ask_exec (guard_none rfl) (.bool (!r)) rfl rfl (by intro k hk; cases hk; rfl) (fun W hW => by kernel_rfl)
      intro a2 W2 hW2 hd2 hs2 hf2
      have t0 : a2.tmps.getD 0 undef = .slice a len cap := hf2 0 rfl
      have t9 : a2.tmps.getD 9 undef = .int .i64 (u : Int) := hf2 9 rfl
      have t10 : a2.tmps.getD 10 undef = .int .i64 ((u : Int) + (n : Int)) := hf2 10 rfl
      have t11 : a2.tmps.getD 11 undef = .int .i64 ((u : Int) + (n : Int) + 4) := hf2 11 rfl
      have t53 : a2.tmps.getD 53 undef = .bool (!r) := hf2 53 rfl
      obtain ⟨us, hus, ha'⟩ := act_open 60 a2 hs2 hd2
      rw [← hus] at t0 t9 t10 t11 t53
      have el : ((List.range 60).map us).toArray = #[us 0, us 1, us 2, us 3, us 4, us 5, us 6, us 7, us 8, us 9, us 10, us 11, us 12, us 13, us 14, us 15, us 16, us 17, us 18, us 19, us 20, us 21, us 22, us 23, us 24, us 25, us 26, us 27, us 28, us 29, us 30, us 31, us 32, us 33, us 34, us 35, us 36, us 37, us 38, us 39, us 40, us 41, us 42, us 43, us 44, us 45, us 46, us 47, us 48, us 49, us 50, us 51, us 52, us 53, us 54, us 55, us 56, us 57, us 58, us 59] := rfl
      rw [el] at ha'
      subst ha'
      rw [t0, t9, t10, t11, t53]
      clear hus t0 t9 t10 t11 t53 el hf2 hs2 hd2
      have HW := Lib.hid hW2
      clear hW2 hG
      have HClone := Lib.hid (fclone_any a5 n c5 Rt W2 (HRt.out.below (Nat.le_refl _) HW.out) (by have := HRl.out; omega))
      have hs5 := HS5.out W2
      cases r with
      | false =>
        go_wp2
        exact bodyPost_ret (v := .tuple #[.slice none 0 0, .int .i64 0, .int .i64 3]) (by simp [results, Tryd.results8, go_sem]) rfl ⟨HW.out, by rw [HFin.out]; rfl⟩
      | true =>
        go_wp2_with fail
        refine HClone.out.mono ?_
        rintro e w5 ⟨v, rfl, hrow, hb5⟩
        have HR5 := Lib.hid (row_lower hrow HW.out.size)
        have HB5 := Lib.hid (HW.out.trans (hb5.mono HW.out.size))
        clear hrow hb5 hs5
        go_wp2
        exact bodyPost_ret (v := .tuple #[v, .int .i64 ((u : Int) + (n : Int) + 4), .int .i64 0]) (by simp [results, Tryd.results8, go_sem]) rfl ⟨HB5.out, by rw [HFin.out]; exact ⟨v, by congr 5, HR5.out⟩⟩
end Go.Proofs.YthaggdkfaglgaaaDoor
