/- EdgeBytes: the walk. -/
import Derived.Test.YtgfcllgkfehhfaaEdgeGet
import Derived.Test.YtgfcllgkfehhfaaEdgeAwake
import Derived.Test.YtgfcllgkfehhfaaEdgeRanks
import Derived.Test.YtgfcllgkfehhfaaFacts
import Derived.Deep.Cut
import Derived.BigQuiet
namespace Go.Proofs.Ytgfcllgkfehhfaa
open Go.RowKit EdgeMath BinMath Reg

theorem rk_canon (x : Nat) : rk (canon x) = rk x := by
  unfold canon
  split
  · rename_i h
    rw [h]
    rfl
  · rfl

theorem canon_lt (x : Nat) (hx : x < 18446744073709551616) : canon x < 18446744073709551616 := by
  unfold canon
  split <;> omega

theorem getR_put (x : Nat) (hx : x < 18446744073709551616) : getR (be 8 (canon x)) = (canon x, 0) := by
  have hc := canon_lt x hx
  have e : getV (be 8 (canon x)) = canon x := by
    unfold getV
    rw [getV_be]
    omega
  unfold getR
  rw [be_length, if_neg (by omega), if_neg (by omega), e, if_neg]
  rintro ⟨h1, h2⟩
  rw [rk_canon] at h1
  unfold canon at h2
  rw [if_pos h1] at h2
  exact h2 rfl

theorem getR_zero (l : List UInt8) (F : Nat) (h : getR l = (F, 0)) : be 8 (canon F) = l := by
  unfold getR at h
  split at h
  · cases h
  · split at h
    · cases h
    · split at h
      · cases h
      · rename_i h1 h2 h3
        obtain ⟨rfl, -⟩ := Prod.mk.inj h
        have e : canon (getV l) = getV l := by
          unfold canon
          split
          · rename_i h4
            by_cases h5 : getV l = 9221120237041090560
            · exact h5.symm
            · exact absurd ⟨h4, h5⟩ h3
          · rfl
        rw [e]
        have := be_getV l 0
        rw [show l.length = 8 by omega] at this
        exact this

theorem not_true_run {P : Program} (W : World) : (Op.unary .not (.bool true)).run P W = .ok (.bool false) W := rfl

theorem neq_str (s t : Operand) (X : ByteArray) (W : World) : (do eqGuard .neq 9 s t (.string X) (.string X); binOp .neq 9 (.string X) (.string X) : Sem Value).run Try.prog W = .ok (.bool false) W := by
  simp [eqGuard, go_sem]

theorem eql_str (s t : Operand) (X : ByteArray) (W : World) : (do eqGuard .eql 9 s t (.string X) (.string X); binOp .eql 9 (.string X) (.string X) : Sem Value).run Try.prog W = .ok (.bool true) W := by
  simp [eqGuard, go_sem]

theorem neq_err (s t : Operand) (a b : Int) (r : Bool) (h : (a != b) = r) (W : World) : (do eqGuard .neq 40 s t (.int .i64 a) (.int .i64 b); binOp .neq 40 (.int .i64 a) (.int .i64 b) : Sem Value).run Try.prog W = .ok (.bool r) W := by
  simp [eqGuard, go_sem, h]

theorem eql_err (s t : Operand) (a b : Int) (r : Bool) (h : (a == b) = r) (W : World) : (do eqGuard .eql 40 s t (.int .i64 a) (.int .i64 b); binOp .eql 40 (.int .i64 a) (.int .i64 b) : Sem Value).run Try.prog W = .ok (.bool r) W := by
  simp [eqGuard, go_sem, h]

set_option maxRecDepth 100000 in
set_option maxHeartbeats 1000000 in
theorem bytes_walk (x : Nat) (b : Option Addr) (nb cb : Nat) (l : List UInt8) (w : World) (hx : x < 18446744073709551616) (hb : Bys w (.slice b nb cb) l) (hl : l.length = nb) (hn : nb ≤ 140737488355328) :
    Calls Try.prog 7 #[.int .u64 x, .slice b nb cb] w fun e w' => e = .returned (.bool true) ∧ Below w.heap.size w w' := by
  obtain ⟨F, c, hr⟩ : ∃ F c, getR l = (F, c) := ⟨_, _, rfl⟩
  have hF : F < 18446744073709551616 := by have := getR_lt l; rw [hr] at this; exact this
  obtain ⟨y, hy⟩ : ∃ y, y = canon x := ⟨_, rfl⟩
  have hyb : y < 18446744073709551616 := by rw [hy]; exact canon_lt x hx
  obtain ⟨P, hP⟩ : ∃ P, P = be 8 y := ⟨_, rfl⟩
  have hPl : P.length = 8 := by rw [hP, be_length]
  have hPr : getR P = (y, 0) := by rw [hP, hy]; exact getR_put x hx
  have hyk : rk y = rk x := by rw [hy]; exact rk_canon x
  have HPe : Hid (P = be 8 (canon x)) := Lib.hid (by rw [hP, hy])
  have HPr := Lib.hid hPr
  have HPl := Lib.hid hPl
  have HR := Lib.hid hr
  have HX := Lib.hid hb
  have HYK := Lib.hid hyk
  clear hy hP hr hb hPr hPl hyk
  have hf := run_from
  go_enter Try.func7, Try.ntmps7
  go_wp2_with fail
  refine (awake_any _).mono ?_
  rintro e w1 ⟨rfl, hb1⟩
  have HX1 := Lib.hid (HX.out.below (Nat.le_refl _) hb1)
  have HB1 := Lib.hid hb1
  clear hb1
  go_wp2_with fail
  refine (put_any x _ hx).mono ?_
  rintro e w2 ⟨v6, rfl, hv, hb2⟩
  rw [← HPe.out] at hv
  have HX2 := Lib.hid (HX1.out.below (Nat.le_refl _) hb2)
  have HB2 := Lib.hid (HB1.out.trans (hb2.mono HB1.out.size))
  have HV := Lib.hid hv.bys
  clear hv hb2
  go_wp2_with fail
  refine (get_any _ l F c _ HX2.out (by omega) HR.out).mono ?_
  rintro e w' ⟨rfl, rfl⟩
  go_wp2_with fail
  refine (refget_any _ l F c _ HX2.out (by omega) HR.out).mono ?_
  rintro e w' ⟨rfl, rfl⟩
  clear hf
  go_upto_region 7 with fail
  have hG : ∀ W W' : World, (Bys W v6 P ∧ Bys W (.slice b nb cb) l ∧ Below w.heap.size w W) → Below W.heap.size W W' → (Bys W' v6 P ∧ Bys W' (.slice b nb cb) l ∧ Below w.heap.size w W') := fun W W' hW hb => by
    obtain ⟨h1, h2, h3⟩ := hW
    exact ⟨h1.below (Nat.le_refl _) hb, h2.below (Nat.le_refl _) hb, h3.trans (hb.mono h3.size)⟩
  refine region_by [(29, .is v6), (30, .is (.string ⟨P.toArray⟩)), (31, .is (.float .f64 x)), (32, .bys P), (33, .is (.string ⟨P.toArray⟩)), (34, .is (.bool false)), (35, .is (.bool false)), (36, .is (.float .f64 F)), (37, .is (.float .f64 F)), (38, .is (.bool true)), (39, .is (.bool false)), (40, .is (.bool false)), (41, .is (.bool false)), (42, .is (.int .i64 c)), (43, .is (.int .i64 c)), (44, .is (.bool false)), (45, .is (.bool false))] [1, 5, 6, 7, 8, 45] (fun W => Bys W v6 P ∧ Bys W (.slice b nb cb) l ∧ Below w.heap.size w W) (by kernel_rfl) (by kernel_rfl) (by kernel_rfl) (by kernel_rfl) (by kernel_rfl) (hG _ _ ⟨HV.out, HX2.out, HB2.out⟩ (Below.refl _ _).drew) ?_ ?_
  · refine ⟨?a0, ?a1, ?a2, ?a3, ?a4, ?a5, ?a6, ?a7, ?a8, ?a9, ?a10, ?a11, ?a12, ?a13, ?a14, ?a15, ?a16, trivial⟩
    case a0 => exact ask_copy (guard_none rfl) (.tmp 6) (.inl rfl) (by intro k hk; cases hk; rfl)
    case a1 => exact ask_string_is (guard_none rfl) (.tmp 29) v6 P rfl (fun W hW => hW.1) rfl (by intro k hk; cases hk; rfl)
    case a2 => exact ask_copy (guard_none rfl) (.tmp 5) (.inl rfl) (by intro k hk; cases hk; rfl)
    case a3 => exact ask_call hG (guard_none rfl) _ _ _ #[.float .f64 x] (.bys P) rfl (by kernel_rfl) rfl rfl (by intro k hk; cases hk; rfl) (fun W hW => (refput_any x W hx).mono fun e w' h => by obtain ⟨v, h1, h2, h3⟩ := h; rw [← HPe.out] at h2; exact ⟨v, h1, h2.bys, h3⟩)
    case a4 => exact ask_string (guard_none rfl) (.tmp 32) P (.inl rfl) rfl (by intro k hk; cases hk; rfl)
    case a5 => exact ask_bin (guard_none rfl) _ _ _ _ _ _ _ _ rfl rfl rfl (by intro k hk; cases hk; rfl) (neq_str _ _ _)
    case a6 => exact ask_copy (guard_none rfl) (.tmp 34) (.inl rfl) (by intro k hk; cases hk; rfl)
    case a7 => exact ask_copy (guard_some rfl rfl rfl) (.tmp 7) (.inl rfl) (by intro k hk; cases hk; rfl)
    case a8 => exact ask_copy (guard_some rfl rfl rfl) (.tmp 9) (.inl rfl) (by intro k hk; cases hk; rfl)
    case a9 => exact ask_call hG (guard_some rfl rfl rfl) _ _ _ #[.float .f64 F, .float .f64 F] (.is (.bool true)) rfl (by kernel_rfl) rfl rfl (by intro k hk; cases hk; rfl) (fun W hW => (same_true F F W hF hF rfl).mono fun e w' h => by obtain ⟨h1, h2⟩ := h; subst h2; exact ⟨_, h1, rfl, Below.refl _ _⟩)
    case a10 => exact ask_exec (guard_some rfl rfl rfl) (.bool false) rfl rfl (by intro k hk; cases hk; rfl) (fun W hW => by kernel_rfl)
    case a11 => exact ask_pick (guard_none rfl) (.tmp 35) _ _ false rfl rfl (by intro k hk; cases hk; rfl)
    case a12 => exact ask_copy (guard_none rfl) (.tmp 40) (.inl rfl) (by intro k hk; cases hk; rfl)
    case a13 => exact ask_copy (guard_some rfl rfl rfl) (.tmp 8) (.inl rfl) (by intro k hk; cases hk; rfl)
    case a14 => exact ask_copy (guard_some rfl rfl rfl) (.tmp 10) (.inl rfl) (by intro k hk; cases hk; rfl)
    case a15 => exact ask_bin (guard_some rfl rfl rfl) _ _ _ _ _ _ _ _ rfl rfl rfl (by intro k hk; cases hk; rfl) (neq_err _ _ _ _ false (by simp))
    case a16 => exact ask_pick (guard_none rfl) (.tmp 41) _ _ false rfl rfl (by intro k hk; cases hk; rfl)
  · intro a' W1 hW1 hd1 hs1 hf1
    have t1 : a'.tmps.getD 1 undef = .slice b nb cb := hf1 1 rfl
    have t5 : a'.tmps.getD 5 undef = .float .f64 x := hf1 5 rfl
    have t6 : a'.tmps.getD 6 undef = v6 := hf1 6 rfl
    have t7 : a'.tmps.getD 7 undef = .float .f64 F := hf1 7 rfl
    have t8 : a'.tmps.getD 8 undef = .int .i64 c := hf1 8 rfl
    have t45 : a'.tmps.getD 45 undef = .bool false := hf1 45 rfl
    obtain ⟨us, hus, ha'⟩ := act_open 70 a' hs1 hd1
    rw [← hus] at t1 t5 t6 t7 t8 t45
    have el : ((List.range 70).map us).toArray = #[us 0, us 1, us 2, us 3, us 4, us 5, us 6, us 7, us 8, us 9, us 10, us 11, us 12, us 13, us 14, us 15, us 16, us 17, us 18, us 19, us 20, us 21, us 22, us 23, us 24, us 25, us 26, us 27, us 28, us 29, us 30, us 31, us 32, us 33, us 34, us 35, us 36, us 37, us 38, us 39, us 40, us 41, us 42, us 43, us 44, us 45, us 46, us 47, us 48, us 49, us 50, us 51, us 52, us 53, us 54, us 55, us 56, us 57, us 58, us 59, us 60, us 61, us 62, us 63, us 64, us 65, us 66, us 67, us 68, us 69] := rfl
    rw [el] at ha'
    subst ha'
    rw [t1, t5, t6, t7, t8, t45]
    clear hus t1 t5 t6 t7 t8 t45 el hf1 hs1 hd1
    obtain ⟨h1, h2, h3⟩ := hW1
    have H1 := Lib.hid h1
    have H2 := Lib.hid h2
    have H3 := Lib.hid h3
    clear h1 h2 h3
    have HG := Lib.hid hG
    clear hG
    go_wp2_with fail
    refine (get_any _ P y 0 _ H1.out (by rw [HPl.out]; omega) HPr.out).mono ?_
    rintro e w' ⟨rfl, rfl⟩
    go_upto_region 10 with fail
    by_cases hc : c = 0
    · subst hc
      have hlP : be 8 (canon F) = l := getR_zero l F HR.out
      have HlP := Lib.hid hlP
      clear hlP
      refine region_by [(51, .is (.int .i64 0)), (52, .is (.bool true)), (53, .is (.bool true)), (54, .is (.float .f64 y)), (55, .is (.float .f64 x)), (56, .is (.bool true)), (57, .is (.bool true)), (58, .is (.bool true)), (59, .is (.int .i64 0)), (60, .is (.bool false)), (61, .is (.bool false)), (62, .is (.float .f64 F)), (63, .bys l), (64, .is (.string ⟨l.toArray⟩)), (65, .is (.slice b nb cb)), (66, .is (.string ⟨l.toArray⟩)), (67, .is (.bool true)), (68, .is (.bool true)), (69, .is (.bool true)), (4, .is (.bool true))] [4] (fun W => Bys W v6 P ∧ Bys W (.slice b nb cb) l ∧ Below w.heap.size w W) (by kernel_rfl) (by kernel_rfl) (by kernel_rfl) (by kernel_rfl) (by kernel_rfl) (HG.out _ _ ⟨H1.out, H2.out, H3.out⟩ (Below.refl _ _).drew) ?_ ?_
      · refine ⟨?b0, ?b1, ?b2, ?b3, ?b4, ?b5, ?b6, ?b7, ?b8, ?b9, ?b10, ?b11, ?b12, ?b13, ?b14, ?b15, ?b16, ?b17, ?b18, ?b19, trivial⟩
        case b0 => exact ask_copy (guard_none rfl) (.tmp 12) (.inl rfl) (by intro k hk; cases hk; rfl)
        case b1 => exact ask_bin (guard_none rfl) _ _ _ _ _ _ _ _ rfl rfl rfl (by intro k hk; cases hk; rfl) (eql_err _ _ _ _ true (by simp))
        case b2 => exact ask_copy (guard_none rfl) (.tmp 52) (.inl rfl) (by intro k hk; cases hk; rfl)
        case b3 => exact ask_copy (guard_some rfl rfl rfl) (.tmp 11) (.inl rfl) (by intro k hk; cases hk; rfl)
        case b4 => exact ask_copy (guard_some rfl rfl rfl) (.tmp 5) (.inl rfl) (by intro k hk; cases hk; rfl)
        case b5 => exact ask_call HG.out (guard_some rfl rfl rfl) _ _ _ #[.float .f64 y, .float .f64 x] (.is (.bool true)) rfl (by kernel_rfl) rfl rfl (by intro k hk; cases hk; rfl) (fun W hW => (same_true y x W hyb hx HYK.out).mono fun e w' h => by obtain ⟨h1, h2⟩ := h; subst h2; exact ⟨_, h1, rfl, Below.refl _ _⟩)
        case b6 => exact ask_pick (guard_none rfl) (.tmp 53) _ _ true rfl rfl (by intro k hk; cases hk; rfl)
        case b7 => exact ask_copy (guard_none rfl) (.tmp 57) (.inl rfl) (by intro k hk; cases hk; rfl)
        case b8 => exact ask_copy (guard_some rfl rfl rfl) (.tmp 8) (.inl rfl) (by intro k hk; cases hk; rfl)
        case b9 => exact ask_bin (guard_some rfl rfl rfl) _ _ _ _ _ _ _ _ rfl rfl rfl (by intro k hk; cases hk; rfl) (neq_err _ _ _ _ false (by simp))
        case b10 => exact ask_copy (guard_some rfl rfl rfl) (.tmp 60) (.inl rfl) (by intro k hk; cases hk; rfl)
        case b11 => exact ask_copy (guard_some rfl rfl rfl) (.tmp 7) (.inl rfl) (by intro k hk; cases hk; rfl)
        case b12 => exact ask_call HG.out (guard_some rfl rfl rfl) _ _ _ #[.float .f64 F] (.bys l) rfl (by kernel_rfl) rfl rfl (by intro k hk; cases hk; rfl) (fun W hW => (put_any F W hF).mono fun e w' h => by obtain ⟨v, h1, h2, h3⟩ := h; rw [HlP.out] at h2; exact ⟨v, h1, h2.bys, h3⟩)
        case b13 => exact ask_string (guard_some rfl rfl rfl) (.tmp 63) l (.inl rfl) rfl (by intro k hk; cases hk; rfl)
        case b14 => exact ask_copy (guard_some rfl rfl rfl) (.tmp 1) (.inl rfl) (by intro k hk; cases hk; rfl)
        case b15 => exact ask_string_is (guard_some rfl rfl rfl) (.tmp 65) (.slice b nb cb) l rfl (fun W hW => hW.2.1) rfl (by intro k hk; cases hk; rfl)
        case b16 => exact ask_bin (guard_some rfl rfl rfl) _ _ _ _ _ _ _ _ rfl rfl rfl (by intro k hk; cases hk; rfl) (eql_str _ _ _)
        case b17 => exact ask_pick (guard_some rfl rfl rfl) (.tmp 61) _ _ false rfl rfl (by intro k hk; cases hk; rfl)
        case b18 => exact ask_pick (guard_none rfl) (.tmp 58) _ _ true rfl rfl (by intro k hk; cases hk; rfl)
        case b19 => exact ask_copy (guard_none rfl) (.tmp 69) (.inr rfl) (by intro k hk; cases hk; rfl)
      · intro a' W2 hW2 hd2 hs2 hf2
        have h4 : a'.tmps.getD 4 undef = .bool true := hf2 4 rfl
        have hd0 : a'.defers = [] := hd2
        go_wp2
        refine bodyPost_ret (v := .bool true) ?_ hd0 ⟨rfl, hW2.2.2⟩
        rw [← h4]
        exact results_tmp rfl _ _ _
    · have hcn : ((c : Int) != 0) = true := by simp; omega
      have k1 : Hid (∀ N, Calls Try.prog 16 #[.float .f64 y, .float .f64 x] (W1.drewN N) fun e w' => e = .returned (.bool true) ∧ ∃ m, w' = W1.drewN m) := fun N =>
        (same_true y x (W1.drewN N) hyb hx HYK.out).mono fun e w' ⟨h1, h2⟩ => ⟨h1, N, h2.symm⟩
      clear hc hx hyb hF
      go_quiet (first | with_reducible exact k1.out _)
      go_wp2
      go_ret
      have hB := H3.out
      exact ⟨rfl, ⟨hB.os, hB.tape, hB.output, hB.size, hB.block⟩⟩

theorem bytes_all (w : World) (a : Int) (wa : (Lit.int .u64 a).wf = true) (b : Option Addr) (nb cb : Nat) (z : List Int) (hz : IsRow .u8 w b nb cb z) (sz : cb * 1 ≤ 140737488351232) :
    Calls Try.prog 7 #[.int .u64 a, .slice b nb cb] w fun e w' => e = .returned (.bool true) ∧ Below w.heap.size w w' := by
  obtain ⟨x, rfl, hx⟩ := nat_u64 a wa
  obtain ⟨l, hl, hb⟩ := hz.bys
  have hle := hz.le
  exact bytes_walk x b nb cb l w hx hb hl (by omega)

end Go.Proofs.Ytgfcllgkfehhfaa
