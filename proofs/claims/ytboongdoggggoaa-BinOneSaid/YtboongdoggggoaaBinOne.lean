/- BinOne: the walk. -/
import Derived.Test.YtboongdoggggoaaBinNew
import Derived.Test.YtboongdoggggoaaFacts
namespace Go.Proofs.Ytboongdoggggoaa
set_option maxRecDepth 20000
open Go.RowKit BinMath Reg

set_option maxHeartbeats 1000000 in
theorem one_walk (a : Option Addr) (len cap : Nat) (l : List UInt8) (w : World) (hv : Bys w (.slice a len cap) l) (hll : l.length ≤ 140737488351232) (hlc : len ≤ cap) (hcm : cap ≤ maxLen) :
    Calls Try.prog 5 #[.slice a len cap] w fun e w' => e = .returned (.bool true) ∧ Below w.heap.size w w' := by
  have HV := Lib.hid hv
  have HLen := Lib.hid (bys_cells hv).1
  have HCm := Lib.hid hcm
  clear hv hcm
  go_enter Try.func5, Try.ntmps5
  go_wp2_with fail
  refine (bawake_any _).mono ?_
  rintro e w1 ⟨rfl, hb1⟩
  have HV1 := Lib.hid (HV.out.below (Nat.le_refl _) hb1)
  have B1 := Lib.hid hb1
  clear hb1
  go_wp2_with fail
  refine (rnew_any a len cap l _ HV1.out hll).mono ?_
  rintro e w2 ⟨R, rfl, hR, hr, hb⟩
  have hRw : w.heap.size ≤ R := Nat.le_trans B1.out.size hR
  have B2 := Lib.hid (B1.out.trans (hb.mono B1.out.size))
  have hq := rdNum_any R l 0 0 w2 hr
  obtain ⟨n, c, k, hS⟩ : ∃ n c k, numS l 0 0 = (n, c, k) := ⟨_, _, _, rfl⟩
  rw [hS] at hq
  have HS := Lib.hid hS
  have HQ := Lib.hid hq
  clear hb hR hr hq hS
  go_wp2_with fail
  refine HQ.out.mono ?_
  rintro e w3 ⟨ho, rfl, hr⟩
  have HR3 := Lib.hid hr
  have B3 := Lib.hid (B2.out.trans (ho.below hRw B2.out.size))
  clear ho hr HQ
  by_cases hc : c = 0
  · have hc' : ((c : Int) != 0) = false := by subst hc; rfl
    have hf := HR3.out.facts
    obtain ⟨hnb, hback, -⟩ := numS_zero HS.out
    have hlen := HLen.out
    have hk7 : (len : Int) - ((l.length - k : Nat) : Int) = (k : Int) := by omega
    have HL := Lib.hid (left_any l k _ R w3 HR3.out)
    have HF := Lib.hid hf
    have HBack := Lib.hid (hback hc)
    have HLen2 := Lib.hid hlen
    have hkl : k ≤ len := by omega
    have hkw : wrap64 (k : Int) = (k : Int) := IntWalk.wrap64_in _ ⟨by omega, by omega⟩
    clear hf hback hlen
    go_wp2_with (go_at_call 22; refine HL.out.mono ?_; rintro e w4 ⟨rfl, q, hw4⟩; (have HW4 := Lib.hid hw4); clear hw4 HL)
    have B4 : Below w.heap.size w w4 := by rw [HW4.out]; exact ⟨B3.out.os, B3.out.tape, B3.out.output, B3.out.size, B3.out.block⟩
    have HV4 := HV.out.below (Nat.le_refl _) B4
    have hk : ∀ W, Below w4.heap.size w4 W → Bys W (.slice a k cap) (numL n) := fun W hW => by
      rw [HBack.out]
      exact (HV4.take k (by rw [← HLen2.out]; exact hkl)).below (Nat.le_refl _) hW
    have hG : ∀ W W' : World, Below w4.heap.size w4 W → Below W.heap.size W W' → Below w4.heap.size w4 W' := fun W W' h h' => h.trans (h'.mono h.size)
    rw [hkw]
    refine region_by [(42, .is (.int .i64 (k : Int))), (43, .is (.bool true)), (44, .is (.bool true)), (45, .is (.int .i64 (k : Int))), (46, .is (.slice a len cap)), (47, .is (.int .i64 (len : Int))), (48, .is (.bool true)), (49, .is (.bool true)), (50, .is (.bool true)), (51, .is (.int .u64 (n : Int))), (52, .bys (numL n)), (53, .is (.string ⟨(numL n).toArray⟩)), (54, .is (.slice a len cap)), (55, .is (.int .i64 (k : Int))), (56, .is (.slice a k cap)), (57, .is (.string ⟨(numL n).toArray⟩)), (58, .is (.bool true)), (59, .is (.bool true)), (2, .is (.bool true))] [2] (fun W => Below w4.heap.size w4 W) (by kernel_rfl) (by kernel_rfl) (by kernel_rfl) (by kernel_rfl) (by kernel_rfl) ((Below.refl _ _).drew) ?_ ?_
    · refine ⟨?a0, ?a1, ?a2, ?a3, ?a4, ?a5, ?a6, ?a7, ?a8, ?a9, ?a10, ?a11, ?a12, ?a13, ?a14, ?a15, ?a16, ?a17, ?a18, trivial⟩
      case a0 => exact ask_copy (guard_none rfl) (.tmp 7) (.inl rfl) (by intro k hk; cases hk; rfl)
      case a1 => exact ask_bin (guard_none rfl) _ _ _ _ _ _ _ _ rfl rfl rfl (by intro k hk; cases hk; rfl) (fun W => by simp [eqGuard, go_sem])
      case a2 => exact ask_copy (guard_none rfl) (.tmp 43) (.inl rfl) (by intro k hk; cases hk; rfl)
      case a3 => exact ask_copy (guard_some rfl rfl rfl) (.tmp 7) (.inl rfl) (by intro k hk; cases hk; rfl)
      case a4 => exact ask_copy (guard_some rfl rfl rfl) (.tmp 0) (.inl rfl) (by intro k hk; cases hk; rfl)
      case a5 => exact ask_len (guard_some rfl rfl rfl) _ _ a len cap rfl Try.underlying22 rfl (by intro k hk; cases hk; rfl)
      case a6 => exact ask_bin (guard_some rfl rfl rfl) _ _ _ _ _ _ _ _ rfl rfl rfl (by intro k hk; cases hk; rfl) (fun W => by simp [eqGuard, go_sem]; omega)
      case a7 => exact ask_pick (guard_none rfl) _ _ _ true rfl rfl (by intro k hk; cases hk; rfl)
      case a8 => exact ask_copy (guard_none rfl) (.tmp 49) (.inl rfl) (by intro k hk; cases hk; rfl)
      case a9 => exact ask_copy (guard_some rfl rfl rfl) (.tmp 4) (.inl rfl) (by intro k hk; cases hk; rfl)
      case a10 => exact ask_call hG (guard_some rfl rfl rfl) _ _ _ #[.int .u64 (n : Int)] (.bys (numL n)) rfl (by kernel_rfl) rfl rfl (by intro k hk; cases hk; rfl) (fun W hW => (num_any n W hnb).mono fun e w' ⟨v, h1, h2, h3⟩ => ⟨v, h1, h2.bys, h3⟩)
      case a11 => exact ask_string (guard_some rfl rfl rfl) _ (numL n) (.inl rfl) rfl (by intro k hk; cases hk; rfl)
      case a12 => exact ask_copy (guard_some rfl rfl rfl) (.tmp 0) (.inl rfl) (by intro k hk; cases hk; rfl)
      case a13 => exact ask_copy (guard_some rfl rfl rfl) (.tmp 7) (.inl rfl) (by intro k hk; cases hk; rfl)
      case a14 => exact ask_slice (guard_some rfl rfl rfl) _ _ _ _ _ _ _ none (some (.int .i64 (k : Int))) none rfl rfl rfl rfl rfl (by intro k hk; cases hk; rfl) (fun W => slice_to a len cap k (by omega) W)
      case a15 => exact ask_string_is (guard_some rfl rfl rfl) _ _ (numL n) rfl hk rfl (by intro k hk; cases hk; rfl)
      case a16 => exact ask_same (guard_some rfl rfl rfl) _ _ _ _ _ rfl rfl rfl (by intro k hk; cases hk; rfl)
      case a17 => exact ask_pick (guard_none rfl) _ _ _ true rfl rfl (by intro k hk; cases hk; rfl)
      case a18 => exact ask_copy (guard_none rfl) (.tmp 59) (.inr rfl) (by intro k hk; cases hk; rfl)
    · intro a' W hW hd hs hf
      have h4 : a'.tmps.getD 2 undef = .bool true := hf 2 rfl
      have hd0 : a'.defers = [] := hd
      go_wp2
      refine bodyPost_ret (v := .bool true) ?_ hd0 ⟨rfl, B4.trans (hW.mono B4.size)⟩
      rw [← h4]
      exact results_tmp rfl _ _ _
  · have hc' : ((c : Int) != 0) = true := by simp; omega
    obtain ⟨hnb, -, hz⟩ := numS_zero HS.out
    obtain ⟨rfl, rfl⟩ := hz hc
    have hend := rdEnd_any R l 0 c w3 HR3.out
    rw [show endS l 0 c = c from if_pos hc] at hend
    have HE := Lib.hid hend
    have hlen := HLen.out
    have hL7 : ((l.length - 0 : Nat) : Int) = (len : Int) := by omega
    have HL0 : ∀ w', IsRd w' R w2.heap.size l 0 c → Calls Try.prog 22 #[.pointer (some ⟨R, 0, none⟩)] w' fun e w'' => e = .returned (.int .i64 (len : Int)) ∧ ∃ n, w'' = w'.drewN n := fun w' h => by
      have := left_any l 0 c R w' h
      rw [hL7] at this
      exact this
    have HL := Lib.hid HL0
    clear hend hz hlen hL7 HL0 HLen
    go_wp2_with fail
    refine HE.out.mono ?_
    rintro e w4 ⟨rfl, hr, ho⟩
    have HR4 := Lib.hid hr
    have HO4 := Lib.hid ho
    clear hr ho
    go_wp2_with fail
    refine (HL.out _ HR4.out).mono ?_
    rintro e w5 ⟨rfl, q, rfl⟩
    go_wp2
    go_ret
    refine ⟨by simp, ?_⟩
    have := B3.out.trans (HO4.out.below hRw B3.out.size)
    exact ⟨this.os, this.tape, this.output, this.size, this.block⟩

/-- The walk at what came in. -/
theorem one_all (w : World) (a : Option Addr) (len cap : Nat) (z : List Int) (wz : IsRow .u8 w a len cap z) (sz : cap * 1 ≤ 140737488351232) :
    Calls Try.prog 5 #[.slice a len cap] w fun e w' => e = .returned (.bool true) ∧ Below w.heap.size w w' := by
  obtain ⟨l, hl, hb⟩ := wz.bys
  have hlc := wz.le
  exact one_walk a len cap l w hb (by omega) hlc (by unfold maxLen; omega)

end Go.Proofs.Ytboongdoggggoaa
