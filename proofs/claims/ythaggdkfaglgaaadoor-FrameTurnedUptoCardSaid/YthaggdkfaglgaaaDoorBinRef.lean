/- The reference's numbers and texts: the same bytes as the code's. -/
import Derived.Test.YthaggdkfaglgaaaDoorBinNum
import Derived.Laws.AppendOwnNone
namespace Go.Proofs.YthaggdkfaglgaaaDoor
set_option maxRecDepth 20000
open Go.RowKit BinMath

theorem cell_one (w : World) (x : Value) : ∀ (j : Nat) (u : Value), [x][j]? = some u → (w.alloc (.cells #[x] 5)).cell? ((⟨w.heap.size, 0, none⟩ : Addr).add j) = some u := by
  intro j u h
  cases j with
  | zero => simp at h; subst h; simp [Addr.add, World.cell?_alloc_at]
  | succ j => simp at h

set_option maxHeartbeats 1000000 in
set_option maxRecDepth 100000 in
theorem refnum_any (n : Nat) (w : World) (hn : n < 18446744073709551616) :
    Calls Tryd.prog 33 #[.int .u64 n] w fun e w' => ∃ v, e = .returned v ∧ Row w' w.heap.size v (numL n) ∧ Below w.heap.size w w' := by
  obtain ⟨i0, hi, hz0, hz1, hz2⟩ := info_parts info_byte
  go_enter Tryd.func33, Tryd.ntmps33
  go_wp2
  go_loopw [0, 3] (fun s0 s3 wr => ∃ j : Nat, j ≤ 8 ∧ s0 = .int .u64 ((n / 256 ^ j : Nat) : Int) ∧ (j ≠ 0 → 256 ^ (j - 1) ≤ n) ∧ wr.ownsRow w.heap.size 5 1 s3 j ((be j n).reverse.map bv) ∧ Below w.heap.size w wr) (fun s0 _ _ => (intOf s0).toNat)
  case atStart => exact ⟨0, by omega, by simp, by simp, World.ownsRow_nil _ _ _ _, Below.refl _ _⟩
  case round =>
    obtain ⟨j, hj, rfl, hlo, hown, hbel⟩ := hrel
    obtain ⟨q, hq⟩ : ∃ q, q = n / 256 ^ j := ⟨_, rfl⟩
    have hqb : q < 18446744073709551616 := by rw [hq]; exact Nat.lt_of_le_of_lt (Nat.div_le_self _ _) hn
    have HQ := Lib.hid hq
    rw [← hq]
    have HO := Lib.hid hown
    have HB := Lib.hid hbel
    have HL := Lib.hid hlo
    clear hq hown hbel hlo
    by_cases h0 : 0 < q
    · go_wp2_with (at_builtin; refine wpList_append_own _ rfl _ _ 22 rfl w.heap.size 5 i0 (.int .u8 0) 1 1 Tryd.underlying22 hi hz0 hz1 hz2 rfl (by decide) _ _ _ rfl (HO.out.alloc _) ⟨wr.heap.size, 0, none⟩ 1 1 [.int .u8 ((q % 256 : Nat) : Int)] rfl rfl (cell_one _ _) (by simp [Value.oneCell']) (by unfold maxLen; omega) (by omega) (by have := HB.out.size; simp; omega) ?_; intro v' w1 hown1 hgrow1 hnil1; (have HO1 := Lib.hid hown1); (have HG1 := Lib.hid hgrow1); clear hown1 hgrow1 hnil1)
      go_roundw
      case rel =>
        have hj7 : j + 1 ≤ 8 := by
          rcases Nat.lt_or_ge j 8 with h | h
          · omega
          · exfalso
            have e8 : (256 : Nat) ^ j = 256 ^ 8 := by rw [show j = 8 by omega]
            rw [HQ.out, e8, Nat.div_eq_of_lt (by have : (256 : Nat) ^ 8 = 18446744073709551616 := by decide
                                                 omega)] at h0
            omega
        refine ⟨j + 1, hj7, ?_, fun _ => ?_, ?_, ?_⟩
        · rw [← div_step, ← HQ.out]; try simp
        · rw [Nat.add_sub_cancel]
          have hp : 0 < 256 ^ j := Nat.pow_pos (by decide)
          have := Nat.div_add_mod n (256 ^ j)
          rw [← HQ.out] at this
          have h2 : 256 ^ j * 1 ≤ 256 ^ j * q := Nat.mul_le_mul_left _ h0
          omega
        · have h := HO1.out
          have e : (be (j + 1) n).reverse.map bv = (be j n).reverse.map bv ++ [.int .u8 ((q % 256 : Nat) : Int)] := by
            rw [be, ← HQ.out, List.reverse_cons, List.map_append, List.map_cons, bv_of, Nat.mod_mod]; rfl
          rw [e]
          simpa using h
        · refine Below.grown (HB.out.alloc HB.out.size _) HG1.out (by have := HB.out.size; simp; omega) (fun k hk => ?_)
          exact ((HO.out).lt k hk).1
      case measure =>
        simp [intOf]
        omega
    · have hj : nb n = j := by
        refine nb_unique n j hn ?_ HL.out
        have hp : 0 < 256 ^ j := Nat.pow_pos (by decide)
        have := Nat.div_add_mod n (256 ^ j)
        have h2 := Nat.mod_lt n hp
        rw [← HQ.out, show q = 0 by omega] at this
        omega
      have HJ := Lib.hid hj
      clear hj
      have hown := HO.out
      rcases hown.2 with ⟨rfl, rfl⟩ | ⟨g, cap, cur, rfl, hBg, hg, hjc, hcm, hcs, htk⟩
      · clear hown
        go_wp2
        refine wp_loop_rounds 1 ?_
        rw [rounds_succ]
        go_wp2
        go_ret
        have e : numL n = [UInt8.ofNat 0] := by unfold numL; rw [HJ.out]; rfl
        refine ⟨_, rfl, ?_, HB.out.alloc HB.out.size _⟩
        rw [e]
        exact World.ownsRow_lit wr #[bv (UInt8.ofNat 0)] 1 HB.out.size (by unfold maxLen; omega) rfl
      · obtain ⟨wo, rfl⟩ : ∃ wo : World, wo = wr := ⟨_, rfl⟩
        have hcell : ∀ i, i < j → wo.cell? ⟨g, i, none⟩ = some (bv ((be j n).reverse.getD i 0)) := fun i hij => by
          rw [hown.cellAt i (by omega)]
          simp [List.getD, be_length, hij]
        have hgs : g < wo.heap.size := (hown.lt g rfl).2
        have HC := Lib.hid hcell
        clear hown hcell htk hg
        go_wp2
        go_loopw [4, 5] (fun s4 s5 wx => ∃ i : Nat, i ≤ j ∧ s5 = .int .i64 ((i : Int) - 1) ∧ wx.ownsRow wo.heap.size 5 1 s4 (j - i + 1) (((numL n).take (j - i + 1)).map bv) ∧ Below wo.heap.size wo wx) (fun _ s5 _ => (intOf s5 + 1).toNat)
        case atStart =>
          refine ⟨j, Nat.le_refl _, rfl, ?_, (Below.refl _ _).alloc (Nat.le_refl _) _⟩
          rw [Nat.sub_self, numL, HJ.out]
          have h := World.ownsRow_lit (e := 5) (size := 1) wo #[.int .u8 (j : Int)] 1 (Nat.le_refl _) (by unfold maxLen; omega) rfl
          simpa [bv_of, Nat.mod_eq_of_lt (show j < 256 by omega)] using h
        case round =>
          obtain ⟨i, hij, rfl, hown2, hbel2⟩ := hrel
          have HO2 := Lib.hid hown2
          have HB2 := Lib.hid hbel2
          clear hown2 hbel2
          cases i with
          | zero =>
            go_wp2
            go_ret
            refine ⟨_, rfl, ?_, HB.out.trans (HB2.out.mono HB.out.size)⟩
            have h := HO2.out
            have e : (numL n).length = j + 1 := by rw [numL_length, HJ.out]
            rw [Nat.sub_zero, ← e, List.take_length] at h
            unfold Row
            exact ⟨h.1, h.2.imp id fun ⟨a, b, c, d, f, r⟩ => ⟨a, b, c, d, Nat.le_trans HB.out.size f, r⟩⟩
          | succ i =>
            have e : ((i + 1 : Nat) : Int) - 1 = (i : Int) := by omega
            rw [e]
            have hci : wr.cell? ⟨g, i, none⟩ = some (bv ((be j n).reverse.getD i 0)) := by rw [HB2.out.cell (p := ⟨g, i, none⟩) hgs]; exact HC.out i (by omega)
            obtain ⟨y, hx⟩ : ∃ y : Nat, Value.int .u8 (y : Int) = bv ((be j n).reverse.getD i 0) := ⟨_, rfl⟩
            rw [← hx] at hci
            have HX := Lib.hid hx
            clear e hx
            go_wp2_with (at_builtin; refine wpList_append_own _ rfl _ _ 22 rfl wo.heap.size 5 i0 (.int .u8 0) 1 1 Tryd.underlying22 hi hz0 hz1 hz2 rfl (by decide) _ _ _ rfl (HO2.out.alloc _) ⟨wr.heap.size, 0, none⟩ 1 1 [.int .u8 (y : Int)] rfl rfl (cell_one _ _) (by simp [Value.oneCell']) (by unfold maxLen; omega) (by omega) (by have := HB2.out.size; simp; omega) ?_; intro v' w1 hown1 hgrow1 hnil1; (have HO1 := Lib.hid hown1); (have HG1 := Lib.hid hgrow1); clear hown1 hgrow1 hnil1)
            go_roundw
            case rel =>
              refine ⟨i, by omega, rfl, ?_, ?_⟩
              · have h := HO1.out
                have e : ((numL n).take (j - i + 1)).map bv = ((numL n).take (j - (i + 1) + 1)).map bv ++ [.int .u8 (y : Int)] := by
                  rw [show j - i + 1 = j - (i + 1) + 1 + 1 by omega, List.take_succ_eq_append_getElem (by rw [numL_length, HJ.out]; omega), List.map_append, HX.out]
                  congr 2
                  simp only [numL, List.getElem_cons_succ, List.getD]
                  rw [List.getElem?_reverse (by rw [be_length]; omega)]
                  simp only [HJ.out, be_length]
                  rw [List.getElem?_eq_getElem (by rw [be_length]; omega)]
                  simp only [Option.getD_some, List.map_cons, List.map_nil]
                  congr 3
                  omega
                rw [e, show j - i + 1 = j - (i + 1) + 1 + 1 by omega]
                exact h
              · refine Below.grown (HB2.out.alloc HB2.out.size _) HG1.out (by have := HB2.out.size; simp; omega) (fun k hk => ?_)
                exact ((HO2.out).lt k hk).1
            case measure =>
              simp [intOf]
end Go.Proofs.YthaggdkfaglgaaaDoor
