/- Joined: BinNum, BinRef, BinRaw. -/
import Derived.Test.YtidapdooiibfnaaRows
import Derived.Test.YtidapdooiibfnaaHA
import Derived.Test.YtidapdooiibfnaaBinLen
import Derived.Test.YtidapdooiibfnaaHS
import Derived.WalkKit
import Derived.WalkSpells
import Derived.WalkLawsBesides
import Derived.Lib.Hide
import Derived.Laws.AppendOwnNone
import Derived.Lib.BufferRead
/- bin.Num: the bytes of a number, in new memory. -/
namespace Go.Proofs.Ytidapdooiibfnaa
set_option maxRecDepth 20000
open Go.RowKit BinMath

/-- Len64, its answer under a name. -/
theorem len64_named (n b : Nat) (w : World) (hn : n < 18446744073709551616) (hb : b = Lib.bitLen n) :
    Calls Try.prog 89 #[.int .u64 n] w fun e w' => e = .returned (.int .i64 b) ∧ w = w' := by
  subst hb
  exact (len64_any n w (by omega) (by omega)).mono fun _ _ ⟨h1, h2⟩ => ⟨by simpa using h1, h2.symm⟩

theorem made_bytes (m : Nat) : (madeCells (Value.int IntKind.u8 0).cells ((m + 1) * 1)).toList = .int .u8 0 :: List.replicate m (.int .u8 0) := by
  have h : ∀ k, (madeCells (Value.int IntKind.u8 0).cells k).toList = List.replicate k (.int .u8 0) := by
    intro k
    refine List.ext_getElem (by simp [madeCells]) fun j h1 h2 => ?_
    simp [madeCells, Value.cells, Nat.mod_one]
  rw [Nat.mul_one, h, List.replicate_succ]

/-- The row of the loop: the head, the places that are still 0, the bytes that are there. -/
def rowAt (m n i : Nat) : List Value := bv (UInt8.ofNat m) :: (List.replicate i (.int .u8 0) ++ (be (m - i) n).map bv)

theorem rowAt_step (m n i : Nat) (hi : i + 1 ≤ m) : (rowAt m n (i + 1)).set (i + 1) (.int .u8 ((n / 256 ^ (m - (i + 1)) % 256 : Nat) : Int)) = rowAt m n i := by
  unfold rowAt
  rw [set_rep]
  congr 2
  rw [show m - i = m - (i + 1) + 1 by omega, be, List.map_cons, bv_of, Nat.mod_mod]

theorem div_step (n k : Nat) : n / 256 ^ k / 256 = n / 256 ^ (k + 1) := by rw [Nat.div_div_eq_div_mul, Nat.pow_succ]

set_option maxHeartbeats 1000000 in
theorem num_any (n : Nat) (w : World) (hn : n < 18446744073709551616) :
    Calls Try.prog 85 #[.int .u64 n] w fun e w' => ∃ v, e = .returned v ∧ Row w' w.heap.size v (numL n) ∧ Below w.heap.size w w' := by
  obtain ⟨i0, hi, hz0, hz1, hz2⟩ := info_parts info_byte
  obtain ⟨b, hb⟩ : ∃ b, b = Lib.bitLen n := ⟨_, rfl⟩
  obtain ⟨m, hm⟩ : ∃ m, m = nb n := ⟨_, rfl⟩
  have hb64 : b ≤ 64 := by rw [hb]; exact Lib.bitLen_le n 64 (by omega) hn
  have hk8 : m ≤ 8 := by rw [hm]; exact nb_le n hn
  have hq : ((b : Int) + 7) / 8 = (m : Int) := by rw [hm, hb]; unfold nb; omega
  have HB := Lib.hid hb
  have HM := Lib.hid hm
  clear hb hm
  go_enter Try.func85, Try.ntmps85
  go_wp2_with (first | (go_at_call 89; refine (len64_named n b _ hn HB.out).mono ?_; rintro e w' ⟨rfl, rfl⟩) | (at_make; refine wpList_make_full _ rfl _ _ 25 rfl w.heap.size 5 i0 (.int .u8 0) 1 Try.underlying25 hi hz0 hz1 _ _ _ _ (m + 1) rfl rfl (by omega) (by omega) (by rw [hz2]; omega) (by unfold maxLen; omega) (Nat.le_refl _) ?_; intro w1 hown hgrow; (have hf0 := hown.frozenAt 0); (have hc0 := hown.cellAt 0 (by omega)); rw [made_bytes] at hown hc0; (have HO := Lib.hid hown); (have HG := Lib.hid hgrow); clear hown hgrow))
  clear hq
  go_loopw [0, 5] (fun s0 s5 wr => ∃ i : Nat, i ≤ m ∧ s5 = .int .i64 i ∧ s0 = .int .u64 ((n / 256 ^ (m - i) : Nat) : Int) ∧ wr.ownsRow w.heap.size 5 1 (.slice (some ⟨w.heap.size, 0, none⟩) (m + 1) (m + 1)) (m + 1) (rowAt m n i) ∧ Below w.heap.size w wr) (fun _ s5 _ => (intOf s5).toNat)
  case atStart =>
    refine ⟨m, Nat.le_refl _, rfl, by simp, ?_, ?_⟩
    · have h := (HO.out.stored 0 (.int .u8 (m : Int))).1
      unfold rowAt
      rw [bv_of, Nat.mod_eq_of_lt (by omega), Nat.sub_self]
      simpa [be] using h
    · exact ((Below.refl _ _).grown HG.out (Nat.le_refl _) (by simp)).setCell (by simp) _
  case round =>
    obtain ⟨i, hi', rfl, rfl, hown, hbel⟩ := hrel
    obtain ⟨q, hq⟩ : ∃ q, q = n / 256 ^ (m - i) := ⟨_, rfl⟩
    have HQ := Lib.hid hq
    rw [← hq]
    have HO2 := Lib.hid hown
    have HBe := Lib.hid hbel
    clear hf0 hc0 hq
    by_cases h0 : i = 0
    · subst h0
      clear hown hbel
      go_wp2
      go_ret
      refine ⟨_, rfl, ?_, HBe.out⟩
      have h := HO2.out
      unfold rowAt at h
      unfold Row
      rw [numL_length, ← HM.out]
      have e : numL n = UInt8.ofNat m :: be m n := by rw [numL, ← HM.out]
      rw [e]
      simpa using h
    · obtain ⟨j, rfl⟩ : ∃ j, i = j + 1 := ⟨i - 1, by omega⟩
      have hcj : ∃ u, wr.cell? ⟨w.heap.size, j + 1, none⟩ = some u := by
        have hl := hown.1
        rw [hown.cellAt (j + 1) (by omega), List.getElem?_eq_getElem (by omega)]
        exact ⟨_, rfl⟩
      obtain ⟨u, hcj⟩ := hcj
      have hfj := hown.frozenAt (j + 1)
      clear hown hbel h0
      go_wp2
      go_roundw
      case rel =>
        refine ⟨j, by omega, rfl, ?_, ?_, (HBe.out).setCell (by simp) _⟩
        · rw [show m - j = m - (j + 1) + 1 by omega, ← div_step, ← HQ.out]; simp
        · have h := (HO2.out.stored (j + 1) (.int .u8 ((q % 256 : Nat) : Int))).1
          rw [HQ.out, rowAt_step m n j hi', ← HQ.out] at h
          simpa using h
      case measure => simp [intOf]
end Go.Proofs.Ytidapdooiibfnaa

/- The reference's numbers and texts: the same bytes as the code's. -/
namespace Go.Proofs.Ytidapdooiibfnaa
set_option maxRecDepth 20000
open Go.RowKit BinMath

theorem cell_one (w : World) (x : Value) : ∀ (j : Nat) (u : Value), [x][j]? = some u → (w.alloc (.cells #[x] 5)).cell? ((⟨w.heap.size, 0, none⟩ : Addr).add j) = some u := by
  intro j u h
  cases j with
  | zero => simp at h; subst h; simp [Addr.add, World.cell?_alloc_at]
  | succ j => simp at h

set_option maxHeartbeats 1000000 in
set_option maxRecDepth 100000 in
theorem refnum_any (n : Nat) (w : World) (hn : n < 18446744073709551616) :
    Calls Try.prog 52 #[.int .u64 n] w fun e w' => ∃ v, e = .returned v ∧ Row w' w.heap.size v (numL n) ∧ Below w.heap.size w w' := by
  obtain ⟨i0, hi, hz0, hz1, hz2⟩ := info_parts info_byte
  go_enter Try.func52, Try.ntmps52
  go_wp2
  go_loopw [0, 3] (fun s0 s3 wr => ∃ j : Nat, j ≤ 8 ∧ s0 = .int .u64 ((n / 256 ^ j : Nat) : Int) ∧ (j ≠ 0 → 256 ^ (j - 1) ≤ n) ∧ wr.ownsRow w.heap.size 5 1 s3 j ((be j n).reverse.map bv) ∧ Below w.heap.size w wr) (fun s0 _ _ => (intOf s0).toNat)
  case atStart => exact ⟨0, by omega, by simp, by simp, World.ownsRow_nil _ _ _ _, Below.refl _ _⟩
  case round =>
    obtain ⟨j, hj, rfl, hlo, hown, hbel⟩ := hrel
    obtain ⟨q, hq⟩ : ∃ q, q = n / 256 ^ j := ⟨_, rfl⟩
    have hqb : q < 18446744073709551616 := by rw [hq]; exact Nat.lt_of_le_of_lt (Nat.div_le_self _ _) hn
    have HQ := Lib.hid hq
    rw [← hq]
    have HO := Lib.hid hown
    have HB := Lib.hid hbel
    have HL := Lib.hid hlo
    clear hq hown hbel hlo
    by_cases h0 : 0 < q
    · go_wp2_with (at_builtin; refine wpList_append_own _ rfl _ _ 25 rfl w.heap.size 5 i0 (.int .u8 0) 1 1 Try.underlying25 hi hz0 hz1 hz2 rfl (by decide) _ _ _ rfl (HO.out.alloc _) ⟨wr.heap.size, 0, none⟩ 1 1 [.int .u8 ((q % 256 : Nat) : Int)] rfl rfl (cell_one _ _) (by simp [Value.oneCell']) (by unfold maxLen; omega) (by omega) (by have := HB.out.size; simp; omega) ?_; intro v' w1 hown1 hgrow1 hnil1; (have HO1 := Lib.hid hown1); (have HG1 := Lib.hid hgrow1); clear hown1 hgrow1 hnil1)
      go_roundw
      case rel =>
        have hj7 : j + 1 ≤ 8 := by
          rcases Nat.lt_or_ge j 8 with h | h
          · omega
          · exfalso
            have e8 : (256 : Nat) ^ j = 256 ^ 8 := by rw [show j = 8 by omega]
            rw [HQ.out, e8, Nat.div_eq_of_lt (by have : (256 : Nat) ^ 8 = 18446744073709551616 := by decide
                                                 omega)] at h0
            omega
        refine ⟨j + 1, hj7, ?_, fun _ => ?_, ?_, ?_⟩
        · rw [← div_step, ← HQ.out]; try simp
        · rw [Nat.add_sub_cancel]
          have hp : 0 < 256 ^ j := Nat.pow_pos (by decide)
          have := Nat.div_add_mod n (256 ^ j)
          rw [← HQ.out] at this
          have h2 : 256 ^ j * 1 ≤ 256 ^ j * q := Nat.mul_le_mul_left _ h0
          omega
        · have h := HO1.out
          have e : (be (j + 1) n).reverse.map bv = (be j n).reverse.map bv ++ [.int .u8 ((q % 256 : Nat) : Int)] := by
            rw [be, ← HQ.out, List.reverse_cons, List.map_append, List.map_cons, bv_of, Nat.mod_mod]; rfl
          rw [e]
          simpa using h
        · refine Below.grown (HB.out.alloc HB.out.size _) HG1.out (by have := HB.out.size; simp; omega) (fun k hk => ?_)
          exact ((HO.out).lt k hk).1
      case measure =>
        simp [intOf]
        omega
    · have hj : nb n = j := by
        refine nb_unique n j hn ?_ HL.out
        have hp : 0 < 256 ^ j := Nat.pow_pos (by decide)
        have := Nat.div_add_mod n (256 ^ j)
        have h2 := Nat.mod_lt n hp
        rw [← HQ.out, show q = 0 by omega] at this
        omega
      have HJ := Lib.hid hj
      clear hj
      have hown := HO.out
      rcases hown.2 with ⟨rfl, rfl⟩ | ⟨g, cap, cur, rfl, hBg, hg, hjc, hcm, hcs, htk⟩
      · clear hown
        go_wp2
        refine wp_loop_rounds 1 ?_
        rw [rounds_succ]
        go_wp2
        go_ret
        have e : numL n = [UInt8.ofNat 0] := by unfold numL; rw [HJ.out]; rfl
        refine ⟨_, rfl, ?_, HB.out.alloc HB.out.size _⟩
        rw [e]
        exact World.ownsRow_lit wr #[bv (UInt8.ofNat 0)] 1 HB.out.size (by unfold maxLen; omega) rfl
      · obtain ⟨wo, rfl⟩ : ∃ wo : World, wo = wr := ⟨_, rfl⟩
        have hcell : ∀ i, i < j → wo.cell? ⟨g, i, none⟩ = some (bv ((be j n).reverse.getD i 0)) := fun i hij => by
          rw [hown.cellAt i (by omega)]
          simp [List.getD, be_length, hij]
        have hgs : g < wo.heap.size := (hown.lt g rfl).2
        have HC := Lib.hid hcell
        clear hown hcell htk hg
        go_wp2
        go_loopw [4, 5] (fun s4 s5 wx => ∃ i : Nat, i ≤ j ∧ s5 = .int .i64 ((i : Int) - 1) ∧ wx.ownsRow wo.heap.size 5 1 s4 (j - i + 1) (((numL n).take (j - i + 1)).map bv) ∧ Below wo.heap.size wo wx) (fun _ s5 _ => (intOf s5 + 1).toNat)
        case atStart =>
          refine ⟨j, Nat.le_refl _, rfl, ?_, (Below.refl _ _).alloc (Nat.le_refl _) _⟩
          rw [Nat.sub_self, numL, HJ.out]
          have h := World.ownsRow_lit (e := 5) (size := 1) wo #[.int .u8 (j : Int)] 1 (Nat.le_refl _) (by unfold maxLen; omega) rfl
          simpa [bv_of, Nat.mod_eq_of_lt (show j < 256 by omega)] using h
        case round =>
          obtain ⟨i, hij, rfl, hown2, hbel2⟩ := hrel
          have HO2 := Lib.hid hown2
          have HB2 := Lib.hid hbel2
          clear hown2 hbel2
          cases i with
          | zero =>
            go_wp2
            go_ret
            refine ⟨_, rfl, ?_, HB.out.trans (HB2.out.mono HB.out.size)⟩
            have h := HO2.out
            have e : (numL n).length = j + 1 := by rw [numL_length, HJ.out]
            rw [Nat.sub_zero, ← e, List.take_length] at h
            unfold Row
            exact ⟨h.1, h.2.imp id fun ⟨a, b, c, d, f, r⟩ => ⟨a, b, c, d, Nat.le_trans HB.out.size f, r⟩⟩
          | succ i =>
            have e : ((i + 1 : Nat) : Int) - 1 = (i : Int) := by omega
            rw [e]
            have hci : wr.cell? ⟨g, i, none⟩ = some (bv ((be j n).reverse.getD i 0)) := by rw [HB2.out.cell (p := ⟨g, i, none⟩) hgs]; exact HC.out i (by omega)
            obtain ⟨y, hx⟩ : ∃ y : Nat, Value.int .u8 (y : Int) = bv ((be j n).reverse.getD i 0) := ⟨_, rfl⟩
            rw [← hx] at hci
            have HX := Lib.hid hx
            clear e hx
            go_wp2_with (at_builtin; refine wpList_append_own _ rfl _ _ 25 rfl wo.heap.size 5 i0 (.int .u8 0) 1 1 Try.underlying25 hi hz0 hz1 hz2 rfl (by decide) _ _ _ rfl (HO2.out.alloc _) ⟨wr.heap.size, 0, none⟩ 1 1 [.int .u8 (y : Int)] rfl rfl (cell_one _ _) (by simp [Value.oneCell']) (by unfold maxLen; omega) (by omega) (by have := HB2.out.size; simp; omega) ?_; intro v' w1 hown1 hgrow1 hnil1; (have HO1 := Lib.hid hown1); (have HG1 := Lib.hid hgrow1); clear hown1 hgrow1 hnil1)
            go_roundw
            case rel =>
              refine ⟨i, by omega, rfl, ?_, ?_⟩
              · have h := HO1.out
                have e : ((numL n).take (j - i + 1)).map bv = ((numL n).take (j - (i + 1) + 1)).map bv ++ [.int .u8 (y : Int)] := by
                  rw [show j - i + 1 = j - (i + 1) + 1 + 1 by omega, List.take_succ_eq_append_getElem (by rw [numL_length, HJ.out]; omega), List.map_append, HX.out]
                  congr 2
                  simp only [numL, List.getElem_cons_succ, List.getD]
                  rw [List.getElem?_reverse (by rw [be_length]; omega)]
                  simp only [HJ.out, be_length]
                  rw [List.getElem?_eq_getElem (by rw [be_length]; omega)]
                  simp only [Option.getD_some, List.map_cons, List.map_nil]
                  congr 3
                  omega
                rw [e, show j - i + 1 = j - (i + 1) + 1 + 1 by omega]
                exact h
              · refine Below.grown (HB2.out.alloc HB2.out.size _) HG1.out (by have := HB2.out.size; simp; omega) (fun k hk => ?_)
                exact ((HO2.out).lt k hk).1
            case measure =>
              simp [intOf]
end Go.Proofs.Ytidapdooiibfnaa

/- bin.Raw and the reference's: the bytes of a text, in new memory. -/
namespace Go.Proofs.Ytidapdooiibfnaa
set_option maxRecDepth 20000
open Go.RowKit BinMath

def rawL (l : List UInt8) : List UInt8 := numL l.length ++ l

set_option maxHeartbeats 1000000 in
theorem raw_any (v : Value) (l : List UInt8) (w : World) (hv : Bys w v l) (hl : l.length ≤ 140737488351232) :
    Calls Try.prog 86 #[v] w fun e w' => ∃ v', e = .returned v' ∧ Row w' w.heap.size v' (rawL l) ∧ Below w.heap.size w w' := by
  obtain ⟨i0, hi, hz0, hz1, hz2⟩ := info_parts info_byte
  obtain ⟨n, hn⟩ : ∃ n, n = l.length := ⟨_, rfl⟩
  have hnb := nb_le n (by omega)
  have hlen := numL_length n
  rcases hv with ⟨rfl, rfl⟩ | ⟨ad, cap, rfl, hc⟩
  · simp at hn
    subst hn
    go_enter Try.func86, Try.ntmps86
    go_wp2_with fail
    refine (num_any 0 _ (by omega)).mono ?_
    rintro e w1 ⟨u, rfl, hrow, hb1⟩
    have HR := Lib.hid hrow
    have HB := Lib.hid hb1
    clear hrow hb1
    go_wp2_with (at_builtin; refine wpList_append_own_none rfl _ _ 25 rfl w.heap.size 5 i0 1 Try.underlying25 hi _ _ _ rfl HR.out rfl ?_)
    go_ret
    refine ⟨_, rfl, ?_, HB.out⟩
    simpa [rawL] using HR.out
  · rw [← hn]
    have HN := Lib.hid hn
    have HC := Lib.hid hc
    have hl' : n ≤ 140737488351232 := by omega
    clear hn hc hl
    go_enter Try.func86, Try.ntmps86
    go_wp2_with fail
    refine (num_any n _ (by omega)).mono ?_
    rintro e w1 ⟨u, rfl, hrow, hb1⟩
    have hc1 : ∀ i (h : i < l.length), w1.cell? (ad.add i) = some (bv l[i]) := fun i h => by rw [hb1.cell (World.block_lt_of_cell? w _ (HC.out i h))]; exact HC.out i h
    have HR := Lib.hid hrow
    have HB := Lib.hid hb1
    have HC1 := Lib.hid hc1
    clear hrow hb1 hc1
    go_wp2_with (at_builtin; refine wpList_append_own _ rfl _ _ 25 rfl w.heap.size 5 i0 (.int .u8 0) 1 1 Try.underlying25 hi hz0 hz1 hz2 rfl (by decide) _ _ _ rfl HR.out ad n cap (l.map bv) rfl (by rw [List.length_map, HN.out, Nat.mul_one]) (cells_bys HC1.out) (one_bv l) (by unfold maxLen; omega) (by omega) HB.out.size ?_; intro v' w2 hown2 hgrow2 hnil2; (have HO2 := Lib.hid hown2); (have HG2 := Lib.hid hgrow2); clear hown2 hgrow2 hnil2)
    go_ret
    refine ⟨_, rfl, ?_, HB.out.grown HG2.out HB.out.size fun k hk => (HR.out.lt k hk).1⟩
    have h := HO2.out
    unfold Row rawL
    rw [← HN.out, List.length_append, List.map_append, ← HN.out]
    exact h

set_option maxHeartbeats 1000000 in
theorem refraw_any (v : Value) (l : List UInt8) (w : World) (hv : Bys w v l) (hl : l.length ≤ 140737488351232) :
    Calls Try.prog 24 #[v] w fun e w' => ∃ v', e = .returned v' ∧ Row w' w.heap.size v' (rawL l) ∧ Below w.heap.size w w' := by
  obtain ⟨i0, hi, hz0, hz1, hz2⟩ := info_parts info_byte
  obtain ⟨n, hn⟩ : ∃ n, n = l.length := ⟨_, rfl⟩
  have hnb := nb_le n (by omega)
  have hlen := numL_length n
  rcases hv with ⟨rfl, rfl⟩ | ⟨ad, cap, rfl, hc⟩
  · simp at hn
    subst hn
    go_enter Try.func24, Try.ntmps24
    go_wp2_with fail
    refine (refnum_any 0 _ (by omega)).mono ?_
    rintro e w1 ⟨u, rfl, hrow, hb1⟩
    have HR := Lib.hid hrow
    have HB := Lib.hid hb1
    clear hrow hb1
    go_wp2_with (at_builtin; refine wpList_append_own_none rfl _ _ 25 rfl w.heap.size 5 i0 1 Try.underlying25 hi _ _ _ rfl HR.out rfl ?_)
    go_ret
    refine ⟨_, rfl, ?_, HB.out⟩
    simpa [rawL] using HR.out
  · rw [← hn]
    have HN := Lib.hid hn
    have HC := Lib.hid hc
    have hl' : n ≤ 140737488351232 := by omega
    clear hn hc hl
    go_enter Try.func24, Try.ntmps24
    go_wp2_with fail
    refine (refnum_any n _ (by omega)).mono ?_
    rintro e w1 ⟨u, rfl, hrow, hb1⟩
    have hc1 : ∀ i (h : i < l.length), w1.cell? (ad.add i) = some (bv l[i]) := fun i h => by rw [hb1.cell (World.block_lt_of_cell? w _ (HC.out i h))]; exact HC.out i h
    have HR := Lib.hid hrow
    have HB := Lib.hid hb1
    have HC1 := Lib.hid hc1
    clear hrow hb1 hc1
    go_wp2_with (at_builtin; refine wpList_append_own _ rfl _ _ 25 rfl w.heap.size 5 i0 (.int .u8 0) 1 1 Try.underlying25 hi hz0 hz1 hz2 rfl (by decide) _ _ _ rfl HR.out ad n cap (l.map bv) rfl (by rw [List.length_map, HN.out, Nat.mul_one]) (cells_bys HC1.out) (one_bv l) (by unfold maxLen; omega) (by omega) HB.out.size ?_; intro v' w2 hown2 hgrow2 hnil2; (have HO2 := Lib.hid hown2); (have HG2 := Lib.hid hgrow2); clear hown2 hgrow2 hnil2)
    go_ret
    refine ⟨_, rfl, ?_, HB.out.grown HG2.out HB.out.size fun k hk => (HR.out.lt k hk).1⟩
    have h := HO2.out
    unfold Row rawL
    rw [← HN.out, List.length_append, List.map_append, ← HN.out]
    exact h

end Go.Proofs.Ytidapdooiibfnaa

