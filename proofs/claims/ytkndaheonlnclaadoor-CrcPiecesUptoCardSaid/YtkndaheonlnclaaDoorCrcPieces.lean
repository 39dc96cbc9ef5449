/- CrcPieces: the walk. -/
import Derived.Test.YtkndaheonlnclaaDoorCrcThree
import Derived.Test.YtkndaheonlnclaaDoorTexts
namespace Go.Proofs.YtkndaheonlnclaaDoor
open Go.RowKit CrcMath

/-- The first i texts, one behind the other; what is left of them. -/
def cat (T : List (List UInt8)) (i : Nat) : List UInt8 := (T.take i).flatten
def tail (T : List (List UInt8)) (i : Nat) : List UInt8 := (T.drop i).flatten

theorem cat_snoc (T : List (List UInt8)) (i : Nat) (t : List UInt8) (h : T[i]? = some t) : cat T (i + 1) = cat T i ++ t := by
  obtain ⟨hi, rfl⟩ := List.getElem?_eq_some_iff.1 h
  unfold cat
  rw [List.take_succ_eq_append_getElem hi, List.flatten_append]
  simp only [List.flatten_cons, List.flatten_nil, List.append_nil]

theorem tail_cons (T : List (List UInt8)) (i : Nat) (t : List UInt8) (h : T[i]? = some t) : tail T i = t ++ tail T (i + 1) := by
  obtain ⟨hi, rfl⟩ := List.getElem?_eq_some_iff.1 h
  unfold tail
  rw [List.drop_eq_getElem_cons hi, List.flatten_cons]

theorem flatten_le (m : Nat) : ∀ T : List (List UInt8), (∀ t ∈ T, t.length ≤ m) → T.flatten.length ≤ T.length * m
  | [], _ => by simp
  | t :: T, h => by
    have h1 := h t (by simp)
    have h2 := flatten_le m T fun u hu => h u (by simp [hu])
    simp only [List.flatten_cons, List.length_append, List.length_cons, Nat.add_mul, Nat.one_mul]
    omega

theorem texts_le {w : World} {a : Option Addr} {T : List (List UInt8)} (h : TextsAt w a T) : ∀ t ∈ T, t.length ≤ 1048576 := fun t ht => by
  obtain ⟨i, hi⟩ := List.mem_iff_getElem?.1 ht
  exact (h i t hi).1

theorem cat_le {w : World} {a : Option Addr} {T : List (List UInt8)} (h : TextsAt w a T) (hT : T.length ≤ 200) (i : Nat) : (cat T i).length ≤ 209715200 := by
  have h1 := flatten_le 1048576 (T.take i) fun t ht => texts_le h t (List.mem_of_mem_take ht)
  have h2 : (T.take i).length ≤ 200 := by rw [List.length_take]; omega
  have h3 : (T.take i).length * 1048576 ≤ 200 * 1048576 := Nat.mul_le_mul_right _ h2
  unfold cat
  omega

theorem tail_le {w : World} {a : Option Addr} {T : List (List UInt8)} (h : TextsAt w a T) (hT : T.length ≤ 200) (i : Nat) : (tail T i).length ≤ 209715200 := by
  have h1 := flatten_le 1048576 (T.drop i) fun t ht => texts_le h t (List.mem_of_mem_drop ht)
  have h2 : (T.drop i).length ≤ 200 := by rw [List.length_drop]; omega
  have h3 : (T.drop i).length * 1048576 ≤ 200 * 1048576 := Nat.mul_le_mul_right _ h2
  unfold tail
  omega

theorem TextsAt.take {w : World} {a : Option Addr} {T : List (List UInt8)} (h : TextsAt w a T) (k : Nat) : TextsAt w a (T.take k) := fun i t hi => by
  have hik : i < k := by
    have := (List.getElem?_eq_some_iff.1 hi).1
    rw [List.length_take] at this
    omega
  rw [List.getElem?_take_of_lt hik] at hi
  exact h i t hi

theorem elem_texts : Tryd.prog.elem 31 = 22 := by kernel_rfl
theorem size_text (w : World) : (Go.sizeOf 22).run Tryd.prog w = .ok 1 w := by kernel_rfl

/-- 'list[:200]'. -/
theorem slice_texts (a : Option Addr) (n c : Nat) (hk : 200 ≤ c) (W : World) : (Instr.sliceAt 31 (.slice a n c) none (some (.int .i64 200)) none).run Tryd.prog W = .ok (.slice a 200 c) W := by
  have ht : Tryd.prog.underlying 31 = some (.slice (Tryd.prog.elem 31)) := by rw [elem_texts]; exact Tryd.underlying31
  rw [run_sliceAt_slice _ _ _ _ _ _ ht, run_slice_h _ _ _ _ _ ht .i64 (200 : Int) (by omega) (by omega), elem_texts, size_text]
  cases a with
  | none => simp [Result.andThen, sliced]
  | some ad => simp [Result.andThen, sliced, Addr.add]

/-- The loops. -/
def LeftAt (B : Nat) (w0 : World) (T : List (List UInt8)) (s3 s4 s5 s6 : Value) (wr : World) : Prop :=
  ∃ i : Nat, i ≤ T.length ∧ s6 = .int .i64 i ∧ Row wr B s3 (cat T i) ∧ s4 = .int .u32 (rv (sum (cat T i))) ∧ s5 = .int .u32 (rv (sum (cat T i))) ∧ Below B w0 wr
def RightAt (T : List (List UInt8)) (s7 s8 s9 : Value) : Prop :=
  ∃ j : Nat, j ≤ T.length ∧ s9 = .int .i64 ((j : Int) - 1) ∧ s7 = .int .u32 (rv (sum (tail T j))) ∧ s8 = .int .u64 ((tail T j).length : Int)

theorem zero_sum : (0 : Int) = rv (sum []) := by decide +kernel

set_option maxRecDepth 100000 in
set_option maxHeartbeats 2000000 in
theorem pieces_walk (a : Option Addr) (len cap : Nat) (T0 : List (List UInt8)) (w : World) (hT : TextsAt w a T0) (hl : T0.length = len) (hlc : len ≤ cap) (hl0 : len ≤ 1048576) (ht : Tab w) :
    Calls Tryd.prog 5 #[.slice a len cap] w fun e w' => e = .returned (.bool true) ∧ Below w.heap.size w w' := by
  have HT := Lib.hid ht
  clear ht
  obtain ⟨n, T, hn, hT1, hTn⟩ : ∃ (n : Nat) (T : List (List UInt8)), (200 < len ∧ (∀ W, (Instr.sliceAt 31 (.slice a len cap) none (some (.int .i64 200)) none).run Tryd.prog W = .ok (.slice a n cap) W) ∧ n ≤ 200 ∨ ¬ 200 < len ∧ n = len) ∧ TextsAt w a T ∧ T.length = n := by
    by_cases h : 200 < len
    · exact ⟨200, T0.take 200, .inl ⟨h, fun W => slice_texts a len cap (by omega) W, Nat.le_refl _⟩, hT.take 200, by rw [List.length_take]; omega⟩
    · exact ⟨len, T0, .inr ⟨h, rfl⟩, hT, hl⟩
  have hn200 : n ≤ 200 := by omega
  have HA := Lib.hid hT1
  have HTn := Lib.hid hTn
  clear hT hT1 hTn hl
  rcases hn with ⟨h200, hs, -⟩ | ⟨h200, rfl⟩
  all_goals
    go_enter Tryd.func5, Tryd.ntmps5
    go_wp2_with fail
    refine (awake_any _ HT.out).mono ?_
    rintro e w1 ⟨rfl, hb1⟩
    have HA1 := Lib.hid (HA.out.below (hb1.mono (Nat.le_refl _)))
    have HT1 := Lib.hid (HT.out.below (Nat.le_refl _) hb1)
    have B1 := Lib.hid hb1
    clear hb1
    go_wp2_with fail
    refine (sum_any _ [] _ (.inl ⟨rfl, rfl⟩) (by decide) HT1.out).mono ?_
    rintro e w' ⟨rfl, rfl⟩
    go_wp2
    try clear hs
    go_loopw [3, 4, 5, 6] (fun s3 s4 s5 s6 wr => LeftAt w.heap.size w T s3 s4 s5 s6 wr) (fun _ _ _ s6 _ => n - (intOf s6).toNat)
    case atStart => exact ⟨0, Nat.zero_le _, rfl, World.ownsRow_nil _ _ _ _, rfl, by rw [zero_sum]; rfl, B1.out⟩
    case round =>
      obtain ⟨i, hi, rfl, hrow, rfl, rfl, hbel⟩ := hrel
      have hin : i ≤ n := by have := HTn.out; omega
      have HR := Lib.hid hrow
      have HBe := Lib.hid hbel
      obtain ⟨rl, hrl⟩ : ∃ r, r = sum (cat T i) := ⟨_, rfl⟩
      rw [← hrl]
      have HL := Lib.hid hrl
      clear hi hrow hbel hrl
      by_cases hlt : i < n
      · obtain ⟨t, hti⟩ : ∃ t, T[i]? = some t := ⟨T[i]'(by have := HTn.out; omega), List.getElem?_eq_getElem _⟩
        obtain ⟨htl, ad, A, C, rfl, hc0, hx0⟩ := HA.out i t hti
        have hlt0 := World.block_lt_of_cell? w _ hc0
        have cells : ∀ W, Below w.heap.size w W → W.cell? (ad.add i) = some (.slice A t.length C) := fun W hW => by rw [hW.cell hlt0]; exact hc0
        have bys : ∀ W, Below w.heap.size w W → Bys W (.slice A t.length C) t := fun W hW => hx0.below (Nat.le_refl _) hW
        have hcl := cat_le HA.out (by have := HTn.out; omega) i
        have A1 := Lib.hid (grow_row (B := w.heap.size) HBe.out.size HR.out (bys _ HBe.out) (by omega) HBe.out)
        obtain ⟨m, hm⟩ : ∃ m, m = t.length := ⟨_, rfl⟩
        obtain ⟨rt, hrt⟩ : ∃ r, r = sum t := ⟨_, rfl⟩
        obtain ⟨r2, hr2⟩ : ∃ r, r = sum (cat T (i + 1)) := ⟨_, rfl⟩
        have hj : join rl rt m = r2 := by rw [HL.out, hrt, hm, join_sum, hr2, cat_snoc T i t hti]
        have hmo : more rl t = r2 := by rw [HL.out, more_sum, hr2, cat_snoc T i t hti]
        have hcc : cat T (i + 1) = cat T i ++ t := cat_snoc T i t hti
        have hct := cells _ HBe.out
        rw [← hm] at hct htl A1
        have HCells := Lib.hid cells
        have HBys := Lib.hid bys
        have HM := Lib.hid hm
        have HRT := Lib.hid hrt
        have HR2 := Lib.hid hr2
        have HJ := Lib.hid hj
        have HMo := Lib.hid hmo
        have HCC := Lib.hid hcc
        have i0 : (0 : Int) ≤ (i : Int) := Int.natCast_nonneg _
        have i1 : (i : Int) < (n : Int) := by omega
        clear hti hc0 hx0 cells bys hm hrt hr2 hj hmo hcc hlt0
        go_wp2_with (at_builtin; refine wpList_append_by rfl (.tmp 24) (.tmp 28) 22 rfl _ _ rfl rfl _ A1.out ?_)
        rintro v29 w2 hr29 hb29
        have HR29 := Lib.hid hr29
        have hct2 := HCells.out w2 hb29
        have HB29 := Lib.hid hb29
        have HT2 := Lib.hid (HT.out.below (Nat.le_refl _) hb29)
        rw [← HM.out] at hct2
        have k1 : Hid (∀ N, Calls Tryd.prog 10 #[.slice A m C] (w2.drewN N) fun e w' => e = .returned (.int .u32 (rv rt)) ∧ ∃ q, w' = w2.drewN q) := fun N => by
          have h := sum_any (.slice A t.length C) t (w2.drewN N) (HBys.out w2 HB29.out) (by have := HM.out; omega) HT2.out
          rw [← HM.out, ← HRT.out] at h
          exact h.mono fun e w' ⟨h1, h2⟩ => ⟨h1, N, h2.symm⟩
        have k2 : Hid (∀ N, Calls Tryd.prog 14 #[.int .u32 (rv rl), .int .u32 (rv rt), .int .u64 (m : Int)] (w2.drewN N) fun e w' => e = .returned (.int .u32 (rv r2)) ∧ ∃ q, w' = w2.drewN q) := fun N => by
          have h := join_any rl rt m (w2.drewN N) (by omega)
          rw [HJ.out] at h
          exact h.mono fun e w' ⟨h1, h2⟩ => ⟨h1, N, h2.symm⟩
        clear hr29 hb29 hct
        have k3 : Hid (∀ N, Calls Tryd.prog 12 #[.int .u32 (rv rl), .slice A m C] (w2.drewN N) fun e w' => e = .returned (.int .u32 (rv r2)) ∧ w2.drewN N = w') := fun N => by
          have h := more_any rl (.slice A t.length C) t (w2.drewN N) (HBys.out w2 HB29.out) (by have := HM.out; omega) HT2.out
          rw [← HM.out, HMo.out] at h
          exact h
        go_wp2_with fail
        go_quiet (first | with_reducible exact k1.out _ | with_reducible exact k2.out _)
        go_wp2_with fail
        refine (k3.out nq).mono ?_
        rintro e w' ⟨rfl, rfl⟩
        go_wp2
        go_roundw
        case rel =>
          have hB := HB29.out
          refine ⟨i + 1, by have := HTn.out; omega, by go_num, ?_, by rw [HR2.out], by rw [HR2.out], ⟨hB.os, hB.tape, hB.output, hB.size, hB.block⟩⟩
          rw [HCC.out]
          exact HR29.out
        case measure => simp [intOf]; omega
      · have hi : i = n := by omega
        have HI := Lib.hid hi
        obtain ⟨wo, rfl⟩ : ∃ wo : World, wo = wr := ⟨_, rfl⟩
        have HTo := Lib.hid (HT.out.below (Nat.le_refl _) HBe.out)
        have hcl := cat_le HA.out (by have := HTn.out; omega) i
        have S1 := Lib.hid (sum_any u3 (cat T i) wo HR.out.bys (by omega) HTo.out)
        rw [← HL.out] at S1
        clear hi hcl
        go_wp2
        go_loop [7, 8, 9] (fun s7 s8 s9 => RightAt T s7 s8 s9) (fun _ _ s9 => (intOf s9 + 1).toNat)
        case atStart =>
          have e : tail T n = [] := by unfold tail; rw [List.drop_of_length_le (by have := HTn.out; omega)]; rfl
          exact ⟨n, by have := HTn.out; omega, rfl, by rw [e, zero_sum], by rw [e]; rfl⟩
        case round =>
          obtain ⟨j, hj, rfl, rfl, rfl⟩ := hrel
          have hjn : j ≤ n := by have := HTn.out; omega
          clear hj
          cases j with
          | zero =>
            have hr0 : sum (tail T 0) = rl := by
              rw [HL.out, HI.out]
              unfold tail cat
              rw [List.drop_zero, List.take_of_length_le (by have := HTn.out; omega)]
            rw [hr0]
            clear hr0
            go_wp2_with fail
            refine S1.out.mono ?_
            rintro e w' ⟨rfl, rfl⟩
            go_wp2
            go_ret
            exact ⟨rfl, HBe.out⟩
          | succ k =>
            have e : ((k + 1 : Nat) : Int) - 1 = (k : Int) := by omega
            rw [e]
            clear e
            obtain ⟨t, hti⟩ : ∃ t, T[k]? = some t := ⟨T[k]'(by have := HTn.out; omega), List.getElem?_eq_getElem _⟩
            obtain ⟨htl, ad, A, C, rfl, hc0, hx0⟩ := HA.out k t hti
            have hct : wo.cell? (ad.add k) = some (.slice A t.length C) := by rw [HBe.out.cell (World.block_lt_of_cell? w _ hc0)]; exact hc0
            have hbt : Bys wo (.slice A t.length C) t := hx0.below (Nat.le_refl _) HBe.out
            have htail := tail_le HA.out (by have := HTn.out; omega) (k + 1)
            have htail2 := tail_le HA.out (by have := HTn.out; omega) k
            have htc := tail_cons T k t hti
            obtain ⟨m, hm⟩ : ∃ m, m = t.length := ⟨_, rfl⟩
            obtain ⟨d, hd⟩ : ∃ d, d = (tail T (k + 1)).length := ⟨_, rfl⟩
            obtain ⟨rt, hrt⟩ : ∃ r, r = sum t := ⟨_, rfl⟩
            obtain ⟨rr, hrr⟩ : ∃ r, r = sum (tail T (k + 1)) := ⟨_, rfl⟩
            obtain ⟨r2, hr2⟩ : ∃ r, r = sum (tail T k) := ⟨_, rfl⟩
            have hjo : join rt rr d = r2 := by rw [hrt, hrr, hd, join_sum, hr2, htc]
            have hlen : (tail T k).length = d + m := by rw [htc, List.length_append, hd, hm]; omega
            have K1 := sum_any (.slice A t.length C) t wo hbt (by omega) HTo.out
            have K2 := join_any rt rr d wo (by omega)
            rw [← hm, ← hrt] at K1
            rw [hjo] at K2
            rw [← hm] at hct htl
            rw [← hd, ← hrr]
            rw [← hd] at htail
            have H1 := Lib.hid K1
            have H2 := Lib.hid K2
            have HR2 := Lib.hid hr2
            have HLen := Lib.hid hlen
            have i0 : (0 : Int) ≤ (k : Int) := Int.natCast_nonneg _
            have i1 : (k : Int) < (n : Int) := by omega
            clear hti hc0 hx0 hbt htail2 htc hm hd hrt hrr hr2 hjo hlen K1 K2
            go_wp2_with (first | (go_at_call 10; refine H1.out.mono ?_; rintro e w' ⟨rfl, rfl⟩) | (go_at_call 14; refine H2.out.mono ?_; rintro e w' ⟨rfl, rfl⟩))
            go_round
            case rel => exact ⟨k, by have := HTn.out; omega, rfl, by rw [HR2.out], by rw [HLen.out]; go_num⟩
            case measure => simp [intOf]
end Go.Proofs.YtkndaheonlnclaaDoor
