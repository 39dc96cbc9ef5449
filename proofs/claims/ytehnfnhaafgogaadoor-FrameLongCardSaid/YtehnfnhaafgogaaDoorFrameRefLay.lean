/- The reference's Lay; Same. -/
import Derived.Test.YtehnfnhaafgogaaDoorFrameLay
import Derived.BigQuiet
import Derived.Deep.QuietTactic
namespace Go.Proofs.YtehnfnhaafgogaaDoor
open Go.RowKit FrameMath CrcMath

set_option maxHeartbeats 1000000 in
theorem reflay_any (v : Value) (T : List (List UInt8)) (w : World) (hv : Txs w v T) (hn : T.length ≤ 1048576) :
    Calls Tryd.prog 10 #[v] w (Laid w T) := by
  obtain ⟨a, cap, rfl, hcap, hT⟩ := hv
  have HA := Lib.hid hT
  obtain ⟨n, hn'⟩ : ∃ n, n = T.length := ⟨_, rfl⟩
  rw [← hn'] at hcap hn ⊢
  have HN := Lib.hid hn'
  clear hT hn'
  go_enter Tryd.func10, Tryd.ntmps10
  go_wp2
  go_loop [5] (fun s5 => LayCheck T s5) (fun s5 => n - (intOf s5).toNat)
  case atStart => exact ⟨0, Nat.zero_le _, rfl, fun t h => by simp at h⟩
  case round =>
    obtain ⟨i, hi, rfl, hall⟩ := hrel
    have hin : i ≤ n := by have := HN.out; omega
    have HAll := Lib.hid hall
    clear hi hall
    by_cases hlt : i < n
    · obtain ⟨t, hti⟩ : ∃ t, T[i]? = some t := ⟨T[i]'(by have := HN.out; omega), List.getElem?_eq_getElem _⟩
      obtain ⟨ad, A, C, rfl, hc0, hx0⟩ := HA.out i t hti
      have HTi := Lib.hid hti
      obtain ⟨m, hm⟩ : ∃ m, m = t.length := ⟨_, rfl⟩
      rw [← hm] at hc0
      have HM := Lib.hid hm
      have i0 : (0 : Int) ≤ (i : Int) := Int.natCast_nonneg _
      have i1 : (i : Int) < (n : Int) := by omega
      clear hti hx0 hm
      by_cases hbig : 32768 < m
      · go_wp2
        exact bodyPost_ret (v := .tuple #[.slice none 0 0, .int .i64 4]) (by simp [results, Tryd.results10, go_sem]) rfl ⟨Below.refl _ _, .inr ⟨⟨t, List.mem_of_getElem? HTi.out, by rw [← HM.out]; exact hbig⟩, rfl⟩⟩
      · go_wp2
        go_round
        case rel => exact ⟨i + 1, by have := HN.out; omega, by go_num, take_all HAll.out HTi.out (by rw [← HM.out]; omega)⟩
        case measure => simp [intOf]; omega
    · have hi : i = n := by omega
      have hall : ∀ t ∈ T, t.length ≤ 32768 := fun t h => HAll.out t (by rw [List.take_of_length_le (by have := HN.out; omega)]; exact h)
      have HAll' := Lib.hid hall
      clear hall HAll
      go_wp2
      go_loopw [4, 6] (fun s4 s6 wr => LayAt w T s4 s6 wr) (fun _ s6 _ => n - (intOf s6).toNat)
      case atStart => exact ⟨0, Nat.zero_le _, rfl, World.ownsRow_nil _ _ _ _, Below.refl _ _⟩
      case round =>
        obtain ⟨j, hj, rfl, hrow, hbel⟩ := hrel
        have hjn : j ≤ n := by have := HN.out; omega
        have HR := Lib.hid hrow
        have HB := Lib.hid hbel
        clear hj hrow hbel
        by_cases hjl : j < n
        · obtain ⟨t, hti⟩ : ∃ t, T[j]? = some t := ⟨T[j]'(by have := HN.out; omega), List.getElem?_eq_getElem _⟩
          obtain ⟨ad, A, C, rfl, hc0, hx0⟩ := HA.out j t hti
          have htl := HAll'.out t (List.mem_of_getElem? hti)
          have hlay := layF_le (T.take j) fun u hu => HAll'.out u (List.mem_of_mem_take hu)
          have htk : (T.take j).length ≤ 1048576 := by rw [List.length_take]; omega
          have hlay2 : (layF (T.take j)).length ≤ 1048576 * 32781 := Nat.le_trans hlay (Nat.mul_le_mul_right _ htk)
          have hct : wr.cell? (ad.add j) = some (.slice A t.length C) := by rw [HB.out.cell (World.block_lt_of_cell? w _ hc0)]; exact hc0
          have HX := Lib.hid (hx0.below (Nat.le_refl _) HB.out)
          have HTi := Lib.hid hti
          have HLay := Lib.hid hlay2
          have HTl := Lib.hid htl
          obtain ⟨m, hm⟩ : ∃ m, m = t.length := ⟨_, rfl⟩
          rw [← hm] at hct HX
          have HM := Lib.hid hm
          have i0 : (0 : Int) ≤ (j : Int) := Int.natCast_nonneg _
          have i1 : (j : Int) < (n : Int) := by omega
          have HFl := Lib.hid (frameF_le t htl)
          clear hti hx0 hc0 hm hlay htk hlay2 htl
          go_wp2_with fail
          refine (refframe_any _ t wr HX.out (by have := HTl.out; omega)).mono ?_
          rintro e w1 ⟨x, rfl, hr1, hb1⟩
          have A1 := Lib.hid (grow_row (w := w) (B := w.heap.size) (Nat.le_trans HB.out.size hb1.size) (HR.out.below hb1) hr1.bys (by have := HLay.out; have := HFl.out; omega) (HB.out.trans (hb1.mono HB.out.size)))
          clear hr1 hb1
          go_wp2_with (at_builtin; refine wpList_append_by rfl _ _ 24 rfl _ _ rfl rfl _ A1.out ?_; rintro v4 w4 ⟨hr4, hb4⟩)
          have HR4 := Lib.hid hr4
          have HB4 := Lib.hid hb4
          clear hr4 hb4 A1
          go_wp2
          go_roundw
          case rel =>
            refine ⟨j + 1, by have := HN.out; omega, by go_num, ?_, HB4.out⟩
            rw [layF_snoc T j t HTi.out]
            exact HR4.out
          case measure => simp [intOf]; omega
        · obtain rfl : j = n := by omega
          obtain ⟨wo, rfl⟩ : ∃ wo : World, wo = wr := ⟨_, rfl⟩
          go_wp2
          exact bodyPost_ret (v := .tuple #[u4, .int .i64 0]) (by simp [results, Tryd.results10, go_sem]) rfl ⟨HB.out, .inl ⟨HAll'.out, _, rfl, by have h := HR.out; rwa [List.take_of_length_le (by have := HN.out; omega)] at h⟩⟩

set_option maxHeartbeats 1000000 in
/-- Lists of the same texts are the same. -/
theorem same_any (va vb : Value) (T : List (List UInt8)) (w : World) (ha : Txs w va T) (hb : Txs w vb T) (hn : T.length ≤ 1099511627776) :
    Calls Tryd.prog 11 #[va, vb] w fun e w' => e = .returned (.bool true) ∧ ∃ q, w' = w.drewN q := by
  obtain ⟨a, cap, rfl, hcap, hT⟩ := ha
  obtain ⟨b, cap2, rfl, hcap2, hT2⟩ := hb
  have HA := Lib.hid hT
  have HB := Lib.hid hT2
  obtain ⟨n, hn'⟩ : ∃ n, n = T.length := ⟨_, rfl⟩
  rw [← hn'] at hcap hcap2 hn ⊢
  have HN := Lib.hid hn'
  clear hT hT2 hn'
  go_enter Tryd.func11, Tryd.ntmps11
  go_wp2
  go_loopw [5] (fun s5 wr => ∃ i q : Nat, i ≤ n ∧ s5 = .int .i64 i ∧ wr = w.drewN q) (fun s5 _ => n - (intOf s5).toNat)
  case atStart => exact ⟨0, 0, Nat.zero_le _, rfl, rfl⟩
  case round =>
    obtain ⟨i, q, hi, rfl, rfl⟩ := hrel
    by_cases hlt : i < n
    · obtain ⟨t, hti⟩ : ∃ t, T[i]? = some t := ⟨T[i]'(by have := HN.out; omega), List.getElem?_eq_getElem _⟩
      obtain ⟨ad, A, C, rfl, hc0, hx0⟩ := HA.out i t hti
      obtain ⟨ad2, A2, C2, rfl, hc2, hx2⟩ := HB.out i t hti
      have c1 : ∀ N, (convert 24 9 (.slice A t.length C)).run Tryd.prog (w.drewN N) = .ok (.string ⟨t.toArray⟩) (w.drewN N) := fun N => conv_bys (show Bys (w.drewN N) _ t from hx0)
      have c2 : ∀ N, (convert 24 9 (.slice A2 t.length C2)).run Tryd.prog (w.drewN N) = .ok (.string ⟨t.toArray⟩) (w.drewN N) := fun N => conv_bys (show Bys (w.drewN N) _ t from hx2)
      obtain ⟨m, hm⟩ : ∃ m, m = t.length := ⟨_, rfl⟩
      obtain ⟨X, hX⟩ : ∃ X : ByteArray, X = ⟨t.toArray⟩ := ⟨_, rfl⟩
      rw [← hm] at hc0 hc2 c1 c2
      rw [← hX] at c1 c2
      have i0 : (0 : Int) ≤ (i : Int) := Int.natCast_nonneg _
      have i1 : (i : Int) < (n : Int) := by omega
      clear hti hx0 hx2 hm hX
      go_wp2_with fail
      go_quiet (fail)
      go_wp2
      go_roundw
      case rel => exact ⟨i + 1, _, by omega, by go_num, rfl⟩
      case measure => simp [intOf]; omega
    · obtain rfl : i = n := by omega
      go_wp2
      go_ret
      exact ⟨rfl, _, rfl⟩
end Go.Proofs.YtehnfnhaafgogaaDoor
