/- frame.Lay. -/
import Derived.Test.YthaggdkfaglgaaaDoorFrameSum
namespace Go.Proofs.YthaggdkfaglgaaaDoor
set_option maxRecDepth 20000
open Go.RowKit FrameMath CrcMath

/-- How Lay ends. -/
def Laid (w : World) (T : List (List UInt8)) (e : Ending) (w' : World) : Prop :=
  Below w.heap.size w w' ∧ (((∀ t ∈ T, t.length ≤ 32768) ∧ ∃ v', e = .returned (.tuple #[v', .int .i64 0]) ∧ Row w' w.heap.size v' (layF T)) ∨ ((∃ t ∈ T, 32768 < t.length) ∧ e = .returned (.tuple #[.slice none 0 0, .int .i64 4])))

def LayCheck (T : List (List UInt8)) (s12 : Value) : Prop := ∃ i : Nat, i ≤ T.length ∧ s12 = .int .i64 i ∧ ∀ t ∈ T.take i, t.length ≤ 32768
def LayAt (w : World) (T : List (List UInt8)) (s6 s22 : Value) (wr : World) : Prop := ∃ i : Nat, i ≤ T.length ∧ s22 = .int .i64 i ∧ Row wr w.heap.size s6 (layF (T.take i)) ∧ Below w.heap.size w wr

theorem take_all {T : List (List UInt8)} {i : Nat} {t : List UInt8} (h : ∀ u ∈ T.take i, u.length ≤ 32768) (hi : T[i]? = some t) (ht : t.length ≤ 32768) : ∀ u ∈ T.take (i + 1), u.length ≤ 32768 := fun u hu => by
  obtain ⟨hlt, rfl⟩ := List.getElem?_eq_some_iff.1 hi
  rw [List.take_succ_eq_append_getElem hlt] at hu
  rcases List.mem_append.1 hu with h1 | h1
  · exact h u h1
  · obtain rfl := List.mem_singleton.1 h1
    exact ht

set_option maxHeartbeats 1000000 in
theorem lay_any (v : Value) (T : List (List UInt8)) (w : World) (hv : Txs w v T) (hn : T.length ≤ 1048576) (ht : Tab w) :
    Calls Tryd.prog 13 #[v] w (Laid w T) := by
  obtain ⟨a, cap, rfl, hcap, hT⟩ := hv
  have HT := Lib.hid ht
  have HA := Lib.hid hT
  obtain ⟨n, hn'⟩ : ∃ n, n = T.length := ⟨_, rfl⟩
  rw [← hn'] at hcap hn ⊢
  have HN := Lib.hid hn'
  clear hT ht hn'
  go_enter Tryd.func13, Tryd.ntmps13
  go_wp2
  go_loop [12] (fun s12 => LayCheck T s12) (fun s12 => n - (intOf s12).toNat)
  case atStart => exact ⟨0, Nat.zero_le _, rfl, fun t h => by simp at h⟩
  case round =>
    obtain ⟨i, hi, rfl, hall⟩ := hrel
    have hin : i ≤ n := by have := HN.out; omega
    have HAll := Lib.hid hall
    clear hi hall
    by_cases hlt : i < n
    · obtain ⟨t, hti⟩ : ∃ t, T[i]? = some t := ⟨T[i]'(by have := HN.out; omega), List.getElem?_eq_getElem _⟩
      obtain ⟨ad, A, C, rfl, hc0, hx0⟩ := HA.out i t hti
      have HTi := Lib.hid hti
      obtain ⟨m, hm⟩ : ∃ m, m = t.length := ⟨_, rfl⟩
      rw [← hm] at hc0
      have HM := Lib.hid hm
      have i0 : (0 : Int) ≤ (i : Int) := Int.natCast_nonneg _
      have i1 : (i : Int) < (n : Int) := by omega
      clear hti hx0 hm
      by_cases hbig : 32768 < m
      · go_wp2
        exact bodyPost_ret (v := .tuple #[.slice none 0 0, .int .i64 4]) (by simp [results, Tryd.results13, go_sem]) rfl ⟨Below.refl _ _, .inr ⟨⟨t, List.mem_of_getElem? HTi.out, by rw [← HM.out]; exact hbig⟩, rfl⟩⟩
      · go_wp2
        go_round
        case rel => exact ⟨i + 1, by have := HN.out; omega, by go_num, take_all HAll.out HTi.out (by rw [← HM.out]; omega)⟩
        case measure => simp [intOf]; omega
    · have hi : i = n := by omega
      have hall : ∀ t ∈ T, t.length ≤ 32768 := fun t h => HAll.out t (by rw [List.take_of_length_le (by have := HN.out; omega)]; exact h)
      have HAll' := Lib.hid hall
      clear hall HAll
      go_wp2
      go_loopw [6, 22] (fun s6 s22 wr => LayAt w T s6 s22 wr) (fun _ s22 _ => n - (intOf s22).toNat)
      case atStart => exact ⟨0, Nat.zero_le _, rfl, World.ownsRow_nil _ _ _ _, Below.refl _ _⟩
      case round =>
        obtain ⟨j, hj, rfl, hrow, hbel⟩ := hrel
        have hjn : j ≤ n := by have := HN.out; omega
        have HR := Lib.hid hrow
        have HB := Lib.hid hbel
        clear hj hrow hbel
        by_cases hjl : j < n
        · obtain ⟨t, hti⟩ : ∃ t, T[j]? = some t := ⟨T[j]'(by have := HN.out; omega), List.getElem?_eq_getElem _⟩
          obtain ⟨ad, A, C, rfl, hc0, hx0⟩ := HA.out j t hti
          have htl := HAll'.out t (List.mem_of_getElem? hti)
          have hlay := layF_le (T.take j) fun u hu => HAll'.out u (List.mem_of_mem_take hu)
          have htk : (T.take j).length ≤ 1048576 := by rw [List.length_take]; omega
          have hlay2 : (layF (T.take j)).length ≤ 1048576 * 32781 := Nat.le_trans hlay (Nat.mul_le_mul_right _ htk)
          have hct : wr.cell? (ad.add j) = some (.slice A t.length C) := by rw [HB.out.cell (World.block_lt_of_cell? w _ hc0)]; exact hc0
          have HX := Lib.hid (hx0.below (Nat.le_refl _) HB.out)
          have HTi := Lib.hid hti
          have HLay := Lib.hid hlay2
          have HTl := Lib.hid htl
          obtain ⟨m, hm⟩ : ∃ m, m = t.length := ⟨_, rfl⟩
          rw [← hm] at hct HX
          have HM := Lib.hid hm
          have i0 : (0 : Int) ≤ (j : Int) := Int.natCast_nonneg _
          have i1 : (j : Int) < (n : Int) := by omega
          have hrl : (rawL t).length ≤ 32777 := by
            have := frameF_le t htl
            rw [frameF, List.length_append, sealF_length, ← rawL_rawF] at this
            omega
          have HRl := Lib.hid hrl
          clear hti hx0 hc0 hm hlay htk hlay2 htl hrl
          go_wp2_with fail
          refine (raw_any _ t wr HX.out (by have := HTl.out; omega)).mono ?_
          rintro e w1 ⟨x, rfl, hr1, hb1⟩
          have HR1 := Lib.hid hr1
          have HB1 := Lib.hid hb1
          have A1 := Lib.hid (grow_apart (w := w) (B := w.heap.size) (Nat.le_trans HB.out.size hb1.size) (HR.out.below hb1) hr1.bys (by have := HLay.out; have := HRl.out; omega) (HB.out.trans (hb1.mono HB.out.size)) wr.heap.size fun k hk => (World.ownsRow.lt HR.out k hk).2)
          clear hr1 hb1
          go_wp2_with (at_builtin; refine wpList_append_by rfl _ _ 22 rfl _ _ rfl rfl _ A1.out ?_; rintro v2 w2 ⟨hr2, hb2, hk2⟩)
          have HR2 := Lib.hid hr2
          have HB2 := Lib.hid hb2
          have HX2 := Lib.hid (hk2 _ _ HR1.out)
          have HT2 := Lib.hid (HT.out.below (Nat.le_refl _) hb2)
          clear hr2 hb2 hk2
          refine (sumOf_any x (rawL t) w2 HX2.out.bys (by have := HRl.out; omega) HT2.out).mono ?_
          rintro e w3 ⟨y, rfl, hr3, hb3⟩
          have A3 := Lib.hid (grow_row (w := w) (B := w.heap.size) (Nat.le_trans HB2.out.size hb3.size) (HR2.out.below hb3) hr3.bys (by rw [sealF_length, List.length_append]; have := HLay.out; have := HRl.out; omega) (HB2.out.trans (hb3.mono HB2.out.size)))
          clear hr3 hb3 A1
          go_wp2_with (at_builtin; refine wpList_append_by rfl _ _ 22 rfl _ _ rfl rfl _ A3.out ?_; rintro v4 w4 ⟨hr4, hb4⟩)
          have HR4 := Lib.hid hr4
          have HB4 := Lib.hid hb4
          clear hr4 hb4 A3
          go_wp2
          go_roundw
          case rel =>
            refine ⟨j + 1, by have := HN.out; omega, by go_num, ?_, HB4.out⟩
            rw [layF_snoc T j t HTi.out]
            have h := HR4.out
            rw [List.append_assoc] at h
            exact h
          case measure => simp [intOf]; omega
        · obtain rfl : j = n := by omega
          obtain ⟨wo, rfl⟩ : ∃ wo : World, wo = wr := ⟨_, rfl⟩
          go_wp2
          exact bodyPost_ret (v := .tuple #[u6, .int .i64 0]) (by simp [results, Tryd.results13, go_sem]) rfl ⟨HB.out, .inl ⟨HAll'.out, _, rfl, by have h := HR.out; rwa [List.take_of_length_le (by have := HN.out; omega)] at h⟩⟩
end Go.Proofs.YthaggdkfaglgaaaDoor
