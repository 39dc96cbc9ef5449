/- FrameLays: the walk. -/
import Derived.Test.YtehnfnhaafgogaaDoorFrameAwake
import Derived.Test.YtehnfnhaafgogaaDoorFrameRefLay
namespace Go.Proofs.YtehnfnhaafgogaaDoor
open Go.RowKit FrameMath CrcMath

/-- Between two rounds of the copying. -/
def OwnAt (w : World) (T : List (List UInt8)) (s3 s4 : Value) (wr : World) : Prop := ∃ i : Nat, i ≤ T.length ∧ s4 = .int .i64 i ∧ Own wr w.heap.size s3 (T.take i) ∧ Below w.heap.size w wr

theorem take_snoc {T : List (List UInt8)} {i : Nat} {t : List UInt8} (h : T[i]? = some t) : T.take (i + 1) = T.take i ++ [t] := by
  obtain ⟨hi, rfl⟩ := List.getElem?_eq_some_iff.1 h
  exact List.take_succ_eq_append_getElem hi

set_option maxHeartbeats 1000000 in
theorem lays_walk (v : Value) (T : List (List UInt8)) (w : World) (hv : Txs w v T) (hl : ∀ t ∈ T, t.length ≤ 1048576) (hn : T.length ≤ 1048576) (ht : Tab w) :
    Calls Tryd.prog 3 #[v] w fun e w' => e = .returned (.bool true) ∧ Below w.heap.size w w' := by
  have HV := Lib.hid hv
  have HL := Lib.hid hl
  have HT := Lib.hid ht
  obtain ⟨a, cap, rfl, hcap, hT⟩ := hv
  obtain ⟨n, hn'⟩ : ∃ n, n = T.length := ⟨_, rfl⟩
  rw [← hn'] at hcap hn HV ⊢
  have HN := Lib.hid hn'
  have HA := Lib.hid hT
  clear hT ht hl hn'
  go_enter Tryd.func3, Tryd.ntmps3
  go_wp2_with fail
  refine (fawake_any _ HT.out).mono ?_
  rintro e w1 ⟨rfl, hb1⟩
  have B1 := Lib.hid hb1
  clear hb1
  go_wp2
  go_loopw [3, 4] (fun s3 s4 wr => OwnAt w T s3 s4 wr) (fun _ s4 _ => n - (intOf s4).toNat)
  case atStart => exact ⟨0, Nat.zero_le _, rfl, Own.nil _ _, B1.out⟩
  case round =>
    obtain ⟨i, hi, rfl, hown, hbel⟩ := hrel
    have hin : i ≤ n := by have := HN.out; omega
    have HO := Lib.hid hown
    have HB := Lib.hid hbel
    clear hi hown hbel
    by_cases hlt : i < n
    · obtain ⟨t, hti⟩ : ∃ t, T[i]? = some t := ⟨T[i]'(by have := HN.out; omega), List.getElem?_eq_getElem _⟩
      obtain ⟨ad, A, C, rfl, hc0, hx0⟩ := HA.out i t hti
      have htl := HL.out t (List.mem_of_getElem? hti)
      obtain ⟨m, hm⟩ : ∃ m, m = t.length := ⟨_, rfl⟩
      have hct : (wr.alloc (.cells #[] 5)).cell? (ad.add i) = some (.slice A t.length C) := by rw [(HB.out.alloc HB.out.size _).cell (World.block_lt_of_cell? w _ hc0)]; exact hc0
      have hx1 := hx0.below (Nat.le_refl _) (HB.out.alloc HB.out.size (.cells #[] 5))
      have A1 := Lib.hid (append_lit (B := w.heap.size) HB.out.size (heap_alloc_new wr (.cells #[] 5)) hx1 (by omega))
      rw [← hm] at hct A1
      have HTi := Lib.hid hti
      have HM := Lib.hid hm
      have i0 : (0 : Int) ≤ (i : Int) := Int.natCast_nonneg _
      have i1 : (i : Int) < (n : Int) := by omega
      clear hti hc0 hx0 hx1 htl hm
      have hle : (T.take i).length ≤ 1099511627776 := by rw [List.length_take]; omega
      have HLe := Lib.hid hle
      clear hle
      go_wp2_with (first | (at_builtin; refine wpList_append_by rfl _ _ 24 rfl _ _ rfl rfl _ A1.out ?_; rintro x w2 ⟨hr2, hb2⟩; (obtain ⟨A2, C2, rfl⟩ := slice_of_row hr2); (rw [← HM.out]); (rw [← HM.out] at hr2); (have hba := (HB.out.alloc HB.out.size (.cells #[] 5))); (have hba2 := hba.trans (hb2.mono hba.size)); (have hbl := (Below.refl w2.heap.size w2).alloc (Nat.le_refl _) (.cells #[.slice A2 m C2] 24)); (have A3 := Lib.hid (Own.add ((HO.out.keep ((Below.refl _ _).alloc (Nat.le_refl _) (.cells #[] 5))).keep hb2 |>.keep hbl) (hr2.below hbl) (Nat.le_trans hba2.size hbl.size) HLe.out w2.heap.size (Blk.new w2 24 #[.slice A2 m C2]))); (have HB2 := Lib.hid (hba2.trans (hbl.mono hba2.size))); clear hr2 hb2 hba hba2 hbl) | (at_builtin; refine wpList_append_by rfl _ _ 22 rfl _ _ rfl rfl _ A3.out ?_; rintro y w3 ⟨ho3, hb3⟩; (have HO3 := Lib.hid ho3); (have HB3 := Lib.hid (hb3 w w.heap.size (Nat.le_refl _) HB2.out)); clear ho3 hb3))
      go_wp2
      go_roundw
      case rel => exact ⟨i + 1, by have := HN.out; omega, by go_num, by rw [take_snoc HTi.out]; exact HO3.out, HB3.out⟩
      case measure => simp [intOf]; omega
    · obtain rfl : i = n := by omega
      obtain ⟨wo, rfl⟩ : ∃ wo : World, wo = wr := ⟨_, rfl⟩
      have ho := HO.out
      rw [List.take_of_length_le (by have := HN.out; omega)] at ho
      have HO1 := Lib.hid ho
      clear ho HO
      have HK := Lib.hid (lay_any u3 T wo HO1.out.txs (by have := HN.out; omega) (HT.out.below (Nat.le_refl _) HB.out))
      go_wp2_with fail
      refine HK.out.mono ?_
      rintro e w2 ⟨hb2, hc2⟩
      have HB2 := Lib.hid hb2
      have HW2 := Lib.hid (HB.out.trans (hb2.mono HB.out.size))
      have HO2 := Lib.hid (HO1.out.keep hb2)
      clear hb2 HK
      have HK := Lib.hid (reflay_any (.slice a i cap) T w2 (HV.out.keep HW2.out) (by have := HN.out; omega))
      rcases hc2 with ⟨hall, x, rfl, hr2⟩ | ⟨hex, rfl⟩
      · have HR2 := Lib.hid hr2
        clear hr2
        go_wp2_with fail
        refine HK.out.mono ?_
        rintro e w3 ⟨hb3, hc3⟩
        rcases hc3 with ⟨-, y, rfl, hr3⟩ | ⟨⟨t, ht, hl⟩, -⟩
        · have HW3 := Lib.hid (HW2.out.trans (hb3.mono HW2.out.size))
          have c1 := conv_bys (HR2.out.below hb3).bys
          have c2 := conv_bys hr3.bys
          obtain ⟨X, hX⟩ : ∃ X : ByteArray, X = ⟨(layF T).toArray⟩ := ⟨_, rfl⟩
          rw [← hX] at c1 c2
          have HS := Lib.hid (same_any u3 (.slice a i cap) T w3 (HO2.out.keep hb3).txs (HV.out.keep HW3.out) (by have := HN.out; omega))
          clear hX hr3 hb3 hall HK
          go_wp2_with fail
          refine HS.out.mono ?_
          rintro e w4 ⟨rfl, q, rfl⟩
          go_wp2
          go_ret
          have hw := HW3.out
          exact ⟨rfl, ⟨hw.os, hw.tape, hw.output, hw.size, hw.block⟩⟩
        · exact absurd (hall t ht) (by omega)
      · go_wp2_with fail
        refine HK.out.mono ?_
        rintro e w3 ⟨hb3, hc3⟩
        rcases hc3 with ⟨hall, -⟩ | ⟨-, rfl⟩
        · obtain ⟨t, ht, hl⟩ := hex
          exact absurd (hall t ht) (by omega)
        · have HW3 := Lib.hid (HW2.out.trans (hb3.mono HW2.out.size))
          have c1 : (convert 24 9 (.slice none 0 0)).run Tryd.prog w3 = .ok (.string ⟨([] : List UInt8).toArray⟩) w3 := conv_bys (.inl ⟨rfl, rfl⟩)
          obtain ⟨X, hX⟩ : ∃ X : ByteArray, X = ⟨([] : List UInt8).toArray⟩ := ⟨_, rfl⟩
          rw [← hX] at c1
          have HS := Lib.hid (same_any u3 (.slice a i cap) T w3 (HO2.out.keep hb3).txs (HV.out.keep HW3.out) (by have := HN.out; omega))
          clear hX hb3 hex HK
          go_wp2_with fail
          refine HS.out.mono ?_
          rintro e w4 ⟨rfl, q, rfl⟩
          go_wp2
          go_ret
          have hw := HW3.out
          exact ⟨rfl, ⟨hw.os, hw.tape, hw.output, hw.size, hw.block⟩⟩

theorem lays_all (w : World) (tab : Tab w) (a : Option Addr) (len cap : Nat) (T : List (List UInt8)) (hT : Txs w (.slice a len cap) T) (hl : ∀ t ∈ T, t.length ≤ 1048576) (hn : T.length ≤ 1048576 ∧ T.length = len ∧ len ≤ cap) :
    Calls Tryd.prog 3 #[.slice a len cap] w fun e w' => e = .returned (.bool true) ∧ Below w.heap.size w w' := lays_walk _ T w hT hl hn.1 tab

end Go.Proofs.YtehnfnhaafgogaaDoor
