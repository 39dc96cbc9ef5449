/- The reference's Scan. -/
import Derived.Test.YthaggdkfaglgaaaDoorFrameScan
import Derived.Test.YthaggdkfaglgaaaDoorFrameRefOne
namespace Go.Proofs.YthaggdkfaglgaaaDoor
set_option maxRecDepth 20000
open Go.RowKit FrameMath CrcMath

set_option maxHeartbeats 1000000 in
theorem refscan_any (a : Option Addr) (len cap : Nat) (b : List UInt8) (w : World) (hb : Bys w (.slice a len cap) b) (hl : b.length = len) (hc : len ≤ cap) (hn : len ≤ 1099511627776) :
    Calls Tryd.prog 11 #[.slice a len cap] w (ScanEnd w b) := by
  have HX := Lib.hid hb
  have HL := Lib.hid hl

  clear hb hl
  go_enter Tryd.func11, Tryd.ntmps11
  go_wp2
  go_loopw [4, 5] (fun s4 s5 wr => ScanAt w b s4 s5 wr) (fun _ s5 _ => len - (intOf s5).toNat)
  case atStart => exact ⟨[], 0, Done.start b, rfl, Own.nil _ _, Below.refl _ _⟩
  case round =>
    obtain ⟨T, p, hdone, rfl, hown, hbel⟩ := hrel
    have hpl : p ≤ len := by have := hdone.1; have := HL.out; omega
    have hTp : T.length ≤ p := hdone.2.1
    have HD := Lib.hid hdone
    have HO := Lib.hid hown
    have HB := Lib.hid hbel
    obtain ⟨a1, h1, h2⟩ := bys_from a len cap p b wr (HX.out.below (Nat.le_refl _) hbel) HL.out hc hpl
    obtain ⟨m, hm⟩ : ∃ m, m = len - p := ⟨_, rfl⟩
    obtain ⟨c1, hc1⟩ : ∃ c1, c1 = cap - p := ⟨_, rfl⟩
    have HK := Lib.hid (refone_any a1 (len - p) (cap - p) (b.drop p) wr h2 (by rw [List.length_drop, HL.out]) (by omega) (by omega))
    rw [← hm, ← hc1] at h1 HK
    have hs1 := h1 wr
    clear hdone hown hbel h1 h2 hm hc1
    go_wp2_with fail
    refine HK.out.mono ?_
    rintro e w1 ⟨hb1, hcase⟩
    clear hs1 HK
    have HB1 := Lib.hid (HB.out.trans (hb1.mono HB.out.size))
    cases ho : oneF (b.drop p) with
    | error c =>
      rw [ho] at hcase
      simp only at hcase
      subst hcase
      have hf := one_fault ho
      have HS := Lib.hid (HD.out.stop ho)
      have HO1 := Lib.hid (HO.out.keep hb1)
      have hcne : ((c : Int) != 0) = true := by simp; omega
      clear ho hf hb1
      go_wp2
      exact bodyPost_ret (v := .tuple #[u4, .int .i64 (p : Int)]) (by simp [results, Tryd.results11, go_sem]) rfl ⟨HB1.out, T, p, u4, HS.out, rfl, HO1.out⟩
    | ok x =>
      obtain ⟨t, n⟩ := x
      rw [ho] at hcase
      simp only at hcase
      obtain ⟨v, rfl, hr⟩ := hcase
      obtain ⟨A2, C2, rfl⟩ := slice_of_row hr
      have hin := (one_ok ho).2.2.2
      rw [List.length_drop] at hin
      have hpn : p + n ≤ len ∧ 5 ≤ n := by have := HL.out; omega
      have hbl := (Below.refl w1.heap.size w1).alloc (Nat.le_refl _) (.cells #[.slice A2 t.length C2] 22)
      have A3 := Lib.hid (Own.add ((HO.out.keep hb1).keep hbl) ((row_lower hr HB.out.size).below hbl) (Nat.le_trans HB1.out.size hbl.size) (by omega) w1.heap.size (Blk.new w1 22 #[.slice A2 t.length C2]))
      have HB2 := Lib.hid (HB1.out.trans (hbl.mono HB1.out.size))
      have HS := Lib.hid (HD.out.step ho)
      obtain ⟨q, hq⟩ : ∃ q, q = t.length := ⟨_, rfl⟩
      rw [← hq] at A3 HB2 ⊢
      obtain ⟨hpn1, hpn2⟩ := hpn
      clear ho hb1 hr hin hbl hq
      go_wp2_with (at_builtin; refine wpList_append_by rfl _ _ 27 rfl _ _ rfl rfl _ A3.out ?_; rintro y w3 ⟨ho3, hb3⟩; (have HO3 := Lib.hid ho3); (have HB3 := Lib.hid (hb3 w w.heap.size (Nat.le_refl _) HB2.out)); clear ho3 hb3)
      go_wp2
      go_roundw
      case rel => exact ⟨T ++ [t], p + n, HS.out, by go_num, HO3.out, HB3.out⟩
      case measure => simp [intOf]; omega

end Go.Proofs.YthaggdkfaglgaaaDoor
