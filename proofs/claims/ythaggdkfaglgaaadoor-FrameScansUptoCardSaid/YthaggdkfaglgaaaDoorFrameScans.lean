/- FrameScans: the walk. -/
import Derived.Test.YthaggdkfaglgaaaDoorFrameRefScan
import Derived.Test.YthaggdkfaglgaaaDoorFrameAwake
import Derived.Test.YthaggdkfaglgaaaDoorFrameRefLay
namespace Go.Proofs.YthaggdkfaglgaaaDoor
set_option maxRecDepth 20000
open Go.RowKit FrameMath CrcMath

theorem row_conv {w : World} {B : Nat} {v : Value} {l : List UInt8} (h : Row w B v l) : (convert 22 9 v).run Tryd.prog w = .ok (.string ⟨l.toArray⟩) w := conv_bys h.bys

set_option maxHeartbeats 1000000 in
theorem scans_walk (a : Option Addr) (len cap : Nat) (b : List UInt8) (w : World) (hb : Bys w (.slice a len cap) b) (hl : b.length = len) (hc : len ≤ cap) (hn : len ≤ 1048576) (ht : Tab w) :
    Calls Tryd.prog 3 #[.slice a len cap] w fun e w' => e = .returned (.bool true) ∧ Below w.heap.size w w' := by
  have HX := Lib.hid hb
  have HL := Lib.hid hl
  have HT := Lib.hid ht
  clear hb hl ht
  go_enter Tryd.func3, Tryd.ntmps3
  go_wp2_with fail
  refine (fawake_any _ HT.out).mono ?_
  rintro e w1 ⟨rfl, hb1⟩
  have B1 := Lib.hid hb1
  have K2 := Lib.hid (one_any a len cap b w1 (HX.out.below (Nat.le_refl _) hb1) HL.out hc (by omega) (HT.out.below (Nat.le_refl _) hb1))
  clear hb1
  go_wp2_with fail
  refine K2.out.mono ?_
  rintro e w2 ⟨hb2, hc2⟩
  have B2 := Lib.hid (B1.out.trans (hb2.mono B1.out.size))
  have K3 := Lib.hid (refone_any a len cap b w2 (HX.out.below (Nat.le_refl _) B2.out) HL.out hc (by omega))
  clear hb2 K2
  have rest : ∀ (x : Value) (xl : List UInt8) (n c : Nat) (e2 : Ending), e2 = .returned (.tuple #[x, .int .i64 (n : Int), .int .i64 (c : Int)]) → True := fun _ _ _ _ _ _ => trivial
  clear rest
  obtain ⟨x, xl, n, c, rfl, hx, hcase⟩ : ∃ (x : Value) (xl : List UInt8) (n c : Nat), e = .returned (.tuple #[x, .int .i64 (n : Int), .int .i64 (c : Int)]) ∧ Row w2 w1.heap.size x xl ∧ (oneF b = .ok (xl, n) ∧ c = 0 ∨ oneF b = .error c ∧ xl = [] ∧ n = 0) := by
    cases ho : oneF b with
    | ok p =>
      obtain ⟨t, n⟩ := p
      rw [ho] at hc2
      obtain ⟨v, rfl, hr⟩ := hc2
      exact ⟨v, t, n, 0, rfl, hr, .inl ⟨rfl, rfl⟩⟩
    | error c =>
      rw [ho] at hc2
      exact ⟨_, [], 0, c, hc2, World.ownsRow_nil _ _ _ _, .inr ⟨rfl, rfl, rfl⟩⟩
  have HXr := Lib.hid hx
  clear hc2 hx
  go_wp2_with fail
  refine K3.out.mono ?_
  rintro e w3 ⟨hb3, hc3⟩
  have B3 := Lib.hid (B2.out.trans (hb3.mono B2.out.size))
  have HXr3 := Lib.hid (HXr.out.below hb3)
  obtain ⟨y, rfl, hy⟩ : ∃ (y : Value), e = .returned (.tuple #[y, .int .i64 (n : Int), .int .i64 (c : Int)]) ∧ Row w3 w2.heap.size y xl := by
    rcases hcase with ⟨ho, rfl⟩ | ⟨ho, rfl, rfl⟩
    · rw [ho] at hc3
      exact hc3
    · rw [ho] at hc3
      exact ⟨_, hc3, World.ownsRow_nil _ _ _ _⟩
  have HYr3 := Lib.hid hy
  have K4 := Lib.hid (scan_any a len cap b w3 (HX.out.below (Nat.le_refl _) B3.out) HL.out hc (by omega) (HT.out.below (Nat.le_refl _) B3.out))
  have hnl : n ≤ 1048576 ∧ c ≤ 4 := by
    rcases hcase with ⟨ho, rfl⟩ | ⟨ho, rfl, rfl⟩
    · have := (one_ok ho).2.2.2.1
      have := HL.out
      omega
    · have := one_fault ho
      omega
  obtain ⟨hnl1, hnl2⟩ := hnl
  clear hc3 hy hb3 hcase K3 HXr
  go_wp2_with fail
  refine K4.out.mono ?_
  rintro e w4 ⟨hb4, T, p, l, hT, rfl, hl4⟩
  have B4 := Lib.hid (B3.out.trans (hb4.mono B3.out.size))
  have HX4 := Lib.hid (HXr3.out.below hb4)
  have HY4 := Lib.hid (HYr3.out.below hb4)
  have HT4 := Lib.hid hT
  have HL4 := Lib.hid hl4
  have K5 := Lib.hid (refscan_any a len cap b w4 (HX.out.below (Nat.le_refl _) B4.out) HL.out hc (by omega))
  clear hb4 hT hl4 K4 HXr3 HYr3
  go_wp2_with fail
  refine K5.out.mono ?_
  rintro e w5 ⟨hb5, T', p', k, hT', rfl, hl5⟩
  obtain ⟨rfl, rfl⟩ := HT4.out.unique hT'
  have B5 := Lib.hid (B4.out.trans (hb5.mono B4.out.size))
  have c1 := row_conv (HX4.out.below hb5)
  have c2 := row_conv (HY4.out.below hb5)
  obtain ⟨X, hX⟩ : ∃ X : ByteArray, X = ⟨xl.toArray⟩ := ⟨_, rfl⟩
  rw [← hX] at c1 c2
  have hle := HT4.out.le
  have hS := Lib.hid (same_any l k T w5 (HL4.out.keep hb5).txs hl5.txs (by have := HL.out; omega))
  have hp : p ≤ 1048576 := by have := HL.out; omega
  clear hb5 hT' hl5 hX hle K5
  go_wp2_with fail
  refine hS.out.mono ?_
  rintro e w6 ⟨rfl, q, rfl⟩
  go_wp2
  go_ret
  exact ⟨rfl, below_dn B5.out q⟩

theorem scans_all (w : World) (tab : Tab w) (a : Option Addr) (len cap : Nat) (b : List UInt8) (hb : Bys w (.slice a len cap) b) (hl : b.length = len) (hn : b.length ≤ 1048576 ∧ len ≤ cap) :
    Calls Tryd.prog 3 #[.slice a len cap] w fun e w' => e = .returned (.bool true) ∧ Below w.heap.size w w' := scans_walk a len cap b w hb hl hn.2 (by omega) tab

end Go.Proofs.YthaggdkfaglgaaaDoor
