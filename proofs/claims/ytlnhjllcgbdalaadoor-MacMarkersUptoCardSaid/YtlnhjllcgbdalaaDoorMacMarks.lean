/- MacMarks: the walk. -/
import Derived.Test.YtlnhjllcgbdalaaDoorMacDerive
import Derived.Test.YtlnhjllcgbdalaaDoorShaEq
import Derived.Test.YtlnhjllcgbdalaaDoorArr
namespace Go.Proofs.YtlnhjllcgbdalaaDoor
open Go.RowKit ShaMath MacMath BinMath Reg

theorem row_form {w : World} {B : Nat} {v : Value} {l : List UInt8} (h : Row w B v l) : ∃ a c, v = .slice a l.length c ∧ l.length ≤ c := by
  rcases h.2 with ⟨h1, h0⟩ | ⟨g, cap, cur, h1, _, _, h2, _⟩
  · exact ⟨none, 0, by rw [h1, h0], by omega⟩
  · exact ⟨_, _, h1, h2⟩

set_option maxRecDepth 100000 in
theorem marks_walk (key text : List UInt8) (n : Nat) (a b : Option Addr) (na ca nb cb : Nat) (w : World) (hk : Bys w (.slice a na ca) key) (hx : Bys w (.slice b nb cb) text) (hlk : na ≤ 140737488351232) (hlx : nb ≤ 140737488351232) (hn : n < 18446744073709551616) (ht : Tabs w) (hc : Consts w) :
    Calls Tryd.prog 3 #[.slice a na ca, .slice b nb cb, .int .u64 (n : Int)] w fun e w' => e = .returned (.bool true) ∧ Below w.heap.size w w' := by
  have hlenk := bys_len hk
  have hlenx := bys_len hx
  have HV := Lib.hid hk
  have HX := Lib.hid hx
  have HLk := Lib.hid hlenk
  have HLx := Lib.hid hlenx
  have HT := Lib.hid ht
  have HC := Lib.hid hc
  clear hk hx hlenk hlenx ht hc
  go_enter Tryd.func3, Tryd.ntmps3
  go_wp2_with fail
  refine (awake_any _ HT.out).mono ?_
  rintro e w1 ⟨rfl, hb1⟩
  have hs1 := hb1.size
  have hb0 : Below w1.heap.size w1 (w1.alloc (.cells #[] 5)) := (Below.refl _ _).alloc (Nat.le_refl _) _
  have A1 := Lib.hid (append_lit (B := w.heap.size) (g := w1.heap.size) (w := w1.alloc (.cells #[] 5)) hs1 (heap_alloc_new w1 _) ((HV.out.below (Nat.le_refl _) hb1).below (Nat.le_refl _) hb0) (by rw [HLk.out]; omega))
  have HB1 := Lib.hid hb1
  have HB0 := Lib.hid hb0
  clear hb0 hb1
  go_upto_region 4 with (at_builtin; refine wpList_append_by rfl (.tmp 11) (.tmp 12) 22 rfl _ _ rfl rfl _ A1.out ?_; rintro v3 w2 ⟨hr3, hb2⟩; (have HR3 := Lib.hid hr3); (have HB2 := Lib.hid hb2); clear hr3 hb2)
  have hbel : Below w.heap.size w w2 := (HB1.out.trans (HB0.out.mono hs1)).trans (HB2.out.mono (by simp; omega))
  have hs2 := hbel.size
  have hb0 : Below w2.heap.size w2 (w2.alloc (.cells #[] 5)) := (Below.refl _ _).alloc (Nat.le_refl _) _
  have A2 := Lib.hid (append_lit (B := w.heap.size) (g := w2.heap.size) (w := w2.alloc (.cells #[] 5)) hs2 (heap_alloc_new w2 _) ((HX.out.below (Nat.le_refl _) hbel).below (Nat.le_refl _) hb0) (by rw [HLx.out]; omega))
  obtain ⟨a3, c3, rfl, hc3⟩ := row_form HR3.out
  have HB3 := Lib.hid hbel
  have HB4 := Lib.hid hb0
  clear hb0 hbel A1 HB0 HB1 HB2
  go_upto_region 5 with (at_builtin; refine wpList_append_by rfl (.tmp 14) (.tmp 15) 22 rfl _ _ rfl rfl _ A2.out ?_; rintro v5 w3 ⟨hr5, hb5⟩; (have HR5 := Lib.hid hr5); (have HB5 := Lib.hid hb5); clear hr5 hb5)
  obtain ⟨a5, c5, rfl, hc5⟩ := row_form HR5.out
  have hb6 : Below w2.heap.size w2 w3 := HB4.out.trans (HB5.out.mono (by simp))
  have hbel : Below w.heap.size w w3 := HB3.out.trans (hb6.mono hs2)
  have hk3 : Bys w3 (.slice a3 key.length c3) key := HR3.out.bys.below (Nat.le_refl _) hb6
  have hx3 := HR5.out.bys
  have hs3 := hbel.size
  obtain ⟨M, hM⟩ : ∃ M, M = hmac key text := ⟨_, rfl⟩
  obtain ⟨D, hD⟩ : ∃ D, D = hmac key (nodeB ++ numL n) := ⟨_, rfl⟩
  obtain ⟨ms, hms⟩ : ∃ ms, ms = bs M := ⟨_, rfl⟩
  obtain ⟨ds, hds⟩ : ∃ ds, ds = bs D := ⟨_, rfl⟩
  have hem : ∀ W', (Op.equalIn 10000 26 (.agg ms) (.agg ms)).run Tryd.prog W' = .ok true W' := fun W' => by rw [hms, hM]; exact eq_same W' _ (hmac_length _ _)
  have hed : ∀ W', (Op.equalIn 10000 26 (.agg ds) (.agg ds)).run Tryd.prog W' = .ok true W' := fun W' => by rw [hds, hD]; exact eq_same W' _ (hmac_length _ _)
  have c1 : ∀ W, Below w3.heap.size w3 W → Calls Tryd.prog 8 #[.slice a3 key.length c3, .slice a5 text.length c5] W fun e w' => e = .returned (.agg ms) ∧ Below W.heap.size W w' := fun W hW => by
    rw [hms, hM]
    have hb := hbel.trans (hW.mono hs3)
    exact mark_any key text a3 a5 _ c3 _ c5 W (hk3.below (Nat.le_refl _) hW) hc3 (hx3.below (Nat.le_refl _) hW) hc5 (by rw [HLk.out]; omega) (by rw [HLx.out]; omega) (HT.out.below (Nat.le_refl _) hb)
  have c2 : ∀ W, Below w3.heap.size w3 W → Calls Tryd.prog 9 #[.slice a na ca, .slice b nb cb] W fun e w' => e = .returned (.agg ms) ∧ Below W.heap.size W w' := fun W hW => by
    rw [hms, hM]
    have hb := hbel.trans (hW.mono hs3)
    exact refmark_any key text a b na ca nb cb W (HV.out.below (Nat.le_refl _) hb) (HX.out.below (Nat.le_refl _) hb) (by omega) (by omega) (HC.out.below (Nat.le_refl _) hb)
  have c3' : ∀ W, Below w3.heap.size w3 W → Calls Tryd.prog 10 #[.slice a3 key.length c3, .int .u64 (n : Int)] W fun e w' => e = .returned (.agg ds) ∧ Below W.heap.size W w' := fun W hW => by
    rw [hds, hD]
    have hb := hbel.trans (hW.mono hs3)
    exact derive_any key n a3 _ c3 W (hk3.below (Nat.le_refl _) hW) hc3 (by rw [HLk.out]; omega) hn (HT.out.below (Nat.le_refl _) hb)
  have c4 : ∀ W, Below w3.heap.size w3 W → Calls Tryd.prog 11 #[.slice a na ca, .int .u64 (n : Int)] W fun e w' => e = .returned (.agg ds) ∧ Below W.heap.size W w' := fun W hW => by
    rw [hds, hD]
    have hb := hbel.trans (hW.mono hs3)
    exact refderive_any key n a na ca W (HV.out.below (Nat.le_refl _) hb) (by omega) hn (HC.out.below (Nat.le_refl _) hb)
  have HK3 := Lib.hid hk3
  have HX3 := Lib.hid hx3
  have HBel := Lib.hid hbel
  have HEm := Lib.hid hem
  have HEd := Lib.hid hed
  have C1 := Lib.hid c1
  have C2 := Lib.hid c2
  have C3 := Lib.hid c3'
  have C4 := Lib.hid c4
  clear hk3 hx3 hbel hb6 hem hed c1 c2 c3' c4 hM hD hms hds HR3 HR5 HB3 HB4 HB5 A2
  go_wp2_with fail
  refine (C1.out _ (Below.refl _ _)).mono ?_
  rintro e w4 ⟨rfl, hb4⟩
  have HB4 := Lib.hid hb4
  clear hb4
  go_wp2_with fail
  refine (C2.out _ HB4.out).mono ?_
  rintro e w5 ⟨rfl, hb5⟩
  have HB5 := Lib.hid (HB4.out.trans (hb5.mono HB4.out.size))
  clear hb5 HB4
  have hem := HEm.out
  go_wp2_with fail
  clear hem
  refine (C3.out _ HB5.out).mono ?_
  rintro e w6 ⟨rfl, hb6⟩
  have HB6 := Lib.hid (HB5.out.trans (hb6.mono HB5.out.size))
  clear hb6 HB5
  go_wp2_with fail
  refine (C4.out _ HB6.out).mono ?_
  rintro e w7 ⟨rfl, hb7⟩
  have HB7 := Lib.hid (HB6.out.trans (hb7.mono HB6.out.size))
  clear hb7 HB6
  have hed := HEd.out
  have hw7 := HBel.out.trans (HB7.out.mono hs3)
  have e1 := conv_bys (HK3.out.below (Nat.le_refl _) HB7.out)
  have e2 := conv_bys (HV.out.below (Nat.le_refl _) hw7)
  have e3 := conv_bys (HX3.out.below (Nat.le_refl _) HB7.out)
  have e4 := conv_bys (HX.out.below (Nat.le_refl _) hw7)
  have HW7 := Lib.hid hw7
  clear hw7
  go_wp2
  go_ret
  exact ⟨rfl, HW7.out⟩

theorem marks_all (w : World) (ht : Tabs w ∧ Consts w) (a : Option Addr) (na ca : Nat) (x : List Int) (hx : IsRow .u8 w a na ca x) (sx : ca * 1 ≤ 140737488351232) (b : Option Addr) (nb cb : Nat) (y : List Int) (hy : IsRow .u8 w b nb cb y) (sy : cb * 1 ≤ 140737488351232)
    (n : Int) (hn : (Lit.int .u64 n).wf = true) : Calls Tryd.prog 3 #[.slice a na ca, .slice b nb cb, .int .u64 n] w fun e w' => e = .returned (.bool true) ∧ Below w.heap.size w w' := by
  obtain ⟨k, _, hb1⟩ := hx.bys
  obtain ⟨t, _, hb2⟩ := hy.bys
  have h1 := hx.le
  have h2 := hy.le
  have h3 := bounds_u64 hn
  obtain ⟨m, rfl⟩ : ∃ m : Nat, n = (m : Int) := ⟨n.toNat, by omega⟩
  exact marks_walk k t m a b na ca nb cb w hb1 hb2 (by omega) (by omega) (by omega) ht.1 ht.2
end Go.Proofs.YtlnhjllcgbdalaaDoor
