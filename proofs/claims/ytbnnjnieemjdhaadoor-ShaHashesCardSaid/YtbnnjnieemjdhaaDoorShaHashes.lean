/- ShaHashes: the walk. -/
import Derived.Test.YtbnnjnieemjdhaaDoorShaRooted
namespace Go.Proofs.YtbnnjnieemjdhaaDoor
open Go.RowKit ShaMath

theorem hashes_walk (l : List UInt8) (a : Option Addr) (len cap : Nat) (w : World) (hv : Bys w (.slice a len cap) l) (hll : l.length = len) (hl : len ≤ 140737488351232) (ht : Tabs w) (hk : Consts w) :
    Calls Tryd.prog 3 #[.slice a len cap] w fun e w' => e = .returned (.bool true) ∧ Below w.heap.size w w' := by
  have HV := Lib.hid hv
  have HLL := Lib.hid hll
  have HT := Lib.hid ht
  have HK := Lib.hid hk
  clear hv hll ht hk
  go_enter Tryd.func3, Tryd.ntmps3
  go_wp2_with fail
  refine (awake_any _ HT.out).mono ?_
  rintro e w1 ⟨rfl, hb1⟩
  have hs1 := hb1.size
  have hb0 : Below w1.heap.size w1 (w1.alloc (.cells #[] 5)) := (Below.refl _ _).alloc (Nat.le_refl _) _
  have A1 := Lib.hid (append_lit (B := w.heap.size) (g := w1.heap.size) (w := w1.alloc (.cells #[] 5)) hs1 (heap_alloc_new w1 _) ((HV.out.below (Nat.le_refl _) hb1).below (Nat.le_refl _) hb0) (by rw [HLL.out]; omega))
  have HB1 := Lib.hid hb1
  have HB0 := Lib.hid hb0
  clear hb0 hb1
  go_upto_region 4 with (at_builtin; refine wpList_append_by rfl (.tmp 6) (.tmp 7) 22 rfl _ _ rfl rfl _ A1.out ?_; rintro v3 w2 ⟨hr3, hb2⟩; (have HR3 := Lib.hid hr3); (have HB2 := Lib.hid hb2); clear hr3 hb2)
  have hbel : Below w.heap.size w w2 := (HB1.out.trans (HB0.out.mono hs1)).trans (HB2.out.mono (by simp; omega))
  have hs2 := hbel.size
  have hsl : ∃ a3 n3 c3, v3 = .slice a3 n3 c3 ∧ n3 ≤ c3 := by
    rcases HR3.out.2 with ⟨h1, _⟩ | ⟨g, cap, cur, h1, _, _, h2, _⟩
    · exact ⟨none, 0, 0, h1, Nat.le_refl _⟩
    · exact ⟨_, _, _, h1, h2⟩
  obtain ⟨a3, n3, c3, rfl, hnc⟩ := hsl
  have hby3 := HR3.out.bys
  have hby0 := HV.out.below (Nat.le_refl _) hbel
  obtain ⟨hs, hhs⟩ : ∃ hs, hs = bs (ShaMath.hash l) := ⟨_, rfl⟩
  have heq : ∀ W', (Op.equalIn 10000 25 (.agg hs) (.agg hs)).run Tryd.prog W' = .ok true W' := fun W' => by rw [hhs]; exact eq_same W' _ (hash_length l)
  have hsum : Calls Tryd.prog 9 #[.slice a3 n3 c3] w2 fun e w' => e = .returned (.agg hs) ∧ Below w2.heap.size w2 w' := by
    rw [hhs]
    exact sum_any l a3 n3 c3 w2 hby3 hnc (by rw [HLL.out]; omega) (HT.out.1.below (Nat.le_refl _) hbel) (HT.out.2.below (Nat.le_refl _) hbel)
  have hrs : ∀ W', Below w2.heap.size w2 W' → Calls Tryd.prog 10 #[.slice a len cap] W' fun e w' => e = .returned (.agg hs) ∧ Below W'.heap.size W' w' := fun W' hW => by
    rw [hhs]
    exact refsum_any l a len cap W' (hby0.below (Nat.le_refl _) hW) HLL.out hl ((HK.out.below (Nat.le_refl _) hbel).below (Nat.le_refl _) hW)
  have HB3 := Lib.hid hby3
  have HB0' := Lib.hid hby0
  have HBel := Lib.hid hbel
  have HE := Lib.hid heq
  have HSum := Lib.hid hsum
  have HRs := Lib.hid hrs
  clear hhs heq hsum hrs hby3 hby0 hbel A1 HB0 HB1 HB2 HR3
  go_wp2_with fail
  refine HSum.out.mono ?_
  rintro e w3 ⟨rfl, hb4⟩
  have HB4 := Lib.hid hb4
  clear hb4
  go_wp2_with fail
  refine (HRs.out _ HB4.out).mono ?_
  rintro e w4 ⟨rfl, hb5⟩
  have hb6 := HB4.out.trans (hb5.mono HB4.out.size)
  have he := HE.out
  have hc1 := conv_bys (HB3.out.below (Nat.le_refl _) hb6)
  have hc2 := conv_bys (HB0'.out.below (Nat.le_refl _) hb6)
  have HB6 := Lib.hid hb6
  clear hb5 hb6
  go_wp2
  go_ret
  exact ⟨rfl, HBel.out.trans (HB6.out.mono hs2)⟩

theorem hashes_all (w : World) (ht : Tabs w ∧ Consts w) (a : Option Addr) (len cap : Nat) (z : List Int) (hz : IsRow .u8 w a len cap z) (sz : cap * 1 ≤ 140737488351232) :
    Calls Tryd.prog 3 #[.slice a len cap] w fun e w' => e = .returned (.bool true) ∧ Below w.heap.size w w' := by
  obtain ⟨l, hl, hb⟩ := hz.bys
  have := hz.le
  exact hashes_walk l a len cap w hb hl (by omega) ht.1 ht.2
end Go.Proofs.YtbnnjnieemjdhaaDoor
