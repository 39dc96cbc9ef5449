/- ShaRooted: the walk. -/
import Derived.Test.YtbnnjnieemjdhaaDoorShaEq
import Derived.Test.YtbnnjnieemjdhaaDoorShaTab
import Derived.Deep.DeepCutAuto
namespace Go.Proofs.YtbnnjnieemjdhaaDoor
open Go.RowKit ShaMath

theorem made_zero (k : Nat) : (madeCells (Value.int IntKind.u8 0).cells (k * 1)).toList = (List.replicate k (0 : UInt8)).map bv := by
  rw [Nat.mul_one]
  refine List.ext_getElem (by simp [madeCells]) fun j h1 h2 => ?_
  simp [madeCells, Value.cells, Nat.mod_one, bv]

/-- What both hashes of one row give. -/
theorem both_sums (w W : World) (B g k c : Nat) (l : List UInt8) (h : Row W B (.slice (some ⟨g, 0, none⟩) k c) l) (hk : l.length ≤ 300) (hb : Below w.heap.size w W) (ht : Tabs w) (hc : Consts w) :
    (∃ hs : Array Value, hs = bs (ShaMath.hash l) ∧ (∀ W', (Op.equalIn 10000 25 (.agg hs) (.agg hs)).run Tryd.prog W' = .ok true W') ∧
    (∀ W', Below W.heap.size W W' → Calls Tryd.prog 9 #[.slice (some ⟨g, 0, none⟩) k c] W' fun e w' => e = .returned (.agg hs) ∧ Below W'.heap.size W' w') ∧
    (∀ W', Below W.heap.size W W' → Calls Tryd.prog 10 #[.slice (some ⟨g, 0, none⟩) k c] W' fun e w' => e = .returned (.agg hs) ∧ Below W'.heap.size W' w')) := by
  have hbys := h.bys
  have hkl : l.length = k := by
    obtain ⟨a', c', e⟩ := slice_of_row h
    cases e
    rfl
  have hkc : k ≤ c := by
    by_cases hl : l = []
    · subst hl
      simp at hkl
      omega
    · obtain ⟨g', c', e, _, _, h1, _⟩ := h.shape hl
      cases e
      omega
  refine ⟨_, rfl, fun W' => eq_same W' _ (hash_length l), fun W' hW => ?_, fun W' hW => ?_⟩
  · exact sum_any l _ k c W' (hbys.below (Nat.le_refl _) hW) hkc (by omega) ((ht.1.below (Nat.le_refl _) hb).below (Nat.le_refl _) hW) ((ht.2.below (Nat.le_refl _) hb).below (Nat.le_refl _) hW)
  · exact refsum_any l _ k c W' (hbys.below (Nat.le_refl _) hW) hkl (by omega) ((hc.below (Nat.le_refl _) hb).below (Nat.le_refl _) hW)

theorem rooted_walk (n p c : Int) (w : World) (hc : 0 ≤ c ∧ c ≤ 255) (ht : Tabs w) (hk : Consts w) :
    Calls Tryd.prog 7 #[.int .i64 n, .int .i64 p, .int .u8 c] w fun e w' => e = .returned (.bool true) ∧ Below w.heap.size w w' := by
  obtain ⟨i0, hi, hz0, hz1, hz2⟩ := info_parts info_byte
  have HT := Lib.hid ht
  have HK := Lib.hid hk
  clear ht hk
  obtain ⟨m1, hm1⟩ : ∃ m : Nat, IntKind.u64.wrap n = (m : Int) := ⟨(IntKind.u64.wrap n).toNat, by rw [IntKind.wrap_u64]; omega⟩
  obtain ⟨m2, hm2⟩ : ∃ m : Nat, IntKind.u64.wrap p = (m : Int) := ⟨(IntKind.u64.wrap p).toNat, by rw [IntKind.wrap_u64]; omega⟩
  obtain ⟨k, hk⟩ : ∃ k : Nat, (m1 : Int) % 301 = (k : Int) := ⟨m1 % 301, by omega⟩
  have hk300 : k ≤ 300 := by omega
  go_enter Tryd.func7, Tryd.ntmps7
  go_wp2_with fail
  refine (awake_any _ HT.out).mono ?_
  rintro e w1 ⟨rfl, hb1⟩
  have HB1 := Lib.hid hb1
  have hs1 := hb1.size
  clear hb1
  go_upto_region 4 with (at_make; refine wpList_make_full _ rfl _ _ 22 rfl w.heap.size 5 i0 (.int .u8 0) 1 Tryd.underlying22 hi hz0 hz1 _ _ _ _ k rfl rfl (by first | rfl | omega) (by first | rfl | omega) (by rw [hz2]; omega) (by unfold maxLen; omega) hs1 ?_; intro w2 hown hgrow; (have HO := Lib.hid hown); (have HG := Lib.hid hgrow); clear hown hgrow)
  clear hm1 hk
  have hrow : Row w2 w.heap.size (.slice (some ⟨w1.heap.size, 0, none⟩) k k) (List.replicate k 0) := by
    have h := HO.out
    rw [made_zero] at h
    unfold Row
    rw [List.length_replicate]
    exact h
  have hb2 : Below w.heap.size w w2 := HB1.out.grown HG.out hs1 (by simp)
  obtain ⟨g, hg⟩ : ∃ g, g = w1.heap.size := ⟨_, rfl⟩
  rw [← hg] at hrow ⊢
  have hg0 : w.heap.size ≤ g := by omega
  clear HO HG hg hs1 HB1
  by_cases hpos : 0 < k
  · obtain ⟨j, hj⟩ : ∃ j : Nat, (m2 : Int) % (k : Int) = (j : Int) := ⟨m2 % k, by omega⟩
    have hjk : j < k := by have := Int.emod_lt_of_pos (m2 : Int) (show (0 : Int) < (k : Int) by omega); omega
    obtain ⟨⟨z, hz⟩, hf⟩ := row_cell hrow j (by simpa using hjk)
    obtain ⟨c8, hc8⟩ : ∃ c8 : UInt8, Value.int .u8 c = bv c8 := ⟨UInt8.ofNat c.toNat, by rw [bv_of]; congr 1; omega⟩
    have hset := row_set hrow j c8
    rw [← hc8] at hset
    have hb3 := hb2.setCell (p := ⟨g, j, none⟩) (by simpa using hg0) (.int .u8 c)
    obtain ⟨hs, -, he, hsum, hrsum⟩ := both_sums w _ w.heap.size g k k _ hset (by simp; omega) hb3 HT.out HK.out
    have HE := Lib.hid he
    have HSum := Lib.hid hsum
    have HRs := Lib.hid hrsum
    have HB3 := Lib.hid hb3
    clear hrow hset hb2 hb3 he hsum hrsum hc8
    go_wp2_with fail
    refine (HSum.out _ (Below.refl _ _)).mono ?_
    rintro e w3 ⟨rfl, hb4⟩
    have HB4 := Lib.hid hb4
    clear hb4
    go_wp2_with fail
    refine (HRs.out _ HB4.out).mono ?_
    rintro e w4 ⟨rfl, hb5⟩
    have HB5 := Lib.hid hb5
    clear hb5
    have he := HE.out
    go_wp2

    go_ret
    have h3 := HB3.out
    have h4 := h3.trans (HB4.out.mono h3.size)
    exact ⟨rfl, h4.trans (HB5.out.mono h4.size)⟩
  · have hk0 : k = 0 := by omega
    obtain ⟨hs, -, he, hsum, hrsum⟩ := both_sums w _ w.heap.size g k k _ hrow (by simp; omega) hb2 HT.out HK.out
    have HE := Lib.hid he
    have HSum := Lib.hid hsum
    have HRs := Lib.hid hrsum
    have HB3 := Lib.hid hb2
    clear hrow hb2 he hsum hrsum hk0
    go_wp2_with fail
    refine (HSum.out _ (Below.refl _ _)).mono ?_
    rintro e w3 ⟨rfl, hb4⟩
    have HB4 := Lib.hid hb4
    clear hb4
    go_wp2_with fail
    refine (HRs.out _ HB4.out).mono ?_
    rintro e w4 ⟨rfl, hb5⟩
    have HB5 := Lib.hid hb5
    clear hb5
    have he := HE.out
    go_wp2
    go_ret
    have h3 := HB3.out
    have h4 := h3.trans (HB4.out.mono h3.size)
    exact ⟨rfl, h4.trans (HB5.out.mono h4.size)⟩

theorem rooted_all (w : World) (ht : Tabs w ∧ Consts w) (n : Int) (_hn : (Lit.int .i64 n).wf = true) (p : Int) (_hp : (Lit.int .i64 p).wf = true) (c : Int) (hc : (Lit.int .u8 c).wf = true) :
    Calls Tryd.prog 7 #[.int .i64 n, .int .i64 p, .int .u8 c] w fun e w' => e = .returned (.bool true) ∧ Below w.heap.size w w' := by
  have h3 := bounds_u8 hc
  exact rooted_walk n p c w ⟨by omega, by omega⟩ ht.1 ht.2
end Go.Proofs.YtbnnjnieemjdhaaDoor
