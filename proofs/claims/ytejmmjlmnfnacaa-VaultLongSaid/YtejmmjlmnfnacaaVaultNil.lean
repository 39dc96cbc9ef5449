/- Names that are none, a disk that is none, a vault that is none; other files stay. -/
import Derived.Test.YtejmmjlmnfnacaaVaultAwake
namespace Go.Proofs.Ytejmmjlmnfnacaa
open Go.RowKit Go.Maps DiskMath SwapMath Reg

theorem bys_block {w : World} {ad : Addr} {n c : Nat} {l : List UInt8} (h : Bys w (.slice (some ad) n c) l) (hl : l ≠ []) : ad.block < w.heap.size := by
  rcases h with ⟨h1, -⟩ | ⟨ad', cap, h1, h2⟩
  · cases h1
  · cases h1
    have h3 := h2 0 (by cases l with
      | nil => exact absurd rfl hl
      | cons _ _ => simp)
    have h4 := World.block_lt_of_cell? w _ h3
    rwa [add_block] at h4

abbrev elN : Nm := [101, 108, 115, 101]
def elS (b : List UInt8) : St := ⟨[(elN, b)], [], [⟨0, elN, [], 0, b⟩], 1048576, -1, false⟩

theorem el_write {b : List UInt8} (hb : b.length ≤ 1000) : (St.new 1048576).write elN 0 b = (0, elS b) := by
  have h3 : used (St.new 1048576).now elN (0 : Int).toNat b.length ≤ 1000 := by
    unfold used St.new
    simp [tot, getA]
    split <;> omega
  have h4 : named elN = true := by decide
  have h5 : doA ⟨0, elN, [], 0, b⟩ [] = [(elN, b)] := by
    rw [doA_write]
    simp [getA, putA, delA, insA]
  unfold St.write
  rw [if_neg (by simp [St.new]), h4, if_neg (by simp), if_neg (by omega), if_neg (by show ¬ (max (1048576 : Int) 0 < _); omega)]
  unfold St.said St.run St.burn
  rw [if_neg (by decide), if_neg (by decide), if_neg (by decide), if_neg (by decide)]
  show (0, (⟨doA ⟨0, elN, [], 0, b⟩ [], [], [] ++ [⟨0, elN, [], 0, b⟩], 1048576, -1, false⟩ : St)) = _
  rw [h5]
  rfl

theorem el_now (q : Nm) : elN ≠ nowN q := fun h => by
  have h1 : (46 : UInt8) ∈ nowN q := by simp [nowN]
  rw [← h] at h1
  revert h1
  decide
theorem el_new (q : Nm) : elN ≠ newN q := fun h => by
  have h1 : (46 : UInt8) ∈ newN q := by simp [newN]
  rw [← h] at h1
  revert h1
  decide

theorem el_may (q : Nm) {b : List UInt8} (hb : b.length ≤ 1000) : May q [(elN, b)] (elS b).now none where
  rise := List.pairwise_singleton _ _
  own p hp := .inr (.inr hp)
  kept p hp := by
    simp at hp
    subst hp
    simp [elS, getA]
  short p hp := by
    simp [elS] at hp
    subst hp
    simp only
    omega
  has := by
    have := el_now q
    simp [elS, getA, this]
  apart p hp := by
    simp at hp
    subst hp
    exact ⟨el_now q, el_new q⟩
  lone := by simp

theorem el_open (q : Nm) (b : List UInt8) : opA q (elS b) = (0, elS b) := open_none rfl (by
  have := el_new q
  simp [elS, getA, this])

theorem el_none (q : Nm) (b : List UInt8) : getA (nowN q) (elS b).now = none := by
  have := el_now q
  simp [elS, getA, this]

theorem el_put {q : Nm} (hq : wn q) {b : List UInt8} (hb : b.length ≤ 1000) : (swA q (elS b) b).1 = 0 ∧ (swA q (elS b) b).2.read elN = (0, b) := by
  obtain ⟨h1, h2, h3⟩ := put_calm hq (s := elS b) (b := b) rfl (el_may q hb) rfl (by omega) (by show (262144 : Int) ≤ 1048576; omega)
  refine ⟨h1, ?_⟩
  have h4 := h2.kept (elN, b) (by simp)
  unfold St.read
  rw [if_neg (by simp [h3]), h4]

theorem el_read (b : List UInt8) : (elS b).read elN = (0, b) := by simp [St.read, elS, getA]

set_option maxHeartbeats 4000000 in
set_option maxRecDepth 100000 in
theorem vaultNil_any {w : World} (S : ByteArray) (hS : S.size ≤ maxLen) {a : Option Addr} {n c : Nat} {b : List UInt8} (hb : Bys w (.slice a n c) b) (hn : b.length = n) :
    Calls Try.prog 7 #[.string S, .slice a n c] w fun e w' => e = .returned (.bool true) ∧ Below w.heap.size w w' := by
  obtain ⟨q, hq, hql⟩ : ∃ q, Value.string S = nm q ∧ q.length ≤ 9223372036854775807 := ⟨S.data.toList, nm_of S, by
    have h1 : S.data.toList.length = S.size := Array.length_toList
    rw [h1]; exact hS⟩
  have hnamed := fun w1 => rNamed_any q w1 hql
  rw [← hq] at hnamed
  have HNamed := Lib.hid hnamed
  by_cases hlong : 1000 < n
  · have hd : decide (1000 < (n : Int)) = true := by simp; omega
    clear hb hn hq hql hnamed HNamed hS
    go_enter Try.func7, Try.ntmps7
    go_wp2_with fail
    refine (vawake_any w).mono ?_
    rintro e w1 ⟨rfl, hb1⟩
    have HB1 := Lib.hid hb1
    clear hb1
    go_wp2_with fail
    refine (vawake_any w1).mono ?_
    rintro e w2 ⟨rfl, hb2⟩
    have HB2 := Lib.hid (HB1.out.trans (hb2.mono HB1.out.size))
    clear hb2
    go_wp2
    go_ret
    exact ⟨rfl, HB2.out⟩
  have hd : decide (1000 < (n : Int)) = false := by simp; omega
  have hb1000 : b.length ≤ 1000 := by omega
  have HBy := Lib.hid hb
  have HN := Lib.hid hn
  have H1000 := Lib.hid hb1000
  have HQ := Lib.hid hq
  have HQl := Lib.hid hql
  have hwr : ∀ W d', Lone w W d' 0 (St.new 1048576) → Calls Try.prog 24 #[dp d', nm elN, .int .i64 0, .slice a n c] W fun e w' => e = .returned (.int .i64 0) ∧ Lone w w' d' 1 (elS b) := fun W d' hL => by
    have h := lwrite_any hL (n := elN) (a := 0) (by omega) (by decide) (by omega) (hb.below (Nat.le_refl _) hL.bel) hn (by omega)
    rw [el_write hb1000] at h
    exact h
  have HWr := Lib.hid hwr
  clear hb hn hb1000 hq hql hnamed hS hlong hwr
  go_enter Try.func7, Try.ntmps7
  go_wp2_with fail
  refine (vawake_any w).mono ?_
  rintro e w1 ⟨rfl, hb1⟩
  have HB1 := Lib.hid hb1
  clear hb1
  go_wp2_with fail
  refine (lnew_any w w1 1048576 HB1.out).mono ?_
  rintro e w2 ⟨d, rfl, hL⟩
  have HL2 := Lib.hid hL
  have HW := Lib.hid (HWr.out w2 d hL)
  clear hL hd
  go_wp2_with fail
  refine HW.out.mono ?_
  rintro e w3 ⟨rfl, hL⟩
  have HL3 := Lib.hid hL
  clear hL HW HWr
  cases hw : wnB q with
  | false =>
    rw [hw] at HNamed
    have hop := vOpen_arg hw HQl.out (some ⟨d, 0, none⟩) w3
    rw [← HQ.out] at hop
    have HOp := Lib.hid hop
    clear hop hw
    go_wp2_with fail
    refine HOp.out.mono ?_
    rintro e w3' ⟨rfl, rfl⟩
    go_wp2_with fail
    refine (nvOpen_any (q := [115, 110, 97, 112]) (by decide) w3').mono ?_
    rintro e w4 ⟨rfl, hb4⟩
    have HL4 := Lib.hid (HL3.out.below hb4)
    have hrd := lread_any HL4.out (n := elN) (by decide)
    rw [el_read] at hrd
    have HRd := Lib.hid hrd
    clear hb4 hrd
    go_wp2_with fail
    refine (HNamed.out w4).mono ?_
    rintro e w4' ⟨rfl, rfl⟩
    go_wp2_with fail
    refine HRd.out.mono ?_
    rintro e w5 ⟨v, rfl, hr, -, hL5⟩
    obtain ⟨va, vc, rfl⟩ := slice_of_row hr
    obtain ⟨Y, hY⟩ : ∃ Y : ByteArray, Y = ⟨b.toArray⟩ := ⟨_, rfl⟩
    have HYY := Lib.hid hY
    have HR5 := Lib.hid hr
    have HL5 := Lib.hid hL5
    have hcv : ∀ W, Below w5.heap.size w5 W → (convert 50 9 (.slice va b.length vc)).run Try.prog W = .ok (.string Y) W ∧ (convert 50 9 (.slice a n c)).run Try.prog W = .ok (.string Y) W := fun W hW => by
      rw [HYY.out]
      exact ⟨conv_bys (HR5.out.bys.below (Nat.le_refl _) hW), conv_bys (HBy.out.below (Nat.le_refl _) (HL5.out.below hW).bel)⟩
    have HCv := Lib.hid hcv
    obtain ⟨m, hm⟩ : ∃ m, m = b.length := ⟨_, rfl⟩
    rw [← hm] at HCv ⊢
    clear hY hr hL5 hcv hm HRd
    go_wp2_with fail
    refine (nvPut_any _ w5).mono ?_
    rintro e w5' ⟨rfl, rfl⟩
    go_wp2_with fail
    refine (ntext_any w5').mono ?_
    rintro e w6 ⟨rfl, hb6⟩
    have e6 : tv none = .agg #[.string ⟨#[]⟩, .bool false] := rfl
    rw [e6]
    obtain ⟨k1, k2⟩ := HCv.out w6 hb6
    have HL6 := Lib.hid (HL5.out.below hb6)
    clear hb6 e6
    go_wp2
    go_ret
    exact ⟨rfl, HL6.out.bel⟩
  | true =>
    rw [hw] at HNamed
    have hwq := (wnB_wn q).1 hw
    obtain ⟨T, hD, hT, hbel⟩ := HL3.out
    have hop := vOpen_any hwq hD (by omega)
    rw [el_open, el_none, ← HQ.out] at hop
    have HOp := Lib.hid hop
    have HT := Lib.hid hT
    have HBel := Lib.hid hbel
    have HWq := Lib.hid hwq
    clear hop hw hD hT hbel hwq
    go_wp2_with fail
    refine HOp.out.mono ?_
    rintro e w4 (⟨h6, -⟩ | ⟨-, z, x, U, rfl, hz, hsw, hzU, hU, hv, ho⟩)
    · exact absurd h6 (by decide)
    have hsw' : Sw w4 U x d 2 q (elS b) none false := hsw
    have hb4 : Below w.heap.size w w4 := HBel.out.trans (ho.below (fun k hk h => by have := HT.out k h; omega) HBel.out.size)
    have hU0 : ∀ k, U k → w.heap.size ≤ k := fun k hk => (hU k hk).elim (HT.out k) fun h => Nat.le_trans HBel.out.size h
    have HS4 := Lib.hid hsw'
    have HV4 := Lib.hid hv
    have HB4 := Lib.hid hb4
    have HU0 := Lib.hid hU0
    have HzU := Lib.hid hzU
    clear hz hsw hzU hU hv ho hsw' hb4 hU0 HOp
    go_wp2_with fail
    refine (nvOpen_any (q := [115, 110, 97, 112]) (by decide) w4).mono ?_
    rintro e w5 ⟨rfl, hb5⟩
    have hb5' := HB4.out.trans (hb5.mono HB4.out.size)
    have hput := vPut_any HWq.out (HV4.out.keep hb5) (HS4.out.below hb5) (HBy.out.below (Nat.le_refl _) hb5') HN.out (by have := H1000.out; have := HN.out; omega) (fun hne ad e => by
      subst e
      have h1 := bys_block HBy.out hne
      exact ⟨by have := hb5'.size; omega, fun h => by have := HU0.out _ h; omega⟩) (by omega)
    rw [(el_put HWq.out H1000.out).1] at hput
    have HP := Lib.hid hput
    have HB5 := Lib.hid hb5'
    clear hb5 hb5' hput
    go_wp2_with fail
    refine (HNamed.out w5).mono ?_
    rintro e w5' ⟨rfl, rfl⟩
    go_wp2_with fail
    refine HP.out.mono ?_
    rintro e w6 ⟨rfl, h6, -, -⟩
    have h6 := h6 rfl
    have hb6 : Below w.heap.size w w6 := HB5.out.trans (h6.only.below (fun k hk h => by have := HU0.out k h; omega) HB5.out.size)
    have hrd := read_any h6.sw.disk (n := elN) (by decide)
    rw [(el_put HWq.out H1000.out).2] at hrd
    have HRd := Lib.hid hrd
    have HB6 := Lib.hid hb6
    have e0 : ((saysC 0 : Nat) : Int) = 0 := rfl
    rw [e0]
    clear h6 hb6 hrd e0 HP
    go_wp2_with fail
    refine HRd.out.mono ?_
    rintro e w7 ⟨v, rfl, hr, hb7⟩
    obtain ⟨va, vc, rfl⟩ := slice_of_row hr
    obtain ⟨Y, hY⟩ : ∃ Y : ByteArray, Y = ⟨b.toArray⟩ := ⟨_, rfl⟩
    have HYY := Lib.hid hY
    have HR7 := Lib.hid hr
    have HB7 := Lib.hid (HB6.out.trans (hb7.mono HB6.out.size))
    have hcv : ∀ W, Below w7.heap.size w7 W → (convert 50 9 (.slice va b.length vc)).run Try.prog W = .ok (.string Y) W ∧ (convert 50 9 (.slice a n c)).run Try.prog W = .ok (.string Y) W := fun W hW => by
      rw [HYY.out]
      exact ⟨conv_bys (HR7.out.bys.below (Nat.le_refl _) hW), conv_bys (HBy.out.below (Nat.le_refl _) (HB7.out.trans (hW.mono HB7.out.size)))⟩
    have HCv := Lib.hid hcv
    obtain ⟨m, hm⟩ : ∃ m, m = b.length := ⟨_, rfl⟩
    rw [← hm] at HCv ⊢
    clear hY hr hb7 hcv hm HRd
    go_wp2_with fail
    refine (nvPut_any _ w7).mono ?_
    rintro e w7' ⟨rfl, rfl⟩
    go_wp2_with fail
    refine (ntext_any w7').mono ?_
    rintro e w8 ⟨rfl, hb8⟩
    have e6 : tv none = .agg #[.string ⟨#[]⟩, .bool false] := rfl
    rw [e6]
    obtain ⟨k1, k2⟩ := HCv.out w8 hb8
    have HB8 := Lib.hid (HB7.out.trans (hb8.mono HB7.out.size))
    clear hb8 e6
    go_wp2
    go_ret
    exact ⟨rfl, HB8.out⟩

theorem vaultNil_all (W : World) (S : ByteArray) (hS : S.size ≤ maxLen) (a : Option Addr) (len cap : Nat) (zs : List Int) (hz : IsRow .u8 W a len cap zs) (_ : cap * 1 ≤ 140737488351232) :
    Calls Try.prog 7 #[.string S, .slice a len cap] W fun e W' => e = .returned (.bool true) ∧ Below W.heap.size W W' := by
  obtain ⟨l, h1, h2⟩ := hz.bys
  exact vaultNil_any S hS h2 h1
end Go.Proofs.Ytejmmjlmnfnacaa
