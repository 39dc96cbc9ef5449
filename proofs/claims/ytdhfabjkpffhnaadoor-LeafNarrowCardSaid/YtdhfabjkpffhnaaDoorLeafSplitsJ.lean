/- LeafSplits: the walk. -/
import Derived.Test.YtdhfabjkpffhnaaDoorLeafRootsJ
namespace Go.Proofs.YtdhfabjkpffhnaaDoor
set_option maxRecDepth 20000
open Go.RowKit ShaMath LeafMath Reg

theorem wrap_pow (t P : Nat) (ht : t ≤ 6) (hP : P = 2 ^ t) : wrap64 (2 ^ t) = (P : Int) := by
  have hb : P ≤ 64 := by rw [hP]; exact Nat.le_trans (Nat.pow_le_pow_right (by decide) ht) (by decide)
  have e : (2 : Int) ^ t = (P : Int) := by rw [hP]; simp
  rw [e]
  exact IntWalk.wrap64_in _ ⟨by omega, by omega⟩

set_option maxHeartbeats 1000000 in
set_option maxRecDepth 100000 in
theorem leafSplits_walk (hp : LeafProg) (hdp : DataProg) (n : Int) (hn : I64 n) (k : Nat) (hk : k < 256) (hs : List Hs) (v : Value) (w : World) (hv : Hss w v hs) (ht : Tabs w) :
    Calls Tryd.prog 7 #[.int .i64 n, .int .u8 (k : Int), v] w fun e w' => e = .returned (.bool true) ∧ Below w.heap.size w w' := by
  obtain ⟨a, c, rfl, hc⟩ := hv.form
  obtain ⟨m, hm⟩ : ∃ m, m = hs.length := ⟨_, rfl⟩
  rw [← hm] at hv hc ⊢
  obtain ⟨t, htt⟩ : ∃ t, t = k % 7 := ⟨_, rfl⟩
  have ht6 : t ≤ 6 := by omega
  have hkt : (k : Int) % 7 = (t : Int) := by omega
  obtain ⟨P, hP⟩ : ∃ P, P = 2 ^ t := ⟨_, rfl⟩
  have hP1 : 1 ≤ P := by rw [hP]; exact Nat.pow_pos (by decide)
  have hP64 : P ≤ 64 := by rw [hP]; exact Nat.le_trans (Nat.pow_le_pow_right (by decide) ht6) (by decide)
  obtain ⟨P2, hP2⟩ : ∃ P2 : Nat, 2 * (P : Int) = (P2 : Int) := ⟨2 * P, by omega⟩
  have HP2 := Lib.hid (show P2 = 2 * P by omega)
  have hP2b : P2 ≤ 128 := by omega
  have hw := wrap_pow t P ht6 hP
  have HT := Lib.hid ht
  have HPr := Lib.hid hp
  have HDt := Lib.hid hdp
  have HN := Lib.hid hn
  have HPd := Lib.hid hP
  have HMm := Lib.hid hm
  clear hP htt ht6 hm
  go_enter Tryd.func7, Tryd.ntmps7
  go_wp2_with fail
  refine (awake14_any HPr.out HDt.out _ HT.out).mono ?_
  rintro e W1 ⟨rfl, hb1⟩
  have HB1 := Lib.hid hb1
  clear hb1
  go_upto_region 4 with fail
  rw [hw]
  clear hw
  by_cases hsmall : m ≤ P
  · go_wp2
    go_ret
    exact ⟨rfl, HB1.out⟩
  · by_cases hbig : P2 < m
    · have hv2 : Hss w (.slice a P2 c) (hs.take P2) := by
        have := hv.sub 0 P2 (by omega) (by omega)
        rw [sliced_zero] at this
        simpa using this
      have hl2 : (hs.take P2).length = P2 := by rw [List.length_take, ← HMm.out]; omega
      have hsl : ∀ W, (Instr.sliceAt 30 (.slice a m c) none (some (.int .i64 (P2 : Int))) none).run Tryd.prog W = .ok (.slice a P2 c) W := fun W => by
        have := slice_hs_to a m c P2 (by omega) W
        rwa [sliced_zero] at this
      obtain ⟨gs, hgs⟩ : ∃ h, h = hs.take P2 := ⟨_, rfl⟩
      rw [← hgs] at hv2 hl2
      have hPM : P < P2 := by have := HP2.out; omega
      have hMP : P2 ≤ P2 := Nat.le_refl _
      have HV := Lib.hid hv2
      have HL := Lib.hid hl2
      clear hv hv2 hl2 hgs
      go_upto_region 8 with fail
      clear hsl hkt hP2
      have hll : gs.length = P2 := HL.out
      obtain ⟨R, hR, hR32⟩ : ∃ R, R = rootH n gs ∧ R.length = 32 := ⟨_, rfl, rootH_length _ _ HV.out.all⟩
      obtain ⟨RL, hRL, hRL32⟩ : ∃ R, R = rootH n (gs.take P) ∧ R.length = 32 := ⟨_, rfl, rootH_length _ _ (HV.out.all.take P)⟩
      obtain ⟨RR, hRR, hRR32⟩ : ∃ R, R = rootH n (gs.drop P) ∧ R.length = 32 := ⟨_, rfl, rootH_length _ _ (HV.out.all.drop P)⟩
      obtain ⟨F, hF0⟩ : ∃ F, gs[0]? = some F := ⟨gs[0]'(by omega), List.getElem?_eq_getElem _⟩
      have hF32 := HV.out.all.get hF0
      obtain ⟨ad, rfl, _⟩ := HV.out.load hF0
      have hnode : nodeH n RL RR = R := by
        have hs2 : splitN gs.length = P := by rw [hll, HPd.out]; exact splitN_is (by have := HPd.out; omega) (by have := HPd.out; have := HP2.out; omega)
        rw [hR, rootH_more n gs (by omega), hs2, hRL, hRR]
      have hone : gs.take 1 = [F] := by
        obtain ⟨q1, q2⟩ := List.getElem?_eq_some_iff.1 hF0
        rw [List.take_succ_eq_append_getElem q1, q2]
        rfl
      obtain ⟨va, hva⟩ : ∃ va, va = sliced (some ad) 0 P c 32 := ⟨_, rfl⟩
      obtain ⟨vb, hvb⟩ : ∃ vb, vb = sliced (some ad) P P2 c 32 := ⟨_, rfl⟩
      obtain ⟨vc, hvc⟩ : ∃ vc, vc = sliced (some ad) 0 1 c 32 := ⟨_, rfl⟩
      have h1s : Hss w va (gs.take P) := by
        have := HV.out.sub 0 P (by omega) (by omega)
        rw [hva]
        simpa using this
      have h2s : Hss w vb (gs.drop P) := by
        have := HV.out.sub P P2 (by omega) (by omega)
        rw [hvb]
        rwa [List.take_of_length_le (by omega)] at this
      have h3s : Hss w vc [F] := by
        have := HV.out.sub 0 1 (by omega) (by omega)
        rw [hvc, ← hone]
        simpa using this
      have HSa := Lib.hid (fun (W : World) => show (Instr.sliceAt 30 (.slice (some ad) P2 c) none (some (.int .i64 (P : Int))) none).run Tryd.prog W = .ok va W by rw [hva]; exact slice_hs_to (some ad) P2 c P (by omega) W)
      have HSb := Lib.hid (fun (W : World) => show (Instr.sliceAt 30 (.slice (some ad) P2 c) (some (.int .i64 (P : Int))) none none).run Tryd.prog W = .ok vb W by rw [hvb]; exact slice_hs_from (some ad) P2 c P (by omega) W)
      have HSc := Lib.hid (fun (W : World) => show (Instr.sliceAt 30 (.slice (some ad) P2 c) none (some (.int .i64 1)) none).run Tryd.prog W = .ok vc W by rw [hvc]; exact slice_hs_to (some ad) P2 c 1 (by omega) W)
      have HLd := Lib.hid (fun (W : World) (hW : Below W1.heap.size W1 W) => load_hash W ad F hF32 fun j u hj => by
        obtain ⟨ad2, e, h⟩ := (HV.out.below (Nat.le_refl _) (HB1.out.trans (hW.mono HB1.out.size))).load hF0
        cases e
        simpa [Addr.add] using h j u hj)
      have HIx := Lib.hid (fun (W : World) => show (Instr.indexAt 30 (.slice (some ad) P2 c) (.int .i64 0)).run Tryd.prog W = .ok (.pointer (some ad)) W by simpa [Addr.add] using hss_index W ad P2 c 0 (by omega))
      have PR := Lib.hid (fun (W : World) (hW : Below W1.heap.size W1 W) => HPr.out.root n gs (.slice (some ad) P2 c) W HN.out (HV.out.below (Nat.le_refl _) (HB1.out.trans (hW.mono HB1.out.size))) (by omega) (HT.out.below (Nat.le_refl _) (HB1.out.trans (hW.mono HB1.out.size))))
      have PL := Lib.hid (fun (W : World) (hW : Below W1.heap.size W1 W) => HPr.out.root n (gs.take P) va W HN.out (h1s.below (Nat.le_refl _) (HB1.out.trans (hW.mono HB1.out.size))) (by rw [List.length_take]; omega) (HT.out.below (Nat.le_refl _) (HB1.out.trans (hW.mono HB1.out.size))))
      have PQ := Lib.hid (fun (W : World) (hW : Below W1.heap.size W1 W) => HPr.out.root n (gs.drop P) vb W HN.out (h2s.below (Nat.le_refl _) (HB1.out.trans (hW.mono HB1.out.size))) (by rw [List.length_drop]; omega) (HT.out.below (Nat.le_refl _) (HB1.out.trans (hW.mono HB1.out.size))))
      have PF := Lib.hid (fun (W : World) (hW : Below W1.heap.size W1 W) => HPr.out.root n [F] vc W HN.out (h3s.below (Nat.le_refl _) (HB1.out.trans (hW.mono HB1.out.size))) (by simp) (HT.out.below (Nat.le_refl _) (HB1.out.trans (hW.mono HB1.out.size))))
      have PN := Lib.hid (fun (W : World) (hW : Below W1.heap.size W1 W) => HPr.out.node n RL RR W HN.out hRL32 hRR32 (HT.out.below (Nat.le_refl _) (HB1.out.trans (hW.mono HB1.out.size))))
      rw [← hR] at PR
      rw [← hRL] at PL
      rw [← hRR] at PQ
      rw [rootH_one] at PF
      rw [hnode] at PN
      have HR := Lib.hid hR32
      have HF := Lib.hid hF32
      have hG : ∀ W W' : World, Below W1.heap.size W1 W → Below W.heap.size W W' → Below W1.heap.size W1 W' := fun W W' h h' => h.trans (h'.mono h.size)
      clear hll hR hRL hRR hF0 hF32 hR32 hRL32 hRR32 hnode hone hva hvb hvc h1s h2s h3s
      refine region_by [(26, .is (.int .i64 n)), (27, .is (.slice (some ad) P2 c)), (28, .is (.agg (bs R))), (29, .is (.int .i64 n)), (30, .is (.int .i64 n)), (31, .is (.slice (some ad) P2 c)), (32, .is (.int .i64 (P : Int))), (33, .is va), (34, .is (.agg (bs RL))), (35, .is (.int .i64 n)), (36, .is (.slice (some ad) P2 c)), (37, .is (.int .i64 (P : Int))), (38, .is vb), (39, .is (.agg (bs RR))), (40, .is (.agg (bs R))), (41, .is (.bool true)), (42, .is (.bool true)), (43, .is (.int .i64 n)), (44, .is (.slice (some ad) P2 c)), (45, .is vc), (46, .is (.agg (bs F))), (47, .is (.slice (some ad) P2 c)), (48, .is (.pointer (some ad))), (49, .is (.agg (bs F))), (50, .is (.bool true)), (51, .is (.bool true)), (6, .is (.bool true))] [6] (fun W => Below W1.heap.size W1 W) (by kernel_rfl) (by kernel_rfl) (by kernel_rfl) (by kernel_rfl) (by kernel_rfl) ((Below.refl _ _).drew) ?_ ?_
      · refine ⟨?c0, ?c1, ?c2, ?c3, ?c4, ?c5, ?c6, ?c7, ?c8, ?c9, ?c10, ?c11, ?c12, ?c13, ?c14, ?c15, ?c16, ?c17, ?c18, ?c19, ?c20, ?c21, ?c22, ?c23, ?c24, ?c25, ?c26, trivial⟩
        case c0 => exact ask_copy (guard_none rfl) (.tmp 0) (.inl rfl) (by intro k hk; cases hk; rfl)
        case c1 => exact ask_copy (guard_none rfl) (.tmp 2) (.inl rfl) (by intro k hk; cases hk; rfl)
        case c2 => exact ask_call hG (guard_none rfl) _ _ _ #[.int .i64 n, .slice (some ad) P2 c] (.is (.agg (bs R))) rfl (by kernel_rfl) rfl rfl (by intro k hk; cases hk; rfl) (fun W hW => (PR.out W hW).mono fun e w' h => ⟨_, h.1, rfl, h.2⟩)
        case c3 => exact ask_copy (guard_none rfl) (.tmp 0) (.inl rfl) (by intro k hk; cases hk; rfl)
        case c4 => exact ask_copy (guard_none rfl) (.tmp 0) (.inl rfl) (by intro k hk; cases hk; rfl)
        case c5 => exact ask_copy (guard_none rfl) (.tmp 2) (.inl rfl) (by intro k hk; cases hk; rfl)
        case c6 => exact ask_copy (guard_none rfl) (.tmp 7) (.inl rfl) (by intro k hk; cases hk; rfl)
        case c7 => exact ask_slice (guard_none rfl) _ (.tmp 31) none (some (.tmp 32)) none (.slice (some ad) P2 c) va none (some (.int .i64 (P : Int))) none rfl rfl rfl rfl rfl (by intro k hk; cases hk; rfl) (HSa.out)
        case c8 => exact ask_call hG (guard_none rfl) _ _ _ #[.int .i64 n, va] (.is (.agg (bs RL))) rfl (by kernel_rfl) rfl rfl (by intro k hk; cases hk; rfl) (fun W hW => (PL.out W hW).mono fun e w' h => ⟨_, h.1, rfl, h.2⟩)
        case c9 => exact ask_copy (guard_none rfl) (.tmp 0) (.inl rfl) (by intro k hk; cases hk; rfl)
        case c10 => exact ask_copy (guard_none rfl) (.tmp 2) (.inl rfl) (by intro k hk; cases hk; rfl)
        case c11 => exact ask_copy (guard_none rfl) (.tmp 7) (.inl rfl) (by intro k hk; cases hk; rfl)
        case c12 => exact ask_slice (guard_none rfl) _ (.tmp 36) (some (.tmp 37)) none none (.slice (some ad) P2 c) vb (some (.int .i64 (P : Int))) none none rfl rfl rfl rfl rfl (by intro k hk; cases hk; rfl) (HSb.out)
        case c13 => exact ask_call hG (guard_none rfl) _ _ _ #[.int .i64 n, vb] (.is (.agg (bs RR))) rfl (by kernel_rfl) rfl rfl (by intro k hk; cases hk; rfl) (fun W hW => (PQ.out W hW).mono fun e w' h => ⟨_, h.1, rfl, h.2⟩)
        case c14 => exact ask_call hG (guard_none rfl) _ _ _ #[.int .i64 n, .agg (bs RL), .agg (bs RR)] (.is (.agg (bs R))) rfl (by kernel_rfl) rfl rfl (by intro k hk; cases hk; rfl) (fun W hW => (PN.out W hW).mono fun e w' h => ⟨_, h.1, rfl, h.2⟩)
        case c15 => exact ask_bin (guard_none rfl) .eql _ _ (.tmp 28) (.tmp 40) (.agg (bs R)) (.agg (bs R)) (.bool true) rfl rfl rfl (by intro k hk; cases hk; rfl) (eql_hash _ _ R HR.out)
        case c16 => exact ask_copy (guard_none rfl) (.tmp 41) (.inl rfl) (by intro k hk; cases hk; rfl)
        case c17 => exact ask_copy (guard_some rfl rfl rfl) (.tmp 0) (.inl rfl) (by intro k hk; cases hk; rfl)
        case c18 => exact ask_copy (guard_some rfl rfl rfl) (.tmp 2) (.inl rfl) (by intro k hk; cases hk; rfl)
        case c19 => exact ask_slice (guard_some rfl rfl rfl) _ (.tmp 44) none (some (.const (.int .i64 1))) none (.slice (some ad) P2 c) vc none (some (.int .i64 1)) none rfl rfl rfl rfl rfl (by intro k hk; cases hk; rfl) (HSc.out)
        case c20 => exact ask_call hG (guard_some rfl rfl rfl) _ _ _ #[.int .i64 n, vc] (.is (.agg (bs F))) rfl (by kernel_rfl) rfl rfl (by intro k hk; cases hk; rfl) (fun W hW => (PF.out W hW).mono fun e w' h => ⟨_, h.1, rfl, h.2⟩)
        case c21 => exact ask_copy (guard_some rfl rfl rfl) (.tmp 2) (.inl rfl) (by intro k hk; cases hk; rfl)
        case c22 => exact ask_idx (guard_some rfl rfl rfl) _ (.tmp 47) (.const (.int .i64 0)) (.slice (some ad) P2 c) (.int .i64 0) (.pointer (some ad)) rfl rfl rfl (by intro k hk; cases hk; rfl) HIx.out
        case c23 => exact ask_load (guard_some rfl rfl rfl) _ (.tmp 48) (.pointer (some ad)) (.agg (bs F)) rfl rfl (by intro k hk; cases hk; rfl) (fun W hW => HLd.out W hW)
        case c24 => exact ask_bin (guard_some rfl rfl rfl) .eql _ _ (.tmp 46) (.tmp 49) (.agg (bs F)) (.agg (bs F)) (.bool true) rfl rfl rfl (by intro k hk; cases hk; rfl) (eql_hash _ _ F HF.out)
        case c25 => exact ask_pick (guard_none rfl) (.tmp 42) (.tmp 50) (.const (.bool false)) true rfl rfl (by intro k hk; cases hk; rfl)
        case c26 => exact ask_copy (guard_none rfl) (.tmp 51) (.inr rfl) (by intro k hk; cases hk; rfl)
      · intro a' W hW hd' hs' hf'
        have t6 : a'.tmps.getD 6 undef = .bool true := hf' 6 rfl
        obtain ⟨us', hus, ha'⟩ := act_open 52 a' hs' hd'
        rw [← hus] at t6
        have el : ((List.range 52).map us').toArray = #[us' 0, us' 1, us' 2, us' 3, us' 4, us' 5, .bool true, us' 7, us' 8, us' 9, us' 10, us' 11, us' 12, us' 13, us' 14, us' 15, us' 16, us' 17, us' 18, us' 19, us' 20, us' 21, us' 22, us' 23, us' 24, us' 25, us' 26, us' 27, us' 28, us' 29, us' 30, us' 31, us' 32, us' 33, us' 34, us' 35, us' 36, us' 37, us' 38, us' 39, us' 40, us' 41, us' 42, us' 43, us' 44, us' 45, us' 46, us' 47, us' 48, us' 49, us' 50, us' 51] := by
          show #[us' 0, us' 1, us' 2, us' 3, us' 4, us' 5, us' 6, us' 7, us' 8, us' 9, us' 10, us' 11, us' 12, us' 13, us' 14, us' 15, us' 16, us' 17, us' 18, us' 19, us' 20, us' 21, us' 22, us' 23, us' 24, us' 25, us' 26, us' 27, us' 28, us' 29, us' 30, us' 31, us' 32, us' 33, us' 34, us' 35, us' 36, us' 37, us' 38, us' 39, us' 40, us' 41, us' 42, us' 43, us' 44, us' 45, us' 46, us' 47, us' 48, us' 49, us' 50, us' 51] = _
          rw [t6]
        rw [el] at ha'
        subst ha'
        clear hus t6 el hf' hs' hd'
        have HW := Lib.hid hW
        clear hW hG
        go_wp2
        go_ret
        exact ⟨rfl, HB1.out.trans (HW.out.mono HB1.out.size)⟩
    · have hPM : P < m := by omega
      have hMP : m ≤ P2 := by omega
      have HV := Lib.hid hv
      have HL := Lib.hid HMm.out.symm
      obtain ⟨gs, hgs⟩ : ∃ h, h = hs := ⟨_, rfl⟩
      rw [← hgs] at HV HL
      clear hv hgs
      go_upto_region 8 with fail
      clear hkt hP2
      have hll : gs.length = m := HL.out
      obtain ⟨R, hR, hR32⟩ : ∃ R, R = rootH n gs ∧ R.length = 32 := ⟨_, rfl, rootH_length _ _ HV.out.all⟩
      obtain ⟨RL, hRL, hRL32⟩ : ∃ R, R = rootH n (gs.take P) ∧ R.length = 32 := ⟨_, rfl, rootH_length _ _ (HV.out.all.take P)⟩
      obtain ⟨RR, hRR, hRR32⟩ : ∃ R, R = rootH n (gs.drop P) ∧ R.length = 32 := ⟨_, rfl, rootH_length _ _ (HV.out.all.drop P)⟩
      obtain ⟨F, hF0⟩ : ∃ F, gs[0]? = some F := ⟨gs[0]'(by omega), List.getElem?_eq_getElem _⟩
      have hF32 := HV.out.all.get hF0
      obtain ⟨ad, rfl, _⟩ := HV.out.load hF0
      have hnode : nodeH n RL RR = R := by
        have hs2 : splitN gs.length = P := by rw [hll, HPd.out]; exact splitN_is (by have := HPd.out; omega) (by have := HPd.out; have := HP2.out; omega)
        rw [hR, rootH_more n gs (by omega), hs2, hRL, hRR]
      have hone : gs.take 1 = [F] := by
        obtain ⟨q1, q2⟩ := List.getElem?_eq_some_iff.1 hF0
        rw [List.take_succ_eq_append_getElem q1, q2]
        rfl
      obtain ⟨va, hva⟩ : ∃ va, va = sliced (some ad) 0 P c 32 := ⟨_, rfl⟩
      obtain ⟨vb, hvb⟩ : ∃ vb, vb = sliced (some ad) P m c 32 := ⟨_, rfl⟩
      obtain ⟨vc, hvc⟩ : ∃ vc, vc = sliced (some ad) 0 1 c 32 := ⟨_, rfl⟩
      have h1s : Hss w va (gs.take P) := by
        have := HV.out.sub 0 P (by omega) (by omega)
        rw [hva]
        simpa using this
      have h2s : Hss w vb (gs.drop P) := by
        have := HV.out.sub P m (by omega) (by omega)
        rw [hvb]
        rwa [List.take_of_length_le (by omega)] at this
      have h3s : Hss w vc [F] := by
        have := HV.out.sub 0 1 (by omega) (by omega)
        rw [hvc, ← hone]
        simpa using this
      have HSa := Lib.hid (fun (W : World) => show (Instr.sliceAt 30 (.slice (some ad) m c) none (some (.int .i64 (P : Int))) none).run Tryd.prog W = .ok va W by rw [hva]; exact slice_hs_to (some ad) m c P (by omega) W)
      have HSb := Lib.hid (fun (W : World) => show (Instr.sliceAt 30 (.slice (some ad) m c) (some (.int .i64 (P : Int))) none none).run Tryd.prog W = .ok vb W by rw [hvb]; exact slice_hs_from (some ad) m c P (by omega) W)
      have HSc := Lib.hid (fun (W : World) => show (Instr.sliceAt 30 (.slice (some ad) m c) none (some (.int .i64 1)) none).run Tryd.prog W = .ok vc W by rw [hvc]; exact slice_hs_to (some ad) m c 1 (by omega) W)
      have HLd := Lib.hid (fun (W : World) (hW : Below W1.heap.size W1 W) => load_hash W ad F hF32 fun j u hj => by
        obtain ⟨ad2, e, h⟩ := (HV.out.below (Nat.le_refl _) (HB1.out.trans (hW.mono HB1.out.size))).load hF0
        cases e
        simpa [Addr.add] using h j u hj)
      have HIx := Lib.hid (fun (W : World) => show (Instr.indexAt 30 (.slice (some ad) m c) (.int .i64 0)).run Tryd.prog W = .ok (.pointer (some ad)) W by simpa [Addr.add] using hss_index W ad m c 0 (by omega))
      have PR := Lib.hid (fun (W : World) (hW : Below W1.heap.size W1 W) => HPr.out.root n gs (.slice (some ad) m c) W HN.out (HV.out.below (Nat.le_refl _) (HB1.out.trans (hW.mono HB1.out.size))) (by omega) (HT.out.below (Nat.le_refl _) (HB1.out.trans (hW.mono HB1.out.size))))
      have PL := Lib.hid (fun (W : World) (hW : Below W1.heap.size W1 W) => HPr.out.root n (gs.take P) va W HN.out (h1s.below (Nat.le_refl _) (HB1.out.trans (hW.mono HB1.out.size))) (by rw [List.length_take]; omega) (HT.out.below (Nat.le_refl _) (HB1.out.trans (hW.mono HB1.out.size))))
      have PQ := Lib.hid (fun (W : World) (hW : Below W1.heap.size W1 W) => HPr.out.root n (gs.drop P) vb W HN.out (h2s.below (Nat.le_refl _) (HB1.out.trans (hW.mono HB1.out.size))) (by rw [List.length_drop]; omega) (HT.out.below (Nat.le_refl _) (HB1.out.trans (hW.mono HB1.out.size))))
      have PF := Lib.hid (fun (W : World) (hW : Below W1.heap.size W1 W) => HPr.out.root n [F] vc W HN.out (h3s.below (Nat.le_refl _) (HB1.out.trans (hW.mono HB1.out.size))) (by simp) (HT.out.below (Nat.le_refl _) (HB1.out.trans (hW.mono HB1.out.size))))
      have PN := Lib.hid (fun (W : World) (hW : Below W1.heap.size W1 W) => HPr.out.node n RL RR W HN.out hRL32 hRR32 (HT.out.below (Nat.le_refl _) (HB1.out.trans (hW.mono HB1.out.size))))
      rw [← hR] at PR
      rw [← hRL] at PL
      rw [← hRR] at PQ
      rw [rootH_one] at PF
      rw [hnode] at PN
      have HR := Lib.hid hR32
      have HF := Lib.hid hF32
      have hG : ∀ W W' : World, Below W1.heap.size W1 W → Below W.heap.size W W' → Below W1.heap.size W1 W' := fun W W' h h' => h.trans (h'.mono h.size)
      clear hll hR hRL hRR hF0 hF32 hR32 hRL32 hRR32 hnode hone hva hvb hvc h1s h2s h3s
      refine region_by [(26, .is (.int .i64 n)), (27, .is (.slice (some ad) m c)), (28, .is (.agg (bs R))), (29, .is (.int .i64 n)), (30, .is (.int .i64 n)), (31, .is (.slice (some ad) m c)), (32, .is (.int .i64 (P : Int))), (33, .is va), (34, .is (.agg (bs RL))), (35, .is (.int .i64 n)), (36, .is (.slice (some ad) m c)), (37, .is (.int .i64 (P : Int))), (38, .is vb), (39, .is (.agg (bs RR))), (40, .is (.agg (bs R))), (41, .is (.bool true)), (42, .is (.bool true)), (43, .is (.int .i64 n)), (44, .is (.slice (some ad) m c)), (45, .is vc), (46, .is (.agg (bs F))), (47, .is (.slice (some ad) m c)), (48, .is (.pointer (some ad))), (49, .is (.agg (bs F))), (50, .is (.bool true)), (51, .is (.bool true)), (6, .is (.bool true))] [6] (fun W => Below W1.heap.size W1 W) (by kernel_rfl) (by kernel_rfl) (by kernel_rfl) (by kernel_rfl) (by kernel_rfl) ((Below.refl _ _).drew) ?_ ?_
      · refine ⟨?c0, ?c1, ?c2, ?c3, ?c4, ?c5, ?c6, ?c7, ?c8, ?c9, ?c10, ?c11, ?c12, ?c13, ?c14, ?c15, ?c16, ?c17, ?c18, ?c19, ?c20, ?c21, ?c22, ?c23, ?c24, ?c25, ?c26, trivial⟩
        case c0 => exact ask_copy (guard_none rfl) (.tmp 0) (.inl rfl) (by intro k hk; cases hk; rfl)
        case c1 => exact ask_copy (guard_none rfl) (.tmp 2) (.inl rfl) (by intro k hk; cases hk; rfl)
        case c2 => exact ask_call hG (guard_none rfl) _ _ _ #[.int .i64 n, .slice (some ad) m c] (.is (.agg (bs R))) rfl (by kernel_rfl) rfl rfl (by intro k hk; cases hk; rfl) (fun W hW => (PR.out W hW).mono fun e w' h => ⟨_, h.1, rfl, h.2⟩)
        case c3 => exact ask_copy (guard_none rfl) (.tmp 0) (.inl rfl) (by intro k hk; cases hk; rfl)
        case c4 => exact ask_copy (guard_none rfl) (.tmp 0) (.inl rfl) (by intro k hk; cases hk; rfl)
        case c5 => exact ask_copy (guard_none rfl) (.tmp 2) (.inl rfl) (by intro k hk; cases hk; rfl)
        case c6 => exact ask_copy (guard_none rfl) (.tmp 7) (.inl rfl) (by intro k hk; cases hk; rfl)
        case c7 => exact ask_slice (guard_none rfl) _ (.tmp 31) none (some (.tmp 32)) none (.slice (some ad) m c) va none (some (.int .i64 (P : Int))) none rfl rfl rfl rfl rfl (by intro k hk; cases hk; rfl) (HSa.out)
        case c8 => exact ask_call hG (guard_none rfl) _ _ _ #[.int .i64 n, va] (.is (.agg (bs RL))) rfl (by kernel_rfl) rfl rfl (by intro k hk; cases hk; rfl) (fun W hW => (PL.out W hW).mono fun e w' h => ⟨_, h.1, rfl, h.2⟩)
        case c9 => exact ask_copy (guard_none rfl) (.tmp 0) (.inl rfl) (by intro k hk; cases hk; rfl)
        case c10 => exact ask_copy (guard_none rfl) (.tmp 2) (.inl rfl) (by intro k hk; cases hk; rfl)
        case c11 => exact ask_copy (guard_none rfl) (.tmp 7) (.inl rfl) (by intro k hk; cases hk; rfl)
        case c12 => exact ask_slice (guard_none rfl) _ (.tmp 36) (some (.tmp 37)) none none (.slice (some ad) m c) vb (some (.int .i64 (P : Int))) none none rfl rfl rfl rfl rfl (by intro k hk; cases hk; rfl) (HSb.out)
        case c13 => exact ask_call hG (guard_none rfl) _ _ _ #[.int .i64 n, vb] (.is (.agg (bs RR))) rfl (by kernel_rfl) rfl rfl (by intro k hk; cases hk; rfl) (fun W hW => (PQ.out W hW).mono fun e w' h => ⟨_, h.1, rfl, h.2⟩)
        case c14 => exact ask_call hG (guard_none rfl) _ _ _ #[.int .i64 n, .agg (bs RL), .agg (bs RR)] (.is (.agg (bs R))) rfl (by kernel_rfl) rfl rfl (by intro k hk; cases hk; rfl) (fun W hW => (PN.out W hW).mono fun e w' h => ⟨_, h.1, rfl, h.2⟩)
        case c15 => exact ask_bin (guard_none rfl) .eql _ _ (.tmp 28) (.tmp 40) (.agg (bs R)) (.agg (bs R)) (.bool true) rfl rfl rfl (by intro k hk; cases hk; rfl) (eql_hash _ _ R HR.out)
        case c16 => exact ask_copy (guard_none rfl) (.tmp 41) (.inl rfl) (by intro k hk; cases hk; rfl)
        case c17 => exact ask_copy (guard_some rfl rfl rfl) (.tmp 0) (.inl rfl) (by intro k hk; cases hk; rfl)
        case c18 => exact ask_copy (guard_some rfl rfl rfl) (.tmp 2) (.inl rfl) (by intro k hk; cases hk; rfl)
        case c19 => exact ask_slice (guard_some rfl rfl rfl) _ (.tmp 44) none (some (.const (.int .i64 1))) none (.slice (some ad) m c) vc none (some (.int .i64 1)) none rfl rfl rfl rfl rfl (by intro k hk; cases hk; rfl) (HSc.out)
        case c20 => exact ask_call hG (guard_some rfl rfl rfl) _ _ _ #[.int .i64 n, vc] (.is (.agg (bs F))) rfl (by kernel_rfl) rfl rfl (by intro k hk; cases hk; rfl) (fun W hW => (PF.out W hW).mono fun e w' h => ⟨_, h.1, rfl, h.2⟩)
        case c21 => exact ask_copy (guard_some rfl rfl rfl) (.tmp 2) (.inl rfl) (by intro k hk; cases hk; rfl)
        case c22 => exact ask_idx (guard_some rfl rfl rfl) _ (.tmp 47) (.const (.int .i64 0)) (.slice (some ad) m c) (.int .i64 0) (.pointer (some ad)) rfl rfl rfl (by intro k hk; cases hk; rfl) HIx.out
        case c23 => exact ask_load (guard_some rfl rfl rfl) _ (.tmp 48) (.pointer (some ad)) (.agg (bs F)) rfl rfl (by intro k hk; cases hk; rfl) (fun W hW => HLd.out W hW)
        case c24 => exact ask_bin (guard_some rfl rfl rfl) .eql _ _ (.tmp 46) (.tmp 49) (.agg (bs F)) (.agg (bs F)) (.bool true) rfl rfl rfl (by intro k hk; cases hk; rfl) (eql_hash _ _ F HF.out)
        case c25 => exact ask_pick (guard_none rfl) (.tmp 42) (.tmp 50) (.const (.bool false)) true rfl rfl (by intro k hk; cases hk; rfl)
        case c26 => exact ask_copy (guard_none rfl) (.tmp 51) (.inr rfl) (by intro k hk; cases hk; rfl)
      · intro a' W hW hd' hs' hf'
        have t6 : a'.tmps.getD 6 undef = .bool true := hf' 6 rfl
        obtain ⟨us', hus, ha'⟩ := act_open 52 a' hs' hd'
        rw [← hus] at t6
        have el : ((List.range 52).map us').toArray = #[us' 0, us' 1, us' 2, us' 3, us' 4, us' 5, .bool true, us' 7, us' 8, us' 9, us' 10, us' 11, us' 12, us' 13, us' 14, us' 15, us' 16, us' 17, us' 18, us' 19, us' 20, us' 21, us' 22, us' 23, us' 24, us' 25, us' 26, us' 27, us' 28, us' 29, us' 30, us' 31, us' 32, us' 33, us' 34, us' 35, us' 36, us' 37, us' 38, us' 39, us' 40, us' 41, us' 42, us' 43, us' 44, us' 45, us' 46, us' 47, us' 48, us' 49, us' 50, us' 51] := by
          show #[us' 0, us' 1, us' 2, us' 3, us' 4, us' 5, us' 6, us' 7, us' 8, us' 9, us' 10, us' 11, us' 12, us' 13, us' 14, us' 15, us' 16, us' 17, us' 18, us' 19, us' 20, us' 21, us' 22, us' 23, us' 24, us' 25, us' 26, us' 27, us' 28, us' 29, us' 30, us' 31, us' 32, us' 33, us' 34, us' 35, us' 36, us' 37, us' 38, us' 39, us' 40, us' 41, us' 42, us' 43, us' 44, us' 45, us' 46, us' 47, us' 48, us' 49, us' 50, us' 51] = _
          rw [t6]
        rw [el] at ha'
        subst ha'
        clear hus t6 el hf' hs' hd'
        have HW := Lib.hid hW
        clear hW hG
        go_wp2
        go_ret
        exact ⟨rfl, HB1.out.trans (HW.out.mono HB1.out.size)⟩
end Go.Proofs.YtdhfabjkpffhnaaDoor

