/- Joined: ClashLists17, ClashPath17, ClashGrow17, ClashProgram. -/
import Derived.Test.YtdhfabjkpffhnaaDoorGCX
import Derived.Test.YtdhfabjkpffhnaaDoorGCD
import Derived.Test.YtdhfabjkpffhnaaDoorGCW
import Derived.Test.YtdhfabjkpffhnaaDoorGCP
import Derived.Test.YtdhfabjkpffhnaaDoorGCH
import Derived.Test.YtdhfabjkpffhnaaDoorSkipC
import Derived.Test.YtdhfabjkpffhnaaDoorGCU
import Derived.Test.YtdhfabjkpffhnaaDoorGCC
/- Layer 17: the program's Lists. -/
namespace Go.Proofs.YtdhfabjkpffhnaaDoor
set_option maxRecDepth 20000
open Go.RowKit ShaMath LeafMath PathMath GrowthMath ClashMath Reg

theorem pairB_parts {W : World} {u : Value} {p : Bs × Bs} (h : PairB W u p) : ∃ a n c a' n' c', u = .agg (prC a n c a' n' c') := by
  obtain ⟨a, c, a', c', e, _⟩ := h
  exact ⟨_, _, _, _, _, _, e⟩

set_option maxHeartbeats 2000000 in
set_option maxRecDepth 100000 in
theorem lists17_any (n : Int) (hn : I64 n) (a b : List Bs) (va vb : Value) (w : World) (hva : Txs w va a) (hvb : Txs w vb b) (hsa : Shorts a) (hsb : Shorts b) (ht : Tabs w) :
    Calls Tryd.prog 34 #[.int .i64 n, va, vb] w fun e w' => ∃ u, e = .returned (.tuple #[u, .int .i64 ((listsT n a b).2 : Int)]) ∧ PairB w' u (listsT n a b).1 ∧ Below w.heap.size w w' := by
  have HP := Lib.hid (PrW.new w)
  obtain ⟨pa0, ca, rfl, _⟩ := hva.form
  obtain ⟨pb0, cb, rfl, _⟩ := hvb.form
  obtain ⟨la, hla⟩ : ∃ m, m = a.length := ⟨_, rfl⟩
  obtain ⟨lb, hlb⟩ : ∃ m, m = b.length := ⟨_, rfl⟩
  rw [← hla] at hva ⊢
  rw [← hlb] at hvb ⊢
  by_cases h1 : la = lb
  · have HA := Lib.hid (fun (W : World) (hW : Below w.heap.size w W) => ofList_any n hn la a (.slice pa0 la ca) W hla.symm (hva.below (Nat.le_refl _) hW) hsa (ht.below (Nat.le_refl _) hW))
    have HB := Lib.hid (fun (W : World) (hW : Below w.heap.size w W) => ofList_any n hn lb b (.slice pb0 lb cb) W hlb.symm (hvb.below (Nat.le_refl _) hW) hsb (ht.below (Nat.le_refl _) hW))
    have hll : a.length = b.length := by omega
    subst h1
    obtain ⟨ta, hta⟩ : ∃ t, t = trL n a := ⟨_, rfl⟩
    obtain ⟨tb, htb⟩ : ∃ t, t = trL n b := ⟨_, rfl⟩
    have hra : ta.root = rootT n a := by rw [hta, trL_root]
    have hrb : tb.root = rootT n b := by rw [htb, trL_root]
    rw [← hta] at HA
    rw [← htb] at HB
    have hlist := lists_down n a b hll
    have hun : rootT n a ≠ rootT n b → listsT n a b = (([], []), 3) := fun h => by rw [listsT, if_neg (by simpa using hll), if_pos h]
    rw [← hta, ← htb, ← hra, ← hrb] at hlist
    rw [← hra, ← hrb] at hun
    obtain ⟨R, hR⟩ : ∃ R, R = listsT n a b := ⟨_, rfl⟩
    rw [← hR] at hlist hun ⊢
    have HL := Lib.hid hlist
    have HU := Lib.hid hun
    have hne : ¬ ((la : Int) ≠ (la : Int)) := by simp
    clear hva hvb hsa hsb ht hn hla hlb hll hta htb hra hrb hlist hun hR
    go_enter Tryd.func34, Tryd.ntmps34
    go_upto_region 1 with fail
    refine world_cut (fun W => PrW w W) HP.out ?_
    clear HP
    intro W1 hW1
    have HW1 := Lib.hid hW1
    clear hW1
    go_wp2_with fail
    refine (HA.out _ HW1.out.2).mono ?_
    rintro e W2 ⟨u1, rfl, hu1, hb2⟩
    have HW2 := Lib.hid (HW1.out.keep hb2)
    have HU1 := Lib.hid hu1
    clear hb2 hu1 HA HW1
    go_wp2_with fail
    refine (HB.out _ HW2.out.2).mono ?_
    rintro e W3 ⟨u2, rfl, hu2, hb3⟩
    have HW3 := Lib.hid (HW2.out.keep hb3)
    have HU1' := Lib.hid (HU1.out.below hb3)
    have HU2 := Lib.hid hu2
    clear hb3 hu2 HB HW2 HU1
    obtain ⟨r1, g1, b1, x1, l1, q1, e1, k1⟩ := HU1'.out.blk
    obtain ⟨r2, g2, b2, x2, l2, q2, e2, k2⟩ := HU2.out.blk
    subst e1 e2
    have HL1 := Lib.hid (fun (W : World) (hW : Below W3.heap.size W3 W) => load_root (k1.keep hW) r1)
    have HL2 := Lib.hid (fun (W : World) (hW : Below W3.heap.size W3 W) => load_root (k2.keep hW) r2)
    have HNq := Lib.hid (fun s t W => neq_hash2 s t ta.root tb.root r1 r2 W)
    obtain ⟨c1, hc1⟩ : ∃ c, c = ta.root := ⟨_, rfl⟩
    obtain ⟨c2, hc2⟩ : ∃ c, c = tb.root := ⟨_, rfl⟩
    rw [← hc1] at HL1 HNq
    rw [← hc2] at HL2 HNq
    have HC1 := Lib.hid hc1
    have HC2 := Lib.hid hc2
    clear k1 k2 hc1 hc2 r1 r2
    go_upto_region 4 with fail
    have hG : ∀ W W' : World, (PrW w W ∧ Below W3.heap.size W3 W) → Below W.heap.size W W' → (PrW w W' ∧ Below W3.heap.size W3 W') := fun W W' h h' => ⟨h.1.keep h', h.2.trans (h'.mono h.2.size)⟩
    refine region_by [(22, .is (.pointer (some ⟨g1, 0, none⟩))), (23, .is (.pointer (some ⟨g1, 0, none⟩))), (24, .is (.pointer (some ⟨g1, 0, none⟩))), (25, .is (.agg (bs c1))), (26, .is (.pointer (some ⟨g2, 0, none⟩))), (27, .is (.pointer (some ⟨g2, 0, none⟩))), (28, .is (.pointer (some ⟨g2, 0, none⟩))), (29, .is (.agg (bs c2))), (30, .is (.bool (!(c1 == c2))))] [6, 7, 8, 9, 30]
      (fun W => PrW w W ∧ Below W3.heap.size W3 W) (by kernel_rfl) (by kernel_rfl) (by kernel_rfl) (by kernel_rfl) (by kernel_rfl) (hG _ _ ⟨HW3.out, Below.refl _ _⟩ (Below.refl _ _).drew) ?_ ?_
    · refine ⟨?a0, ?a1, ?a2, ?a3, ?a4, ?a5, ?a6, ?a7, ?a8, trivial⟩
      case a0 => exact ask_copy (guard_none rfl) (.tmp 8) (.inl rfl) (by intro k hk; cases hk; rfl)
      case a1 => exact ask_nil (guard_none rfl) (.tmp 22) _ rfl rfl (by intro k hk; cases hk; rfl)
      case a2 => exact ask_field (guard_none rfl) _ (.tmp 23) 0 (.pointer (some ⟨g1, 0, none⟩)) (.pointer (some ⟨g1, 0, none⟩)) rfl rfl (by intro k hk; cases hk; rfl) (fun W => by kernel_rfl)
      case a3 => exact ask_load (guard_none rfl) _ (.tmp 24) (.pointer (some ⟨g1, 0, none⟩)) (.agg (bs c1)) rfl rfl (by intro k hk; cases hk; rfl) (fun W hW => HL1.out W hW.2)
      case a4 => exact ask_copy (guard_none rfl) (.tmp 9) (.inl rfl) (by intro k hk; cases hk; rfl)
      case a5 => exact ask_nil (guard_none rfl) (.tmp 26) _ rfl rfl (by intro k hk; cases hk; rfl)
      case a6 => exact ask_field (guard_none rfl) _ (.tmp 27) 0 (.pointer (some ⟨g2, 0, none⟩)) (.pointer (some ⟨g2, 0, none⟩)) rfl rfl (by intro k hk; cases hk; rfl) (fun W => by kernel_rfl)
      case a7 => exact ask_load (guard_none rfl) _ (.tmp 28) (.pointer (some ⟨g2, 0, none⟩)) (.agg (bs c2)) rfl rfl (by intro k hk; cases hk; rfl) (fun W hW => HL2.out W hW.2)
      case a8 => exact ask_bin (guard_none rfl) .neq _ _ (.tmp 25) (.tmp 29) (.agg (bs c1)) (.agg (bs c2)) (.bool (!(c1 == c2))) rfl rfl rfl (by intro k hk; cases hk; rfl) (HNq.out _ _)
    intro a' W4 hW hd' hs' hf'
    have HW4 := Lib.hid hW
    clear hW hG
    have t6 : a'.tmps.getD 6 undef = .pointer (some ⟨w.heap.size, 0, none⟩) := hf' 6 rfl
    have t8 : a'.tmps.getD 8 undef = .pointer (some ⟨g1, 0, none⟩) := hf' 8 rfl
    have t9 : a'.tmps.getD 9 undef = .pointer (some ⟨g2, 0, none⟩) := hf' 9 rfl
    have t30 : a'.tmps.getD 30 undef = .bool (!(c1 == c2)) := hf' 30 rfl
    obtain ⟨us', hus, ha'⟩ := act_open 37 a' hs' hd'
    rw [← hus] at t6 t8 t9 t30
    have el : ((List.range 37).map us').toArray = #[us' 0, us' 1, us' 2, us' 3, us' 4, us' 5, .pointer (some ⟨w.heap.size, 0, none⟩), us' 7, .pointer (some ⟨g1, 0, none⟩), .pointer (some ⟨g2, 0, none⟩), us' 10, us' 11, us' 12, us' 13, us' 14, us' 15, us' 16, us' 17, us' 18, us' 19, us' 20, us' 21, us' 22, us' 23, us' 24, us' 25, us' 26, us' 27, us' 28, us' 29, .bool (!(c1 == c2)), us' 31, us' 32, us' 33, us' 34, us' 35, us' 36] := by
      show #[us' 0, us' 1, us' 2, us' 3, us' 4, us' 5, us' 6, us' 7, us' 8, us' 9, us' 10, us' 11, us' 12, us' 13, us' 14, us' 15, us' 16, us' 17, us' 18, us' 19, us' 20, us' 21, us' 22, us' 23, us' 24, us' 25, us' 26, us' 27, us' 28, us' 29, us' 30, us' 31, us' 32, us' 33, us' 34, us' 35, us' 36] = _
      rw [t6, t8, t9, t30]
    rw [el] at ha'
    subst ha'
    clear hus t6 t8 t9 t30 el hf' hs' hd'
    by_cases hcc : c1 = c2
    · have hbe : (!(c1 == c2)) = false := by simpa using hcc
      rw [hbe]
      have hR := HL.out (by rw [← HC1.out, ← HC2.out]; exact hcc)
      have HM := Lib.hid (met_any ta tb _ _ W4 (HU1'.out.below HW4.out.2) (HU2.out.below HW4.out.2))
      have HWp := Lib.hid HW4.out.1
      obtain ⟨o, ho⟩ : ∃ o, o = trDown ta tb := ⟨_, rfl⟩
      rw [← ho] at HM hR
      have HR := Lib.hid hR
      clear hR hbe hcc ho
      go_wp2_with fail
      refine HM.out.mono ?_
      rintro e W5 ⟨pu, rfl, hpb, hbm⟩
      have HPb0 := Lib.hid hpb
      have HWW5 := Lib.hid (HWp.out.keep hbm)
      clear hpb hbm
      obtain ⟨pa, pn, pc, pa', pn', pc', rfl⟩ := pairB_parts HPb0.out
      obtain ⟨E, hE⟩ : ∃ E : Int, E = (if o.isSome then 0 else 8) := ⟨_, rfl⟩
      rw [← hE]
      have HPb : Hid (PairB W5 (.agg (prC pa pn pc pa' pn' pc')) R.1) := Lib.hid (by
        rw [HR.out]
        have := HPb0.out
        cases o with
        | some p => exact this
        | none => exact this)
      have hE2 : (R.2 : Int) = E := by rw [HR.out, hE]; cases o <;> rfl
      have HE2 := Lib.hid hE2
      clear hE hE2
      go_wp2_with (refine wpList_store_row rfl 51 (.tmp 6) (.tmp 35) rfl w.heap.size (prC pa pn pc pa' pn' pc') rfl rfl 51 _ HWW5.out.1 (size_pair _ _ _ _ _ _) rfl (pair_one _ _ _ _ _ _) ?_)
      exact bodyPost_ret (v := .tuple #[.agg (prC pa pn pc pa' pn' pc'), .int .i64 E]) (ret_pair rfl _ _ w.heap.size _ _ _ _ _ _ _ rfl rfl (Blk.row HWW5.out.1 _)) rfl ⟨_, by rw [HE2.out], PairB.far HPb.out HWW5.out.1, below_setRow HWW5.out.2 _ _ (Nat.le_refl _)⟩
    · have hbe : (!(c1 == c2)) = true := by simpa using hcc
      rw [hbe]
      have hR := HU.out (by rw [← HC1.out, ← HC2.out]; exact hcc)
      have HRn := Lib.hid hR
      have HWp := Lib.hid HW4.out.1
      clear hbe hcc hR HW4
      go_wp2_with (refine wpList_store_row rfl 51 (.tmp 6) (.tmp 31) rfl w.heap.size (prC none 0 0 none 0 0) rfl rfl 51 _ HWp.out.1 (size_pair _ _ _ _ _ _) rfl (pair_one _ _ _ _ _ _) ?_)
      exact bodyPost_ret (v := .tuple #[.agg (prC none 0 0 none 0 0), .int .i64 3]) (ret_pair rfl _ _ w.heap.size _ _ _ _ _ _ _ rfl rfl (Blk.row HWp.out.1 _)) rfl ⟨_, by first | (rw [HRn.out]; done) | (rw [HRn.out]; rfl), by rw [HRn.out]; exact PairB.none _, below_setRow HWp.out.2 _ _ (Nat.le_refl _)⟩
  · have hr : listsT n a b = (([], []), 9) := by rw [listsT, if_pos (by omega)]
    have HRn := Lib.hid hr
    have hne : (la : Int) ≠ (lb : Int) := by omega
    clear hva hvb hsa hsb ht hn hla hlb hr
    go_enter Tryd.func34, Tryd.ntmps34
    go_upto_region 1 with fail
    refine world_cut (fun W => PrW w W) HP.out ?_
    clear HP
    intro W1 hW1
    have HW1 := Lib.hid hW1
    clear hW1
    go_wp2_with (refine wpList_store_row rfl 51 (.tmp 6) (.tmp 15) rfl w.heap.size (prC none 0 0 none 0 0) rfl rfl 51 _ HW1.out.1 (size_pair _ _ _ _ _ _) rfl (pair_one _ _ _ _ _ _) ?_)
    exact bodyPost_ret (v := .tuple #[.agg (prC none 0 0 none 0 0), .int .i64 9]) (ret_pair rfl _ _ w.heap.size _ _ _ _ _ _ _ rfl rfl (Blk.row HW1.out.1 _)) rfl ⟨_, by first | (rw [HRn.out]; done) | (rw [HRn.out]; rfl), by rw [HRn.out]; exact PairB.none _, below_setRow HW1.out.2 _ _ (Nat.le_refl _)⟩
end Go.Proofs.YtdhfabjkpffhnaaDoor

/- Layer 17: the program's Path. -/
namespace Go.Proofs.YtdhfabjkpffhnaaDoor
set_option maxRecDepth 20000
open Go.RowKit ShaMath LeafMath PathMath GrowthMath ClashMath Reg

set_option maxHeartbeats 4000000 in
set_option maxRecDepth 100000 in
theorem path17_any (n : Int) (hn : I64 n) (T : List Bs) (i : Nat) (x : Bs) (ps : List Hs) (v vx vp : Value) (w : World) (hv : Txs w v T) (hs : Shorts T) (hi : i < 18446744073709551616) (hx : Bys w vx x) (hx4 : x.length ≤ 4000) (hp : Hss w vp ps) (_ : ps.length ≤ 80) (ht : Tabs w) :
    Calls Tryd.prog 37 #[.int .i64 n, v, .int .u64 (i : Int), vx, vp] w fun e w' => ∃ u, e = .returned (.tuple #[u, .int .i64 ((pathC n T i x ps).2 : Int)]) ∧ PairB w' u (pathC n T i x ps).1 ∧ Below w.heap.size w w' := by
  have HP := Lib.hid (PrW.new w)
  obtain ⟨pv, cv, rfl, hcv⟩ := hv.form
  obtain ⟨m, hm⟩ : ∃ m, m = T.length := ⟨_, rfl⟩
  rw [← hm] at hv hcv ⊢
  have hm80 : m ≤ 80 := by rw [hm]; exact hs.few
  obtain ⟨ax, cx, rfl⟩ := hx.formZ
  obtain ⟨X, hX, hX32⟩ : ∃ X, X = leafH n x ∧ X.length = 32 := ⟨_, rfl, leafH_length _ _⟩
  obtain ⟨lx, hlx⟩ : ∃ m, m = x.length := ⟨_, rfl⟩
  rw [← hlx] at hx ⊢
  obtain ⟨pp, pc0, rfl, _⟩ := hp.form
  obtain ⟨p, hpp⟩ : ∃ p, p = ps.length := ⟨_, rfl⟩
  rw [← hpp] at hp ⊢
  have HLf := Lib.hid (fun (W : World) (hW : Below w.heap.size w W) => leaf_any0 n x ax lx cx W hn (hx.below (Nat.le_refl _) hW) (by omega) (ht.below (Nat.le_refl _) hW))
  rw [← hX] at HLf
  have HCl := Lib.hid (fun (W : World) (hW : Below w.heap.size w W) => climb_any n hn X i m ps (.slice pp p pc0) W hX32 hi (by omega) (hp.below (Nat.le_refl _) hW) (ht.below (Nat.le_refl _) hW))
  obtain ⟨C, hC, hC32⟩ : ∃ C, C = (climbR n X i m ps).1 ∧ C.length = 32 := ⟨_, rfl, climbR_32 n X i m ps hX32⟩
  obtain ⟨E, hE⟩ : ∃ E, E = (climbR n X i m ps).2 := ⟨_, rfl⟩
  rw [← hC, ← hE] at HCl
  have HSC := Lib.hid (size_hash (cs := bs C) (by rw [bs_size, hC32]))
  have HC32 := Lib.hid hC32
  obtain ⟨R, hR⟩ : ∃ R, R = pathC n T i x ps := ⟨_, rfl⟩
  have hR2 : R = if E ≠ 0 then (([], []), E) else if C ≠ rootT n T then (([], []), 3) else if T[i]? = some x then (([], []), 8) else (pathT n T i x ps, 0) := by rw [hR, pathC, ← hX, ← hm, ← hE, ← hC]
  rw [← hR]
  have HPX := Lib.hid hx4
  have HLi := Lib.hid (fun (W : World) (hW : Below w.heap.size w W) => ofList_any n hn m T (.slice pv m cv) W hm.symm (hv.below (Nat.le_refl _) hW) hs (ht.below (Nat.le_refl _) hW))
  have HTx := Lib.hid (fun (W : World) (hW : Below w.heap.size w W) => ofText_any n hn x (.slice ax lx cx) W (hx.below (Nat.le_refl _) hW) hx4 (ht.below (Nat.le_refl _) hW))
  have HCd := Lib.hid (fun (part : Tr) (u : Value) (W : World) (him : i < m) (hl : p = sizeP i m) (hu : IsTr W part u) (hW : Below w.heap.size w W) => climbed_any n hn part p i m ps u (.slice pp p pc0) W hpp.symm him (by omega) (by omega) hu (hp.below (Nat.le_refl _) hW) (ht.below (Nat.le_refl _) hW))
  have HXb := Lib.hid (fun (W : World) (hW : Below w.heap.size w W) => hx.below (Nat.le_refl _) hW)
  have HTt := Lib.hid (fun (him : i < m) => show ∃ pa A k c t, pv = some pa ∧ T[i]? = some t ∧ k = t.length ∧ ∀ W, Below w.heap.size w W → W.cell? (pa.add i) = some (.slice A k c) ∧ Bys W (.slice A k c) t from by
    obtain ⟨t, htt⟩ : ∃ t, T[i]? = some t := ⟨T[i]'(by omega), List.getElem?_eq_getElem _⟩
    obtain ⟨pa, A, c, rfl, htc, htb⟩ := hv.at_ htt
    exact ⟨pa, A, _, c, t, rfl, htt, rfl, fun W hW => ⟨by rw [hW.cell (World.block_lt_of_cell? w _ htc)]; exact htc, htb.below (Nat.le_refl _) hW⟩⟩)
  have hok : E = 0 → i < m ∧ p = sizeP i m := fun h => by
    obtain ⟨q1, q2, _⟩ := climbR_ok (n := n) (h := X) (i := i) (m := m) (p := ps) (by rw [← hE]; exact h)
    exact ⟨q1, by rw [hpp]; exact q2⟩
  have hfnd : ∀ t, T[i]? = some t → t ≠ x → p = sizeP i m → trDown (trL n T) (trC n (.text (leafH n x) x) i m ps) = some (pathT n T i x ps) := fun t h1 h2 h3 => trC_path n x m T i ps t hm.symm h1 h2 (by rw [← hpp]; exact h3)
  have HFnd := Lib.hid hfnd
  have HRt := Lib.hid (trL_root n T)
  have HR2 := Lib.hid hR2
  have HOk := Lib.hid hok
  have HEq := Lib.hid (show X = leafH n x from hX)
  clear hv hs hx hp ht hn hX hX32 hC hC32 hE hR hR2 hm hpp hlx hx4 hfnd hok
  go_enter Tryd.func37, Tryd.ntmps37
  go_upto_region 1 with fail
  refine world_cut (fun W => PrW w W) HP.out ?_
  clear HP
  intro W1 hW1
  have HW1 := Lib.hid hW1
  clear hW1
  go_wp2_with fail
  refine (HLf.out _ HW1.out.2).mono ?_
  rintro e W2 ⟨rfl, hb2⟩
  have HW2 := Lib.hid (HW1.out.keep hb2)
  clear hb2 HLf HW1
  go_wp2_with fail
  refine (HCl.out _ HW2.out.2).mono ?_
  rintro e W3 ⟨rfl, hb3⟩
  have HW3 := Lib.hid (HW2.out.keep hb3)
  clear hb3 HCl HW2
  go_upto_region 3 with (refine wpList_store_row rfl 24 (.tmp 13) (.tmp 28) rfl W3.heap.size (bs C) rfl rfl 24 _ (Blk.new W3 _ _) HSC.out (by rw [bs_size, HC32.out]; rfl) (bs_one _) ?_)
  have hsz3 := HW3.out.lt
  refine world_cut (fun W => PrW w W ∧ Blk W W3.heap.size 24 (bs C)) ⟨(HW3.out.keep ((Below.refl _ _).alloc (Nat.le_refl _) _)).row _ _ (by omega), Blk.row (Blk.new W3 _ _) _⟩ ?_
  rintro W4 ⟨h4, k4⟩
  have HW4 := Lib.hid h4
  have HK4 := Lib.hid k4
  clear h4 k4 HW3
  by_cases hE0 : E = 0
  · subst hE0
    obtain ⟨him, hpl⟩ := HOk.out rfl
    have HPl := Lib.hid hpl
    clear hpl
    go_wp2_with fail
    refine (HLi.out _ HW4.out.2).mono ?_
    rintro e W5 ⟨u1, rfl, hu1, hb5⟩
    have HW5 := Lib.hid (HW4.out.keep hb5)
    have HK5 := Lib.hid (HK4.out.keep hb5)
    have HU1 := Lib.hid hu1
    clear hb5 hu1 HLi HW4 HK4
    obtain ⟨r1, g1, b1, x1, l1, q1, e1, k1⟩ := HU1.out.blk
    subst e1
    have HL1 := Lib.hid (fun (W : World) (hW : Below W5.heap.size W5 W) => load_root (k1.keep hW) r1)
    have HLC := Lib.hid (fun (W : World) (hW : Below W5.heap.size W5 W) => (HK5.out.keep hW).loads 24 _ Tryd.underlying24 rfl HSC.out)
    have HNq := Lib.hid (fun s t W => neq_hash2 s t C (trL n T).root HC32.out r1 W)
    obtain ⟨c1, hc1⟩ : ∃ c, c = (trL n T).root := ⟨_, rfl⟩
    rw [← hc1] at HL1 HNq
    have HC1 := Lib.hid (hc1.trans HRt.out)
    obtain ⟨gC, hgC⟩ : ∃ g, g = W3.heap.size := ⟨_, rfl⟩
    rw [← hgC] at HLC ⊢
    clear k1 hc1 r1 hgC
    go_upto_region 6 with fail
    have hG : ∀ W W' : World, (PrW w W ∧ Below W5.heap.size W5 W) → Below W.heap.size W W' → (PrW w W' ∧ Below W5.heap.size W5 W') := fun W W' h h' => ⟨h.1.keep h', h.2.trans (h'.mono h.2.size)⟩
    refine region_by [(37, .is (.agg (bs C))), (38, .is (.pointer (some ⟨g1, 0, none⟩))), (39, .is (.pointer (some ⟨g1, 0, none⟩))), (40, .is (.pointer (some ⟨g1, 0, none⟩))), (41, .is (.agg (bs c1))), (42, .is (.bool (!(C == c1))))] [0, 1, 2, 3, 4, 10, 12, 15, 42]
      (fun W => PrW w W ∧ Below W5.heap.size W5 W) (by kernel_rfl) (by kernel_rfl) (by kernel_rfl) (by kernel_rfl) (by kernel_rfl) (hG _ _ ⟨HW5.out, Below.refl _ _⟩ (Below.refl _ _).drew) ?_ ?_
    · refine ⟨?a0, ?a1, ?a2, ?a3, ?a4, ?a5, trivial⟩
      case a0 => exact ask_load (guard_none rfl) _ (.tmp 13) (.pointer (some ⟨gC, 0, none⟩)) (.agg (bs C)) rfl rfl (by intro k hk; cases hk; rfl) (fun W hW => HLC.out W hW.2)
      case a1 => exact ask_copy (guard_none rfl) (.tmp 15) (.inl rfl) (by intro k hk; cases hk; rfl)
      case a2 => exact ask_nil (guard_none rfl) (.tmp 38) _ rfl rfl (by intro k hk; cases hk; rfl)
      case a3 => exact ask_field (guard_none rfl) _ (.tmp 39) 0 (.pointer (some ⟨g1, 0, none⟩)) (.pointer (some ⟨g1, 0, none⟩)) rfl rfl (by intro k hk; cases hk; rfl) (fun W => by kernel_rfl)
      case a4 => exact ask_load (guard_none rfl) _ (.tmp 40) (.pointer (some ⟨g1, 0, none⟩)) (.agg (bs c1)) rfl rfl (by intro k hk; cases hk; rfl) (fun W hW => HL1.out W hW.2)
      case a5 => exact ask_bin (guard_none rfl) .neq _ _ (.tmp 37) (.tmp 41) (.agg (bs C)) (.agg (bs c1)) (.bool (!(C == c1))) rfl rfl rfl (by intro k hk; cases hk; rfl) (HNq.out _ _)
    intro a' W6 hW hd' hs' hf'
    have HW6 := Lib.hid hW
    clear hW hG
    have t0 : a'.tmps.getD 0 undef = .int .i64 n := hf' 0 rfl
    have t1 : a'.tmps.getD 1 undef = .slice pv m cv := hf' 1 rfl
    have t2 : a'.tmps.getD 2 undef = .int .u64 (i : Int) := hf' 2 rfl
    have t3 : a'.tmps.getD 3 undef = .slice ax lx cx := hf' 3 rfl
    have t4 : a'.tmps.getD 4 undef = .slice pp p pc0 := hf' 4 rfl
    have t10 : a'.tmps.getD 10 undef = .pointer (some ⟨w.heap.size, 0, none⟩) := hf' 10 rfl
    have t12 : a'.tmps.getD 12 undef = .int .u64 (m : Int) := hf' 12 rfl
    have t15 : a'.tmps.getD 15 undef = .pointer (some ⟨g1, 0, none⟩) := hf' 15 rfl
    have t42 : a'.tmps.getD 42 undef = .bool (!(C == c1)) := hf' 42 rfl
    obtain ⟨us', hus, ha'⟩ := act_open 63 a' hs' hd'
    rw [← hus] at t0 t1 t2 t3 t4 t10 t12 t15 t42
    have el : ((List.range 63).map us').toArray = #[.int .i64 n, .slice pv m cv, .int .u64 (i : Int), .slice ax lx cx, .slice pp p pc0, us' 5, us' 6, us' 7, us' 8, us' 9, .pointer (some ⟨w.heap.size, 0, none⟩), us' 11, .int .u64 (m : Int), us' 13, us' 14, .pointer (some ⟨g1, 0, none⟩), us' 16, us' 17, us' 18, us' 19, us' 20, us' 21, us' 22, us' 23, us' 24, us' 25, us' 26, us' 27, us' 28, us' 29, us' 30, us' 31, us' 32, us' 33, us' 34, us' 35, us' 36, us' 37, us' 38, us' 39, us' 40, us' 41, .bool (!(C == c1)), us' 43, us' 44, us' 45, us' 46, us' 47, us' 48, us' 49, us' 50, us' 51, us' 52, us' 53, us' 54, us' 55, us' 56, us' 57, us' 58, us' 59, us' 60, us' 61, us' 62] := by
      show #[us' 0, us' 1, us' 2, us' 3, us' 4, us' 5, us' 6, us' 7, us' 8, us' 9, us' 10, us' 11, us' 12, us' 13, us' 14, us' 15, us' 16, us' 17, us' 18, us' 19, us' 20, us' 21, us' 22, us' 23, us' 24, us' 25, us' 26, us' 27, us' 28, us' 29, us' 30, us' 31, us' 32, us' 33, us' 34, us' 35, us' 36, us' 37, us' 38, us' 39, us' 40, us' 41, us' 42, us' 43, us' 44, us' 45, us' 46, us' 47, us' 48, us' 49, us' 50, us' 51, us' 52, us' 53, us' 54, us' 55, us' 56, us' 57, us' 58, us' 59, us' 60, us' 61, us' 62] = _
      rw [t0, t1, t2, t3, t4, t10, t12, t15, t42]
    rw [el] at ha'
    subst ha'
    clear hus t0 t1 t2 t3 t4 t10 t12 t15 t42 el hf' hs' hd'
    have HWp := Lib.hid HW6.out.1
    by_cases hcc : C = c1
    · have hbe : (!(C == c1)) = false := by simpa using hcc
      rw [hbe]
      have HR3 := Lib.hid (show R = if T[i]? = some x then (([], []), 8) else (pathT n T i x ps, 0) by rw [HR2.out, if_neg (by simp), if_neg (by rw [hcc, HC1.out]; simp)])
      clear hbe hcc HR2
      obtain ⟨pa, A, k, c, t, rfl, htt, hkt, hW⟩ := HTt.out him
      obtain ⟨htc, htb⟩ := hW W6 HWp.out.2
      have HLt := Lib.hid (load_txt W6 (pa.add i) _ htc)
      have HEb := Lib.hid (bytesEq_any _ _ x t W6 (HXb.out W6 HWp.out.2) htb)
      have HTT := Lib.hid htt
      clear hW htc htb htt hkt HTt
      go_wp2_with (refine wpList_load_by rfl 22 (.tmp 47) rfl _ _ rfl HLt.out ?_)
      refine HEb.out.mono ?_
      rintro e W7 ⟨rfl, rfl⟩
      clear HEb HLt
      by_cases hxt : x = t
      · have hbe : (x == t) = true := by simpa using hxt
        rw [hbe]
        have HRn := Lib.hid (show R = (([], []), 8) by rw [HR3.out, if_pos (by rw [HTT.out, hxt])])
        clear hbe hxt HR3
        go_wp2_with (refine wpList_store_row rfl 51 (.tmp 10) (.tmp 50) rfl w.heap.size (prC none 0 0 none 0 0) rfl rfl 51 _ HWp.out.1 (size_pair _ _ _ _ _ _) rfl (pair_one _ _ _ _ _ _) ?_)
        exact bodyPost_ret (v := .tuple #[.agg (prC none 0 0 none 0 0), .int .i64 8]) (ret_pair rfl _ _ w.heap.size _ _ _ _ _ _ _ rfl rfl (Blk.row HWp.out.1 _)) rfl ⟨_, by first | (rw [HRn.out]; done) | (rw [HRn.out]; rfl), by rw [HRn.out]; exact PairB.none _, below_setRow HWp.out.2 _ _ (Nat.le_refl _)⟩
      · have hbe : (x == t) = false := by simpa using hxt
        rw [hbe]
        have HRn := Lib.hid (show R = (pathT n T i x ps, 0) by rw [HR3.out, if_neg (by rw [HTT.out]; simpa using fun e => hxt e.symm)])
        have hfd := HFnd.out t HTT.out (fun e => hxt e.symm) HPl.out
        have HFd := Lib.hid hfd
        have HU6 := Lib.hid (HU1.out.below HW6.out.2)
        clear hbe hxt HR3 hfd HU1
        go_wp2_with fail
        refine (HTx.out _ HWp.out.2).mono ?_
        rintro e W7 ⟨u7, rfl, hu7, hb7⟩
        have HW7 := Lib.hid (HWp.out.keep hb7)
        have HU7 := Lib.hid hu7
        have HU17 := Lib.hid (HU6.out.below hb7)
        clear hb7 hu7 HTx HU6
        go_wp2_with fail
        refine (HCd.out _ _ _ him HPl.out HU7.out HW7.out.2).mono ?_
        rintro e W8 ⟨u8, rfl, hu8, hb8⟩
        have HW8 := Lib.hid (HW7.out.keep hb8)
        have HM := Lib.hid (met_any _ _ _ _ W8 (HU17.out.below hb8) hu8)
        rw [HFd.out] at HM
        clear hb8 hu8 HCd HU17 HU7
        go_wp2_with fail
        refine HM.out.mono ?_
        rintro e W9 ⟨pu, rfl, hpb, hbm⟩
        have HPb0 := Lib.hid hpb
        have HWW9 := Lib.hid (HW8.out.keep hbm)
        clear hpb hbm
        obtain ⟨pa9, pn, pc, pa', pn', pc', rfl⟩ := pairB_parts HPb0.out
        have HPb : Hid (PairB W9 (.agg (prC pa9 pn pc pa' pn' pc')) R.1) := Lib.hid (by
          rw [HRn.out]
          exact HPb0.out)
        have HE2 : Hid ((R.2 : Int) = 0) := Lib.hid (by rw [HRn.out]; rfl)
        go_wp2_with (refine wpList_store_row rfl 51 (.tmp 10) (.tmp 61) rfl w.heap.size (prC pa9 pn pc pa' pn' pc') rfl rfl 51 _ HWW9.out.1 (size_pair _ _ _ _ _ _) rfl (pair_one _ _ _ _ _ _) ?_)
        exact bodyPost_ret (v := .tuple #[.agg (prC pa9 pn pc pa' pn' pc'), .int .i64 0]) (ret_pair rfl _ _ w.heap.size _ _ _ _ _ _ _ rfl rfl (Blk.row HWW9.out.1 _)) rfl ⟨_, by rw [HE2.out], PairB.far HPb.out HWW9.out.1, below_setRow HWW9.out.2 _ _ (Nat.le_refl _)⟩
    · have hbe : (!(C == c1)) = true := by simpa using hcc
      rw [hbe]
      have HRn := Lib.hid (show R = (([], []), 3) by rw [HR2.out, if_neg (by simp), if_pos (by rw [← HC1.out]; exact hcc)])
      clear hbe hcc HW6
      go_wp2_with (refine wpList_store_row rfl 51 (.tmp 10) (.tmp 43) rfl w.heap.size (prC none 0 0 none 0 0) rfl rfl 51 _ HWp.out.1 (size_pair _ _ _ _ _ _) rfl (pair_one _ _ _ _ _ _) ?_)
      exact bodyPost_ret (v := .tuple #[.agg (prC none 0 0 none 0 0), .int .i64 3]) (ret_pair rfl _ _ w.heap.size _ _ _ _ _ _ _ rfl rfl (Blk.row HWp.out.1 _)) rfl ⟨_, by first | (rw [HRn.out]; done) | (rw [HRn.out]; rfl), by rw [HRn.out]; exact PairB.none _, below_setRow HWp.out.2 _ _ (Nat.le_refl _)⟩
  · have hne : ¬ ((E : Int) = 0) := by omega
    have HRn := Lib.hid (show R = (([], []), E) by rw [HR2.out, if_pos hE0])
    clear hE0 HR2
    go_wp2_with (refine wpList_store_row rfl 51 (.tmp 10) (.tmp 32) rfl w.heap.size (prC none 0 0 none 0 0) rfl rfl 51 _ HW4.out.1 (size_pair _ _ _ _ _ _) rfl (pair_one _ _ _ _ _ _) ?_)
    exact bodyPost_ret (v := .tuple #[.agg (prC none 0 0 none 0 0), .int .i64 (E : Int)]) (ret_pair rfl _ _ w.heap.size _ _ _ _ _ _ _ rfl rfl (Blk.row HW4.out.1 _)) rfl ⟨_, by first | (rw [HRn.out]; done) | (rw [HRn.out]; rfl), by rw [HRn.out]; exact PairB.none _, below_setRow HW4.out.2 _ _ (Nat.le_refl _)⟩
end Go.Proofs.YtdhfabjkpffhnaaDoor

/- Layer 17: the program's Growth. -/
namespace Go.Proofs.YtdhfabjkpffhnaaDoor
set_option maxRecDepth 20000
open Go.RowKit ShaMath LeafMath PathMath GrowthMath ClashMath Reg

/-- What a tree in memory is survives that a pair is written. -/
theorem run_fld0 (g : Nat) (W : World) : (Instr.fieldAt 78 (.pointer (some ⟨g, 0, none⟩)) 0).run Tryd.prog W = .ok (.pointer (some ⟨g, 0, none⟩)) W := by kernel_rfl

section
variable {ops : Array Oper} {tab : List (List Nat)} {fin : List Tmp} {G : World → Prop} {f : Tmp → Fact} {i : Nat} {o : Oper}
theorem ask_nil_tr (hg : guardOk ops f o) (s : Operand) (t : Tr) (ho : o.op = .nilCheck s) (hs : opFact f s = trF t) (hd : ∀ k, o.dst = some k → f k = trF t) : Asked Tryd.prog ops tab fin G f i o := by
  intro x W hW hk
  have h1 := told_op hk s (by rw [ho]; simp [Op.operands])
  rw [hs] at h1
  have h1 : IsTr W t (evalBy x s) := h1
  obtain ⟨_, g, _, _, _, _, e, _⟩ := h1.blk
  refine ⟨guard_ok hg hk, gives_value (v := evalBy x s) (w' := W) ?_ ⟨hW, fun k u _ _ hu => hu, fun k hk => by show (f k).holds _ _; rw [hd k hk]; exact h1⟩⟩
  simp [execOp, ho, e]
theorem ask_fld_tr (hg : guardOk ops f o) (s : Operand) (t : Tr) (ho : o.op = .fieldAddr 78 s 0) (hs : opFact f s = trF t) (hd : ∀ k, o.dst = some k → f k = trF t) : Asked Tryd.prog ops tab fin G f i o := by
  intro x W hW hk
  have h1 := told_op hk s (by rw [ho]; simp [Op.operands])
  rw [hs] at h1
  have h1 : IsTr W t (evalBy x s) := h1
  obtain ⟨_, g, _, _, _, _, e, _⟩ := h1.blk
  refine ⟨guard_ok hg hk, gives_value (v := evalBy x s) (w' := W) ?_ ⟨hW, fun k u _ _ hu => hu, fun k hk => by show (f k).holds _ _; rw [hd k hk]; exact h1⟩⟩
  have hr := run_fld0 g W
  simp only [execOp, ho, e, Sem.run_bind, hr, Result.andThen_ok, Sem.run_pure]
theorem ask_load_tr (hg : guardOk ops f o) (s : Operand) (t : Tr) (c : Hs) (hc : c = t.root) (ho : o.op = .load 24 s) (hs : opFact f s = trF t) (hd : ∀ k, o.dst = some k → f k = .is (.agg (bs c))) : Asked Tryd.prog ops tab fin G f i o := by
  refine ask_val hg (.agg (bs c)) hd fun x W hW hk => ?_
  have h1 := told_op hk s (by rw [ho]; simp [Op.operands])
  rw [hs] at h1
  have h1 : IsTr W t (evalBy x s) := h1
  obtain ⟨h32, g, _, _, _, _, e, hb⟩ := h1.blk
  have hr := load_root hb h32
  rw [← hc] at hr
  simp only [execOp, ho, e, Sem.run_bind, hr, Result.andThen_ok, Sem.run_pure]
end

theorem range_two17 : Array.range 2 = #[0, 1] := by decide
/-- Two lists of hashes in a row that is made, in a walk. -/
theorem wpList_build_twoH {w : World} {ops : Array Oper} {rest : List Oper} {o : Oper} {a : Act} {Q : Exit → Act → World → Prop} (hgd : o.guard = none) (s0 s1 : Operand) (ho : o.op = .buildSlice 104 2 #[(0, s0), (1, s1)]) (v0 v1 : Value) (h0 : a.eval s0 = v0) (h1 : a.eval s1 = v1)
    (l0 l1 : List Hs) (b0 : Hss w v0 l0) (b1 : Hss w v1 l1)
    (h : ∀ W, HParts W w.heap.size [l0, l1] → Below w.heap.size w W → wpList Tryd.prog ops Q rest (a.put o.dst (.slice (some ⟨w.heap.size, 0, none⟩) 2 2)) W) : wpList Tryd.prog ops Q (o :: rest) a w := by
  obtain ⟨a0, c0, rfl, _⟩ := b0.form
  obtain ⟨a1, c1, rfl, _⟩ := b1.form
  have hz : (zeroValue 30).run Tryd.prog w = .ok (.slice none 0 0) w := by kernel_rfl
  have hs : (Go.sizeOf 30).run Tryd.prog w = .ok 1 w := by kernel_rfl
  have hr : (Instr.buildSlice 104 2 #[(0, .slice a0 l0.length c0), (1, .slice a1 l1.length c1)]).run Tryd.prog w = .ok (.slice (some ⟨w.heap.size, 0, none⟩) 2 2) (w.alloc (.cells #[.slice a0 l0.length c0, .slice a1 l1.length c1] 30)) := by
    simp [Instr.buildSlice, run_underlying Tryd.underlying104, Result.andThen, hz, hs, Instr.fill, newRow, Value.cells, range_two17]
  have hb : Below w.heap.size w (w.alloc (.cells #[.slice a0 l0.length c0, .slice a1 l1.length c1] 30)) := (Below.refl _ _).alloc (Nat.le_refl _) _
  have hn : Blk (w.alloc (.cells #[.slice a0 l0.length c0, .slice a1 l1.length c1] 30)) w.heap.size 30 #[.slice a0 l0.length c0, .slice a1 l1.length c1] := Blk.new _ _ _
  refine wpList_plain hgd fun K hK => ?_
  unfold Oper.wp
  simp [execOp, ho, h0, h1, hr, Result.andThen]
  refine hK _ _ (h _ (fun i hi => ?_) hb)
  have hi2 : i < 2 := hi
  rcases i with _ | _ | i
  · exact ⟨_, by rw [hn.cell]; rfl, b0.below (Nat.le_refl _) hb⟩
  · exact ⟨_, by rw [hn.cell]; rfl, b1.below (Nat.le_refl _) hb⟩
  · omega

set_option maxHeartbeats 4000000 in
set_option maxRecDepth 100000 in
theorem growth17_any (n : Int) (hn : I64 n) (T : List Bs) (m : Nat) (h : Hs) (ps : List Hs) (v vp : Value) (w : World) (hv : Txs w v T) (hs : Shorts T) (hm : m < 18446744073709551616) (hh : h.length = 32) (hp : Hss w vp ps) (hp80 : ps.length ≤ 80) (ht : Tabs w) :
    Calls Tryd.prog 39 #[.int .i64 n, v, .int .u64 (m : Int), .agg (bs h), vp] w fun e w' => ∃ u, e = .returned (.tuple #[u, .int .i64 ((growC n T m h ps).2 : Int)]) ∧ PairB w' u (growC n T m h ps).1 ∧ Below w.heap.size w w' := by
  have HP := Lib.hid (PgW.new w h)
  obtain ⟨pv, cv, rfl, hcv⟩ := hv.form
  obtain ⟨M, hM⟩ : ∃ M, M = T.length := ⟨_, rfl⟩
  rw [← hM] at hv hcv ⊢
  have hM80 : M ≤ 80 := by rw [hM]; exact hs.few
  obtain ⟨pp, pc0, rfl, hpc⟩ := hp.form
  obtain ⟨p, hpp⟩ : ∃ p, p = ps.length := ⟨_, rfl⟩
  rw [← hpp] at hp hpc hp80 ⊢
  have HCl := Lib.hid (fun (W : World) (hW : Below w.heap.size w W) => gclimb_any n hn h m M ps (.slice pp p pc0) W hh hm (by omega) (hp.below (Nat.le_refl _) hW) (ht.below (Nat.le_refl _) hW))
  have hcd := climbGR_32 n h m M ps hh hp.all
  obtain ⟨C, hC⟩ : ∃ C, C = (climbGR n h m M ps).1.1 := ⟨_, rfl⟩
  obtain ⟨D, hD⟩ : ∃ D, D = (climbGR n h m M ps).1.2 := ⟨_, rfl⟩
  obtain ⟨E, hE⟩ : ∃ E, E = (climbGR n h m M ps).2 := ⟨_, rfl⟩
  rw [← hC, ← hD] at hcd
  rw [← hC, ← hD, ← hE] at HCl
  have HC32 := Lib.hid hcd.1
  have HD32 := Lib.hid hcd.2
  have Hh := Lib.hid hh
  have HSC := Lib.hid (size_hash (cs := bs C) (by rw [bs_size, hcd.1]))
  have HSD := Lib.hid (size_hash (cs := bs D) (by rw [bs_size, hcd.2]))
  have HSh := Lib.hid (size_hash (cs := bs h) (by rw [bs_size, hh]))
  obtain ⟨R, hR⟩ : ∃ R, R = growC n T m h ps := ⟨_, rfl⟩
  have hR2 : R = if E ≠ 0 then (([], []), E) else if C ≠ h ∨ D ≠ rootT n T then (([], []), 3) else if h = rootT n (T.take m) then (([], []), 8) else (match growT n T m h ps true with | some q => (q, 0) | none => (([], []), 8)) := by
    rw [hR, growC, ← hM, ← hE, ← hC, ← hD]
    cases growT n T m h ps true <;> rfl
  rw [← hR]
  have HLi := Lib.hid (fun (k : Nat) (hk : k ≤ M) (W : World) (hW : Below w.heap.size w W) => ofList_any n hn k (T.take k) (.slice pv k cv) W (by rw [List.length_take]; omega) ((hv.takeC k hk).below (Nat.le_refl _) hW) (hs.take k) (ht.below (Nat.le_refl _) hW))
  have hTM : T.take M = T := by rw [hM, List.take_length]
  have HSl := Lib.hid (fun (hk : m ≤ M) W => slice_txs_toU pv M cv m (by omega) W)
  have HPs := Lib.hid (fun (W : World) (hW : Below w.heap.size w W) => hp.below (Nat.le_refl _) hW)
  have hok : E = 0 → 1 ≤ m ∧ m ≤ M ∧ p = sizeG m M true := fun h0 => by
    obtain ⟨q1, q2, q3, _⟩ := climbGR_ok (n := n) (h := h) (m := m) (N := M) (p := ps) (by rw [← hE]; exact h0)
    exact ⟨q1, q2, by rw [hpp]; exact q3⟩
  have hsh : E = 0 → (C, D) = showG n m M h ps true := fun h0 => by
    obtain ⟨_, _, _, q4⟩ := climbGR_ok (n := n) (h := h) (m := m) (N := M) (p := ps) (by rw [← hE]; exact h0)
    rw [← q4, hC, hD]
  -- the two ways to go down
  have hpow : ones m = 1 → m ≤ M → p = sizeG m M true → trDown (trL n T) (trC n (.top h) (m - 1) M ps) = growT n T m h ps true ∧ p ≤ sizeP (m - 1) M := fun h1 h2 h3 => by
    obtain ⟨j, rfl⟩ := ones_one m h1
    exact ⟨(trC_pow n h j M T ps hM.symm h2 (by rw [← hpp]; exact h3)).2, by rw [h3]; exact sizeG_pow_leP j M h2⟩
  have hmore : ones m ≠ 1 → 1 ≤ m → m < M → p = sizeG m M true → ∃ x q, ps = x :: q ∧ trDown (trL n T) (trC n (.top x) (m - 1) M q) = growT n T m h ps true ∧ q.length ≤ sizeP (m - 1) M := fun h1 h2 h3 h4 => by
    have hle := sizeG_leP M m true h2 (by omega)
    have hpos : 1 ≤ p := by
      rw [h4]
      by_cases hd : m ≤ splitN M
      · rw [sizeG_left true h3 (by omega) hd]; omega
      · rw [sizeG_right true h3 (by omega) hd]; omega
    match ps, hpp with
    | [], hpp => simp at hpp; omega
    | x :: q, hpp =>
      rw [List.length_cons] at hpp
      exact ⟨x, q, rfl, (trC_more n x M T m h q true hM.symm h2 (by omega) (.inr ⟨h3, h1⟩) (by rw [List.length_cons, ← hpp]; exact h4)).2, by omega⟩
  -- where nothing is shown but the whole
  have hall : E = 0 → C = h → D = rootT n T → m = M → h = rootT n (T.take m) := fun h0 _ h2 h3 => by
    have e := hsh h0
    rw [h3, showG_all] at e
    have e2 : D = h := congrArg Prod.snd e
    rw [h3, hTM, ← h2, e2]
  have HCd := Lib.hid (fun (x : Hs) (q : List Hs) (u vq : Value) (W : World) (h1 : 1 ≤ m) (h2 : m ≤ M) (h3 : q.length ≤ sizeP (m - 1) M) (hu : IsTr W (.top x) u) (hq : Hss W vq q) (hW : Below w.heap.size w W) => climbed_any n hn (.top x) q.length (m - 1) M q u vq W rfl (by omega) (by omega) h3 hu hq (ht.below (Nat.le_refl _) hW))
  have HOk := Lib.hid hok
  have HPow := Lib.hid hpow
  have HMore := Lib.hid hmore
  have HAll := Lib.hid hall
  have HTM := Lib.hid hTM
  have HR2 := Lib.hid hR2
  have HPp := Lib.hid hpp
  have HLr := Lib.hid (fun (k : Nat) => trL_root n (T.take k))
  clear hv hs hp ht hn hh hcd hC hD hE hR hR2 hTM hok hsh hpow hmore hall hM hpp
  go_enter Tryd.func39, Tryd.ntmps39
  go_upto_region 1 with fail
  refine world_cut (fun W => PgW w h W) HP.out ?_
  clear HP
  intro W1 hW1
  have HPa := Lib.hid hW1
  clear hW1
  go_wp2_with (refine wpList_load_row rfl 24 (.tmp 8) rfl w.heap.size rfl 24 (bs h) (0, 0) _ HPa.out.1 Tryd.underlying24 rfl HSh.out ?_)
  refine (HCl.out _ HPa.out.2.2).mono ?_
  rintro e W3 ⟨rfl, hb3⟩
  have HPa3 := Lib.hid (HPa.out.keep hb3)
  clear hb3 HCl HPa
  go_upto_region 3 with (first
    | (refine wpList_store_row rfl 24 (.tmp 13) (.tmp 27) rfl W3.heap.size (bs C) rfl rfl 24 _ ((Blk.new W3 _ _).alloc _) HSC.out (by simp [bs_size, HC32.out]) (bs_one _) ?_; refine world_cutL (fun W => PgW w h W ∧ Blk W W3.heap.size 24 (bs C) ∧ ∃ zs, Blk W (W3.heap.size + 1) 24 zs ∧ zs.size = 32) (HPa3.out.two _ _ C rfl) ?_; rintro W5 ⟨hp5, hc5, zs, hz5, hzs⟩; (have HPa5 := Lib.hid hp5); (have HC5 := Lib.hid hc5); (have HZ5 := Lib.hid hz5); (have HZs := Lib.hid hzs); clear hp5 hc5 hz5 hzs)
    | (refine wpList_store_row rfl 24 (.tmp 14) (.tmp 28) rfl (W3.heap.size + 1) (bs D) rfl rfl 24 zs HZ5.out HSD.out (by rw [bs_size, HD32.out, HZs.out]) (bs_one _) ?_))
  obtain ⟨g1, hg1⟩ : ∃ g, g = W3.heap.size := ⟨_, rfl⟩
  have hw3 := HPa3.out.lt
  refine world_cut (fun W => PgW w h W ∧ Blk W g1 24 (bs C) ∧ Blk W (g1 + 1) 24 (bs D)) ⟨HPa5.out.row _ _ (by omega), by rw [hg1]; exact HC5.out.rowOther _ (by omega), by rw [hg1]; exact HZ5.out.row _⟩ ?_
  rw [← hg1]
  clear hg1 HPa3 HPa5 HC5 HZ5 HZs hw3
  rintro W4 ⟨hW4, hb4, hb5⟩
  have HPa := Lib.hid hW4
  have HC4 := Lib.hid hb4
  have HD4 := Lib.hid hb5
  clear hW4 hb4 hb5
  by_cases hE0 : E = 0
  · subst hE0
    obtain ⟨hm1, hmM, hpl⟩ := HOk.out rfl
    have HPl := Lib.hid hpl
    clear hpl
    have HL0 := Lib.hid (HLi.out M (Nat.le_refl _))
    rw [HTM.out] at HL0
    go_wp2_with fail
    refine (HL0.out _ HPa.out.2.2).mono ?_
    rintro e W5 ⟨u1, rfl, hu1, hb5⟩
    have HW5 := Lib.hid (HPa.out.keep hb5)
    have HC5 := Lib.hid (HC4.out.keep hb5)
    have HD5 := Lib.hid (HD4.out.keep hb5)
    have HU1 := Lib.hid hu1
    clear hb5 hu1 HL0 HPa HC4 HD4
    obtain ⟨r1, g3, b1, x1, l1, q1, e1, k1⟩ := HU1.out.blk
    subst e1
    have HL1 := Lib.hid (fun (W : World) (hW : Below W5.heap.size W5 W) => load_root (k1.keep hW) r1)
    have HLC := Lib.hid (fun (W : World) (hW : Below W5.heap.size W5 W) => (HC5.out.keep hW).loads 24 _ Tryd.underlying24 rfl HSC.out)
    have HLD := Lib.hid (fun (W : World) (hW : Below W5.heap.size W5 W) => (HD5.out.keep hW).loads 24 _ Tryd.underlying24 rfl HSD.out)
    have HNq1 := Lib.hid (fun s t W => neq_hash2 s t C h HC32.out Hh.out W)
    have HNq2 := Lib.hid (fun s t W => neq_hash2 s t D (trL n T).root HD32.out r1 W)
    obtain ⟨c1, hc1⟩ : ∃ c, c = (trL n T).root := ⟨_, rfl⟩
    rw [← hc1] at HL1 HNq2
    have HC1 := Lib.hid (show c1 = rootT n T by rw [hc1, trL_root])
    clear k1 hc1 r1 HC5 HD5
    go_upto_region 6 with fail
    have hG : ∀ W W' : World, (PgW w h W ∧ Below W5.heap.size W5 W) → Below W.heap.size W W' → (PgW w h W' ∧ Below W5.heap.size W5 W') := fun W W' h h' => ⟨h.1.keep h', h.2.trans (h'.mono h.2.size)⟩
    by_cases hCh : C = h
    · have hbe : (!(C == h)) = false := by simpa using hCh
      refine region_by [(37, .is (.agg (bs C))), (38, .is (.agg (bs h))), (39, .is (.bool false)), (40, .is (.bool false)), (41, .is (.agg (bs D))), (42, .is (.pointer (some ⟨g3, 0, none⟩))), (43, .is (.pointer (some ⟨g3, 0, none⟩))), (44, .is (.pointer (some ⟨g3, 0, none⟩))), (45, .is (.agg (bs c1))), (46, .is (.bool (!(D == c1)))), (47, .is (.bool (!(D == c1))))] [0, 1, 2, 4, 8, 10, 12, 16, 47] (fun W => PgW w h W ∧ Below W5.heap.size W5 W) (by kernel_rfl) (by kernel_rfl) (by kernel_rfl) (by kernel_rfl) (by kernel_rfl) (hG _ _ ⟨HW5.out, Below.refl _ _⟩ (Below.refl _ _).drew) ?_ ?_
      · refine ⟨?c0, ?c1, ?c2, ?c3, ?c4, ?c5, ?c6, ?c7, ?c8, ?c9, ?c10, trivial⟩
        case c0 => exact ask_load (guard_none rfl) _ (.tmp 13) (.pointer (some ⟨g1, 0, none⟩)) (.agg (bs C)) rfl rfl (by intro k hk; cases hk; rfl) (fun W hW => HLC.out W hW.2)
        case c1 => exact ask_load (guard_none rfl) _ (.tmp 8) (.pointer (some ⟨w.heap.size, 0, none⟩)) (.agg (bs h)) rfl rfl (by intro k hk; cases hk; rfl) (fun W hW => hW.1.1.loads 24 _ Tryd.underlying24 rfl HSh.out)
        case c2 => exact ask_bin (guard_none rfl) .neq _ _ (.tmp 37) (.tmp 38) (.agg (bs C)) (.agg (bs h)) (.bool false) rfl rfl rfl (by intro k hk; cases hk; rfl) (fun W => by rw [HNq1.out, hbe])
        case c3 => exact ask_copy (guard_none rfl) (.tmp 39) (.inl rfl) (by intro k hk; cases hk; rfl)
        case c4 => exact ask_load (guard_some rfl rfl rfl) _ (.tmp 14) (.pointer (some ⟨g1 + 1, 0, none⟩)) (.agg (bs D)) rfl rfl (by intro k hk; cases hk; rfl) (fun W hW => HLD.out W hW.2)
        case c5 => exact ask_copy (guard_some rfl rfl rfl) (.tmp 16) (.inl rfl) (by intro k hk; cases hk; rfl)
        case c6 => exact ask_nil (guard_some rfl rfl rfl) (.tmp 42) _ rfl rfl (by intro k hk; cases hk; rfl)
        case c7 => exact ask_field (guard_some rfl rfl rfl) _ (.tmp 43) 0 (.pointer (some ⟨g3, 0, none⟩)) (.pointer (some ⟨g3, 0, none⟩)) rfl rfl (by intro k hk; cases hk; rfl) (fun W => by kernel_rfl)
        case c8 => exact ask_load (guard_some rfl rfl rfl) _ (.tmp 44) (.pointer (some ⟨g3, 0, none⟩)) (.agg (bs c1)) rfl rfl (by intro k hk; cases hk; rfl) (fun W hW => HL1.out W hW.2)
        case c9 => exact ask_bin (guard_some rfl rfl rfl) .neq _ _ (.tmp 41) (.tmp 45) (.agg (bs D)) (.agg (bs c1)) (.bool (!(D == c1))) rfl rfl rfl (by intro k hk; cases hk; rfl) (HNq2.out _ _)
        case c10 => exact ask_pick (guard_none rfl) (.tmp 40) (.const (.bool true)) (.tmp 46) false rfl rfl (by intro k hk; cases hk; rfl)
      intro a' W6 hW hd' hs' hf'
      have HW6 := Lib.hid hW
      clear hW hG hbe
      have t0 : a'.tmps.getD 0 undef = .int .i64 n := hf' 0 rfl
      have t1 : a'.tmps.getD 1 undef = .slice pv M cv := hf' 1 rfl
      have t2 : a'.tmps.getD 2 undef = .int .u64 (m : Int) := hf' 2 rfl
      have t4 : a'.tmps.getD 4 undef = .slice pp p pc0 := hf' 4 rfl
      have t8 : a'.tmps.getD 8 undef = .pointer (some ⟨w.heap.size, 0, none⟩) := hf' 8 rfl
      have t10 : a'.tmps.getD 10 undef = .pointer (some ⟨w.heap.size + 1, 0, none⟩) := hf' 10 rfl
      have t12 : a'.tmps.getD 12 undef = .int .u64 (M : Int) := hf' 12 rfl
      have t16 : a'.tmps.getD 16 undef = .pointer (some ⟨g3, 0, none⟩) := hf' 16 rfl
      have t47 : a'.tmps.getD 47 undef = .bool (!(D == c1)) := hf' 47 rfl
      obtain ⟨us', hus, ha'⟩ := act_open 83 a' hs' hd'
      rw [← hus] at t0 t1 t2 t4 t8 t10 t12 t16 t47
      have el : ((List.range 83).map us').toArray = #[.int .i64 n, .slice pv M cv, .int .u64 (m : Int), us' 3, .slice pp p pc0, us' 5, us' 6, us' 7, .pointer (some ⟨w.heap.size, 0, none⟩), us' 9, .pointer (some ⟨w.heap.size + 1, 0, none⟩), us' 11, .int .u64 (M : Int), us' 13, us' 14, us' 15, .pointer (some ⟨g3, 0, none⟩), us' 17, us' 18, us' 19, us' 20, us' 21, us' 22, us' 23, us' 24, us' 25, us' 26, us' 27, us' 28, us' 29, us' 30, us' 31, us' 32, us' 33, us' 34, us' 35, us' 36, us' 37, us' 38, us' 39, us' 40, us' 41, us' 42, us' 43, us' 44, us' 45, us' 46, .bool (!(D == c1)), us' 48, us' 49, us' 50, us' 51, us' 52, us' 53, us' 54, us' 55, us' 56, us' 57, us' 58, us' 59, us' 60, us' 61, us' 62, us' 63, us' 64, us' 65, us' 66, us' 67, us' 68, us' 69, us' 70, us' 71, us' 72, us' 73, us' 74, us' 75, us' 76, us' 77, us' 78, us' 79, us' 80, us' 81, us' 82] := by
        show #[us' 0, us' 1, us' 2, us' 3, us' 4, us' 5, us' 6, us' 7, us' 8, us' 9, us' 10, us' 11, us' 12, us' 13, us' 14, us' 15, us' 16, us' 17, us' 18, us' 19, us' 20, us' 21, us' 22, us' 23, us' 24, us' 25, us' 26, us' 27, us' 28, us' 29, us' 30, us' 31, us' 32, us' 33, us' 34, us' 35, us' 36, us' 37, us' 38, us' 39, us' 40, us' 41, us' 42, us' 43, us' 44, us' 45, us' 46, us' 47, us' 48, us' 49, us' 50, us' 51, us' 52, us' 53, us' 54, us' 55, us' 56, us' 57, us' 58, us' 59, us' 60, us' 61, us' 62, us' 63, us' 64, us' 65, us' 66, us' 67, us' 68, us' 69, us' 70, us' 71, us' 72, us' 73, us' 74, us' 75, us' 76, us' 77, us' 78, us' 79, us' 80, us' 81, us' 82] = _
        rw [t0, t1, t2, t4, t8, t10, t12, t16, t47]
      rw [el] at ha'
      subst ha'
      clear hus t0 t1 t2 t4 t8 t10 t12 t16 t47 el hf' hs' hd'
      by_cases hDc : D = c1
      · have hbe : (!(D == c1)) = false := by simpa using hDc
        rw [hbe]
        have HDr := Lib.hid (show D = rootT n T by rw [hDc, HC1.out])
        have HR3 := Lib.hid (show R = if h = rootT n (T.take m) then (([], []), 8) else (match growT n T m h ps true with | some q => (q, 0) | none => (([], []), 8)) by rw [HR2.out, if_neg (by simp), if_neg (by rw [hCh, HDr.out]; simp)])
        have HU6 := Lib.hid (HU1.out.below HW6.out.2)
        have HW6p := Lib.hid HW6.out.1
        have HSlm := Lib.hid (HSl.out hmM)
        have HLm := Lib.hid (HLi.out m hmM)
        obtain ⟨tm, htm⟩ : ∃ t, t = trL n (T.take m) := ⟨_, rfl⟩
        rw [← htm] at HLm
        obtain ⟨cm, hcm⟩ : ∃ c, c = tm.root := ⟨_, rfl⟩
        have HCm := Lib.hid hcm
        have HCmr := Lib.hid (show cm = rootT n (T.take m) by rw [hcm, htm, trL_root])
        have HCm32 := Lib.hid (show cm.length = 32 by rw [HCmr.out, rootT_length])
        have HEq := Lib.hid (fun s t W => eql_hash2 s t h cm Hh.out HCm32.out W)
        clear hbe hDc htm hcm HU1 HNq1 HNq2 HLC HLD HL1 HW6 HLi HSl
        go_upto_region 8 with fail
        have hG : ∀ W W' : World, (PgW w h W ∧ Below W6.heap.size W6 W) → Below W.heap.size W W' → (PgW w h W' ∧ Below W6.heap.size W6 W') := fun W W' h h' => ⟨h.1.keep h', h.2.trans (h'.mono h.2.size)⟩
        refine region_by [(49, .is (.agg (bs h))), (50, .is (.int .i64 n)), (51, .is (.slice pv M cv)), (52, .is (.int .u64 (m : Int))), (53, .is (.slice pv m cv)), (54, trF tm), (55, trF tm), (56, trF tm), (57, .is (.agg (bs cm))), (58, .is (.bool (h == cm)))] [0, 1, 2, 4, 8, 10, 12, 16, 58] (fun W => PgW w h W ∧ Below W6.heap.size W6 W) (by kernel_rfl) (by kernel_rfl) (by kernel_rfl) (by kernel_rfl) (by kernel_rfl) (hG _ _ ⟨HW6p.out, Below.refl _ _⟩ (Below.refl _ _).drew) ?_ ?_
        · refine ⟨?c0, ?c1, ?c2, ?c3, ?c4, ?c5, ?c6, ?c7, ?c8, ?c9, trivial⟩
          case c0 => exact ask_load (guard_none rfl) _ (.tmp 8) (.pointer (some ⟨w.heap.size, 0, none⟩)) (.agg (bs h)) rfl rfl (by intro k hk; cases hk; rfl) (fun W hW => hW.1.1.loads 24 _ Tryd.underlying24 rfl HSh.out)
          case c1 => exact ask_copy (guard_none rfl) (.tmp 0) (.inl rfl) (by intro k hk; cases hk; rfl)
          case c2 => exact ask_copy (guard_none rfl) (.tmp 1) (.inl rfl) (by intro k hk; cases hk; rfl)
          case c3 => exact ask_copy (guard_none rfl) (.tmp 2) (.inl rfl) (by intro k hk; cases hk; rfl)
          case c4 => exact ask_slice (guard_none rfl) _ (.tmp 51) none (some (.tmp 52)) none (.slice pv M cv) (.slice pv m cv) none (some (.int .u64 (m : Int))) none rfl rfl rfl rfl rfl (by intro k hk; cases hk; rfl) HSlm.out
          case c5 => exact ask_call hG (guard_none rfl) _ _ _ #[.int .i64 n, .slice pv m cv] (trF tm) rfl (by kernel_rfl) rfl rfl (by intro k hk; cases hk; rfl) (fun W hW => (HLm.out W hW.1.2.2).mono fun e w' h => by obtain ⟨u, h1, h2, h3⟩ := h; exact ⟨u, h1, h2, h3⟩)
          case c6 => exact ask_nil_tr (guard_none rfl) (.tmp 54) tm rfl rfl (by intro k hk; cases hk; rfl)
          case c7 => exact ask_fld_tr (guard_none rfl) (.tmp 55) tm rfl rfl (by intro k hk; cases hk; rfl)
          case c8 => exact ask_load_tr (guard_none rfl) (.tmp 56) tm cm HCm.out rfl rfl (by intro k hk; cases hk; rfl)
          case c9 => exact ask_bin (guard_none rfl) .eql _ _ (.tmp 49) (.tmp 57) (.agg (bs h)) (.agg (bs cm)) (.bool (h == cm)) rfl rfl rfl (by intro k hk; cases hk; rfl) (HEq.out _ _)
        intro a' W8 hW hd' hs' hf'
        have HW8 := Lib.hid hW.1
        have HU8 := Lib.hid (HU6.out.below hW.2)
        clear hW hG HU6 HLm HSlm HEq
        have t0 : a'.tmps.getD 0 undef = .int .i64 n := hf' 0 rfl
        have t1 : a'.tmps.getD 1 undef = .slice pv M cv := hf' 1 rfl
        have t2 : a'.tmps.getD 2 undef = .int .u64 (m : Int) := hf' 2 rfl
        have t4 : a'.tmps.getD 4 undef = .slice pp p pc0 := hf' 4 rfl
        have t8 : a'.tmps.getD 8 undef = .pointer (some ⟨w.heap.size, 0, none⟩) := hf' 8 rfl
        have t10 : a'.tmps.getD 10 undef = .pointer (some ⟨w.heap.size + 1, 0, none⟩) := hf' 10 rfl
        have t12 : a'.tmps.getD 12 undef = .int .u64 (M : Int) := hf' 12 rfl
        have t16 : a'.tmps.getD 16 undef = .pointer (some ⟨g3, 0, none⟩) := hf' 16 rfl
        have t58 : a'.tmps.getD 58 undef = .bool (h == cm) := hf' 58 rfl
        obtain ⟨vs', hus, ha'⟩ := act_open 83 a' hs' hd'
        rw [← hus] at t0 t1 t2 t4 t8 t10 t12 t16 t58
        have el : ((List.range 83).map vs').toArray = #[.int .i64 n, .slice pv M cv, .int .u64 (m : Int), vs' 3, .slice pp p pc0, vs' 5, vs' 6, vs' 7, .pointer (some ⟨w.heap.size, 0, none⟩), vs' 9, .pointer (some ⟨w.heap.size + 1, 0, none⟩), vs' 11, .int .u64 (M : Int), vs' 13, vs' 14, vs' 15, .pointer (some ⟨g3, 0, none⟩), vs' 17, vs' 18, vs' 19, vs' 20, vs' 21, vs' 22, vs' 23, vs' 24, vs' 25, vs' 26, vs' 27, vs' 28, vs' 29, vs' 30, vs' 31, vs' 32, vs' 33, vs' 34, vs' 35, vs' 36, vs' 37, vs' 38, vs' 39, vs' 40, vs' 41, vs' 42, vs' 43, vs' 44, vs' 45, vs' 46, vs' 47, vs' 48, vs' 49, vs' 50, vs' 51, vs' 52, vs' 53, vs' 54, vs' 55, vs' 56, vs' 57, .bool (h == cm), vs' 59, vs' 60, vs' 61, vs' 62, vs' 63, vs' 64, vs' 65, vs' 66, vs' 67, vs' 68, vs' 69, vs' 70, vs' 71, vs' 72, vs' 73, vs' 74, vs' 75, vs' 76, vs' 77, vs' 78, vs' 79, vs' 80, vs' 81, vs' 82] := by
          show #[vs' 0, vs' 1, vs' 2, vs' 3, vs' 4, vs' 5, vs' 6, vs' 7, vs' 8, vs' 9, vs' 10, vs' 11, vs' 12, vs' 13, vs' 14, vs' 15, vs' 16, vs' 17, vs' 18, vs' 19, vs' 20, vs' 21, vs' 22, vs' 23, vs' 24, vs' 25, vs' 26, vs' 27, vs' 28, vs' 29, vs' 30, vs' 31, vs' 32, vs' 33, vs' 34, vs' 35, vs' 36, vs' 37, vs' 38, vs' 39, vs' 40, vs' 41, vs' 42, vs' 43, vs' 44, vs' 45, vs' 46, vs' 47, vs' 48, vs' 49, vs' 50, vs' 51, vs' 52, vs' 53, vs' 54, vs' 55, vs' 56, vs' 57, vs' 58, vs' 59, vs' 60, vs' 61, vs' 62, vs' 63, vs' 64, vs' 65, vs' 66, vs' 67, vs' 68, vs' 69, vs' 70, vs' 71, vs' 72, vs' 73, vs' 74, vs' 75, vs' 76, vs' 77, vs' 78, vs' 79, vs' 80, vs' 81, vs' 82] = _
          rw [t0, t1, t2, t4, t8, t10, t12, t16, t58]
        rw [el] at ha'
        subst ha'
        clear hus t0 t1 t2 t4 t8 t10 t12 t16 t58 el hf' hs' hd'
        by_cases hhm : h = cm
        · have hbe : (h == cm) = true := by simpa using hhm
          rw [hbe]
          have HRn := Lib.hid (show R = (([], []), 8) by rw [HR3.out, if_pos (by rw [← HCmr.out]; exact hhm)])
          clear hbe hhm HR3
          go_wp2_with (refine wpList_store_row rfl 51 (.tmp 10) (.tmp 59) rfl (w.heap.size + 1) (prC none 0 0 none 0 0) rfl rfl 51 _ HW8.out.2.1 (size_pair _ _ _ _ _ _) rfl (pair_one _ _ _ _ _ _) ?_)
          exact bodyPost_ret (v := .tuple #[.agg (prC none 0 0 none 0 0), .int .i64 8]) (ret_pair rfl _ _ (w.heap.size + 1) _ _ _ _ _ _ _ rfl rfl (Blk.row HW8.out.2.1 _)) rfl ⟨_, by first | (rw [HRn.out]; done) | (rw [HRn.out]; rfl), by rw [HRn.out]; exact PairB.none _, below_setRow HW8.out.2.2 _ _ (by omega)⟩
        · have hbe : (h == cm) = false := by simpa using hhm
          rw [hbe]
          have HRn := Lib.hid (show R = (match growT n T m h ps true with | some q => (q, 0) | none => (([], []), 8)) by rw [HR3.out, if_neg (by rw [← HCmr.out]; exact hhm)])
          have hmlt : m < M := by
            refine Nat.lt_of_le_of_ne hmM fun e => hhm ?_
            rw [HCmr.out]
            exact HAll.out (by trivial) hCh HDr.out e
          have HOn := Lib.hid (fun W => onesCount_any m W hm)
          obtain ⟨on, hon⟩ : ∃ k, k = ones m := ⟨_, rfl⟩
          rw [← hon] at HOn
          clear hbe hhm HR3
          go_wp2_with fail
          refine (HOn.out _).mono ?_
          rintro e W9 ⟨rfl, rfl⟩
          clear HOn
          by_cases ho1 : on = 1
          · subst ho1
            obtain ⟨hgd, hgl⟩ := HPow.out hon.symm hmM HPl.out
            have HGd := Lib.hid hgd
            have HGl := Lib.hid (show ps.length ≤ sizeP (m - 1) M by rw [← HPp.out]; exact hgl)
            have HCc := Lib.hid (fun (g : Nat) (W : World) (hW : HParts W g [[h], ps]) => hConcat_any g 2 [[h], ps] W hW rfl (by omega) (by rw [show ([[h], ps] : List (List Hs)).flatten = h :: ps by simp, List.length_cons, ← HPp.out]; omega))
            rw [show ([[h], ps] : List (List Hs)).flatten = h :: ps by simp] at HCc
            have HNs := Lib.hid (hss_new W9 h Hh.out)
            have Hch := Lib.hid (show (bs h).size = 32 by rw [bs_size, Hh.out])
            have HPk := Lib.hid (HPs.out _ (HW8.out.2.2.alloc HW8.out.2.2.size (.cells (bs h) 24)))
            have hone : ((1 : Nat) : Int) = 1 := rfl
            clear hgd hgl hon
            go_wp2_with (first
              | (refine wpList_load_row rfl 24 (.tmp 8) rfl w.heap.size rfl 24 (bs h) (0, 0) _ HW8.out.1 Tryd.underlying24 rfl HSh.out ?_)
              | (refine wpList_build_hash1 rfl (.tmp 63) rfl (bs h) rfl Hch.out ?_)
              | (refine wpList_build_twoH rfl (.tmp 64) (.tmp 65) rfl _ _ rfl rfl [h] ps HNs.out HPk.out ?_; intro W10 hp10 hb10; rw [World.size_alloc] at hp10; (have HP10 := Lib.hid hp10); (have HB10 := Lib.hid hb10); clear hp10 hb10))
            refine (HCc.out _ _ HP10.out).mono ?_
            rintro e W11 ⟨v4, rfl, hv4, hb11⟩
            have hbA : Below W9.heap.size W9 W11 := (((Below.refl _ _).alloc (Nat.le_refl _) _).trans (HB10.out.mono (by simp))).trans (hb11.mono (by have := HB10.out.size; simp at this; omega))
            have HW11 := Lib.hid (HW8.out.keep hbA)
            have HU11 := Lib.hid (HU8.out.below hbA)
            have hvs := hv4.hss
            obtain ⟨pad0, p1, pc1, hve, hvl⟩ : ∃ pad p1 pc, v4 = .slice (some pad) p1 pc ∧ p1 = (h :: ps).length := by
              obtain ⟨a, c, e, hc⟩ := hvs.form
              subst e
              obtain ⟨ad, rfl, _⟩ := hvs.load (i := 0) (x := h) rfl
              exact ⟨ad, _, c, rfl, rfl⟩
            subst hve
            have HV4 := Lib.hid hvs
            have HVl := Lib.hid (show p1 = ps.length + 1 by rw [hvl]; rfl)
            clear hb11 hbA hv4 hvs hvl HCc HNs HPk HP10 HB10 HW8 HU8
            have hx32 : h.length = 32 := HV4.out.all h (by simp)
            have HRt := Lib.hid (fun W => ofRoot_any h hx32 W)
            have HLx := Lib.hid (fun (W : World) (hW : Below W11.heap.size W11 W) => load_hash W (pad0.add (0 * 32)) h hx32 fun j u hj => by
              obtain ⟨ad2, e, h⟩ := (HV4.out.below (Nat.le_refl _) hW).load (i := 0) (x := h) rfl
              cases e
              exact h j u hj)
            have HIx := Lib.hid (fun W => hss_index W pad0 p1 pc1 0 (by have := HVl.out; omega))
            obtain ⟨vq, hvq⟩ : ∃ vq, vq = sliced (some pad0) 1 p1 pc1 32 := ⟨_, rfl⟩
            have HSq := Lib.hid (fun W => slice_hs_from (some pad0) p1 pc1 1 (by have := HVl.out; omega) W)
            have hq : Hss W11 vq ps := by
              have := HV4.out.sub 1 p1 (by have := HVl.out; omega) (Nat.le_refl _)
              rw [← hvq, List.take_of_length_le (by rw [HVl.out]; simp)] at this
              exact this
            rw [← hvq] at HSq
            have HQ := Lib.hid (fun (W : World) (hW : Below W11.heap.size W11 W) => hq.below (Nat.le_refl _) hW)
            obtain ⟨tc, htc⟩ : ∃ t, t = (trC n (.top h) (m - 1) M ps) := ⟨_, rfl⟩
            have HTc := Lib.hid (fun (u : Value) (W : World) (hu : IsTr W (.top h) u) (hW : Below W11.heap.size W11 W) (hw : Below w.heap.size w W) => HCd.out h ps u vq W hm1 hmM HGl.out hu (HQ.out W hW) hw)
            rw [← htc] at HTc
            obtain ⟨o, ho⟩ : ∃ o, o = growT n T m h ps true := ⟨_, rfl⟩
            have HMt := Lib.hid (fun (u : Value) (W : World) (hu : IsTr W tc u) (hW : Below W11.heap.size W11 W) => met_any (trL n T) tc _ u W (HU11.out.below hW) hu)
            rw [htc, HGd.out, ← ho, ← htc] at HMt
            obtain ⟨E1, hE1⟩ : ∃ E : Int, E = (if o.isSome then 0 else 8) := ⟨_, rfl⟩
            have hR1 : R.1 = o.getD ([], []) := by rw [HRn.out, ← ho]; cases o <;> rfl
            have hR2' : (R.2 : Int) = E1 := by rw [HRn.out, ← ho, hE1]; cases o <;> rfl
            rw [show MetEnd o = fun w e w' => ∃ u, e = .returned (.tuple #[u, .int .i64 E1]) ∧ PairB w' u R.1 ∧ Below w.heap.size w w' from by rw [hR1, hE1]; rfl] at HMt
            have HE2 := Lib.hid hR2'
            obtain ⟨P, hPp⟩ : ∃ P, P = R.1 := ⟨_, rfl⟩
            rw [← hPp] at HMt
            have HPp2 := Lib.hid hPp
            obtain ⟨m1, hm1e⟩ : ∃ k, k = m - 1 := ⟨_, rfl⟩
            have HM1 := Lib.hid (show (m : Int) - 1 = (m1 : Int) by omega)
            rw [← hm1e] at HTc
            clear hx32 hvq hq htc ho hE1 hR1 hR2' hPp hm1e
            go_upto_region 12 with fail
            have hG : ∀ W W' : World, (PgW w h W ∧ Below W11.heap.size W11 W) → Below W.heap.size W W' → (PgW w h W' ∧ Below W11.heap.size W11 W') := fun W W' h h' => ⟨h.1.keep h', h.2.trans (h'.mono h.2.size)⟩
            refine region_tails_by 15 [(68, .is (.pointer (some ⟨g3, 0, none⟩))), (69, .is (.int .i64 n)), (70, .is (.slice (some pad0) p1 pc1)), (71, .is (.pointer (some (pad0.add (0 * 32))))), (72, .is (.agg (bs h))), (73, trF (.top h)), (74, .is (.int .u64 (m : Int))), (75, .is (.int .u64 (m1 : Int))), (76, .is (.int .u64 (M : Int))), (77, .is (.slice (some pad0) p1 pc1)), (78, .is vq), (79, trF tc), (80, tupPF (.int .i64 E1) P), (81, prF P), (82, .is (.int .i64 E1))] [10, 81, 82] (fun W => PgW w h W ∧ Below W11.heap.size W11 W) (by kernel_rfl) (by kernel_rfl) (by kernel_rfl) (by kernel_rfl) (by kernel_rfl) (by decide) (by kernel_rfl) (by kernel_rfl) (hG _ _ ⟨HW11.out, Below.refl _ _⟩ (Below.refl _ _).drew) ?_ ?_
            · refine ⟨?c0, ?c1, ?c2, ?c3, ?c4, ?c5, ?c6, ?c7, ?c8, ?c9, ?c10, ?c11, ?c12, ?c13, ?c14, trivial⟩
              case c0 => exact ask_copy (guard_none rfl) (.tmp 16) (.inl rfl) (by intro k hk; cases hk; rfl)
              case c1 => exact ask_copy (guard_none rfl) (.tmp 0) (.inl rfl) (by intro k hk; cases hk; rfl)
              case c2 => exact ask_copy (guard_none rfl) (.tmp 4) (.inl rfl) (by intro k hk; cases hk; rfl)
              case c3 => exact ask_idx (guard_none rfl) _ (.tmp 70) (.const (.int .i64 0)) (.slice (some pad0) p1 pc1) (.int .i64 ((0 : Nat) : Int)) (.pointer (some (pad0.add (0 * 32)))) rfl rfl rfl (by intro k hk; cases hk; rfl) HIx.out
              case c4 => exact ask_load (guard_none rfl) _ (.tmp 71) (.pointer (some (pad0.add (0 * 32)))) (.agg (bs h)) rfl rfl (by intro k hk; cases hk; rfl) (fun W hW => HLx.out W hW.2)
              case c5 => exact ask_call hG (guard_none rfl) _ _ _ #[.agg (bs h)] (trF (.top h)) rfl (by kernel_rfl) rfl rfl (by intro k hk; cases hk; rfl) (fun W hW => (HRt.out W).mono fun e w' h => by obtain ⟨u, h1, h2, h3⟩ := h; exact ⟨u, h1, h2, h3⟩)
              case c6 => exact ask_copy (guard_none rfl) (.tmp 2) (.inl rfl) (by intro k hk; cases hk; rfl)
              case c7 => exact ask_bin (guard_none rfl) .sub _ _ (.tmp 74) (.const (.int .u64 1)) (.int .u64 (m : Int)) (.int .u64 1) (.int .u64 (m1 : Int)) rfl rfl rfl (by intro k hk; cases hk; rfl) (fun W => sub_u64 _ _ _ _ _ _ HM1.out (by have := HM1.out; omega) W)
              case c8 => exact ask_copy (guard_none rfl) (.tmp 12) (.inl rfl) (by intro k hk; cases hk; rfl)
              case c9 => exact ask_copy (guard_none rfl) (.tmp 4) (.inl rfl) (by intro k hk; cases hk; rfl)
              case c10 => exact ask_slice (guard_none rfl) _ (.tmp 77) (some (.const (.int .i64 1))) none none (.slice (some pad0) p1 pc1) vq (some (.int .i64 ((1 : Nat) : Int))) none none rfl rfl rfl rfl rfl (by intro k hk; cases hk; rfl) HSq.out
              case c11 => exact ask_call_by hG (guard_none rfl) _ _ _ (trF tc) rfl (by kernel_rfl) (by intro k hk; cases hk; rfl) (fun y W hW hk => by
                have e69 : y 69 = .int .i64 n := hk 69 rfl
                have e73 : IsTr W (.top h) (y 73) := hk 73 rfl
                have e75 : y 75 = .int .u64 (m1 : Int) := hk 75 rfl
                have e76 : y 76 = .int .u64 (M : Int) := hk 76 rfl
                have e78 : y 78 = vq := hk 78 rfl
                show Calls _ _ #[y 69, y 73, y 75, y 76, y 78] W _
                rw [e69, e75, e76, e78]
                refine (HTc.out (y 73) W e73 hW.2 hW.1.2.2).mono ?_
                rintro e w' ⟨u, h1, h2, h3⟩
                exact ⟨u, h1, h2, h3⟩)
              case c12 => exact ask_call_by hG (guard_none rfl) _ _ _ (tupPF (.int .i64 E1) P) rfl (by kernel_rfl) (by intro k hk; cases hk; rfl) (fun y W hW hk => by
                have e68 : y 68 = .pointer (some ⟨g3, 0, none⟩) := hk 68 rfl
                have e79 : IsTr W tc (y 79) := hk 79 rfl
                show Calls _ _ #[y 68, y 79] W _
                rw [e68]
                refine (HMt.out (y 79) W e79 hW.2).mono ?_
                rintro e w' ⟨u, h1, h2, h3⟩
                exact ⟨_, h1, ⟨u, rfl, h2⟩, h3⟩)
              case c13 => exact ask_ext0P hG (guard_none rfl) (.tmp 80) _ _ rfl rfl (by intro k hk; cases hk; rfl)
              case c14 => exact ask_ext1P (guard_none rfl) (.tmp 80) _ _ rfl rfl (by intro k hk; cases hk; rfl)
            intro a' W12 hW hd' hs' hf'
            obtain ⟨pa9, pn9, pc9, pa9', pn9', pc9', h81⟩ : ∃ a n c a2 n2 c2, a'.tmps.getD 81 undef = Value.agg (prC a n c a2 n2 c2) := pairB_parts (show PairB W12 (a'.tmps.getD 81 undef) P from hf' 81 rfl)
            have hpb : PairB W12 (a'.tmps.getD 81 undef) P := hf' 81 rfl
            rw [h81] at hpb
            have t81 := h81
            have t10 : a'.tmps.getD 10 undef = .pointer (some ⟨w.heap.size + 1, 0, none⟩) := hf' 10 rfl
            have t82 : a'.tmps.getD 82 undef = .int .i64 E1 := hf' 82 rfl
            obtain ⟨ws', hus, ha'⟩ := act_open 83 a' hs' hd'
            rw [← hus] at t10 t81 t82
            have el : ((List.range 83).map ws').toArray = #[ws' 0, ws' 1, ws' 2, ws' 3, ws' 4, ws' 5, ws' 6, ws' 7, ws' 8, ws' 9, .pointer (some ⟨w.heap.size + 1, 0, none⟩), ws' 11, ws' 12, ws' 13, ws' 14, ws' 15, ws' 16, ws' 17, ws' 18, ws' 19, ws' 20, ws' 21, ws' 22, ws' 23, ws' 24, ws' 25, ws' 26, ws' 27, ws' 28, ws' 29, ws' 30, ws' 31, ws' 32, ws' 33, ws' 34, ws' 35, ws' 36, ws' 37, ws' 38, ws' 39, ws' 40, ws' 41, ws' 42, ws' 43, ws' 44, ws' 45, ws' 46, ws' 47, ws' 48, ws' 49, ws' 50, ws' 51, ws' 52, ws' 53, ws' 54, ws' 55, ws' 56, ws' 57, ws' 58, ws' 59, ws' 60, ws' 61, ws' 62, ws' 63, ws' 64, ws' 65, ws' 66, ws' 67, ws' 68, ws' 69, ws' 70, ws' 71, ws' 72, ws' 73, ws' 74, ws' 75, ws' 76, ws' 77, ws' 78, ws' 79, ws' 80, (.agg (prC pa9 pn9 pc9 pa9' pn9' pc9')), .int .i64 E1] := by
              show #[ws' 0, ws' 1, ws' 2, ws' 3, ws' 4, ws' 5, ws' 6, ws' 7, ws' 8, ws' 9, ws' 10, ws' 11, ws' 12, ws' 13, ws' 14, ws' 15, ws' 16, ws' 17, ws' 18, ws' 19, ws' 20, ws' 21, ws' 22, ws' 23, ws' 24, ws' 25, ws' 26, ws' 27, ws' 28, ws' 29, ws' 30, ws' 31, ws' 32, ws' 33, ws' 34, ws' 35, ws' 36, ws' 37, ws' 38, ws' 39, ws' 40, ws' 41, ws' 42, ws' 43, ws' 44, ws' 45, ws' 46, ws' 47, ws' 48, ws' 49, ws' 50, ws' 51, ws' 52, ws' 53, ws' 54, ws' 55, ws' 56, ws' 57, ws' 58, ws' 59, ws' 60, ws' 61, ws' 62, ws' 63, ws' 64, ws' 65, ws' 66, ws' 67, ws' 68, ws' 69, ws' 70, ws' 71, ws' 72, ws' 73, ws' 74, ws' 75, ws' 76, ws' 77, ws' 78, ws' 79, ws' 80, ws' 81, ws' 82] = _
              rw [t10, t81, t82]
            rw [el] at ha'
            subst ha'
            have HPb := Lib.hid hpb
            have HW12 := Lib.hid hW.1
            clear hus t10 t81 t82 h81 hpb el hf' hs' hd' hW hG
            simp only [List.drop_succ_cons, List.drop_zero]
            go_wp2_with (refine wpList_store_row rfl 51 (.tmp 10) (.tmp 81) rfl (w.heap.size + 1) (prC pa9 pn9 pc9 pa9' pn9' pc9') rfl rfl 51 _ HW12.out.2.1 (size_pair _ _ _ _ _ _) rfl (pair_one _ _ _ _ _ _) ?_)
            exact bodyPost_ret (v := .tuple #[.agg (prC pa9 pn9 pc9 pa9' pn9' pc9'), .int .i64 E1]) (ret_pair rfl _ _ (w.heap.size + 1) _ _ _ _ _ _ _ rfl rfl (Blk.row HW12.out.2.1 _)) rfl ⟨_, by rw [HE2.out], by rw [← HPp2.out]; exact PairB.far HPb.out HW12.out.2.1, below_setRow HW12.out.2.2 _ _ (by omega)⟩
          · obtain ⟨x0, q, hpq, hgd, hgl⟩ := HMore.out (by rw [← hon]; exact ho1) hm1 hmlt HPl.out
            have HGd := Lib.hid hgd
            have HGl := Lib.hid hgl
            have hvs := HPs.out W9 HW8.out.2.2
            have HVl0 := Lib.hid HPp.out
            rw [hpq] at hvs HVl0
            obtain ⟨pad0, hve⟩ : ∃ pad, pp = some pad := by
              obtain ⟨ad, e, _⟩ := hvs.load (i := 0) (x := x0) rfl
              exact ⟨ad, e⟩
            subst hve
            have HV4 := Lib.hid hvs
            have HVl := Lib.hid (show p = q.length + 1 by rw [HVl0.out]; rfl)
            have hone : ¬ ((on : Int) = 1) := by omega
            clear hgd hgl hvs HVl0 hpq hon ho1
            have hx32 : x0.length = 32 := HV4.out.all x0 (by simp)
            have HRt := Lib.hid (fun W => ofRoot_any x0 hx32 W)
            have HLx := Lib.hid (fun (W : World) (hW : Below W9.heap.size W9 W) => load_hash W (pad0.add (0 * 32)) x0 hx32 fun j u hj => by
              obtain ⟨ad2, e, h⟩ := (HV4.out.below (Nat.le_refl _) hW).load (i := 0) (x := x0) rfl
              cases e
              exact h j u hj)
            have HIx := Lib.hid (fun W => hss_index W pad0 p pc0 0 (by have := HVl.out; omega))
            obtain ⟨vq, hvq⟩ : ∃ vq, vq = sliced (some pad0) 1 p pc0 32 := ⟨_, rfl⟩
            have HSq := Lib.hid (fun W => slice_hs_from (some pad0) p pc0 1 (by have := HVl.out; omega) W)
            have hq : Hss W9 vq q := by
              have := HV4.out.sub 1 p (by have := HVl.out; omega) (Nat.le_refl _)
              rw [← hvq, List.take_of_length_le (by rw [HVl.out]; simp)] at this
              exact this
            rw [← hvq] at HSq
            have HQ := Lib.hid (fun (W : World) (hW : Below W9.heap.size W9 W) => hq.below (Nat.le_refl _) hW)
            obtain ⟨tc, htc⟩ : ∃ t, t = (trC n (.top x0) (m - 1) M q) := ⟨_, rfl⟩
            have HTc := Lib.hid (fun (u : Value) (W : World) (hu : IsTr W (.top x0) u) (hW : Below W9.heap.size W9 W) (hw : Below w.heap.size w W) => HCd.out x0 q u vq W hm1 hmM HGl.out hu (HQ.out W hW) hw)
            rw [← htc] at HTc
            obtain ⟨o, ho⟩ : ∃ o, o = growT n T m h ps true := ⟨_, rfl⟩
            have HMt := Lib.hid (fun (u : Value) (W : World) (hu : IsTr W tc u) (hW : Below W9.heap.size W9 W) => met_any (trL n T) tc _ u W (HU8.out.below hW) hu)
            rw [htc, HGd.out, ← ho, ← htc] at HMt
            obtain ⟨E1, hE1⟩ : ∃ E : Int, E = (if o.isSome then 0 else 8) := ⟨_, rfl⟩
            have hR1 : R.1 = o.getD ([], []) := by rw [HRn.out, ← ho]; cases o <;> rfl
            have hR2' : (R.2 : Int) = E1 := by rw [HRn.out, ← ho, hE1]; cases o <;> rfl
            rw [show MetEnd o = fun w e w' => ∃ u, e = .returned (.tuple #[u, .int .i64 E1]) ∧ PairB w' u R.1 ∧ Below w.heap.size w w' from by rw [hR1, hE1]; rfl] at HMt
            have HE2 := Lib.hid hR2'
            obtain ⟨P, hPp⟩ : ∃ P, P = R.1 := ⟨_, rfl⟩
            rw [← hPp] at HMt
            have HPp2 := Lib.hid hPp
            obtain ⟨m1, hm1e⟩ : ∃ k, k = m - 1 := ⟨_, rfl⟩
            have HM1 := Lib.hid (show (m : Int) - 1 = (m1 : Int) by omega)
            rw [← hm1e] at HTc
            clear hx32 hvq hq htc ho hE1 hR1 hR2' hPp hm1e
            go_upto_region 12 with fail
            have hG : ∀ W W' : World, (PgW w h W ∧ Below W9.heap.size W9 W) → Below W.heap.size W W' → (PgW w h W' ∧ Below W9.heap.size W9 W') := fun W W' h h' => ⟨h.1.keep h', h.2.trans (h'.mono h.2.size)⟩
            refine region_tails_by 15 [(68, .is (.pointer (some ⟨g3, 0, none⟩))), (69, .is (.int .i64 n)), (70, .is (.slice (some pad0) p pc0)), (71, .is (.pointer (some (pad0.add (0 * 32))))), (72, .is (.agg (bs x0))), (73, trF (.top x0)), (74, .is (.int .u64 (m : Int))), (75, .is (.int .u64 (m1 : Int))), (76, .is (.int .u64 (M : Int))), (77, .is (.slice (some pad0) p pc0)), (78, .is vq), (79, trF tc), (80, tupPF (.int .i64 E1) P), (81, prF P), (82, .is (.int .i64 E1))] [10, 81, 82] (fun W => PgW w h W ∧ Below W9.heap.size W9 W) (by kernel_rfl) (by kernel_rfl) (by kernel_rfl) (by kernel_rfl) (by kernel_rfl) (by decide) (by kernel_rfl) (by kernel_rfl) (hG _ _ ⟨HW8.out, Below.refl _ _⟩ (Below.refl _ _).drew) ?_ ?_
            · refine ⟨?c0, ?c1, ?c2, ?c3, ?c4, ?c5, ?c6, ?c7, ?c8, ?c9, ?c10, ?c11, ?c12, ?c13, ?c14, trivial⟩
              case c0 => exact ask_copy (guard_none rfl) (.tmp 16) (.inl rfl) (by intro k hk; cases hk; rfl)
              case c1 => exact ask_copy (guard_none rfl) (.tmp 0) (.inl rfl) (by intro k hk; cases hk; rfl)
              case c2 => exact ask_copy (guard_none rfl) (.tmp 4) (.inl rfl) (by intro k hk; cases hk; rfl)
              case c3 => exact ask_idx (guard_none rfl) _ (.tmp 70) (.const (.int .i64 0)) (.slice (some pad0) p pc0) (.int .i64 ((0 : Nat) : Int)) (.pointer (some (pad0.add (0 * 32)))) rfl rfl rfl (by intro k hk; cases hk; rfl) HIx.out
              case c4 => exact ask_load (guard_none rfl) _ (.tmp 71) (.pointer (some (pad0.add (0 * 32)))) (.agg (bs x0)) rfl rfl (by intro k hk; cases hk; rfl) (fun W hW => HLx.out W hW.2)
              case c5 => exact ask_call hG (guard_none rfl) _ _ _ #[.agg (bs x0)] (trF (.top x0)) rfl (by kernel_rfl) rfl rfl (by intro k hk; cases hk; rfl) (fun W hW => (HRt.out W).mono fun e w' h => by obtain ⟨u, h1, h2, h3⟩ := h; exact ⟨u, h1, h2, h3⟩)
              case c6 => exact ask_copy (guard_none rfl) (.tmp 2) (.inl rfl) (by intro k hk; cases hk; rfl)
              case c7 => exact ask_bin (guard_none rfl) .sub _ _ (.tmp 74) (.const (.int .u64 1)) (.int .u64 (m : Int)) (.int .u64 1) (.int .u64 (m1 : Int)) rfl rfl rfl (by intro k hk; cases hk; rfl) (fun W => sub_u64 _ _ _ _ _ _ HM1.out (by have := HM1.out; omega) W)
              case c8 => exact ask_copy (guard_none rfl) (.tmp 12) (.inl rfl) (by intro k hk; cases hk; rfl)
              case c9 => exact ask_copy (guard_none rfl) (.tmp 4) (.inl rfl) (by intro k hk; cases hk; rfl)
              case c10 => exact ask_slice (guard_none rfl) _ (.tmp 77) (some (.const (.int .i64 1))) none none (.slice (some pad0) p pc0) vq (some (.int .i64 ((1 : Nat) : Int))) none none rfl rfl rfl rfl rfl (by intro k hk; cases hk; rfl) HSq.out
              case c11 => exact ask_call_by hG (guard_none rfl) _ _ _ (trF tc) rfl (by kernel_rfl) (by intro k hk; cases hk; rfl) (fun y W hW hk => by
                have e69 : y 69 = .int .i64 n := hk 69 rfl
                have e73 : IsTr W (.top x0) (y 73) := hk 73 rfl
                have e75 : y 75 = .int .u64 (m1 : Int) := hk 75 rfl
                have e76 : y 76 = .int .u64 (M : Int) := hk 76 rfl
                have e78 : y 78 = vq := hk 78 rfl
                show Calls _ _ #[y 69, y 73, y 75, y 76, y 78] W _
                rw [e69, e75, e76, e78]
                refine (HTc.out (y 73) W e73 hW.2 hW.1.2.2).mono ?_
                rintro e w' ⟨u, h1, h2, h3⟩
                exact ⟨u, h1, h2, h3⟩)
              case c12 => exact ask_call_by hG (guard_none rfl) _ _ _ (tupPF (.int .i64 E1) P) rfl (by kernel_rfl) (by intro k hk; cases hk; rfl) (fun y W hW hk => by
                have e68 : y 68 = .pointer (some ⟨g3, 0, none⟩) := hk 68 rfl
                have e79 : IsTr W tc (y 79) := hk 79 rfl
                show Calls _ _ #[y 68, y 79] W _
                rw [e68]
                refine (HMt.out (y 79) W e79 hW.2).mono ?_
                rintro e w' ⟨u, h1, h2, h3⟩
                exact ⟨_, h1, ⟨u, rfl, h2⟩, h3⟩)
              case c13 => exact ask_ext0P hG (guard_none rfl) (.tmp 80) _ _ rfl rfl (by intro k hk; cases hk; rfl)
              case c14 => exact ask_ext1P (guard_none rfl) (.tmp 80) _ _ rfl rfl (by intro k hk; cases hk; rfl)
            intro a' W12 hW hd' hs' hf'
            obtain ⟨pa9, pn9, pc9, pa9', pn9', pc9', h81⟩ : ∃ a n c a2 n2 c2, a'.tmps.getD 81 undef = Value.agg (prC a n c a2 n2 c2) := pairB_parts (show PairB W12 (a'.tmps.getD 81 undef) P from hf' 81 rfl)
            have hpb : PairB W12 (a'.tmps.getD 81 undef) P := hf' 81 rfl
            rw [h81] at hpb
            have t81 := h81
            have t10 : a'.tmps.getD 10 undef = .pointer (some ⟨w.heap.size + 1, 0, none⟩) := hf' 10 rfl
            have t82 : a'.tmps.getD 82 undef = .int .i64 E1 := hf' 82 rfl
            obtain ⟨ws', hus, ha'⟩ := act_open 83 a' hs' hd'
            rw [← hus] at t10 t81 t82
            have el : ((List.range 83).map ws').toArray = #[ws' 0, ws' 1, ws' 2, ws' 3, ws' 4, ws' 5, ws' 6, ws' 7, ws' 8, ws' 9, .pointer (some ⟨w.heap.size + 1, 0, none⟩), ws' 11, ws' 12, ws' 13, ws' 14, ws' 15, ws' 16, ws' 17, ws' 18, ws' 19, ws' 20, ws' 21, ws' 22, ws' 23, ws' 24, ws' 25, ws' 26, ws' 27, ws' 28, ws' 29, ws' 30, ws' 31, ws' 32, ws' 33, ws' 34, ws' 35, ws' 36, ws' 37, ws' 38, ws' 39, ws' 40, ws' 41, ws' 42, ws' 43, ws' 44, ws' 45, ws' 46, ws' 47, ws' 48, ws' 49, ws' 50, ws' 51, ws' 52, ws' 53, ws' 54, ws' 55, ws' 56, ws' 57, ws' 58, ws' 59, ws' 60, ws' 61, ws' 62, ws' 63, ws' 64, ws' 65, ws' 66, ws' 67, ws' 68, ws' 69, ws' 70, ws' 71, ws' 72, ws' 73, ws' 74, ws' 75, ws' 76, ws' 77, ws' 78, ws' 79, ws' 80, (.agg (prC pa9 pn9 pc9 pa9' pn9' pc9')), .int .i64 E1] := by
              show #[ws' 0, ws' 1, ws' 2, ws' 3, ws' 4, ws' 5, ws' 6, ws' 7, ws' 8, ws' 9, ws' 10, ws' 11, ws' 12, ws' 13, ws' 14, ws' 15, ws' 16, ws' 17, ws' 18, ws' 19, ws' 20, ws' 21, ws' 22, ws' 23, ws' 24, ws' 25, ws' 26, ws' 27, ws' 28, ws' 29, ws' 30, ws' 31, ws' 32, ws' 33, ws' 34, ws' 35, ws' 36, ws' 37, ws' 38, ws' 39, ws' 40, ws' 41, ws' 42, ws' 43, ws' 44, ws' 45, ws' 46, ws' 47, ws' 48, ws' 49, ws' 50, ws' 51, ws' 52, ws' 53, ws' 54, ws' 55, ws' 56, ws' 57, ws' 58, ws' 59, ws' 60, ws' 61, ws' 62, ws' 63, ws' 64, ws' 65, ws' 66, ws' 67, ws' 68, ws' 69, ws' 70, ws' 71, ws' 72, ws' 73, ws' 74, ws' 75, ws' 76, ws' 77, ws' 78, ws' 79, ws' 80, ws' 81, ws' 82] = _
              rw [t10, t81, t82]
            rw [el] at ha'
            subst ha'
            have HPb := Lib.hid hpb
            have HW12 := Lib.hid hW.1
            clear hus t10 t81 t82 h81 hpb el hf' hs' hd' hW hG
            simp only [List.drop_succ_cons, List.drop_zero]
            go_wp2_with (refine wpList_store_row rfl 51 (.tmp 10) (.tmp 81) rfl (w.heap.size + 1) (prC pa9 pn9 pc9 pa9' pn9' pc9') rfl rfl 51 _ HW12.out.2.1 (size_pair _ _ _ _ _ _) rfl (pair_one _ _ _ _ _ _) ?_)
            exact bodyPost_ret (v := .tuple #[.agg (prC pa9 pn9 pc9 pa9' pn9' pc9'), .int .i64 E1]) (ret_pair rfl _ _ (w.heap.size + 1) _ _ _ _ _ _ _ rfl rfl (Blk.row HW12.out.2.1 _)) rfl ⟨_, by rw [HE2.out], by rw [← HPp2.out]; exact PairB.far HPb.out HW12.out.2.1, below_setRow HW12.out.2.2 _ _ (by omega)⟩
      · have hbe : (!(D == c1)) = true := by simpa using hDc
        rw [hbe]
        have HRn := Lib.hid (show R = (([], []), 3) by rw [HR2.out, if_neg (by simp), if_pos (.inr (by rw [← HC1.out]; exact hDc))])
        have HWp := Lib.hid HW6.out.1
        clear hbe hDc HW6
        go_wp2_with (refine wpList_store_row rfl 51 (.tmp 10) (.tmp 48) rfl (w.heap.size + 1) (prC none 0 0 none 0 0) rfl rfl 51 _ HWp.out.2.1 (size_pair _ _ _ _ _ _) rfl (pair_one _ _ _ _ _ _) ?_)
        exact bodyPost_ret (v := .tuple #[.agg (prC none 0 0 none 0 0), .int .i64 3]) (ret_pair rfl _ _ (w.heap.size + 1) _ _ _ _ _ _ _ rfl rfl (Blk.row HWp.out.2.1 _)) rfl ⟨_, by first | (rw [HRn.out]; done) | (rw [HRn.out]; rfl), by rw [HRn.out]; exact PairB.none _, below_setRow HWp.out.2.2 _ _ (by omega)⟩
    · have hbe : (!(C == h)) = true := by simpa using hCh
      refine region_skip [(37, .is (.agg (bs C))), (38, .is (.agg (bs h))), (39, .is (.bool true)), (40, .is (.bool true)), (41, .is undef), (42, .is undef), (43, .is undef), (44, .is undef), (45, .is undef), (46, .is undef), (47, .is (.bool true))] [0, 1, 2, 4, 8, 10, 12, 16, 47] (fun W => PgW w h W ∧ Below W5.heap.size W5 W) (by kernel_rfl) (by kernel_rfl) (by kernel_rfl) (by kernel_rfl) (by kernel_rfl) (hG _ _ ⟨HW5.out, Below.refl _ _⟩ (Below.refl _ _).drew) ?_ ?_
      · refine ⟨?c0, ?c1, ?c2, ?c3, ?c4, ?c5, ?c6, ?c7, ?c8, ?c9, ?c10, trivial⟩
        case c0 => exact runs (ask_load (guard_none rfl) _ (.tmp 13) (.pointer (some ⟨g1, 0, none⟩)) (.agg (bs C)) rfl rfl (by intro k hk; cases hk; rfl) (fun W hW => HLC.out W hW.2))
        case c1 => exact runs (ask_load (guard_none rfl) _ (.tmp 8) (.pointer (some ⟨w.heap.size, 0, none⟩)) (.agg (bs h)) rfl rfl (by intro k hk; cases hk; rfl) (fun W hW => hW.1.1.loads 24 _ Tryd.underlying24 rfl HSh.out))
        case c2 => exact runs (ask_bin (guard_none rfl) .neq _ _ (.tmp 37) (.tmp 38) (.agg (bs C)) (.agg (bs h)) (.bool true) rfl rfl rfl (by intro k hk; cases hk; rfl) (fun W => by rw [HNq1.out, hbe]))
        case c3 => exact runs (ask_copy (guard_none rfl) (.tmp 39) (.inl rfl) (by intro k hk; cases hk; rfl))
        case c4 => exact skips 3 false 40 (.bool true) rfl rfl rfl (by simp) (by intro k hk; cases hk; rfl)
        case c5 => exact skips 3 false 40 (.bool true) rfl rfl rfl (by simp) (by intro k hk; cases hk; rfl)
        case c6 => exact skips 3 false 40 (.bool true) rfl rfl rfl (by simp) (by intro k hk; cases hk; rfl)
        case c7 => exact skips 3 false 40 (.bool true) rfl rfl rfl (by simp) (by intro k hk; cases hk; rfl)
        case c8 => exact skips 3 false 40 (.bool true) rfl rfl rfl (by simp) (by intro k hk; cases hk; rfl)
        case c9 => exact skips 3 false 40 (.bool true) rfl rfl rfl (by simp) (by intro k hk; cases hk; rfl)
        case c10 => exact runs (ask_pick (guard_none rfl) (.tmp 40) (.const (.bool true)) (.tmp 46) true rfl rfl (by intro k hk; cases hk; rfl))
      intro a' W6 hW hd' hs' hf'
      have HWp := Lib.hid hW.1
      clear hW hG hbe
      have t0 : a'.tmps.getD 0 undef = .int .i64 n := hf' 0 rfl
      have t1 : a'.tmps.getD 1 undef = .slice pv M cv := hf' 1 rfl
      have t2 : a'.tmps.getD 2 undef = .int .u64 (m : Int) := hf' 2 rfl
      have t4 : a'.tmps.getD 4 undef = .slice pp p pc0 := hf' 4 rfl
      have t8 : a'.tmps.getD 8 undef = .pointer (some ⟨w.heap.size, 0, none⟩) := hf' 8 rfl
      have t10 : a'.tmps.getD 10 undef = .pointer (some ⟨w.heap.size + 1, 0, none⟩) := hf' 10 rfl
      have t12 : a'.tmps.getD 12 undef = .int .u64 (M : Int) := hf' 12 rfl
      have t16 : a'.tmps.getD 16 undef = .pointer (some ⟨g3, 0, none⟩) := hf' 16 rfl
      have t47 : a'.tmps.getD 47 undef = .bool true := hf' 47 rfl
      obtain ⟨us', hus, ha'⟩ := act_open 83 a' hs' hd'
      rw [← hus] at t0 t1 t2 t4 t8 t10 t12 t16 t47
      have el : ((List.range 83).map us').toArray = #[.int .i64 n, .slice pv M cv, .int .u64 (m : Int), us' 3, .slice pp p pc0, us' 5, us' 6, us' 7, .pointer (some ⟨w.heap.size, 0, none⟩), us' 9, .pointer (some ⟨w.heap.size + 1, 0, none⟩), us' 11, .int .u64 (M : Int), us' 13, us' 14, us' 15, .pointer (some ⟨g3, 0, none⟩), us' 17, us' 18, us' 19, us' 20, us' 21, us' 22, us' 23, us' 24, us' 25, us' 26, us' 27, us' 28, us' 29, us' 30, us' 31, us' 32, us' 33, us' 34, us' 35, us' 36, us' 37, us' 38, us' 39, us' 40, us' 41, us' 42, us' 43, us' 44, us' 45, us' 46, .bool true, us' 48, us' 49, us' 50, us' 51, us' 52, us' 53, us' 54, us' 55, us' 56, us' 57, us' 58, us' 59, us' 60, us' 61, us' 62, us' 63, us' 64, us' 65, us' 66, us' 67, us' 68, us' 69, us' 70, us' 71, us' 72, us' 73, us' 74, us' 75, us' 76, us' 77, us' 78, us' 79, us' 80, us' 81, us' 82] := by
        show #[us' 0, us' 1, us' 2, us' 3, us' 4, us' 5, us' 6, us' 7, us' 8, us' 9, us' 10, us' 11, us' 12, us' 13, us' 14, us' 15, us' 16, us' 17, us' 18, us' 19, us' 20, us' 21, us' 22, us' 23, us' 24, us' 25, us' 26, us' 27, us' 28, us' 29, us' 30, us' 31, us' 32, us' 33, us' 34, us' 35, us' 36, us' 37, us' 38, us' 39, us' 40, us' 41, us' 42, us' 43, us' 44, us' 45, us' 46, us' 47, us' 48, us' 49, us' 50, us' 51, us' 52, us' 53, us' 54, us' 55, us' 56, us' 57, us' 58, us' 59, us' 60, us' 61, us' 62, us' 63, us' 64, us' 65, us' 66, us' 67, us' 68, us' 69, us' 70, us' 71, us' 72, us' 73, us' 74, us' 75, us' 76, us' 77, us' 78, us' 79, us' 80, us' 81, us' 82] = _
        rw [t0, t1, t2, t4, t8, t10, t12, t16, t47]
      rw [el] at ha'
      subst ha'
      clear hus t0 t1 t2 t4 t8 t10 t12 t16 t47 el hf' hs' hd'
      have HRn := Lib.hid (show R = (([], []), 3) by rw [HR2.out, if_neg (by simp), if_pos (.inl hCh)])
      clear hCh
      go_wp2_with (refine wpList_store_row rfl 51 (.tmp 10) (.tmp 48) rfl (w.heap.size + 1) (prC none 0 0 none 0 0) rfl rfl 51 _ HWp.out.2.1 (size_pair _ _ _ _ _ _) rfl (pair_one _ _ _ _ _ _) ?_)
      exact bodyPost_ret (v := .tuple #[.agg (prC none 0 0 none 0 0), .int .i64 3]) (ret_pair rfl _ _ (w.heap.size + 1) _ _ _ _ _ _ _ rfl rfl (Blk.row HWp.out.2.1 _)) rfl ⟨_, by first | (rw [HRn.out]; done) | (rw [HRn.out]; rfl), by rw [HRn.out]; exact PairB.none _, below_setRow HWp.out.2.2 _ _ (by omega)⟩
  · have hne : ¬ ((E : Int) = 0) := by omega
    have HRn := Lib.hid (show R = (([], []), E) by rw [HR2.out, if_pos hE0])
    clear hE0 HR2
    go_wp2_with (refine wpList_store_row rfl 51 (.tmp 10) (.tmp 32) rfl (w.heap.size + 1) (prC none 0 0 none 0 0) rfl rfl 51 _ HPa.out.2.1 (size_pair _ _ _ _ _ _) rfl (pair_one _ _ _ _ _ _) ?_)
    exact bodyPost_ret (v := .tuple #[.agg (prC none 0 0 none 0 0), .int .i64 (E : Int)]) (ret_pair rfl _ _ (w.heap.size + 1) _ _ _ _ _ _ _ rfl rfl (Blk.row HPa.out.2.1 _)) rfl ⟨_, by first | (rw [HRn.out]; done) | (rw [HRn.out]; rfl), by rw [HRn.out]; exact PairB.none _, below_setRow HPa.out.2.2 _ _ (by omega)⟩
end Go.Proofs.YtdhfabjkpffhnaaDoor

/- The program's functions of layer 17, and those of layers 15 and 16 that its laws ask, answer what they are to answer. -/
namespace Go.Proofs.YtdhfabjkpffhnaaDoor
set_option maxRecDepth 20000
open Go.RowKit ShaMath LeafMath PathMath GrowthMath ClashMath Reg

theorem clashProg : ClashProg where
  lists n a b va vb w hn ha hb hsa hsb ht := lists17_any n hn a b va vb w ha hb hsa hsb ht
  path n T i x ps v vx vp w hn hv hs hi hx hx4 hp hp80 ht := path17_any n hn T i x ps v vx vp w hv hs hi hx hx4 hp hp80 ht
  growth n T m h ps v vp w hn hv hs hm hh hp hp80 ht := growth17_any n hn T m h ps v vp w hv hs hm hh hp hp80 ht
theorem sizeProg : SizeProg := fun i m w hi hm => (size_any i m w hi hm).mono fun e w' h => ⟨h.1, by rw [h.2]; exact Below.refl _ _⟩
end Go.Proofs.YtdhfabjkpffhnaaDoor

