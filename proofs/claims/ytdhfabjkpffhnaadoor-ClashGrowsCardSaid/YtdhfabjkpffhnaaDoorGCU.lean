/- Joined: ClashLists, ClashPaths, ClashGrows, ClashNarrow, ClashTrust, ClashTrustAll. -/
import Derived.Test.YtdhfabjkpffhnaaDoorGCV
import Derived.Test.YtdhfabjkpffhnaaDoorGCW
import Derived.Test.YtdhfabjkpffhnaaDoorGrowthRefCheckC
/- ClashLists: the walk. -/
namespace Go.Proofs.YtdhfabjkpffhnaaDoor
set_option maxRecDepth 20000
open Go.RowKit ShaMath LeafMath PathMath GrowthMath ClashMath Reg

set_option maxHeartbeats 1000000 in
set_option maxRecDepth 100000 in
theorem clashLists_walk (hp : ClashProg) (n : Int) (hn : I64 n) (a b : List Bs) (va vb : Value) (w : World) (hva : Txs w va a) (hla : a.length ≤ 5864062014976) (hvb : Txs w vb b) (hlb : b.length ≤ 5864062014976) (ht : Tabs w) (hk : Consts w) :
    Calls Tryd.prog 9 #[.int .i64 n, va, vb] w fun e w' => e = .returned (.bool true) ∧ Below w.heap.size w w' := by
  have HAw := Lib.hid (fun (W : World) (hW : Below w.heap.size w W) => awake17_any hp W (ht.below (Nat.le_refl _) hW))
  have HF1 := Lib.hid (fun (W : World) (hW : Below w.heap.size w W) => few17_any a va W (hva.below (Nat.le_refl _) hW) hla)
  have HF2 := Lib.hid (fun (W : World) (hW : Below w.heap.size w W) => few17_any b vb W (hvb.below (Nat.le_refl _) hW) hlb)
  by_cases hf1 : fewS a ≤ 4000
  · rw [decide_eq_true hf1] at HF1
    by_cases hf2 : fewS b ≤ 4000
    · rw [decide_eq_true hf2] at HF2
      have hsa := fewS_shorts hf1
      have hsb := fewS_shorts hf2
      obtain ⟨hl1, hl2⟩ := lists_len n hsa hsb
      have HProg := Lib.hid (fun (W : World) (hW : Below w.heap.size w W) => hp.lists n a b va vb W hn (hva.below (Nat.le_refl _) hW) (hvb.below (Nat.le_refl _) hW) hsa hsb (ht.below (Nat.le_refl _) hW))
      have HRef := Lib.hid (fun (W : World) (hW : Below w.heap.size w W) => reflists_any n hn a b va vb W (hva.below (Nat.le_refl _) hW) (hvb.below (Nat.le_refl _) hW) hsa hsb (hk.below (Nat.le_refl _) hW))
      have hE := lists_clash n a b
      obtain ⟨P, hP⟩ : ∃ P, P = (listsT n a b).1 := ⟨_, rfl⟩
      obtain ⟨E, hEe⟩ : ∃ E, E = (listsT n a b).2 := ⟨_, rfl⟩
      rw [← hP] at hl1 hl2 hE HProg HRef
      rw [← hEe] at hE HProg HRef
      have HSame := Lib.hid (fun (u u' : Value) (W : World) (h1 : PairB W u P) (h2 : PairB W u' P) (hW : Below w.heap.size w W) => same17_any n hn u u' P E W h1 h2 hl1 hl2 hE (hk.below (Nat.le_refl _) hW))
      clear hva hvb hla hlb ht hk hp hn hsa hsb hl1 hl2 hE hP hEe hf1 hf2
      go_enter Tryd.func9, Tryd.ntmps9
      go_wp2_with fail
      refine (HAw.out _ (Below.refl _ _)).mono ?_
      rintro e W1 ⟨rfl, hb1⟩
      have HB1 := Lib.hid hb1
      clear hb1
      go_wp2_with fail
      refine (HF1.out _ HB1.out).mono ?_
      rintro e w2 ⟨rfl, rfl⟩
      clear HF1
      go_wp2_with fail
      refine (HF2.out _ HB1.out).mono ?_
      rintro e w2 ⟨rfl, rfl⟩
      clear HF2
      go_wp2_with fail
      refine (HProg.out _ HB1.out).mono ?_
      rintro e W2 ⟨u, rfl, hp2, hb2⟩
      obtain ⟨a1, c1, a2, c2, rfl, hy1, hy2⟩ := hp2
      have HB2 := Lib.hid (HB1.out.trans (hb2.mono HB1.out.size))
      have HY1 := Lib.hid hy1
      have HY2 := Lib.hid hy2
      clear hy1 hy2 hb2 HB1 HProg
      go_upto_region 4 with (refine wpList_store_row rfl 51 (.tmp 7) (.tmp 29) rfl W2.heap.size (prC a1 P.1.length c1 a2 P.2.length c2) rfl rfl 51 _ (Blk.new W2 _ _) (size_pair _ _ _ _ _ _) rfl (pair_one _ _ _ _ _ _) ?_)
      refine world_cut (fun W => Blk W W2.heap.size 51 (prC a1 P.1.length c1 a2 P.2.length c2) ∧ Bys W (.slice a1 P.1.length c1) P.1 ∧ Bys W (.slice a2 P.2.length c2) P.2 ∧ Below w.heap.size w W) ⟨Blk.row (Blk.new W2 _ _) _, HY1.out.below (Nat.le_refl _) (below_new W2 _ _ _), HY2.out.below (Nat.le_refl _) (below_new W2 _ _ _), HB2.out.trans ((below_new W2 _ _ _).mono HB2.out.size)⟩ ?_
      obtain ⟨g1, hg1⟩ : ∃ g, g = W2.heap.size := ⟨_, rfl⟩
      rw [← hg1]
      clear HB2 HY1 HY2 hg1
      rintro W3 ⟨hk1, hy1, hy2, hw3⟩
      have HK1 := Lib.hid hk1
      have HY1 := Lib.hid hy1
      have HY2 := Lib.hid hy2
      have HB3 := Lib.hid hw3
      clear hk1 hy1 hy2 hw3
      go_wp2_with (fail)
      refine (HRef.out _ HB3.out).mono ?_
      rintro e W4 ⟨u', rfl, hp4, hb4⟩
      obtain ⟨b1, d1, b2, d2, rfl, hz1, hz2⟩ := hp4
      have HB4 := Lib.hid (HB3.out.trans (hb4.mono HB3.out.size))
      have HK14 := Lib.hid (HK1.out.keep hb4)
      have HY14 := Lib.hid (HY1.out.below (Nat.le_refl _) hb4)
      have HY24 := Lib.hid (HY2.out.below (Nat.le_refl _) hb4)
      have HZ1 := Lib.hid hz1
      have HZ2 := Lib.hid hz2
      clear hz1 hz2 hb4 HB3 HRef HK1 HY1 HY2
      go_upto_region 5 with (refine wpList_store_row rfl 51 (.tmp 9) (.tmp 36) rfl W4.heap.size (prC b1 P.1.length d1 b2 P.2.length d2) rfl rfl 51 _ (Blk.new W4 _ _) (size_pair _ _ _ _ _ _) rfl (pair_one _ _ _ _ _ _) ?_)
      refine world_cut (fun W => (Blk W g1 51 (prC a1 P.1.length c1 a2 P.2.length c2) ∧ Blk W W4.heap.size 51 (prC b1 P.1.length d1 b2 P.2.length d2)) ∧ PairB W (.agg (prC a1 P.1.length c1 a2 P.2.length c2)) P ∧ PairB W (.agg (prC b1 P.1.length d1 b2 P.2.length d2)) P ∧ Below w.heap.size w W) ⟨⟨HK14.out.keep (below_new W4 _ _ _), Blk.row (Blk.new W4 _ _) _⟩, ⟨a1, c1, a2, c2, rfl, HY14.out.below (Nat.le_refl _) (below_new W4 _ _ _), HY24.out.below (Nat.le_refl _) (below_new W4 _ _ _)⟩, ⟨b1, d1, b2, d2, rfl, HZ1.out.below (Nat.le_refl _) (below_new W4 _ _ _), HZ2.out.below (Nat.le_refl _) (below_new W4 _ _ _)⟩, HB4.out.trans ((below_new W4 _ _ _).mono HB4.out.size)⟩ ?_
      obtain ⟨g2, hg2⟩ : ∃ g, g = W4.heap.size := ⟨_, rfl⟩
      rw [← hg2]
      clear HB4 HK14 HY14 HY24 HZ1 HZ2 hg2
      rintro W5 ⟨⟨hk1, hk2⟩, hq1, hq2, hw5⟩
      have HK1 := Lib.hid hk1
      have HK2 := Lib.hid hk2
      have HB5 := Lib.hid hw5
      have HS := Lib.hid (HSame.out _ _ W5 hq1 hq2 hw5)
      clear hk1 hk2 hq1 hq2 hw5 HSame
      go_wp2_with (first
        | (refine wpList_load_row rfl 51 (.tmp 7) rfl g1 rfl 51 (prC a1 P.1.length c1 a2 P.2.length c2) (0, 0) _ HK1.out Tryd.underlying51 rfl (size_pair _ _ _ _ _ _) ?_)
        | (refine wpList_load_row rfl 51 (.tmp 9) rfl g2 rfl 51 (prC b1 P.1.length d1 b2 P.2.length d2) (0, 0) _ HK2.out Tryd.underlying51 rfl (size_pair _ _ _ _ _ _) ?_))
      refine HS.out.mono ?_
      rintro e W6 ⟨rfl, hb6⟩
      have HB6 := Lib.hid (HB5.out.trans (hb6.mono HB5.out.size))
      clear hb6 HS HK1 HK2 HB5
      go_wp2
      go_ret
      exact ⟨rfl, HB6.out⟩
    · rw [decide_eq_false hf2] at HF2
      clear hva hvb hla hlb ht hk hp hn hf1 hf2
      go_enter Tryd.func9, Tryd.ntmps9
      go_wp2_with fail
      refine (HAw.out _ (Below.refl _ _)).mono ?_
      rintro e W1 ⟨rfl, hb1⟩
      have HB1 := Lib.hid hb1
      clear hb1
      go_wp2_with fail
      refine (HF1.out _ HB1.out).mono ?_
      rintro e w2 ⟨rfl, rfl⟩
      clear HF1
      go_wp2_with fail
      refine (HF2.out _ HB1.out).mono ?_
      rintro e w2 ⟨rfl, rfl⟩
      clear HF2
      go_wp2_with fail
      refine (HAw.out _ HB1.out).mono ?_
      rintro e W2 ⟨rfl, hb2⟩
      have HB2 := Lib.hid (HB1.out.trans (hb2.mono HB1.out.size))
      clear hb2
      go_wp2
      go_ret
      exact ⟨rfl, HB2.out⟩
  · rw [decide_eq_false hf1] at HF1
    clear hva hvb hla hlb ht hk hp hn hf1 HF2
    go_enter Tryd.func9, Tryd.ntmps9
    go_wp2_with fail
    refine (HAw.out _ (Below.refl _ _)).mono ?_
    rintro e W1 ⟨rfl, hb1⟩
    have HB1 := Lib.hid hb1
    clear hb1
    go_wp2_with fail
    refine (HF1.out _ HB1.out).mono ?_
    rintro e w2 ⟨rfl, rfl⟩
    clear HF1
    go_wp2_with fail
    refine (HAw.out _ HB1.out).mono ?_
    rintro e W2 ⟨rfl, hb2⟩
    have HB2 := Lib.hid (HB1.out.trans (hb2.mono HB1.out.size))
    clear hb2
    go_wp2
    go_ret
    exact ⟨rfl, HB2.out⟩
end Go.Proofs.YtdhfabjkpffhnaaDoor

/- ClashPaths: the walk. -/
namespace Go.Proofs.YtdhfabjkpffhnaaDoor
set_option maxRecDepth 20000
open Go.RowKit ShaMath LeafMath PathMath GrowthMath ClashMath Reg

set_option maxHeartbeats 1000000 in
set_option maxRecDepth 100000 in
theorem clashPaths_walk (hp : ClashProg) (n : Int) (hn : I64 n) (T : List Bs) (v : Value) (i : Nat) (hi : i < 18446744073709551616) (x : Bs) (vx : Value) (ps : List Hs) (vp : Value) (w : World) (hvT : Txs w v T) (hlT : T.length ≤ 5864062014976) (hvx : Bys w vx x) (hlx : x.length ≤ 140737488355328) (hvp : Hss w vp ps) (hlp : ps.length ≤ 4398046511104) (ht : Tabs w) (hk : Consts w) :
    Calls Tryd.prog 10 #[.int .i64 n, v, .int .u64 (i : Int), vx, vp] w fun e w' => e = .returned (.bool true) ∧ Below w.heap.size w w' := by
  have HAw := Lib.hid (fun (W : World) (hW : Below w.heap.size w W) => awake17_any hp W (ht.below (Nat.le_refl _) hW))
  have HF1 := Lib.hid (fun (W : World) (hW : Below w.heap.size w W) => few17_any T v W (hvT.below (Nat.le_refl _) hW) hlT)
  obtain ⟨ax, cx, rfl⟩ := hvx.form
  obtain ⟨pp, pc, rfl, _⟩ := hvp.form
  obtain ⟨lx, hx⟩ : ∃ l, l = x.length := ⟨_, rfl⟩
  obtain ⟨p, hpp⟩ : ∃ p, p = ps.length := ⟨_, rfl⟩
  rw [← hx] at hvx hlx ⊢
  rw [← hpp] at hvp hlp ⊢
  by_cases hf1 : fewS T ≤ 4000
  · rw [decide_eq_true hf1] at HF1
    by_cases hx4 : lx ≤ 4000
    · have d1 : decide ((lx : Int) > 4000) = false := decide_eq_false (by omega)
      by_cases hp8 : p ≤ 80
      · have d2 : decide ((p : Int) > 80) = false := decide_eq_false (by omega)
        have hsT := fewS_shorts hf1
        obtain ⟨hl1, hl2⟩ := pathC_len n (i := i) (x := x) (p := ps) hsT (by omega) hvp.all
        have HProg := Lib.hid (fun (W : World) (hW : Below w.heap.size w W) => hp.path n T i x ps v (.slice ax lx cx) (.slice pp p pc) W hn (hvT.below (Nat.le_refl _) hW) hsT hi (hvx.below (Nat.le_refl _) hW) (by omega) (hvp.below (Nat.le_refl _) hW) (by omega) (ht.below (Nat.le_refl _) hW))
        have HRef := Lib.hid (fun (W : World) (hW : Below w.heap.size w W) => refpathC_any n hn T i x ps v (.slice ax lx cx) (.slice pp p pc) W (hvT.below (Nat.le_refl _) hW) hsT hi (hvx.below (Nat.le_refl _) hW) (by omega) (hvp.below (Nat.le_refl _) hW) (hk.below (Nat.le_refl _) hW))
        have hE := pathC_clash n T i x ps hvp.all
        obtain ⟨P, hP⟩ : ∃ P, P = (pathC n T i x ps).1 := ⟨_, rfl⟩
        obtain ⟨E, hEe⟩ : ∃ E, E = (pathC n T i x ps).2 := ⟨_, rfl⟩
        rw [← hP] at hl1 hl2 hE HProg HRef
        rw [← hEe] at hE HProg HRef
        have HSame := Lib.hid (fun (u u' : Value) (W : World) (h1 : PairB W u P) (h2 : PairB W u' P) (hW : Below w.heap.size w W) => same17_any n hn u u' P E W h1 h2 hl1 hl2 hE (hk.below (Nat.le_refl _) hW))
        obtain ⟨pv, cv, rfl, _⟩ := hvT.form
        clear hvT hlT hvx hlx hvp hlp ht hk hp hn hsT hl1 hl2 hE hP hEe hf1 hx hpp
        go_enter Tryd.func10, Tryd.ntmps10
        go_wp2_with fail
        refine (HAw.out _ (Below.refl _ _)).mono ?_
        rintro e W1 ⟨rfl, hb1⟩
        have HB1 := Lib.hid hb1
        clear hb1
        go_wp2_with fail
        refine (HF1.out _ HB1.out).mono ?_
        rintro e w2 ⟨rfl, rfl⟩
        clear HF1
        go_wp2_with fail
        refine (HProg.out _ HB1.out).mono ?_
        rintro e W2 ⟨u, rfl, hp2, hb2⟩
        obtain ⟨a1, c1, a2, c2, rfl, hy1, hy2⟩ := hp2
        have HB2 := Lib.hid (HB1.out.trans (hb2.mono HB1.out.size))
        have HY1 := Lib.hid hy1
        have HY2 := Lib.hid hy2
        clear hy1 hy2 hb2 HB1 HProg
        go_upto_region 4 with (refine wpList_store_row rfl 51 (.tmp 11) (.tmp 40) rfl W2.heap.size (prC a1 P.1.length c1 a2 P.2.length c2) rfl rfl 51 _ (Blk.new W2 _ _) (size_pair _ _ _ _ _ _) rfl (pair_one _ _ _ _ _ _) ?_)
        refine world_cut (fun W => Blk W W2.heap.size 51 (prC a1 P.1.length c1 a2 P.2.length c2) ∧ Bys W (.slice a1 P.1.length c1) P.1 ∧ Bys W (.slice a2 P.2.length c2) P.2 ∧ Below w.heap.size w W) ⟨Blk.row (Blk.new W2 _ _) _, HY1.out.below (Nat.le_refl _) (below_new W2 _ _ _), HY2.out.below (Nat.le_refl _) (below_new W2 _ _ _), HB2.out.trans ((below_new W2 _ _ _).mono HB2.out.size)⟩ ?_
        obtain ⟨g1, hg1⟩ : ∃ g, g = W2.heap.size := ⟨_, rfl⟩
        rw [← hg1]
        clear HB2 HY1 HY2 hg1
        rintro W3 ⟨hk1, hy1, hy2, hw3⟩
        have HK1 := Lib.hid hk1
        have HY1 := Lib.hid hy1
        have HY2 := Lib.hid hy2
        have HB3 := Lib.hid hw3
        clear hk1 hy1 hy2 hw3
        go_wp2_with (fail)
        refine (HRef.out _ HB3.out).mono ?_
        rintro e W4 ⟨u', rfl, hp4, hb4⟩
        obtain ⟨b1, d1, b2, d2, rfl, hz1, hz2⟩ := hp4
        have HB4 := Lib.hid (HB3.out.trans (hb4.mono HB3.out.size))
        have HK14 := Lib.hid (HK1.out.keep hb4)
        have HY14 := Lib.hid (HY1.out.below (Nat.le_refl _) hb4)
        have HY24 := Lib.hid (HY2.out.below (Nat.le_refl _) hb4)
        have HZ1 := Lib.hid hz1
        have HZ2 := Lib.hid hz2
        clear hz1 hz2 hb4 HB3 HRef HK1 HY1 HY2
        go_upto_region 5 with (refine wpList_store_row rfl 51 (.tmp 13) (.tmp 49) rfl W4.heap.size (prC b1 P.1.length d1 b2 P.2.length d2) rfl rfl 51 _ (Blk.new W4 _ _) (size_pair _ _ _ _ _ _) rfl (pair_one _ _ _ _ _ _) ?_)
        refine world_cut (fun W => (Blk W g1 51 (prC a1 P.1.length c1 a2 P.2.length c2) ∧ Blk W W4.heap.size 51 (prC b1 P.1.length d1 b2 P.2.length d2)) ∧ PairB W (.agg (prC a1 P.1.length c1 a2 P.2.length c2)) P ∧ PairB W (.agg (prC b1 P.1.length d1 b2 P.2.length d2)) P ∧ Below w.heap.size w W) ⟨⟨HK14.out.keep (below_new W4 _ _ _), Blk.row (Blk.new W4 _ _) _⟩, ⟨a1, c1, a2, c2, rfl, HY14.out.below (Nat.le_refl _) (below_new W4 _ _ _), HY24.out.below (Nat.le_refl _) (below_new W4 _ _ _)⟩, ⟨b1, d1, b2, d2, rfl, HZ1.out.below (Nat.le_refl _) (below_new W4 _ _ _), HZ2.out.below (Nat.le_refl _) (below_new W4 _ _ _)⟩, HB4.out.trans ((below_new W4 _ _ _).mono HB4.out.size)⟩ ?_
        obtain ⟨g2, hg2⟩ : ∃ g, g = W4.heap.size := ⟨_, rfl⟩
        rw [← hg2]
        clear HB4 HK14 HY14 HY24 HZ1 HZ2 hg2
        rintro W5 ⟨⟨hk1, hk2⟩, hq1, hq2, hw5⟩
        have HK1 := Lib.hid hk1
        have HK2 := Lib.hid hk2
        have HB5 := Lib.hid hw5
        have HS := Lib.hid (HSame.out _ _ W5 hq1 hq2 hw5)
        clear hk1 hk2 hq1 hq2 hw5 HSame
        go_wp2_with (first
          | (refine wpList_load_row rfl 51 (.tmp 11) rfl g1 rfl 51 (prC a1 P.1.length c1 a2 P.2.length c2) (0, 0) _ HK1.out Tryd.underlying51 rfl (size_pair _ _ _ _ _ _) ?_)
          | (refine wpList_load_row rfl 51 (.tmp 13) rfl g2 rfl 51 (prC b1 P.1.length d1 b2 P.2.length d2) (0, 0) _ HK2.out Tryd.underlying51 rfl (size_pair _ _ _ _ _ _) ?_))
        refine HS.out.mono ?_
        rintro e W6 ⟨rfl, hb6⟩
        have HB6 := Lib.hid (HB5.out.trans (hb6.mono HB5.out.size))
        clear hb6 HS HK1 HK2 HB5
        go_wp2
        go_ret
        exact ⟨rfl, HB6.out⟩
      · have d2 : decide ((p : Int) > 80) = true := decide_eq_true (by omega)
        obtain ⟨pv, cv, rfl, _⟩ := hvT.form
        clear hvT hlT hvx hlx hvp hlp ht hk hp hn hf1 hx hpp
        go_enter Tryd.func10, Tryd.ntmps10
        go_wp2_with fail
        refine (HAw.out _ (Below.refl _ _)).mono ?_
        rintro e W1 ⟨rfl, hb1⟩
        have HB1 := Lib.hid hb1
        clear hb1
        go_wp2_with fail
        refine (HF1.out _ HB1.out).mono ?_
        rintro e w2 ⟨rfl, rfl⟩
        clear HF1
        go_wp2_with fail
        refine (HAw.out _ HB1.out).mono ?_
        rintro e W2 ⟨rfl, hb2⟩
        have HB2 := Lib.hid (HB1.out.trans (hb2.mono HB1.out.size))
        clear hb2
        go_wp2
        go_ret
        exact ⟨rfl, HB2.out⟩
    · have d1 : decide ((lx : Int) > 4000) = true := decide_eq_true (by omega)
      obtain ⟨pv, cv, rfl, _⟩ := hvT.form
      clear hvT hlT hvx hlx hvp hlp ht hk hp hn hf1 hx hpp
      go_enter Tryd.func10, Tryd.ntmps10
      go_wp2_with fail
      refine (HAw.out _ (Below.refl _ _)).mono ?_
      rintro e W1 ⟨rfl, hb1⟩
      have HB1 := Lib.hid hb1
      clear hb1
      go_wp2_with fail
      refine (HF1.out _ HB1.out).mono ?_
      rintro e w2 ⟨rfl, rfl⟩
      clear HF1
      go_wp2_with fail
      refine (HAw.out _ HB1.out).mono ?_
      rintro e W2 ⟨rfl, hb2⟩
      have HB2 := Lib.hid (HB1.out.trans (hb2.mono HB1.out.size))
      clear hb2
      go_wp2
      go_ret
      exact ⟨rfl, HB2.out⟩
  · rw [decide_eq_false hf1] at HF1
    obtain ⟨pv, cv, rfl, _⟩ := hvT.form
    clear hvT hlT hvx hlx hvp hlp ht hk hp hn hf1 hx hpp
    go_enter Tryd.func10, Tryd.ntmps10
    go_wp2_with fail
    refine (HAw.out _ (Below.refl _ _)).mono ?_
    rintro e W1 ⟨rfl, hb1⟩
    have HB1 := Lib.hid hb1
    clear hb1
    go_wp2_with fail
    refine (HF1.out _ HB1.out).mono ?_
    rintro e w2 ⟨rfl, rfl⟩
    clear HF1
    go_wp2_with fail
    refine (HAw.out _ HB1.out).mono ?_
    rintro e W2 ⟨rfl, hb2⟩
    have HB2 := Lib.hid (HB1.out.trans (hb2.mono HB1.out.size))
    clear hb2
    go_wp2
    go_ret
    exact ⟨rfl, HB2.out⟩
end Go.Proofs.YtdhfabjkpffhnaaDoor

/- ClashGrows: the walk. -/
namespace Go.Proofs.YtdhfabjkpffhnaaDoor
set_option maxRecDepth 20000
open Go.RowKit ShaMath LeafMath PathMath GrowthMath ClashMath Reg

set_option maxHeartbeats 1000000 in
set_option maxRecDepth 100000 in
theorem clashGrows_walk (hp : ClashProg) (n : Int) (hn : I64 n) (T : List Bs) (v : Value) (m : Nat) (hm : m < 18446744073709551616) (h : Hs) (hh : h.length = 32) (ps : List Hs) (vp : Value) (w : World) (hvT : Txs w v T) (hlT : T.length ≤ 5864062014976) (hvp : Hss w vp ps) (hlp : ps.length ≤ 4398046511104) (ht : Tabs w) (hk : Consts w) :
    Calls Tryd.prog 11 #[.int .i64 n, v, .int .u64 (m : Int), .agg (bs h), vp] w fun e w' => e = .returned (.bool true) ∧ Below w.heap.size w w' := by
  have HAw := Lib.hid (fun (W : World) (hW : Below w.heap.size w W) => awake17_any hp W (ht.below (Nat.le_refl _) hW))
  have HF1 := Lib.hid (fun (W : World) (hW : Below w.heap.size w W) => few17_any T v W (hvT.below (Nat.le_refl _) hW) hlT)
  have HSh := Lib.hid (size_hash (cs := bs h) (by rw [bs_size, hh]))
  obtain ⟨pp, pc, rfl, _⟩ := hvp.form
  obtain ⟨p, hpp⟩ : ∃ p, p = ps.length := ⟨_, rfl⟩
  rw [← hpp] at hvp hlp ⊢
  by_cases hf1 : fewS T ≤ 4000
  · rw [decide_eq_true hf1] at HF1
    by_cases hp8 : p ≤ 80
    · have d2 : decide ((p : Int) > 80) = false := decide_eq_false (by omega)
      have hsT := fewS_shorts hf1
      obtain ⟨hl1, hl2⟩ := growC_len n (m := m) (h := h) (p := ps) hsT hh hvp.all
      have HProg := Lib.hid (fun (W : World) (hW : Below w.heap.size w W) => hp.growth n T m h ps v (.slice pp p pc) W hn (hvT.below (Nat.le_refl _) hW) hsT hm hh (hvp.below (Nat.le_refl _) hW) (by omega) (ht.below (Nat.le_refl _) hW))
      have HRef := Lib.hid (fun (W : World) (hW : Below w.heap.size w W) => refgrowC_any n hn T m h ps v (.slice pp p pc) W (hvT.below (Nat.le_refl _) hW) hsT hm hh (hvp.below (Nat.le_refl _) hW) (hk.below (Nat.le_refl _) hW))
      have hE := growC_clash n T m h ps hh hvp.all
      obtain ⟨P, hP⟩ : ∃ P, P = (growC n T m h ps).1 := ⟨_, rfl⟩
      obtain ⟨E, hEe⟩ : ∃ E, E = (growC n T m h ps).2 := ⟨_, rfl⟩
      rw [← hP] at hl1 hl2 hE HProg HRef
      rw [← hEe] at hE HProg HRef
      have HSame := Lib.hid (fun (u u' : Value) (W : World) (h1 : PairB W u P) (h2 : PairB W u' P) (hW : Below w.heap.size w W) => same17_any n hn u u' P E W h1 h2 hl1 hl2 hE (hk.below (Nat.le_refl _) hW))
      obtain ⟨pv, cv, rfl, _⟩ := hvT.form
      clear hvT hlT hvp hlp ht hk hp hn hsT hl1 hl2 hE hP hEe hf1 hpp hh
      go_enter Tryd.func11, Tryd.ntmps11
      go_upto_region 1 with fail
      refine world_cut (fun W => Blk W w.heap.size 24 (bs h) ∧ Below w.heap.size w W) ⟨Blk.new w _ _, (Below.refl _ _).alloc (Nat.le_refl _) _⟩ ?_
      rintro W0 ⟨hbx, hb0⟩
      have HBx0 := Lib.hid hbx
      have HB0 := Lib.hid hb0
      clear hbx hb0
      go_wp2_with fail
      refine (HAw.out _ HB0.out).mono ?_
      rintro e W1 ⟨rfl, hb1⟩
      have HB1 := Lib.hid (HB0.out.trans (hb1.mono HB0.out.size))
      have HBx1 := Lib.hid (HBx0.out.keep hb1)
      clear hb1 HB0 HBx0
      go_wp2_with fail
      refine (HF1.out _ HB1.out).mono ?_
      rintro e w2 ⟨rfl, rfl⟩
      clear HF1
      go_wp2_with (refine wpList_load_row rfl 24 (.tmp 8) rfl w.heap.size rfl 24 (bs h) (0, 0) _ HBx1.out Tryd.underlying24 rfl HSh.out ?_)
      refine (HProg.out _ HB1.out).mono ?_
      rintro e W2 ⟨u, rfl, hp2, hb2⟩
      obtain ⟨a1, c1, a2, c2, rfl, hy1, hy2⟩ := hp2
      have HB2 := Lib.hid (HB1.out.trans (hb2.mono HB1.out.size))
      have HY1 := Lib.hid hy1
      have HY2 := Lib.hid hy2
      have HBx2 := Lib.hid (HBx1.out.keep hb2)
      clear hy1 hy2 hb2 HB1 HProg HBx1
      go_upto_region 4 with (refine wpList_store_row rfl 51 (.tmp 11) (.tmp 35) rfl W2.heap.size (prC a1 P.1.length c1 a2 P.2.length c2) rfl rfl 51 _ (Blk.new W2 _ _) (size_pair _ _ _ _ _ _) rfl (pair_one _ _ _ _ _ _) ?_)
      refine world_cut (fun W => Blk W w.heap.size 24 (bs h) ∧ Blk W W2.heap.size 51 (prC a1 P.1.length c1 a2 P.2.length c2) ∧ Bys W (.slice a1 P.1.length c1) P.1 ∧ Bys W (.slice a2 P.2.length c2) P.2 ∧ Below w.heap.size w W) ⟨HBx2.out.keep (below_new _ _ _ _), Blk.row (Blk.new W2 _ _) _, HY1.out.below (Nat.le_refl _) (below_new W2 _ _ _), HY2.out.below (Nat.le_refl _) (below_new W2 _ _ _), HB2.out.trans ((below_new W2 _ _ _).mono HB2.out.size)⟩ ?_
      obtain ⟨g1, hg1⟩ : ∃ g, g = W2.heap.size := ⟨_, rfl⟩
      rw [← hg1]
      clear HB2 HY1 HY2 hg1 HBx2
      rintro W3 ⟨hbx, hk1, hy1, hy2, hw3⟩
      have HK1 := Lib.hid hk1
      have HY1 := Lib.hid hy1
      have HY2 := Lib.hid hy2
      have HB3 := Lib.hid hw3
      have HBx3 := Lib.hid hbx
      clear hk1 hy1 hy2 hw3 hbx
      go_wp2_with (refine wpList_load_row rfl 24 (.tmp 8) rfl w.heap.size rfl 24 (bs h) (0, 0) _ HBx3.out Tryd.underlying24 rfl HSh.out ?_)
      refine (HRef.out _ HB3.out).mono ?_
      rintro e W4 ⟨u', rfl, hp4, hb4⟩
      obtain ⟨b1, d1, b2, d2, rfl, hz1, hz2⟩ := hp4
      have HB4 := Lib.hid (HB3.out.trans (hb4.mono HB3.out.size))
      have HK14 := Lib.hid (HK1.out.keep hb4)
      have HY14 := Lib.hid (HY1.out.below (Nat.le_refl _) hb4)
      have HY24 := Lib.hid (HY2.out.below (Nat.le_refl _) hb4)
      have HZ1 := Lib.hid hz1
      have HZ2 := Lib.hid hz2
      clear hz1 hz2 hb4 HB3 HRef HK1 HY1 HY2 HBx3
      go_upto_region 5 with (refine wpList_store_row rfl 51 (.tmp 13) (.tmp 44) rfl W4.heap.size (prC b1 P.1.length d1 b2 P.2.length d2) rfl rfl 51 _ (Blk.new W4 _ _) (size_pair _ _ _ _ _ _) rfl (pair_one _ _ _ _ _ _) ?_)
      refine world_cut (fun W => (Blk W g1 51 (prC a1 P.1.length c1 a2 P.2.length c2) ∧ Blk W W4.heap.size 51 (prC b1 P.1.length d1 b2 P.2.length d2)) ∧ PairB W (.agg (prC a1 P.1.length c1 a2 P.2.length c2)) P ∧ PairB W (.agg (prC b1 P.1.length d1 b2 P.2.length d2)) P ∧ Below w.heap.size w W) ⟨⟨HK14.out.keep (below_new W4 _ _ _), Blk.row (Blk.new W4 _ _) _⟩, ⟨a1, c1, a2, c2, rfl, HY14.out.below (Nat.le_refl _) (below_new W4 _ _ _), HY24.out.below (Nat.le_refl _) (below_new W4 _ _ _)⟩, ⟨b1, d1, b2, d2, rfl, HZ1.out.below (Nat.le_refl _) (below_new W4 _ _ _), HZ2.out.below (Nat.le_refl _) (below_new W4 _ _ _)⟩, HB4.out.trans ((below_new W4 _ _ _).mono HB4.out.size)⟩ ?_
      obtain ⟨g2, hg2⟩ : ∃ g, g = W4.heap.size := ⟨_, rfl⟩
      rw [← hg2]
      clear HB4 HK14 HY14 HY24 HZ1 HZ2 hg2
      rintro W5 ⟨⟨hk1, hk2⟩, hq1, hq2, hw5⟩
      have HK1 := Lib.hid hk1
      have HK2 := Lib.hid hk2
      have HB5 := Lib.hid hw5
      have HS := Lib.hid (HSame.out _ _ W5 hq1 hq2 hw5)
      clear hk1 hk2 hq1 hq2 hw5 HSame
      go_wp2_with (first
        | (refine wpList_load_row rfl 51 (.tmp 11) rfl g1 rfl 51 (prC a1 P.1.length c1 a2 P.2.length c2) (0, 0) _ HK1.out Tryd.underlying51 rfl (size_pair _ _ _ _ _ _) ?_)
        | (refine wpList_load_row rfl 51 (.tmp 13) rfl g2 rfl 51 (prC b1 P.1.length d1 b2 P.2.length d2) (0, 0) _ HK2.out Tryd.underlying51 rfl (size_pair _ _ _ _ _ _) ?_))
      refine HS.out.mono ?_
      rintro e W6 ⟨rfl, hb6⟩
      have HB6 := Lib.hid (HB5.out.trans (hb6.mono HB5.out.size))
      clear hb6 HS HK1 HK2 HB5
      go_wp2
      go_ret
      exact ⟨rfl, HB6.out⟩
    · have d2 : decide ((p : Int) > 80) = true := decide_eq_true (by omega)
      obtain ⟨pv, cv, rfl, _⟩ := hvT.form
      clear hvT hlT hvp hlp ht hk hp hn hf1 hpp hh
      go_enter Tryd.func11, Tryd.ntmps11
      go_upto_region 1 with fail
      refine world_cut (fun W => Blk W w.heap.size 24 (bs h) ∧ Below w.heap.size w W) ⟨Blk.new w _ _, (Below.refl _ _).alloc (Nat.le_refl _) _⟩ ?_
      rintro W0 ⟨hbx, hb0⟩
      have HBx0 := Lib.hid hbx
      have HB0 := Lib.hid hb0
      clear hbx hb0
      go_wp2_with fail
      refine (HAw.out _ HB0.out).mono ?_
      rintro e W1 ⟨rfl, hb1⟩
      have HB1 := Lib.hid (HB0.out.trans (hb1.mono HB0.out.size))
      have HBx1 := Lib.hid (HBx0.out.keep hb1)
      clear hb1 HB0 HBx0
      go_wp2_with fail
      refine (HF1.out _ HB1.out).mono ?_
      rintro e w2 ⟨rfl, rfl⟩
      clear HF1
      go_wp2_with fail
      refine (HAw.out _ HB1.out).mono ?_
      rintro e W2 ⟨rfl, hb2⟩
      have HB2 := Lib.hid (HB1.out.trans (hb2.mono HB1.out.size))
      clear hb2
      go_wp2
      go_ret
      exact ⟨rfl, HB2.out⟩
  · rw [decide_eq_false hf1] at HF1
    obtain ⟨pv, cv, rfl, _⟩ := hvT.form
    clear hvT hlT hvp hlp ht hk hp hn hf1 hpp hh
    go_enter Tryd.func11, Tryd.ntmps11
    go_upto_region 1 with fail
    refine world_cut (fun W => Blk W w.heap.size 24 (bs h) ∧ Below w.heap.size w W) ⟨Blk.new w _ _, (Below.refl _ _).alloc (Nat.le_refl _) _⟩ ?_
    rintro W0 ⟨hbx, hb0⟩
    have HBx0 := Lib.hid hbx
    have HB0 := Lib.hid hb0
    clear hbx hb0
    go_wp2_with fail
    refine (HAw.out _ HB0.out).mono ?_
    rintro e W1 ⟨rfl, hb1⟩
    have HB1 := Lib.hid (HB0.out.trans (hb1.mono HB0.out.size))
    have HBx1 := Lib.hid (HBx0.out.keep hb1)
    clear hb1 HB0 HBx0
    go_wp2_with fail
    refine (HF1.out _ HB1.out).mono ?_
    rintro e w2 ⟨rfl, rfl⟩
    clear HF1
    go_wp2_with fail
    refine (HAw.out _ HB1.out).mono ?_
    rintro e W2 ⟨rfl, hb2⟩
    have HB2 := Lib.hid (HB1.out.trans (hb2.mono HB1.out.size))
    clear hb2
    go_wp2
    go_ret
    exact ⟨rfl, HB2.out⟩
end Go.Proofs.YtdhfabjkpffhnaaDoor

/- ClashNarrow: the walk. -/
namespace Go.Proofs.YtdhfabjkpffhnaaDoor
set_option maxRecDepth 20000
open Go.RowKit ShaMath LeafMath PathMath GrowthMath ClashMath Reg

/-- What path.Size is to answer. -/
def SizeProg : Prop := ∀ (i m : Nat) (w : World), i < 18446744073709551616 → m < 18446744073709551616 →
    Calls Tryd.prog 45 #[.int .u64 (i : Int), .int .u64 (m : Int)] w fun e w' => e = .returned (.int .i64 (sizeP i m : Int)) ∧ Below w.heap.size w w'

theorem rootT_zero {T : List Bs} (h : 2 ≤ T.length) : rootT 0 T = z32 := by rw [rootT_more 0 T h]; exact hashW_zero _
theorem climbP_zero (i m : Nat) (p : List Hs) (h : Hs) (h2 : 2 ≤ m) : climbP 0 i m p h = z32 := by
  by_cases hi : i < splitN m
  · rw [climbP_left 0 p h h2 hi]; exact hashW_zero _
  · rw [climbP_right 0 p h h2 hi]; exact hashW_zero _

def NarAt (w : World) (h : Hs) (S : Nat) (s10 s11 : Value) (wr : World) : Prop := ∃ j : Nat, j ≤ S ∧ s11 = .int .i64 (j : Int) ∧ OHs wr (w.heap.size + 1) s10 (List.replicate j h) ∧ Blk wr w.heap.size 24 (bs h) ∧ Below w.heap.size w wr

theorem own_append {w W : World} {v : Value} {hs : List Hs} {x : Hs} (hx : x.length = 32) (h : OHs W (w.heap.size + 1) v hs) (hk : Blk W w.heap.size 24 (bs x)) (hb : Below w.heap.size w W) (hl : hs.length ≤ 1000000000) :
    ∃ v' W', (Builtin.append_ #[30, 30] 30 #[v, .slice (some ⟨W.heap.size, 0, none⟩) 1 1]).run Tryd.prog (W.alloc (.cells (bs x) 24)) = .ok v' W' ∧ OHs W' (w.heap.size + 1) v' (hs ++ [x]) ∧ Blk W' w.heap.size 24 (bs x) ∧ Below w.heap.size w W' := by
  have hb1 : Below W.heap.size W (W.alloc (.cells (bs x) 24)) := (Below.refl _ _).alloc (Nat.le_refl _) _
  have hB1 := hb.trans (hb1.mono hb.size)
  have hlt := hk.lt
  obtain ⟨v', W', h1, h2, h3⟩ := append_hs (B := w.heap.size + 1) (by have := hb1.size; omega) (h.below hb1) (hss_new W x hx) (by simp; omega)
  have h4 : Below (w.heap.size + 1) (W.alloc (.cells (bs x) 24)) W' := (Below.refl _ _).grown h3 (by have := hb1.size; omega) fun k hk => (World.ownsRow.lt (h.below hb1).2 k hk).1
  exact ⟨v', W', h1, h2, (hk.keep hb1).below (by omega) h4, hB1.trans (h4.mono (by omega))⟩

set_option maxHeartbeats 2000000 in
set_option maxRecDepth 100000 in
theorem clashNarrow_walk (hp : ClashProg) (hsz : SizeProg) (T : List Bs) (v : Value) (i : Nat) (_ : i < 18446744073709551616) (x : Bs) (vx : Value) (h : Hs) (hh : h.length = 32) (w : World) (hvT : Txs w v T) (hlT : T.length ≤ 5864062014976) (hvx : Bys w vx x) (hlx : x.length ≤ 140737488355328) (ht : Tabs w) (hk : Consts w) :
    Calls Tryd.prog 13 #[v, .int .u64 (i : Int), vx, .agg (bs h)] w fun e w' => e = .returned (.bool true) ∧ Below w.heap.size w w' := by
  have HAw := Lib.hid (fun (W : World) (hW : Below w.heap.size w W) => awake17_any hp W (ht.below (Nat.le_refl _) hW))
  have HF1 := Lib.hid (fun (W : World) (hW : Below w.heap.size w W) => few17_any T v W (hvT.below (Nat.le_refl _) hW) hlT)
  have HSh := Lib.hid (size_hash (cs := bs h) (by rw [bs_size, hh]))
  obtain ⟨ax, cx, rfl⟩ := hvx.form
  obtain ⟨lx, hx⟩ : ∃ l, l = x.length := ⟨_, rfl⟩
  rw [← hx] at hvx hlx ⊢
  obtain ⟨pv, cv, rfl, hcv⟩ := hvT.form
  obtain ⟨m, hm⟩ : ∃ m, m = T.length := ⟨_, rfl⟩
  rw [← hm] at hvT hlT hcv HF1 ⊢
  by_cases hf1 : fewS T ≤ 4000
  · rw [decide_eq_true hf1] at HF1
    by_cases hx4 : lx ≤ 4000
    · have d1 : decide ((lx : Int) > 4000) = false := decide_eq_false (by omega)
      by_cases hm2 : 2 ≤ m
      · have d2 : decide ((m : Int) < 2) = false := decide_eq_false (by omega)
        have hsT := fewS_shorts hf1
        have hm80 : m ≤ 80 := by rw [hm]; exact hsT.few
        obtain ⟨i1, hi1⟩ : ∃ i1, i1 = i % m := ⟨_, rfl⟩
        have hi1m : i1 < m := by rw [hi1]; exact Nat.mod_lt _ (by omega)
        have hrem : (i : Int) % (m : Int) = (i1 : Int) := by rw [hi1]; simp
        have HRem := Lib.hid hrem
        obtain ⟨S, hS⟩ : ∃ S, S = sizeP i1 m := ⟨_, rfl⟩
        have hS64 : S ≤ 64 := by rw [hS]; exact sizeP_64 i1 m (by omega)
        have HSize := Lib.hid (fun (W : World) => hsz i1 m W (by omega) (by omega))
        rw [← hS] at HSize
        obtain ⟨t, htt⟩ : ∃ t, T[i1]? = some t := ⟨T[i1]'(by omega), List.getElem?_eq_getElem _⟩
        obtain ⟨pa, at_, ct, rfl, htc, htb⟩ := hvT.at_ htt
        obtain ⟨lt, hlt⟩ : ∃ l, l = t.length := ⟨_, rfl⟩
        rw [← hlt] at htc htb
        have HTt := Lib.hid (fun (W : World) (hW : Below w.heap.size w W) => (⟨by rw [hW.cell (World.block_lt_of_cell? w _ htc)]; exact htc, htb.below (Nat.le_refl _) hW⟩ : W.cell? (pa.add i1) = some (.slice at_ lt ct) ∧ Bys W (.slice at_ lt ct) t))
        have HIx := Lib.hid (fun W => txs_indexU W pa m cv i1 hi1m)
        have HX := Lib.hid hvx
        obtain ⟨X, Y, hX, hY, hXY⟩ := strs_of x t
        have HXs := Lib.hid hX
        have HYs := Lib.hid hY
        have hall : ∀ y ∈ List.replicate S h, y.length = 32 := fun y hy => by rw [(List.mem_replicate.1 hy).2]; exact hh
        have hcr : climbR 0 (leafH 0 x) i1 T.length (List.replicate S h) = (z32, 0) := by
          rw [climbR_is 0 _ i1 T.length _ (by omega) (by rw [List.length_replicate, hS, hm]), climbP_zero _ _ _ _ (by omega)]
        have hro : rootT 0 T = z32 := rootT_zero (by omega)
        obtain ⟨hl1, hl2⟩ := pathC_len 0 (i := i1) (x := x) (p := List.replicate S h) hsT (by omega) hall
        have HProg := Lib.hid (fun (W : World) (u : Value) (hu : OHs W (w.heap.size + 1) u (List.replicate S h)) (hW : Below w.heap.size w W) => hp.path 0 T i1 x (List.replicate S h) (.slice (some pa) m cv) (.slice ax lx cx) u W i0 (hvT.below (Nat.le_refl _) hW) hsT (by omega) (hvx.below (Nat.le_refl _) hW) (by omega) hu.hss (by rw [List.length_replicate]; omega) (ht.below (Nat.le_refl _) hW))
        obtain ⟨P, hP⟩ : ∃ P, P = (pathC 0 T i1 x (List.replicate S h)).1 := ⟨_, rfl⟩
        obtain ⟨E, hEe⟩ : ∃ E, E = (pathC 0 T i1 x (List.replicate S h)).2 := ⟨_, rfl⟩
        rw [← hP] at hl1 hl2 HProg
        rw [← hEe] at HProg
        have Hh := Lib.hid hh
        have HK := Lib.hid hk
        by_cases htx : t = x
        · have hE8 : E = 8 := by rw [hEe, pathC, hcr, hro, if_neg (by simp), if_neg (by simp), if_pos (by rw [htt, htx])]
          have HXY := Lib.hid (show (X.toList == Y.toList) = true by rw [hXY]; exact decide_eq_true htx.symm)
          have hee : ((E : Int) == 8) = true := by rw [hE8]; rfl
          clear hvT hlT hvx hlx ht hk hp hsz hsT hP hEe hf1 hx hm hi1 hrem hS hX hY hXY htx htt htc htb hlt hall hcr hro hh hE8
          go_enter Tryd.func13, Tryd.ntmps13
          go_upto_region 1 with fail
          refine world_cut (fun W => Blk W w.heap.size 24 (bs h) ∧ Below w.heap.size w W) ⟨Blk.new w _ _, (Below.refl _ _).alloc (Nat.le_refl _) _⟩ ?_
          rintro W0 ⟨hbx, hb0⟩
          have HBx0 := Lib.hid hbx
          have HB0 := Lib.hid hb0
          clear hbx hb0
          go_wp2_with fail
          refine (HAw.out _ HB0.out).mono ?_
          rintro e W1 ⟨rfl, hb1⟩
          have HB1 := Lib.hid (HB0.out.trans (hb1.mono HB0.out.size))
          have HBx1 := Lib.hid (HBx0.out.keep hb1)
          clear hb1 HB0 HBx0
          go_wp2_with fail
          refine (HF1.out _ HB1.out).mono ?_
          rintro e w2 ⟨rfl, rfl⟩
          clear HF1
          go_upto_region 5 with fail
          rw [HRem.out]
          have hstart : NarAt w h S (.slice none 0 0) (.int .i64 0) w2 := ⟨0, Nat.zero_le _, rfl, OHs.none _ _, HBx1.out, HB1.out⟩
          have HS0 := Lib.hid hstart
          clear hstart HBx1 HB1
          go_wp2
          go_loopw [10, 11] (fun s10 s11 wr => NarAt w h S s10 s11 wr) (fun _ s11 _ => (match s11 with | .int _ z => 100 - z.toNat | _ => 0))
          case atStart => exact HS0.out
          case round =>
            obtain ⟨j, hj, rfl, ho, hbx, hb⟩ := hrel
            have HO := Lib.hid ho
            have HBx := Lib.hid hbx
            have HBr := Lib.hid hb
            clear ho hbx hb HS0
            go_wp2_with fail
            refine (HSize.out _).mono ?_
            rintro e W2 ⟨rfl, hb2⟩
            have HO2 := Lib.hid (HO.out.below hb2)
            have HBx2 := Lib.hid (HBx.out.keep hb2)
            have HB2 := Lib.hid (HBr.out.trans (hb2.mono HBr.out.size))
            clear hb2 HO HBx HBr
            by_cases hjS : j < S
            · have hA := own_append Hh.out HO2.out HBx2.out HB2.out (by rw [List.length_replicate]; omega)
              rw [show List.replicate j h ++ [h] = List.replicate (j + 1) h from List.replicate_succ'.symm] at hA
              have HA := Lib.hid hA
              clear hA
              go_wp2_with (first
                | (refine wpList_load_row rfl 24 (.tmp 7) rfl w.heap.size rfl 24 (bs h) (0, 0) _ HBx2.out Tryd.underlying24 rfl HSh.out ?_)
                | (refine wpList_build_hash1 rfl (.tmp 46) rfl (bs h) rfl (by rw [bs_size, Hh.out]) ?_)
                | (at_builtin; refine wpList_append_by rfl (.tmp 45) (.tmp 47) 30 rfl _ _ rfl rfl _ HA.out ?_; rintro v9 W5 ⟨hr9, hbx9, hb9⟩; (have HR9 := Lib.hid hr9); (have HBx9 := Lib.hid hbx9); (have HB9 := Lib.hid hb9); clear hr9 hbx9 hb9))
              go_roundw
              case rel => exact ⟨j + 1, by omega, by simp, HR9.out, HBx9.out, HB9.out⟩
              case measure => simp; omega
            · obtain rfl : j = S := by omega
              have HOe := Lib.hid HO2.out
              have HBe := Lib.hid HB2.out
              clear HO2 HB2 HBx2
              go_wp2_with fail
              refine (HProg.out _ _ HOe.out HBe.out).mono ?_
              rintro e W4 ⟨u, rfl, hp4, hb4⟩
              obtain ⟨a1, c1, a2, c2, rfl, hy1, hy2⟩ := hp4
              have HB4 := Lib.hid (HBe.out.trans (hb4.mono HBe.out.size))
              have HY1 := Lib.hid hy1
              have HY2 := Lib.hid hy2
              clear hy1 hy2 hb4 HBe HOe HProg
              go_upto_region 11 with (refine wpList_store_row rfl 51 (.tmp 12) (.tmp 55) rfl W4.heap.size (prC a1 P.1.length c1 a2 P.2.length c2) rfl rfl 51 _ (Blk.new W4 _ _) (size_pair _ _ _ _ _ _) rfl (pair_one _ _ _ _ _ _) ?_)
              refine world_cut (fun W => Blk W W4.heap.size 51 (prC a1 P.1.length c1 a2 P.2.length c2) ∧ PairB W (.agg (prC a1 P.1.length c1 a2 P.2.length c2)) P ∧ Below w.heap.size w W) ⟨Blk.row (Blk.new W4 _ _) _, ⟨a1, c1, a2, c2, rfl, HY1.out.below (Nat.le_refl _) (below_new W4 _ _ _), HY2.out.below (Nat.le_refl _) (below_new W4 _ _ _)⟩, HB4.out.trans ((below_new W4 _ _ _).mono HB4.out.size)⟩ ?_
              obtain ⟨g, hg⟩ : ∃ g, g = W4.heap.size := ⟨_, rfl⟩
              rw [← hg]
              clear HB4 HY1 HY2 hg
              rintro W5 ⟨hk5, hq5, hw5⟩
              have HK5 := Lib.hid hk5
              have HQ5 := Lib.hid hq5
              have HB5 := Lib.hid hw5
              clear hk5 hq5 hw5
              go_upto_region 11 with fail
              refine region_by [(57, .is (.slice ax lx cx)), (58, .is (.string X)), (59, .is (.slice (some pa) m cv)), (60, .is (.int .u64 (i1 : Int))), (61, .is (.pointer (some (pa.add i1)))), (62, .is (.slice at_ lt ct)), (63, .is (.string Y)), (64, .is (.bool true))] [12, 13, 64] (fun W => Below W5.heap.size W5 W) (by kernel_rfl) (by kernel_rfl) (by kernel_rfl) (by kernel_rfl) (by kernel_rfl) ((Below.refl _ _).drew) ?_ ?_
              · refine ⟨?c0, ?c1, ?c2, ?c3, ?c4, ?c5, ?c6, ?c7, trivial⟩
                case c0 => exact ask_copy (guard_none rfl) (.tmp 2) (.inl rfl) (by intro k hk; cases hk; rfl)
                case c1 => exact ask_conv_bys (guard_none rfl) (.tmp 57) x X HXs.out rfl (fun y W hW hk => by
                  have e : y 57 = (.slice ax lx cx) := hk 57 rfl
                  show Bys W (y 57) x
                  rw [e]
                  exact HX.out.below (Nat.le_refl _) (HB5.out.trans (hW.mono HB5.out.size))) (by intro k hk; cases hk; rfl)
                case c2 => exact ask_copy (guard_none rfl) (.tmp 0) (.inl rfl) (by intro k hk; cases hk; rfl)
                case c3 => exact ask_copy (guard_none rfl) (.tmp 1) (.inl rfl) (by intro k hk; cases hk; rfl)
                case c4 => exact ask_idx (guard_none rfl) _ (.tmp 59) (.tmp 60) (.slice (some pa) m cv) (.int .u64 (i1 : Int)) (.pointer (some (pa.add i1))) rfl rfl rfl (by intro k hk; cases hk; rfl) HIx.out
                case c5 => exact ask_load (guard_none rfl) _ (.tmp 61) (.pointer (some (pa.add i1))) (.slice at_ lt ct) rfl rfl (by intro k hk; cases hk; rfl) (fun W hW => load_txt W _ _ (HTt.out W (HB5.out.trans (hW.mono HB5.out.size))).1)
                case c6 => exact ask_conv_bys (guard_none rfl) (.tmp 62) t Y HYs.out rfl (fun y W hW hk => by
                  have e : y 62 = .slice at_ lt ct := hk 62 rfl
                  show Bys W (y 62) t
                  rw [e]
                  exact (HTt.out W (HB5.out.trans (hW.mono HB5.out.size))).2) (by intro k hk; cases hk; rfl)
                case c7 => exact ask_bin (guard_none rfl) .eql _ _ (.tmp 58) (.tmp 63) (.string X) (.string Y) (.bool true) rfl rfl rfl (by intro k hk; cases hk; rfl) (eql_strs _ _ _ X Y true HXY.out)
              · intro a' W6 hW hd' hs' hf'
                have t12 : a'.tmps.getD 12 undef = .pointer (some ⟨g, 0, none⟩) := hf' 12 rfl
                have t13 : a'.tmps.getD 13 undef = .int .i64 (E : Int) := hf' 13 rfl
                have t64 : a'.tmps.getD 64 undef = .bool true := hf' 64 rfl
                obtain ⟨us', hus, ha'⟩ := act_open 73 a' hs' hd'
                rw [← hus] at t12 t13 t64
                have el : ((List.range 73).map us').toArray = #[us' 0, us' 1, us' 2, us' 3, us' 4, us' 5, us' 6, us' 7, us' 8, us' 9, us' 10, us' 11, .pointer (some ⟨g, 0, none⟩), .int .i64 (E : Int), us' 14, us' 15, us' 16, us' 17, us' 18, us' 19, us' 20, us' 21, us' 22, us' 23, us' 24, us' 25, us' 26, us' 27, us' 28, us' 29, us' 30, us' 31, us' 32, us' 33, us' 34, us' 35, us' 36, us' 37, us' 38, us' 39, us' 40, us' 41, us' 42, us' 43, us' 44, us' 45, us' 46, us' 47, us' 48, us' 49, us' 50, us' 51, us' 52, us' 53, us' 54, us' 55, us' 56, us' 57, us' 58, us' 59, us' 60, us' 61, us' 62, us' 63, .bool true, us' 65, us' 66, us' 67, us' 68, us' 69, us' 70, us' 71, us' 72] := by
                  show #[us' 0, us' 1, us' 2, us' 3, us' 4, us' 5, us' 6, us' 7, us' 8, us' 9, us' 10, us' 11, us' 12, us' 13, us' 14, us' 15, us' 16, us' 17, us' 18, us' 19, us' 20, us' 21, us' 22, us' 23, us' 24, us' 25, us' 26, us' 27, us' 28, us' 29, us' 30, us' 31, us' 32, us' 33, us' 34, us' 35, us' 36, us' 37, us' 38, us' 39, us' 40, us' 41, us' 42, us' 43, us' 44, us' 45, us' 46, us' 47, us' 48, us' 49, us' 50, us' 51, us' 52, us' 53, us' 54, us' 55, us' 56, us' 57, us' 58, us' 59, us' 60, us' 61, us' 62, us' 63, us' 64, us' 65, us' 66, us' 67, us' 68, us' 69, us' 70, us' 71, us' 72] = _
                  rw [t12, t13, t64]
                rw [el] at ha'
                subst ha'
                clear hus t12 t13 t64 el hf' hs' hd'
                have HB6 := Lib.hid (HB5.out.trans (hW.mono HB5.out.size))
                clear hW HB5 HK5 HQ5
                go_wp2
                go_ret
                exact ⟨rfl, HB6.out⟩
        · obtain ⟨hE0, hcl⟩ := pathC_found (n := 0) (T := T) (i := i1) (x := x) (p := List.replicate S h) hall (by rw [hcr]) (by rw [hcr, hro]) (by rw [htt]; simpa using htx)
          rw [← hEe] at hE0
          rw [← hP] at hcl
          have HCl := Lib.hid hcl
          have HXY := Lib.hid (show (X.toList == Y.toList) = false by rw [hXY]; exact decide_eq_false fun e => htx e.symm)
          have hee : ((E : Int) == 0) = true := by rw [hE0]; rfl
          clear hvT hlT hvx hlx ht hk hp hsz hsT hP hEe hf1 hx hm hi1 hrem hS hX hY hXY htx htt htc htb hlt hall hcr hro hh hE0 hcl
          go_enter Tryd.func13, Tryd.ntmps13
          go_upto_region 1 with fail
          refine world_cut (fun W => Blk W w.heap.size 24 (bs h) ∧ Below w.heap.size w W) ⟨Blk.new w _ _, (Below.refl _ _).alloc (Nat.le_refl _) _⟩ ?_
          rintro W0 ⟨hbx, hb0⟩
          have HBx0 := Lib.hid hbx
          have HB0 := Lib.hid hb0
          clear hbx hb0
          go_wp2_with fail
          refine (HAw.out _ HB0.out).mono ?_
          rintro e W1 ⟨rfl, hb1⟩
          have HB1 := Lib.hid (HB0.out.trans (hb1.mono HB0.out.size))
          have HBx1 := Lib.hid (HBx0.out.keep hb1)
          clear hb1 HB0 HBx0
          go_wp2_with fail
          refine (HF1.out _ HB1.out).mono ?_
          rintro e w2 ⟨rfl, rfl⟩
          clear HF1
          go_upto_region 5 with fail
          rw [HRem.out]
          have hstart : NarAt w h S (.slice none 0 0) (.int .i64 0) w2 := ⟨0, Nat.zero_le _, rfl, OHs.none _ _, HBx1.out, HB1.out⟩
          have HS0 := Lib.hid hstart
          clear hstart HBx1 HB1
          go_wp2
          go_loopw [10, 11] (fun s10 s11 wr => NarAt w h S s10 s11 wr) (fun _ s11 _ => (match s11 with | .int _ z => 100 - z.toNat | _ => 0))
          case atStart => exact HS0.out
          case round =>
            obtain ⟨j, hj, rfl, ho, hbx, hb⟩ := hrel
            have HO := Lib.hid ho
            have HBx := Lib.hid hbx
            have HBr := Lib.hid hb
            clear ho hbx hb HS0
            go_wp2_with fail
            refine (HSize.out _).mono ?_
            rintro e W2 ⟨rfl, hb2⟩
            have HO2 := Lib.hid (HO.out.below hb2)
            have HBx2 := Lib.hid (HBx.out.keep hb2)
            have HB2 := Lib.hid (HBr.out.trans (hb2.mono HBr.out.size))
            clear hb2 HO HBx HBr
            by_cases hjS : j < S
            · have hA := own_append Hh.out HO2.out HBx2.out HB2.out (by rw [List.length_replicate]; omega)
              rw [show List.replicate j h ++ [h] = List.replicate (j + 1) h from List.replicate_succ'.symm] at hA
              have HA := Lib.hid hA
              clear hA
              go_wp2_with (first
                | (refine wpList_load_row rfl 24 (.tmp 7) rfl w.heap.size rfl 24 (bs h) (0, 0) _ HBx2.out Tryd.underlying24 rfl HSh.out ?_)
                | (refine wpList_build_hash1 rfl (.tmp 46) rfl (bs h) rfl (by rw [bs_size, Hh.out]) ?_)
                | (at_builtin; refine wpList_append_by rfl (.tmp 45) (.tmp 47) 30 rfl _ _ rfl rfl _ HA.out ?_; rintro v9 W5 ⟨hr9, hbx9, hb9⟩; (have HR9 := Lib.hid hr9); (have HBx9 := Lib.hid hbx9); (have HB9 := Lib.hid hb9); clear hr9 hbx9 hb9))
              go_roundw
              case rel => exact ⟨j + 1, by omega, by simp, HR9.out, HBx9.out, HB9.out⟩
              case measure => simp; omega
            · obtain rfl : j = S := by omega
              have HOe := Lib.hid HO2.out
              have HBe := Lib.hid HB2.out
              clear HO2 HB2 HBx2
              go_wp2_with fail
              refine (HProg.out _ _ HOe.out HBe.out).mono ?_
              rintro e W4 ⟨u, rfl, hp4, hb4⟩
              obtain ⟨a1, c1, a2, c2, rfl, hy1, hy2⟩ := hp4
              have HB4 := Lib.hid (HBe.out.trans (hb4.mono HBe.out.size))
              have HY1 := Lib.hid hy1
              have HY2 := Lib.hid hy2
              clear hy1 hy2 hb4 HBe HOe HProg
              go_upto_region 11 with (refine wpList_store_row rfl 51 (.tmp 12) (.tmp 55) rfl W4.heap.size (prC a1 P.1.length c1 a2 P.2.length c2) rfl rfl 51 _ (Blk.new W4 _ _) (size_pair _ _ _ _ _ _) rfl (pair_one _ _ _ _ _ _) ?_)
              refine world_cut (fun W => Blk W W4.heap.size 51 (prC a1 P.1.length c1 a2 P.2.length c2) ∧ PairB W (.agg (prC a1 P.1.length c1 a2 P.2.length c2)) P ∧ Below w.heap.size w W) ⟨Blk.row (Blk.new W4 _ _) _, ⟨a1, c1, a2, c2, rfl, HY1.out.below (Nat.le_refl _) (below_new W4 _ _ _), HY2.out.below (Nat.le_refl _) (below_new W4 _ _ _)⟩, HB4.out.trans ((below_new W4 _ _ _).mono HB4.out.size)⟩ ?_
              obtain ⟨g, hg⟩ : ∃ g, g = W4.heap.size := ⟨_, rfl⟩
              rw [← hg]
              clear HB4 HY1 HY2 hg
              rintro W5 ⟨hk5, hq5, hw5⟩
              have HK5 := Lib.hid hk5
              have HQ5 := Lib.hid hq5
              have HB5 := Lib.hid hw5
              clear hk5 hq5 hw5
              go_upto_region 11 with fail
              refine region_by [(57, .is (.slice ax lx cx)), (58, .is (.string X)), (59, .is (.slice (some pa) m cv)), (60, .is (.int .u64 (i1 : Int))), (61, .is (.pointer (some (pa.add i1)))), (62, .is (.slice at_ lt ct)), (63, .is (.string Y)), (64, .is (.bool false))] [12, 13, 64] (fun W => Below W5.heap.size W5 W) (by kernel_rfl) (by kernel_rfl) (by kernel_rfl) (by kernel_rfl) (by kernel_rfl) ((Below.refl _ _).drew) ?_ ?_
              · refine ⟨?c0, ?c1, ?c2, ?c3, ?c4, ?c5, ?c6, ?c7, trivial⟩
                case c0 => exact ask_copy (guard_none rfl) (.tmp 2) (.inl rfl) (by intro k hk; cases hk; rfl)
                case c1 => exact ask_conv_bys (guard_none rfl) (.tmp 57) x X HXs.out rfl (fun y W hW hk => by
                  have e : y 57 = (.slice ax lx cx) := hk 57 rfl
                  show Bys W (y 57) x
                  rw [e]
                  exact HX.out.below (Nat.le_refl _) (HB5.out.trans (hW.mono HB5.out.size))) (by intro k hk; cases hk; rfl)
                case c2 => exact ask_copy (guard_none rfl) (.tmp 0) (.inl rfl) (by intro k hk; cases hk; rfl)
                case c3 => exact ask_copy (guard_none rfl) (.tmp 1) (.inl rfl) (by intro k hk; cases hk; rfl)
                case c4 => exact ask_idx (guard_none rfl) _ (.tmp 59) (.tmp 60) (.slice (some pa) m cv) (.int .u64 (i1 : Int)) (.pointer (some (pa.add i1))) rfl rfl rfl (by intro k hk; cases hk; rfl) HIx.out
                case c5 => exact ask_load (guard_none rfl) _ (.tmp 61) (.pointer (some (pa.add i1))) (.slice at_ lt ct) rfl rfl (by intro k hk; cases hk; rfl) (fun W hW => load_txt W _ _ (HTt.out W (HB5.out.trans (hW.mono HB5.out.size))).1)
                case c6 => exact ask_conv_bys (guard_none rfl) (.tmp 62) t Y HYs.out rfl (fun y W hW hk => by
                  have e : y 62 = .slice at_ lt ct := hk 62 rfl
                  show Bys W (y 62) t
                  rw [e]
                  exact (HTt.out W (HB5.out.trans (hW.mono HB5.out.size))).2) (by intro k hk; cases hk; rfl)
                case c7 => exact ask_bin (guard_none rfl) .eql _ _ (.tmp 58) (.tmp 63) (.string X) (.string Y) (.bool false) rfl rfl rfl (by intro k hk; cases hk; rfl) (eql_strs _ _ _ X Y false HXY.out)
              · intro a' W6 hW hd' hs' hf'
                have t12 : a'.tmps.getD 12 undef = .pointer (some ⟨g, 0, none⟩) := hf' 12 rfl
                have t13 : a'.tmps.getD 13 undef = .int .i64 (E : Int) := hf' 13 rfl
                have t64 : a'.tmps.getD 64 undef = .bool false := hf' 64 rfl
                obtain ⟨us', hus, ha'⟩ := act_open 73 a' hs' hd'
                rw [← hus] at t12 t13 t64
                have el : ((List.range 73).map us').toArray = #[us' 0, us' 1, us' 2, us' 3, us' 4, us' 5, us' 6, us' 7, us' 8, us' 9, us' 10, us' 11, .pointer (some ⟨g, 0, none⟩), .int .i64 (E : Int), us' 14, us' 15, us' 16, us' 17, us' 18, us' 19, us' 20, us' 21, us' 22, us' 23, us' 24, us' 25, us' 26, us' 27, us' 28, us' 29, us' 30, us' 31, us' 32, us' 33, us' 34, us' 35, us' 36, us' 37, us' 38, us' 39, us' 40, us' 41, us' 42, us' 43, us' 44, us' 45, us' 46, us' 47, us' 48, us' 49, us' 50, us' 51, us' 52, us' 53, us' 54, us' 55, us' 56, us' 57, us' 58, us' 59, us' 60, us' 61, us' 62, us' 63, .bool false, us' 65, us' 66, us' 67, us' 68, us' 69, us' 70, us' 71, us' 72] := by
                  show #[us' 0, us' 1, us' 2, us' 3, us' 4, us' 5, us' 6, us' 7, us' 8, us' 9, us' 10, us' 11, us' 12, us' 13, us' 14, us' 15, us' 16, us' 17, us' 18, us' 19, us' 20, us' 21, us' 22, us' 23, us' 24, us' 25, us' 26, us' 27, us' 28, us' 29, us' 30, us' 31, us' 32, us' 33, us' 34, us' 35, us' 36, us' 37, us' 38, us' 39, us' 40, us' 41, us' 42, us' 43, us' 44, us' 45, us' 46, us' 47, us' 48, us' 49, us' 50, us' 51, us' 52, us' 53, us' 54, us' 55, us' 56, us' 57, us' 58, us' 59, us' 60, us' 61, us' 62, us' 63, us' 64, us' 65, us' 66, us' 67, us' 68, us' 69, us' 70, us' 71, us' 72] = _
                  rw [t12, t13, t64]
                rw [el] at ha'
                subst ha'
                clear hus t12 t13 t64 el hf' hs' hd'
                have HB6 := Lib.hid (HB5.out.trans (hW.mono HB5.out.size))
                have HK6 := Lib.hid (HK5.out.keep hW)
                have HS := Lib.hid (refclash_any 0 i0 _ P W6 (HQ5.out.below hW) hl1 hl2 (HK.out.below (Nat.le_refl _) HB6.out))
                rw [HCl.out] at HS
                clear hW HB5 HK5 HQ5
                go_wp2_with (refine wpList_load_guarded rfl 51 (.tmp 12) rfl _ (.agg (prC a1 P.1.length c1 a2 P.2.length c2)) rfl (HK6.out.loads 51 _ Tryd.underlying51 rfl (size_pair _ _ _ _ _ _)) ?_)
                refine HS.out.mono ?_
                rintro e W7 ⟨rfl, hb7⟩
                have HB7 := Lib.hid (HB6.out.trans (hb7.mono HB6.out.size))
                clear hb7 HS HB6 HK6
                go_wp2
                go_ret
                exact ⟨rfl, HB7.out⟩
      · have d2 : decide ((m : Int) < 2) = true := decide_eq_true (by omega)
        clear hvT hlT hvx hlx ht hk hp hsz hf1 hx hm hh
        go_enter Tryd.func13, Tryd.ntmps13
        go_upto_region 1 with fail
        refine world_cut (fun W => Blk W w.heap.size 24 (bs h) ∧ Below w.heap.size w W) ⟨Blk.new w _ _, (Below.refl _ _).alloc (Nat.le_refl _) _⟩ ?_
        rintro W0 ⟨hbx, hb0⟩
        have HBx0 := Lib.hid hbx
        have HB0 := Lib.hid hb0
        clear hbx hb0
        go_wp2_with fail
        refine (HAw.out _ HB0.out).mono ?_
        rintro e W1 ⟨rfl, hb1⟩
        have HB1 := Lib.hid (HB0.out.trans (hb1.mono HB0.out.size))
        have HBx1 := Lib.hid (HBx0.out.keep hb1)
        clear hb1 HB0 HBx0
        go_wp2_with fail
        refine (HF1.out _ HB1.out).mono ?_
        rintro e w2 ⟨rfl, rfl⟩
        clear HF1
        go_wp2_with fail
        refine (HAw.out _ HB1.out).mono ?_
        rintro e W2 ⟨rfl, hb2⟩
        have HB2 := Lib.hid (HB1.out.trans (hb2.mono HB1.out.size))
        clear hb2
        go_wp2
        go_ret
        exact ⟨rfl, HB2.out⟩
    · have d1 : decide ((lx : Int) > 4000) = true := decide_eq_true (by omega)
      clear hvT hlT hvx hlx ht hk hp hsz hf1 hx hm hh
      go_enter Tryd.func13, Tryd.ntmps13
      go_upto_region 1 with fail
      refine world_cut (fun W => Blk W w.heap.size 24 (bs h) ∧ Below w.heap.size w W) ⟨Blk.new w _ _, (Below.refl _ _).alloc (Nat.le_refl _) _⟩ ?_
      rintro W0 ⟨hbx, hb0⟩
      have HBx0 := Lib.hid hbx
      have HB0 := Lib.hid hb0
      clear hbx hb0
      go_wp2_with fail
      refine (HAw.out _ HB0.out).mono ?_
      rintro e W1 ⟨rfl, hb1⟩
      have HB1 := Lib.hid (HB0.out.trans (hb1.mono HB0.out.size))
      have HBx1 := Lib.hid (HBx0.out.keep hb1)
      clear hb1 HB0 HBx0
      go_wp2_with fail
      refine (HF1.out _ HB1.out).mono ?_
      rintro e w2 ⟨rfl, rfl⟩
      clear HF1
      go_wp2_with fail
      refine (HAw.out _ HB1.out).mono ?_
      rintro e W2 ⟨rfl, hb2⟩
      have HB2 := Lib.hid (HB1.out.trans (hb2.mono HB1.out.size))
      clear hb2
      go_wp2
      go_ret
      exact ⟨rfl, HB2.out⟩
  · rw [decide_eq_false hf1] at HF1
    clear hvT hlT hvx hlx ht hk hp hsz hf1 hx hm hh
    go_enter Tryd.func13, Tryd.ntmps13
    go_upto_region 1 with fail
    refine world_cut (fun W => Blk W w.heap.size 24 (bs h) ∧ Below w.heap.size w W) ⟨Blk.new w _ _, (Below.refl _ _).alloc (Nat.le_refl _) _⟩ ?_
    rintro W0 ⟨hbx, hb0⟩
    have HBx0 := Lib.hid hbx
    have HB0 := Lib.hid hb0
    clear hbx hb0
    go_wp2_with fail
    refine (HAw.out _ HB0.out).mono ?_
    rintro e W1 ⟨rfl, hb1⟩
    have HB1 := Lib.hid (HB0.out.trans (hb1.mono HB0.out.size))
    have HBx1 := Lib.hid (HBx0.out.keep hb1)
    clear hb1 HB0 HBx0
    go_wp2_with fail
    refine (HF1.out _ HB1.out).mono ?_
    rintro e w2 ⟨rfl, rfl⟩
    clear HF1
    go_wp2_with fail
    refine (HAw.out _ HB1.out).mono ?_
    rintro e W2 ⟨rfl, hb2⟩
    have HB2 := Lib.hid (HB1.out.trans (hb2.mono HB1.out.size))
    clear hb2
    go_wp2
    go_ret
    exact ⟨rfl, HB2.out⟩
end Go.Proofs.YtdhfabjkpffhnaaDoor

/- ClashTrust: the walk, in nine cases. -/
namespace Go.Proofs.YtdhfabjkpffhnaaDoor
set_option maxRecDepth 20000
open Go.RowKit ShaMath LeafMath PathMath GrowthMath ClashMath Reg

/-- An old root's box, leaves, a root's variable. -/
def TrW (w : World) (h : Hs) (vl : Value) (L : List Hs) (g : Nat) (r : Hs) (W : World) : Prop := Blk W w.heap.size 24 (bs h) ∧ Hss W vl L ∧ Blk W g 24 (bs r) ∧ Below w.heap.size w W
theorem TrW.keep {w W W' : World} {h : Hs} {vl : Value} {L : List Hs} {g : Nat} {r : Hs} (H : TrW w h vl L g r W) (hb : Below W.heap.size W W') : TrW w h vl L g r W' := ⟨H.1.keep hb, H.2.1.below (Nat.le_refl _) hb, H.2.2.1.keep hb, H.2.2.2.trans (hb.mono H.2.2.2.size)⟩

end Go.Proofs.YtdhfabjkpffhnaaDoor

/- ClashTrust: the walk. -/
namespace Go.Proofs.YtdhfabjkpffhnaaDoor
set_option maxRecDepth 20000
open Go.RowKit ShaMath LeafMath PathMath GrowthMath ClashMath Reg

end Go.Proofs.YtdhfabjkpffhnaaDoor

