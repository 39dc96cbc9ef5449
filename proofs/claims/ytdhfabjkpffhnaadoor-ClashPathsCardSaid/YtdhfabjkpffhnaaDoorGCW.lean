/- Joined: ClashRefPath, ClashRefGrow. -/
import Derived.Test.YtdhfabjkpffhnaaDoorGCZ
import Derived.Test.YtdhfabjkpffhnaaDoorGCA
import Derived.Test.YtdhfabjkpffhnaaDoorGCI
import Derived.Test.YtdhfabjkpffhnaaDoorSkipC
/- Layer 17's reference: Path. -/
namespace Go.Proofs.YtdhfabjkpffhnaaDoor
set_option maxRecDepth 20000
open Go.RowKit ShaMath LeafMath PathMath ClashMath Reg

/-- A result's block, and a hash in a block of the call's own. -/
def PaW (w : World) (g : Nat) (h : Hs) (W : World) : Prop := Blk W w.heap.size 51 (prC none 0 0 none 0 0) ∧ Blk W g 24 (bs h) ∧ w.heap.size + 1 ≤ g ∧ Below w.heap.size w W
theorem PaW.keep {w W W' : World} {g : Nat} {h : Hs} (H : PaW w g h W) (hb : Below W.heap.size W W') : PaW w g h W' := ⟨H.1.keep hb, H.2.1.keep hb, H.2.2.1, H.2.2.2.trans (hb.mono H.2.2.2.size)⟩

theorem txs_indexU (W : World) (ad : Addr) (n c i : Nat) (hi : i < n) : (Instr.indexAt 48 (.slice (some ad) n c) (.int .u64 (i : Int))).run Tryd.prog W = .ok (.pointer (some (ad.add i))) W := by
  have ht : Tryd.prog.underlying 48 = some (.slice (Tryd.prog.elem 48)) := by rw [elem_txs]; exact Tryd.underlying48
  rw [run_indexAt_slice (h := ht), if_pos (by omega), elem_txs, size_txt]
  simp [Result.andThen]
theorem eql_strs (t : TypeId) (s u : Operand) (X Y : ByteArray) (b : Bool) (h : (X.toList == Y.toList) = b) (W : World) : (do eqGuard .eql t s u (.string X) (.string Y); binOp .eql t (.string X) (.string Y) : Sem Value).run Tryd.prog W = .ok (.bool b) W := by
  subst h
  simp [eqGuard, binOp, go_sem, Op.stringOp]
theorem neq_hash_ne (s t : Operand) (X Y : List UInt8) (hX : X.length = 32) (hY : Y.length = 32) (h : X ≠ Y) (W : World) : (do eqGuard .neq 24 s t (.agg (bs X)) (.agg (bs Y)); binOp .neq 24 (.agg (bs X)) (.agg (bs Y)) : Sem Value).run Tryd.prog W = .ok (.bool true) W := by
  rw [neq_hash2 s t X Y hX hY W, show (X == Y) = false from beq_false_of_ne h]
  rfl

theorem climbR_is (n : Int) (h : Hs) (i m : Nat) (p : List Hs) (hi : i < m) (hl : p.length = sizeP i m) : climbR n h i m p = (climbP n i m p h, 0) := by
  rw [climbR, if_neg (by omega), if_neg (by omega), if_neg (by omega)]

def lenOf (v : Value) : Nat := match v with | .slice _ n _ => n | _ => 0

/-- Between the rounds. -/
def PathAtC (n : Int) (x : Bs) (q : Bs × Bs) (w : World) (g : Nat) (h : Hs) (s1 s2 s4 : Value) (wr : World) : Prop :=
  ∃ (T : List Bs) (i : Nat) (ps : List Hs) (v1 v4 : Value), s1 = v1 ∧ s2 = .int .u64 (i : Int) ∧ s4 = v4 ∧ Txs w v1 T ∧ Shorts T ∧ Hss w v4 ps ∧ i < T.length ∧ ps.length = sizeP i T.length ∧ pathT n T i x ps = q ∧ PaW w g h wr

set_option maxHeartbeats 4000000 in
set_option maxRecDepth 100000 in
theorem refpathC_any (n : Int) (hn : I64 n) (T : List Bs) (i : Nat) (x : Bs) (ps : List Hs) (v vx vp : Value) (w : World) (hv : Txs w v T) (hT : Shorts T) (hi : i < 18446744073709551616) (hvx : Bys w vx x) (hx : x.length ≤ 4000) (hvp : Hss w vp ps) (hk : Consts w) :
    Calls Tryd.prog 38 #[.int .i64 n, v, .int .u64 (i : Int), vx, vp] w fun e w' => ∃ u, e = .returned (.tuple #[u, .int .i64 ((pathC n T i x ps).2 : Int)]) ∧ PairB w' u (pathC n T i x ps).1 ∧ Below w.heap.size w w' := by
  obtain ⟨pv, cv, rfl, hcv⟩ := hv.form
  obtain ⟨ax, cx, rfl⟩ := hvx.form
  obtain ⟨pp, pc, rfl, hpc⟩ := hvp.form
  obtain ⟨m, hm⟩ : ∃ m, m = T.length := ⟨_, rfl⟩
  obtain ⟨lx, hlx⟩ : ∃ l, l = x.length := ⟨_, rfl⟩
  obtain ⟨p, hp⟩ : ∃ p, p = ps.length := ⟨_, rfl⟩
  rw [← hm] at hv hcv ⊢
  rw [← hlx] at hvx ⊢
  rw [← hp] at hvp hpc ⊢
  have hm80 : m ≤ 80 := by rw [hm]; exact hT.few
  obtain ⟨h, hh, hh32⟩ : ∃ h, h = leafH n x ∧ h.length = 32 := ⟨_, rfl, leafH_length _ _⟩
  obtain ⟨C, hC, hC32⟩ : ∃ C, C = (climbR n h i m ps).1 ∧ C.length = 32 := ⟨_, rfl, climbR_32 n h i m ps hh32⟩
  obtain ⟨E, hE⟩ : ∃ E, E = (climbR n h i m ps).2 := ⟨_, rfl⟩
  obtain ⟨ro, hro, hro32⟩ : ∃ r, r = rootT n T ∧ r.length = 32 := ⟨_, rfl, rootT_length _ _⟩
  have HLeaf := Lib.hid (show Calls Tryd.prog 18 #[.int .i64 n, .slice ax lx cx] (w.alloc (.cells (prC none 0 0 none 0 0) 51)) fun e w' => e = .returned (.agg (bs h)) ∧ Below (w.alloc (.cells (prC none 0 0 none 0 0) 51)).heap.size (w.alloc (.cells (prC none 0 0 none 0 0) 51)) w' from by
    rw [hh]
    exact refleaf_any n x _ _ (hvx.below (Nat.le_refl _) ((Below.refl _ _).alloc (Nat.le_refl _) _)) (by omega) hn (hk.below (Nat.le_refl _) ((Below.refl _ _).alloc (Nat.le_refl _) _)))
  have HClimb := Lib.hid (fun (W : World) (hW : Below w.heap.size w W) => refclimb_any n hn h i m ps (.slice pp p pc) W hh32 hi (by omega) (hvp.below (Nat.le_refl _) hW) (hk.below (Nat.le_refl _) hW))
  rw [← hC, ← hE] at HClimb
  have HRo := Lib.hid (fun (W : World) (hW : Below w.heap.size w W) => refrootT_any n hn T (.slice pv m cv) W (hv.below (Nat.le_refl _) hW) hT (hk.below (Nat.le_refl _) hW))
  rw [← hro] at HRo
  have HSh := Lib.hid (size_hash (cs := bs h) (by rw [bs_size, hh32]))
  have HSC := Lib.hid (size_hash (cs := bs C) (by rw [bs_size, hC32]))
  have Hh := Lib.hid hh32
  have HC32 := Lib.hid hC32
  have hdef : pathC n T i x ps = if E ≠ 0 then (([], []), E) else if C ≠ ro then (([], []), 3) else if T[i]? = some x then (([], []), 8) else (pathT n T i x ps, 0) := by
    rw [pathC, ← hh, ← hm, ← hC, ← hE, ← hro]
  rw [hdef]
  clear hdef
  by_cases h0 : E = 0
  · rw [if_neg (by simpa using h0)]
    by_cases hcr : C = ro
    · rw [if_neg (by simpa using hcr)]
      obtain ⟨hi1, hpl, _⟩ := climbR_ok (n := n) (h := h) (i := i) (m := m) (p := ps) (by rw [← hE]; exact h0)
      obtain ⟨t, ht⟩ : ∃ t, T[i]? = some t := ⟨T[i]'(by omega), List.getElem?_eq_getElem _⟩
      subst hcr
      subst h0
      rw [show ((0 : Nat) : Int) = 0 from rfl] at HClimb
      have h00 : ((0 : Int) != 0) = false := rfl
      obtain ⟨pa, at_, ct, rfl, htc, htb⟩ := hv.at_ ht
      obtain ⟨lt, hlt⟩ : ∃ l, l = t.length := ⟨_, rfl⟩
      rw [← hlt] at htc htb
      have HTt := Lib.hid (fun (W : World) (hW : Below w.heap.size w W) => (⟨by rw [hW.cell (World.block_lt_of_cell? w _ htc)]; exact htc, htb.below (Nat.le_refl _) hW⟩ : W.cell? (pa.add i) = some (.slice at_ lt ct) ∧ Bys W (.slice at_ lt ct) t))
      have HIx := Lib.hid (fun W => txs_indexU W pa m cv i hi1)
      have HX := Lib.hid hvx
      obtain ⟨X, Y, hX, hY, hXY⟩ := strs_of x t
      have HXs := Lib.hid hX
      have HYs := Lib.hid hY
      have HNq := Lib.hid (fun s t W => neq_hash s t C hC32 W)
      by_cases htx : t = x
      · rw [if_pos (by rw [ht, htx])]
        have HXY := Lib.hid (show (X.toList == Y.toList) = true by rw [hXY]; exact decide_eq_true htx.symm)
        clear hv hT hvx hvp hk hn hm hlx hp hh hh32 hC hC32 hE hro hro32 htc htb hlt hX hY hXY htx ht hpl
        go_enter Tryd.func38, Tryd.ntmps38
        go_wp2_with fail
        refine HLeaf.out.mono ?_
        rintro e W1 ⟨rfl, hb1⟩
        have HB1 := Lib.hid ((Below.refl w.heap.size w).alloc (Nat.le_refl _) (.cells (prC none 0 0 none 0 0) 51) |>.trans (hb1.mono (by simp)))
        have HPr := Lib.hid ((Blk.new w 51 (prC none 0 0 none 0 0)).keep hb1)
        clear hb1 HLeaf
        go_upto_region 3 with (refine wpList_store_row rfl 24 (.tmp 13) (.tmp 30) rfl W1.heap.size (bs h) rfl rfl 24 _ (Blk.new W1 _ _) HSh.out (by simp [bs_size, Hh.out]) (bs_one _) ?_)
        obtain ⟨g, hg⟩ : ∃ g, g = W1.heap.size := ⟨_, rfl⟩
        refine world_cut (fun W => PaW w g h W) ⟨HPr.out.keep (below_new W1 _ _ _), by rw [hg]; exact Blk.row (Blk.new W1 _ _) _, by rw [hg]; exact HPr.out.lt, HB1.out.trans ((below_new W1 _ _ _).mono HB1.out.size)⟩ ?_
        rw [← hg]
        clear hg HPr HB1
        intro W2 hW2
        have HPa := Lib.hid hW2
        clear hW2
        go_wp2_with (refine wpList_load_row rfl 24 (.tmp 13) rfl g rfl 24 (bs h) (0, 0) _ HPa.out.2.1 Tryd.underlying24 rfl HSh.out ?_)
        refine (HClimb.out _ HPa.out.2.2.2).mono ?_
        rintro e W3 ⟨rfl, hb3⟩
        have HPa3 := Lib.hid (HPa.out.keep hb3)
        clear hb3 HClimb HPa
        go_upto_region 4 with (refine wpList_store_row rfl 24 (.tmp 14) (.tmp 38) rfl W3.heap.size (bs C) rfl rfl 24 _ (Blk.new W3 _ _) HSC.out (by simp [bs_size, HC32.out]) (bs_one _) ?_)
        obtain ⟨g2, hg2⟩ : ∃ g, g = W3.heap.size := ⟨_, rfl⟩
        refine world_cut (fun W => PaW w g h W ∧ Blk W g2 24 (bs C)) ⟨HPa3.out.keep (below_new W3 _ _ _), by rw [hg2]; exact Blk.row (Blk.new W3 _ _) _⟩ ?_
        rw [← hg2]
        clear hg2 HPa3
        rintro W4 ⟨hW4, hb4⟩
        have HPa := Lib.hid hW4
        have HC4 := Lib.hid hb4
        clear hW4 hb4
        go_upto_region 6 with fail
        have hG : ∀ W W' : World, Below W4.heap.size W4 W → Below W.heap.size W W' → Below W4.heap.size W4 W' := fun W W' h h' => h.trans (h'.mono h.size)
        refine region_by [(44, .is (.agg (bs C))), (45, .is (.int .i64 n)), (46, .is (.slice (some pa) m cv)), (47, .is (.agg (bs C))), (48, .is (.bool false))] [0, 1, 2, 3, 4, 10, 11, 13, 48] (fun W => Below W4.heap.size W4 W) (by kernel_rfl) (by kernel_rfl) (by kernel_rfl) (by kernel_rfl) (by kernel_rfl) ((Below.refl _ _).drew) ?_ ?_
        · refine ⟨?c0, ?c1, ?c2, ?c3, ?c4, trivial⟩
          case c0 => exact ask_load (guard_none rfl) _ (.tmp 14) (.pointer (some ⟨g2, 0, none⟩)) (.agg (bs C)) rfl rfl (by intro k hk; cases hk; rfl) (fun W hW => (HC4.out.keep hW).loads 24 _ Tryd.underlying24 rfl HSC.out)
          case c1 => exact ask_copy (guard_none rfl) (.tmp 0) (.inl rfl) (by intro k hk; cases hk; rfl)
          case c2 => exact ask_copy (guard_none rfl) (.tmp 1) (.inl rfl) (by intro k hk; cases hk; rfl)
          case c3 => exact ask_call hG (guard_none rfl) _ _ _ #[.int .i64 n, .slice (some pa) m cv] (.is (.agg (bs C))) rfl (by kernel_rfl) rfl rfl (by intro k hk; cases hk; rfl) (fun W hW => (HRo.out W (HPa.out.2.2.2.trans (hW.mono HPa.out.2.2.2.size))).mono fun e w' h => ⟨_, h.1, rfl, h.2⟩)
          case c4 => exact ask_bin (guard_none rfl) .neq _ _ (.tmp 44) (.tmp 47) (.agg (bs C)) (.agg (bs C)) (.bool false) rfl rfl rfl (by intro k hk; cases hk; rfl) (HNq.out _ _)
        · intro a' W5 hW hd' hs' hf'
          have t0 : a'.tmps.getD 0 undef = .int .i64 n := hf' 0 rfl
          have t1 : a'.tmps.getD 1 undef = .slice (some pa) m cv := hf' 1 rfl
          have t2 : a'.tmps.getD 2 undef = .int .u64 (i : Int) := hf' 2 rfl
          have t3 : a'.tmps.getD 3 undef = .slice ax lx cx := hf' 3 rfl
          have t4 : a'.tmps.getD 4 undef = .slice pp p pc := hf' 4 rfl
          have t10 : a'.tmps.getD 10 undef = .pointer (some ⟨w.heap.size, 0, none⟩) := hf' 10 rfl
          have t11 : a'.tmps.getD 11 undef = .int .i64 0 := hf' 11 rfl
          have t13 : a'.tmps.getD 13 undef = .pointer (some ⟨g, 0, none⟩) := hf' 13 rfl
          have t48 : a'.tmps.getD 48 undef = .bool false := hf' 48 rfl
          obtain ⟨ks', hus, ha'⟩ := act_open 153 a' hs' hd'
          rw [← hus] at t0 t1 t2 t3 t4 t10 t11 t13 t48
          have el : ((List.range 153).map ks').toArray = #[.int .i64 n, .slice (some pa) m cv, .int .u64 (i : Int), .slice ax lx cx, .slice pp p pc, ks' 5, ks' 6, ks' 7, ks' 8, ks' 9, .pointer (some ⟨w.heap.size, 0, none⟩), .int .i64 0, ks' 12, .pointer (some ⟨g, 0, none⟩), ks' 14, ks' 15, ks' 16, ks' 17, ks' 18, ks' 19, ks' 20, ks' 21, ks' 22, ks' 23, ks' 24, ks' 25, ks' 26, ks' 27, ks' 28, ks' 29, ks' 30, ks' 31, ks' 32, ks' 33, ks' 34, ks' 35, ks' 36, ks' 37, ks' 38, ks' 39, ks' 40, ks' 41, ks' 42, ks' 43, ks' 44, ks' 45, ks' 46, ks' 47, .bool false, ks' 49, ks' 50, ks' 51, ks' 52, ks' 53, ks' 54, ks' 55, ks' 56, ks' 57, ks' 58, ks' 59, ks' 60, ks' 61, ks' 62, ks' 63, ks' 64, ks' 65, ks' 66, ks' 67, ks' 68, ks' 69, ks' 70, ks' 71, ks' 72, ks' 73, ks' 74, ks' 75, ks' 76, ks' 77, ks' 78, ks' 79, ks' 80, ks' 81, ks' 82, ks' 83, ks' 84, ks' 85, ks' 86, ks' 87, ks' 88, ks' 89, ks' 90, ks' 91, ks' 92, ks' 93, ks' 94, ks' 95, ks' 96, ks' 97, ks' 98, ks' 99, ks' 100, ks' 101, ks' 102, ks' 103, ks' 104, ks' 105, ks' 106, ks' 107, ks' 108, ks' 109, ks' 110, ks' 111, ks' 112, ks' 113, ks' 114, ks' 115, ks' 116, ks' 117, ks' 118, ks' 119, ks' 120, ks' 121, ks' 122, ks' 123, ks' 124, ks' 125, ks' 126, ks' 127, ks' 128, ks' 129, ks' 130, ks' 131, ks' 132, ks' 133, ks' 134, ks' 135, ks' 136, ks' 137, ks' 138, ks' 139, ks' 140, ks' 141, ks' 142, ks' 143, ks' 144, ks' 145, ks' 146, ks' 147, ks' 148, ks' 149, ks' 150, ks' 151, ks' 152] := by
            show #[ks' 0, ks' 1, ks' 2, ks' 3, ks' 4, ks' 5, ks' 6, ks' 7, ks' 8, ks' 9, ks' 10, ks' 11, ks' 12, ks' 13, ks' 14, ks' 15, ks' 16, ks' 17, ks' 18, ks' 19, ks' 20, ks' 21, ks' 22, ks' 23, ks' 24, ks' 25, ks' 26, ks' 27, ks' 28, ks' 29, ks' 30, ks' 31, ks' 32, ks' 33, ks' 34, ks' 35, ks' 36, ks' 37, ks' 38, ks' 39, ks' 40, ks' 41, ks' 42, ks' 43, ks' 44, ks' 45, ks' 46, ks' 47, ks' 48, ks' 49, ks' 50, ks' 51, ks' 52, ks' 53, ks' 54, ks' 55, ks' 56, ks' 57, ks' 58, ks' 59, ks' 60, ks' 61, ks' 62, ks' 63, ks' 64, ks' 65, ks' 66, ks' 67, ks' 68, ks' 69, ks' 70, ks' 71, ks' 72, ks' 73, ks' 74, ks' 75, ks' 76, ks' 77, ks' 78, ks' 79, ks' 80, ks' 81, ks' 82, ks' 83, ks' 84, ks' 85, ks' 86, ks' 87, ks' 88, ks' 89, ks' 90, ks' 91, ks' 92, ks' 93, ks' 94, ks' 95, ks' 96, ks' 97, ks' 98, ks' 99, ks' 100, ks' 101, ks' 102, ks' 103, ks' 104, ks' 105, ks' 106, ks' 107, ks' 108, ks' 109, ks' 110, ks' 111, ks' 112, ks' 113, ks' 114, ks' 115, ks' 116, ks' 117, ks' 118, ks' 119, ks' 120, ks' 121, ks' 122, ks' 123, ks' 124, ks' 125, ks' 126, ks' 127, ks' 128, ks' 129, ks' 130, ks' 131, ks' 132, ks' 133, ks' 134, ks' 135, ks' 136, ks' 137, ks' 138, ks' 139, ks' 140, ks' 141, ks' 142, ks' 143, ks' 144, ks' 145, ks' 146, ks' 147, ks' 148, ks' 149, ks' 150, ks' 151, ks' 152] = _
            rw [t0, t1, t2, t3, t4, t10, t11, t13, t48]
          rw [el] at ha'
          subst ha'
          clear hus t0 t1 t2 t3 t4 t10 t11 t13 t48 el hf' hs' hd'
          have HPa5 := Lib.hid (HPa.out.keep hW)
          clear hW hG HPa HC4 HRo
          go_upto_region 8 with fail
          have hG : ∀ W W' : World, Below W5.heap.size W5 W → Below W.heap.size W W' → Below W5.heap.size W5 W' := fun W W' h h' => h.trans (h'.mono h.size)
          refine region_by [(50, .is (.slice ax lx cx)), (51, .is (.string X)), (52, .is (.slice (some pa) m cv)), (53, .is (.int .u64 (i : Int))), (54, .is (.pointer (some (pa.add i)))), (55, .is (.slice at_ lt ct)), (56, .is (.string Y)), (57, .is (.bool true))] [0, 1, 2, 3, 4, 10, 11, 13, 57] (fun W => Below W5.heap.size W5 W) (by kernel_rfl) (by kernel_rfl) (by kernel_rfl) (by kernel_rfl) (by kernel_rfl) ((Below.refl _ _).drew) ?_ ?_
          · refine ⟨?c0, ?c1, ?c2, ?c3, ?c4, ?c5, ?c6, ?c7, trivial⟩
            case c0 => exact ask_copy (guard_none rfl) (.tmp 3) (.inl rfl) (by intro k hk; cases hk; rfl)
            case c1 => exact ask_conv_bys (guard_none rfl) (.tmp 50) x X HXs.out rfl (fun y W hW hk => by
              have e : y 50 = (.slice ax lx cx) := hk 50 rfl
              show Bys W (y 50) x
              rw [e]
              exact HX.out.below (Nat.le_refl _) (HPa5.out.2.2.2.trans (hW.mono HPa5.out.2.2.2.size))) (by intro k hk; cases hk; rfl)
            case c2 => exact ask_copy (guard_none rfl) (.tmp 1) (.inl rfl) (by intro k hk; cases hk; rfl)
            case c3 => exact ask_copy (guard_none rfl) (.tmp 2) (.inl rfl) (by intro k hk; cases hk; rfl)
            case c4 => exact ask_idx (guard_none rfl) _ (.tmp 52) (.tmp 53) (.slice (some pa) m cv) (.int .u64 (i : Int)) (.pointer (some (pa.add i))) rfl rfl rfl (by intro k hk; cases hk; rfl) HIx.out
            case c5 => exact ask_load (guard_none rfl) _ (.tmp 54) (.pointer (some (pa.add i))) (.slice at_ lt ct) rfl rfl (by intro k hk; cases hk; rfl) (fun W hW => load_txt W _ _ (HTt.out W (HPa5.out.2.2.2.trans (hW.mono HPa5.out.2.2.2.size))).1)
            case c6 => exact ask_conv_bys (guard_none rfl) (.tmp 55) t Y HYs.out rfl (fun y W hW hk => by
              have e : y 55 = .slice at_ lt ct := hk 55 rfl
              show Bys W (y 55) t
              rw [e]
              exact (HTt.out W (HPa5.out.2.2.2.trans (hW.mono HPa5.out.2.2.2.size))).2) (by intro k hk; cases hk; rfl)
            case c7 => exact ask_bin (guard_none rfl) .eql _ _ (.tmp 51) (.tmp 56) (.string X) (.string Y) (.bool true) rfl rfl rfl (by intro k hk; cases hk; rfl) (eql_strs _ _ _ X Y true HXY.out)
          · intro a' W6 hW hd' hs' hf'
            have t0 : a'.tmps.getD 0 undef = .int .i64 n := hf' 0 rfl
            have t1 : a'.tmps.getD 1 undef = .slice (some pa) m cv := hf' 1 rfl
            have t2 : a'.tmps.getD 2 undef = .int .u64 (i : Int) := hf' 2 rfl
            have t3 : a'.tmps.getD 3 undef = .slice ax lx cx := hf' 3 rfl
            have t4 : a'.tmps.getD 4 undef = .slice pp p pc := hf' 4 rfl
            have t10 : a'.tmps.getD 10 undef = .pointer (some ⟨w.heap.size, 0, none⟩) := hf' 10 rfl
            have t11 : a'.tmps.getD 11 undef = .int .i64 0 := hf' 11 rfl
            have t13 : a'.tmps.getD 13 undef = .pointer (some ⟨g, 0, none⟩) := hf' 13 rfl
            have t57 : a'.tmps.getD 57 undef = .bool true := hf' 57 rfl
            obtain ⟨us', hus, ha'⟩ := act_open 153 a' hs' hd'
            rw [← hus] at t0 t1 t2 t3 t4 t10 t11 t13 t57
            have el : ((List.range 153).map us').toArray = #[.int .i64 n, .slice (some pa) m cv, .int .u64 (i : Int), .slice ax lx cx, .slice pp p pc, us' 5, us' 6, us' 7, us' 8, us' 9, .pointer (some ⟨w.heap.size, 0, none⟩), .int .i64 0, us' 12, .pointer (some ⟨g, 0, none⟩), us' 14, us' 15, us' 16, us' 17, us' 18, us' 19, us' 20, us' 21, us' 22, us' 23, us' 24, us' 25, us' 26, us' 27, us' 28, us' 29, us' 30, us' 31, us' 32, us' 33, us' 34, us' 35, us' 36, us' 37, us' 38, us' 39, us' 40, us' 41, us' 42, us' 43, us' 44, us' 45, us' 46, us' 47, us' 48, us' 49, us' 50, us' 51, us' 52, us' 53, us' 54, us' 55, us' 56, .bool true, us' 58, us' 59, us' 60, us' 61, us' 62, us' 63, us' 64, us' 65, us' 66, us' 67, us' 68, us' 69, us' 70, us' 71, us' 72, us' 73, us' 74, us' 75, us' 76, us' 77, us' 78, us' 79, us' 80, us' 81, us' 82, us' 83, us' 84, us' 85, us' 86, us' 87, us' 88, us' 89, us' 90, us' 91, us' 92, us' 93, us' 94, us' 95, us' 96, us' 97, us' 98, us' 99, us' 100, us' 101, us' 102, us' 103, us' 104, us' 105, us' 106, us' 107, us' 108, us' 109, us' 110, us' 111, us' 112, us' 113, us' 114, us' 115, us' 116, us' 117, us' 118, us' 119, us' 120, us' 121, us' 122, us' 123, us' 124, us' 125, us' 126, us' 127, us' 128, us' 129, us' 130, us' 131, us' 132, us' 133, us' 134, us' 135, us' 136, us' 137, us' 138, us' 139, us' 140, us' 141, us' 142, us' 143, us' 144, us' 145, us' 146, us' 147, us' 148, us' 149, us' 150, us' 151, us' 152] := by
              show #[us' 0, us' 1, us' 2, us' 3, us' 4, us' 5, us' 6, us' 7, us' 8, us' 9, us' 10, us' 11, us' 12, us' 13, us' 14, us' 15, us' 16, us' 17, us' 18, us' 19, us' 20, us' 21, us' 22, us' 23, us' 24, us' 25, us' 26, us' 27, us' 28, us' 29, us' 30, us' 31, us' 32, us' 33, us' 34, us' 35, us' 36, us' 37, us' 38, us' 39, us' 40, us' 41, us' 42, us' 43, us' 44, us' 45, us' 46, us' 47, us' 48, us' 49, us' 50, us' 51, us' 52, us' 53, us' 54, us' 55, us' 56, us' 57, us' 58, us' 59, us' 60, us' 61, us' 62, us' 63, us' 64, us' 65, us' 66, us' 67, us' 68, us' 69, us' 70, us' 71, us' 72, us' 73, us' 74, us' 75, us' 76, us' 77, us' 78, us' 79, us' 80, us' 81, us' 82, us' 83, us' 84, us' 85, us' 86, us' 87, us' 88, us' 89, us' 90, us' 91, us' 92, us' 93, us' 94, us' 95, us' 96, us' 97, us' 98, us' 99, us' 100, us' 101, us' 102, us' 103, us' 104, us' 105, us' 106, us' 107, us' 108, us' 109, us' 110, us' 111, us' 112, us' 113, us' 114, us' 115, us' 116, us' 117, us' 118, us' 119, us' 120, us' 121, us' 122, us' 123, us' 124, us' 125, us' 126, us' 127, us' 128, us' 129, us' 130, us' 131, us' 132, us' 133, us' 134, us' 135, us' 136, us' 137, us' 138, us' 139, us' 140, us' 141, us' 142, us' 143, us' 144, us' 145, us' 146, us' 147, us' 148, us' 149, us' 150, us' 151, us' 152] = _
              rw [t0, t1, t2, t3, t4, t10, t11, t13, t57]
            rw [el] at ha'
            subst ha'
            clear hus t0 t1 t2 t3 t4 t10 t11 t13 t57 el hf' hs' hd'
            have HPa6 := Lib.hid (HPa5.out.keep hW)
            clear hW hG HPa5
            go_wp2_with (refine wpList_store_row rfl 51 (.tmp 10) (.tmp 58) rfl w.heap.size (prC none 0 0 none 0 0) rfl rfl 51 _ HPa6.out.1 (size_pair _ _ _ _ _ _) rfl (pair_one _ _ _ _ _ _) ?_)
            exact bodyPost_ret (v := .tuple #[.agg (prC none 0 0 none 0 0), .int .i64 8]) (ret_pair rfl _ _ w.heap.size _ _ _ _ _ _ _ rfl rfl (Blk.row HPa6.out.1 _)) rfl ⟨_, rfl, PairB.none _, below_setRow HPa6.out.2.2.2 _ _ (Nat.le_refl _)⟩
      · rw [if_neg (by rw [ht]; simpa using htx)]
        have HXY := Lib.hid (show (X.toList == Y.toList) = false by rw [hXY]; exact decide_eq_false fun e => htx e.symm)
        have HV := Lib.hid hv
        have HT := Lib.hid hT
        have HVP := Lib.hid hvp
        have HK := Lib.hid hk
        have HN := Lib.hid hn
        have HMm := Lib.hid hm
        have HPl := Lib.hid hpl
        have HHh := Lib.hid hh
        have Hxl := Lib.hid hx
        have HLx := Lib.hid hlx
        obtain ⟨q, hq⟩ : ∃ q, q = pathT n T i x ps := ⟨_, rfl⟩
        rw [← hq]
        have HQ := Lib.hid hq
        clear hv hT hvx hvp hk hn hm hlx hp hh hh32 hC hC32 hE hro hro32 htc htb hlt hX hY hXY htx ht hpl hq hx
        go_enter Tryd.func38, Tryd.ntmps38
        go_wp2_with fail
        refine HLeaf.out.mono ?_
        rintro e W1 ⟨rfl, hb1⟩
        have HB1 := Lib.hid ((Below.refl w.heap.size w).alloc (Nat.le_refl _) (.cells (prC none 0 0 none 0 0) 51) |>.trans (hb1.mono (by simp)))
        have HPr := Lib.hid ((Blk.new w 51 (prC none 0 0 none 0 0)).keep hb1)
        clear hb1 HLeaf
        go_upto_region 3 with (refine wpList_store_row rfl 24 (.tmp 13) (.tmp 30) rfl W1.heap.size (bs h) rfl rfl 24 _ (Blk.new W1 _ _) HSh.out (by simp [bs_size, Hh.out]) (bs_one _) ?_)
        obtain ⟨g, hg⟩ : ∃ g, g = W1.heap.size := ⟨_, rfl⟩
        refine world_cut (fun W => PaW w g h W) ⟨HPr.out.keep (below_new W1 _ _ _), by rw [hg]; exact Blk.row (Blk.new W1 _ _) _, by rw [hg]; exact HPr.out.lt, HB1.out.trans ((below_new W1 _ _ _).mono HB1.out.size)⟩ ?_
        rw [← hg]
        clear hg HPr HB1
        intro W2 hW2
        have HPa := Lib.hid hW2
        clear hW2
        go_wp2_with (refine wpList_load_row rfl 24 (.tmp 13) rfl g rfl 24 (bs h) (0, 0) _ HPa.out.2.1 Tryd.underlying24 rfl HSh.out ?_)
        refine (HClimb.out _ HPa.out.2.2.2).mono ?_
        rintro e W3 ⟨rfl, hb3⟩
        have HPa3 := Lib.hid (HPa.out.keep hb3)
        clear hb3 HClimb HPa
        go_upto_region 4 with (refine wpList_store_row rfl 24 (.tmp 14) (.tmp 38) rfl W3.heap.size (bs C) rfl rfl 24 _ (Blk.new W3 _ _) HSC.out (by simp [bs_size, HC32.out]) (bs_one _) ?_)
        obtain ⟨g2, hg2⟩ : ∃ g, g = W3.heap.size := ⟨_, rfl⟩
        refine world_cut (fun W => PaW w g h W ∧ Blk W g2 24 (bs C)) ⟨HPa3.out.keep (below_new W3 _ _ _), by rw [hg2]; exact Blk.row (Blk.new W3 _ _) _⟩ ?_
        rw [← hg2]
        clear hg2 HPa3
        rintro W4 ⟨hW4, hb4⟩
        have HPa := Lib.hid hW4
        have HC4 := Lib.hid hb4
        clear hW4 hb4
        go_upto_region 6 with fail
        have hG : ∀ W W' : World, Below W4.heap.size W4 W → Below W.heap.size W W' → Below W4.heap.size W4 W' := fun W W' h h' => h.trans (h'.mono h.size)
        refine region_by [(44, .is (.agg (bs C))), (45, .is (.int .i64 n)), (46, .is (.slice (some pa) m cv)), (47, .is (.agg (bs C))), (48, .is (.bool false))] [0, 1, 2, 3, 4, 10, 11, 13, 48] (fun W => Below W4.heap.size W4 W) (by kernel_rfl) (by kernel_rfl) (by kernel_rfl) (by kernel_rfl) (by kernel_rfl) ((Below.refl _ _).drew) ?_ ?_
        · refine ⟨?c0, ?c1, ?c2, ?c3, ?c4, trivial⟩
          case c0 => exact ask_load (guard_none rfl) _ (.tmp 14) (.pointer (some ⟨g2, 0, none⟩)) (.agg (bs C)) rfl rfl (by intro k hk; cases hk; rfl) (fun W hW => (HC4.out.keep hW).loads 24 _ Tryd.underlying24 rfl HSC.out)
          case c1 => exact ask_copy (guard_none rfl) (.tmp 0) (.inl rfl) (by intro k hk; cases hk; rfl)
          case c2 => exact ask_copy (guard_none rfl) (.tmp 1) (.inl rfl) (by intro k hk; cases hk; rfl)
          case c3 => exact ask_call hG (guard_none rfl) _ _ _ #[.int .i64 n, .slice (some pa) m cv] (.is (.agg (bs C))) rfl (by kernel_rfl) rfl rfl (by intro k hk; cases hk; rfl) (fun W hW => (HRo.out W (HPa.out.2.2.2.trans (hW.mono HPa.out.2.2.2.size))).mono fun e w' h => ⟨_, h.1, rfl, h.2⟩)
          case c4 => exact ask_bin (guard_none rfl) .neq _ _ (.tmp 44) (.tmp 47) (.agg (bs C)) (.agg (bs C)) (.bool false) rfl rfl rfl (by intro k hk; cases hk; rfl) (HNq.out _ _)
        · intro a' W5 hW hd' hs' hf'
          have t0 : a'.tmps.getD 0 undef = .int .i64 n := hf' 0 rfl
          have t1 : a'.tmps.getD 1 undef = .slice (some pa) m cv := hf' 1 rfl
          have t2 : a'.tmps.getD 2 undef = .int .u64 (i : Int) := hf' 2 rfl
          have t3 : a'.tmps.getD 3 undef = .slice ax lx cx := hf' 3 rfl
          have t4 : a'.tmps.getD 4 undef = .slice pp p pc := hf' 4 rfl
          have t10 : a'.tmps.getD 10 undef = .pointer (some ⟨w.heap.size, 0, none⟩) := hf' 10 rfl
          have t11 : a'.tmps.getD 11 undef = .int .i64 0 := hf' 11 rfl
          have t13 : a'.tmps.getD 13 undef = .pointer (some ⟨g, 0, none⟩) := hf' 13 rfl
          have t48 : a'.tmps.getD 48 undef = .bool false := hf' 48 rfl
          obtain ⟨ks', hus, ha'⟩ := act_open 153 a' hs' hd'
          rw [← hus] at t0 t1 t2 t3 t4 t10 t11 t13 t48
          have el : ((List.range 153).map ks').toArray = #[.int .i64 n, .slice (some pa) m cv, .int .u64 (i : Int), .slice ax lx cx, .slice pp p pc, ks' 5, ks' 6, ks' 7, ks' 8, ks' 9, .pointer (some ⟨w.heap.size, 0, none⟩), .int .i64 0, ks' 12, .pointer (some ⟨g, 0, none⟩), ks' 14, ks' 15, ks' 16, ks' 17, ks' 18, ks' 19, ks' 20, ks' 21, ks' 22, ks' 23, ks' 24, ks' 25, ks' 26, ks' 27, ks' 28, ks' 29, ks' 30, ks' 31, ks' 32, ks' 33, ks' 34, ks' 35, ks' 36, ks' 37, ks' 38, ks' 39, ks' 40, ks' 41, ks' 42, ks' 43, ks' 44, ks' 45, ks' 46, ks' 47, .bool false, ks' 49, ks' 50, ks' 51, ks' 52, ks' 53, ks' 54, ks' 55, ks' 56, ks' 57, ks' 58, ks' 59, ks' 60, ks' 61, ks' 62, ks' 63, ks' 64, ks' 65, ks' 66, ks' 67, ks' 68, ks' 69, ks' 70, ks' 71, ks' 72, ks' 73, ks' 74, ks' 75, ks' 76, ks' 77, ks' 78, ks' 79, ks' 80, ks' 81, ks' 82, ks' 83, ks' 84, ks' 85, ks' 86, ks' 87, ks' 88, ks' 89, ks' 90, ks' 91, ks' 92, ks' 93, ks' 94, ks' 95, ks' 96, ks' 97, ks' 98, ks' 99, ks' 100, ks' 101, ks' 102, ks' 103, ks' 104, ks' 105, ks' 106, ks' 107, ks' 108, ks' 109, ks' 110, ks' 111, ks' 112, ks' 113, ks' 114, ks' 115, ks' 116, ks' 117, ks' 118, ks' 119, ks' 120, ks' 121, ks' 122, ks' 123, ks' 124, ks' 125, ks' 126, ks' 127, ks' 128, ks' 129, ks' 130, ks' 131, ks' 132, ks' 133, ks' 134, ks' 135, ks' 136, ks' 137, ks' 138, ks' 139, ks' 140, ks' 141, ks' 142, ks' 143, ks' 144, ks' 145, ks' 146, ks' 147, ks' 148, ks' 149, ks' 150, ks' 151, ks' 152] := by
            show #[ks' 0, ks' 1, ks' 2, ks' 3, ks' 4, ks' 5, ks' 6, ks' 7, ks' 8, ks' 9, ks' 10, ks' 11, ks' 12, ks' 13, ks' 14, ks' 15, ks' 16, ks' 17, ks' 18, ks' 19, ks' 20, ks' 21, ks' 22, ks' 23, ks' 24, ks' 25, ks' 26, ks' 27, ks' 28, ks' 29, ks' 30, ks' 31, ks' 32, ks' 33, ks' 34, ks' 35, ks' 36, ks' 37, ks' 38, ks' 39, ks' 40, ks' 41, ks' 42, ks' 43, ks' 44, ks' 45, ks' 46, ks' 47, ks' 48, ks' 49, ks' 50, ks' 51, ks' 52, ks' 53, ks' 54, ks' 55, ks' 56, ks' 57, ks' 58, ks' 59, ks' 60, ks' 61, ks' 62, ks' 63, ks' 64, ks' 65, ks' 66, ks' 67, ks' 68, ks' 69, ks' 70, ks' 71, ks' 72, ks' 73, ks' 74, ks' 75, ks' 76, ks' 77, ks' 78, ks' 79, ks' 80, ks' 81, ks' 82, ks' 83, ks' 84, ks' 85, ks' 86, ks' 87, ks' 88, ks' 89, ks' 90, ks' 91, ks' 92, ks' 93, ks' 94, ks' 95, ks' 96, ks' 97, ks' 98, ks' 99, ks' 100, ks' 101, ks' 102, ks' 103, ks' 104, ks' 105, ks' 106, ks' 107, ks' 108, ks' 109, ks' 110, ks' 111, ks' 112, ks' 113, ks' 114, ks' 115, ks' 116, ks' 117, ks' 118, ks' 119, ks' 120, ks' 121, ks' 122, ks' 123, ks' 124, ks' 125, ks' 126, ks' 127, ks' 128, ks' 129, ks' 130, ks' 131, ks' 132, ks' 133, ks' 134, ks' 135, ks' 136, ks' 137, ks' 138, ks' 139, ks' 140, ks' 141, ks' 142, ks' 143, ks' 144, ks' 145, ks' 146, ks' 147, ks' 148, ks' 149, ks' 150, ks' 151, ks' 152] = _
            rw [t0, t1, t2, t3, t4, t10, t11, t13, t48]
          rw [el] at ha'
          subst ha'
          clear hus t0 t1 t2 t3 t4 t10 t11 t13 t48 el hf' hs' hd'
          have HPa5 := Lib.hid (HPa.out.keep hW)
          clear hW hG HPa HC4 HRo
          go_upto_region 8 with fail
          have hG : ∀ W W' : World, Below W5.heap.size W5 W → Below W.heap.size W W' → Below W5.heap.size W5 W' := fun W W' h h' => h.trans (h'.mono h.size)
          refine region_by [(50, .is (.slice ax lx cx)), (51, .is (.string X)), (52, .is (.slice (some pa) m cv)), (53, .is (.int .u64 (i : Int))), (54, .is (.pointer (some (pa.add i)))), (55, .is (.slice at_ lt ct)), (56, .is (.string Y)), (57, .is (.bool false))] [0, 1, 2, 3, 4, 10, 11, 13, 57] (fun W => Below W5.heap.size W5 W) (by kernel_rfl) (by kernel_rfl) (by kernel_rfl) (by kernel_rfl) (by kernel_rfl) ((Below.refl _ _).drew) ?_ ?_
          · refine ⟨?c0, ?c1, ?c2, ?c3, ?c4, ?c5, ?c6, ?c7, trivial⟩
            case c0 => exact ask_copy (guard_none rfl) (.tmp 3) (.inl rfl) (by intro k hk; cases hk; rfl)
            case c1 => exact ask_conv_bys (guard_none rfl) (.tmp 50) x X HXs.out rfl (fun y W hW hk => by
              have e : y 50 = (.slice ax lx cx) := hk 50 rfl
              show Bys W (y 50) x
              rw [e]
              exact HX.out.below (Nat.le_refl _) (HPa5.out.2.2.2.trans (hW.mono HPa5.out.2.2.2.size))) (by intro k hk; cases hk; rfl)
            case c2 => exact ask_copy (guard_none rfl) (.tmp 1) (.inl rfl) (by intro k hk; cases hk; rfl)
            case c3 => exact ask_copy (guard_none rfl) (.tmp 2) (.inl rfl) (by intro k hk; cases hk; rfl)
            case c4 => exact ask_idx (guard_none rfl) _ (.tmp 52) (.tmp 53) (.slice (some pa) m cv) (.int .u64 (i : Int)) (.pointer (some (pa.add i))) rfl rfl rfl (by intro k hk; cases hk; rfl) HIx.out
            case c5 => exact ask_load (guard_none rfl) _ (.tmp 54) (.pointer (some (pa.add i))) (.slice at_ lt ct) rfl rfl (by intro k hk; cases hk; rfl) (fun W hW => load_txt W _ _ (HTt.out W (HPa5.out.2.2.2.trans (hW.mono HPa5.out.2.2.2.size))).1)
            case c6 => exact ask_conv_bys (guard_none rfl) (.tmp 55) t Y HYs.out rfl (fun y W hW hk => by
              have e : y 55 = .slice at_ lt ct := hk 55 rfl
              show Bys W (y 55) t
              rw [e]
              exact (HTt.out W (HPa5.out.2.2.2.trans (hW.mono HPa5.out.2.2.2.size))).2) (by intro k hk; cases hk; rfl)
            case c7 => exact ask_bin (guard_none rfl) .eql _ _ (.tmp 51) (.tmp 56) (.string X) (.string Y) (.bool false) rfl rfl rfl (by intro k hk; cases hk; rfl) (eql_strs _ _ _ X Y false HXY.out)
          · intro a' W6 hW hd' hs' hf'
            have t0 : a'.tmps.getD 0 undef = .int .i64 n := hf' 0 rfl
            have t1 : a'.tmps.getD 1 undef = .slice (some pa) m cv := hf' 1 rfl
            have t2 : a'.tmps.getD 2 undef = .int .u64 (i : Int) := hf' 2 rfl
            have t3 : a'.tmps.getD 3 undef = .slice ax lx cx := hf' 3 rfl
            have t4 : a'.tmps.getD 4 undef = .slice pp p pc := hf' 4 rfl
            have t10 : a'.tmps.getD 10 undef = .pointer (some ⟨w.heap.size, 0, none⟩) := hf' 10 rfl
            have t11 : a'.tmps.getD 11 undef = .int .i64 0 := hf' 11 rfl
            have t13 : a'.tmps.getD 13 undef = .pointer (some ⟨g, 0, none⟩) := hf' 13 rfl
            have t57 : a'.tmps.getD 57 undef = .bool false := hf' 57 rfl
            obtain ⟨us', hus, ha'⟩ := act_open 153 a' hs' hd'
            rw [← hus] at t0 t1 t2 t3 t4 t10 t11 t13 t57
            have el : ((List.range 153).map us').toArray = #[.int .i64 n, .slice (some pa) m cv, .int .u64 (i : Int), .slice ax lx cx, .slice pp p pc, us' 5, us' 6, us' 7, us' 8, us' 9, .pointer (some ⟨w.heap.size, 0, none⟩), .int .i64 0, us' 12, .pointer (some ⟨g, 0, none⟩), us' 14, us' 15, us' 16, us' 17, us' 18, us' 19, us' 20, us' 21, us' 22, us' 23, us' 24, us' 25, us' 26, us' 27, us' 28, us' 29, us' 30, us' 31, us' 32, us' 33, us' 34, us' 35, us' 36, us' 37, us' 38, us' 39, us' 40, us' 41, us' 42, us' 43, us' 44, us' 45, us' 46, us' 47, us' 48, us' 49, us' 50, us' 51, us' 52, us' 53, us' 54, us' 55, us' 56, .bool false, us' 58, us' 59, us' 60, us' 61, us' 62, us' 63, us' 64, us' 65, us' 66, us' 67, us' 68, us' 69, us' 70, us' 71, us' 72, us' 73, us' 74, us' 75, us' 76, us' 77, us' 78, us' 79, us' 80, us' 81, us' 82, us' 83, us' 84, us' 85, us' 86, us' 87, us' 88, us' 89, us' 90, us' 91, us' 92, us' 93, us' 94, us' 95, us' 96, us' 97, us' 98, us' 99, us' 100, us' 101, us' 102, us' 103, us' 104, us' 105, us' 106, us' 107, us' 108, us' 109, us' 110, us' 111, us' 112, us' 113, us' 114, us' 115, us' 116, us' 117, us' 118, us' 119, us' 120, us' 121, us' 122, us' 123, us' 124, us' 125, us' 126, us' 127, us' 128, us' 129, us' 130, us' 131, us' 132, us' 133, us' 134, us' 135, us' 136, us' 137, us' 138, us' 139, us' 140, us' 141, us' 142, us' 143, us' 144, us' 145, us' 146, us' 147, us' 148, us' 149, us' 150, us' 151, us' 152] := by
              show #[us' 0, us' 1, us' 2, us' 3, us' 4, us' 5, us' 6, us' 7, us' 8, us' 9, us' 10, us' 11, us' 12, us' 13, us' 14, us' 15, us' 16, us' 17, us' 18, us' 19, us' 20, us' 21, us' 22, us' 23, us' 24, us' 25, us' 26, us' 27, us' 28, us' 29, us' 30, us' 31, us' 32, us' 33, us' 34, us' 35, us' 36, us' 37, us' 38, us' 39, us' 40, us' 41, us' 42, us' 43, us' 44, us' 45, us' 46, us' 47, us' 48, us' 49, us' 50, us' 51, us' 52, us' 53, us' 54, us' 55, us' 56, us' 57, us' 58, us' 59, us' 60, us' 61, us' 62, us' 63, us' 64, us' 65, us' 66, us' 67, us' 68, us' 69, us' 70, us' 71, us' 72, us' 73, us' 74, us' 75, us' 76, us' 77, us' 78, us' 79, us' 80, us' 81, us' 82, us' 83, us' 84, us' 85, us' 86, us' 87, us' 88, us' 89, us' 90, us' 91, us' 92, us' 93, us' 94, us' 95, us' 96, us' 97, us' 98, us' 99, us' 100, us' 101, us' 102, us' 103, us' 104, us' 105, us' 106, us' 107, us' 108, us' 109, us' 110, us' 111, us' 112, us' 113, us' 114, us' 115, us' 116, us' 117, us' 118, us' 119, us' 120, us' 121, us' 122, us' 123, us' 124, us' 125, us' 126, us' 127, us' 128, us' 129, us' 130, us' 131, us' 132, us' 133, us' 134, us' 135, us' 136, us' 137, us' 138, us' 139, us' 140, us' 141, us' 142, us' 143, us' 144, us' 145, us' 146, us' 147, us' 148, us' 149, us' 150, us' 151, us' 152] = _
              rw [t0, t1, t2, t3, t4, t10, t11, t13, t57]
            rw [el] at ha'
            subst ha'
            clear hus t0 t1 t2 t3 t4 t10 t11 t13 t57 el hf' hs' hd'
            have HPa6 := Lib.hid (HPa5.out.keep hW)
            clear hW hG HPa5
            have hstart : PathAtC n x q w g h (.slice (some pa) m cv) (.int .u64 (i : Int)) (.slice pp p pc) W6 := ⟨T, i, ps, _, _, rfl, rfl, rfl, HV.out, HT.out, HVP.out, by rw [← HMm.out]; exact hi1, by rw [← HMm.out]; exact HPl.out, HQ.out.symm, HPa6.out⟩
            have HS := Lib.hid hstart
            clear hstart HPa6
            go_wp2
            go_loopw [1, 2, 4] (fun s1 s2 s4 wr => PathAtC n x q w g h s1 s2 s4 wr) (fun s1 _ _ _ => lenOf s1)
            case atStart => exact HS.out
            case round =>
              obtain ⟨T1, i1, ps1, v1, v4, rfl, rfl, rfl, hv1, hT1, hvz, hi1', hpl1, hq1, hpa⟩ := hrel
              obtain ⟨a1, c1, rfl, hc1⟩ := hv1.form
              obtain ⟨pq, pc1, rfl, hpc1⟩ := hvz.form
              obtain ⟨m1, hm1⟩ : ∃ m, m = T1.length := ⟨_, rfl⟩
              obtain ⟨p1, hp1⟩ : ∃ p, p = ps1.length := ⟨_, rfl⟩
              rw [← hm1] at hv1 hc1 hi1' hpl1
              rw [← hp1] at hvz hpc1 hpl1
              simp only [← hm1, ← hp1]
              have hm180 : m1 ≤ 80 := by rw [hm1]; exact hT1.few
              have HPa := Lib.hid hpa
              clear hpa HS
              by_cases h2 : 2 ≤ m1
              · have hgt : (m1 : Int) > 1 := by omega
                have hk1 := splitN_lt h2
                have hk0 := splitN_pos m1
                obtain ⟨k, hkk⟩ : ∃ k, k = splitN m1 := ⟨_, rfl⟩
                have HSplit := Lib.hid (fun W => refsplit_any m1 W (by omega) (by omega))
                rw [← hkk] at HSplit hk1 hk0
                have hp64 : p1 ≤ 64 := by rw [hpl1]; exact sizeP_64 i1 m1 (by omega)
                have hpos : 0 < p1 := by
                  by_cases hik : i1 < splitN m1
                  · rw [hpl1, sizeP_left h2 hik]; omega
                  · rw [hpl1, sizeP_right h2 hik hi1']; omega
                obtain ⟨z, hz⟩ : ∃ z : Nat, (p1 : Int) - 1 = (z : Int) := ⟨p1 - 1, by omega⟩
                obtain ⟨y, hy⟩ : ∃ y, ps1[z]? = some y := ⟨ps1[z]'(by omega), List.getElem?_eq_getElem _⟩
                have hlast : ps1.getLastD [] = y := by
                  obtain ⟨r, e, rfl⟩ : ∃ r e, ps1 = r ++ [e] := by
                    have hne : ps1 ≠ [] := fun e => by rw [e] at hp1; simp at hp1; omega
                    exact ⟨ps1.dropLast, ps1.getLast hne, (List.dropLast_concat_getLast hne).symm⟩
                  have hzq : z = r.length := by simp at hp1; omega
                  rw [hzq] at hy
                  simp at hy
                  simp [hy]
                have hdl : ps1.dropLast = ps1.take z := by rw [List.dropLast_eq_take, ← hp1]; congr 1; omega
                obtain ⟨pad, rfl, _⟩ := hvz.load hy
                have hy32 := hvz.all.get hy
                have hvz2 : Hss w (.slice (some pad) z pc1) ps1.dropLast := by
                  have := hvz.sub 0 z (by omega) (by omega)
                  rw [sliced_zero2] at this
                  rw [hdl]
                  simpa using this
                have HLd := Lib.hid (fun (W : World) (hW : Below w.heap.size w W) => load_hash W (pad.add (z * 32)) y hy32 fun j u hj => by
                  obtain ⟨ad2, e, h⟩ := (hvz.below (Nat.le_refl _) hW).load hy
                  cases e
                  exact h j u hj)
                have HIy := Lib.hid (fun W => hss_index W pad p1 pc1 z (by omega))
                have HSl := Lib.hid (fun (W : World) => show (Instr.sliceAt 30 (.slice (some pad) p1 pc1) none (some (.int .i64 (z : Int))) none).run Tryd.prog W = .ok (.slice (some pad) z pc1) W by
                  have h := slice_hs_to (some pad) p1 pc1 z (by omega) W
                  rwa [sliced_zero2] at h)
                have HHash := Lib.hid (refhashed_any n HN.out T1 (.slice a1 m1 c1) wr (hv1.below (Nat.le_refl _) HPa.out.2.2.2) hT1 (by omega) (HK.out.below (Nat.le_refl _) HPa.out.2.2.2))
                obtain ⟨rq, hrq⟩ : ∃ r, r = hashedT n T1 := ⟨_, rfl⟩
                rw [← hrq] at HHash
                have HV1 := Lib.hid hv1
                have HT1 := Lib.hid hT1
                have HVz := Lib.hid hvz2
                have Hy32 := Lib.hid hy32
                have hdll : ps1.dropLast.length = p1 - 1 := by rw [List.length_dropLast, ← hp1]
                by_cases hik : i1 < k
                · have hs := sizeP_left h2 (i := i1) (by rw [← hkk]; exact hik)
                  rw [← hkk, ← hpl1] at hs
                  obtain ⟨U, hU, hU32⟩ : ∃ U, U = climbP n i1 k ps1.dropLast h ∧ U.length = 32 := ⟨_, rfl, climbP_length n i1 k _ h Hh.out⟩
                  have HCl := Lib.hid (fun (W : World) (hW : Below w.heap.size w W) => refclimb_any n HN.out h i1 k ps1.dropLast (.slice (some pad) z pc1) W Hh.out (by omega) (by omega) (hvz2.below (Nat.le_refl _) hW) (HK.out.below (Nat.le_refl _) hW))
                  rw [climbR_is n h i1 k _ hik (by omega), ← hU] at HCl
                  obtain ⟨tq, htq⟩ : ∃ t, t = nodeT U y := ⟨_, rfl⟩
                  have HNt := Lib.hid (fun (W : World) => refnodetext_any U y W hU32 hy32)
                  rw [show (1 :: (U ++ y) : List UInt8) = tq from htq.symm] at HNt
                  have HAns := Lib.hid (show (tq ≠ rq → q = (rq, tq)) ∧ (tq = rq → pathT n (T1.take k) i1 x ps1.dropLast = q) by
                    have e := pathT_left n T1 i1 x ps1 (by omega) (by rw [← hm1, ← hkk]; exact hik)
                    rw [← hm1, ← hkk, ← HHh.out, hlast, ← hU, ← htq, ← hrq, hq1] at e
                    exact ⟨fun hne => by rw [e, if_pos hne], fun he => by rw [e, if_neg (by simpa using he)]⟩)
                  have HSU := Lib.hid (size_hash (cs := bs U) (by rw [bs_size, hU32]))
                  have HU32 := Lib.hid hU32
                  have HSt := Lib.hid (fun W => slice_txs_to a1 m1 c1 k (by omega) W)
                  have hkl : (T1.take k).length = k := by rw [List.length_take]; omega
                  have HLk := Lib.hid (show i1 < (T1.take k).length by omega)
                  have HSk := Lib.hid (show ps1.dropLast.length = sizeP i1 (T1.take k).length by rw [hkl]; omega)
                  have hik2 : (i1 : Int) < (k : Int) := by omega
                  clear hv1 hT1 hvz hvz2 hy hy32 hlast hdl hdll hm1 hp1 hpl1 hq1 hkk hs hU hU32 htq hrq hkl
                  go_wp2_with fail
                  refine (HSplit.out _).mono ?_
                  rintro e w2 ⟨rfl, rfl⟩
                  clear HSplit
                  go_wp2_with fail
                  refine HHash.out.mono ?_
                  rintro e W1 ⟨u18, rfl, hr1, hb1⟩
                  have HPb := Lib.hid (HPa.out.keep hb1)
                  obtain ⟨ar, cr, rfl⟩ := slice_of_row hr1
                  have HRl := Lib.hid hr1.bys
                  clear hr1 hb1 HPa HHash
                  go_upto_region 15 with fail
                  have hG : ∀ W W' : World, Below W1.heap.size W1 W → Below W.heap.size W W' → Below W1.heap.size W1 W' := fun W W' h h' => h.trans (h'.mono h.size)
                  refine region_fill_by 13 _ (fun b => [(19, (if b then varF W1.heap.size 24 (bs U) else varF W1.heap.size 24 (bs (List.replicate 32 0)))), (76, .is (.int .i64 n)), (77, .is (.agg (bs h))), (78, .is (.int .u64 (i1 : Int))), (79, .is (.int .i64 (k : Int))), (80, .is (.int .u64 (k : Int))), (81, .is (.slice (some pad) p1 pc1)), (82, .is (.int .i64 (z : Int))), (83, .is (.slice (some pad) z pc1)), (84, .is (.tuple #[.agg (bs U), .int .i64 0])), (75, .is (.tuple #[.agg (bs U), .int .i64 0])), (85, .is (.agg (bs U))), (86, .is (.int .i64 0)), (20, .is (.int .i64 0))]) [0, 1, 2, 3, 4, 5, 6, 7, 8, 9, 10, 12, 13, 14, 15, 16, 17, 18, 25, 26, 27, 28, 29, 30, 31, 32, 33, 34, 35, 36, 37, 38, 39, 40, 41, 42, 43, 44, 45, 46, 47, 48, 49, 50, 51, 52, 53, 54, 55, 56, 57, 58, 146, 147, 148, 149, 150, 151, 152, 19] (fun W => Below W1.heap.size W1 W) (by kernel_rfl) (by kernel_rfl) (by kernel_rfl) (by kernel_rfl) (by kernel_rfl) ((Below.refl _ _).drew) rfl rfl ?_ ?_ ?_
                  · refine ⟨?c0, ?c1, ?c2, ?c3, ?c4, ?c5, ?c6, ?c7, ?c8, ?c9, ?c10, ?c11, ?c12, ?c13, ?c14, trivial⟩
                    case c0 => exact .inr (.inl fun b => ask_copy (guard_none rfl) (.tmp 0) (.inl rfl) (by intro k hk; cases hk; rfl))
                    case c1 => exact .inr (.inl fun b => ask_load (guard_none rfl) _ (.tmp 13) (.pointer (some ⟨g, 0, none⟩)) (.agg (bs h)) rfl rfl (by intro k hk; cases hk; rfl) (fun W hW => (HPb.out.keep hW).2.1.loads 24 _ Tryd.underlying24 rfl HSh.out))
                    case c2 => exact .inr (.inl fun b => ask_copy (guard_none rfl) (.tmp 2) (.inl rfl) (by intro k hk; cases hk; rfl))
                    case c3 => exact .inr (.inl fun b => ask_copy (guard_none rfl) (.tmp 16) (.inl rfl) (by intro k hk; cases hk; rfl))
                    case c4 => exact .inr (.inl fun b => ask_conv_iu (guard_none rfl) (.tmp 79) k (by omega) rfl rfl (by intro k hk; cases hk; rfl))
                    case c5 => exact .inr (.inl fun b => ask_copy (guard_none rfl) (.tmp 4) (.inl rfl) (by intro k hk; cases hk; rfl))
                    case c6 => exact .inr (.inl fun b => ask_copy (guard_none rfl) (.tmp 17) (.inl rfl) (by intro k hk; cases hk; rfl))
                    case c7 => exact .inr (.inl fun b => ask_slice (guard_none rfl) _ (.tmp 81) none (some (.tmp 82)) none (.slice (some pad) p1 pc1) (.slice (some pad) z pc1) none (some (.int .i64 (z : Int))) none rfl rfl rfl rfl rfl (by intro k hk; cases hk; rfl) HSl.out)
                    case c8 => exact .inr (.inl fun b => ask_call hG (guard_none rfl) _ _ _ #[.int .i64 n, .agg (bs h), .int .u64 (i1 : Int), .int .u64 (k : Int), .slice (some pad) z pc1] (.is (.tuple #[.agg (bs U), .int .i64 0])) rfl (by kernel_rfl) rfl rfl (by intro k hk; cases hk; rfl) (fun W hW => (HCl.out W (HPb.out.2.2.2.trans (hW.mono HPb.out.2.2.2.size))).mono fun e w' h => ⟨_, h.1, rfl, h.2⟩))
                    case c9 => exact .inr (.inl fun b => ask_copy (guard_none rfl) (.tmp 84) (.inl rfl) (by intro k hk; cases hk; rfl))
                    case c10 => exact .inr (.inl fun b => ask_exec (guard_none rfl) (.agg (bs U)) rfl rfl (by intro k hk; cases hk; rfl) (fun W hW => rfl))
                    case c11 => exact .inr (.inl fun b => ask_exec (guard_none rfl) (.int .i64 0) rfl rfl (by intro k hk; cases hk; rfl) (fun W hW => rfl))
                    case c12 => exact .inr (.inr ⟨by kernel_rfl, ask_alloc hG (guard_none rfl) _ (.agg (bs (List.replicate 32 0))) (varF W1.heap.size 24 (bs (List.replicate 32 0))) rfl (fun W => by kernel_rfl) (by intro k hk; cases hk; rfl) (fun W hW => ⟨_, rfl, hW.size, Blk.new W _ _⟩)⟩)
                    case c13 => exact .inl rfl
                    case c14 => exact .inr (.inl fun b => ask_copy (guard_none rfl) (.tmp 86) (.inr rfl) (by intro k hk; cases hk; rfl))
                  · intro x W hW hk
                    obtain ⟨g, e1, e2, e3⟩ : ∃ g, x 19 = .pointer (some ⟨g, 0, none⟩) ∧ W1.heap.size ≤ g ∧ Blk W g 24 (bs (List.replicate 32 0)) := hk 19 rfl
                    have e4 : x 85 = (.agg (bs U)) := hk 85 rfl
                    refine ⟨guard_ok (guard_none rfl) hk, gives_store 24 (.tmp 19) (.tmp 85) rfl (.pointer (some ⟨g, 0, none⟩)) _ e1 e4 (e3.stores 24 _ HSU.out (by simp [bs_size, HU32.out]) (bs_one _)) ⟨below_setRow hW g _ e2, fun k _ hu => ?_⟩⟩
                    by_cases h19 : k = 19
                    · subst h19
                      exact ⟨g, e1, e2, e3.row _⟩
                    · simp only [factsOf_ne h19] at hu ⊢
                      refine facts_keep (fun q hq u hu => ?_) k _ hu
                      simp only [List.mem_cons, List.not_mem_nil, or_false] at hq
                      rcases hq with rfl | rfl | rfl | rfl | rfl | rfl | rfl | rfl | rfl | rfl | rfl | rfl | rfl
                      all_goals exact hu
                  · intro a' W2 hW hd' hs' hf'
                    obtain ⟨gu, eu, -, hbu⟩ : ∃ g, a'.tmps.getD 19 undef = .pointer (some ⟨g, 0, none⟩) ∧ W1.heap.size ≤ g ∧ Blk W2 g 24 (bs U) := hf' 19 rfl
                    have t0 : a'.tmps.getD 0 undef = .int .i64 n := hf' 0 rfl
                    have t3 : a'.tmps.getD 3 undef = .slice ax lx cx := hf' 3 rfl
                    have t5 : a'.tmps.getD 5 undef = us' 5 := hf' 5 rfl
                    have t6 : a'.tmps.getD 6 undef = us' 6 := hf' 6 rfl
                    have t7 : a'.tmps.getD 7 undef = us' 7 := hf' 7 rfl
                    have t8 : a'.tmps.getD 8 undef = us' 8 := hf' 8 rfl
                    have t9 : a'.tmps.getD 9 undef = us' 9 := hf' 9 rfl
                    have t10 : a'.tmps.getD 10 undef = .pointer (some ⟨w.heap.size, 0, none⟩) := hf' 10 rfl
                    have t12 : a'.tmps.getD 12 undef = us' 12 := hf' 12 rfl
                    have t13 : a'.tmps.getD 13 undef = .pointer (some ⟨g, 0, none⟩) := hf' 13 rfl
                    have t14 : a'.tmps.getD 14 undef = us' 14 := hf' 14 rfl
                    have t15 : a'.tmps.getD 15 undef = us' 15 := hf' 15 rfl
                    have t25 : a'.tmps.getD 25 undef = us' 25 := hf' 25 rfl
                    have t26 : a'.tmps.getD 26 undef = us' 26 := hf' 26 rfl
                    have t27 : a'.tmps.getD 27 undef = us' 27 := hf' 27 rfl
                    have t28 : a'.tmps.getD 28 undef = us' 28 := hf' 28 rfl
                    have t29 : a'.tmps.getD 29 undef = us' 29 := hf' 29 rfl
                    have t30 : a'.tmps.getD 30 undef = us' 30 := hf' 30 rfl
                    have t31 : a'.tmps.getD 31 undef = us' 31 := hf' 31 rfl
                    have t32 : a'.tmps.getD 32 undef = us' 32 := hf' 32 rfl
                    have t33 : a'.tmps.getD 33 undef = us' 33 := hf' 33 rfl
                    have t34 : a'.tmps.getD 34 undef = us' 34 := hf' 34 rfl
                    have t35 : a'.tmps.getD 35 undef = us' 35 := hf' 35 rfl
                    have t36 : a'.tmps.getD 36 undef = us' 36 := hf' 36 rfl
                    have t37 : a'.tmps.getD 37 undef = us' 37 := hf' 37 rfl
                    have t38 : a'.tmps.getD 38 undef = us' 38 := hf' 38 rfl
                    have t39 : a'.tmps.getD 39 undef = us' 39 := hf' 39 rfl
                    have t40 : a'.tmps.getD 40 undef = us' 40 := hf' 40 rfl
                    have t41 : a'.tmps.getD 41 undef = us' 41 := hf' 41 rfl
                    have t42 : a'.tmps.getD 42 undef = us' 42 := hf' 42 rfl
                    have t43 : a'.tmps.getD 43 undef = us' 43 := hf' 43 rfl
                    have t44 : a'.tmps.getD 44 undef = us' 44 := hf' 44 rfl
                    have t45 : a'.tmps.getD 45 undef = us' 45 := hf' 45 rfl
                    have t46 : a'.tmps.getD 46 undef = us' 46 := hf' 46 rfl
                    have t47 : a'.tmps.getD 47 undef = us' 47 := hf' 47 rfl
                    have t48 : a'.tmps.getD 48 undef = us' 48 := hf' 48 rfl
                    have t49 : a'.tmps.getD 49 undef = us' 49 := hf' 49 rfl
                    have t50 : a'.tmps.getD 50 undef = us' 50 := hf' 50 rfl
                    have t51 : a'.tmps.getD 51 undef = us' 51 := hf' 51 rfl
                    have t52 : a'.tmps.getD 52 undef = us' 52 := hf' 52 rfl
                    have t53 : a'.tmps.getD 53 undef = us' 53 := hf' 53 rfl
                    have t54 : a'.tmps.getD 54 undef = us' 54 := hf' 54 rfl
                    have t55 : a'.tmps.getD 55 undef = us' 55 := hf' 55 rfl
                    have t56 : a'.tmps.getD 56 undef = us' 56 := hf' 56 rfl
                    have t57 : a'.tmps.getD 57 undef = .bool false := hf' 57 rfl
                    have t58 : a'.tmps.getD 58 undef = us' 58 := hf' 58 rfl
                    have t146 : a'.tmps.getD 146 undef = us' 146 := hf' 146 rfl
                    have t147 : a'.tmps.getD 147 undef = us' 147 := hf' 147 rfl
                    have t148 : a'.tmps.getD 148 undef = us' 148 := hf' 148 rfl
                    have t149 : a'.tmps.getD 149 undef = us' 149 := hf' 149 rfl
                    have t150 : a'.tmps.getD 150 undef = us' 150 := hf' 150 rfl
                    have t151 : a'.tmps.getD 151 undef = us' 151 := hf' 151 rfl
                    have t152 : a'.tmps.getD 152 undef = us' 152 := hf' 152 rfl
                    have t1 : a'.tmps.getD 1 undef = .slice a1 m1 c1 := hf' 1 rfl
                    have t2 : a'.tmps.getD 2 undef = .int .u64 (i1 : Int) := hf' 2 rfl
                    have t4 : a'.tmps.getD 4 undef = .slice (some pad) p1 pc1 := hf' 4 rfl
                    have t16 : a'.tmps.getD 16 undef = .int .i64 (k : Int) := hf' 16 rfl
                    have t17 : a'.tmps.getD 17 undef = .int .i64 (z : Int) := hf' 17 rfl
                    have t18 : a'.tmps.getD 18 undef = .slice ar rq.length cr := hf' 18 rfl
                    have t19 : a'.tmps.getD 19 undef = .pointer (some ⟨gu, 0, none⟩) := eu
                    obtain ⟨vs', hus, ha'⟩ := act_open 153 a' hs' hd'
                    rw [← hus] at t0 t3 t5 t6 t7 t8 t9 t10 t12 t13 t14 t15 t25 t26 t27 t28 t29 t30 t31 t32 t33 t34 t35 t36 t37 t38 t39 t40 t41 t42 t43 t44 t45 t46 t47 t48 t49 t50 t51 t52 t53 t54 t55 t56 t57 t58 t146 t147 t148 t149 t150 t151 t152 t1 t2 t4 t16 t17 t18 t19
                    have el : ((List.range 153).map vs').toArray = #[.int .i64 n, .slice a1 m1 c1, .int .u64 (i1 : Int), .slice ax lx cx, .slice (some pad) p1 pc1, us' 5, us' 6, us' 7, us' 8, us' 9, .pointer (some ⟨w.heap.size, 0, none⟩), vs' 11, us' 12, .pointer (some ⟨g, 0, none⟩), us' 14, us' 15, .int .i64 (k : Int), .int .i64 (z : Int), .slice ar rq.length cr, .pointer (some ⟨gu, 0, none⟩), vs' 20, vs' 21, vs' 22, vs' 23, vs' 24, us' 25, us' 26, us' 27, us' 28, us' 29, us' 30, us' 31, us' 32, us' 33, us' 34, us' 35, us' 36, us' 37, us' 38, us' 39, us' 40, us' 41, us' 42, us' 43, us' 44, us' 45, us' 46, us' 47, us' 48, us' 49, us' 50, us' 51, us' 52, us' 53, us' 54, us' 55, us' 56, .bool false, us' 58, vs' 59, vs' 60, vs' 61, vs' 62, vs' 63, vs' 64, vs' 65, vs' 66, vs' 67, vs' 68, vs' 69, vs' 70, vs' 71, vs' 72, vs' 73, vs' 74, vs' 75, vs' 76, vs' 77, vs' 78, vs' 79, vs' 80, vs' 81, vs' 82, vs' 83, vs' 84, vs' 85, vs' 86, vs' 87, vs' 88, vs' 89, vs' 90, vs' 91, vs' 92, vs' 93, vs' 94, vs' 95, vs' 96, vs' 97, vs' 98, vs' 99, vs' 100, vs' 101, vs' 102, vs' 103, vs' 104, vs' 105, vs' 106, vs' 107, vs' 108, vs' 109, vs' 110, vs' 111, vs' 112, vs' 113, vs' 114, vs' 115, vs' 116, vs' 117, vs' 118, vs' 119, vs' 120, vs' 121, vs' 122, vs' 123, vs' 124, vs' 125, vs' 126, vs' 127, vs' 128, vs' 129, vs' 130, vs' 131, vs' 132, vs' 133, vs' 134, vs' 135, vs' 136, vs' 137, vs' 138, vs' 139, vs' 140, vs' 141, vs' 142, vs' 143, vs' 144, vs' 145, us' 146, us' 147, us' 148, us' 149, us' 150, us' 151, us' 152] := by
                      show #[vs' 0, vs' 1, vs' 2, vs' 3, vs' 4, vs' 5, vs' 6, vs' 7, vs' 8, vs' 9, vs' 10, vs' 11, vs' 12, vs' 13, vs' 14, vs' 15, vs' 16, vs' 17, vs' 18, vs' 19, vs' 20, vs' 21, vs' 22, vs' 23, vs' 24, vs' 25, vs' 26, vs' 27, vs' 28, vs' 29, vs' 30, vs' 31, vs' 32, vs' 33, vs' 34, vs' 35, vs' 36, vs' 37, vs' 38, vs' 39, vs' 40, vs' 41, vs' 42, vs' 43, vs' 44, vs' 45, vs' 46, vs' 47, vs' 48, vs' 49, vs' 50, vs' 51, vs' 52, vs' 53, vs' 54, vs' 55, vs' 56, vs' 57, vs' 58, vs' 59, vs' 60, vs' 61, vs' 62, vs' 63, vs' 64, vs' 65, vs' 66, vs' 67, vs' 68, vs' 69, vs' 70, vs' 71, vs' 72, vs' 73, vs' 74, vs' 75, vs' 76, vs' 77, vs' 78, vs' 79, vs' 80, vs' 81, vs' 82, vs' 83, vs' 84, vs' 85, vs' 86, vs' 87, vs' 88, vs' 89, vs' 90, vs' 91, vs' 92, vs' 93, vs' 94, vs' 95, vs' 96, vs' 97, vs' 98, vs' 99, vs' 100, vs' 101, vs' 102, vs' 103, vs' 104, vs' 105, vs' 106, vs' 107, vs' 108, vs' 109, vs' 110, vs' 111, vs' 112, vs' 113, vs' 114, vs' 115, vs' 116, vs' 117, vs' 118, vs' 119, vs' 120, vs' 121, vs' 122, vs' 123, vs' 124, vs' 125, vs' 126, vs' 127, vs' 128, vs' 129, vs' 130, vs' 131, vs' 132, vs' 133, vs' 134, vs' 135, vs' 136, vs' 137, vs' 138, vs' 139, vs' 140, vs' 141, vs' 142, vs' 143, vs' 144, vs' 145, vs' 146, vs' 147, vs' 148, vs' 149, vs' 150, vs' 151, vs' 152] = _
                      rw [t0, t3, t5, t6, t7, t8, t9, t10, t12, t13, t14, t15, t25, t26, t27, t28, t29, t30, t31, t32, t33, t34, t35, t36, t37, t38, t39, t40, t41, t42, t43, t44, t45, t46, t47, t48, t49, t50, t51, t52, t53, t54, t55, t56, t57, t58, t146, t147, t148, t149, t150, t151, t152, t1, t2, t4, t16, t17, t18, t19]
                    rw [el] at ha'
                    subst ha'
                    clear eu hus t0 t3 t5 t6 t7 t8 t9 t10 t12 t13 t14 t15 t25 t26 t27 t28 t29 t30 t31 t32 t33 t34 t35 t36 t37 t38 t39 t40 t41 t42 t43 t44 t45 t46 t47 t48 t49 t50 t51 t52 t53 t54 t55 t56 t57 t58 t146 t147 t148 t149 t150 t151 t152 t1 t2 t4 t16 t17 t18 t19 el hf' hs' hd'
                    have HPc := Lib.hid (HPb.out.keep hW)
                    have HRl2 := Lib.hid (HRl.out.below (Nat.le_refl _) hW)
                    have HBu := Lib.hid hbu
                    clear hW hG HPb HRl hbu HCl
                    go_upto_region 16 with fail
                    have hG : ∀ W W' : World, Below W2.heap.size W2 W → Below W.heap.size W W' → Below W2.heap.size W2 W' := fun W W' h h' => h.trans (h'.mono h.size)
                    refine region_by [(87, .is (.agg (bs U))), (88, .is (.slice (some pad) p1 pc1)), (89, .is (.int .i64 (z : Int))), (90, .is (.pointer (some (pad.add (z * 32))))), (91, .is (.agg (bs y))), (92, .row W2.heap.size tq), (21, .row W2.heap.size tq)] [0, 1, 2, 3, 4, 5, 6, 7, 8, 9, 10, 12, 13, 14, 15, 16, 17, 18, 25, 26, 27, 28, 29, 30, 31, 32, 33, 34, 35, 36, 37, 38, 39, 40, 41, 42, 43, 44, 45, 46, 47, 48, 49, 50, 51, 52, 53, 54, 55, 56, 57, 58, 146, 147, 148, 149, 150, 151, 152, 21] (fun W => Below W2.heap.size W2 W) (by kernel_rfl) (by kernel_rfl) (by kernel_rfl) (by kernel_rfl) (by kernel_rfl) ((Below.refl _ _).drew) ?_ ?_
                    · refine ⟨?c0, ?c1, ?c2, ?c3, ?c4, ?c5, ?c6, trivial⟩
                      case c0 => exact ask_load (guard_none rfl) _ (.tmp 19) (.pointer (some ⟨gu, 0, none⟩)) (.agg (bs U)) rfl rfl (by intro k hk; cases hk; rfl) (fun W hW => (HBu.out.keep hW).loads 24 _ Tryd.underlying24 rfl HSU.out)
                      case c1 => exact ask_copy (guard_none rfl) (.tmp 4) (.inl rfl) (by intro k hk; cases hk; rfl)
                      case c2 => exact ask_copy (guard_none rfl) (.tmp 17) (.inl rfl) (by intro k hk; cases hk; rfl)
                      case c3 => exact ask_idx (guard_none rfl) _ (.tmp 88) (.tmp 89) (.slice (some pad) p1 pc1) (.int .i64 (z : Int)) (.pointer (some (pad.add (z * 32)))) rfl rfl rfl (by intro k hk; cases hk; rfl) HIy.out
                      case c4 => exact ask_load (guard_none rfl) _ (.tmp 90) (.pointer (some (pad.add (z * 32)))) (.agg (bs y)) rfl rfl (by intro k hk; cases hk; rfl) (fun W hW => HLd.out W (HPc.out.2.2.2.trans (hW.mono HPc.out.2.2.2.size)))
                      case c5 => exact ask_call hG (guard_none rfl) _ _ _ #[.agg (bs U), .agg (bs y)] (.row W2.heap.size tq) rfl (by kernel_rfl) rfl rfl (by intro k hk; cases hk; rfl) (fun W hW => (HNt.out W).mono fun e w' h => by obtain ⟨u, h1, h2, h3⟩ := h; exact ⟨u, h1, h2.lower hW.size, h3⟩)
                      case c6 => exact ask_copy (guard_none rfl) (.tmp 92) (.inr rfl) (by intro k hk; cases hk; rfl)
                    · intro a' W3 hW hd' hs' hf'
                      obtain ⟨at2, ct2, et⟩ := slice_of_row (show Row W3 W2.heap.size (a'.tmps.getD 21 undef) tq from hf' 21 rfl)
                      have hrt : Row W3 W2.heap.size (a'.tmps.getD 21 undef) tq := hf' 21 rfl
                      rw [et] at hrt
                      have t0 : a'.tmps.getD 0 undef = .int .i64 n := hf' 0 rfl
                      have t3 : a'.tmps.getD 3 undef = .slice ax lx cx := hf' 3 rfl
                      have t5 : a'.tmps.getD 5 undef = us' 5 := hf' 5 rfl
                      have t6 : a'.tmps.getD 6 undef = us' 6 := hf' 6 rfl
                      have t7 : a'.tmps.getD 7 undef = us' 7 := hf' 7 rfl
                      have t8 : a'.tmps.getD 8 undef = us' 8 := hf' 8 rfl
                      have t9 : a'.tmps.getD 9 undef = us' 9 := hf' 9 rfl
                      have t10 : a'.tmps.getD 10 undef = .pointer (some ⟨w.heap.size, 0, none⟩) := hf' 10 rfl
                      have t12 : a'.tmps.getD 12 undef = us' 12 := hf' 12 rfl
                      have t13 : a'.tmps.getD 13 undef = .pointer (some ⟨g, 0, none⟩) := hf' 13 rfl
                      have t14 : a'.tmps.getD 14 undef = us' 14 := hf' 14 rfl
                      have t15 : a'.tmps.getD 15 undef = us' 15 := hf' 15 rfl
                      have t25 : a'.tmps.getD 25 undef = us' 25 := hf' 25 rfl
                      have t26 : a'.tmps.getD 26 undef = us' 26 := hf' 26 rfl
                      have t27 : a'.tmps.getD 27 undef = us' 27 := hf' 27 rfl
                      have t28 : a'.tmps.getD 28 undef = us' 28 := hf' 28 rfl
                      have t29 : a'.tmps.getD 29 undef = us' 29 := hf' 29 rfl
                      have t30 : a'.tmps.getD 30 undef = us' 30 := hf' 30 rfl
                      have t31 : a'.tmps.getD 31 undef = us' 31 := hf' 31 rfl
                      have t32 : a'.tmps.getD 32 undef = us' 32 := hf' 32 rfl
                      have t33 : a'.tmps.getD 33 undef = us' 33 := hf' 33 rfl
                      have t34 : a'.tmps.getD 34 undef = us' 34 := hf' 34 rfl
                      have t35 : a'.tmps.getD 35 undef = us' 35 := hf' 35 rfl
                      have t36 : a'.tmps.getD 36 undef = us' 36 := hf' 36 rfl
                      have t37 : a'.tmps.getD 37 undef = us' 37 := hf' 37 rfl
                      have t38 : a'.tmps.getD 38 undef = us' 38 := hf' 38 rfl
                      have t39 : a'.tmps.getD 39 undef = us' 39 := hf' 39 rfl
                      have t40 : a'.tmps.getD 40 undef = us' 40 := hf' 40 rfl
                      have t41 : a'.tmps.getD 41 undef = us' 41 := hf' 41 rfl
                      have t42 : a'.tmps.getD 42 undef = us' 42 := hf' 42 rfl
                      have t43 : a'.tmps.getD 43 undef = us' 43 := hf' 43 rfl
                      have t44 : a'.tmps.getD 44 undef = us' 44 := hf' 44 rfl
                      have t45 : a'.tmps.getD 45 undef = us' 45 := hf' 45 rfl
                      have t46 : a'.tmps.getD 46 undef = us' 46 := hf' 46 rfl
                      have t47 : a'.tmps.getD 47 undef = us' 47 := hf' 47 rfl
                      have t48 : a'.tmps.getD 48 undef = us' 48 := hf' 48 rfl
                      have t49 : a'.tmps.getD 49 undef = us' 49 := hf' 49 rfl
                      have t50 : a'.tmps.getD 50 undef = us' 50 := hf' 50 rfl
                      have t51 : a'.tmps.getD 51 undef = us' 51 := hf' 51 rfl
                      have t52 : a'.tmps.getD 52 undef = us' 52 := hf' 52 rfl
                      have t53 : a'.tmps.getD 53 undef = us' 53 := hf' 53 rfl
                      have t54 : a'.tmps.getD 54 undef = us' 54 := hf' 54 rfl
                      have t55 : a'.tmps.getD 55 undef = us' 55 := hf' 55 rfl
                      have t56 : a'.tmps.getD 56 undef = us' 56 := hf' 56 rfl
                      have t57 : a'.tmps.getD 57 undef = .bool false := hf' 57 rfl
                      have t58 : a'.tmps.getD 58 undef = us' 58 := hf' 58 rfl
                      have t146 : a'.tmps.getD 146 undef = us' 146 := hf' 146 rfl
                      have t147 : a'.tmps.getD 147 undef = us' 147 := hf' 147 rfl
                      have t148 : a'.tmps.getD 148 undef = us' 148 := hf' 148 rfl
                      have t149 : a'.tmps.getD 149 undef = us' 149 := hf' 149 rfl
                      have t150 : a'.tmps.getD 150 undef = us' 150 := hf' 150 rfl
                      have t151 : a'.tmps.getD 151 undef = us' 151 := hf' 151 rfl
                      have t152 : a'.tmps.getD 152 undef = us' 152 := hf' 152 rfl
                      have t1 : a'.tmps.getD 1 undef = .slice a1 m1 c1 := hf' 1 rfl
                      have t2 : a'.tmps.getD 2 undef = .int .u64 (i1 : Int) := hf' 2 rfl
                      have t4 : a'.tmps.getD 4 undef = .slice (some pad) p1 pc1 := hf' 4 rfl
                      have t16 : a'.tmps.getD 16 undef = .int .i64 (k : Int) := hf' 16 rfl
                      have t17 : a'.tmps.getD 17 undef = .int .i64 (z : Int) := hf' 17 rfl
                      have t18 : a'.tmps.getD 18 undef = .slice ar rq.length cr := hf' 18 rfl
                      have t21 := et
                      obtain ⟨ws', hus, ha'⟩ := act_open 153 a' hs' hd'
                      rw [← hus] at t0 t3 t5 t6 t7 t8 t9 t10 t12 t13 t14 t15 t25 t26 t27 t28 t29 t30 t31 t32 t33 t34 t35 t36 t37 t38 t39 t40 t41 t42 t43 t44 t45 t46 t47 t48 t49 t50 t51 t52 t53 t54 t55 t56 t57 t58 t146 t147 t148 t149 t150 t151 t152 t1 t2 t4 t16 t17 t18 t21
                      have el : ((List.range 153).map ws').toArray = #[.int .i64 n, .slice a1 m1 c1, .int .u64 (i1 : Int), .slice ax lx cx, .slice (some pad) p1 pc1, us' 5, us' 6, us' 7, us' 8, us' 9, .pointer (some ⟨w.heap.size, 0, none⟩), ws' 11, us' 12, .pointer (some ⟨g, 0, none⟩), us' 14, us' 15, .int .i64 (k : Int), .int .i64 (z : Int), .slice ar rq.length cr, ws' 19, ws' 20, .slice at2 tq.length ct2, ws' 22, ws' 23, ws' 24, us' 25, us' 26, us' 27, us' 28, us' 29, us' 30, us' 31, us' 32, us' 33, us' 34, us' 35, us' 36, us' 37, us' 38, us' 39, us' 40, us' 41, us' 42, us' 43, us' 44, us' 45, us' 46, us' 47, us' 48, us' 49, us' 50, us' 51, us' 52, us' 53, us' 54, us' 55, us' 56, .bool false, us' 58, ws' 59, ws' 60, ws' 61, ws' 62, ws' 63, ws' 64, ws' 65, ws' 66, ws' 67, ws' 68, ws' 69, ws' 70, ws' 71, ws' 72, ws' 73, ws' 74, ws' 75, ws' 76, ws' 77, ws' 78, ws' 79, ws' 80, ws' 81, ws' 82, ws' 83, ws' 84, ws' 85, ws' 86, ws' 87, ws' 88, ws' 89, ws' 90, ws' 91, ws' 92, ws' 93, ws' 94, ws' 95, ws' 96, ws' 97, ws' 98, ws' 99, ws' 100, ws' 101, ws' 102, ws' 103, ws' 104, ws' 105, ws' 106, ws' 107, ws' 108, ws' 109, ws' 110, ws' 111, ws' 112, ws' 113, ws' 114, ws' 115, ws' 116, ws' 117, ws' 118, ws' 119, ws' 120, ws' 121, ws' 122, ws' 123, ws' 124, ws' 125, ws' 126, ws' 127, ws' 128, ws' 129, ws' 130, ws' 131, ws' 132, ws' 133, ws' 134, ws' 135, ws' 136, ws' 137, ws' 138, ws' 139, ws' 140, ws' 141, ws' 142, ws' 143, ws' 144, ws' 145, us' 146, us' 147, us' 148, us' 149, us' 150, us' 151, us' 152] := by
                        show #[ws' 0, ws' 1, ws' 2, ws' 3, ws' 4, ws' 5, ws' 6, ws' 7, ws' 8, ws' 9, ws' 10, ws' 11, ws' 12, ws' 13, ws' 14, ws' 15, ws' 16, ws' 17, ws' 18, ws' 19, ws' 20, ws' 21, ws' 22, ws' 23, ws' 24, ws' 25, ws' 26, ws' 27, ws' 28, ws' 29, ws' 30, ws' 31, ws' 32, ws' 33, ws' 34, ws' 35, ws' 36, ws' 37, ws' 38, ws' 39, ws' 40, ws' 41, ws' 42, ws' 43, ws' 44, ws' 45, ws' 46, ws' 47, ws' 48, ws' 49, ws' 50, ws' 51, ws' 52, ws' 53, ws' 54, ws' 55, ws' 56, ws' 57, ws' 58, ws' 59, ws' 60, ws' 61, ws' 62, ws' 63, ws' 64, ws' 65, ws' 66, ws' 67, ws' 68, ws' 69, ws' 70, ws' 71, ws' 72, ws' 73, ws' 74, ws' 75, ws' 76, ws' 77, ws' 78, ws' 79, ws' 80, ws' 81, ws' 82, ws' 83, ws' 84, ws' 85, ws' 86, ws' 87, ws' 88, ws' 89, ws' 90, ws' 91, ws' 92, ws' 93, ws' 94, ws' 95, ws' 96, ws' 97, ws' 98, ws' 99, ws' 100, ws' 101, ws' 102, ws' 103, ws' 104, ws' 105, ws' 106, ws' 107, ws' 108, ws' 109, ws' 110, ws' 111, ws' 112, ws' 113, ws' 114, ws' 115, ws' 116, ws' 117, ws' 118, ws' 119, ws' 120, ws' 121, ws' 122, ws' 123, ws' 124, ws' 125, ws' 126, ws' 127, ws' 128, ws' 129, ws' 130, ws' 131, ws' 132, ws' 133, ws' 134, ws' 135, ws' 136, ws' 137, ws' 138, ws' 139, ws' 140, ws' 141, ws' 142, ws' 143, ws' 144, ws' 145, ws' 146, ws' 147, ws' 148, ws' 149, ws' 150, ws' 151, ws' 152] = _
                        rw [t0, t3, t5, t6, t7, t8, t9, t10, t12, t13, t14, t15, t25, t26, t27, t28, t29, t30, t31, t32, t33, t34, t35, t36, t37, t38, t39, t40, t41, t42, t43, t44, t45, t46, t47, t48, t49, t50, t51, t52, t53, t54, t55, t56, t57, t58, t146, t147, t148, t149, t150, t151, t152, t1, t2, t4, t16, t17, t18, t21]
                      rw [el] at ha'
                      subst ha'
                      clear et hus t0 t3 t5 t6 t7 t8 t9 t10 t12 t13 t14 t15 t25 t26 t27 t28 t29 t30 t31 t32 t33 t34 t35 t36 t37 t38 t39 t40 t41 t42 t43 t44 t45 t46 t47 t48 t49 t50 t51 t52 t53 t54 t55 t56 t57 t58 t146 t147 t148 t149 t150 t151 t152 t1 t2 t4 t16 t17 t18 t21 el hf' hs' hd'
                      have HPd := Lib.hid (HPc.out.keep hW)
                      have HRl3 := Lib.hid (HRl2.out.below (Nat.le_refl _) hW)
                      have HRt := Lib.hid hrt.bys
                      clear hW hG HPc HRl2 hrt HBu
                      have c1 := conv_bys HRt.out
                      have c2 := conv_bys HRl3.out
                      by_cases hto : tq = rq
                      · subst hto
                        obtain ⟨X2, hX2⟩ : ∃ X2 : ByteArray, X2 = ⟨tq.toArray⟩ := ⟨_, rfl⟩
                        rw [← hX2] at c1 c2
                        have hxx : (X2.toList == X2.toList) = true := beq_self_eq_true _
                        clear hX2
                        have hanswer := HAns.out.2 rfl
                        have HAns2 := Lib.hid hanswer
                        clear hanswer
                        go_wp2_with (first
                          | refine wpList_slice_by rfl 30 (.tmp 143) none (some (.tmp 144)) rfl (.slice (some pad) p1 pc1) (.slice (some pad) z pc1) none (some (.int .i64 (z : Int))) rfl rfl rfl (HSl.out _) ?_
                          | refine wpList_slice_by rfl 48 (.tmp 101) none (some (.tmp 102)) rfl (.slice a1 m1 c1) (.slice a1 k c1) none (some (.int .i64 (k : Int))) rfl rfl rfl (HSt.out _) ?_)
                        clear c1 c2
                        go_roundw
                        case rel => exact ⟨T1.take k, i1, ps1.dropLast, .slice a1 k c1, (.slice (some pad) z pc1), rfl, rfl, rfl, HV1.out.take k (by omega), HT1.out.take k, HVz.out, HLk.out, HSk.out, HAns2.out, HPd.out⟩
                        case measure =>
                          show k < m1
                          omega
                      · obtain ⟨X2, Y2, hX2, hY2, hXY2⟩ := strs_of tq rq
                        rw [← hX2] at c1
                        rw [← hY2] at c2
                        have hxx : (X2.toList == Y2.toList) = false := by rw [hXY2]; exact decide_eq_false hto
                        clear hX2 hY2 hXY2
                        have HAns2 := Lib.hid (HAns.out.1 hto)
                        go_wp2_with (refine wpList_store_row rfl 51 (.tmp 10) (.tmp 100) rfl w.heap.size (prC ar rq.length cr at2 tq.length ct2) rfl rfl 51 _ HPd.out.1 (size_pair _ _ _ _ _ _) rfl (pair_one _ _ _ _ _ _) ?_)
                        exact bodyPost_ret (v := .tuple #[.agg (prC ar rq.length cr at2 tq.length ct2), .int .i64 0]) (ret_pair rfl _ _ w.heap.size _ _ _ _ _ _ _ rfl rfl (Blk.row HPd.out.1 _)) rfl ⟨_, rfl, by rw [HAns2.out]; exact ⟨ar, cr, at2, ct2, rfl, HRl3.out.farP HPd.out.1 (prC_far _ _ _ _ _ _), HRt.out.farP HPd.out.1 (prC_far _ _ _ _ _ _)⟩, below_setRow HPd.out.2.2.2 _ _ (Nat.le_refl _)⟩
                · have hs := sizeP_right h2 (i := i1) (by rw [← hkk]; exact hik) hi1'
                  rw [← hkk, ← hpl1] at hs
                  obtain ⟨i2, hi2⟩ : ∃ x : Nat, (i1 : Int) - (k : Int) = (x : Int) := ⟨i1 - k, by omega⟩
                  obtain ⟨m2, hm2⟩ : ∃ x : Nat, (m1 : Int) - (k : Int) = (x : Int) := ⟨m1 - k, by omega⟩
                  have ei : i1 - k = i2 := by omega
                  have em : m1 - k = m2 := by omega
                  rw [ei, em] at hs
                  have hi2b : i2 < 80 := by omega
                  have hm2b : m2 ≤ 80 := by omega
                  obtain ⟨U, hU, hU32⟩ : ∃ U, U = climbP n i2 m2 ps1.dropLast h ∧ U.length = 32 := ⟨_, rfl, climbP_length n i2 m2 _ h Hh.out⟩
                  have HCl := Lib.hid (fun (W : World) (hW : Below w.heap.size w W) => refclimb_any n HN.out h i2 m2 ps1.dropLast (.slice (some pad) z pc1) W Hh.out (by omega) (by omega) (hvz2.below (Nat.le_refl _) hW) (HK.out.below (Nat.le_refl _) hW))
                  rw [climbR_is n h i2 m2 _ (by omega) (by omega), ← hU] at HCl
                  obtain ⟨tq, htq⟩ : ∃ t, t = nodeT y U := ⟨_, rfl⟩
                  have HNt := Lib.hid (fun (W : World) => refnodetext_any y U W hy32 hU32)
                  rw [show (1 :: (y ++ U) : List UInt8) = tq from htq.symm] at HNt
                  have HAns := Lib.hid (show (tq ≠ rq → q = (rq, tq)) ∧ (tq = rq → pathT n (T1.drop k) i2 x ps1.dropLast = q) by
                    have e := pathT_right n T1 i1 x ps1 (by omega) (by rw [← hm1, ← hkk]; exact hik)
                    rw [← hm1, ← hkk, ← HHh.out, hlast, ei, em, ← hU, ← htq, ← hrq, hq1] at e
                    exact ⟨fun hne => by rw [e, if_pos hne], fun he => by rw [e, if_neg (by simpa using he)]⟩)
                  have HSU := Lib.hid (size_hash (cs := bs U) (by rw [bs_size, hU32]))
                  have HU32 := Lib.hid hU32
                  have hvd1 : Txs w (.slice (Option.map (fun x => x.add k) a1) (m1 - k) (c1 - k)) (T1.drop k) := by
                    have := hv1.drop k (by omega)
                    unfold sliced at this
                    rw [if_neg (by omega)] at this
                    simpa using this
                  have HVd := Lib.hid hvd1
                  have hkl : (T1.drop k).length = m2 := by rw [List.length_drop]; omega
                  have HLk := Lib.hid (show i2 < (T1.drop k).length by omega)
                  have HSk := Lib.hid (show ps1.dropLast.length = sizeP i2 (T1.drop k).length by rw [hkl]; omega)
                  have HI2 := Lib.hid hi2
                  have HM2 := Lib.hid hm2
                  have hik2 : ¬ (i1 : Int) < (k : Int) := by omega
                  clear hv1 hT1 hvz hvz2 hy hy32 hlast hdl hdll hm1 hp1 hpl1 hq1 hkk hs hU hU32 htq hrq hkl ei em hvd1 hi2 hm2
                  go_wp2_with fail
                  refine (HSplit.out _).mono ?_
                  rintro e w2 ⟨rfl, rfl⟩
                  clear HSplit
                  go_wp2_with fail
                  refine HHash.out.mono ?_
                  rintro e W1 ⟨u18, rfl, hr1, hb1⟩
                  have HPb := Lib.hid (HPa.out.keep hb1)
                  obtain ⟨ar, cr, rfl⟩ := slice_of_row hr1
                  have HRl := Lib.hid hr1.bys
                  clear hr1 hb1 HPa HHash
                  go_upto_region 20 with fail
                  have hG : ∀ W W' : World, Below W1.heap.size W1 W → Below W.heap.size W W' → Below W1.heap.size W1 W' := fun W W' h h' => h.trans (h'.mono h.size)
                  refine region_fill_by 19 _ (fun b => [(22, (if b then varF W1.heap.size 24 (bs U) else varF W1.heap.size 24 (bs (List.replicate 32 0)))), (105, .is (.int .i64 n)), (106, .is (.agg (bs h))), (107, .is (.int .u64 (i1 : Int))), (108, .is (.int .i64 (k : Int))), (109, .is (.int .u64 (k : Int))), (110, .is (.int .u64 (i2 : Int))), (111, .is (.slice a1 m1 c1)), (112, .is (.int .i64 (m1 : Int))), (113, .is (.int .i64 (k : Int))), (114, .is (.int .i64 (m2 : Int))), (115, .is (.int .u64 (m2 : Int))), (116, .is (.slice (some pad) p1 pc1)), (117, .is (.int .i64 (z : Int))), (118, .is (.slice (some pad) z pc1)), (119, .is (.tuple #[.agg (bs U), .int .i64 0])), (104, .is (.tuple #[.agg (bs U), .int .i64 0])), (120, .is (.agg (bs U))), (121, .is (.int .i64 0)), (23, .is (.int .i64 0))]) [0, 1, 2, 3, 4, 5, 6, 7, 8, 9, 10, 12, 13, 14, 15, 16, 17, 18, 25, 26, 27, 28, 29, 30, 31, 32, 33, 34, 35, 36, 37, 38, 39, 40, 41, 42, 43, 44, 45, 46, 47, 48, 49, 50, 51, 52, 53, 54, 55, 56, 57, 58, 146, 147, 148, 149, 150, 151, 152, 22] (fun W => Below W1.heap.size W1 W) (by kernel_rfl) (by kernel_rfl) (by kernel_rfl) (by kernel_rfl) (by kernel_rfl) ((Below.refl _ _).drew) rfl rfl ?_ ?_ ?_
                  · refine ⟨?c0, ?c1, ?c2, ?c3, ?c4, ?c5, ?c6, ?c7, ?c8, ?c9, ?c10, ?c11, ?c12, ?c13, ?c14, ?c15, ?c16, ?c17, ?c18, ?c19, ?c20, trivial⟩
                    case c0 => exact .inr (.inl fun b => ask_copy (guard_none rfl) (.tmp 0) (.inl rfl) (by intro k hk; cases hk; rfl))
                    case c1 => exact .inr (.inl fun b => ask_load (guard_none rfl) _ (.tmp 13) (.pointer (some ⟨g, 0, none⟩)) (.agg (bs h)) rfl rfl (by intro k hk; cases hk; rfl) (fun W hW => (HPb.out.keep hW).2.1.loads 24 _ Tryd.underlying24 rfl HSh.out))
                    case c2 => exact .inr (.inl fun b => ask_copy (guard_none rfl) (.tmp 2) (.inl rfl) (by intro k hk; cases hk; rfl))
                    case c3 => exact .inr (.inl fun b => ask_copy (guard_none rfl) (.tmp 16) (.inl rfl) (by intro k hk; cases hk; rfl))
                    case c4 => exact .inr (.inl fun b => ask_conv_iu (guard_none rfl) (.tmp 108) k (by omega) rfl rfl (by intro k hk; cases hk; rfl))
                    case c5 => exact .inr (.inl fun b => ask_bin (guard_none rfl) .sub _ _ (.tmp 107) (.tmp 109) (.int .u64 (i1 : Int)) (.int .u64 (k : Int)) (.int .u64 (i2 : Int)) rfl rfl rfl (by intro k hk; cases hk; rfl) (fun W => sub_u64 _ _ _ _ _ _ HI2.out (by omega) W))
                    case c6 => exact .inr (.inl fun b => ask_copy (guard_none rfl) (.tmp 1) (.inl rfl) (by intro k hk; cases hk; rfl))
                    case c7 => exact .inr (.inl fun b => ask_len (guard_none rfl) (.tmp 111) _ a1 m1 c1 rfl (by kernel_rfl) rfl (by intro k hk; cases hk; rfl))
                    case c8 => exact .inr (.inl fun b => ask_copy (guard_none rfl) (.tmp 16) (.inl rfl) (by intro k hk; cases hk; rfl))
                    case c9 => exact .inr (.inl fun b => ask_bin (guard_none rfl) .sub _ _ (.tmp 112) (.tmp 113) (.int .i64 (m1 : Int)) (.int .i64 (k : Int)) (.int .i64 (m2 : Int)) rfl rfl rfl (by intro k hk; cases hk; rfl) (fun W => sub_i64 _ _ _ _ _ _ HM2.out (by omega) W))
                    case c10 => exact .inr (.inl fun b => ask_conv_iu (guard_none rfl) (.tmp 114) m2 (by omega) rfl rfl (by intro k hk; cases hk; rfl))
                    case c11 => exact .inr (.inl fun b => ask_copy (guard_none rfl) (.tmp 4) (.inl rfl) (by intro k hk; cases hk; rfl))
                    case c12 => exact .inr (.inl fun b => ask_copy (guard_none rfl) (.tmp 17) (.inl rfl) (by intro k hk; cases hk; rfl))
                    case c13 => exact .inr (.inl fun b => ask_slice (guard_none rfl) _ (.tmp 116) none (some (.tmp 117)) none (.slice (some pad) p1 pc1) (.slice (some pad) z pc1) none (some (.int .i64 (z : Int))) none rfl rfl rfl rfl rfl (by intro k hk; cases hk; rfl) HSl.out)
                    case c14 => exact .inr (.inl fun b => ask_call hG (guard_none rfl) _ _ _ #[.int .i64 n, .agg (bs h), .int .u64 (i2 : Int), .int .u64 (m2 : Int), .slice (some pad) z pc1] (.is (.tuple #[.agg (bs U), .int .i64 0])) rfl (by kernel_rfl) rfl rfl (by intro k hk; cases hk; rfl) (fun W hW => (HCl.out W (HPb.out.2.2.2.trans (hW.mono HPb.out.2.2.2.size))).mono fun e w' h => ⟨_, h.1, rfl, h.2⟩))
                    case c15 => exact .inr (.inl fun b => ask_copy (guard_none rfl) (.tmp 119) (.inl rfl) (by intro k hk; cases hk; rfl))
                    case c16 => exact .inr (.inl fun b => ask_exec (guard_none rfl) (.agg (bs U)) rfl rfl (by intro k hk; cases hk; rfl) (fun W hW => rfl))
                    case c17 => exact .inr (.inl fun b => ask_exec (guard_none rfl) (.int .i64 0) rfl rfl (by intro k hk; cases hk; rfl) (fun W hW => rfl))
                    case c18 => exact .inr (.inr ⟨by kernel_rfl, ask_alloc hG (guard_none rfl) _ (.agg (bs (List.replicate 32 0))) (varF W1.heap.size 24 (bs (List.replicate 32 0))) rfl (fun W => by kernel_rfl) (by intro k hk; cases hk; rfl) (fun W hW => ⟨_, rfl, hW.size, Blk.new W _ _⟩)⟩)
                    case c19 => exact .inl rfl
                    case c20 => exact .inr (.inl fun b => ask_copy (guard_none rfl) (.tmp 121) (.inr rfl) (by intro k hk; cases hk; rfl))
                  · intro x W hW hk
                    obtain ⟨g, e1, e2, e3⟩ : ∃ g, x 22 = .pointer (some ⟨g, 0, none⟩) ∧ W1.heap.size ≤ g ∧ Blk W g 24 (bs (List.replicate 32 0)) := hk 22 rfl
                    have e4 : x 120 = (.agg (bs U)) := hk 120 rfl
                    refine ⟨guard_ok (guard_none rfl) hk, gives_store 24 (.tmp 22) (.tmp 120) rfl (.pointer (some ⟨g, 0, none⟩)) _ e1 e4 (e3.stores 24 _ HSU.out (by simp [bs_size, HU32.out]) (bs_one _)) ⟨below_setRow hW g _ e2, fun k _ hu => ?_⟩⟩
                    by_cases h22 : k = 22
                    · subst h22
                      exact ⟨g, e1, e2, e3.row _⟩
                    · simp only [factsOf_ne h22] at hu ⊢
                      refine facts_keep (fun q hq u hu => ?_) k _ hu
                      simp only [List.mem_cons, List.not_mem_nil, or_false] at hq
                      rcases hq with rfl | rfl | rfl | rfl | rfl | rfl | rfl | rfl | rfl | rfl | rfl | rfl | rfl | rfl | rfl | rfl | rfl | rfl | rfl
                      all_goals exact hu
                  · intro a' W2 hW hd' hs' hf'
                    obtain ⟨gu, eu, -, hbu⟩ : ∃ g, a'.tmps.getD 22 undef = .pointer (some ⟨g, 0, none⟩) ∧ W1.heap.size ≤ g ∧ Blk W2 g 24 (bs U) := hf' 22 rfl
                    have t0 : a'.tmps.getD 0 undef = .int .i64 n := hf' 0 rfl
                    have t3 : a'.tmps.getD 3 undef = .slice ax lx cx := hf' 3 rfl
                    have t5 : a'.tmps.getD 5 undef = us' 5 := hf' 5 rfl
                    have t6 : a'.tmps.getD 6 undef = us' 6 := hf' 6 rfl
                    have t7 : a'.tmps.getD 7 undef = us' 7 := hf' 7 rfl
                    have t8 : a'.tmps.getD 8 undef = us' 8 := hf' 8 rfl
                    have t9 : a'.tmps.getD 9 undef = us' 9 := hf' 9 rfl
                    have t10 : a'.tmps.getD 10 undef = .pointer (some ⟨w.heap.size, 0, none⟩) := hf' 10 rfl
                    have t12 : a'.tmps.getD 12 undef = us' 12 := hf' 12 rfl
                    have t13 : a'.tmps.getD 13 undef = .pointer (some ⟨g, 0, none⟩) := hf' 13 rfl
                    have t14 : a'.tmps.getD 14 undef = us' 14 := hf' 14 rfl
                    have t15 : a'.tmps.getD 15 undef = us' 15 := hf' 15 rfl
                    have t25 : a'.tmps.getD 25 undef = us' 25 := hf' 25 rfl
                    have t26 : a'.tmps.getD 26 undef = us' 26 := hf' 26 rfl
                    have t27 : a'.tmps.getD 27 undef = us' 27 := hf' 27 rfl
                    have t28 : a'.tmps.getD 28 undef = us' 28 := hf' 28 rfl
                    have t29 : a'.tmps.getD 29 undef = us' 29 := hf' 29 rfl
                    have t30 : a'.tmps.getD 30 undef = us' 30 := hf' 30 rfl
                    have t31 : a'.tmps.getD 31 undef = us' 31 := hf' 31 rfl
                    have t32 : a'.tmps.getD 32 undef = us' 32 := hf' 32 rfl
                    have t33 : a'.tmps.getD 33 undef = us' 33 := hf' 33 rfl
                    have t34 : a'.tmps.getD 34 undef = us' 34 := hf' 34 rfl
                    have t35 : a'.tmps.getD 35 undef = us' 35 := hf' 35 rfl
                    have t36 : a'.tmps.getD 36 undef = us' 36 := hf' 36 rfl
                    have t37 : a'.tmps.getD 37 undef = us' 37 := hf' 37 rfl
                    have t38 : a'.tmps.getD 38 undef = us' 38 := hf' 38 rfl
                    have t39 : a'.tmps.getD 39 undef = us' 39 := hf' 39 rfl
                    have t40 : a'.tmps.getD 40 undef = us' 40 := hf' 40 rfl
                    have t41 : a'.tmps.getD 41 undef = us' 41 := hf' 41 rfl
                    have t42 : a'.tmps.getD 42 undef = us' 42 := hf' 42 rfl
                    have t43 : a'.tmps.getD 43 undef = us' 43 := hf' 43 rfl
                    have t44 : a'.tmps.getD 44 undef = us' 44 := hf' 44 rfl
                    have t45 : a'.tmps.getD 45 undef = us' 45 := hf' 45 rfl
                    have t46 : a'.tmps.getD 46 undef = us' 46 := hf' 46 rfl
                    have t47 : a'.tmps.getD 47 undef = us' 47 := hf' 47 rfl
                    have t48 : a'.tmps.getD 48 undef = us' 48 := hf' 48 rfl
                    have t49 : a'.tmps.getD 49 undef = us' 49 := hf' 49 rfl
                    have t50 : a'.tmps.getD 50 undef = us' 50 := hf' 50 rfl
                    have t51 : a'.tmps.getD 51 undef = us' 51 := hf' 51 rfl
                    have t52 : a'.tmps.getD 52 undef = us' 52 := hf' 52 rfl
                    have t53 : a'.tmps.getD 53 undef = us' 53 := hf' 53 rfl
                    have t54 : a'.tmps.getD 54 undef = us' 54 := hf' 54 rfl
                    have t55 : a'.tmps.getD 55 undef = us' 55 := hf' 55 rfl
                    have t56 : a'.tmps.getD 56 undef = us' 56 := hf' 56 rfl
                    have t57 : a'.tmps.getD 57 undef = .bool false := hf' 57 rfl
                    have t58 : a'.tmps.getD 58 undef = us' 58 := hf' 58 rfl
                    have t146 : a'.tmps.getD 146 undef = us' 146 := hf' 146 rfl
                    have t147 : a'.tmps.getD 147 undef = us' 147 := hf' 147 rfl
                    have t148 : a'.tmps.getD 148 undef = us' 148 := hf' 148 rfl
                    have t149 : a'.tmps.getD 149 undef = us' 149 := hf' 149 rfl
                    have t150 : a'.tmps.getD 150 undef = us' 150 := hf' 150 rfl
                    have t151 : a'.tmps.getD 151 undef = us' 151 := hf' 151 rfl
                    have t152 : a'.tmps.getD 152 undef = us' 152 := hf' 152 rfl
                    have t1 : a'.tmps.getD 1 undef = .slice a1 m1 c1 := hf' 1 rfl
                    have t2 : a'.tmps.getD 2 undef = .int .u64 (i1 : Int) := hf' 2 rfl
                    have t4 : a'.tmps.getD 4 undef = .slice (some pad) p1 pc1 := hf' 4 rfl
                    have t16 : a'.tmps.getD 16 undef = .int .i64 (k : Int) := hf' 16 rfl
                    have t17 : a'.tmps.getD 17 undef = .int .i64 (z : Int) := hf' 17 rfl
                    have t18 : a'.tmps.getD 18 undef = .slice ar rq.length cr := hf' 18 rfl
                    have t22 : a'.tmps.getD 22 undef = .pointer (some ⟨gu, 0, none⟩) := eu
                    obtain ⟨vs', hus, ha'⟩ := act_open 153 a' hs' hd'
                    rw [← hus] at t0 t3 t5 t6 t7 t8 t9 t10 t12 t13 t14 t15 t25 t26 t27 t28 t29 t30 t31 t32 t33 t34 t35 t36 t37 t38 t39 t40 t41 t42 t43 t44 t45 t46 t47 t48 t49 t50 t51 t52 t53 t54 t55 t56 t57 t58 t146 t147 t148 t149 t150 t151 t152 t1 t2 t4 t16 t17 t18 t22
                    have el : ((List.range 153).map vs').toArray = #[.int .i64 n, .slice a1 m1 c1, .int .u64 (i1 : Int), .slice ax lx cx, .slice (some pad) p1 pc1, us' 5, us' 6, us' 7, us' 8, us' 9, .pointer (some ⟨w.heap.size, 0, none⟩), vs' 11, us' 12, .pointer (some ⟨g, 0, none⟩), us' 14, us' 15, .int .i64 (k : Int), .int .i64 (z : Int), .slice ar rq.length cr, vs' 19, vs' 20, vs' 21, .pointer (some ⟨gu, 0, none⟩), vs' 23, vs' 24, us' 25, us' 26, us' 27, us' 28, us' 29, us' 30, us' 31, us' 32, us' 33, us' 34, us' 35, us' 36, us' 37, us' 38, us' 39, us' 40, us' 41, us' 42, us' 43, us' 44, us' 45, us' 46, us' 47, us' 48, us' 49, us' 50, us' 51, us' 52, us' 53, us' 54, us' 55, us' 56, .bool false, us' 58, vs' 59, vs' 60, vs' 61, vs' 62, vs' 63, vs' 64, vs' 65, vs' 66, vs' 67, vs' 68, vs' 69, vs' 70, vs' 71, vs' 72, vs' 73, vs' 74, vs' 75, vs' 76, vs' 77, vs' 78, vs' 79, vs' 80, vs' 81, vs' 82, vs' 83, vs' 84, vs' 85, vs' 86, vs' 87, vs' 88, vs' 89, vs' 90, vs' 91, vs' 92, vs' 93, vs' 94, vs' 95, vs' 96, vs' 97, vs' 98, vs' 99, vs' 100, vs' 101, vs' 102, vs' 103, vs' 104, vs' 105, vs' 106, vs' 107, vs' 108, vs' 109, vs' 110, vs' 111, vs' 112, vs' 113, vs' 114, vs' 115, vs' 116, vs' 117, vs' 118, vs' 119, vs' 120, vs' 121, vs' 122, vs' 123, vs' 124, vs' 125, vs' 126, vs' 127, vs' 128, vs' 129, vs' 130, vs' 131, vs' 132, vs' 133, vs' 134, vs' 135, vs' 136, vs' 137, vs' 138, vs' 139, vs' 140, vs' 141, vs' 142, vs' 143, vs' 144, vs' 145, us' 146, us' 147, us' 148, us' 149, us' 150, us' 151, us' 152] := by
                      show #[vs' 0, vs' 1, vs' 2, vs' 3, vs' 4, vs' 5, vs' 6, vs' 7, vs' 8, vs' 9, vs' 10, vs' 11, vs' 12, vs' 13, vs' 14, vs' 15, vs' 16, vs' 17, vs' 18, vs' 19, vs' 20, vs' 21, vs' 22, vs' 23, vs' 24, vs' 25, vs' 26, vs' 27, vs' 28, vs' 29, vs' 30, vs' 31, vs' 32, vs' 33, vs' 34, vs' 35, vs' 36, vs' 37, vs' 38, vs' 39, vs' 40, vs' 41, vs' 42, vs' 43, vs' 44, vs' 45, vs' 46, vs' 47, vs' 48, vs' 49, vs' 50, vs' 51, vs' 52, vs' 53, vs' 54, vs' 55, vs' 56, vs' 57, vs' 58, vs' 59, vs' 60, vs' 61, vs' 62, vs' 63, vs' 64, vs' 65, vs' 66, vs' 67, vs' 68, vs' 69, vs' 70, vs' 71, vs' 72, vs' 73, vs' 74, vs' 75, vs' 76, vs' 77, vs' 78, vs' 79, vs' 80, vs' 81, vs' 82, vs' 83, vs' 84, vs' 85, vs' 86, vs' 87, vs' 88, vs' 89, vs' 90, vs' 91, vs' 92, vs' 93, vs' 94, vs' 95, vs' 96, vs' 97, vs' 98, vs' 99, vs' 100, vs' 101, vs' 102, vs' 103, vs' 104, vs' 105, vs' 106, vs' 107, vs' 108, vs' 109, vs' 110, vs' 111, vs' 112, vs' 113, vs' 114, vs' 115, vs' 116, vs' 117, vs' 118, vs' 119, vs' 120, vs' 121, vs' 122, vs' 123, vs' 124, vs' 125, vs' 126, vs' 127, vs' 128, vs' 129, vs' 130, vs' 131, vs' 132, vs' 133, vs' 134, vs' 135, vs' 136, vs' 137, vs' 138, vs' 139, vs' 140, vs' 141, vs' 142, vs' 143, vs' 144, vs' 145, vs' 146, vs' 147, vs' 148, vs' 149, vs' 150, vs' 151, vs' 152] = _
                      rw [t0, t3, t5, t6, t7, t8, t9, t10, t12, t13, t14, t15, t25, t26, t27, t28, t29, t30, t31, t32, t33, t34, t35, t36, t37, t38, t39, t40, t41, t42, t43, t44, t45, t46, t47, t48, t49, t50, t51, t52, t53, t54, t55, t56, t57, t58, t146, t147, t148, t149, t150, t151, t152, t1, t2, t4, t16, t17, t18, t22]
                    rw [el] at ha'
                    subst ha'
                    clear eu hus t0 t3 t5 t6 t7 t8 t9 t10 t12 t13 t14 t15 t25 t26 t27 t28 t29 t30 t31 t32 t33 t34 t35 t36 t37 t38 t39 t40 t41 t42 t43 t44 t45 t46 t47 t48 t49 t50 t51 t52 t53 t54 t55 t56 t57 t58 t146 t147 t148 t149 t150 t151 t152 t1 t2 t4 t16 t17 t18 t22 el hf' hs' hd'
                    have HPc := Lib.hid (HPb.out.keep hW)
                    have HRl2 := Lib.hid (HRl.out.below (Nat.le_refl _) hW)
                    have HBu := Lib.hid hbu
                    clear hW hG HPb HRl hbu HCl
                    go_upto_region 21 with fail
                    have hG : ∀ W W' : World, Below W2.heap.size W2 W → Below W.heap.size W W' → Below W2.heap.size W2 W' := fun W W' h h' => h.trans (h'.mono h.size)
                    refine region_by [(122, .is (.slice (some pad) p1 pc1)), (123, .is (.int .i64 (z : Int))), (124, .is (.pointer (some (pad.add (z * 32))))), (125, .is (.agg (bs y))), (126, .is (.agg (bs U))), (127, .row W2.heap.size tq), (24, .row W2.heap.size tq)] [0, 1, 2, 3, 4, 5, 6, 7, 8, 9, 10, 12, 13, 14, 15, 16, 17, 18, 25, 26, 27, 28, 29, 30, 31, 32, 33, 34, 35, 36, 37, 38, 39, 40, 41, 42, 43, 44, 45, 46, 47, 48, 49, 50, 51, 52, 53, 54, 55, 56, 57, 58, 146, 147, 148, 149, 150, 151, 152, 24] (fun W => Below W2.heap.size W2 W) (by kernel_rfl) (by kernel_rfl) (by kernel_rfl) (by kernel_rfl) (by kernel_rfl) ((Below.refl _ _).drew) ?_ ?_
                    · refine ⟨?c0, ?c1, ?c2, ?c3, ?c4, ?c5, ?c6, trivial⟩
                      case c0 => exact ask_copy (guard_none rfl) (.tmp 4) (.inl rfl) (by intro k hk; cases hk; rfl)
                      case c1 => exact ask_copy (guard_none rfl) (.tmp 17) (.inl rfl) (by intro k hk; cases hk; rfl)
                      case c2 => exact ask_idx (guard_none rfl) _ (.tmp 122) (.tmp 123) (.slice (some pad) p1 pc1) (.int .i64 (z : Int)) (.pointer (some (pad.add (z * 32)))) rfl rfl rfl (by intro k hk; cases hk; rfl) HIy.out
                      case c3 => exact ask_load (guard_none rfl) _ (.tmp 124) (.pointer (some (pad.add (z * 32)))) (.agg (bs y)) rfl rfl (by intro k hk; cases hk; rfl) (fun W hW => HLd.out W (HPc.out.2.2.2.trans (hW.mono HPc.out.2.2.2.size)))
                      case c4 => exact ask_load (guard_none rfl) _ (.tmp 22) (.pointer (some ⟨gu, 0, none⟩)) (.agg (bs U)) rfl rfl (by intro k hk; cases hk; rfl) (fun W hW => (HBu.out.keep hW).loads 24 _ Tryd.underlying24 rfl HSU.out)
                      case c5 => exact ask_call hG (guard_none rfl) _ _ _ #[.agg (bs y), .agg (bs U)] (.row W2.heap.size tq) rfl (by kernel_rfl) rfl rfl (by intro k hk; cases hk; rfl) (fun W hW => (HNt.out W).mono fun e w' h => by obtain ⟨u, h1, h2, h3⟩ := h; exact ⟨u, h1, h2.lower hW.size, h3⟩)
                      case c6 => exact ask_copy (guard_none rfl) (.tmp 127) (.inr rfl) (by intro k hk; cases hk; rfl)
                    · intro a' W3 hW hd' hs' hf'
                      obtain ⟨at2, ct2, et⟩ := slice_of_row (show Row W3 W2.heap.size (a'.tmps.getD 24 undef) tq from hf' 24 rfl)
                      have hrt : Row W3 W2.heap.size (a'.tmps.getD 24 undef) tq := hf' 24 rfl
                      rw [et] at hrt
                      have t0 : a'.tmps.getD 0 undef = .int .i64 n := hf' 0 rfl
                      have t3 : a'.tmps.getD 3 undef = .slice ax lx cx := hf' 3 rfl
                      have t5 : a'.tmps.getD 5 undef = us' 5 := hf' 5 rfl
                      have t6 : a'.tmps.getD 6 undef = us' 6 := hf' 6 rfl
                      have t7 : a'.tmps.getD 7 undef = us' 7 := hf' 7 rfl
                      have t8 : a'.tmps.getD 8 undef = us' 8 := hf' 8 rfl
                      have t9 : a'.tmps.getD 9 undef = us' 9 := hf' 9 rfl
                      have t10 : a'.tmps.getD 10 undef = .pointer (some ⟨w.heap.size, 0, none⟩) := hf' 10 rfl
                      have t12 : a'.tmps.getD 12 undef = us' 12 := hf' 12 rfl
                      have t13 : a'.tmps.getD 13 undef = .pointer (some ⟨g, 0, none⟩) := hf' 13 rfl
                      have t14 : a'.tmps.getD 14 undef = us' 14 := hf' 14 rfl
                      have t15 : a'.tmps.getD 15 undef = us' 15 := hf' 15 rfl
                      have t25 : a'.tmps.getD 25 undef = us' 25 := hf' 25 rfl
                      have t26 : a'.tmps.getD 26 undef = us' 26 := hf' 26 rfl
                      have t27 : a'.tmps.getD 27 undef = us' 27 := hf' 27 rfl
                      have t28 : a'.tmps.getD 28 undef = us' 28 := hf' 28 rfl
                      have t29 : a'.tmps.getD 29 undef = us' 29 := hf' 29 rfl
                      have t30 : a'.tmps.getD 30 undef = us' 30 := hf' 30 rfl
                      have t31 : a'.tmps.getD 31 undef = us' 31 := hf' 31 rfl
                      have t32 : a'.tmps.getD 32 undef = us' 32 := hf' 32 rfl
                      have t33 : a'.tmps.getD 33 undef = us' 33 := hf' 33 rfl
                      have t34 : a'.tmps.getD 34 undef = us' 34 := hf' 34 rfl
                      have t35 : a'.tmps.getD 35 undef = us' 35 := hf' 35 rfl
                      have t36 : a'.tmps.getD 36 undef = us' 36 := hf' 36 rfl
                      have t37 : a'.tmps.getD 37 undef = us' 37 := hf' 37 rfl
                      have t38 : a'.tmps.getD 38 undef = us' 38 := hf' 38 rfl
                      have t39 : a'.tmps.getD 39 undef = us' 39 := hf' 39 rfl
                      have t40 : a'.tmps.getD 40 undef = us' 40 := hf' 40 rfl
                      have t41 : a'.tmps.getD 41 undef = us' 41 := hf' 41 rfl
                      have t42 : a'.tmps.getD 42 undef = us' 42 := hf' 42 rfl
                      have t43 : a'.tmps.getD 43 undef = us' 43 := hf' 43 rfl
                      have t44 : a'.tmps.getD 44 undef = us' 44 := hf' 44 rfl
                      have t45 : a'.tmps.getD 45 undef = us' 45 := hf' 45 rfl
                      have t46 : a'.tmps.getD 46 undef = us' 46 := hf' 46 rfl
                      have t47 : a'.tmps.getD 47 undef = us' 47 := hf' 47 rfl
                      have t48 : a'.tmps.getD 48 undef = us' 48 := hf' 48 rfl
                      have t49 : a'.tmps.getD 49 undef = us' 49 := hf' 49 rfl
                      have t50 : a'.tmps.getD 50 undef = us' 50 := hf' 50 rfl
                      have t51 : a'.tmps.getD 51 undef = us' 51 := hf' 51 rfl
                      have t52 : a'.tmps.getD 52 undef = us' 52 := hf' 52 rfl
                      have t53 : a'.tmps.getD 53 undef = us' 53 := hf' 53 rfl
                      have t54 : a'.tmps.getD 54 undef = us' 54 := hf' 54 rfl
                      have t55 : a'.tmps.getD 55 undef = us' 55 := hf' 55 rfl
                      have t56 : a'.tmps.getD 56 undef = us' 56 := hf' 56 rfl
                      have t57 : a'.tmps.getD 57 undef = .bool false := hf' 57 rfl
                      have t58 : a'.tmps.getD 58 undef = us' 58 := hf' 58 rfl
                      have t146 : a'.tmps.getD 146 undef = us' 146 := hf' 146 rfl
                      have t147 : a'.tmps.getD 147 undef = us' 147 := hf' 147 rfl
                      have t148 : a'.tmps.getD 148 undef = us' 148 := hf' 148 rfl
                      have t149 : a'.tmps.getD 149 undef = us' 149 := hf' 149 rfl
                      have t150 : a'.tmps.getD 150 undef = us' 150 := hf' 150 rfl
                      have t151 : a'.tmps.getD 151 undef = us' 151 := hf' 151 rfl
                      have t152 : a'.tmps.getD 152 undef = us' 152 := hf' 152 rfl
                      have t1 : a'.tmps.getD 1 undef = .slice a1 m1 c1 := hf' 1 rfl
                      have t2 : a'.tmps.getD 2 undef = .int .u64 (i1 : Int) := hf' 2 rfl
                      have t4 : a'.tmps.getD 4 undef = .slice (some pad) p1 pc1 := hf' 4 rfl
                      have t16 : a'.tmps.getD 16 undef = .int .i64 (k : Int) := hf' 16 rfl
                      have t17 : a'.tmps.getD 17 undef = .int .i64 (z : Int) := hf' 17 rfl
                      have t18 : a'.tmps.getD 18 undef = .slice ar rq.length cr := hf' 18 rfl
                      have t24 := et
                      obtain ⟨ws', hus, ha'⟩ := act_open 153 a' hs' hd'
                      rw [← hus] at t0 t3 t5 t6 t7 t8 t9 t10 t12 t13 t14 t15 t25 t26 t27 t28 t29 t30 t31 t32 t33 t34 t35 t36 t37 t38 t39 t40 t41 t42 t43 t44 t45 t46 t47 t48 t49 t50 t51 t52 t53 t54 t55 t56 t57 t58 t146 t147 t148 t149 t150 t151 t152 t1 t2 t4 t16 t17 t18 t24
                      have el : ((List.range 153).map ws').toArray = #[.int .i64 n, .slice a1 m1 c1, .int .u64 (i1 : Int), .slice ax lx cx, .slice (some pad) p1 pc1, us' 5, us' 6, us' 7, us' 8, us' 9, .pointer (some ⟨w.heap.size, 0, none⟩), ws' 11, us' 12, .pointer (some ⟨g, 0, none⟩), us' 14, us' 15, .int .i64 (k : Int), .int .i64 (z : Int), .slice ar rq.length cr, ws' 19, ws' 20, ws' 21, ws' 22, ws' 23, .slice at2 tq.length ct2, us' 25, us' 26, us' 27, us' 28, us' 29, us' 30, us' 31, us' 32, us' 33, us' 34, us' 35, us' 36, us' 37, us' 38, us' 39, us' 40, us' 41, us' 42, us' 43, us' 44, us' 45, us' 46, us' 47, us' 48, us' 49, us' 50, us' 51, us' 52, us' 53, us' 54, us' 55, us' 56, .bool false, us' 58, ws' 59, ws' 60, ws' 61, ws' 62, ws' 63, ws' 64, ws' 65, ws' 66, ws' 67, ws' 68, ws' 69, ws' 70, ws' 71, ws' 72, ws' 73, ws' 74, ws' 75, ws' 76, ws' 77, ws' 78, ws' 79, ws' 80, ws' 81, ws' 82, ws' 83, ws' 84, ws' 85, ws' 86, ws' 87, ws' 88, ws' 89, ws' 90, ws' 91, ws' 92, ws' 93, ws' 94, ws' 95, ws' 96, ws' 97, ws' 98, ws' 99, ws' 100, ws' 101, ws' 102, ws' 103, ws' 104, ws' 105, ws' 106, ws' 107, ws' 108, ws' 109, ws' 110, ws' 111, ws' 112, ws' 113, ws' 114, ws' 115, ws' 116, ws' 117, ws' 118, ws' 119, ws' 120, ws' 121, ws' 122, ws' 123, ws' 124, ws' 125, ws' 126, ws' 127, ws' 128, ws' 129, ws' 130, ws' 131, ws' 132, ws' 133, ws' 134, ws' 135, ws' 136, ws' 137, ws' 138, ws' 139, ws' 140, ws' 141, ws' 142, ws' 143, ws' 144, ws' 145, us' 146, us' 147, us' 148, us' 149, us' 150, us' 151, us' 152] := by
                        show #[ws' 0, ws' 1, ws' 2, ws' 3, ws' 4, ws' 5, ws' 6, ws' 7, ws' 8, ws' 9, ws' 10, ws' 11, ws' 12, ws' 13, ws' 14, ws' 15, ws' 16, ws' 17, ws' 18, ws' 19, ws' 20, ws' 21, ws' 22, ws' 23, ws' 24, ws' 25, ws' 26, ws' 27, ws' 28, ws' 29, ws' 30, ws' 31, ws' 32, ws' 33, ws' 34, ws' 35, ws' 36, ws' 37, ws' 38, ws' 39, ws' 40, ws' 41, ws' 42, ws' 43, ws' 44, ws' 45, ws' 46, ws' 47, ws' 48, ws' 49, ws' 50, ws' 51, ws' 52, ws' 53, ws' 54, ws' 55, ws' 56, ws' 57, ws' 58, ws' 59, ws' 60, ws' 61, ws' 62, ws' 63, ws' 64, ws' 65, ws' 66, ws' 67, ws' 68, ws' 69, ws' 70, ws' 71, ws' 72, ws' 73, ws' 74, ws' 75, ws' 76, ws' 77, ws' 78, ws' 79, ws' 80, ws' 81, ws' 82, ws' 83, ws' 84, ws' 85, ws' 86, ws' 87, ws' 88, ws' 89, ws' 90, ws' 91, ws' 92, ws' 93, ws' 94, ws' 95, ws' 96, ws' 97, ws' 98, ws' 99, ws' 100, ws' 101, ws' 102, ws' 103, ws' 104, ws' 105, ws' 106, ws' 107, ws' 108, ws' 109, ws' 110, ws' 111, ws' 112, ws' 113, ws' 114, ws' 115, ws' 116, ws' 117, ws' 118, ws' 119, ws' 120, ws' 121, ws' 122, ws' 123, ws' 124, ws' 125, ws' 126, ws' 127, ws' 128, ws' 129, ws' 130, ws' 131, ws' 132, ws' 133, ws' 134, ws' 135, ws' 136, ws' 137, ws' 138, ws' 139, ws' 140, ws' 141, ws' 142, ws' 143, ws' 144, ws' 145, ws' 146, ws' 147, ws' 148, ws' 149, ws' 150, ws' 151, ws' 152] = _
                        rw [t0, t3, t5, t6, t7, t8, t9, t10, t12, t13, t14, t15, t25, t26, t27, t28, t29, t30, t31, t32, t33, t34, t35, t36, t37, t38, t39, t40, t41, t42, t43, t44, t45, t46, t47, t48, t49, t50, t51, t52, t53, t54, t55, t56, t57, t58, t146, t147, t148, t149, t150, t151, t152, t1, t2, t4, t16, t17, t18, t24]
                      rw [el] at ha'
                      subst ha'
                      clear et hus t0 t3 t5 t6 t7 t8 t9 t10 t12 t13 t14 t15 t25 t26 t27 t28 t29 t30 t31 t32 t33 t34 t35 t36 t37 t38 t39 t40 t41 t42 t43 t44 t45 t46 t47 t48 t49 t50 t51 t52 t53 t54 t55 t56 t57 t58 t146 t147 t148 t149 t150 t151 t152 t1 t2 t4 t16 t17 t18 t24 el hf' hs' hd'
                      have HPd := Lib.hid (HPc.out.keep hW)
                      have HRl3 := Lib.hid (HRl2.out.below (Nat.le_refl _) hW)
                      have HRt := Lib.hid hrt.bys
                      clear hW hG HPc HRl2 hrt HBu
                      have c1 := conv_bys HRt.out
                      have c2 := conv_bys HRl3.out
                      by_cases hto : tq = rq
                      · subst hto
                        obtain ⟨X2, hX2⟩ : ∃ X2 : ByteArray, X2 = ⟨tq.toArray⟩ := ⟨_, rfl⟩
                        rw [← hX2] at c1 c2
                        have hxx : (X2.toList == X2.toList) = true := beq_self_eq_true _
                        clear hX2
                        have hanswer := HAns.out.2 rfl
                        have HAns2 := Lib.hid hanswer
                        clear hanswer
                        go_wp2_with (first
                          | refine wpList_slice_by rfl 30 (.tmp 143) none (some (.tmp 144)) rfl (.slice (some pad) p1 pc1) (.slice (some pad) z pc1) none (some (.int .i64 (z : Int))) rfl rfl rfl (HSl.out _) ?_
                          | fail)
                        clear c1 c2
                        go_roundw
                        case rel => exact ⟨T1.drop k, i2, ps1.dropLast, _, (.slice (some pad) z pc1), rfl, by rw [HI2.out], rfl, HVd.out, HT1.out.drop k, HVz.out, HLk.out, HSk.out, HAns2.out, HPd.out⟩
                        case measure =>
                          show m1 - k < m1
                          omega
                      · obtain ⟨X2, Y2, hX2, hY2, hXY2⟩ := strs_of tq rq
                        rw [← hX2] at c1
                        rw [← hY2] at c2
                        have hxx : (X2.toList == Y2.toList) = false := by rw [hXY2]; exact decide_eq_false hto
                        clear hX2 hY2 hXY2
                        have HAns2 := Lib.hid (HAns.out.1 hto)
                        go_wp2_with (refine wpList_store_row rfl 51 (.tmp 10) (.tmp 135) rfl w.heap.size (prC ar rq.length cr at2 tq.length ct2) rfl rfl 51 _ HPd.out.1 (size_pair _ _ _ _ _ _) rfl (pair_one _ _ _ _ _ _) ?_)
                        exact bodyPost_ret (v := .tuple #[.agg (prC ar rq.length cr at2 tq.length ct2), .int .i64 0]) (ret_pair rfl _ _ w.heap.size _ _ _ _ _ _ _ rfl rfl (Blk.row HPd.out.1 _)) rfl ⟨_, rfl, by rw [HAns2.out]; exact ⟨ar, cr, at2, ct2, rfl, HRl3.out.farP HPd.out.1 (prC_far _ _ _ _ _ _), HRt.out.farP HPd.out.1 (prC_far _ _ _ _ _ _)⟩, below_setRow HPd.out.2.2.2 _ _ (Nat.le_refl _)⟩
              · have hm11 : m1 = 1 := by omega
                subst hm11
                obtain ⟨t1, rfl⟩ : ∃ t, T1 = [t] := by
                  match T1, hm1 with
                  | [t], _ => exact ⟨t, rfl⟩
                  | [], h => simp at h
                  | _ :: _ :: _, h => simp at h
                rw [pathT_one n [t1] i1 x ps1 (by simp)] at hq1
                have hq2 : q = (0 :: t1, 0 :: x) := hq1.symm
                obtain ⟨ad, A, Cc, rfl, hc, hb⟩ := hv1.at_ (i := 0) (t := t1) rfl
                rw [show ad.add 0 = ad by simp [Addr.add]] at hc
                have hl1 := hT1.get (i := 0) (t := t1) rfl
                have HLd := Lib.hid (fun (W : World) (hW : Below w.heap.size w W) => load_txt W ad (.slice A t1.length Cc) (by rw [hW.cell (World.block_lt_of_cell? w _ hc)]; exact hc))
                have HL1 := Lib.hid (fun (W : World) (hW : Below w.heap.size w W) => refleaftext_any t1 (.slice A t1.length Cc) W (hb.below (Nat.le_refl _) hW) (by omega))
                have HL2 := Lib.hid (fun (W : World) (hW : Below w.heap.size w W) => refleaftext_any x (.slice ax lx cx) W (HX.out.below (Nat.le_refl _) hW) (by have := Hxl.out; omega))
                have HQ2 := Lib.hid hq2
                clear hv1 hT1 hvz hm1 hp1 hpl1 hq1 hq2 hc hb hi1' h2
                go_wp2_with (refine wpList_load_by rfl 22 (.tmp 147) rfl _ _ rfl (HLd.out _ HPa.out.2.2.2) ?_)
                refine (HL1.out _ HPa.out.2.2.2).mono ?_
                rintro e W2 ⟨u1, rfl, hr1, hb1⟩
                have HPb := Lib.hid (HPa.out.keep hb1)
                obtain ⟨a3, c3, rfl⟩ := slice_of_row hr1
                have HR1 := Lib.hid hr1.bys
                clear hr1 hb1 HPa HL1
                go_wp2_with fail
                refine (HL2.out _ HPb.out.2.2.2).mono ?_
                rintro e W3 ⟨u2, rfl, hr2, hb2⟩
                have HPc := Lib.hid (HPb.out.keep hb2)
                obtain ⟨a4, c4, rfl⟩ := slice_of_row hr2
                have HR2 := Lib.hid hr2.bys
                have HR12 := Lib.hid (HR1.out.below (Nat.le_refl _) hb2)
                clear hr2 hb2 HPb HL2 HR1
                go_wp2_with (refine wpList_store_row rfl 51 (.tmp 10) (.tmp 152) rfl w.heap.size (prC a3 (0 :: t1).length c3 a4 (0 :: x).length c4) rfl rfl 51 _ HPc.out.1 (size_pair _ _ _ _ _ _) rfl (pair_one _ _ _ _ _ _) ?_)
                exact bodyPost_ret (v := .tuple #[.agg (prC a3 (0 :: t1).length c3 a4 (0 :: x).length c4), .int .i64 0]) (ret_pair rfl _ _ w.heap.size _ _ _ _ _ _ _ rfl rfl (Blk.row HPc.out.1 _)) rfl ⟨_, rfl, by rw [HQ2.out]; exact ⟨a3, c3, a4, c4, rfl, HR12.out.farP HPc.out.1 (prC_far _ _ _ _ _ _), HR2.out.farP HPc.out.1 (prC_far _ _ _ _ _ _)⟩, below_setRow HPc.out.2.2.2 _ _ (Nat.le_refl _)⟩
    · rw [if_pos hcr]
      subst h0
      rw [show ((0 : Nat) : Int) = 0 from rfl] at HClimb
      have HNq := Lib.hid (fun s t W => neq_hash_ne s t C ro hC32 hro32 hcr W)
      clear hv hT hvx hvp hk hn hm hlx hp hh hh32 hC hC32 hE hro hro32 hcr
      go_enter Tryd.func38, Tryd.ntmps38
      go_wp2_with fail
      refine HLeaf.out.mono ?_
      rintro e W1 ⟨rfl, hb1⟩
      have HB1 := Lib.hid ((Below.refl w.heap.size w).alloc (Nat.le_refl _) (.cells (prC none 0 0 none 0 0) 51) |>.trans (hb1.mono (by simp)))
      have HPr := Lib.hid ((Blk.new w 51 (prC none 0 0 none 0 0)).keep hb1)
      clear hb1 HLeaf
      go_upto_region 3 with (refine wpList_store_row rfl 24 (.tmp 13) (.tmp 30) rfl W1.heap.size (bs h) rfl rfl 24 _ (Blk.new W1 _ _) HSh.out (by simp [bs_size, Hh.out]) (bs_one _) ?_)
      obtain ⟨g, hg⟩ : ∃ g, g = W1.heap.size := ⟨_, rfl⟩
      refine world_cut (fun W => PaW w g h W) ⟨HPr.out.keep (below_new W1 _ _ _), by rw [hg]; exact Blk.row (Blk.new W1 _ _) _, by rw [hg]; exact HPr.out.lt, HB1.out.trans ((below_new W1 _ _ _).mono HB1.out.size)⟩ ?_
      rw [← hg]
      clear hg HPr HB1
      intro W2 hW2
      have HPa := Lib.hid hW2
      clear hW2
      go_wp2_with (refine wpList_load_row rfl 24 (.tmp 13) rfl g rfl 24 (bs h) (0, 0) _ HPa.out.2.1 Tryd.underlying24 rfl HSh.out ?_)
      refine (HClimb.out _ HPa.out.2.2.2).mono ?_
      rintro e W3 ⟨rfl, hb3⟩
      have HPa3 := Lib.hid (HPa.out.keep hb3)
      clear hb3 HClimb HPa
      go_upto_region 4 with (refine wpList_store_row rfl 24 (.tmp 14) (.tmp 38) rfl W3.heap.size (bs C) rfl rfl 24 _ (Blk.new W3 _ _) HSC.out (by simp [bs_size, HC32.out]) (bs_one _) ?_)
      obtain ⟨g2, hg2⟩ : ∃ g, g = W3.heap.size := ⟨_, rfl⟩
      refine world_cut (fun W => PaW w g h W ∧ Blk W g2 24 (bs C)) ⟨HPa3.out.keep (below_new W3 _ _ _), by rw [hg2]; exact Blk.row (Blk.new W3 _ _) _⟩ ?_
      rw [← hg2]
      clear hg2 HPa3
      rintro W4 ⟨hW4, hb4⟩
      have HPa := Lib.hid hW4
      have HC4 := Lib.hid hb4
      clear hW4 hb4
      go_upto_region 6 with fail
      have hG : ∀ W W' : World, Below W4.heap.size W4 W → Below W.heap.size W W' → Below W4.heap.size W4 W' := fun W W' h h' => h.trans (h'.mono h.size)
      refine region_by [(44, .is (.agg (bs C))), (45, .is (.int .i64 n)), (46, .is (.slice pv m cv)), (47, .is (.agg (bs ro))), (48, .is (.bool true))] [0, 1, 2, 3, 4, 10, 11, 13, 48] (fun W => Below W4.heap.size W4 W) (by kernel_rfl) (by kernel_rfl) (by kernel_rfl) (by kernel_rfl) (by kernel_rfl) ((Below.refl _ _).drew) ?_ ?_
      · refine ⟨?c0, ?c1, ?c2, ?c3, ?c4, trivial⟩
        case c0 => exact ask_load (guard_none rfl) _ (.tmp 14) (.pointer (some ⟨g2, 0, none⟩)) (.agg (bs C)) rfl rfl (by intro k hk; cases hk; rfl) (fun W hW => (HC4.out.keep hW).loads 24 _ Tryd.underlying24 rfl HSC.out)
        case c1 => exact ask_copy (guard_none rfl) (.tmp 0) (.inl rfl) (by intro k hk; cases hk; rfl)
        case c2 => exact ask_copy (guard_none rfl) (.tmp 1) (.inl rfl) (by intro k hk; cases hk; rfl)
        case c3 => exact ask_call hG (guard_none rfl) _ _ _ #[.int .i64 n, .slice pv m cv] (.is (.agg (bs ro))) rfl (by kernel_rfl) rfl rfl (by intro k hk; cases hk; rfl) (fun W hW => (HRo.out W (HPa.out.2.2.2.trans (hW.mono HPa.out.2.2.2.size))).mono fun e w' h => ⟨_, h.1, rfl, h.2⟩)
        case c4 => exact ask_bin (guard_none rfl) .neq _ _ (.tmp 44) (.tmp 47) (.agg (bs C)) (.agg (bs ro)) (.bool true) rfl rfl rfl (by intro k hk; cases hk; rfl) (HNq.out _ _)
      · intro a' W5 hW hd' hs' hf'
        have t0 : a'.tmps.getD 0 undef = .int .i64 n := hf' 0 rfl
        have t1 : a'.tmps.getD 1 undef = .slice pv m cv := hf' 1 rfl
        have t2 : a'.tmps.getD 2 undef = .int .u64 (i : Int) := hf' 2 rfl
        have t3 : a'.tmps.getD 3 undef = .slice ax lx cx := hf' 3 rfl
        have t4 : a'.tmps.getD 4 undef = .slice pp p pc := hf' 4 rfl
        have t10 : a'.tmps.getD 10 undef = .pointer (some ⟨w.heap.size, 0, none⟩) := hf' 10 rfl
        have t11 : a'.tmps.getD 11 undef = .int .i64 0 := hf' 11 rfl
        have t13 : a'.tmps.getD 13 undef = .pointer (some ⟨g, 0, none⟩) := hf' 13 rfl
        have t48 : a'.tmps.getD 48 undef = .bool true := hf' 48 rfl
        obtain ⟨ks', hus, ha'⟩ := act_open 153 a' hs' hd'
        rw [← hus] at t0 t1 t2 t3 t4 t10 t11 t13 t48
        have el : ((List.range 153).map ks').toArray = #[.int .i64 n, .slice pv m cv, .int .u64 (i : Int), .slice ax lx cx, .slice pp p pc, ks' 5, ks' 6, ks' 7, ks' 8, ks' 9, .pointer (some ⟨w.heap.size, 0, none⟩), .int .i64 0, ks' 12, .pointer (some ⟨g, 0, none⟩), ks' 14, ks' 15, ks' 16, ks' 17, ks' 18, ks' 19, ks' 20, ks' 21, ks' 22, ks' 23, ks' 24, ks' 25, ks' 26, ks' 27, ks' 28, ks' 29, ks' 30, ks' 31, ks' 32, ks' 33, ks' 34, ks' 35, ks' 36, ks' 37, ks' 38, ks' 39, ks' 40, ks' 41, ks' 42, ks' 43, ks' 44, ks' 45, ks' 46, ks' 47, .bool true, ks' 49, ks' 50, ks' 51, ks' 52, ks' 53, ks' 54, ks' 55, ks' 56, ks' 57, ks' 58, ks' 59, ks' 60, ks' 61, ks' 62, ks' 63, ks' 64, ks' 65, ks' 66, ks' 67, ks' 68, ks' 69, ks' 70, ks' 71, ks' 72, ks' 73, ks' 74, ks' 75, ks' 76, ks' 77, ks' 78, ks' 79, ks' 80, ks' 81, ks' 82, ks' 83, ks' 84, ks' 85, ks' 86, ks' 87, ks' 88, ks' 89, ks' 90, ks' 91, ks' 92, ks' 93, ks' 94, ks' 95, ks' 96, ks' 97, ks' 98, ks' 99, ks' 100, ks' 101, ks' 102, ks' 103, ks' 104, ks' 105, ks' 106, ks' 107, ks' 108, ks' 109, ks' 110, ks' 111, ks' 112, ks' 113, ks' 114, ks' 115, ks' 116, ks' 117, ks' 118, ks' 119, ks' 120, ks' 121, ks' 122, ks' 123, ks' 124, ks' 125, ks' 126, ks' 127, ks' 128, ks' 129, ks' 130, ks' 131, ks' 132, ks' 133, ks' 134, ks' 135, ks' 136, ks' 137, ks' 138, ks' 139, ks' 140, ks' 141, ks' 142, ks' 143, ks' 144, ks' 145, ks' 146, ks' 147, ks' 148, ks' 149, ks' 150, ks' 151, ks' 152] := by
          show #[ks' 0, ks' 1, ks' 2, ks' 3, ks' 4, ks' 5, ks' 6, ks' 7, ks' 8, ks' 9, ks' 10, ks' 11, ks' 12, ks' 13, ks' 14, ks' 15, ks' 16, ks' 17, ks' 18, ks' 19, ks' 20, ks' 21, ks' 22, ks' 23, ks' 24, ks' 25, ks' 26, ks' 27, ks' 28, ks' 29, ks' 30, ks' 31, ks' 32, ks' 33, ks' 34, ks' 35, ks' 36, ks' 37, ks' 38, ks' 39, ks' 40, ks' 41, ks' 42, ks' 43, ks' 44, ks' 45, ks' 46, ks' 47, ks' 48, ks' 49, ks' 50, ks' 51, ks' 52, ks' 53, ks' 54, ks' 55, ks' 56, ks' 57, ks' 58, ks' 59, ks' 60, ks' 61, ks' 62, ks' 63, ks' 64, ks' 65, ks' 66, ks' 67, ks' 68, ks' 69, ks' 70, ks' 71, ks' 72, ks' 73, ks' 74, ks' 75, ks' 76, ks' 77, ks' 78, ks' 79, ks' 80, ks' 81, ks' 82, ks' 83, ks' 84, ks' 85, ks' 86, ks' 87, ks' 88, ks' 89, ks' 90, ks' 91, ks' 92, ks' 93, ks' 94, ks' 95, ks' 96, ks' 97, ks' 98, ks' 99, ks' 100, ks' 101, ks' 102, ks' 103, ks' 104, ks' 105, ks' 106, ks' 107, ks' 108, ks' 109, ks' 110, ks' 111, ks' 112, ks' 113, ks' 114, ks' 115, ks' 116, ks' 117, ks' 118, ks' 119, ks' 120, ks' 121, ks' 122, ks' 123, ks' 124, ks' 125, ks' 126, ks' 127, ks' 128, ks' 129, ks' 130, ks' 131, ks' 132, ks' 133, ks' 134, ks' 135, ks' 136, ks' 137, ks' 138, ks' 139, ks' 140, ks' 141, ks' 142, ks' 143, ks' 144, ks' 145, ks' 146, ks' 147, ks' 148, ks' 149, ks' 150, ks' 151, ks' 152] = _
          rw [t0, t1, t2, t3, t4, t10, t11, t13, t48]
        rw [el] at ha'
        subst ha'
        clear hus t0 t1 t2 t3 t4 t10 t11 t13 t48 el hf' hs' hd'
        have HPa5 := Lib.hid (HPa.out.keep hW)
        clear hW hG HPa HC4 HRo
        go_wp2_with (refine wpList_store_row rfl 51 (.tmp 10) (.tmp 49) rfl w.heap.size (prC none 0 0 none 0 0) rfl rfl 51 _ HPa5.out.1 (size_pair _ _ _ _ _ _) rfl (pair_one _ _ _ _ _ _) ?_)
        exact bodyPost_ret (v := .tuple #[.agg (prC none 0 0 none 0 0), .int .i64 3]) (ret_pair rfl _ _ w.heap.size _ _ _ _ _ _ _ rfl rfl (Blk.row HPa5.out.1 _)) rfl ⟨_, rfl, PairB.none _, below_setRow HPa5.out.2.2.2 _ _ (Nat.le_refl _)⟩
  · rw [if_pos h0]
    have hne : ((E : Int) != 0) = true := by simpa using h0
    clear hv hT hvx hvp hk hn hm hlx hp hh hh32 hC hC32 hE hro hro32
    go_enter Tryd.func38, Tryd.ntmps38
    go_wp2_with fail
    refine HLeaf.out.mono ?_
    rintro e W1 ⟨rfl, hb1⟩
    have HB1 := Lib.hid ((Below.refl w.heap.size w).alloc (Nat.le_refl _) (.cells (prC none 0 0 none 0 0) 51) |>.trans (hb1.mono (by simp)))
    have HPr := Lib.hid ((Blk.new w 51 (prC none 0 0 none 0 0)).keep hb1)
    clear hb1 HLeaf
    go_upto_region 3 with (refine wpList_store_row rfl 24 (.tmp 13) (.tmp 30) rfl W1.heap.size (bs h) rfl rfl 24 _ (Blk.new W1 _ _) HSh.out (by simp [bs_size, Hh.out]) (bs_one _) ?_)
    obtain ⟨g, hg⟩ : ∃ g, g = W1.heap.size := ⟨_, rfl⟩
    refine world_cut (fun W => PaW w g h W) ⟨HPr.out.keep (below_new W1 _ _ _), by rw [hg]; exact Blk.row (Blk.new W1 _ _) _, by rw [hg]; exact HPr.out.lt, HB1.out.trans ((below_new W1 _ _ _).mono HB1.out.size)⟩ ?_
    rw [← hg]
    clear hg HPr HB1
    intro W2 hW2
    have HPa := Lib.hid hW2
    clear hW2
    go_wp2_with (refine wpList_load_row rfl 24 (.tmp 13) rfl g rfl 24 (bs h) (0, 0) _ HPa.out.2.1 Tryd.underlying24 rfl HSh.out ?_)
    refine (HClimb.out _ HPa.out.2.2.2).mono ?_
    rintro e W3 ⟨rfl, hb3⟩
    have HPa3 := Lib.hid (HPa.out.keep hb3)
    clear hb3 HClimb HPa
    go_upto_region 4 with (refine wpList_store_row rfl 24 (.tmp 14) (.tmp 38) rfl W3.heap.size (bs C) rfl rfl 24 _ (Blk.new W3 _ _) HSC.out (by simp [bs_size, HC32.out]) (bs_one _) ?_)
    obtain ⟨g2, hg2⟩ : ∃ g, g = W3.heap.size := ⟨_, rfl⟩
    refine world_cut (fun W => PaW w g h W ∧ Blk W g2 24 (bs C)) ⟨HPa3.out.keep (below_new W3 _ _ _), by rw [hg2]; exact Blk.row (Blk.new W3 _ _) _⟩ ?_
    rw [← hg2]
    clear hg2 HPa3
    rintro W4 ⟨hW4, hb4⟩
    have HPa := Lib.hid hW4
    have HC4 := Lib.hid hb4
    clear hW4 hb4
    go_wp2_with (refine wpList_store_row rfl 51 (.tmp 10) (.tmp 42) rfl w.heap.size (prC none 0 0 none 0 0) rfl rfl 51 _ HPa.out.1 (size_pair _ _ _ _ _ _) rfl (pair_one _ _ _ _ _ _) ?_)
    exact bodyPost_ret (v := .tuple #[.agg (prC none 0 0 none 0 0), .int .i64 (E : Int)]) (ret_pair rfl _ _ w.heap.size _ _ _ _ _ _ _ rfl rfl (Blk.row HPa.out.1 _)) rfl ⟨_, rfl, PairB.none _, below_setRow HPa.out.2.2.2 _ _ (Nat.le_refl _)⟩
end Go.Proofs.YtdhfabjkpffhnaaDoor

/- Layer 17's reference: Growth. -/
namespace Go.Proofs.YtdhfabjkpffhnaaDoor
set_option maxRecDepth 20000
open Go.RowKit ShaMath LeafMath PathMath GrowthMath ClashMath Reg

/-- A hash in a block of the call's own, and a result's block. -/
def PgW (w : World) (h : Hs) (W : World) : Prop := Blk W w.heap.size 24 (bs h) ∧ Blk W (w.heap.size + 1) 51 (prC none 0 0 none 0 0) ∧ Below w.heap.size w W
theorem PgW.new (w : World) (h : Hs) : PgW w h ((w.alloc (.cells (bs h) 24)).alloc (.cells (prC none 0 0 none 0 0) 51)) :=
  ⟨(Blk.new w _ _).alloc _, Blk.newAt _ _ _ _ _ (by simp) rfl, ((Below.refl _ _).alloc (Nat.le_refl _) _).alloc (by simp) _⟩
theorem PgW.keep {w W W' : World} {h : Hs} (H : PgW w h W) (hb : Below W.heap.size W W') : PgW w h W' := ⟨H.1.keep hb, H.2.1.keep hb, H.2.2.trans (hb.mono H.2.2.size)⟩

/-- Tell the world by facts, in the midst of a region. -/
theorem world_cutL {P : Program} {ops : Array Oper} {rest : List Oper} {Q : Exit → Act → World → Prop} {a : Act} {W : World} (φ : World → Prop) (h : φ W) (k : ∀ W', φ W' → wpList P ops Q rest a W') : wpList P ops Q rest a W := k W h

theorem PgW.lt {w W : World} {h : Hs} (H : PgW w h W) : w.heap.size + 2 ≤ W.heap.size := by
  have := H.2.1.lt
  omega
theorem PgW.row {w W : World} {h : Hs} (H : PgW w h W) (g : Nat) (cs : Array Value) (hg : w.heap.size + 2 ≤ g) : PgW w h (W.setRow g cs) := ⟨H.1.rowOther _ (by omega), H.2.1.rowOther _ (by omega), below_setRow H.2.2 _ _ (by omega)⟩
theorem PgW.two {w W : World} {h : Hs} (H : PgW w h W) (z1 z2 : Array Value) (C : Hs) (hz : z2.size = 32) :
    PgW w h (((W.alloc (.cells z1 24)).alloc (.cells z2 24)).setRow W.heap.size (bs C)) ∧ Blk (((W.alloc (.cells z1 24)).alloc (.cells z2 24)).setRow W.heap.size (bs C)) W.heap.size 24 (bs C) ∧ ∃ zs, Blk (((W.alloc (.cells z1 24)).alloc (.cells z2 24)).setRow W.heap.size (bs C)) (W.heap.size + 1) 24 zs ∧ zs.size = 32 :=
  ⟨H.keep (below_setRow (((Below.refl _ _).alloc (Nat.le_refl _) _).alloc (by simp) _) _ _ (Nat.le_refl _)), Blk.row ((Blk.new W _ _).alloc _) _, z2, Blk.rowOther (Blk.newAt _ _ _ _ _ (by simp) rfl) _ (by omega), hz⟩

theorem eql_hash_ne (s t : Operand) (X Y : List UInt8) (hX : X.length = 32) (hY : Y.length = 32) (h : X ≠ Y) (W : World) : (do eqGuard .eql 24 s t (.agg (bs X)) (.agg (bs Y)); binOp .eql 24 (.agg (bs X)) (.agg (bs Y)) : Sem Value).run Tryd.prog W = .ok (.bool false) W := by
  rw [eql_hash2 s t X Y hX hY W, show (X == Y) = false from beq_false_of_ne h]

/-- Between the rounds. -/
def GrowAtC (n : Int) (h : Hs) (q : Option (Bs × Bs)) (w : World) (s1 s2 s4 s16 : Value) (wr : World) : Prop :=
  ∃ (T : List Bs) (m : Nat) (ps : List Hs) (b : Bool) (v1 v4 : Value), s1 = v1 ∧ s2 = .int .u64 (m : Int) ∧ s4 = v4 ∧ s16 = .bool b ∧ Txs w v1 T ∧ Shorts T ∧ Hss w v4 ps ∧ 1 ≤ m ∧ m ≤ T.length ∧ ps.length = sizeG m T.length b ∧ growT n T m h ps b = q ∧ PgW w h wr

set_option maxHeartbeats 4000000 in
set_option maxRecDepth 100000 in
theorem refgrowC_any (n : Int) (hn : I64 n) (T : List Bs) (m : Nat) (h : Hs) (ps : List Hs) (v vp : Value) (w : World) (hv : Txs w v T) (hT : Shorts T) (hm64 : m < 18446744073709551616) (hh : h.length = 32) (hvp : Hss w vp ps) (hk : Consts w) :
    Calls Tryd.prog 40 #[.int .i64 n, v, .int .u64 (m : Int), .agg (bs h), vp] w fun e w' => ∃ u, e = .returned (.tuple #[u, .int .i64 ((growC n T m h ps).2 : Int)]) ∧ PairB w' u (growC n T m h ps).1 ∧ Below w.heap.size w w' := by
  obtain ⟨pv, cv, rfl, hcv⟩ := hv.form
  obtain ⟨pp, pc, rfl, hpc⟩ := hvp.form
  obtain ⟨M, hm⟩ : ∃ m, m = T.length := ⟨_, rfl⟩
  obtain ⟨p, hp⟩ : ∃ p, p = ps.length := ⟨_, rfl⟩
  rw [← hm] at hv hcv ⊢
  rw [← hp] at hvp hpc ⊢
  have hm80 : M ≤ 80 := by rw [hm]; exact hT.few
  have HP := Lib.hid (PgW.new w h)
  obtain ⟨C, hC, hC32⟩ : ∃ C, C = (climbGR n h m M ps).1.1 ∧ C.length = 32 := ⟨_, rfl, (climbGR_32 n h m M ps hh hvp.all).1⟩
  obtain ⟨D, hD, hD32⟩ : ∃ D, D = (climbGR n h m M ps).1.2 ∧ D.length = 32 := ⟨_, rfl, (climbGR_32 n h m M ps hh hvp.all).2⟩
  obtain ⟨E, hE⟩ : ∃ E, E = (climbGR n h m M ps).2 := ⟨_, rfl⟩
  obtain ⟨ro, hro, hro32⟩ : ∃ r, r = rootT n T ∧ r.length = 32 := ⟨_, rfl, rootT_length _ _⟩
  have HClimb := Lib.hid (fun (W : World) (hW : Below w.heap.size w W) => refclimb16_any n hn h m M ps (.slice pp p pc) W hh hm64 (by omega) (hvp.below (Nat.le_refl _) hW) (hk.below (Nat.le_refl _) hW))
  rw [← hC, ← hD, ← hE] at HClimb
  have HRo := Lib.hid (fun (W : World) (hW : Below w.heap.size w W) => refrootT_any n hn T (.slice pv M cv) W (hv.below (Nat.le_refl _) hW) hT (hk.below (Nat.le_refl _) hW))
  rw [← hro] at HRo
  have HSh := Lib.hid (size_hash (cs := bs h) (by rw [bs_size, hh]))
  have HSC := Lib.hid (size_hash (cs := bs C) (by rw [bs_size, hC32]))
  have HSD := Lib.hid (size_hash (cs := bs D) (by rw [bs_size, hD32]))
  have Hh := Lib.hid hh
  have HC32 := Lib.hid hC32
  have HD32 := Lib.hid hD32
  have hdef : growC n T m h ps = if E ≠ 0 then (([], []), E) else if C ≠ h ∨ D ≠ ro then (([], []), 3) else if h = rootT n (T.take m) then (([], []), 8) else (match growT n T m h ps true with | some q => (q, 0) | none => (([], []), 8)) := by
    rw [growC, ← hm, ← hC, ← hD, ← hE, ← hro]; rfl
  rw [hdef]
  clear hdef
  by_cases h0 : E = 0
  · rw [if_neg (by simpa using h0)]
    obtain ⟨hm1, hmM, hpl, _⟩ := climbGR_ok (n := n) (h := h) (m := m) (N := M) (p := ps) (by rw [← hE]; exact h0)
    subst h0
    rw [show ((0 : Nat) : Int) = 0 from rfl] at HClimb
    have h00 : ((0 : Int) != 0) = false := rfl
    by_cases hch : C = h
    · by_cases hdr : D = ro
      · rw [if_neg (by simp [hch, hdr])]
        subst hdr
        obtain rfl : h = C := hch.symm
        have HNq := Lib.hid (fun s t W => neq_hash s t h hC32 W)
        have HNq2 := Lib.hid (fun s t W => neq_hash s t D hD32 W)
        obtain ⟨rm, hrm, hrm32⟩ : ∃ r, r = rootT n (T.take m) ∧ r.length = 32 := ⟨_, rfl, rootT_length _ _⟩
        have HRm := Lib.hid (fun (W : World) (hW : Below w.heap.size w W) => refrootT_any n hn (T.take m) (.slice pv m cv) W ((hv.take m hmM).below (Nat.le_refl _) hW) (hT.take m) (hk.below (Nat.le_refl _) hW))
        rw [← hrm] at HRm ⊢
        have HSm := Lib.hid (fun W => slice_txs_toU pv M cv m (by omega) W)
        by_cases hold : h = rm
        · rw [if_pos hold]
          obtain rfl : rm = h := hold.symm
          have HEl := Lib.hid (fun s t W => eql_hash s t rm hC32 W)
          clear hv hT hvp hk hn hm hp hh hC hC32 hD hD32 hE hro hro32 hch hrm hrm32 hpl hold
          go_enter Tryd.func40, Tryd.ntmps40
          go_upto_region 2 with fail
          refine world_cut (fun W => PgW w rm W) HP.out ?_
          clear HP
          intro W2 hW2
          have HPa := Lib.hid hW2
          clear hW2
          go_wp2_with (refine wpList_load_row rfl 24 (.tmp 8) rfl w.heap.size rfl 24 (bs rm) (0, 0) _ HPa.out.1 Tryd.underlying24 rfl HSh.out ?_)
          refine (HClimb.out _ HPa.out.2.2).mono ?_
          rintro e W3 ⟨rfl, hb3⟩
          have HPa3 := Lib.hid (HPa.out.keep hb3)
          clear hb3 HClimb HPa
          go_upto_region 3 with (first
            | (refine wpList_store_row rfl 24 (.tmp 13) (.tmp 31) rfl W3.heap.size (bs rm) rfl rfl 24 _ ((Blk.new W3 _ _).alloc _) HSh.out (by simp [bs_size, Hh.out]) (bs_one _) ?_; refine world_cutL (fun W => PgW w rm W ∧ Blk W W3.heap.size 24 (bs rm) ∧ ∃ zs, Blk W (W3.heap.size + 1) 24 zs ∧ zs.size = 32) (HPa3.out.two _ _ rm rfl) ?_; rintro W5 ⟨hp5, hc5, zs, hz5, hzs⟩; (have HPa5 := Lib.hid hp5); (have HC5 := Lib.hid hc5); (have HZ5 := Lib.hid hz5); (have HZs := Lib.hid hzs); clear hp5 hc5 hz5 hzs)
            | (refine wpList_store_row rfl 24 (.tmp 14) (.tmp 32) rfl (W3.heap.size + 1) (bs D) rfl rfl 24 zs HZ5.out HSD.out (by rw [bs_size, HD32.out, HZs.out]) (bs_one _) ?_))
          obtain ⟨g1, hg1⟩ : ∃ g, g = W3.heap.size := ⟨_, rfl⟩
          have hw3 := HPa3.out.lt
          refine world_cut (fun W => PgW w rm W ∧ Blk W g1 24 (bs rm) ∧ Blk W (g1 + 1) 24 (bs D)) ⟨HPa5.out.row _ _ (by omega), by rw [hg1]; exact HC5.out.rowOther _ (by omega), by rw [hg1]; exact HZ5.out.row _⟩ ?_
          rw [← hg1]
          clear hg1 HPa3 HPa5 HC5 HZ5 HZs hw3
          rintro W4 ⟨hW4, hb4, hb5⟩
          have HPa := Lib.hid hW4
          have HC4 := Lib.hid hb4
          have HD4 := Lib.hid hb5
          clear hW4 hb4 hb5
          go_upto_region 5 with fail
          have hG : ∀ W W' : World, Below W4.heap.size W4 W → Below W.heap.size W W' → Below W4.heap.size W4 W' := fun W W' h h' => h.trans (h'.mono h.size)
          refine region_skip [(38, .is (.agg (bs rm))), (39, .is (.agg (bs rm))), (40, .is (.bool false)), (41, .is (.bool false)), (42, .is (.agg (bs D))), (43, .is (.int .i64 n)), (44, .is (.slice pv M cv)), (45, .is (.agg (bs D))), (46, .is (.bool false)), (47, .is (.bool false))] [0, 1, 2, 4, 8, 10, 11, 47] (fun W => Below W4.heap.size W4 W) (by kernel_rfl) (by kernel_rfl) (by kernel_rfl) (by kernel_rfl) (by kernel_rfl) ((Below.refl _ _).drew) ?_ ?_
          · refine ⟨?c0, ?c1, ?c2, ?c3, ?c4, ?c5, ?c6, ?c7, ?c8, ?c9, trivial⟩
            case c0 => exact runs (ask_load (guard_none rfl) _ (.tmp 13) (.pointer (some ⟨g1, 0, none⟩)) (.agg (bs rm)) rfl rfl (by intro k hk; cases hk; rfl) (fun W hW => (HC4.out.keep hW).loads 24 _ Tryd.underlying24 rfl HSh.out))
            case c1 => exact runs (ask_load (guard_none rfl) _ (.tmp 8) (.pointer (some ⟨w.heap.size, 0, none⟩)) (.agg (bs rm)) rfl rfl (by intro k hk; cases hk; rfl) (fun W hW => (HPa.out.keep hW).1.loads 24 _ Tryd.underlying24 rfl HSh.out))
            case c2 => exact runs (ask_bin (guard_none rfl) .neq _ _ (.tmp 38) (.tmp 39) (.agg (bs rm)) (.agg (bs rm)) (.bool false) rfl rfl rfl (by intro k hk; cases hk; rfl) (HNq.out _ _))
            case c3 => exact runs (ask_copy (guard_none rfl) (.tmp 40) (.inl rfl) (by intro k hk; cases hk; rfl))
            case c4 => exact runs (ask_load (guard_some rfl rfl rfl) _ (.tmp 14) (.pointer (some ⟨g1 + 1, 0, none⟩)) (.agg (bs D)) rfl rfl (by intro k hk; cases hk; rfl) (fun W hW => (HD4.out.keep hW).loads 24 _ Tryd.underlying24 rfl HSD.out))
            case c5 => exact runs (ask_copy (guard_some rfl rfl rfl) (.tmp 0) (.inl rfl) (by intro k hk; cases hk; rfl))
            case c6 => exact runs (ask_copy (guard_some rfl rfl rfl) (.tmp 1) (.inl rfl) (by intro k hk; cases hk; rfl))
            case c7 => exact runs (ask_call hG (guard_some rfl rfl rfl) _ _ _ #[.int .i64 n, .slice pv M cv] (.is (.agg (bs D))) rfl (by kernel_rfl) rfl rfl (by intro k hk; cases hk; rfl) (fun W hW => (HRo.out W (HPa.out.2.2.trans (hW.mono HPa.out.2.2.size))).mono fun e w' h => ⟨_, h.1, rfl, h.2⟩))
            case c8 => exact runs (ask_bin (guard_some rfl rfl rfl) .neq _ _ (.tmp 42) (.tmp 45) (.agg (bs D)) (.agg (bs D)) (.bool false) rfl rfl rfl (by intro k hk; cases hk; rfl) (HNq2.out _ _))
            case c9 => exact runs (ask_pick (guard_none rfl) (.tmp 41) (.const (.bool true)) (.tmp 46) false rfl rfl (by intro k hk; cases hk; rfl))
          · intro a' W5 hW hd' hs' hf'
            have t0 : a'.tmps.getD 0 undef = .int .i64 n := hf' 0 rfl
            have t1 : a'.tmps.getD 1 undef = .slice pv M cv := hf' 1 rfl
            have t2 : a'.tmps.getD 2 undef = .int .u64 (m : Int) := hf' 2 rfl
            have t4 : a'.tmps.getD 4 undef = .slice pp p pc := hf' 4 rfl
            have t8 : a'.tmps.getD 8 undef = .pointer (some ⟨w.heap.size, 0, none⟩) := hf' 8 rfl
            have t10 : a'.tmps.getD 10 undef = .pointer (some ⟨w.heap.size + 1, 0, none⟩) := hf' 10 rfl
            have t11 : a'.tmps.getD 11 undef = .int .i64 0 := hf' 11 rfl
            have t47 : a'.tmps.getD 47 undef = .bool false := hf' 47 rfl
            obtain ⟨ks', hus, ha'⟩ := act_open 137 a' hs' hd'
            rw [← hus] at t0 t1 t2 t4 t8 t10 t11 t47
            have el : ((List.range 137).map ks').toArray = #[.int .i64 n, .slice pv M cv, .int .u64 (m : Int), ks' 3, .slice pp p pc, ks' 5, ks' 6, ks' 7, .pointer (some ⟨w.heap.size, 0, none⟩), ks' 9, .pointer (some ⟨w.heap.size + 1, 0, none⟩), .int .i64 0, ks' 12, ks' 13, ks' 14, ks' 15, ks' 16, ks' 17, ks' 18, ks' 19, ks' 20, ks' 21, ks' 22, ks' 23, ks' 24, ks' 25, ks' 26, ks' 27, ks' 28, ks' 29, ks' 30, ks' 31, ks' 32, ks' 33, ks' 34, ks' 35, ks' 36, ks' 37, ks' 38, ks' 39, ks' 40, ks' 41, ks' 42, ks' 43, ks' 44, ks' 45, ks' 46, .bool false, ks' 48, ks' 49, ks' 50, ks' 51, ks' 52, ks' 53, ks' 54, ks' 55, ks' 56, ks' 57, ks' 58, ks' 59, ks' 60, ks' 61, ks' 62, ks' 63, ks' 64, ks' 65, ks' 66, ks' 67, ks' 68, ks' 69, ks' 70, ks' 71, ks' 72, ks' 73, ks' 74, ks' 75, ks' 76, ks' 77, ks' 78, ks' 79, ks' 80, ks' 81, ks' 82, ks' 83, ks' 84, ks' 85, ks' 86, ks' 87, ks' 88, ks' 89, ks' 90, ks' 91, ks' 92, ks' 93, ks' 94, ks' 95, ks' 96, ks' 97, ks' 98, ks' 99, ks' 100, ks' 101, ks' 102, ks' 103, ks' 104, ks' 105, ks' 106, ks' 107, ks' 108, ks' 109, ks' 110, ks' 111, ks' 112, ks' 113, ks' 114, ks' 115, ks' 116, ks' 117, ks' 118, ks' 119, ks' 120, ks' 121, ks' 122, ks' 123, ks' 124, ks' 125, ks' 126, ks' 127, ks' 128, ks' 129, ks' 130, ks' 131, ks' 132, ks' 133, ks' 134, ks' 135, ks' 136] := by
              show #[ks' 0, ks' 1, ks' 2, ks' 3, ks' 4, ks' 5, ks' 6, ks' 7, ks' 8, ks' 9, ks' 10, ks' 11, ks' 12, ks' 13, ks' 14, ks' 15, ks' 16, ks' 17, ks' 18, ks' 19, ks' 20, ks' 21, ks' 22, ks' 23, ks' 24, ks' 25, ks' 26, ks' 27, ks' 28, ks' 29, ks' 30, ks' 31, ks' 32, ks' 33, ks' 34, ks' 35, ks' 36, ks' 37, ks' 38, ks' 39, ks' 40, ks' 41, ks' 42, ks' 43, ks' 44, ks' 45, ks' 46, ks' 47, ks' 48, ks' 49, ks' 50, ks' 51, ks' 52, ks' 53, ks' 54, ks' 55, ks' 56, ks' 57, ks' 58, ks' 59, ks' 60, ks' 61, ks' 62, ks' 63, ks' 64, ks' 65, ks' 66, ks' 67, ks' 68, ks' 69, ks' 70, ks' 71, ks' 72, ks' 73, ks' 74, ks' 75, ks' 76, ks' 77, ks' 78, ks' 79, ks' 80, ks' 81, ks' 82, ks' 83, ks' 84, ks' 85, ks' 86, ks' 87, ks' 88, ks' 89, ks' 90, ks' 91, ks' 92, ks' 93, ks' 94, ks' 95, ks' 96, ks' 97, ks' 98, ks' 99, ks' 100, ks' 101, ks' 102, ks' 103, ks' 104, ks' 105, ks' 106, ks' 107, ks' 108, ks' 109, ks' 110, ks' 111, ks' 112, ks' 113, ks' 114, ks' 115, ks' 116, ks' 117, ks' 118, ks' 119, ks' 120, ks' 121, ks' 122, ks' 123, ks' 124, ks' 125, ks' 126, ks' 127, ks' 128, ks' 129, ks' 130, ks' 131, ks' 132, ks' 133, ks' 134, ks' 135, ks' 136] = _
              rw [t0, t1, t2, t4, t8, t10, t11, t47]
            rw [el] at ha'
            subst ha'
            clear hus t0 t1 t2 t4 t8 t10 t11 t47 el hf' hs' hd'
            have HPa5 := Lib.hid (HPa.out.keep hW)
            clear hW hG HPa HC4 HD4 HRo
            go_upto_region 7 with fail
            have hG : ∀ W W' : World, Below W5.heap.size W5 W → Below W.heap.size W W' → Below W5.heap.size W5 W' := fun W W' h h' => h.trans (h'.mono h.size)
            refine region_by [(49, .is (.agg (bs rm))), (50, .is (.int .i64 n)), (51, .is (.slice pv M cv)), (52, .is (.int .u64 (m : Int))), (53, .is (.slice pv m cv)), (54, .is (.agg (bs rm))), (55, .is (.bool true))] [0, 1, 2, 4, 8, 10, 11, 55] (fun W => Below W5.heap.size W5 W) (by kernel_rfl) (by kernel_rfl) (by kernel_rfl) (by kernel_rfl) (by kernel_rfl) ((Below.refl _ _).drew) ?_ ?_
            · refine ⟨?c0, ?c1, ?c2, ?c3, ?c4, ?c5, ?c6, trivial⟩
              case c0 => exact ask_load (guard_none rfl) _ (.tmp 8) (.pointer (some ⟨w.heap.size, 0, none⟩)) (.agg (bs rm)) rfl rfl (by intro k hk; cases hk; rfl) (fun W hW => (HPa5.out.keep hW).1.loads 24 _ Tryd.underlying24 rfl HSh.out)
              case c1 => exact ask_copy (guard_none rfl) (.tmp 0) (.inl rfl) (by intro k hk; cases hk; rfl)
              case c2 => exact ask_copy (guard_none rfl) (.tmp 1) (.inl rfl) (by intro k hk; cases hk; rfl)
              case c3 => exact ask_copy (guard_none rfl) (.tmp 2) (.inl rfl) (by intro k hk; cases hk; rfl)
              case c4 => exact ask_slice (guard_none rfl) _ (.tmp 51) none (some (.tmp 52)) none (.slice pv M cv) (.slice pv m cv) none (some (.int .u64 (m : Int))) none rfl rfl rfl rfl rfl (by intro k hk; cases hk; rfl) HSm.out
              case c5 => exact ask_call hG (guard_none rfl) _ _ _ #[.int .i64 n, .slice pv m cv] (.is (.agg (bs rm))) rfl (by kernel_rfl) rfl rfl (by intro k hk; cases hk; rfl) (fun W hW => (HRm.out W (HPa5.out.2.2.trans (hW.mono HPa5.out.2.2.size))).mono fun e w' h => ⟨_, h.1, rfl, h.2⟩)
              case c6 => exact ask_bin (guard_none rfl) .eql _ _ (.tmp 49) (.tmp 54) (.agg (bs rm)) (.agg (bs rm)) (.bool true) rfl rfl rfl (by intro k hk; cases hk; rfl) (HEl.out _ _)
            · intro a' W6 hW hd' hs' hf'
              have t0 : a'.tmps.getD 0 undef = .int .i64 n := hf' 0 rfl
              have t1 : a'.tmps.getD 1 undef = .slice pv M cv := hf' 1 rfl
              have t2 : a'.tmps.getD 2 undef = .int .u64 (m : Int) := hf' 2 rfl
              have t4 : a'.tmps.getD 4 undef = .slice pp p pc := hf' 4 rfl
              have t8 : a'.tmps.getD 8 undef = .pointer (some ⟨w.heap.size, 0, none⟩) := hf' 8 rfl
              have t10 : a'.tmps.getD 10 undef = .pointer (some ⟨w.heap.size + 1, 0, none⟩) := hf' 10 rfl
              have t11 : a'.tmps.getD 11 undef = .int .i64 0 := hf' 11 rfl
              have t55 : a'.tmps.getD 55 undef = .bool true := hf' 55 rfl
              obtain ⟨us', hus, ha'⟩ := act_open 137 a' hs' hd'
              rw [← hus] at t0 t1 t2 t4 t8 t10 t11 t55
              have el : ((List.range 137).map us').toArray = #[.int .i64 n, .slice pv M cv, .int .u64 (m : Int), us' 3, .slice pp p pc, us' 5, us' 6, us' 7, .pointer (some ⟨w.heap.size, 0, none⟩), us' 9, .pointer (some ⟨w.heap.size + 1, 0, none⟩), .int .i64 0, us' 12, us' 13, us' 14, us' 15, us' 16, us' 17, us' 18, us' 19, us' 20, us' 21, us' 22, us' 23, us' 24, us' 25, us' 26, us' 27, us' 28, us' 29, us' 30, us' 31, us' 32, us' 33, us' 34, us' 35, us' 36, us' 37, us' 38, us' 39, us' 40, us' 41, us' 42, us' 43, us' 44, us' 45, us' 46, us' 47, us' 48, us' 49, us' 50, us' 51, us' 52, us' 53, us' 54, .bool true, us' 56, us' 57, us' 58, us' 59, us' 60, us' 61, us' 62, us' 63, us' 64, us' 65, us' 66, us' 67, us' 68, us' 69, us' 70, us' 71, us' 72, us' 73, us' 74, us' 75, us' 76, us' 77, us' 78, us' 79, us' 80, us' 81, us' 82, us' 83, us' 84, us' 85, us' 86, us' 87, us' 88, us' 89, us' 90, us' 91, us' 92, us' 93, us' 94, us' 95, us' 96, us' 97, us' 98, us' 99, us' 100, us' 101, us' 102, us' 103, us' 104, us' 105, us' 106, us' 107, us' 108, us' 109, us' 110, us' 111, us' 112, us' 113, us' 114, us' 115, us' 116, us' 117, us' 118, us' 119, us' 120, us' 121, us' 122, us' 123, us' 124, us' 125, us' 126, us' 127, us' 128, us' 129, us' 130, us' 131, us' 132, us' 133, us' 134, us' 135, us' 136] := by
                show #[us' 0, us' 1, us' 2, us' 3, us' 4, us' 5, us' 6, us' 7, us' 8, us' 9, us' 10, us' 11, us' 12, us' 13, us' 14, us' 15, us' 16, us' 17, us' 18, us' 19, us' 20, us' 21, us' 22, us' 23, us' 24, us' 25, us' 26, us' 27, us' 28, us' 29, us' 30, us' 31, us' 32, us' 33, us' 34, us' 35, us' 36, us' 37, us' 38, us' 39, us' 40, us' 41, us' 42, us' 43, us' 44, us' 45, us' 46, us' 47, us' 48, us' 49, us' 50, us' 51, us' 52, us' 53, us' 54, us' 55, us' 56, us' 57, us' 58, us' 59, us' 60, us' 61, us' 62, us' 63, us' 64, us' 65, us' 66, us' 67, us' 68, us' 69, us' 70, us' 71, us' 72, us' 73, us' 74, us' 75, us' 76, us' 77, us' 78, us' 79, us' 80, us' 81, us' 82, us' 83, us' 84, us' 85, us' 86, us' 87, us' 88, us' 89, us' 90, us' 91, us' 92, us' 93, us' 94, us' 95, us' 96, us' 97, us' 98, us' 99, us' 100, us' 101, us' 102, us' 103, us' 104, us' 105, us' 106, us' 107, us' 108, us' 109, us' 110, us' 111, us' 112, us' 113, us' 114, us' 115, us' 116, us' 117, us' 118, us' 119, us' 120, us' 121, us' 122, us' 123, us' 124, us' 125, us' 126, us' 127, us' 128, us' 129, us' 130, us' 131, us' 132, us' 133, us' 134, us' 135, us' 136] = _
                rw [t0, t1, t2, t4, t8, t10, t11, t55]
              rw [el] at ha'
              subst ha'
              clear hus t0 t1 t2 t4 t8 t10 t11 t55 el hf' hs' hd'
              have HPa6 := Lib.hid (HPa5.out.keep hW)
              clear hW hG HPa5 HRm
              go_wp2_with (refine wpList_store_row rfl 51 (.tmp 10) (.tmp 56) rfl (w.heap.size + 1) (prC none 0 0 none 0 0) rfl rfl 51 _ HPa6.out.2.1 (size_pair _ _ _ _ _ _) rfl (pair_one _ _ _ _ _ _) ?_)
              exact bodyPost_ret (v := .tuple #[.agg (prC none 0 0 none 0 0), .int .i64 8]) (ret_pair rfl _ _ (w.heap.size + 1) _ _ _ _ _ _ _ rfl rfl (Blk.row HPa6.out.2.1 _)) rfl ⟨_, rfl, PairB.none _, below_setRow HPa6.out.2.2 _ _ (by omega)⟩
        · rw [if_neg hold]
          have HEl := Lib.hid (fun s t W => eql_hash_ne s t h rm hC32 hrm32 hold W)
          have HV := Lib.hid hv
          have HT := Lib.hid hT
          have HVP := Lib.hid hvp
          have HK := Lib.hid hk
          have HN := Lib.hid hn
          have HMm := Lib.hid hm
          have HPl := Lib.hid hpl
          obtain ⟨q, hq⟩ : ∃ q, q = growT n T m h ps true := ⟨_, rfl⟩
          rw [← hq]
          have HQ := Lib.hid hq
          clear hv hT hvp hk hn hm hp hh hC hC32 hD hD32 hE hro hro32 hch hrm hrm32 hpl hold hq
          go_enter Tryd.func40, Tryd.ntmps40
          go_upto_region 2 with fail
          refine world_cut (fun W => PgW w h W) HP.out ?_
          clear HP
          intro W2 hW2
          have HPa := Lib.hid hW2
          clear hW2
          go_wp2_with (refine wpList_load_row rfl 24 (.tmp 8) rfl w.heap.size rfl 24 (bs h) (0, 0) _ HPa.out.1 Tryd.underlying24 rfl HSh.out ?_)
          refine (HClimb.out _ HPa.out.2.2).mono ?_
          rintro e W3 ⟨rfl, hb3⟩
          have HPa3 := Lib.hid (HPa.out.keep hb3)
          clear hb3 HClimb HPa
          go_upto_region 3 with (first
            | (refine wpList_store_row rfl 24 (.tmp 13) (.tmp 31) rfl W3.heap.size (bs h) rfl rfl 24 _ ((Blk.new W3 _ _).alloc _) HSh.out (by simp [bs_size, Hh.out]) (bs_one _) ?_; refine world_cutL (fun W => PgW w h W ∧ Blk W W3.heap.size 24 (bs h) ∧ ∃ zs, Blk W (W3.heap.size + 1) 24 zs ∧ zs.size = 32) (HPa3.out.two _ _ h rfl) ?_; rintro W5 ⟨hp5, hc5, zs, hz5, hzs⟩; (have HPa5 := Lib.hid hp5); (have HC5 := Lib.hid hc5); (have HZ5 := Lib.hid hz5); (have HZs := Lib.hid hzs); clear hp5 hc5 hz5 hzs)
            | (refine wpList_store_row rfl 24 (.tmp 14) (.tmp 32) rfl (W3.heap.size + 1) (bs D) rfl rfl 24 zs HZ5.out HSD.out (by rw [bs_size, HD32.out, HZs.out]) (bs_one _) ?_))
          obtain ⟨g1, hg1⟩ : ∃ g, g = W3.heap.size := ⟨_, rfl⟩
          have hw3 := HPa3.out.lt
          refine world_cut (fun W => PgW w h W ∧ Blk W g1 24 (bs h) ∧ Blk W (g1 + 1) 24 (bs D)) ⟨HPa5.out.row _ _ (by omega), by rw [hg1]; exact HC5.out.rowOther _ (by omega), by rw [hg1]; exact HZ5.out.row _⟩ ?_
          rw [← hg1]
          clear hg1 HPa3 HPa5 HC5 HZ5 HZs hw3
          rintro W4 ⟨hW4, hb4, hb5⟩
          have HPa := Lib.hid hW4
          have HC4 := Lib.hid hb4
          have HD4 := Lib.hid hb5
          clear hW4 hb4 hb5
          go_upto_region 5 with fail
          have hG : ∀ W W' : World, Below W4.heap.size W4 W → Below W.heap.size W W' → Below W4.heap.size W4 W' := fun W W' h h' => h.trans (h'.mono h.size)
          refine region_skip [(38, .is (.agg (bs h))), (39, .is (.agg (bs h))), (40, .is (.bool false)), (41, .is (.bool false)), (42, .is (.agg (bs D))), (43, .is (.int .i64 n)), (44, .is (.slice pv M cv)), (45, .is (.agg (bs D))), (46, .is (.bool false)), (47, .is (.bool false))] [0, 1, 2, 4, 8, 10, 11, 47] (fun W => Below W4.heap.size W4 W) (by kernel_rfl) (by kernel_rfl) (by kernel_rfl) (by kernel_rfl) (by kernel_rfl) ((Below.refl _ _).drew) ?_ ?_
          · refine ⟨?c0, ?c1, ?c2, ?c3, ?c4, ?c5, ?c6, ?c7, ?c8, ?c9, trivial⟩
            case c0 => exact runs (ask_load (guard_none rfl) _ (.tmp 13) (.pointer (some ⟨g1, 0, none⟩)) (.agg (bs h)) rfl rfl (by intro k hk; cases hk; rfl) (fun W hW => (HC4.out.keep hW).loads 24 _ Tryd.underlying24 rfl HSh.out))
            case c1 => exact runs (ask_load (guard_none rfl) _ (.tmp 8) (.pointer (some ⟨w.heap.size, 0, none⟩)) (.agg (bs h)) rfl rfl (by intro k hk; cases hk; rfl) (fun W hW => (HPa.out.keep hW).1.loads 24 _ Tryd.underlying24 rfl HSh.out))
            case c2 => exact runs (ask_bin (guard_none rfl) .neq _ _ (.tmp 38) (.tmp 39) (.agg (bs h)) (.agg (bs h)) (.bool false) rfl rfl rfl (by intro k hk; cases hk; rfl) (HNq.out _ _))
            case c3 => exact runs (ask_copy (guard_none rfl) (.tmp 40) (.inl rfl) (by intro k hk; cases hk; rfl))
            case c4 => exact runs (ask_load (guard_some rfl rfl rfl) _ (.tmp 14) (.pointer (some ⟨g1 + 1, 0, none⟩)) (.agg (bs D)) rfl rfl (by intro k hk; cases hk; rfl) (fun W hW => (HD4.out.keep hW).loads 24 _ Tryd.underlying24 rfl HSD.out))
            case c5 => exact runs (ask_copy (guard_some rfl rfl rfl) (.tmp 0) (.inl rfl) (by intro k hk; cases hk; rfl))
            case c6 => exact runs (ask_copy (guard_some rfl rfl rfl) (.tmp 1) (.inl rfl) (by intro k hk; cases hk; rfl))
            case c7 => exact runs (ask_call hG (guard_some rfl rfl rfl) _ _ _ #[.int .i64 n, .slice pv M cv] (.is (.agg (bs D))) rfl (by kernel_rfl) rfl rfl (by intro k hk; cases hk; rfl) (fun W hW => (HRo.out W (HPa.out.2.2.trans (hW.mono HPa.out.2.2.size))).mono fun e w' h => ⟨_, h.1, rfl, h.2⟩))
            case c8 => exact runs (ask_bin (guard_some rfl rfl rfl) .neq _ _ (.tmp 42) (.tmp 45) (.agg (bs D)) (.agg (bs D)) (.bool false) rfl rfl rfl (by intro k hk; cases hk; rfl) (HNq2.out _ _))
            case c9 => exact runs (ask_pick (guard_none rfl) (.tmp 41) (.const (.bool true)) (.tmp 46) false rfl rfl (by intro k hk; cases hk; rfl))
          · intro a' W5 hW hd' hs' hf'
            have t0 : a'.tmps.getD 0 undef = .int .i64 n := hf' 0 rfl
            have t1 : a'.tmps.getD 1 undef = .slice pv M cv := hf' 1 rfl
            have t2 : a'.tmps.getD 2 undef = .int .u64 (m : Int) := hf' 2 rfl
            have t4 : a'.tmps.getD 4 undef = .slice pp p pc := hf' 4 rfl
            have t8 : a'.tmps.getD 8 undef = .pointer (some ⟨w.heap.size, 0, none⟩) := hf' 8 rfl
            have t10 : a'.tmps.getD 10 undef = .pointer (some ⟨w.heap.size + 1, 0, none⟩) := hf' 10 rfl
            have t11 : a'.tmps.getD 11 undef = .int .i64 0 := hf' 11 rfl
            have t47 : a'.tmps.getD 47 undef = .bool false := hf' 47 rfl
            obtain ⟨ks', hus, ha'⟩ := act_open 137 a' hs' hd'
            rw [← hus] at t0 t1 t2 t4 t8 t10 t11 t47
            have el : ((List.range 137).map ks').toArray = #[.int .i64 n, .slice pv M cv, .int .u64 (m : Int), ks' 3, .slice pp p pc, ks' 5, ks' 6, ks' 7, .pointer (some ⟨w.heap.size, 0, none⟩), ks' 9, .pointer (some ⟨w.heap.size + 1, 0, none⟩), .int .i64 0, ks' 12, ks' 13, ks' 14, ks' 15, ks' 16, ks' 17, ks' 18, ks' 19, ks' 20, ks' 21, ks' 22, ks' 23, ks' 24, ks' 25, ks' 26, ks' 27, ks' 28, ks' 29, ks' 30, ks' 31, ks' 32, ks' 33, ks' 34, ks' 35, ks' 36, ks' 37, ks' 38, ks' 39, ks' 40, ks' 41, ks' 42, ks' 43, ks' 44, ks' 45, ks' 46, .bool false, ks' 48, ks' 49, ks' 50, ks' 51, ks' 52, ks' 53, ks' 54, ks' 55, ks' 56, ks' 57, ks' 58, ks' 59, ks' 60, ks' 61, ks' 62, ks' 63, ks' 64, ks' 65, ks' 66, ks' 67, ks' 68, ks' 69, ks' 70, ks' 71, ks' 72, ks' 73, ks' 74, ks' 75, ks' 76, ks' 77, ks' 78, ks' 79, ks' 80, ks' 81, ks' 82, ks' 83, ks' 84, ks' 85, ks' 86, ks' 87, ks' 88, ks' 89, ks' 90, ks' 91, ks' 92, ks' 93, ks' 94, ks' 95, ks' 96, ks' 97, ks' 98, ks' 99, ks' 100, ks' 101, ks' 102, ks' 103, ks' 104, ks' 105, ks' 106, ks' 107, ks' 108, ks' 109, ks' 110, ks' 111, ks' 112, ks' 113, ks' 114, ks' 115, ks' 116, ks' 117, ks' 118, ks' 119, ks' 120, ks' 121, ks' 122, ks' 123, ks' 124, ks' 125, ks' 126, ks' 127, ks' 128, ks' 129, ks' 130, ks' 131, ks' 132, ks' 133, ks' 134, ks' 135, ks' 136] := by
              show #[ks' 0, ks' 1, ks' 2, ks' 3, ks' 4, ks' 5, ks' 6, ks' 7, ks' 8, ks' 9, ks' 10, ks' 11, ks' 12, ks' 13, ks' 14, ks' 15, ks' 16, ks' 17, ks' 18, ks' 19, ks' 20, ks' 21, ks' 22, ks' 23, ks' 24, ks' 25, ks' 26, ks' 27, ks' 28, ks' 29, ks' 30, ks' 31, ks' 32, ks' 33, ks' 34, ks' 35, ks' 36, ks' 37, ks' 38, ks' 39, ks' 40, ks' 41, ks' 42, ks' 43, ks' 44, ks' 45, ks' 46, ks' 47, ks' 48, ks' 49, ks' 50, ks' 51, ks' 52, ks' 53, ks' 54, ks' 55, ks' 56, ks' 57, ks' 58, ks' 59, ks' 60, ks' 61, ks' 62, ks' 63, ks' 64, ks' 65, ks' 66, ks' 67, ks' 68, ks' 69, ks' 70, ks' 71, ks' 72, ks' 73, ks' 74, ks' 75, ks' 76, ks' 77, ks' 78, ks' 79, ks' 80, ks' 81, ks' 82, ks' 83, ks' 84, ks' 85, ks' 86, ks' 87, ks' 88, ks' 89, ks' 90, ks' 91, ks' 92, ks' 93, ks' 94, ks' 95, ks' 96, ks' 97, ks' 98, ks' 99, ks' 100, ks' 101, ks' 102, ks' 103, ks' 104, ks' 105, ks' 106, ks' 107, ks' 108, ks' 109, ks' 110, ks' 111, ks' 112, ks' 113, ks' 114, ks' 115, ks' 116, ks' 117, ks' 118, ks' 119, ks' 120, ks' 121, ks' 122, ks' 123, ks' 124, ks' 125, ks' 126, ks' 127, ks' 128, ks' 129, ks' 130, ks' 131, ks' 132, ks' 133, ks' 134, ks' 135, ks' 136] = _
              rw [t0, t1, t2, t4, t8, t10, t11, t47]
            rw [el] at ha'
            subst ha'
            clear hus t0 t1 t2 t4 t8 t10 t11 t47 el hf' hs' hd'
            have HPa5 := Lib.hid (HPa.out.keep hW)
            clear hW hG HPa HC4 HD4 HRo
            go_upto_region 7 with fail
            have hG : ∀ W W' : World, Below W5.heap.size W5 W → Below W.heap.size W W' → Below W5.heap.size W5 W' := fun W W' h h' => h.trans (h'.mono h.size)
            refine region_by [(49, .is (.agg (bs h))), (50, .is (.int .i64 n)), (51, .is (.slice pv M cv)), (52, .is (.int .u64 (m : Int))), (53, .is (.slice pv m cv)), (54, .is (.agg (bs rm))), (55, .is (.bool false))] [0, 1, 2, 4, 8, 10, 11, 55] (fun W => Below W5.heap.size W5 W) (by kernel_rfl) (by kernel_rfl) (by kernel_rfl) (by kernel_rfl) (by kernel_rfl) ((Below.refl _ _).drew) ?_ ?_
            · refine ⟨?c0, ?c1, ?c2, ?c3, ?c4, ?c5, ?c6, trivial⟩
              case c0 => exact ask_load (guard_none rfl) _ (.tmp 8) (.pointer (some ⟨w.heap.size, 0, none⟩)) (.agg (bs h)) rfl rfl (by intro k hk; cases hk; rfl) (fun W hW => (HPa5.out.keep hW).1.loads 24 _ Tryd.underlying24 rfl HSh.out)
              case c1 => exact ask_copy (guard_none rfl) (.tmp 0) (.inl rfl) (by intro k hk; cases hk; rfl)
              case c2 => exact ask_copy (guard_none rfl) (.tmp 1) (.inl rfl) (by intro k hk; cases hk; rfl)
              case c3 => exact ask_copy (guard_none rfl) (.tmp 2) (.inl rfl) (by intro k hk; cases hk; rfl)
              case c4 => exact ask_slice (guard_none rfl) _ (.tmp 51) none (some (.tmp 52)) none (.slice pv M cv) (.slice pv m cv) none (some (.int .u64 (m : Int))) none rfl rfl rfl rfl rfl (by intro k hk; cases hk; rfl) HSm.out
              case c5 => exact ask_call hG (guard_none rfl) _ _ _ #[.int .i64 n, .slice pv m cv] (.is (.agg (bs rm))) rfl (by kernel_rfl) rfl rfl (by intro k hk; cases hk; rfl) (fun W hW => (HRm.out W (HPa5.out.2.2.trans (hW.mono HPa5.out.2.2.size))).mono fun e w' h => ⟨_, h.1, rfl, h.2⟩)
              case c6 => exact ask_bin (guard_none rfl) .eql _ _ (.tmp 49) (.tmp 54) (.agg (bs h)) (.agg (bs rm)) (.bool false) rfl rfl rfl (by intro k hk; cases hk; rfl) (HEl.out _ _)
            · intro a' W6 hW hd' hs' hf'
              have t0 : a'.tmps.getD 0 undef = .int .i64 n := hf' 0 rfl
              have t1 : a'.tmps.getD 1 undef = .slice pv M cv := hf' 1 rfl
              have t2 : a'.tmps.getD 2 undef = .int .u64 (m : Int) := hf' 2 rfl
              have t4 : a'.tmps.getD 4 undef = .slice pp p pc := hf' 4 rfl
              have t8 : a'.tmps.getD 8 undef = .pointer (some ⟨w.heap.size, 0, none⟩) := hf' 8 rfl
              have t10 : a'.tmps.getD 10 undef = .pointer (some ⟨w.heap.size + 1, 0, none⟩) := hf' 10 rfl
              have t11 : a'.tmps.getD 11 undef = .int .i64 0 := hf' 11 rfl
              have t55 : a'.tmps.getD 55 undef = .bool false := hf' 55 rfl
              obtain ⟨us', hus, ha'⟩ := act_open 137 a' hs' hd'
              rw [← hus] at t0 t1 t2 t4 t8 t10 t11 t55
              have el : ((List.range 137).map us').toArray = #[.int .i64 n, .slice pv M cv, .int .u64 (m : Int), us' 3, .slice pp p pc, us' 5, us' 6, us' 7, .pointer (some ⟨w.heap.size, 0, none⟩), us' 9, .pointer (some ⟨w.heap.size + 1, 0, none⟩), .int .i64 0, us' 12, us' 13, us' 14, us' 15, us' 16, us' 17, us' 18, us' 19, us' 20, us' 21, us' 22, us' 23, us' 24, us' 25, us' 26, us' 27, us' 28, us' 29, us' 30, us' 31, us' 32, us' 33, us' 34, us' 35, us' 36, us' 37, us' 38, us' 39, us' 40, us' 41, us' 42, us' 43, us' 44, us' 45, us' 46, us' 47, us' 48, us' 49, us' 50, us' 51, us' 52, us' 53, us' 54, .bool false, us' 56, us' 57, us' 58, us' 59, us' 60, us' 61, us' 62, us' 63, us' 64, us' 65, us' 66, us' 67, us' 68, us' 69, us' 70, us' 71, us' 72, us' 73, us' 74, us' 75, us' 76, us' 77, us' 78, us' 79, us' 80, us' 81, us' 82, us' 83, us' 84, us' 85, us' 86, us' 87, us' 88, us' 89, us' 90, us' 91, us' 92, us' 93, us' 94, us' 95, us' 96, us' 97, us' 98, us' 99, us' 100, us' 101, us' 102, us' 103, us' 104, us' 105, us' 106, us' 107, us' 108, us' 109, us' 110, us' 111, us' 112, us' 113, us' 114, us' 115, us' 116, us' 117, us' 118, us' 119, us' 120, us' 121, us' 122, us' 123, us' 124, us' 125, us' 126, us' 127, us' 128, us' 129, us' 130, us' 131, us' 132, us' 133, us' 134, us' 135, us' 136] := by
                show #[us' 0, us' 1, us' 2, us' 3, us' 4, us' 5, us' 6, us' 7, us' 8, us' 9, us' 10, us' 11, us' 12, us' 13, us' 14, us' 15, us' 16, us' 17, us' 18, us' 19, us' 20, us' 21, us' 22, us' 23, us' 24, us' 25, us' 26, us' 27, us' 28, us' 29, us' 30, us' 31, us' 32, us' 33, us' 34, us' 35, us' 36, us' 37, us' 38, us' 39, us' 40, us' 41, us' 42, us' 43, us' 44, us' 45, us' 46, us' 47, us' 48, us' 49, us' 50, us' 51, us' 52, us' 53, us' 54, us' 55, us' 56, us' 57, us' 58, us' 59, us' 60, us' 61, us' 62, us' 63, us' 64, us' 65, us' 66, us' 67, us' 68, us' 69, us' 70, us' 71, us' 72, us' 73, us' 74, us' 75, us' 76, us' 77, us' 78, us' 79, us' 80, us' 81, us' 82, us' 83, us' 84, us' 85, us' 86, us' 87, us' 88, us' 89, us' 90, us' 91, us' 92, us' 93, us' 94, us' 95, us' 96, us' 97, us' 98, us' 99, us' 100, us' 101, us' 102, us' 103, us' 104, us' 105, us' 106, us' 107, us' 108, us' 109, us' 110, us' 111, us' 112, us' 113, us' 114, us' 115, us' 116, us' 117, us' 118, us' 119, us' 120, us' 121, us' 122, us' 123, us' 124, us' 125, us' 126, us' 127, us' 128, us' 129, us' 130, us' 131, us' 132, us' 133, us' 134, us' 135, us' 136] = _
                rw [t0, t1, t2, t4, t8, t10, t11, t55]
              rw [el] at ha'
              subst ha'
              clear hus t0 t1 t2 t4 t8 t10 t11 t55 el hf' hs' hd'
              have HPa6 := Lib.hid (HPa5.out.keep hW)
              clear hW hG HPa5 HRm
              have hstart : GrowAtC n h q w (.slice pv M cv) (.int .u64 (m : Int)) (.slice pp p pc) (.bool true) W6 := ⟨T, m, ps, true, _, _, rfl, rfl, rfl, rfl, HV.out, HT.out, HVP.out, hm1, by rw [← HMm.out]; exact hmM, by rw [← HMm.out]; exact HPl.out, HQ.out.symm, HPa6.out⟩
              have HS := Lib.hid hstart
              clear hstart HPa6
              go_wp2
              go_loopw [1, 2, 4, 16] (fun s1 s2 s4 s16 wr => GrowAtC n h q w s1 s2 s4 s16 wr) (fun s1 _ _ _ _ => lenOf s1)
              case atStart => exact HS.out
              case round =>
                obtain ⟨T1, m1, ps1, b1, v1, v4, rfl, rfl, rfl, rfl, hv1, hT1, hvz, hm11, hmM1, hpl1, hq1, hpa⟩ := hrel
                obtain ⟨a1, c1, rfl, hc1⟩ := hv1.form
                obtain ⟨pq, pc1, rfl, hpc1⟩ := hvz.form
                obtain ⟨M1, hM1⟩ : ∃ m, m = T1.length := ⟨_, rfl⟩
                obtain ⟨p1, hp1⟩ : ∃ p, p = ps1.length := ⟨_, rfl⟩
                rw [← hM1] at hv1 hc1 hmM1 hpl1
                rw [← hp1] at hvz hpc1 hpl1
                simp only [← hM1, ← hp1]
                have hm180 : M1 ≤ 80 := by rw [hM1]; exact hT1.few
                have HPa := Lib.hid hpa
                clear hpa HS
                by_cases hmlt : m1 < M1
                · have hneq : ((m1 : Int) != (M1 : Int)) = true := by simp; omega
                  have h2 : 2 ≤ M1 := by omega
                  have hk1 := splitN_lt h2
                  have hk0 := splitN_pos M1
                  obtain ⟨k, hkk⟩ : ∃ k, k = splitN M1 := ⟨_, rfl⟩
                  have HSplit := Lib.hid (fun W => refsplit_any M1 W (by omega) (by omega))
                  rw [← hkk] at HSplit hk1 hk0
                  have hp65 : p1 ≤ 65 := by rw [hpl1]; exact sizeG_65 m1 M1 b1 (by omega) (by omega)
                  have hpos : 0 < p1 := by
                    by_cases hik : m1 ≤ splitN M1
                    · rw [hpl1, sizeG_left b1 hmlt h2 hik]; omega
                    · rw [hpl1, sizeG_right b1 hmlt h2 hik]; omega
                  obtain ⟨z, hz⟩ : ∃ z : Nat, (p1 : Int) - 1 = (z : Int) := ⟨p1 - 1, by omega⟩
                  obtain ⟨y, hy⟩ : ∃ y, ps1[z]? = some y := ⟨ps1[z]'(by omega), List.getElem?_eq_getElem _⟩
                  have hlast : ps1.getLastD [] = y := by
                    obtain ⟨r, e, rfl⟩ : ∃ r e, ps1 = r ++ [e] := by
                      have hne : ps1 ≠ [] := fun e => by rw [e] at hp1; simp at hp1; omega
                      exact ⟨ps1.dropLast, ps1.getLast hne, (List.dropLast_concat_getLast hne).symm⟩
                    have hzq : z = r.length := by simp at hp1; omega
                    rw [hzq] at hy
                    simp at hy
                    simp [hy]
                  have hdl : ps1.dropLast = ps1.take z := by rw [List.dropLast_eq_take, ← hp1]; congr 1; omega
                  obtain ⟨pad, rfl, _⟩ := hvz.load hy
                  have hy32 := hvz.all.get hy
                  have hvz2 : Hss w (.slice (some pad) z pc1) ps1.dropLast := by
                    have := hvz.sub 0 z (by omega) (by omega)
                    rw [sliced_zero2] at this
                    rw [hdl]
                    simpa using this
                  have HLd := Lib.hid (fun (W : World) (hW : Below w.heap.size w W) => load_hash W (pad.add (z * 32)) y hy32 fun j u hj => by
                    obtain ⟨ad2, e, h⟩ := (hvz.below (Nat.le_refl _) hW).load hy
                    cases e
                    exact h j u hj)
                  have HIy := Lib.hid (fun W => hss_index W pad p1 pc1 z (by omega))
                  have HSl := Lib.hid (fun (W : World) => show (Instr.sliceAt 30 (.slice (some pad) p1 pc1) none (some (.int .i64 (z : Int))) none).run Tryd.prog W = .ok (.slice (some pad) z pc1) W by
                    have h := slice_hs_to (some pad) p1 pc1 z (by omega) W
                    rwa [sliced_zero2] at h)
                  have HHash := Lib.hid (refhashed_any n HN.out T1 (.slice a1 M1 c1) wr (hv1.below (Nat.le_refl _) HPa.out.2.2) hT1 (by omega) (HK.out.below (Nat.le_refl _) HPa.out.2.2))
                  obtain ⟨rq, hrq⟩ : ∃ r, r = hashedT n T1 := ⟨_, rfl⟩
                  rw [← hrq] at HHash
                  have HV1 := Lib.hid hv1
                  have HT1 := Lib.hid hT1
                  have HVz := Lib.hid hvz2
                  have hall := hvz2.all
                  have hdll : ps1.dropLast.length = p1 - 1 := by rw [List.length_dropLast, ← hp1]
                  by_cases hik : m1 ≤ k
                  · have hs := sizeG_left b1 hmlt h2 (by rw [← hkk]; exact hik)
                    rw [← hkk, ← hpl1] at hs
                    have hl2 : ps1.dropLast.length = sizeG m1 k b1 := by omega
                    obtain ⟨U, hU, hU32⟩ : ∃ U, U = newerT n m1 k h ps1.dropLast b1 ∧ U.length = 32 := ⟨_, rfl, newerT_length n m1 k h _ b1 Hh.out hall hik hl2⟩
                    have HNw := Lib.hid (fun (W : World) (hW : Below w.heap.size w W) => refnewer_any n HN.out k m1 b1 h ps1.dropLast (.slice (some pad) z pc1) W Hh.out hm11 hik (by omega) (hvz2.below (Nat.le_refl _) hW) hl2 (HK.out.below (Nat.le_refl _) hW))
                    rw [← hU] at HNw
                    obtain ⟨tq, htq⟩ : ∃ t, t = nodeT U y := ⟨_, rfl⟩
                    have HNt := Lib.hid (fun (W : World) => refnodetext_any U y W hU32 hy32)
                    rw [show (1 :: (U ++ y) : List UInt8) = tq from htq.symm] at HNt
                    have HAns := Lib.hid (show (tq ≠ rq → q = some (rq, tq)) ∧ (tq = rq → growT n (T1.take k) m1 h ps1.dropLast b1 = q) by
                      have e := growT_left n T1 m1 h ps1 b1 (by omega) (by omega) (by rw [← hM1, ← hkk]; exact hik)
                      rw [← hM1, ← hkk, hlast, ← hU, ← htq, ← hrq, hq1] at e
                      exact ⟨fun hne => by rw [e, if_pos hne], fun he => by rw [e, if_neg (by simpa using he)]⟩)
                    have hkl : (T1.take k).length = k := by rw [List.length_take]; omega
                    have HLk := Lib.hid (show m1 ≤ (T1.take k).length by omega)
                    have HSk := Lib.hid (show ps1.dropLast.length = sizeG m1 (T1.take k).length b1 by rw [hkl]; exact hl2)
                    have hik2 : decide ((m1 : Int) ≤ (k : Int)) = true := decide_eq_true (by omega)
                    clear hv1 hT1 hvz hvz2 hy hy32 hlast hdl hdll hM1 hp1 hpl1 hq1 hkk hs hU hU32 htq hrq hkl hl2 hall
                    go_wp2_with fail
                    refine (HSplit.out _).mono ?_
                    rintro e w2 ⟨rfl, rfl⟩
                    clear HSplit
                    go_wp2_with fail
                    refine HHash.out.mono ?_
                    rintro e W0 ⟨u19, rfl, hr1, hb1⟩
                    have HPb0 := Lib.hid (HPa.out.keep hb1)
                    obtain ⟨ar, cr, rfl⟩ := slice_of_row hr1
                    have HRl0 := Lib.hid hr1.bys
                    clear hr1 hb1 HPa HHash
                    go_upto_region 16 with fail
                    refine world_cut (fun W => PgW w h W ∧ Bys W (.slice ar rq.length cr) rq) ⟨HPb0.out.keep ((Below.refl _ _).alloc (Nat.le_refl _) _), HRl0.out.below (Nat.le_refl _) ((Below.refl _ _).alloc (Nat.le_refl _) _)⟩ ?_
                    clear HPb0 HRl0
                    rintro W2 ⟨hp2, hr2⟩
                    have HPc := Lib.hid hp2
                    have HRl2 := Lib.hid hr2
                    clear hp2 hr2
                    have hG : ∀ W W' : World, Below W2.heap.size W2 W → Below W.heap.size W W' → Below W2.heap.size W2 W' := fun W W' h h' => h.trans (h'.mono h.size)
                    refine region_by [(76, .is (.int .i64 n)), (77, .is (.int .u64 (m1 : Int))), (78, .is (.int .i64 (k : Int))), (79, .is (.int .u64 (k : Int))), (80, .is (.agg (bs h))), (81, .is (.slice (some pad) p1 pc1)), (82, .is (.int .i64 (z : Int))), (83, .is (.slice (some pad) z pc1)), (84, .is (.bool b1)), (85, .is (.agg (bs U))), (86, .is (.slice (some pad) p1 pc1)), (87, .is (.int .i64 (z : Int))), (88, .is (.pointer (some (pad.add (z * 32))))), (89, .is (.agg (bs y))), (90, .row W2.heap.size tq), (20, .row W2.heap.size tq)] [0, 1, 2, 3, 4, 5, 6, 7, 8, 9, 10, 12, 13, 14, 15, 16, 17, 18, 19, 21, 22, 23, 24, 25, 26, 27, 28, 29, 30, 31, 32, 33, 34, 35, 36, 37, 38, 39, 40, 41, 42, 43, 44, 45, 46, 47, 48, 49, 50, 51, 52, 53, 54, 55, 56, 136, 20] (fun W => Below W2.heap.size W2 W) (by kernel_rfl) (by kernel_rfl) (by kernel_rfl) (by kernel_rfl) (by kernel_rfl) ((Below.refl _ _).drew) ?_ ?_
                    · refine ⟨?c0, ?c1, ?c2, ?c3, ?c4, ?c5, ?c6, ?c7, ?c8, ?c9, ?c10, ?c11, ?c12, ?c13, ?c14, ?c15, trivial⟩
                      case c0 => exact ask_copy (guard_none rfl) (.tmp 0) (.inl rfl) (by intro k hk; cases hk; rfl)
                      case c1 => exact ask_copy (guard_none rfl) (.tmp 2) (.inl rfl) (by intro k hk; cases hk; rfl)
                      case c2 => exact ask_copy (guard_none rfl) (.tmp 17) (.inl rfl) (by intro k hk; cases hk; rfl)
                      case c3 => exact ask_conv_iu (guard_none rfl) (.tmp 78) k (by omega) rfl rfl (by intro k hk; cases hk; rfl)
                      case c4 => exact ask_load (guard_none rfl) _ (.tmp 8) (.pointer (some ⟨w.heap.size, 0, none⟩)) (.agg (bs h)) rfl rfl (by intro k hk; cases hk; rfl) (fun W hW => (HPc.out.keep hW).1.loads 24 _ Tryd.underlying24 rfl HSh.out)
                      case c5 => exact ask_copy (guard_none rfl) (.tmp 4) (.inl rfl) (by intro k hk; cases hk; rfl)
                      case c6 => exact ask_copy (guard_none rfl) (.tmp 18) (.inl rfl) (by intro k hk; cases hk; rfl)
                      case c7 => exact ask_slice (guard_none rfl) _ (.tmp 81) none (some (.tmp 82)) none (.slice (some pad) p1 pc1) (.slice (some pad) z pc1) none (some (.int .i64 (z : Int))) none rfl rfl rfl rfl rfl (by intro k hk; cases hk; rfl) HSl.out
                      case c8 => exact ask_copy (guard_none rfl) (.tmp 16) (.inl rfl) (by intro k hk; cases hk; rfl)
                      case c9 => exact ask_call hG (guard_none rfl) _ _ _ #[.int .i64 n, .int .u64 (m1 : Int), .int .u64 (k : Int), .agg (bs h), .slice (some pad) z pc1, .bool b1] (.is (.agg (bs U))) rfl (by kernel_rfl) rfl rfl (by intro k hk; cases hk; rfl) (fun W hW => (HNw.out W (HPc.out.2.2.trans (hW.mono HPc.out.2.2.size))).mono fun e w' h => ⟨_, h.1, rfl, h.2⟩)
                      case c10 => exact ask_copy (guard_none rfl) (.tmp 4) (.inl rfl) (by intro k hk; cases hk; rfl)
                      case c11 => exact ask_copy (guard_none rfl) (.tmp 18) (.inl rfl) (by intro k hk; cases hk; rfl)
                      case c12 => exact ask_idx (guard_none rfl) _ (.tmp 86) (.tmp 87) (.slice (some pad) p1 pc1) (.int .i64 (z : Int)) (.pointer (some (pad.add (z * 32)))) rfl rfl rfl (by intro k hk; cases hk; rfl) HIy.out
                      case c13 => exact ask_load (guard_none rfl) _ (.tmp 88) (.pointer (some (pad.add (z * 32)))) (.agg (bs y)) rfl rfl (by intro k hk; cases hk; rfl) (fun W hW => HLd.out W (HPc.out.2.2.trans (hW.mono HPc.out.2.2.size)))
                      case c14 => exact ask_call hG (guard_none rfl) _ _ _ #[.agg (bs U), .agg (bs y)] (.row W2.heap.size tq) rfl (by kernel_rfl) rfl rfl (by intro k hk; cases hk; rfl) (fun W hW => (HNt.out W).mono fun e w' h => by obtain ⟨u, h1, h2, h3⟩ := h; exact ⟨u, h1, h2.lower hW.size, h3⟩)
                      case c15 => exact ask_copy (guard_none rfl) (.tmp 90) (.inr rfl) (by intro k hk; cases hk; rfl)
                    · intro a' W3 hW hd' hs' hf'
                      obtain ⟨at2, ct2, et⟩ := slice_of_row (show Row W3 W2.heap.size (a'.tmps.getD 20 undef) tq from hf' 20 rfl)
                      have hrt : Row W3 W2.heap.size (a'.tmps.getD 20 undef) tq := hf' 20 rfl
                      rw [et] at hrt
                      have t0 : a'.tmps.getD 0 undef = .int .i64 n := hf' 0 rfl
                      have t3 : a'.tmps.getD 3 undef = us' 3 := hf' 3 rfl
                      have t5 : a'.tmps.getD 5 undef = us' 5 := hf' 5 rfl
                      have t6 : a'.tmps.getD 6 undef = us' 6 := hf' 6 rfl
                      have t7 : a'.tmps.getD 7 undef = us' 7 := hf' 7 rfl
                      have t8 : a'.tmps.getD 8 undef = .pointer (some ⟨w.heap.size, 0, none⟩) := hf' 8 rfl
                      have t9 : a'.tmps.getD 9 undef = us' 9 := hf' 9 rfl
                      have t10 : a'.tmps.getD 10 undef = .pointer (some ⟨w.heap.size + 1, 0, none⟩) := hf' 10 rfl
                      have t12 : a'.tmps.getD 12 undef = us' 12 := hf' 12 rfl
                      have t13 : a'.tmps.getD 13 undef = us' 13 := hf' 13 rfl
                      have t14 : a'.tmps.getD 14 undef = us' 14 := hf' 14 rfl
                      have t15 : a'.tmps.getD 15 undef = us' 15 := hf' 15 rfl
                      have t21 : a'.tmps.getD 21 undef = us' 21 := hf' 21 rfl
                      have t22 : a'.tmps.getD 22 undef = us' 22 := hf' 22 rfl
                      have t23 : a'.tmps.getD 23 undef = us' 23 := hf' 23 rfl
                      have t24 : a'.tmps.getD 24 undef = us' 24 := hf' 24 rfl
                      have t25 : a'.tmps.getD 25 undef = us' 25 := hf' 25 rfl
                      have t26 : a'.tmps.getD 26 undef = us' 26 := hf' 26 rfl
                      have t27 : a'.tmps.getD 27 undef = us' 27 := hf' 27 rfl
                      have t28 : a'.tmps.getD 28 undef = us' 28 := hf' 28 rfl
                      have t29 : a'.tmps.getD 29 undef = us' 29 := hf' 29 rfl
                      have t30 : a'.tmps.getD 30 undef = us' 30 := hf' 30 rfl
                      have t31 : a'.tmps.getD 31 undef = us' 31 := hf' 31 rfl
                      have t32 : a'.tmps.getD 32 undef = us' 32 := hf' 32 rfl
                      have t33 : a'.tmps.getD 33 undef = us' 33 := hf' 33 rfl
                      have t34 : a'.tmps.getD 34 undef = us' 34 := hf' 34 rfl
                      have t35 : a'.tmps.getD 35 undef = us' 35 := hf' 35 rfl
                      have t36 : a'.tmps.getD 36 undef = us' 36 := hf' 36 rfl
                      have t37 : a'.tmps.getD 37 undef = us' 37 := hf' 37 rfl
                      have t38 : a'.tmps.getD 38 undef = us' 38 := hf' 38 rfl
                      have t39 : a'.tmps.getD 39 undef = us' 39 := hf' 39 rfl
                      have t40 : a'.tmps.getD 40 undef = us' 40 := hf' 40 rfl
                      have t41 : a'.tmps.getD 41 undef = us' 41 := hf' 41 rfl
                      have t42 : a'.tmps.getD 42 undef = us' 42 := hf' 42 rfl
                      have t43 : a'.tmps.getD 43 undef = us' 43 := hf' 43 rfl
                      have t44 : a'.tmps.getD 44 undef = us' 44 := hf' 44 rfl
                      have t45 : a'.tmps.getD 45 undef = us' 45 := hf' 45 rfl
                      have t46 : a'.tmps.getD 46 undef = us' 46 := hf' 46 rfl
                      have t47 : a'.tmps.getD 47 undef = us' 47 := hf' 47 rfl
                      have t48 : a'.tmps.getD 48 undef = us' 48 := hf' 48 rfl
                      have t49 : a'.tmps.getD 49 undef = us' 49 := hf' 49 rfl
                      have t50 : a'.tmps.getD 50 undef = us' 50 := hf' 50 rfl
                      have t51 : a'.tmps.getD 51 undef = us' 51 := hf' 51 rfl
                      have t52 : a'.tmps.getD 52 undef = us' 52 := hf' 52 rfl
                      have t53 : a'.tmps.getD 53 undef = us' 53 := hf' 53 rfl
                      have t54 : a'.tmps.getD 54 undef = us' 54 := hf' 54 rfl
                      have t55 : a'.tmps.getD 55 undef = .bool false := hf' 55 rfl
                      have t56 : a'.tmps.getD 56 undef = us' 56 := hf' 56 rfl
                      have t136 : a'.tmps.getD 136 undef = us' 136 := hf' 136 rfl
                      have t1 : a'.tmps.getD 1 undef = .slice a1 M1 c1 := hf' 1 rfl
                      have t2 : a'.tmps.getD 2 undef = .int .u64 (m1 : Int) := hf' 2 rfl
                      have t4 : a'.tmps.getD 4 undef = .slice (some pad) p1 pc1 := hf' 4 rfl
                      have t16 : a'.tmps.getD 16 undef = .bool b1 := hf' 16 rfl
                      have t17 : a'.tmps.getD 17 undef = .int .i64 (k : Int) := hf' 17 rfl
                      have t18 : a'.tmps.getD 18 undef = .int .i64 (z : Int) := hf' 18 rfl
                      have t19 : a'.tmps.getD 19 undef = .slice ar rq.length cr := hf' 19 rfl
                      have t20 := et
                      obtain ⟨ws', hus, ha'⟩ := act_open 137 a' hs' hd'
                      rw [← hus] at t0 t3 t5 t6 t7 t8 t9 t10 t12 t13 t14 t15 t21 t22 t23 t24 t25 t26 t27 t28 t29 t30 t31 t32 t33 t34 t35 t36 t37 t38 t39 t40 t41 t42 t43 t44 t45 t46 t47 t48 t49 t50 t51 t52 t53 t54 t55 t56 t136 t1 t2 t4 t16 t17 t18 t19 t20
                      have el : ((List.range 137).map ws').toArray = #[.int .i64 n, .slice a1 M1 c1, .int .u64 (m1 : Int), us' 3, .slice (some pad) p1 pc1, us' 5, us' 6, us' 7, .pointer (some ⟨w.heap.size, 0, none⟩), us' 9, .pointer (some ⟨w.heap.size + 1, 0, none⟩), ws' 11, us' 12, us' 13, us' 14, us' 15, .bool b1, .int .i64 (k : Int), .int .i64 (z : Int), .slice ar rq.length cr, .slice at2 tq.length ct2, us' 21, us' 22, us' 23, us' 24, us' 25, us' 26, us' 27, us' 28, us' 29, us' 30, us' 31, us' 32, us' 33, us' 34, us' 35, us' 36, us' 37, us' 38, us' 39, us' 40, us' 41, us' 42, us' 43, us' 44, us' 45, us' 46, us' 47, us' 48, us' 49, us' 50, us' 51, us' 52, us' 53, us' 54, .bool false, us' 56, ws' 57, ws' 58, ws' 59, ws' 60, ws' 61, ws' 62, ws' 63, ws' 64, ws' 65, ws' 66, ws' 67, ws' 68, ws' 69, ws' 70, ws' 71, ws' 72, ws' 73, ws' 74, ws' 75, ws' 76, ws' 77, ws' 78, ws' 79, ws' 80, ws' 81, ws' 82, ws' 83, ws' 84, ws' 85, ws' 86, ws' 87, ws' 88, ws' 89, ws' 90, ws' 91, ws' 92, ws' 93, ws' 94, ws' 95, ws' 96, ws' 97, ws' 98, ws' 99, ws' 100, ws' 101, ws' 102, ws' 103, ws' 104, ws' 105, ws' 106, ws' 107, ws' 108, ws' 109, ws' 110, ws' 111, ws' 112, ws' 113, ws' 114, ws' 115, ws' 116, ws' 117, ws' 118, ws' 119, ws' 120, ws' 121, ws' 122, ws' 123, ws' 124, ws' 125, ws' 126, ws' 127, ws' 128, ws' 129, ws' 130, ws' 131, ws' 132, ws' 133, ws' 134, ws' 135, us' 136] := by
                        show #[ws' 0, ws' 1, ws' 2, ws' 3, ws' 4, ws' 5, ws' 6, ws' 7, ws' 8, ws' 9, ws' 10, ws' 11, ws' 12, ws' 13, ws' 14, ws' 15, ws' 16, ws' 17, ws' 18, ws' 19, ws' 20, ws' 21, ws' 22, ws' 23, ws' 24, ws' 25, ws' 26, ws' 27, ws' 28, ws' 29, ws' 30, ws' 31, ws' 32, ws' 33, ws' 34, ws' 35, ws' 36, ws' 37, ws' 38, ws' 39, ws' 40, ws' 41, ws' 42, ws' 43, ws' 44, ws' 45, ws' 46, ws' 47, ws' 48, ws' 49, ws' 50, ws' 51, ws' 52, ws' 53, ws' 54, ws' 55, ws' 56, ws' 57, ws' 58, ws' 59, ws' 60, ws' 61, ws' 62, ws' 63, ws' 64, ws' 65, ws' 66, ws' 67, ws' 68, ws' 69, ws' 70, ws' 71, ws' 72, ws' 73, ws' 74, ws' 75, ws' 76, ws' 77, ws' 78, ws' 79, ws' 80, ws' 81, ws' 82, ws' 83, ws' 84, ws' 85, ws' 86, ws' 87, ws' 88, ws' 89, ws' 90, ws' 91, ws' 92, ws' 93, ws' 94, ws' 95, ws' 96, ws' 97, ws' 98, ws' 99, ws' 100, ws' 101, ws' 102, ws' 103, ws' 104, ws' 105, ws' 106, ws' 107, ws' 108, ws' 109, ws' 110, ws' 111, ws' 112, ws' 113, ws' 114, ws' 115, ws' 116, ws' 117, ws' 118, ws' 119, ws' 120, ws' 121, ws' 122, ws' 123, ws' 124, ws' 125, ws' 126, ws' 127, ws' 128, ws' 129, ws' 130, ws' 131, ws' 132, ws' 133, ws' 134, ws' 135, ws' 136] = _
                        rw [t0, t3, t5, t6, t7, t8, t9, t10, t12, t13, t14, t15, t21, t22, t23, t24, t25, t26, t27, t28, t29, t30, t31, t32, t33, t34, t35, t36, t37, t38, t39, t40, t41, t42, t43, t44, t45, t46, t47, t48, t49, t50, t51, t52, t53, t54, t55, t56, t136, t1, t2, t4, t16, t17, t18, t19, t20]
                      rw [el] at ha'
                      subst ha'
                      clear et hus t0 t3 t5 t6 t7 t8 t9 t10 t12 t13 t14 t15 t21 t22 t23 t24 t25 t26 t27 t28 t29 t30 t31 t32 t33 t34 t35 t36 t37 t38 t39 t40 t41 t42 t43 t44 t45 t46 t47 t48 t49 t50 t51 t52 t53 t54 t55 t56 t136 t1 t2 t4 t16 t17 t18 t19 t20 el hf' hs' hd'
                      have HPd := Lib.hid (HPc.out.keep hW)
                      have HRl3 := Lib.hid (HRl2.out.below (Nat.le_refl _) hW)
                      have HRt := Lib.hid hrt.bys
                      clear hW hG HPc HRl2 hrt
                      have c1 := conv_bys HRt.out
                      have c2 := conv_bys HRl3.out
                      by_cases hto : tq = rq
                      · subst hto
                        obtain ⟨X2, hX2⟩ : ∃ X2 : ByteArray, X2 = ⟨tq.toArray⟩ := ⟨_, rfl⟩
                        rw [← hX2] at c1 c2
                        have hxx : (X2.toList == X2.toList) = true := beq_self_eq_true _
                        clear hX2
                        have hanswer := HAns.out.2 rfl
                        have HAns2 := Lib.hid hanswer
                        clear hanswer
                        go_wp2_with (refine wpList_slice_by rfl 30 (.tmp 133) none (some (.tmp 134)) rfl (.slice (some pad) p1 pc1) (.slice (some pad) z pc1) none (some (.int .i64 (z : Int))) rfl rfl rfl (HSl.out _) ?_)
                        clear c1 c2
                        go_roundw
                        case rel => exact ⟨T1.take k, m1, ps1.dropLast, b1, .slice a1 k c1, (.slice (some pad) z pc1), rfl, rfl, rfl, rfl, HV1.out.take k (by omega), HT1.out.take k, HVz.out, hm11, HLk.out, HSk.out, HAns2.out, HPd.out⟩
                        case measure =>
                          show k < M1
                          omega
                      · obtain ⟨X2, Y2, hX2, hY2, hXY2⟩ := strs_of tq rq
                        rw [← hX2] at c1
                        rw [← hY2] at c2
                        have hxx : (X2.toList == Y2.toList) = false := by rw [hXY2]; exact decide_eq_false hto
                        clear hX2 hY2 hXY2
                        obtain rfl : q = some (rq, tq) := HAns.out.1 hto
                        clear HAns
                        go_wp2_with (refine wpList_store_row rfl 51 (.tmp 10) (.tmp 118) rfl (w.heap.size + 1) (prC ar rq.length cr at2 tq.length ct2) rfl rfl 51 _ HPd.out.2.1 (size_pair _ _ _ _ _ _) rfl (pair_one _ _ _ _ _ _) ?_)
                        exact bodyPost_ret (v := .tuple #[.agg (prC ar rq.length cr at2 tq.length ct2), .int .i64 0]) (ret_pair rfl _ _ (w.heap.size + 1) _ _ _ _ _ _ _ rfl rfl (Blk.row HPd.out.2.1 _)) rfl ⟨_, rfl, ⟨ar, cr, at2, ct2, rfl, HRl3.out.farP HPd.out.2.1 (prC_far _ _ _ _ _ _), HRt.out.farP HPd.out.2.1 (prC_far _ _ _ _ _ _)⟩, below_setRow HPd.out.2.2 _ _ (by omega)⟩
                  · have hs := sizeG_right b1 hmlt h2 (by rw [← hkk]; exact hik)
                    rw [← hkk, ← hpl1] at hs
                    obtain ⟨m2, hi2⟩ : ∃ x : Nat, (m1 : Int) - (k : Int) = (x : Int) := ⟨m1 - k, by omega⟩
                    obtain ⟨M2, hm2⟩ : ∃ x : Nat, (M1 : Int) - (k : Int) = (x : Int) := ⟨M1 - k, by omega⟩
                    have ei : m1 - k = m2 := by omega
                    have em : M1 - k = M2 := by omega
                    rw [ei, em] at hs
                    have hm2b : m2 ≤ 80 := by omega
                    have hM2b : M2 ≤ 80 := by omega
                    have hm21 : 1 ≤ m2 := by omega
                    have hl2 : ps1.dropLast.length = sizeG m2 M2 false := by omega
                    obtain ⟨U, hU, hU32⟩ : ∃ U, U = newerT n m2 M2 h ps1.dropLast false ∧ U.length = 32 := ⟨_, rfl, newerT_length n m2 M2 h _ false Hh.out hall (by omega) hl2⟩
                    have HNw := Lib.hid (fun (W : World) (hW : Below w.heap.size w W) => refnewer_any n HN.out M2 m2 false h ps1.dropLast (.slice (some pad) z pc1) W Hh.out hm21 (by omega) (by omega) (hvz2.below (Nat.le_refl _) hW) hl2 (HK.out.below (Nat.le_refl _) hW))
                    rw [← hU] at HNw
                    obtain ⟨tq, htq⟩ : ∃ t, t = nodeT y U := ⟨_, rfl⟩
                    have HNt := Lib.hid (fun (W : World) => refnodetext_any y U W hy32 hU32)
                    rw [show (1 :: (y ++ U) : List UInt8) = tq from htq.symm] at HNt
                    have HAns := Lib.hid (show (tq ≠ rq → q = some (rq, tq)) ∧ (tq = rq → growT n (T1.drop k) m2 h ps1.dropLast false = q) by
                      have e := growT_right n T1 m1 h ps1 b1 (by omega) (by omega) (by rw [← hM1, ← hkk]; exact hik)
                      rw [← hM1, ← hkk, hlast, ei, em, ← hU, ← htq, ← hrq, hq1] at e
                      exact ⟨fun hne => by rw [e, if_pos hne], fun he => by rw [e, if_neg (by simpa using he)]⟩)
                    have hvd1 : Txs w (.slice (Option.map (fun x => x.add k) a1) (M1 - k) (c1 - k)) (T1.drop k) := by
                      have := hv1.drop k (by omega)
                      unfold sliced at this
                      rw [if_neg (by omega)] at this
                      simpa using this
                    have HVd := Lib.hid hvd1
                    have hkl : (T1.drop k).length = M2 := by rw [List.length_drop]; omega
                    have HLk := Lib.hid (show m2 ≤ (T1.drop k).length by omega)
                    have HSk := Lib.hid (show ps1.dropLast.length = sizeG m2 (T1.drop k).length false by rw [hkl]; exact hl2)
                    have HI2 := Lib.hid hi2
                    have HM2 := Lib.hid hm2
                    have hik2 : decide ((m1 : Int) ≤ (k : Int)) = false := decide_eq_false (by omega)
                    clear hv1 hT1 hvz hvz2 hy hy32 hlast hdl hdll hM1 hp1 hpl1 hq1 hkk hs hU hU32 htq hrq hkl ei em hvd1 hi2 hm2 hl2 hall
                    go_wp2_with fail
                    refine (HSplit.out _).mono ?_
                    rintro e w2 ⟨rfl, rfl⟩
                    clear HSplit
                    go_wp2_with fail
                    refine HHash.out.mono ?_
                    rintro e W0 ⟨u19, rfl, hr1, hb1⟩
                    have HPb0 := Lib.hid (HPa.out.keep hb1)
                    obtain ⟨ar, cr, rfl⟩ := slice_of_row hr1
                    have HRl0 := Lib.hid hr1.bys
                    clear hr1 hb1 HPa HHash
                    go_upto_region 17 with fail
                    refine world_cut (fun W => PgW w h W ∧ Bys W (.slice ar rq.length cr) rq) ⟨HPb0.out.keep ((Below.refl _ _).alloc (Nat.le_refl _) _), HRl0.out.below (Nat.le_refl _) ((Below.refl _ _).alloc (Nat.le_refl _) _)⟩ ?_
                    clear HPb0 HRl0
                    rintro W2 ⟨hp2, hr2⟩
                    have HPc := Lib.hid hp2
                    have HRl2 := Lib.hid hr2
                    clear hp2 hr2
                    have hG : ∀ W W' : World, Below W2.heap.size W2 W → Below W.heap.size W W' → Below W2.heap.size W2 W' := fun W W' h h' => h.trans (h'.mono h.size)
                    refine region_by [(91, .is (.slice (some pad) p1 pc1)), (92, .is (.int .i64 (z : Int))), (93, .is (.pointer (some (pad.add (z * 32))))), (94, .is (.agg (bs y))), (95, .is (.int .i64 n)), (96, .is (.int .u64 (m1 : Int))), (97, .is (.int .i64 (k : Int))), (98, .is (.int .u64 (k : Int))), (99, .is (.int .u64 (m2 : Int))), (100, .is (.slice a1 M1 c1)), (101, .is (.int .i64 (M1 : Int))), (102, .is (.int .i64 (k : Int))), (103, .is (.int .i64 (M2 : Int))), (104, .is (.int .u64 (M2 : Int))), (105, .is (.agg (bs h))), (106, .is (.slice (some pad) p1 pc1)), (107, .is (.int .i64 (z : Int))), (108, .is (.slice (some pad) z pc1)), (109, .is (.agg (bs U))), (110, .row W2.heap.size tq), (20, .row W2.heap.size tq)] [0, 1, 2, 3, 4, 5, 6, 7, 8, 9, 10, 12, 13, 14, 15, 16, 17, 18, 19, 21, 22, 23, 24, 25, 26, 27, 28, 29, 30, 31, 32, 33, 34, 35, 36, 37, 38, 39, 40, 41, 42, 43, 44, 45, 46, 47, 48, 49, 50, 51, 52, 53, 54, 55, 56, 136, 20] (fun W => Below W2.heap.size W2 W) (by kernel_rfl) (by kernel_rfl) (by kernel_rfl) (by kernel_rfl) (by kernel_rfl) ((Below.refl _ _).drew) ?_ ?_
                    · refine ⟨?c0, ?c1, ?c2, ?c3, ?c4, ?c5, ?c6, ?c7, ?c8, ?c9, ?c10, ?c11, ?c12, ?c13, ?c14, ?c15, ?c16, ?c17, ?c18, ?c19, ?c20, trivial⟩
                      case c0 => exact ask_copy (guard_none rfl) (.tmp 4) (.inl rfl) (by intro k hk; cases hk; rfl)
                      case c1 => exact ask_copy (guard_none rfl) (.tmp 18) (.inl rfl) (by intro k hk; cases hk; rfl)
                      case c2 => exact ask_idx (guard_none rfl) _ (.tmp 91) (.tmp 92) (.slice (some pad) p1 pc1) (.int .i64 (z : Int)) (.pointer (some (pad.add (z * 32)))) rfl rfl rfl (by intro k hk; cases hk; rfl) HIy.out
                      case c3 => exact ask_load (guard_none rfl) _ (.tmp 93) (.pointer (some (pad.add (z * 32)))) (.agg (bs y)) rfl rfl (by intro k hk; cases hk; rfl) (fun W hW => HLd.out W (HPc.out.2.2.trans (hW.mono HPc.out.2.2.size)))
                      case c4 => exact ask_copy (guard_none rfl) (.tmp 0) (.inl rfl) (by intro k hk; cases hk; rfl)
                      case c5 => exact ask_copy (guard_none rfl) (.tmp 2) (.inl rfl) (by intro k hk; cases hk; rfl)
                      case c6 => exact ask_copy (guard_none rfl) (.tmp 17) (.inl rfl) (by intro k hk; cases hk; rfl)
                      case c7 => exact ask_conv_iu (guard_none rfl) (.tmp 97) k (by omega) rfl rfl (by intro k hk; cases hk; rfl)
                      case c8 => exact ask_bin (guard_none rfl) .sub _ _ (.tmp 96) (.tmp 98) (.int .u64 (m1 : Int)) (.int .u64 (k : Int)) (.int .u64 (m2 : Int)) rfl rfl rfl (by intro k hk; cases hk; rfl) (fun W => sub_u64 _ _ _ _ _ _ HI2.out (by omega) W)
                      case c9 => exact ask_copy (guard_none rfl) (.tmp 1) (.inl rfl) (by intro k hk; cases hk; rfl)
                      case c10 => exact ask_len (guard_none rfl) (.tmp 100) _ a1 M1 c1 rfl (by kernel_rfl) rfl (by intro k hk; cases hk; rfl)
                      case c11 => exact ask_copy (guard_none rfl) (.tmp 17) (.inl rfl) (by intro k hk; cases hk; rfl)
                      case c12 => exact ask_bin (guard_none rfl) .sub _ _ (.tmp 101) (.tmp 102) (.int .i64 (M1 : Int)) (.int .i64 (k : Int)) (.int .i64 (M2 : Int)) rfl rfl rfl (by intro k hk; cases hk; rfl) (fun W => sub_i64 _ _ _ _ _ _ HM2.out (by omega) W)
                      case c13 => exact ask_conv_iu (guard_none rfl) (.tmp 103) M2 (by omega) rfl rfl (by intro k hk; cases hk; rfl)
                      case c14 => exact ask_load (guard_none rfl) _ (.tmp 8) (.pointer (some ⟨w.heap.size, 0, none⟩)) (.agg (bs h)) rfl rfl (by intro k hk; cases hk; rfl) (fun W hW => (HPc.out.keep hW).1.loads 24 _ Tryd.underlying24 rfl HSh.out)
                      case c15 => exact ask_copy (guard_none rfl) (.tmp 4) (.inl rfl) (by intro k hk; cases hk; rfl)
                      case c16 => exact ask_copy (guard_none rfl) (.tmp 18) (.inl rfl) (by intro k hk; cases hk; rfl)
                      case c17 => exact ask_slice (guard_none rfl) _ (.tmp 106) none (some (.tmp 107)) none (.slice (some pad) p1 pc1) (.slice (some pad) z pc1) none (some (.int .i64 (z : Int))) none rfl rfl rfl rfl rfl (by intro k hk; cases hk; rfl) HSl.out
                      case c18 => exact ask_call hG (guard_none rfl) _ _ _ #[.int .i64 n, .int .u64 (m2 : Int), .int .u64 (M2 : Int), .agg (bs h), .slice (some pad) z pc1, .bool false] (.is (.agg (bs U))) rfl (by kernel_rfl) rfl rfl (by intro k hk; cases hk; rfl) (fun W hW => (HNw.out W (HPc.out.2.2.trans (hW.mono HPc.out.2.2.size))).mono fun e w' h => ⟨_, h.1, rfl, h.2⟩)
                      case c19 => exact ask_call hG (guard_none rfl) _ _ _ #[.agg (bs y), .agg (bs U)] (.row W2.heap.size tq) rfl (by kernel_rfl) rfl rfl (by intro k hk; cases hk; rfl) (fun W hW => (HNt.out W).mono fun e w' h => by obtain ⟨u, h1, h2, h3⟩ := h; exact ⟨u, h1, h2.lower hW.size, h3⟩)
                      case c20 => exact ask_copy (guard_none rfl) (.tmp 110) (.inr rfl) (by intro k hk; cases hk; rfl)
                    · intro a' W3 hW hd' hs' hf'
                      obtain ⟨at2, ct2, et⟩ := slice_of_row (show Row W3 W2.heap.size (a'.tmps.getD 20 undef) tq from hf' 20 rfl)
                      have hrt : Row W3 W2.heap.size (a'.tmps.getD 20 undef) tq := hf' 20 rfl
                      rw [et] at hrt
                      have t0 : a'.tmps.getD 0 undef = .int .i64 n := hf' 0 rfl
                      have t3 : a'.tmps.getD 3 undef = us' 3 := hf' 3 rfl
                      have t5 : a'.tmps.getD 5 undef = us' 5 := hf' 5 rfl
                      have t6 : a'.tmps.getD 6 undef = us' 6 := hf' 6 rfl
                      have t7 : a'.tmps.getD 7 undef = us' 7 := hf' 7 rfl
                      have t8 : a'.tmps.getD 8 undef = .pointer (some ⟨w.heap.size, 0, none⟩) := hf' 8 rfl
                      have t9 : a'.tmps.getD 9 undef = us' 9 := hf' 9 rfl
                      have t10 : a'.tmps.getD 10 undef = .pointer (some ⟨w.heap.size + 1, 0, none⟩) := hf' 10 rfl
                      have t12 : a'.tmps.getD 12 undef = us' 12 := hf' 12 rfl
                      have t13 : a'.tmps.getD 13 undef = us' 13 := hf' 13 rfl
                      have t14 : a'.tmps.getD 14 undef = us' 14 := hf' 14 rfl
                      have t15 : a'.tmps.getD 15 undef = us' 15 := hf' 15 rfl
                      have t21 : a'.tmps.getD 21 undef = us' 21 := hf' 21 rfl
                      have t22 : a'.tmps.getD 22 undef = us' 22 := hf' 22 rfl
                      have t23 : a'.tmps.getD 23 undef = us' 23 := hf' 23 rfl
                      have t24 : a'.tmps.getD 24 undef = us' 24 := hf' 24 rfl
                      have t25 : a'.tmps.getD 25 undef = us' 25 := hf' 25 rfl
                      have t26 : a'.tmps.getD 26 undef = us' 26 := hf' 26 rfl
                      have t27 : a'.tmps.getD 27 undef = us' 27 := hf' 27 rfl
                      have t28 : a'.tmps.getD 28 undef = us' 28 := hf' 28 rfl
                      have t29 : a'.tmps.getD 29 undef = us' 29 := hf' 29 rfl
                      have t30 : a'.tmps.getD 30 undef = us' 30 := hf' 30 rfl
                      have t31 : a'.tmps.getD 31 undef = us' 31 := hf' 31 rfl
                      have t32 : a'.tmps.getD 32 undef = us' 32 := hf' 32 rfl
                      have t33 : a'.tmps.getD 33 undef = us' 33 := hf' 33 rfl
                      have t34 : a'.tmps.getD 34 undef = us' 34 := hf' 34 rfl
                      have t35 : a'.tmps.getD 35 undef = us' 35 := hf' 35 rfl
                      have t36 : a'.tmps.getD 36 undef = us' 36 := hf' 36 rfl
                      have t37 : a'.tmps.getD 37 undef = us' 37 := hf' 37 rfl
                      have t38 : a'.tmps.getD 38 undef = us' 38 := hf' 38 rfl
                      have t39 : a'.tmps.getD 39 undef = us' 39 := hf' 39 rfl
                      have t40 : a'.tmps.getD 40 undef = us' 40 := hf' 40 rfl
                      have t41 : a'.tmps.getD 41 undef = us' 41 := hf' 41 rfl
                      have t42 : a'.tmps.getD 42 undef = us' 42 := hf' 42 rfl
                      have t43 : a'.tmps.getD 43 undef = us' 43 := hf' 43 rfl
                      have t44 : a'.tmps.getD 44 undef = us' 44 := hf' 44 rfl
                      have t45 : a'.tmps.getD 45 undef = us' 45 := hf' 45 rfl
                      have t46 : a'.tmps.getD 46 undef = us' 46 := hf' 46 rfl
                      have t47 : a'.tmps.getD 47 undef = us' 47 := hf' 47 rfl
                      have t48 : a'.tmps.getD 48 undef = us' 48 := hf' 48 rfl
                      have t49 : a'.tmps.getD 49 undef = us' 49 := hf' 49 rfl
                      have t50 : a'.tmps.getD 50 undef = us' 50 := hf' 50 rfl
                      have t51 : a'.tmps.getD 51 undef = us' 51 := hf' 51 rfl
                      have t52 : a'.tmps.getD 52 undef = us' 52 := hf' 52 rfl
                      have t53 : a'.tmps.getD 53 undef = us' 53 := hf' 53 rfl
                      have t54 : a'.tmps.getD 54 undef = us' 54 := hf' 54 rfl
                      have t55 : a'.tmps.getD 55 undef = .bool false := hf' 55 rfl
                      have t56 : a'.tmps.getD 56 undef = us' 56 := hf' 56 rfl
                      have t136 : a'.tmps.getD 136 undef = us' 136 := hf' 136 rfl
                      have t1 : a'.tmps.getD 1 undef = .slice a1 M1 c1 := hf' 1 rfl
                      have t2 : a'.tmps.getD 2 undef = .int .u64 (m1 : Int) := hf' 2 rfl
                      have t4 : a'.tmps.getD 4 undef = .slice (some pad) p1 pc1 := hf' 4 rfl
                      have t16 : a'.tmps.getD 16 undef = .bool b1 := hf' 16 rfl
                      have t17 : a'.tmps.getD 17 undef = .int .i64 (k : Int) := hf' 17 rfl
                      have t18 : a'.tmps.getD 18 undef = .int .i64 (z : Int) := hf' 18 rfl
                      have t19 : a'.tmps.getD 19 undef = .slice ar rq.length cr := hf' 19 rfl
                      have t20 := et
                      obtain ⟨ws', hus, ha'⟩ := act_open 137 a' hs' hd'
                      rw [← hus] at t0 t3 t5 t6 t7 t8 t9 t10 t12 t13 t14 t15 t21 t22 t23 t24 t25 t26 t27 t28 t29 t30 t31 t32 t33 t34 t35 t36 t37 t38 t39 t40 t41 t42 t43 t44 t45 t46 t47 t48 t49 t50 t51 t52 t53 t54 t55 t56 t136 t1 t2 t4 t16 t17 t18 t19 t20
                      have el : ((List.range 137).map ws').toArray = #[.int .i64 n, .slice a1 M1 c1, .int .u64 (m1 : Int), us' 3, .slice (some pad) p1 pc1, us' 5, us' 6, us' 7, .pointer (some ⟨w.heap.size, 0, none⟩), us' 9, .pointer (some ⟨w.heap.size + 1, 0, none⟩), ws' 11, us' 12, us' 13, us' 14, us' 15, .bool b1, .int .i64 (k : Int), .int .i64 (z : Int), .slice ar rq.length cr, .slice at2 tq.length ct2, us' 21, us' 22, us' 23, us' 24, us' 25, us' 26, us' 27, us' 28, us' 29, us' 30, us' 31, us' 32, us' 33, us' 34, us' 35, us' 36, us' 37, us' 38, us' 39, us' 40, us' 41, us' 42, us' 43, us' 44, us' 45, us' 46, us' 47, us' 48, us' 49, us' 50, us' 51, us' 52, us' 53, us' 54, .bool false, us' 56, ws' 57, ws' 58, ws' 59, ws' 60, ws' 61, ws' 62, ws' 63, ws' 64, ws' 65, ws' 66, ws' 67, ws' 68, ws' 69, ws' 70, ws' 71, ws' 72, ws' 73, ws' 74, ws' 75, ws' 76, ws' 77, ws' 78, ws' 79, ws' 80, ws' 81, ws' 82, ws' 83, ws' 84, ws' 85, ws' 86, ws' 87, ws' 88, ws' 89, ws' 90, ws' 91, ws' 92, ws' 93, ws' 94, ws' 95, ws' 96, ws' 97, ws' 98, ws' 99, ws' 100, ws' 101, ws' 102, ws' 103, ws' 104, ws' 105, ws' 106, ws' 107, ws' 108, ws' 109, ws' 110, ws' 111, ws' 112, ws' 113, ws' 114, ws' 115, ws' 116, ws' 117, ws' 118, ws' 119, ws' 120, ws' 121, ws' 122, ws' 123, ws' 124, ws' 125, ws' 126, ws' 127, ws' 128, ws' 129, ws' 130, ws' 131, ws' 132, ws' 133, ws' 134, ws' 135, us' 136] := by
                        show #[ws' 0, ws' 1, ws' 2, ws' 3, ws' 4, ws' 5, ws' 6, ws' 7, ws' 8, ws' 9, ws' 10, ws' 11, ws' 12, ws' 13, ws' 14, ws' 15, ws' 16, ws' 17, ws' 18, ws' 19, ws' 20, ws' 21, ws' 22, ws' 23, ws' 24, ws' 25, ws' 26, ws' 27, ws' 28, ws' 29, ws' 30, ws' 31, ws' 32, ws' 33, ws' 34, ws' 35, ws' 36, ws' 37, ws' 38, ws' 39, ws' 40, ws' 41, ws' 42, ws' 43, ws' 44, ws' 45, ws' 46, ws' 47, ws' 48, ws' 49, ws' 50, ws' 51, ws' 52, ws' 53, ws' 54, ws' 55, ws' 56, ws' 57, ws' 58, ws' 59, ws' 60, ws' 61, ws' 62, ws' 63, ws' 64, ws' 65, ws' 66, ws' 67, ws' 68, ws' 69, ws' 70, ws' 71, ws' 72, ws' 73, ws' 74, ws' 75, ws' 76, ws' 77, ws' 78, ws' 79, ws' 80, ws' 81, ws' 82, ws' 83, ws' 84, ws' 85, ws' 86, ws' 87, ws' 88, ws' 89, ws' 90, ws' 91, ws' 92, ws' 93, ws' 94, ws' 95, ws' 96, ws' 97, ws' 98, ws' 99, ws' 100, ws' 101, ws' 102, ws' 103, ws' 104, ws' 105, ws' 106, ws' 107, ws' 108, ws' 109, ws' 110, ws' 111, ws' 112, ws' 113, ws' 114, ws' 115, ws' 116, ws' 117, ws' 118, ws' 119, ws' 120, ws' 121, ws' 122, ws' 123, ws' 124, ws' 125, ws' 126, ws' 127, ws' 128, ws' 129, ws' 130, ws' 131, ws' 132, ws' 133, ws' 134, ws' 135, ws' 136] = _
                        rw [t0, t3, t5, t6, t7, t8, t9, t10, t12, t13, t14, t15, t21, t22, t23, t24, t25, t26, t27, t28, t29, t30, t31, t32, t33, t34, t35, t36, t37, t38, t39, t40, t41, t42, t43, t44, t45, t46, t47, t48, t49, t50, t51, t52, t53, t54, t55, t56, t136, t1, t2, t4, t16, t17, t18, t19, t20]
                      rw [el] at ha'
                      subst ha'
                      clear et hus t0 t3 t5 t6 t7 t8 t9 t10 t12 t13 t14 t15 t21 t22 t23 t24 t25 t26 t27 t28 t29 t30 t31 t32 t33 t34 t35 t36 t37 t38 t39 t40 t41 t42 t43 t44 t45 t46 t47 t48 t49 t50 t51 t52 t53 t54 t55 t56 t136 t1 t2 t4 t16 t17 t18 t19 t20 el hf' hs' hd'
                      have HPd := Lib.hid (HPc.out.keep hW)
                      have HRl3 := Lib.hid (HRl2.out.below (Nat.le_refl _) hW)
                      have HRt := Lib.hid hrt.bys
                      clear hW hG HPc HRl2 hrt
                      have c1 := conv_bys HRt.out
                      have c2 := conv_bys HRl3.out
                      by_cases hto : tq = rq
                      · subst hto
                        obtain ⟨X2, hX2⟩ : ∃ X2 : ByteArray, X2 = ⟨tq.toArray⟩ := ⟨_, rfl⟩
                        rw [← hX2] at c1 c2
                        have hxx : (X2.toList == X2.toList) = true := beq_self_eq_true _
                        clear hX2
                        have hanswer := HAns.out.2 rfl
                        have HAns2 := Lib.hid hanswer
                        clear hanswer
                        go_wp2_with (refine wpList_slice_by rfl 30 (.tmp 133) none (some (.tmp 134)) rfl (.slice (some pad) p1 pc1) (.slice (some pad) z pc1) none (some (.int .i64 (z : Int))) rfl rfl rfl (HSl.out _) ?_)
                        clear c1 c2
                        go_roundw
                        case rel => exact ⟨T1.drop k, m2, ps1.dropLast, false, _, (.slice (some pad) z pc1), rfl, by rw [HI2.out], rfl, rfl, HVd.out, HT1.out.drop k, HVz.out, by omega, HLk.out, HSk.out, HAns2.out, HPd.out⟩
                        case measure =>
                          show M1 - k < M1
                          omega
                      · obtain ⟨X2, Y2, hX2, hY2, hXY2⟩ := strs_of tq rq
                        rw [← hX2] at c1
                        rw [← hY2] at c2
                        have hxx : (X2.toList == Y2.toList) = false := by rw [hXY2]; exact decide_eq_false hto
                        clear hX2 hY2 hXY2
                        obtain rfl : q = some (rq, tq) := HAns.out.1 hto
                        clear HAns
                        go_wp2_with (refine wpList_store_row rfl 51 (.tmp 10) (.tmp 118) rfl (w.heap.size + 1) (prC ar rq.length cr at2 tq.length ct2) rfl rfl 51 _ HPd.out.2.1 (size_pair _ _ _ _ _ _) rfl (pair_one _ _ _ _ _ _) ?_)
                        exact bodyPost_ret (v := .tuple #[.agg (prC ar rq.length cr at2 tq.length ct2), .int .i64 0]) (ret_pair rfl _ _ (w.heap.size + 1) _ _ _ _ _ _ _ rfl rfl (Blk.row HPd.out.2.1 _)) rfl ⟨_, rfl, ⟨ar, cr, at2, ct2, rfl, HRl3.out.farP HPd.out.2.1 (prC_far _ _ _ _ _ _), HRt.out.farP HPd.out.2.1 (prC_far _ _ _ _ _ _)⟩, below_setRow HPd.out.2.2 _ _ (by omega)⟩
                · obtain rfl : m1 = M1 := by omega
                  have hneq : ((m1 : Int) != (m1 : Int)) = false := by simp
                  rw [growT_all n T1 m1 h ps1 b1 (by omega)] at hq1
                  obtain rfl : q = none := hq1.symm
                  clear hv1 hT1 hvz hM1 hp1 hpl1 hq1
                  go_wp2_with (refine wpList_store_row rfl 51 (.tmp 10) (.tmp 136) rfl (w.heap.size + 1) (prC none 0 0 none 0 0) rfl rfl 51 _ HPa.out.2.1 (size_pair _ _ _ _ _ _) rfl (pair_one _ _ _ _ _ _) ?_)
                  exact bodyPost_ret (v := .tuple #[.agg (prC none 0 0 none 0 0), .int .i64 8]) (ret_pair rfl _ _ (w.heap.size + 1) _ _ _ _ _ _ _ rfl rfl (Blk.row HPa.out.2.1 _)) rfl ⟨_, rfl, PairB.none _, below_setRow HPa.out.2.2 _ _ (by omega)⟩
      · rw [if_pos (.inr hdr)]
        obtain rfl : h = C := hch.symm
        have HNq := Lib.hid (fun s t W => neq_hash s t h hC32 W)
        have HNq2 := Lib.hid (fun s t W => neq_hash_ne s t D ro hD32 hro32 hdr W)
        clear hv hT hvp hk hn hm hp hh hC hC32 hD hD32 hE hro hro32 hch hdr hpl
        go_enter Tryd.func40, Tryd.ntmps40
        go_upto_region 2 with fail
        refine world_cut (fun W => PgW w h W) HP.out ?_
        clear HP
        intro W2 hW2
        have HPa := Lib.hid hW2
        clear hW2
        go_wp2_with (refine wpList_load_row rfl 24 (.tmp 8) rfl w.heap.size rfl 24 (bs h) (0, 0) _ HPa.out.1 Tryd.underlying24 rfl HSh.out ?_)
        refine (HClimb.out _ HPa.out.2.2).mono ?_
        rintro e W3 ⟨rfl, hb3⟩
        have HPa3 := Lib.hid (HPa.out.keep hb3)
        clear hb3 HClimb HPa
        go_upto_region 3 with (first
          | (refine wpList_store_row rfl 24 (.tmp 13) (.tmp 31) rfl W3.heap.size (bs h) rfl rfl 24 _ ((Blk.new W3 _ _).alloc _) HSh.out (by simp [bs_size, Hh.out]) (bs_one _) ?_; refine world_cutL (fun W => PgW w h W ∧ Blk W W3.heap.size 24 (bs h) ∧ ∃ zs, Blk W (W3.heap.size + 1) 24 zs ∧ zs.size = 32) (HPa3.out.two _ _ h rfl) ?_; rintro W5 ⟨hp5, hc5, zs, hz5, hzs⟩; (have HPa5 := Lib.hid hp5); (have HC5 := Lib.hid hc5); (have HZ5 := Lib.hid hz5); (have HZs := Lib.hid hzs); clear hp5 hc5 hz5 hzs)
          | (refine wpList_store_row rfl 24 (.tmp 14) (.tmp 32) rfl (W3.heap.size + 1) (bs D) rfl rfl 24 zs HZ5.out HSD.out (by rw [bs_size, HD32.out, HZs.out]) (bs_one _) ?_))
        obtain ⟨g1, hg1⟩ : ∃ g, g = W3.heap.size := ⟨_, rfl⟩
        have hw3 := HPa3.out.lt
        refine world_cut (fun W => PgW w h W ∧ Blk W g1 24 (bs h) ∧ Blk W (g1 + 1) 24 (bs D)) ⟨HPa5.out.row _ _ (by omega), by rw [hg1]; exact HC5.out.rowOther _ (by omega), by rw [hg1]; exact HZ5.out.row _⟩ ?_
        rw [← hg1]
        clear hg1 HPa3 HPa5 HC5 HZ5 HZs hw3
        rintro W4 ⟨hW4, hb4, hb5⟩
        have HPa := Lib.hid hW4
        have HC4 := Lib.hid hb4
        have HD4 := Lib.hid hb5
        clear hW4 hb4 hb5
        go_upto_region 5 with fail
        have hG : ∀ W W' : World, Below W4.heap.size W4 W → Below W.heap.size W W' → Below W4.heap.size W4 W' := fun W W' h h' => h.trans (h'.mono h.size)
        refine region_skip [(38, .is (.agg (bs h))), (39, .is (.agg (bs h))), (40, .is (.bool false)), (41, .is (.bool false)), (42, .is (.agg (bs D))), (43, .is (.int .i64 n)), (44, .is (.slice pv M cv)), (45, .is (.agg (bs ro))), (46, .is (.bool true)), (47, .is (.bool true))] [0, 1, 2, 4, 8, 10, 11, 47] (fun W => Below W4.heap.size W4 W) (by kernel_rfl) (by kernel_rfl) (by kernel_rfl) (by kernel_rfl) (by kernel_rfl) ((Below.refl _ _).drew) ?_ ?_
        · refine ⟨?c0, ?c1, ?c2, ?c3, ?c4, ?c5, ?c6, ?c7, ?c8, ?c9, trivial⟩
          case c0 => exact runs (ask_load (guard_none rfl) _ (.tmp 13) (.pointer (some ⟨g1, 0, none⟩)) (.agg (bs h)) rfl rfl (by intro k hk; cases hk; rfl) (fun W hW => (HC4.out.keep hW).loads 24 _ Tryd.underlying24 rfl HSh.out))
          case c1 => exact runs (ask_load (guard_none rfl) _ (.tmp 8) (.pointer (some ⟨w.heap.size, 0, none⟩)) (.agg (bs h)) rfl rfl (by intro k hk; cases hk; rfl) (fun W hW => (HPa.out.keep hW).1.loads 24 _ Tryd.underlying24 rfl HSh.out))
          case c2 => exact runs (ask_bin (guard_none rfl) .neq _ _ (.tmp 38) (.tmp 39) (.agg (bs h)) (.agg (bs h)) (.bool false) rfl rfl rfl (by intro k hk; cases hk; rfl) (HNq.out _ _))
          case c3 => exact runs (ask_copy (guard_none rfl) (.tmp 40) (.inl rfl) (by intro k hk; cases hk; rfl))
          case c4 => exact runs (ask_load (guard_some rfl rfl rfl) _ (.tmp 14) (.pointer (some ⟨g1 + 1, 0, none⟩)) (.agg (bs D)) rfl rfl (by intro k hk; cases hk; rfl) (fun W hW => (HD4.out.keep hW).loads 24 _ Tryd.underlying24 rfl HSD.out))
          case c5 => exact runs (ask_copy (guard_some rfl rfl rfl) (.tmp 0) (.inl rfl) (by intro k hk; cases hk; rfl))
          case c6 => exact runs (ask_copy (guard_some rfl rfl rfl) (.tmp 1) (.inl rfl) (by intro k hk; cases hk; rfl))
          case c7 => exact runs (ask_call hG (guard_some rfl rfl rfl) _ _ _ #[.int .i64 n, .slice pv M cv] (.is (.agg (bs ro))) rfl (by kernel_rfl) rfl rfl (by intro k hk; cases hk; rfl) (fun W hW => (HRo.out W (HPa.out.2.2.trans (hW.mono HPa.out.2.2.size))).mono fun e w' h => ⟨_, h.1, rfl, h.2⟩))
          case c8 => exact runs (ask_bin (guard_some rfl rfl rfl) .neq _ _ (.tmp 42) (.tmp 45) (.agg (bs D)) (.agg (bs ro)) (.bool true) rfl rfl rfl (by intro k hk; cases hk; rfl) (HNq2.out _ _))
          case c9 => exact runs (ask_pick (guard_none rfl) (.tmp 41) (.const (.bool true)) (.tmp 46) false rfl rfl (by intro k hk; cases hk; rfl))
        · intro a' W5 hW hd' hs' hf'
          have t0 : a'.tmps.getD 0 undef = .int .i64 n := hf' 0 rfl
          have t1 : a'.tmps.getD 1 undef = .slice pv M cv := hf' 1 rfl
          have t2 : a'.tmps.getD 2 undef = .int .u64 (m : Int) := hf' 2 rfl
          have t4 : a'.tmps.getD 4 undef = .slice pp p pc := hf' 4 rfl
          have t8 : a'.tmps.getD 8 undef = .pointer (some ⟨w.heap.size, 0, none⟩) := hf' 8 rfl
          have t10 : a'.tmps.getD 10 undef = .pointer (some ⟨w.heap.size + 1, 0, none⟩) := hf' 10 rfl
          have t11 : a'.tmps.getD 11 undef = .int .i64 0 := hf' 11 rfl
          have t47 : a'.tmps.getD 47 undef = .bool true := hf' 47 rfl
          obtain ⟨ks', hus, ha'⟩ := act_open 137 a' hs' hd'
          rw [← hus] at t0 t1 t2 t4 t8 t10 t11 t47
          have el : ((List.range 137).map ks').toArray = #[.int .i64 n, .slice pv M cv, .int .u64 (m : Int), ks' 3, .slice pp p pc, ks' 5, ks' 6, ks' 7, .pointer (some ⟨w.heap.size, 0, none⟩), ks' 9, .pointer (some ⟨w.heap.size + 1, 0, none⟩), .int .i64 0, ks' 12, ks' 13, ks' 14, ks' 15, ks' 16, ks' 17, ks' 18, ks' 19, ks' 20, ks' 21, ks' 22, ks' 23, ks' 24, ks' 25, ks' 26, ks' 27, ks' 28, ks' 29, ks' 30, ks' 31, ks' 32, ks' 33, ks' 34, ks' 35, ks' 36, ks' 37, ks' 38, ks' 39, ks' 40, ks' 41, ks' 42, ks' 43, ks' 44, ks' 45, ks' 46, .bool true, ks' 48, ks' 49, ks' 50, ks' 51, ks' 52, ks' 53, ks' 54, ks' 55, ks' 56, ks' 57, ks' 58, ks' 59, ks' 60, ks' 61, ks' 62, ks' 63, ks' 64, ks' 65, ks' 66, ks' 67, ks' 68, ks' 69, ks' 70, ks' 71, ks' 72, ks' 73, ks' 74, ks' 75, ks' 76, ks' 77, ks' 78, ks' 79, ks' 80, ks' 81, ks' 82, ks' 83, ks' 84, ks' 85, ks' 86, ks' 87, ks' 88, ks' 89, ks' 90, ks' 91, ks' 92, ks' 93, ks' 94, ks' 95, ks' 96, ks' 97, ks' 98, ks' 99, ks' 100, ks' 101, ks' 102, ks' 103, ks' 104, ks' 105, ks' 106, ks' 107, ks' 108, ks' 109, ks' 110, ks' 111, ks' 112, ks' 113, ks' 114, ks' 115, ks' 116, ks' 117, ks' 118, ks' 119, ks' 120, ks' 121, ks' 122, ks' 123, ks' 124, ks' 125, ks' 126, ks' 127, ks' 128, ks' 129, ks' 130, ks' 131, ks' 132, ks' 133, ks' 134, ks' 135, ks' 136] := by
            show #[ks' 0, ks' 1, ks' 2, ks' 3, ks' 4, ks' 5, ks' 6, ks' 7, ks' 8, ks' 9, ks' 10, ks' 11, ks' 12, ks' 13, ks' 14, ks' 15, ks' 16, ks' 17, ks' 18, ks' 19, ks' 20, ks' 21, ks' 22, ks' 23, ks' 24, ks' 25, ks' 26, ks' 27, ks' 28, ks' 29, ks' 30, ks' 31, ks' 32, ks' 33, ks' 34, ks' 35, ks' 36, ks' 37, ks' 38, ks' 39, ks' 40, ks' 41, ks' 42, ks' 43, ks' 44, ks' 45, ks' 46, ks' 47, ks' 48, ks' 49, ks' 50, ks' 51, ks' 52, ks' 53, ks' 54, ks' 55, ks' 56, ks' 57, ks' 58, ks' 59, ks' 60, ks' 61, ks' 62, ks' 63, ks' 64, ks' 65, ks' 66, ks' 67, ks' 68, ks' 69, ks' 70, ks' 71, ks' 72, ks' 73, ks' 74, ks' 75, ks' 76, ks' 77, ks' 78, ks' 79, ks' 80, ks' 81, ks' 82, ks' 83, ks' 84, ks' 85, ks' 86, ks' 87, ks' 88, ks' 89, ks' 90, ks' 91, ks' 92, ks' 93, ks' 94, ks' 95, ks' 96, ks' 97, ks' 98, ks' 99, ks' 100, ks' 101, ks' 102, ks' 103, ks' 104, ks' 105, ks' 106, ks' 107, ks' 108, ks' 109, ks' 110, ks' 111, ks' 112, ks' 113, ks' 114, ks' 115, ks' 116, ks' 117, ks' 118, ks' 119, ks' 120, ks' 121, ks' 122, ks' 123, ks' 124, ks' 125, ks' 126, ks' 127, ks' 128, ks' 129, ks' 130, ks' 131, ks' 132, ks' 133, ks' 134, ks' 135, ks' 136] = _
            rw [t0, t1, t2, t4, t8, t10, t11, t47]
          rw [el] at ha'
          subst ha'
          clear hus t0 t1 t2 t4 t8 t10 t11 t47 el hf' hs' hd'
          have HPa5 := Lib.hid (HPa.out.keep hW)
          clear hW hG HPa HC4 HD4 HRo
          go_wp2_with (refine wpList_store_row rfl 51 (.tmp 10) (.tmp 48) rfl (w.heap.size + 1) (prC none 0 0 none 0 0) rfl rfl 51 _ HPa5.out.2.1 (size_pair _ _ _ _ _ _) rfl (pair_one _ _ _ _ _ _) ?_)
          exact bodyPost_ret (v := .tuple #[.agg (prC none 0 0 none 0 0), .int .i64 3]) (ret_pair rfl _ _ (w.heap.size + 1) _ _ _ _ _ _ _ rfl rfl (Blk.row HPa5.out.2.1 _)) rfl ⟨_, rfl, PairB.none _, below_setRow HPa5.out.2.2 _ _ (by omega)⟩
    · rw [if_pos (.inl hch)]
      have HNq := Lib.hid (fun s t W => neq_hash_ne s t C h hC32 hh hch W)
      clear hv hT hvp hk hn hm hp hh hC hC32 hD hD32 hE hro hro32 hch hpl
      go_enter Tryd.func40, Tryd.ntmps40
      go_upto_region 2 with fail
      refine world_cut (fun W => PgW w h W) HP.out ?_
      clear HP
      intro W2 hW2
      have HPa := Lib.hid hW2
      clear hW2
      go_wp2_with (refine wpList_load_row rfl 24 (.tmp 8) rfl w.heap.size rfl 24 (bs h) (0, 0) _ HPa.out.1 Tryd.underlying24 rfl HSh.out ?_)
      refine (HClimb.out _ HPa.out.2.2).mono ?_
      rintro e W3 ⟨rfl, hb3⟩
      have HPa3 := Lib.hid (HPa.out.keep hb3)
      clear hb3 HClimb HPa
      go_upto_region 3 with (first
        | (refine wpList_store_row rfl 24 (.tmp 13) (.tmp 31) rfl W3.heap.size (bs C) rfl rfl 24 _ ((Blk.new W3 _ _).alloc _) HSC.out (by simp [bs_size, HC32.out]) (bs_one _) ?_; refine world_cutL (fun W => PgW w h W ∧ Blk W W3.heap.size 24 (bs C) ∧ ∃ zs, Blk W (W3.heap.size + 1) 24 zs ∧ zs.size = 32) (HPa3.out.two _ _ C rfl) ?_; rintro W5 ⟨hp5, hc5, zs, hz5, hzs⟩; (have HPa5 := Lib.hid hp5); (have HC5 := Lib.hid hc5); (have HZ5 := Lib.hid hz5); (have HZs := Lib.hid hzs); clear hp5 hc5 hz5 hzs)
        | (refine wpList_store_row rfl 24 (.tmp 14) (.tmp 32) rfl (W3.heap.size + 1) (bs D) rfl rfl 24 zs HZ5.out HSD.out (by rw [bs_size, HD32.out, HZs.out]) (bs_one _) ?_))
      obtain ⟨g1, hg1⟩ : ∃ g, g = W3.heap.size := ⟨_, rfl⟩
      have hw3 := HPa3.out.lt
      refine world_cut (fun W => PgW w h W ∧ Blk W g1 24 (bs C) ∧ Blk W (g1 + 1) 24 (bs D)) ⟨HPa5.out.row _ _ (by omega), by rw [hg1]; exact HC5.out.rowOther _ (by omega), by rw [hg1]; exact HZ5.out.row _⟩ ?_
      rw [← hg1]
      clear hg1 HPa3 HPa5 HC5 HZ5 HZs hw3
      rintro W4 ⟨hW4, hb4, hb5⟩
      have HPa := Lib.hid hW4
      have HC4 := Lib.hid hb4
      have HD4 := Lib.hid hb5
      clear hW4 hb4 hb5
      go_upto_region 5 with fail
      have hG : ∀ W W' : World, Below W4.heap.size W4 W → Below W.heap.size W W' → Below W4.heap.size W4 W' := fun W W' h h' => h.trans (h'.mono h.size)
      refine region_skip [(38, .is (.agg (bs C))), (39, .is (.agg (bs h))), (40, .is (.bool true)), (41, .is (.bool true)), (42, .is undef), (43, .is undef), (44, .is undef), (45, .is undef), (46, .is undef), (47, .is (.bool true))] [0, 1, 2, 4, 8, 10, 11, 47] (fun W => Below W4.heap.size W4 W) (by kernel_rfl) (by kernel_rfl) (by kernel_rfl) (by kernel_rfl) (by kernel_rfl) ((Below.refl _ _).drew) ?_ ?_
      · refine ⟨?c0, ?c1, ?c2, ?c3, ?c4, ?c5, ?c6, ?c7, ?c8, ?c9, trivial⟩
        case c0 => exact runs (ask_load (guard_none rfl) _ (.tmp 13) (.pointer (some ⟨g1, 0, none⟩)) (.agg (bs C)) rfl rfl (by intro k hk; cases hk; rfl) (fun W hW => (HC4.out.keep hW).loads 24 _ Tryd.underlying24 rfl HSC.out))
        case c1 => exact runs (ask_load (guard_none rfl) _ (.tmp 8) (.pointer (some ⟨w.heap.size, 0, none⟩)) (.agg (bs h)) rfl rfl (by intro k hk; cases hk; rfl) (fun W hW => (HPa.out.keep hW).1.loads 24 _ Tryd.underlying24 rfl HSh.out))
        case c2 => exact runs (ask_bin (guard_none rfl) .neq _ _ (.tmp 38) (.tmp 39) (.agg (bs C)) (.agg (bs h)) (.bool true) rfl rfl rfl (by intro k hk; cases hk; rfl) (HNq.out _ _))
        case c3 => exact runs (ask_copy (guard_none rfl) (.tmp 40) (.inl rfl) (by intro k hk; cases hk; rfl))
        case c4 => exact skips 3 false 41 (.bool true) rfl rfl rfl (by simp) (by intro k hk; cases hk; rfl)
        case c5 => exact skips 3 false 41 (.bool true) rfl rfl rfl (by simp) (by intro k hk; cases hk; rfl)
        case c6 => exact skips 3 false 41 (.bool true) rfl rfl rfl (by simp) (by intro k hk; cases hk; rfl)
        case c7 => exact skips 3 false 41 (.bool true) rfl rfl rfl (by simp) (by intro k hk; cases hk; rfl)
        case c8 => exact skips 3 false 41 (.bool true) rfl rfl rfl (by simp) (by intro k hk; cases hk; rfl)
        case c9 => exact runs (ask_pick (guard_none rfl) (.tmp 41) (.const (.bool true)) (.tmp 46) true rfl rfl (by intro k hk; cases hk; rfl))
      · intro a' W5 hW hd' hs' hf'
        have t0 : a'.tmps.getD 0 undef = .int .i64 n := hf' 0 rfl
        have t1 : a'.tmps.getD 1 undef = .slice pv M cv := hf' 1 rfl
        have t2 : a'.tmps.getD 2 undef = .int .u64 (m : Int) := hf' 2 rfl
        have t4 : a'.tmps.getD 4 undef = .slice pp p pc := hf' 4 rfl
        have t8 : a'.tmps.getD 8 undef = .pointer (some ⟨w.heap.size, 0, none⟩) := hf' 8 rfl
        have t10 : a'.tmps.getD 10 undef = .pointer (some ⟨w.heap.size + 1, 0, none⟩) := hf' 10 rfl
        have t11 : a'.tmps.getD 11 undef = .int .i64 0 := hf' 11 rfl
        have t47 : a'.tmps.getD 47 undef = .bool true := hf' 47 rfl
        obtain ⟨ks', hus, ha'⟩ := act_open 137 a' hs' hd'
        rw [← hus] at t0 t1 t2 t4 t8 t10 t11 t47
        have el : ((List.range 137).map ks').toArray = #[.int .i64 n, .slice pv M cv, .int .u64 (m : Int), ks' 3, .slice pp p pc, ks' 5, ks' 6, ks' 7, .pointer (some ⟨w.heap.size, 0, none⟩), ks' 9, .pointer (some ⟨w.heap.size + 1, 0, none⟩), .int .i64 0, ks' 12, ks' 13, ks' 14, ks' 15, ks' 16, ks' 17, ks' 18, ks' 19, ks' 20, ks' 21, ks' 22, ks' 23, ks' 24, ks' 25, ks' 26, ks' 27, ks' 28, ks' 29, ks' 30, ks' 31, ks' 32, ks' 33, ks' 34, ks' 35, ks' 36, ks' 37, ks' 38, ks' 39, ks' 40, ks' 41, ks' 42, ks' 43, ks' 44, ks' 45, ks' 46, .bool true, ks' 48, ks' 49, ks' 50, ks' 51, ks' 52, ks' 53, ks' 54, ks' 55, ks' 56, ks' 57, ks' 58, ks' 59, ks' 60, ks' 61, ks' 62, ks' 63, ks' 64, ks' 65, ks' 66, ks' 67, ks' 68, ks' 69, ks' 70, ks' 71, ks' 72, ks' 73, ks' 74, ks' 75, ks' 76, ks' 77, ks' 78, ks' 79, ks' 80, ks' 81, ks' 82, ks' 83, ks' 84, ks' 85, ks' 86, ks' 87, ks' 88, ks' 89, ks' 90, ks' 91, ks' 92, ks' 93, ks' 94, ks' 95, ks' 96, ks' 97, ks' 98, ks' 99, ks' 100, ks' 101, ks' 102, ks' 103, ks' 104, ks' 105, ks' 106, ks' 107, ks' 108, ks' 109, ks' 110, ks' 111, ks' 112, ks' 113, ks' 114, ks' 115, ks' 116, ks' 117, ks' 118, ks' 119, ks' 120, ks' 121, ks' 122, ks' 123, ks' 124, ks' 125, ks' 126, ks' 127, ks' 128, ks' 129, ks' 130, ks' 131, ks' 132, ks' 133, ks' 134, ks' 135, ks' 136] := by
          show #[ks' 0, ks' 1, ks' 2, ks' 3, ks' 4, ks' 5, ks' 6, ks' 7, ks' 8, ks' 9, ks' 10, ks' 11, ks' 12, ks' 13, ks' 14, ks' 15, ks' 16, ks' 17, ks' 18, ks' 19, ks' 20, ks' 21, ks' 22, ks' 23, ks' 24, ks' 25, ks' 26, ks' 27, ks' 28, ks' 29, ks' 30, ks' 31, ks' 32, ks' 33, ks' 34, ks' 35, ks' 36, ks' 37, ks' 38, ks' 39, ks' 40, ks' 41, ks' 42, ks' 43, ks' 44, ks' 45, ks' 46, ks' 47, ks' 48, ks' 49, ks' 50, ks' 51, ks' 52, ks' 53, ks' 54, ks' 55, ks' 56, ks' 57, ks' 58, ks' 59, ks' 60, ks' 61, ks' 62, ks' 63, ks' 64, ks' 65, ks' 66, ks' 67, ks' 68, ks' 69, ks' 70, ks' 71, ks' 72, ks' 73, ks' 74, ks' 75, ks' 76, ks' 77, ks' 78, ks' 79, ks' 80, ks' 81, ks' 82, ks' 83, ks' 84, ks' 85, ks' 86, ks' 87, ks' 88, ks' 89, ks' 90, ks' 91, ks' 92, ks' 93, ks' 94, ks' 95, ks' 96, ks' 97, ks' 98, ks' 99, ks' 100, ks' 101, ks' 102, ks' 103, ks' 104, ks' 105, ks' 106, ks' 107, ks' 108, ks' 109, ks' 110, ks' 111, ks' 112, ks' 113, ks' 114, ks' 115, ks' 116, ks' 117, ks' 118, ks' 119, ks' 120, ks' 121, ks' 122, ks' 123, ks' 124, ks' 125, ks' 126, ks' 127, ks' 128, ks' 129, ks' 130, ks' 131, ks' 132, ks' 133, ks' 134, ks' 135, ks' 136] = _
          rw [t0, t1, t2, t4, t8, t10, t11, t47]
        rw [el] at ha'
        subst ha'
        clear hus t0 t1 t2 t4 t8 t10 t11 t47 el hf' hs' hd'
        have HPa5 := Lib.hid (HPa.out.keep hW)
        clear hW hG HPa HC4 HD4 HRo
        go_wp2_with (refine wpList_store_row rfl 51 (.tmp 10) (.tmp 48) rfl (w.heap.size + 1) (prC none 0 0 none 0 0) rfl rfl 51 _ HPa5.out.2.1 (size_pair _ _ _ _ _ _) rfl (pair_one _ _ _ _ _ _) ?_)
        exact bodyPost_ret (v := .tuple #[.agg (prC none 0 0 none 0 0), .int .i64 3]) (ret_pair rfl _ _ (w.heap.size + 1) _ _ _ _ _ _ _ rfl rfl (Blk.row HPa5.out.2.1 _)) rfl ⟨_, rfl, PairB.none _, below_setRow HPa5.out.2.2 _ _ (by omega)⟩
  · rw [if_pos h0]
    have hne : ((E : Int) != 0) = true := by simpa using h0
    clear hv hT hvp hk hn hm hp hh hC hC32 hD hD32 hE hro hro32
    go_enter Tryd.func40, Tryd.ntmps40
    go_upto_region 2 with fail
    refine world_cut (fun W => PgW w h W) HP.out ?_
    clear HP
    intro W2 hW2
    have HPa := Lib.hid hW2
    clear hW2
    go_wp2_with (refine wpList_load_row rfl 24 (.tmp 8) rfl w.heap.size rfl 24 (bs h) (0, 0) _ HPa.out.1 Tryd.underlying24 rfl HSh.out ?_)
    refine (HClimb.out _ HPa.out.2.2).mono ?_
    rintro e W3 ⟨rfl, hb3⟩
    have HPa3 := Lib.hid (HPa.out.keep hb3)
    clear hb3 HClimb HPa
    go_upto_region 3 with (first
      | (refine wpList_store_row rfl 24 (.tmp 13) (.tmp 31) rfl W3.heap.size (bs C) rfl rfl 24 _ ((Blk.new W3 _ _).alloc _) HSC.out (by simp [bs_size, HC32.out]) (bs_one _) ?_; refine world_cutL (fun W => PgW w h W ∧ Blk W W3.heap.size 24 (bs C) ∧ ∃ zs, Blk W (W3.heap.size + 1) 24 zs ∧ zs.size = 32) (HPa3.out.two _ _ C rfl) ?_; rintro W5 ⟨hp5, hc5, zs, hz5, hzs⟩; (have HPa5 := Lib.hid hp5); (have HC5 := Lib.hid hc5); (have HZ5 := Lib.hid hz5); (have HZs := Lib.hid hzs); clear hp5 hc5 hz5 hzs)
      | (refine wpList_store_row rfl 24 (.tmp 14) (.tmp 32) rfl (W3.heap.size + 1) (bs D) rfl rfl 24 zs HZ5.out HSD.out (by rw [bs_size, HD32.out, HZs.out]) (bs_one _) ?_))
    obtain ⟨g1, hg1⟩ : ∃ g, g = W3.heap.size := ⟨_, rfl⟩
    have hw3 := HPa3.out.lt
    refine world_cut (fun W => PgW w h W ∧ Blk W g1 24 (bs C) ∧ Blk W (g1 + 1) 24 (bs D)) ⟨HPa5.out.row _ _ (by omega), by rw [hg1]; exact HC5.out.rowOther _ (by omega), by rw [hg1]; exact HZ5.out.row _⟩ ?_
    rw [← hg1]
    clear hg1 HPa3 HPa5 HC5 HZ5 HZs hw3
    rintro W4 ⟨hW4, hb4, hb5⟩
    have HPa := Lib.hid hW4
    have HC4 := Lib.hid hb4
    have HD4 := Lib.hid hb5
    clear hW4 hb4 hb5
    go_wp2_with (refine wpList_store_row rfl 51 (.tmp 10) (.tmp 36) rfl (w.heap.size + 1) (prC none 0 0 none 0 0) rfl rfl 51 _ HPa.out.2.1 (size_pair _ _ _ _ _ _) rfl (pair_one _ _ _ _ _ _) ?_)
    exact bodyPost_ret (v := .tuple #[.agg (prC none 0 0 none 0 0), .int .i64 (E : Int)]) (ret_pair rfl _ _ (w.heap.size + 1) _ _ _ _ _ _ _ rfl rfl (Blk.row HPa.out.2.1 _)) rfl ⟨_, rfl, PairB.none _, below_setRow HPa.out.2.2 _ _ (by omega)⟩
end Go.Proofs.YtdhfabjkpffhnaaDoor

