/- Joined: GrowthRefShow, GrowthRefClimb. -/
import Derived.Test.YtdhfabjkpffhnaaDoorGCG
import Derived.Test.YtdhfabjkpffhnaaDoorGCA
import Derived.Test.YtdhfabjkpffhnaaDoorGCF
import Derived.Test.YtdhfabjkpffhnaaDoorLeafAskC
import Derived.Test.YtdhfabjkpffhnaaDoorLeafConvC
/- Layer 16's reference: show, what a part of the right length shows. -/
namespace Go.Proofs.YtdhfabjkpffhnaaDoor
set_option maxRecDepth 20000
open Go.RowKit ShaMath LeafMath PathMath GrowthMath Reg

/-- Two hashes that lie in cells, as results. -/
theorem ret_two {fn : Func} {p u : Tmp} (h : fn.results = #[.cell p 24, .cell u 24]) (tmps : Array Value) (W : World) (g g' : Nat) (cs cs' : Array Value) (hs : cs.size = 32) (hs' : cs'.size = 32)
    (hp : tmps.getD p undef = .pointer (some ⟨g, 0, none⟩)) (hc : tmps.getD u undef = .pointer (some ⟨g', 0, none⟩)) (hb : Blk W g 24 cs) (hb' : Blk W g' 24 cs') :
    (results fn tmps).run Tryd.prog W = .ok (.tuple #[.agg cs, .agg cs']) W := by
  have hl := run_loadVar_row (P := Tryd.prog) W g 24 24 cs (0, 0) _ hb Tryd.underlying24 rfl (size_hash hs)
  have hl' := run_loadVar_row (P := Tryd.prog) W g' 24 24 cs' (0, 0) _ hb' Tryd.underlying24 rfl (size_hash hs')
  rw [Array.getD_eq_getD_getElem?] at hp hc
  simp only [results, h]
  simp [Sem.run_bind, Result.andThen, hp, hc, asAddr, hl, hl']

/-- A hash in a block of the call's own, and two results' blocks. -/
def ShW (w : World) (h : Hs) (W : World) : Prop := Blk W w.heap.size 24 (bs h) ∧ (∃ zs, Blk W (w.heap.size + 1) 24 zs ∧ zs.size = 32) ∧ (∃ zs, Blk W (w.heap.size + 2) 24 zs ∧ zs.size = 32) ∧ Below w.heap.size w W
theorem ShW.new (w : World) (h : Hs) : ShW w h (((w.alloc (.cells (bs h) 24)).alloc (.cells (bs (List.replicate 32 0)) 24)).alloc (.cells (bs (List.replicate 32 0)) 24)) :=
  ⟨((Blk.new w _ _).alloc _).alloc _, ⟨_, (Blk.newAt _ _ _ _ _ (by simp) rfl).alloc _, rfl⟩, ⟨_, Blk.newAt _ _ _ _ _ (by simp) rfl, rfl⟩, (((Below.refl _ _).alloc (Nat.le_refl _) _).alloc (by simp) _).alloc (by simp; omega) _⟩
theorem ShW.keep {w W W' : World} {h : Hs} (X : ShW w h W) (hb : Below W.heap.size W W') : ShW w h W' := by
  obtain ⟨h1, ⟨zs, h2, h3⟩, ⟨zt, h4, h5⟩, h6⟩ := X
  exact ⟨h1.keep hb, ⟨zs, h2.keep hb, h3⟩, ⟨zt, h4.keep hb, h5⟩, h6.trans (hb.mono h6.size)⟩
theorem ShW.lt {w W : World} {h : Hs} (X : ShW w h W) : w.heap.size + 2 < W.heap.size := by
  obtain ⟨-, -, ⟨zt, h4, -⟩, -⟩ := X
  exact h4.lt
theorem ShW.row1 {w W : World} {h : Hs} (X : ShW w h W) (cs : Array Value) (hc : cs.size = 32) : ShW w h (W.setRow (w.heap.size + 1) cs) := by
  obtain ⟨h1, ⟨zs, h2, h3⟩, ⟨zt, h4, h5⟩, h6⟩ := X
  exact ⟨h1.rowOther _ (by omega), ⟨_, h2.row cs, hc⟩, ⟨zt, h4.rowOther _ (by omega), h5⟩, below_setRow h6 _ _ (by omega)⟩
theorem ShW.row2 {w W : World} {h : Hs} (X : ShW w h W) (cs : Array Value) (hc : cs.size = 32) : ShW w h (W.setRow (w.heap.size + 2) cs) := by
  obtain ⟨h1, ⟨zs, h2, h3⟩, ⟨zt, h4, h5⟩, h6⟩ := X
  exact ⟨h1.rowOther _ (by omega), ⟨zs, h2.rowOther _ (by omega), h3⟩, ⟨_, h4.row cs, hc⟩, below_setRow h6 _ _ (by omega)⟩
theorem ShW.cur1 {w W : World} {h : Hs} (X : ShW w h W) {cs : Array Value} (hc : cs.size = 32) : ∃ cur, Blk W (w.heap.size + 1) 24 cur ∧ cur.size = cs.size := by
  obtain ⟨-, ⟨zs, h2, h3⟩, -, -⟩ := X
  exact ⟨zs, h2, by omega⟩
theorem ShW.cur2 {w W : World} {h : Hs} (X : ShW w h W) {cs : Array Value} (hc : cs.size = 32) : ∃ cur, Blk W (w.heap.size + 2) 24 cur ∧ cur.size = cs.size := by
  obtain ⟨-, -, ⟨zs, h2, h3⟩, -⟩ := X
  exact ⟨zs, h2, by omega⟩
/-- What a call has besides. -/
def ShY (w : World) (h y : Hs) (g : Nat) (W : World) : Prop := ShW w h W ∧ Blk W g 24 (bs y)
/-- .. and the two that a part has shown. -/
def ShZ (w : World) (h y : Hs) (g : Nat) (o r : Hs) (gx gy : Nat) (W : World) : Prop := ShW w h W ∧ Blk W g 24 (bs y) ∧ Blk W gx 24 (bs o) ∧ Blk W gy 24 (bs r)
theorem ShZ.keep {w W W' : World} {h y o r : Hs} {g gx gy : Nat} (X : ShZ w h y g o r gx gy W) (hb : Below W.heap.size W W') : ShZ w h y g o r gx gy W' := ⟨X.1.keep hb, X.2.1.keep hb, X.2.2.1.keep hb, X.2.2.2.keep hb⟩
theorem ShZ.row1 {w W : World} {h y o r : Hs} {g gx gy : Nat} (X : ShZ w h y g o r gx gy W) (cs : Array Value) (hc : cs.size = 32) (h1 : w.heap.size + 2 < g) (h2 : w.heap.size + 2 < gx) (h3 : w.heap.size + 2 < gy) : ShZ w h y g o r gx gy (W.setRow (w.heap.size + 1) cs) :=
  ⟨X.1.row1 cs hc, X.2.1.rowOther _ (by omega), X.2.2.1.rowOther _ (by omega), X.2.2.2.rowOther _ (by omega)⟩
theorem ShZ.row2 {w W : World} {h y o r : Hs} {g gx gy : Nat} (X : ShZ w h y g o r gx gy W) (cs : Array Value) (hc : cs.size = 32) (h1 : w.heap.size + 2 < g) (h2 : w.heap.size + 2 < gx) (h3 : w.heap.size + 2 < gy) : ShZ w h y g o r gx gy (W.setRow (w.heap.size + 2) cs) :=
  ⟨X.1.row2 cs hc, X.2.1.rowOther _ (by omega), X.2.2.1.rowOther _ (by omega), X.2.2.2.rowOther _ (by omega)⟩

set_option maxHeartbeats 2000000 in
set_option maxRecDepth 100000 in
theorem refshow_any (n : Int) (hn : I64 n) : ∀ (N M : Nat) (h : Hs) (ps : List Hs) (old : Bool) (v : Value) (w : World), h.length = 32 → 1 ≤ M → M ≤ N → N < 18446744073709551616 → Hss w v ps → ps.length = sizeG M N old → Consts w →
    Calls Tryd.prog 91 #[.int .i64 n, .int .u64 (M : Int), .int .u64 (N : Int), .agg (bs h), v, .bool old] w fun e w' => e = .returned (.tuple #[.agg (bs (showG n M N h ps old).1), .agg (bs (showG n M N h ps old).2)]) ∧ Below w.heap.size w w' := by
  intro N
  induction N using Nat.strongRecOn with
  | ind N ih =>
    intro M h ps old v w hh h1 hMN hN hv hl hk
    have HP := Lib.hid (ShW.new w h)
    have HSh := Lib.hid (size_hash (cs := bs h) (by rw [bs_size, hh]))
    have Hh := Lib.hid hh
    have hhs : (bs h).size = 32 := by rw [bs_size, hh]
    have HhS := Lib.hid hhs
    clear hhs
    by_cases he : M = N
    · subst he
      rw [showG_all]
      have heq : ((M : Int) == (M : Int)) = true := by simp
      cases old with
      | true =>
        rw [if_pos rfl]
        obtain ⟨a, c, rfl, _⟩ := hv.form
        clear ih hh hv hl hk hn hN hMN
        go_enter Tryd.func91, Tryd.ntmps91
        go_upto_region 1 with fail
        refine world_cut (fun W => ShW w h W) HP.out ?_
        clear HP
        intro W1 hW1
        have HW1 := Lib.hid hW1
        clear hW1
        go_upto_region 3 with fail
        have hG : ∀ W W' : World, ShW w h W → Below W.heap.size W W' → ShW w h W' := fun W W' h h' => h.keep h'
        refine region_rel_by 2 3 (fun _ _ => [(25, .is (.agg (bs h))), (26, .is (.agg (bs h)))]) [12, 13] (fun W => ShW w h W) (Put2 2 3 (w.heap.size + 1) (w.heap.size + 2) 24 (bs h) (bs h)) (by kernel_rfl) (by kernel_rfl) (by kernel_rfl) (by kernel_rfl) (by kernel_rfl) (by decide) (by decide) (HW1.out.keep (Below.refl _ _).drew) (put2_none _ _ _) ?_ ?_
        · refine ⟨?c0, ?c1, ?c2, ?c3, trivial⟩
          case c0 => exact plain_put (by kernel_rfl) (fun Wx => ask_load (guard_none rfl) _ (.tmp 9) (.pointer (some ⟨w.heap.size, 0, none⟩)) (.agg (bs h)) rfl rfl (by intro k hk; cases hk; rfl) (fun W hW => hW.1.1.loads 24 _ Tryd.underlying24 rfl HSh.out))
          case c1 => exact plain_put (by kernel_rfl) (fun Wx => ask_load (guard_none rfl) _ (.tmp 9) (.pointer (some ⟨w.heap.size, 0, none⟩)) (.agg (bs h)) rfl rfl (by intro k hk; cases hk; rfl) (fun W hW => hW.1.1.loads 24 _ Tryd.underlying24 rfl HSh.out))
          case c2 => exact .inr (put2_p rfl 24 (.tmp 12) (.tmp 25) rfl rfl rfl rfl (by kernel_rfl) (by decide) (by omega) (fun W hW => hW.cur1 HhS.out) HSh.out (bs_one _) (fun W hW => hW.row1 _ HhS.out))
          case c3 => exact .inr (put2_q rfl 24 (.tmp 13) (.tmp 26) rfl rfl rfl rfl (by kernel_rfl) (by decide) (by omega) (fun W hW => hW.cur2 HhS.out) HSh.out (bs_one _) (fun W hW => hW.row2 _ HhS.out))
        · intro L a' W hall hW hr hd' hs' hf'
          have HA := Lib.hid (hr.1 (hall 2 (by decide)))
          have HBk := Lib.hid (hr.2 (hall 3 (by decide)))
          have t12 : a'.tmps.getD 12 undef = .pointer (some ⟨w.heap.size + 1, 0, none⟩) := hf' 12 rfl
          have t13 : a'.tmps.getD 13 undef = .pointer (some ⟨w.heap.size + 2, 0, none⟩) := hf' 13 rfl
          obtain ⟨us', hus, ha'⟩ := act_open 85 a' hs' hd'
          rw [← hus] at t12 t13
          have el : ((List.range 85).map us').toArray = #[us' 0, us' 1, us' 2, us' 3, us' 4, us' 5, us' 6, us' 7, us' 8, us' 9, us' 10, us' 11, .pointer (some ⟨w.heap.size + 1, 0, none⟩), .pointer (some ⟨w.heap.size + 2, 0, none⟩), us' 14, us' 15, us' 16, us' 17, us' 18, us' 19, us' 20, us' 21, us' 22, us' 23, us' 24, us' 25, us' 26, us' 27, us' 28, us' 29, us' 30, us' 31, us' 32, us' 33, us' 34, us' 35, us' 36, us' 37, us' 38, us' 39, us' 40, us' 41, us' 42, us' 43, us' 44, us' 45, us' 46, us' 47, us' 48, us' 49, us' 50, us' 51, us' 52, us' 53, us' 54, us' 55, us' 56, us' 57, us' 58, us' 59, us' 60, us' 61, us' 62, us' 63, us' 64, us' 65, us' 66, us' 67, us' 68, us' 69, us' 70, us' 71, us' 72, us' 73, us' 74, us' 75, us' 76, us' 77, us' 78, us' 79, us' 80, us' 81, us' 82, us' 83, us' 84] := by
            show #[us' 0, us' 1, us' 2, us' 3, us' 4, us' 5, us' 6, us' 7, us' 8, us' 9, us' 10, us' 11, us' 12, us' 13, us' 14, us' 15, us' 16, us' 17, us' 18, us' 19, us' 20, us' 21, us' 22, us' 23, us' 24, us' 25, us' 26, us' 27, us' 28, us' 29, us' 30, us' 31, us' 32, us' 33, us' 34, us' 35, us' 36, us' 37, us' 38, us' 39, us' 40, us' 41, us' 42, us' 43, us' 44, us' 45, us' 46, us' 47, us' 48, us' 49, us' 50, us' 51, us' 52, us' 53, us' 54, us' 55, us' 56, us' 57, us' 58, us' 59, us' 60, us' 61, us' 62, us' 63, us' 64, us' 65, us' 66, us' 67, us' 68, us' 69, us' 70, us' 71, us' 72, us' 73, us' 74, us' 75, us' 76, us' 77, us' 78, us' 79, us' 80, us' 81, us' 82, us' 83, us' 84] = _
            rw [t12, t13]
          rw [el] at ha'
          subst ha'
          clear hus t12 t13 el hf' hs' hd'
          go_wp2
          exact bodyPost_ret (v := .tuple #[.agg (bs h), .agg (bs h)]) (ret_two rfl _ _ (w.heap.size + 1) (w.heap.size + 2) (bs h) (bs h) (by rw [bs_size, Hh.out]) (by rw [bs_size, Hh.out]) rfl rfl HA.out HBk.out) rfl ⟨rfl, hW.2.2.2⟩
      | false =>
        rw [if_neg (by decide)]
        rw [sizeG_all, if_neg (by decide)] at hl
        obtain ⟨y, rfl⟩ : ∃ y, ps = [y] := List.length_eq_one_iff.1 hl
        simp only [List.headD_cons]
        have hy : [y][0]? = some y := rfl
        have hy32 := hv.all.get hy
        obtain ⟨pad, pc, rfl⟩ : ∃ pad pc, v = .slice (some pad) 1 pc := by
          obtain ⟨a, c, e, _⟩ := hv.form
          subst e
          obtain ⟨ad, rfl, _⟩ := hv.load hy
          exact ⟨ad, c, rfl⟩
        have HLd := Lib.hid (fun (W : World) (hW : Below w.heap.size w W) => load_hash W (pad.add (0 * 32)) y hy32 fun j u hj => by
          obtain ⟨ad2, e, h⟩ := (hv.below (Nat.le_refl _) hW).load hy
          cases e
          exact h j u hj)
        have HIx := Lib.hid (fun W => show (Instr.indexAt 30 (.slice (some pad) 1 pc) (.int .i64 0)).run Tryd.prog W = .ok (.pointer (some (pad.add (0 * 32)))) W from hss_index W pad 1 pc 0 (by decide))
        have HSy := Lib.hid (size_hash (cs := bs y) (by rw [bs_size, hy32]))
        have Hy := Lib.hid hy32
        have HyS := Lib.hid (show (bs y).size = 32 by rw [bs_size, hy32])
        clear ih hh hv hl hk hn hN hMN hy hy32
        go_enter Tryd.func91, Tryd.ntmps91
        go_upto_region 1 with fail
        refine world_cut (fun W => ShW w h W) HP.out ?_
        clear HP
        intro W1 hW1
        have HW1 := Lib.hid hW1
        clear hW1
        go_upto_region 4 with fail
        have hG : ∀ W W' : World, ShW w h W → Below W.heap.size W W' → ShW w h W' := fun W W' h h' => h.keep h'
        refine region_rel_by 6 7 (fun _ _ => [(27, .is (.slice (some pad) 1 pc)), (28, .is (.pointer (some (pad.add (0 * 32))))), (29, .is (.agg (bs y))), (30, .is (.slice (some pad) 1 pc)), (31, .is (.pointer (some (pad.add (0 * 32))))), (32, .is (.agg (bs y)))]) [12, 13] (fun W => ShW w h W) (Put2 6 7 (w.heap.size + 1) (w.heap.size + 2) 24 (bs y) (bs y)) (by kernel_rfl) (by kernel_rfl) (by kernel_rfl) (by kernel_rfl) (by kernel_rfl) (by decide) (by decide) (HW1.out.keep (Below.refl _ _).drew) (put2_none _ _ _) ?_ ?_
        · refine ⟨?c0, ?c1, ?c2, ?c3, ?c4, ?c5, ?c6, ?c7, trivial⟩
          case c0 => exact plain_put (by kernel_rfl) (fun Wx => ask_copy (guard_none rfl) (.tmp 4) (.inl rfl) (by intro k hk; cases hk; rfl))
          case c1 => exact plain_put (by kernel_rfl) (fun Wx => ask_idx (guard_none rfl) _ (.tmp 27) (.const (.int .i64 0)) (.slice (some pad) 1 pc) (.int .i64 0) (.pointer (some (pad.add (0 * 32)))) rfl rfl rfl (by intro k hk; cases hk; rfl) HIx.out)
          case c2 => exact plain_put (by kernel_rfl) (fun Wx => ask_load (guard_none rfl) _ (.tmp 28) (.pointer (some (pad.add (0 * 32)))) (.agg (bs y)) rfl rfl (by intro k hk; cases hk; rfl) (fun W hW => HLd.out W hW.1.2.2.2))
          case c3 => exact plain_put (by kernel_rfl) (fun Wx => ask_copy (guard_none rfl) (.tmp 4) (.inl rfl) (by intro k hk; cases hk; rfl))
          case c4 => exact plain_put (by kernel_rfl) (fun Wx => ask_idx (guard_none rfl) _ (.tmp 30) (.const (.int .i64 0)) (.slice (some pad) 1 pc) (.int .i64 0) (.pointer (some (pad.add (0 * 32)))) rfl rfl rfl (by intro k hk; cases hk; rfl) HIx.out)
          case c5 => exact plain_put (by kernel_rfl) (fun Wx => ask_load (guard_none rfl) _ (.tmp 31) (.pointer (some (pad.add (0 * 32)))) (.agg (bs y)) rfl rfl (by intro k hk; cases hk; rfl) (fun W hW => HLd.out W hW.1.2.2.2))
          case c6 => exact .inr (put2_p rfl 24 (.tmp 12) (.tmp 29) rfl rfl rfl rfl (by kernel_rfl) (by decide) (by omega) (fun W hW => hW.cur1 HyS.out) HSy.out (bs_one _) (fun W hW => hW.row1 _ HyS.out))
          case c7 => exact .inr (put2_q rfl 24 (.tmp 13) (.tmp 32) rfl rfl rfl rfl (by kernel_rfl) (by decide) (by omega) (fun W hW => hW.cur2 HyS.out) HSy.out (bs_one _) (fun W hW => hW.row2 _ HyS.out))
        · intro L a' W hall hW hr hd' hs' hf'
          have HA := Lib.hid (hr.1 (hall 6 (by decide)))
          have HBk := Lib.hid (hr.2 (hall 7 (by decide)))
          have t12 : a'.tmps.getD 12 undef = .pointer (some ⟨w.heap.size + 1, 0, none⟩) := hf' 12 rfl
          have t13 : a'.tmps.getD 13 undef = .pointer (some ⟨w.heap.size + 2, 0, none⟩) := hf' 13 rfl
          obtain ⟨us', hus, ha'⟩ := act_open 85 a' hs' hd'
          rw [← hus] at t12 t13
          have el : ((List.range 85).map us').toArray = #[us' 0, us' 1, us' 2, us' 3, us' 4, us' 5, us' 6, us' 7, us' 8, us' 9, us' 10, us' 11, .pointer (some ⟨w.heap.size + 1, 0, none⟩), .pointer (some ⟨w.heap.size + 2, 0, none⟩), us' 14, us' 15, us' 16, us' 17, us' 18, us' 19, us' 20, us' 21, us' 22, us' 23, us' 24, us' 25, us' 26, us' 27, us' 28, us' 29, us' 30, us' 31, us' 32, us' 33, us' 34, us' 35, us' 36, us' 37, us' 38, us' 39, us' 40, us' 41, us' 42, us' 43, us' 44, us' 45, us' 46, us' 47, us' 48, us' 49, us' 50, us' 51, us' 52, us' 53, us' 54, us' 55, us' 56, us' 57, us' 58, us' 59, us' 60, us' 61, us' 62, us' 63, us' 64, us' 65, us' 66, us' 67, us' 68, us' 69, us' 70, us' 71, us' 72, us' 73, us' 74, us' 75, us' 76, us' 77, us' 78, us' 79, us' 80, us' 81, us' 82, us' 83, us' 84] := by
            show #[us' 0, us' 1, us' 2, us' 3, us' 4, us' 5, us' 6, us' 7, us' 8, us' 9, us' 10, us' 11, us' 12, us' 13, us' 14, us' 15, us' 16, us' 17, us' 18, us' 19, us' 20, us' 21, us' 22, us' 23, us' 24, us' 25, us' 26, us' 27, us' 28, us' 29, us' 30, us' 31, us' 32, us' 33, us' 34, us' 35, us' 36, us' 37, us' 38, us' 39, us' 40, us' 41, us' 42, us' 43, us' 44, us' 45, us' 46, us' 47, us' 48, us' 49, us' 50, us' 51, us' 52, us' 53, us' 54, us' 55, us' 56, us' 57, us' 58, us' 59, us' 60, us' 61, us' 62, us' 63, us' 64, us' 65, us' 66, us' 67, us' 68, us' 69, us' 70, us' 71, us' 72, us' 73, us' 74, us' 75, us' 76, us' 77, us' 78, us' 79, us' 80, us' 81, us' 82, us' 83, us' 84] = _
            rw [t12, t13]
          rw [el] at ha'
          subst ha'
          clear hus t12 t13 el hf' hs' hd'
          go_wp2
          exact bodyPost_ret (v := .tuple #[.agg (bs y), .agg (bs y)]) (ret_two rfl _ _ (w.heap.size + 1) (w.heap.size + 2) (bs y) (bs y) (by rw [bs_size, Hy.out]) (by rw [bs_size, Hy.out]) rfl rfl HA.out HBk.out) rfl ⟨rfl, hW.2.2.2⟩
    · have hlt0 : M < N := by omega
      have h2 : 2 ≤ N := by omega
      have hlt := splitN_lt h2
      have hp0 := splitN_pos N
      obtain ⟨k, hk2⟩ : ∃ k, k = splitN N := ⟨_, rfl⟩
      have HSplit := Lib.hid (fun W => refsplit15_any N W (by omega) hN)
      rw [← hk2] at HSplit hlt hp0
      have hne : ¬ (M : Int) = (N : Int) := by omega
      obtain ⟨p, hp⟩ : ∃ p, p = ps.length := ⟨_, rfl⟩
      have hpos : 0 < p := by
        by_cases hik : M ≤ splitN N
        · rw [hp, hl, sizeG_left old hlt0 h2 hik]; omega
        · rw [hp, hl, sizeG_right old hlt0 h2 hik]; omega
      have hp64 : p ≤ 65 := by rw [hp, hl]; exact sizeG_65 M N old hMN hN
      obtain ⟨z, hz⟩ : ∃ z : Nat, (p : Int) - 1 = (z : Int) := ⟨p - 1, by omega⟩
      have hzp : z + 1 = p := by omega
      obtain ⟨y, hy⟩ : ∃ y, ps[z]? = some y := ⟨ps[z]'(by omega), List.getElem?_eq_getElem _⟩
      have hlast : ps.getLastD [] = y := by
        obtain ⟨q, x, rfl⟩ : ∃ q x, ps = q ++ [x] := by
          have hne : ps ≠ [] := fun e => by rw [e] at hp; simp at hp; omega
          exact ⟨ps.dropLast, ps.getLast hne, (List.dropLast_concat_getLast hne).symm⟩
        have hzq : z = q.length := by simp at hp; omega
        rw [hzq] at hy
        simp at hy
        simp [hy]
      have hdl : ps.dropLast = ps.take z := by rw [List.dropLast_eq_take, ← hp]; congr 1; omega
      obtain ⟨pad, hpad, hcy⟩ : ∃ pad pc, v = .slice (some pad) p pc ∧ p ≤ pc := by
        obtain ⟨a, c, e, hc⟩ := hv.form
        rw [← hp] at e hc
        subst e
        obtain ⟨ad, rfl, _⟩ := hv.load hy
        exact ⟨ad, c, rfl, hc⟩
      obtain ⟨rfl, hpc⟩ := hcy
      obtain ⟨pc, hpcc⟩ : ∃ c, c = hpad := ⟨_, rfl⟩
      rw [← hpcc] at hv hpc ⊢
      clear hpcc
      have hy32 := hv.all.get hy
      have hd32 : ∀ x ∈ ps.dropLast, x.length = 32 := fun x hx => hv.all x (List.dropLast_subset _ hx)
      have hv2 : Hss w (.slice (some pad) z pc) ps.dropLast := by
        have := hv.sub 0 z (by omega) (by omega)
        rw [sliced_zero3] at this
        rw [hdl]
        simpa using this
      have HLd := Lib.hid (fun (W : World) (hW : Below w.heap.size w W) => load_hash W (pad.add (z * 32)) y hy32 fun j u hj => by
        obtain ⟨ad2, e, h⟩ := (hv.below (Nat.le_refl _) hW).load hy
        cases e
        exact h j u hj)
      have HIx := Lib.hid (fun W => hss_index W pad p pc z (by omega))
      have HSl := Lib.hid (fun (W : World) => show (Instr.sliceAt 30 (.slice (some pad) p pc) none (some (.int .i64 (z : Int))) none).run Tryd.prog W = .ok (.slice (some pad) z pc) W by
        have h := slice_hs_to (some pad) p pc z (by omega) W
        rwa [sliced_zero3] at h)
      have HSy := Lib.hid (size_hash (cs := bs y) (by rw [bs_size, hy32]))
      have Hy := Lib.hid hy32
      have HyS := Lib.hid (show (bs y).size = 32 by rw [bs_size, hy32])
      have HzS := Lib.hid (show (bs (List.replicate 32 0)).size = 32 from rfl)
      by_cases hik : M ≤ k
      · have hs := sizeG_left old hlt0 h2 (by rw [← hk2]; exact hik)
        rw [← hk2] at hs
        obtain ⟨U, hU⟩ : ∃ U, U = showG n M k h ps.dropLast old := ⟨_, rfl⟩
        have hU32 : U.1.length = 32 ∧ U.2.length = 32 := by
          rw [hU]; exact showG_length n k M h ps.dropLast old hh hd32 hik (by rw [List.length_dropLast, hl, hs]; rfl)
        have HShow := Lib.hid (fun (W : World) (hW : Below w.heap.size w W) => ih k hlt M h ps.dropLast old (.slice (some pad) z pc) W hh h1 hik (by omega) (hv2.below (Nat.le_refl _) hW) (by rw [List.length_dropLast, hl, hs]; rfl) (hk.below (Nat.le_refl _) hW))
        have hres : showG n M N h ps old = (U.1, nodeH n U.2 y) := by rw [showG_left n h ps old hlt0 h2 (by rw [← hk2]; exact hik), hU, hlast, hk2]
        rw [← hU] at HShow
        rw [hres]
        obtain ⟨o, ho⟩ : ∃ o, o = U.1 := ⟨_, rfl⟩
        obtain ⟨r, hr⟩ : ∃ r, r = U.2 := ⟨_, rfl⟩
        rw [← ho, ← hr] at hU32 HShow ⊢
        obtain ⟨ho32, hr32⟩ := hU32
        obtain ⟨R, hR, hR32⟩ : ∃ R, R = nodeH n r y ∧ R.length = 32 := ⟨_, rfl, nodeH_length _ _ _⟩
        have HNode := Lib.hid (fun (W : World) (hW : Below w.heap.size w W) => refnode_any n r y W hr32 hy32 hn (hk.below (Nat.le_refl _) hW))
        rw [← hR] at HNode ⊢
        have hle : (M : Int) ≤ (k : Int) := by omega
        have HSo := Lib.hid (size_hash (cs := bs o) (by rw [bs_size, ho32]))
        have HSr := Lib.hid (size_hash (cs := bs r) (by rw [bs_size, hr32]))
        have HSR := Lib.hid (size_hash (cs := bs R) (by rw [bs_size, hR32]))
        have Ho := Lib.hid ho32
        have HoS := Lib.hid (show (bs o).size = 32 by rw [bs_size, ho32])
        have HrS := Lib.hid (show (bs r).size = 32 by rw [bs_size, hr32])
        have HR := Lib.hid hR32
        have HRS := Lib.hid (show (bs R).size = 32 by rw [bs_size, hR32])
        clear ih hh hv hl hk hs hU ho32 hr32 hR hR32 hres ho hr hlast hdl hy hy32 hv2 hp hk2 hd32 hn
        go_enter Tryd.func91, Tryd.ntmps91
        go_upto_region 1 with fail
        refine world_cut (fun W => ShW w h W) HP.out ?_
        clear HP
        intro W1 hW1
        have HW1 := Lib.hid hW1
        clear hW1
        go_wp2_with fail
        refine (HSplit.out _).mono ?_
        rintro e W2 ⟨rfl, rfl⟩
        have hix := HIx.out
        go_upto_region 9 with (first
          | (refine wpList_load_by rfl 24 (.tmp 40) rfl _ _ rfl (HLd.out _ HW1.out.2.2.2) ?_)
          | (refine wpList_store_row rfl 24 (.tmp 16) (.tmp 41) rfl W2.heap.size (bs y) rfl rfl 24 _ (Blk.new W2 _ _) HSy.out (by rw [HyS.out]; rfl) (bs_one _) ?_))
        have hg2 : w.heap.size + 2 < W2.heap.size := HW1.out.lt
        have hW3 : ShW w h ((W2.alloc (.cells (bs (List.replicate 32 0)) 24)).setRow W2.heap.size (bs y)) := HW1.out.keep (below_setRow ((Below.refl _ _).alloc (Nat.le_refl _) _) _ _ (Nat.le_refl _))
        refine world_cut (fun W => ShY w h y W2.heap.size W) ⟨hW3, Blk.row (Blk.new W2 _ _) (bs y)⟩ ?_
        rintro W3 hW3
        obtain ⟨g, hg⟩ : ∃ g, g = W2.heap.size := ⟨_, rfl⟩
        rw [← hg] at hW3 hg2 ⊢
        have HW3 := Lib.hid hW3
        have hg3 : w.heap.size + 2 < W3.heap.size := hW3.1.lt
        clear hW3 hg HW1 hix
        have hG : ∀ W W' : World, Below W3.heap.size W3 W → Below W.heap.size W W' → Below W3.heap.size W3 W' := fun W W' h h' => h.trans (h'.mono h.size)
        have HBw := Lib.hid HW3.out.1.2.2.2
        have HF9 := Lib.hid HW3.out.1.1
        refine region_rel_by 14 15 (fun b c => [(17, varF W3.heap.size 24 (if b then bs o else bs (List.replicate 32 0))), (18, varF W3.heap.size 24 (if c then bs r else bs (List.replicate 32 0))), (46, .is (.int .i64 n)), (47, .is (.int .u64 (M : Int))), (48, .is (.int .u64 (k : Int))), (49, .is (.agg (bs h))), (50, .is (.slice (some pad) p pc)), (51, .is (.int .i64 (z : Int))), (52, .is (.slice (some pad) z pc)), (53, .is (.bool old)), (54, .is (.tuple #[.agg (bs o), .agg (bs r)])), (45, .is (.tuple #[.agg (bs o), .agg (bs r)])), (55, .is (.agg (bs o))), (56, .is (.agg (bs r)))]) [0, 12, 13, 16, 17, 18] (fun W => Below W3.heap.size W3 W) (Two2 12 13 17 18) (by kernel_rfl) (by kernel_rfl) (by kernel_rfl) (by kernel_rfl) (by kernel_rfl) (by decide) (by decide) ((Below.refl _ _).drew) (two2_none _ _ _) ?_ ?_
        · refine ⟨?c0, ?c1, ?c2, ?c3, ?c4, ?c5, ?c6, ?c7, ?c8, ?c9, ?c10, ?c11, ?c12, ?c13, ?c14, ?c15, trivial⟩
          case c0 => exact plain2 (by kernel_rfl) (fun Wx b c => ask_copy (guard_none rfl) (.tmp 0) (.inl rfl) (by intro k hk; cases hk; rfl))
          case c1 => exact plain2 (by kernel_rfl) (fun Wx b c => ask_copy (guard_none rfl) (.tmp 1) (.inl rfl) (by intro k hk; cases hk; rfl))
          case c2 => exact plain2 (by kernel_rfl) (fun Wx b c => ask_copy (guard_none rfl) (.tmp 14) (.inl rfl) (by intro k hk; cases hk; rfl))
          case c3 => exact plain2 (by kernel_rfl) (fun Wx b c => ask_load (guard_none rfl) _ (.tmp 9) (.pointer (some ⟨w.heap.size, 0, none⟩)) (.agg (bs h)) rfl rfl (by intro k hk; cases hk; rfl) (fun W hW => (HF9.out.keep hW.1).loads 24 _ Tryd.underlying24 rfl HSh.out))
          case c4 => exact plain2 (by kernel_rfl) (fun Wx b c => ask_copy (guard_none rfl) (.tmp 4) (.inl rfl) (by intro k hk; cases hk; rfl))
          case c5 => exact plain2 (by kernel_rfl) (fun Wx b c => ask_copy (guard_none rfl) (.tmp 15) (.inl rfl) (by intro k hk; cases hk; rfl))
          case c6 => exact plain2 (by kernel_rfl) (fun Wx b c => ask_slice (guard_none rfl) _ (.tmp 50) none (some (.tmp 51)) none (.slice (some pad) p pc) (.slice (some pad) z pc) none (some (.int .i64 (z : Int))) none rfl rfl rfl rfl rfl (by intro k hk; cases hk; rfl) (HSl.out))
          case c7 => exact plain2 (by kernel_rfl) (fun Wx b c => ask_copy (guard_none rfl) (.tmp 5) (.inl rfl) (by intro k hk; cases hk; rfl))
          case c8 => exact plain2 (by kernel_rfl) (fun Wx b c => ask_call (grow_both hG Wx) (guard_none rfl) _ _ _ #[.int .i64 n, .int .u64 (M : Int), .int .u64 (k : Int), .agg (bs h), .slice (some pad) z pc, .bool old] (.is (.tuple #[.agg (bs o), .agg (bs r)])) rfl (by kernel_rfl) rfl rfl (by intro k hk; cases hk; rfl) (fun W hW => (HShow.out W (HBw.out.trans (hW.1.mono HBw.out.size))).mono fun e w' h => ⟨_, h.1, rfl, h.2⟩))
          case c9 => exact plain2 (by kernel_rfl) (fun Wx b c => ask_copy (guard_none rfl) (.tmp 54) (.inl rfl) (by intro k hk; cases hk; rfl))
          case c10 => exact plain2 (by kernel_rfl) (fun Wx b c => ask_exec (guard_none rfl) (.agg (bs o)) rfl rfl (by intro k hk; cases hk; rfl) (fun W hW => rfl))
          case c11 => exact plain2 (by kernel_rfl) (fun Wx b c => ask_exec (guard_none rfl) (.agg (bs r)) rfl rfl (by intro k hk; cases hk; rfl) (fun W hW => rfl))
          case c12 => exact (alloc2_p (m := 12) (n := 13) (p := 14) (q := 15) (sp := 17) (sq := 18) hG rfl _ (.agg (bs (List.replicate 32 0))) rfl rfl (by decide) (by decide) (by decide) (by decide) (by decide) (by kernel_rfl) (by decide) (fun W => by kernel_rfl) (fun b W hW => ⟨_, rfl, hW.size, Blk.new W _ _⟩))
          case c13 => exact (alloc2_q (m := 12) (n := 13) (p := 14) (q := 15) (sp := 17) (sq := 18) hG rfl _ (.agg (bs (List.replicate 32 0))) rfl rfl (by decide) (by decide) (by decide) (by decide) (by decide) (by kernel_rfl) (by decide) (fun W => by kernel_rfl) (fun b W hW => ⟨_, rfl, hW.size, Blk.new W _ _⟩))
          case c14 =>
            refine (store2_p (m := 12) (n := 13) (p := 14) (q := 15) (sp := 17) (sq := 18) rfl (by decide) (by decide) (by decide) (by decide) ⟨_, rfl, rfl⟩ (by kernel_rfl) ?_)
            intro b x W hW hk
            obtain ⟨gs, e1, e2, e3⟩ : ∃ gs, x 17 = .pointer (some ⟨gs, 0, none⟩) ∧ W3.heap.size ≤ gs ∧ Blk W gs 24 (bs (List.replicate 32 0)) := hk 17 rfl
            have e4 : x 55 = .agg (bs o) := hk 55 rfl
            refine ⟨guard_ok (guard_none rfl) hk, gives_store 24 (.tmp 17) (.tmp 55) rfl (.pointer (some ⟨gs, 0, none⟩)) (.agg (bs o)) e1 e4 (e3.stores 24 _ HSo.out (by rw [HoS.out]; rfl) (bs_one _)) ⟨below_setRow hW gs _ e2, by simp, fun k _ hne hu => ?_⟩⟩
            by_cases h1 : k = 17
            · subst h1
              exact ⟨gs, e1, e2, e3.row _⟩
            · by_cases h2 : k = 18
              · subst h2
                have hne' := hne rfl
                obtain ⟨g2, q1, q2, q3⟩ := hu
                have h3 : g2 ≠ gs := by
                  rintro rfl
                  exact hne' (by rw [e1, q1])
                exact ⟨g2, q1, q2, q3.rowOther _ h3⟩
              · simp only [factsOf_ne h1, factsOf_ne h2] at hu ⊢
                refine facts_keep (fun q hq u hu => ?_) k _ hu
                simp only [List.mem_cons, List.not_mem_nil, or_false] at hq
                rcases hq with rfl | rfl | rfl | rfl | rfl | rfl | rfl | rfl | rfl | rfl | rfl | rfl
                all_goals exact hu
          case c15 =>
            refine (store2_q (m := 12) (n := 13) (p := 14) (q := 15) (sp := 17) (sq := 18) rfl (by decide) (by decide) (by decide) (by decide) ⟨_, rfl, rfl⟩ (by kernel_rfl) ?_)
            intro b x W hW hk
            obtain ⟨gs, e1, e2, e3⟩ : ∃ gs, x 18 = .pointer (some ⟨gs, 0, none⟩) ∧ W3.heap.size ≤ gs ∧ Blk W gs 24 (bs (List.replicate 32 0)) := hk 18 rfl
            have e4 : x 56 = .agg (bs r) := hk 56 rfl
            refine ⟨guard_ok (guard_none rfl) hk, gives_store 24 (.tmp 18) (.tmp 56) rfl (.pointer (some ⟨gs, 0, none⟩)) (.agg (bs r)) e1 e4 (e3.stores 24 _ HSr.out (by rw [HrS.out]; rfl) (bs_one _)) ⟨below_setRow hW gs _ e2, by simp, fun k _ hne hu => ?_⟩⟩
            by_cases h1 : k = 18
            · subst h1
              exact ⟨gs, e1, e2, e3.row _⟩
            · by_cases h2 : k = 17
              · subst h2
                have hne' := hne rfl
                obtain ⟨g2, q1, q2, q3⟩ := hu
                have h3 : g2 ≠ gs := by
                  rintro rfl
                  exact hne' (by rw [e1, q1])
                exact ⟨g2, q1, q2, q3.rowOther _ h3⟩
              · simp only [factsOf_ne h2, factsOf_ne h1] at hu ⊢
                refine facts_keep (fun q hq u hu => ?_) k _ hu
                simp only [List.mem_cons, List.not_mem_nil, or_false] at hq
                rcases hq with rfl | rfl | rfl | rfl | rfl | rfl | rfl | rfl | rfl | rfl | rfl | rfl
                all_goals exact hu
        intro L a' W hall hW hr hd' hs' hf'
        obtain ⟨gx, ex, hgx, hbx⟩ : ∃ gx, a'.tmps.getD 17 undef = .pointer (some ⟨gx, 0, none⟩) ∧ W3.heap.size ≤ gx ∧ Blk W gx 24 (bs o) := hf' 17 rfl
        obtain ⟨gy, ey, hgy, hby⟩ : ∃ gy, a'.tmps.getD 18 undef = .pointer (some ⟨gy, 0, none⟩) ∧ W3.heap.size ≤ gy ∧ Blk W gy 24 (bs r) := hf' 18 rfl
        have t0 : a'.tmps.getD 0 undef = .int .i64 n := hf' 0 rfl
        have t12 : a'.tmps.getD 12 undef = .pointer (some ⟨w.heap.size + 1, 0, none⟩) := hf' 12 rfl
        have t13 : a'.tmps.getD 13 undef = .pointer (some ⟨w.heap.size + 2, 0, none⟩) := hf' 13 rfl
        have t16 : a'.tmps.getD 16 undef = .pointer (some ⟨g, 0, none⟩) := hf' 16 rfl
        have t17 : a'.tmps.getD 17 undef = .pointer (some ⟨gx, 0, none⟩) := ex
        have t18 : a'.tmps.getD 18 undef = .pointer (some ⟨gy, 0, none⟩) := ey
        obtain ⟨us', hus, ha'⟩ := act_open 85 a' hs' hd'
        rw [← hus] at t0 t12 t13 t16 t17 t18
        have el : ((List.range 85).map us').toArray = #[.int .i64 n, us' 1, us' 2, us' 3, us' 4, us' 5, us' 6, us' 7, us' 8, us' 9, us' 10, us' 11, .pointer (some ⟨w.heap.size + 1, 0, none⟩), .pointer (some ⟨w.heap.size + 2, 0, none⟩), us' 14, us' 15, .pointer (some ⟨g, 0, none⟩), .pointer (some ⟨gx, 0, none⟩), .pointer (some ⟨gy, 0, none⟩), us' 19, us' 20, us' 21, us' 22, us' 23, us' 24, us' 25, us' 26, us' 27, us' 28, us' 29, us' 30, us' 31, us' 32, us' 33, us' 34, us' 35, us' 36, us' 37, us' 38, us' 39, us' 40, us' 41, us' 42, us' 43, us' 44, us' 45, us' 46, us' 47, us' 48, us' 49, us' 50, us' 51, us' 52, us' 53, us' 54, us' 55, us' 56, us' 57, us' 58, us' 59, us' 60, us' 61, us' 62, us' 63, us' 64, us' 65, us' 66, us' 67, us' 68, us' 69, us' 70, us' 71, us' 72, us' 73, us' 74, us' 75, us' 76, us' 77, us' 78, us' 79, us' 80, us' 81, us' 82, us' 83, us' 84] := by
          show #[us' 0, us' 1, us' 2, us' 3, us' 4, us' 5, us' 6, us' 7, us' 8, us' 9, us' 10, us' 11, us' 12, us' 13, us' 14, us' 15, us' 16, us' 17, us' 18, us' 19, us' 20, us' 21, us' 22, us' 23, us' 24, us' 25, us' 26, us' 27, us' 28, us' 29, us' 30, us' 31, us' 32, us' 33, us' 34, us' 35, us' 36, us' 37, us' 38, us' 39, us' 40, us' 41, us' 42, us' 43, us' 44, us' 45, us' 46, us' 47, us' 48, us' 49, us' 50, us' 51, us' 52, us' 53, us' 54, us' 55, us' 56, us' 57, us' 58, us' 59, us' 60, us' 61, us' 62, us' 63, us' 64, us' 65, us' 66, us' 67, us' 68, us' 69, us' 70, us' 71, us' 72, us' 73, us' 74, us' 75, us' 76, us' 77, us' 78, us' 79, us' 80, us' 81, us' 82, us' 83, us' 84] = _
          rw [t0, t12, t13, t16, t17, t18]
        rw [el] at ha'
        subst ha'
        clear ex ey hr hall hus t0 t12 t13 t16 t17 t18 el hf' hs' hd'
        have hZ : ShZ w h y g o r gx gy W := ⟨HW3.out.1.keep hW, HW3.out.2.keep hW, hbx, hby⟩
        have HZ := Lib.hid hZ
        have hx3 : w.heap.size + 2 < gx := by omega
        have hy3 : w.heap.size + 2 < gy := by omega
        clear hZ hbx hby hW HW3 HF9 HBw HShow hgx hgy hg3 hG HIx HSl HLd
        go_upto_region 10 with fail
        have hG : ∀ W W' : World, ShZ w h y g o r gx gy W → Below W.heap.size W W' → ShZ w h y g o r gx gy W' := fun W W' h h' => h.keep h'
        refine region_rel_by 5 6 (fun _ _ => [(57, .is (.agg (bs o))), (58, .is (.int .i64 n)), (59, .is (.agg (bs r))), (60, .is (.agg (bs y))), (61, .is (.agg (bs R)))]) [12, 13] (fun W => ShZ w h y g o r gx gy W) (Put2 5 6 (w.heap.size + 1) (w.heap.size + 2) 24 (bs o) (bs R)) (by kernel_rfl) (by kernel_rfl) (by kernel_rfl) (by kernel_rfl) (by kernel_rfl) (by decide) (by decide) (HZ.out.keep (Below.refl _ _).drew) (put2_none _ _ _) ?_ ?_
        · refine ⟨?c0, ?c1, ?c2, ?c3, ?c4, ?c5, ?c6, trivial⟩
          case c0 => exact plain_put (by kernel_rfl) (fun Wx => ask_load (guard_none rfl) _ (.tmp 17) (.pointer (some ⟨gx, 0, none⟩)) (.agg (bs o)) rfl rfl (by intro k hk; cases hk; rfl) (fun W hW => (hW.1.2.2.1).loads 24 _ Tryd.underlying24 rfl HSo.out))
          case c1 => exact plain_put (by kernel_rfl) (fun Wx => ask_copy (guard_none rfl) (.tmp 0) (.inl rfl) (by intro k hk; cases hk; rfl))
          case c2 => exact plain_put (by kernel_rfl) (fun Wx => ask_load (guard_none rfl) _ (.tmp 18) (.pointer (some ⟨gy, 0, none⟩)) (.agg (bs r)) rfl rfl (by intro k hk; cases hk; rfl) (fun W hW => (hW.1.2.2.2).loads 24 _ Tryd.underlying24 rfl HSr.out))
          case c3 => exact plain_put (by kernel_rfl) (fun Wx => ask_load (guard_none rfl) _ (.tmp 16) (.pointer (some ⟨g, 0, none⟩)) (.agg (bs y)) rfl rfl (by intro k hk; cases hk; rfl) (fun W hW => (hW.1.2.1).loads 24 _ Tryd.underlying24 rfl HSy.out))
          case c4 => exact plain_put (by kernel_rfl) (fun Wx => ask_call (grow_both hG Wx) (guard_none rfl) _ _ _ #[.int .i64 n, .agg (bs r), .agg (bs y)] (.is (.agg (bs R))) rfl (by kernel_rfl) rfl rfl (by intro k hk; cases hk; rfl) (fun W hW => (HNode.out W hW.1.1.2.2.2).mono fun e w' h => ⟨_, h.1, rfl, h.2⟩))
          case c5 => exact .inr (put2_p rfl 24 (.tmp 12) (.tmp 57) rfl rfl rfl rfl (by kernel_rfl) (by decide) (by omega) (fun W hW => hW.1.cur1 HoS.out) HSo.out (bs_one _) (fun W hW => hW.row1 _ HoS.out hg2 hx3 hy3))
          case c6 => exact .inr (put2_q rfl 24 (.tmp 13) (.tmp 61) rfl rfl rfl rfl (by kernel_rfl) (by decide) (by omega) (fun W hW => hW.1.cur2 HRS.out) HSR.out (bs_one _) (fun W hW => hW.row2 _ HRS.out hg2 hx3 hy3))
        · intro L a' W hall hW hr hd' hs' hf'
          have HA := Lib.hid (hr.1 (hall 5 (by decide)))
          have HBk := Lib.hid (hr.2 (hall 6 (by decide)))
          have t12 : a'.tmps.getD 12 undef = .pointer (some ⟨w.heap.size + 1, 0, none⟩) := hf' 12 rfl
          have t13 : a'.tmps.getD 13 undef = .pointer (some ⟨w.heap.size + 2, 0, none⟩) := hf' 13 rfl
          obtain ⟨us', hus, ha'⟩ := act_open 85 a' hs' hd'
          rw [← hus] at t12 t13
          have el : ((List.range 85).map us').toArray = #[us' 0, us' 1, us' 2, us' 3, us' 4, us' 5, us' 6, us' 7, us' 8, us' 9, us' 10, us' 11, .pointer (some ⟨w.heap.size + 1, 0, none⟩), .pointer (some ⟨w.heap.size + 2, 0, none⟩), us' 14, us' 15, us' 16, us' 17, us' 18, us' 19, us' 20, us' 21, us' 22, us' 23, us' 24, us' 25, us' 26, us' 27, us' 28, us' 29, us' 30, us' 31, us' 32, us' 33, us' 34, us' 35, us' 36, us' 37, us' 38, us' 39, us' 40, us' 41, us' 42, us' 43, us' 44, us' 45, us' 46, us' 47, us' 48, us' 49, us' 50, us' 51, us' 52, us' 53, us' 54, us' 55, us' 56, us' 57, us' 58, us' 59, us' 60, us' 61, us' 62, us' 63, us' 64, us' 65, us' 66, us' 67, us' 68, us' 69, us' 70, us' 71, us' 72, us' 73, us' 74, us' 75, us' 76, us' 77, us' 78, us' 79, us' 80, us' 81, us' 82, us' 83, us' 84] := by
            show #[us' 0, us' 1, us' 2, us' 3, us' 4, us' 5, us' 6, us' 7, us' 8, us' 9, us' 10, us' 11, us' 12, us' 13, us' 14, us' 15, us' 16, us' 17, us' 18, us' 19, us' 20, us' 21, us' 22, us' 23, us' 24, us' 25, us' 26, us' 27, us' 28, us' 29, us' 30, us' 31, us' 32, us' 33, us' 34, us' 35, us' 36, us' 37, us' 38, us' 39, us' 40, us' 41, us' 42, us' 43, us' 44, us' 45, us' 46, us' 47, us' 48, us' 49, us' 50, us' 51, us' 52, us' 53, us' 54, us' 55, us' 56, us' 57, us' 58, us' 59, us' 60, us' 61, us' 62, us' 63, us' 64, us' 65, us' 66, us' 67, us' 68, us' 69, us' 70, us' 71, us' 72, us' 73, us' 74, us' 75, us' 76, us' 77, us' 78, us' 79, us' 80, us' 81, us' 82, us' 83, us' 84] = _
            rw [t12, t13]
          rw [el] at ha'
          subst ha'
          clear hus t12 t13 el hf' hs' hd'
          go_wp2
          exact bodyPost_ret (v := .tuple #[.agg (bs o), .agg (bs R)]) (ret_two rfl _ _ (w.heap.size + 1) (w.heap.size + 2) (bs o) (bs R) (by rw [bs_size, Ho.out]) (by rw [bs_size, HR.out]) rfl rfl HA.out HBk.out) rfl ⟨rfl, hW.1.2.2.2⟩
      · have hs := sizeG_right old hlt0 h2 (by rw [← hk2]; exact hik)
        rw [← hk2] at hs
        obtain ⟨M2, hM2⟩ : ∃ i2 : Nat, (M : Int) - (k : Int) = (i2 : Int) := ⟨M - k, by omega⟩
        obtain ⟨N2, hN2⟩ : ∃ m2 : Nat, (N : Int) - (k : Int) = (m2 : Int) := ⟨N - k, by omega⟩
        have ei : M - k = M2 := by omega
        have em : N - k = N2 := by omega
        rw [ei, em] at hs
        obtain ⟨U, hU⟩ : ∃ U, U = showG n M2 N2 h ps.dropLast false := ⟨_, rfl⟩
        have hU32 : U.1.length = 32 ∧ U.2.length = 32 := by
          rw [hU]; exact showG_length n N2 M2 h ps.dropLast false hh hd32 (by omega) (by rw [List.length_dropLast, hl, hs]; rfl)
        have HShow := Lib.hid (fun (W : World) (hW : Below w.heap.size w W) => ih N2 (by omega) M2 h ps.dropLast false (.slice (some pad) z pc) W hh (by omega) (by omega) (by omega) (hv2.below (Nat.le_refl _) hW) (by rw [List.length_dropLast, hl, hs]; rfl) (hk.below (Nat.le_refl _) hW))
        have hres : showG n M N h ps old = (nodeH n y U.1, nodeH n y U.2) := by rw [showG_right n h ps old hlt0 h2 (by rw [← hk2]; exact hik), hU, hlast, ← ei, ← em, hk2]
        rw [← hU] at HShow
        rw [hres]
        obtain ⟨o, ho⟩ : ∃ o, o = U.1 := ⟨_, rfl⟩
        obtain ⟨r, hr⟩ : ∃ r, r = U.2 := ⟨_, rfl⟩
        rw [← ho, ← hr] at hU32 HShow ⊢
        obtain ⟨ho32, hr32⟩ := hU32
        obtain ⟨Q, hQ, hQ32⟩ : ∃ Q, Q = nodeH n y o ∧ Q.length = 32 := ⟨_, rfl, nodeH_length _ _ _⟩
        obtain ⟨R, hR, hR32⟩ : ∃ R, R = nodeH n y r ∧ R.length = 32 := ⟨_, rfl, nodeH_length _ _ _⟩
        have HNodeQ := Lib.hid (fun (W : World) (hW : Below w.heap.size w W) => refnode_any n y o W hy32 ho32 hn (hk.below (Nat.le_refl _) hW))
        have HNode := Lib.hid (fun (W : World) (hW : Below w.heap.size w W) => refnode_any n y r W hy32 hr32 hn (hk.below (Nat.le_refl _) hW))
        rw [← hQ] at HNodeQ
        rw [← hR] at HNode
        rw [← hQ, ← hR]
        have hle : ¬ (M : Int) ≤ (k : Int) := by omega
        have HM2 := Lib.hid hM2
        have HN2 := Lib.hid hN2
        have hM2b : M2 < 18446744073709551616 := by omega
        have hN2b : N2 < 18446744073709551616 := by omega
        have HSo := Lib.hid (size_hash (cs := bs o) (by rw [bs_size, ho32]))
        have HSr := Lib.hid (size_hash (cs := bs r) (by rw [bs_size, hr32]))
        have HSQ := Lib.hid (size_hash (cs := bs Q) (by rw [bs_size, hQ32]))
        have HSR := Lib.hid (size_hash (cs := bs R) (by rw [bs_size, hR32]))
        have HQ := Lib.hid hQ32
        have HoS := Lib.hid (show (bs o).size = 32 by rw [bs_size, ho32])
        have HrS := Lib.hid (show (bs r).size = 32 by rw [bs_size, hr32])
        have HQS := Lib.hid (show (bs Q).size = 32 by rw [bs_size, hQ32])
        have HR := Lib.hid hR32
        have HRS := Lib.hid (show (bs R).size = 32 by rw [bs_size, hR32])
        clear ih hh hv hl hk hs hU ho32 hr32 hQ hQ32 hR hR32 hres ho hr hlast hdl hy hy32 hv2 hp hk2 hd32 hn ei em hM2 hN2
        go_enter Tryd.func91, Tryd.ntmps91
        go_upto_region 1 with fail
        refine world_cut (fun W => ShW w h W) HP.out ?_
        clear HP
        intro W1 hW1
        have HW1 := Lib.hid hW1
        clear hW1
        go_wp2_with fail
        refine (HSplit.out _).mono ?_
        rintro e W2 ⟨rfl, rfl⟩
        have hix := HIx.out
        go_upto_region 11 with (first
          | (refine wpList_load_by rfl 24 (.tmp 40) rfl _ _ rfl (HLd.out _ HW1.out.2.2.2) ?_)
          | (refine wpList_store_row rfl 24 (.tmp 16) (.tmp 41) rfl W2.heap.size (bs y) rfl rfl 24 _ (Blk.new W2 _ _) HSy.out (by rw [HyS.out]; rfl) (bs_one _) ?_))
        have hg2 : w.heap.size + 2 < W2.heap.size := HW1.out.lt
        have hW3 : ShW w h ((W2.alloc (.cells (bs (List.replicate 32 0)) 24)).setRow W2.heap.size (bs y)) := HW1.out.keep (below_setRow ((Below.refl _ _).alloc (Nat.le_refl _) _) _ _ (Nat.le_refl _))
        refine world_cut (fun W => ShY w h y W2.heap.size W) ⟨hW3, Blk.row (Blk.new W2 _ _) (bs y)⟩ ?_
        rintro W3 hW3
        obtain ⟨g, hg⟩ : ∃ g, g = W2.heap.size := ⟨_, rfl⟩
        rw [← hg] at hW3 hg2 ⊢
        have HW3 := Lib.hid hW3
        have hg3 : w.heap.size + 2 < W3.heap.size := hW3.1.lt
        clear hW3 hg HW1 hix
        have hG : ∀ W W' : World, Below W3.heap.size W3 W → Below W.heap.size W W' → Below W3.heap.size W3 W' := fun W W' h h' => h.trans (h'.mono h.size)
        have HBw := Lib.hid HW3.out.1.2.2.2
        have HF9 := Lib.hid HW3.out.1.1
        refine region_rel_by 17 18 (fun b c => [(19, varF W3.heap.size 24 (if b then bs o else bs (List.replicate 32 0))), (20, varF W3.heap.size 24 (if c then bs r else bs (List.replicate 32 0))), (63, .is (.int .i64 n)), (64, .is (.int .u64 (M : Int))), (65, .is (.int .u64 (k : Int))), (66, .is (.int .u64 (M2 : Int))), (67, .is (.int .u64 (N : Int))), (68, .is (.int .u64 (k : Int))), (69, .is (.int .u64 (N2 : Int))), (70, .is (.agg (bs h))), (71, .is (.slice (some pad) p pc)), (72, .is (.int .i64 (z : Int))), (73, .is (.slice (some pad) z pc)), (74, .is (.tuple #[.agg (bs o), .agg (bs r)])), (62, .is (.tuple #[.agg (bs o), .agg (bs r)])), (75, .is (.agg (bs o))), (76, .is (.agg (bs r)))]) [0, 12, 13, 16, 19, 20] (fun W => Below W3.heap.size W3 W) (Two2 15 16 19 20) (by kernel_rfl) (by kernel_rfl) (by kernel_rfl) (by kernel_rfl) (by kernel_rfl) (by decide) (by decide) ((Below.refl _ _).drew) (two2_none _ _ _) ?_ ?_
        · refine ⟨?c0, ?c1, ?c2, ?c3, ?c4, ?c5, ?c6, ?c7, ?c8, ?c9, ?c10, ?c11, ?c12, ?c13, ?c14, ?c15, ?c16, ?c17, ?c18, trivial⟩
          case c0 => exact plain2 (by kernel_rfl) (fun Wx b c => ask_copy (guard_none rfl) (.tmp 0) (.inl rfl) (by intro k hk; cases hk; rfl))
          case c1 => exact plain2 (by kernel_rfl) (fun Wx b c => ask_copy (guard_none rfl) (.tmp 1) (.inl rfl) (by intro k hk; cases hk; rfl))
          case c2 => exact plain2 (by kernel_rfl) (fun Wx b c => ask_copy (guard_none rfl) (.tmp 14) (.inl rfl) (by intro k hk; cases hk; rfl))
          case c3 => exact plain2 (by kernel_rfl) (fun Wx b c => ask_bin (guard_none rfl) .sub _ _ (.tmp 64) (.tmp 65) (.int .u64 (M : Int)) (.int .u64 (k : Int)) (.int .u64 (M2 : Int)) rfl rfl rfl (by intro k hk; cases hk; rfl) (fun W => sub_u64 _ _ _ _ _ _ HM2.out (by omega) W))
          case c4 => exact plain2 (by kernel_rfl) (fun Wx b c => ask_copy (guard_none rfl) (.tmp 2) (.inl rfl) (by intro k hk; cases hk; rfl))
          case c5 => exact plain2 (by kernel_rfl) (fun Wx b c => ask_copy (guard_none rfl) (.tmp 14) (.inl rfl) (by intro k hk; cases hk; rfl))
          case c6 => exact plain2 (by kernel_rfl) (fun Wx b c => ask_bin (guard_none rfl) .sub _ _ (.tmp 67) (.tmp 68) (.int .u64 (N : Int)) (.int .u64 (k : Int)) (.int .u64 (N2 : Int)) rfl rfl rfl (by intro k hk; cases hk; rfl) (fun W => sub_u64 _ _ _ _ _ _ HN2.out (by omega) W))
          case c7 => exact plain2 (by kernel_rfl) (fun Wx b c => ask_load (guard_none rfl) _ (.tmp 9) (.pointer (some ⟨w.heap.size, 0, none⟩)) (.agg (bs h)) rfl rfl (by intro k hk; cases hk; rfl) (fun W hW => (HF9.out.keep hW.1).loads 24 _ Tryd.underlying24 rfl HSh.out))
          case c8 => exact plain2 (by kernel_rfl) (fun Wx b c => ask_copy (guard_none rfl) (.tmp 4) (.inl rfl) (by intro k hk; cases hk; rfl))
          case c9 => exact plain2 (by kernel_rfl) (fun Wx b c => ask_copy (guard_none rfl) (.tmp 15) (.inl rfl) (by intro k hk; cases hk; rfl))
          case c10 => exact plain2 (by kernel_rfl) (fun Wx b c => ask_slice (guard_none rfl) _ (.tmp 71) none (some (.tmp 72)) none (.slice (some pad) p pc) (.slice (some pad) z pc) none (some (.int .i64 (z : Int))) none rfl rfl rfl rfl rfl (by intro k hk; cases hk; rfl) (HSl.out))
          case c11 => exact plain2 (by kernel_rfl) (fun Wx b c => ask_call (grow_both hG Wx) (guard_none rfl) _ _ _ #[.int .i64 n, .int .u64 (M2 : Int), .int .u64 (N2 : Int), .agg (bs h), .slice (some pad) z pc, .bool false] (.is (.tuple #[.agg (bs o), .agg (bs r)])) rfl (by kernel_rfl) rfl rfl (by intro k hk; cases hk; rfl) (fun W hW => (HShow.out W (HBw.out.trans (hW.1.mono HBw.out.size))).mono fun e w' h => ⟨_, h.1, rfl, h.2⟩))
          case c12 => exact plain2 (by kernel_rfl) (fun Wx b c => ask_copy (guard_none rfl) (.tmp 74) (.inl rfl) (by intro k hk; cases hk; rfl))
          case c13 => exact plain2 (by kernel_rfl) (fun Wx b c => ask_exec (guard_none rfl) (.agg (bs o)) rfl rfl (by intro k hk; cases hk; rfl) (fun W hW => rfl))
          case c14 => exact plain2 (by kernel_rfl) (fun Wx b c => ask_exec (guard_none rfl) (.agg (bs r)) rfl rfl (by intro k hk; cases hk; rfl) (fun W hW => rfl))
          case c15 => exact (alloc2_p (m := 15) (n := 16) (p := 17) (q := 18) (sp := 19) (sq := 20) hG rfl _ (.agg (bs (List.replicate 32 0))) rfl rfl (by decide) (by decide) (by decide) (by decide) (by decide) (by kernel_rfl) (by decide) (fun W => by kernel_rfl) (fun b W hW => ⟨_, rfl, hW.size, Blk.new W _ _⟩))
          case c16 => exact (alloc2_q (m := 15) (n := 16) (p := 17) (q := 18) (sp := 19) (sq := 20) hG rfl _ (.agg (bs (List.replicate 32 0))) rfl rfl (by decide) (by decide) (by decide) (by decide) (by decide) (by kernel_rfl) (by decide) (fun W => by kernel_rfl) (fun b W hW => ⟨_, rfl, hW.size, Blk.new W _ _⟩))
          case c17 =>
            refine (store2_p (m := 15) (n := 16) (p := 17) (q := 18) (sp := 19) (sq := 20) rfl (by decide) (by decide) (by decide) (by decide) ⟨_, rfl, rfl⟩ (by kernel_rfl) ?_)
            intro b x W hW hk
            obtain ⟨gs, e1, e2, e3⟩ : ∃ gs, x 19 = .pointer (some ⟨gs, 0, none⟩) ∧ W3.heap.size ≤ gs ∧ Blk W gs 24 (bs (List.replicate 32 0)) := hk 19 rfl
            have e4 : x 75 = .agg (bs o) := hk 75 rfl
            refine ⟨guard_ok (guard_none rfl) hk, gives_store 24 (.tmp 19) (.tmp 75) rfl (.pointer (some ⟨gs, 0, none⟩)) (.agg (bs o)) e1 e4 (e3.stores 24 _ HSo.out (by rw [HoS.out]; rfl) (bs_one _)) ⟨below_setRow hW gs _ e2, by simp, fun k _ hne hu => ?_⟩⟩
            by_cases h1 : k = 19
            · subst h1
              exact ⟨gs, e1, e2, e3.row _⟩
            · by_cases h2 : k = 20
              · subst h2
                have hne' := hne rfl
                obtain ⟨g2, q1, q2, q3⟩ := hu
                have h3 : g2 ≠ gs := by
                  rintro rfl
                  exact hne' (by rw [e1, q1])
                exact ⟨g2, q1, q2, q3.rowOther _ h3⟩
              · simp only [factsOf_ne h1, factsOf_ne h2] at hu ⊢
                refine facts_keep (fun q hq u hu => ?_) k _ hu
                simp only [List.mem_cons, List.not_mem_nil, or_false] at hq
                rcases hq with rfl | rfl | rfl | rfl | rfl | rfl | rfl | rfl | rfl | rfl | rfl | rfl | rfl | rfl | rfl
                all_goals exact hu
          case c18 =>
            refine (store2_q (m := 15) (n := 16) (p := 17) (q := 18) (sp := 19) (sq := 20) rfl (by decide) (by decide) (by decide) (by decide) ⟨_, rfl, rfl⟩ (by kernel_rfl) ?_)
            intro b x W hW hk
            obtain ⟨gs, e1, e2, e3⟩ : ∃ gs, x 20 = .pointer (some ⟨gs, 0, none⟩) ∧ W3.heap.size ≤ gs ∧ Blk W gs 24 (bs (List.replicate 32 0)) := hk 20 rfl
            have e4 : x 76 = .agg (bs r) := hk 76 rfl
            refine ⟨guard_ok (guard_none rfl) hk, gives_store 24 (.tmp 20) (.tmp 76) rfl (.pointer (some ⟨gs, 0, none⟩)) (.agg (bs r)) e1 e4 (e3.stores 24 _ HSr.out (by rw [HrS.out]; rfl) (bs_one _)) ⟨below_setRow hW gs _ e2, by simp, fun k _ hne hu => ?_⟩⟩
            by_cases h1 : k = 20
            · subst h1
              exact ⟨gs, e1, e2, e3.row _⟩
            · by_cases h2 : k = 19
              · subst h2
                have hne' := hne rfl
                obtain ⟨g2, q1, q2, q3⟩ := hu
                have h3 : g2 ≠ gs := by
                  rintro rfl
                  exact hne' (by rw [e1, q1])
                exact ⟨g2, q1, q2, q3.rowOther _ h3⟩
              · simp only [factsOf_ne h2, factsOf_ne h1] at hu ⊢
                refine facts_keep (fun q hq u hu => ?_) k _ hu
                simp only [List.mem_cons, List.not_mem_nil, or_false] at hq
                rcases hq with rfl | rfl | rfl | rfl | rfl | rfl | rfl | rfl | rfl | rfl | rfl | rfl | rfl | rfl | rfl
                all_goals exact hu
        intro L a' W hall hW hr hd' hs' hf'
        obtain ⟨gx, ex, hgx, hbx⟩ : ∃ gx, a'.tmps.getD 19 undef = .pointer (some ⟨gx, 0, none⟩) ∧ W3.heap.size ≤ gx ∧ Blk W gx 24 (bs o) := hf' 19 rfl
        obtain ⟨gy, ey, hgy, hby⟩ : ∃ gy, a'.tmps.getD 20 undef = .pointer (some ⟨gy, 0, none⟩) ∧ W3.heap.size ≤ gy ∧ Blk W gy 24 (bs r) := hf' 20 rfl
        have t0 : a'.tmps.getD 0 undef = .int .i64 n := hf' 0 rfl
        have t12 : a'.tmps.getD 12 undef = .pointer (some ⟨w.heap.size + 1, 0, none⟩) := hf' 12 rfl
        have t13 : a'.tmps.getD 13 undef = .pointer (some ⟨w.heap.size + 2, 0, none⟩) := hf' 13 rfl
        have t16 : a'.tmps.getD 16 undef = .pointer (some ⟨g, 0, none⟩) := hf' 16 rfl
        have t19 : a'.tmps.getD 19 undef = .pointer (some ⟨gx, 0, none⟩) := ex
        have t20 : a'.tmps.getD 20 undef = .pointer (some ⟨gy, 0, none⟩) := ey
        obtain ⟨us', hus, ha'⟩ := act_open 85 a' hs' hd'
        rw [← hus] at t0 t12 t13 t16 t19 t20
        have el : ((List.range 85).map us').toArray = #[.int .i64 n, us' 1, us' 2, us' 3, us' 4, us' 5, us' 6, us' 7, us' 8, us' 9, us' 10, us' 11, .pointer (some ⟨w.heap.size + 1, 0, none⟩), .pointer (some ⟨w.heap.size + 2, 0, none⟩), us' 14, us' 15, .pointer (some ⟨g, 0, none⟩), us' 17, us' 18, .pointer (some ⟨gx, 0, none⟩), .pointer (some ⟨gy, 0, none⟩), us' 21, us' 22, us' 23, us' 24, us' 25, us' 26, us' 27, us' 28, us' 29, us' 30, us' 31, us' 32, us' 33, us' 34, us' 35, us' 36, us' 37, us' 38, us' 39, us' 40, us' 41, us' 42, us' 43, us' 44, us' 45, us' 46, us' 47, us' 48, us' 49, us' 50, us' 51, us' 52, us' 53, us' 54, us' 55, us' 56, us' 57, us' 58, us' 59, us' 60, us' 61, us' 62, us' 63, us' 64, us' 65, us' 66, us' 67, us' 68, us' 69, us' 70, us' 71, us' 72, us' 73, us' 74, us' 75, us' 76, us' 77, us' 78, us' 79, us' 80, us' 81, us' 82, us' 83, us' 84] := by
          show #[us' 0, us' 1, us' 2, us' 3, us' 4, us' 5, us' 6, us' 7, us' 8, us' 9, us' 10, us' 11, us' 12, us' 13, us' 14, us' 15, us' 16, us' 17, us' 18, us' 19, us' 20, us' 21, us' 22, us' 23, us' 24, us' 25, us' 26, us' 27, us' 28, us' 29, us' 30, us' 31, us' 32, us' 33, us' 34, us' 35, us' 36, us' 37, us' 38, us' 39, us' 40, us' 41, us' 42, us' 43, us' 44, us' 45, us' 46, us' 47, us' 48, us' 49, us' 50, us' 51, us' 52, us' 53, us' 54, us' 55, us' 56, us' 57, us' 58, us' 59, us' 60, us' 61, us' 62, us' 63, us' 64, us' 65, us' 66, us' 67, us' 68, us' 69, us' 70, us' 71, us' 72, us' 73, us' 74, us' 75, us' 76, us' 77, us' 78, us' 79, us' 80, us' 81, us' 82, us' 83, us' 84] = _
          rw [t0, t12, t13, t16, t19, t20]
        rw [el] at ha'
        subst ha'
        clear ex ey hr hall hus t0 t12 t13 t16 t19 t20 el hf' hs' hd'
        have hZ : ShZ w h y g o r gx gy W := ⟨HW3.out.1.keep hW, HW3.out.2.keep hW, hbx, hby⟩
        have HZ := Lib.hid hZ
        have hx3 : w.heap.size + 2 < gx := by omega
        have hy3 : w.heap.size + 2 < gy := by omega
        clear hZ hbx hby hW HW3 HF9 HBw HShow hgx hgy hg3 hG HIx HSl HLd
        go_upto_region 12 with fail
        have hG : ∀ W W' : World, ShZ w h y g o r gx gy W → Below W.heap.size W W' → ShZ w h y g o r gx gy W' := fun W W' h h' => h.keep h'
        refine region_rel_by 8 9 (fun _ _ => [(77, .is (.int .i64 n)), (78, .is (.agg (bs y))), (79, .is (.agg (bs o))), (80, .is (.agg (bs Q))), (81, .is (.int .i64 n)), (82, .is (.agg (bs y))), (83, .is (.agg (bs r))), (84, .is (.agg (bs R)))]) [12, 13] (fun W => ShZ w h y g o r gx gy W) (Put2 8 9 (w.heap.size + 1) (w.heap.size + 2) 24 (bs Q) (bs R)) (by kernel_rfl) (by kernel_rfl) (by kernel_rfl) (by kernel_rfl) (by kernel_rfl) (by decide) (by decide) (HZ.out.keep (Below.refl _ _).drew) (put2_none _ _ _) ?_ ?_
        · refine ⟨?c0, ?c1, ?c2, ?c3, ?c4, ?c5, ?c6, ?c7, ?c8, ?c9, trivial⟩
          case c0 => exact plain_put (by kernel_rfl) (fun Wx => ask_copy (guard_none rfl) (.tmp 0) (.inl rfl) (by intro k hk; cases hk; rfl))
          case c1 => exact plain_put (by kernel_rfl) (fun Wx => ask_load (guard_none rfl) _ (.tmp 16) (.pointer (some ⟨g, 0, none⟩)) (.agg (bs y)) rfl rfl (by intro k hk; cases hk; rfl) (fun W hW => (hW.1.2.1).loads 24 _ Tryd.underlying24 rfl HSy.out))
          case c2 => exact plain_put (by kernel_rfl) (fun Wx => ask_load (guard_none rfl) _ (.tmp 19) (.pointer (some ⟨gx, 0, none⟩)) (.agg (bs o)) rfl rfl (by intro k hk; cases hk; rfl) (fun W hW => (hW.1.2.2.1).loads 24 _ Tryd.underlying24 rfl HSo.out))
          case c3 => exact plain_put (by kernel_rfl) (fun Wx => ask_call (grow_both hG Wx) (guard_none rfl) _ _ _ #[.int .i64 n, .agg (bs y), .agg (bs o)] (.is (.agg (bs Q))) rfl (by kernel_rfl) rfl rfl (by intro k hk; cases hk; rfl) (fun W hW => (HNodeQ.out W hW.1.1.2.2.2).mono fun e w' h => ⟨_, h.1, rfl, h.2⟩))
          case c4 => exact plain_put (by kernel_rfl) (fun Wx => ask_copy (guard_none rfl) (.tmp 0) (.inl rfl) (by intro k hk; cases hk; rfl))
          case c5 => exact plain_put (by kernel_rfl) (fun Wx => ask_load (guard_none rfl) _ (.tmp 16) (.pointer (some ⟨g, 0, none⟩)) (.agg (bs y)) rfl rfl (by intro k hk; cases hk; rfl) (fun W hW => (hW.1.2.1).loads 24 _ Tryd.underlying24 rfl HSy.out))
          case c6 => exact plain_put (by kernel_rfl) (fun Wx => ask_load (guard_none rfl) _ (.tmp 20) (.pointer (some ⟨gy, 0, none⟩)) (.agg (bs r)) rfl rfl (by intro k hk; cases hk; rfl) (fun W hW => (hW.1.2.2.2).loads 24 _ Tryd.underlying24 rfl HSr.out))
          case c7 => exact plain_put (by kernel_rfl) (fun Wx => ask_call (grow_both hG Wx) (guard_none rfl) _ _ _ #[.int .i64 n, .agg (bs y), .agg (bs r)] (.is (.agg (bs R))) rfl (by kernel_rfl) rfl rfl (by intro k hk; cases hk; rfl) (fun W hW => (HNode.out W hW.1.1.2.2.2).mono fun e w' h => ⟨_, h.1, rfl, h.2⟩))
          case c8 => exact .inr (put2_p rfl 24 (.tmp 12) (.tmp 80) rfl rfl rfl rfl (by kernel_rfl) (by decide) (by omega) (fun W hW => hW.1.cur1 HQS.out) HSQ.out (bs_one _) (fun W hW => hW.row1 _ HQS.out hg2 hx3 hy3))
          case c9 => exact .inr (put2_q rfl 24 (.tmp 13) (.tmp 84) rfl rfl rfl rfl (by kernel_rfl) (by decide) (by omega) (fun W hW => hW.1.cur2 HRS.out) HSR.out (bs_one _) (fun W hW => hW.row2 _ HRS.out hg2 hx3 hy3))
        · intro L a' W hall hW hr hd' hs' hf'
          have HA := Lib.hid (hr.1 (hall 8 (by decide)))
          have HBk := Lib.hid (hr.2 (hall 9 (by decide)))
          have t12 : a'.tmps.getD 12 undef = .pointer (some ⟨w.heap.size + 1, 0, none⟩) := hf' 12 rfl
          have t13 : a'.tmps.getD 13 undef = .pointer (some ⟨w.heap.size + 2, 0, none⟩) := hf' 13 rfl
          obtain ⟨us', hus, ha'⟩ := act_open 85 a' hs' hd'
          rw [← hus] at t12 t13
          have el : ((List.range 85).map us').toArray = #[us' 0, us' 1, us' 2, us' 3, us' 4, us' 5, us' 6, us' 7, us' 8, us' 9, us' 10, us' 11, .pointer (some ⟨w.heap.size + 1, 0, none⟩), .pointer (some ⟨w.heap.size + 2, 0, none⟩), us' 14, us' 15, us' 16, us' 17, us' 18, us' 19, us' 20, us' 21, us' 22, us' 23, us' 24, us' 25, us' 26, us' 27, us' 28, us' 29, us' 30, us' 31, us' 32, us' 33, us' 34, us' 35, us' 36, us' 37, us' 38, us' 39, us' 40, us' 41, us' 42, us' 43, us' 44, us' 45, us' 46, us' 47, us' 48, us' 49, us' 50, us' 51, us' 52, us' 53, us' 54, us' 55, us' 56, us' 57, us' 58, us' 59, us' 60, us' 61, us' 62, us' 63, us' 64, us' 65, us' 66, us' 67, us' 68, us' 69, us' 70, us' 71, us' 72, us' 73, us' 74, us' 75, us' 76, us' 77, us' 78, us' 79, us' 80, us' 81, us' 82, us' 83, us' 84] := by
            show #[us' 0, us' 1, us' 2, us' 3, us' 4, us' 5, us' 6, us' 7, us' 8, us' 9, us' 10, us' 11, us' 12, us' 13, us' 14, us' 15, us' 16, us' 17, us' 18, us' 19, us' 20, us' 21, us' 22, us' 23, us' 24, us' 25, us' 26, us' 27, us' 28, us' 29, us' 30, us' 31, us' 32, us' 33, us' 34, us' 35, us' 36, us' 37, us' 38, us' 39, us' 40, us' 41, us' 42, us' 43, us' 44, us' 45, us' 46, us' 47, us' 48, us' 49, us' 50, us' 51, us' 52, us' 53, us' 54, us' 55, us' 56, us' 57, us' 58, us' 59, us' 60, us' 61, us' 62, us' 63, us' 64, us' 65, us' 66, us' 67, us' 68, us' 69, us' 70, us' 71, us' 72, us' 73, us' 74, us' 75, us' 76, us' 77, us' 78, us' 79, us' 80, us' 81, us' 82, us' 83, us' 84] = _
            rw [t12, t13]
          rw [el] at ha'
          subst ha'
          clear hus t12 t13 el hf' hs' hd'
          go_wp2
          exact bodyPost_ret (v := .tuple #[.agg (bs Q), .agg (bs R)]) (ret_two rfl _ _ (w.heap.size + 1) (w.heap.size + 2) (bs Q) (bs R) (by rw [bs_size, HQ.out]) (by rw [bs_size, HR.out]) rfl rfl HA.out HBk.out) rfl ⟨rfl, hW.1.2.2.2⟩
end Go.Proofs.YtdhfabjkpffhnaaDoor

/- Layer 16's reference: Climb. -/
namespace Go.Proofs.YtdhfabjkpffhnaaDoor
set_option maxRecDepth 20000
open Go.RowKit ShaMath LeafMath PathMath GrowthMath Reg

/-- What Climb answers. -/
def climbGR (n : Int) (h : Hs) (m N : Nat) (ps : List Hs) : (Hs × Hs) × Nat :=
  if m = 0 ∨ N < m then ((z32, z32), 9) else if ps.length < growS m N then ((z32, z32), 2) else if growS m N < ps.length then ((z32, z32), 4) else (showG n m N h ps true, 0)

theorem climbGR_32 (n : Int) (h : Hs) (m N : Nat) (ps : List Hs) (hh : h.length = 32) (hp : ∀ x ∈ ps, x.length = 32) : (climbGR n h m N ps).1.1.length = 32 ∧ (climbGR n h m N ps).1.2.length = 32 := by
  unfold climbGR
  split
  · exact ⟨rfl, rfl⟩
  · split
    · exact ⟨rfl, rfl⟩
    · split
      · exact ⟨rfl, rfl⟩
      · rename_i h1 h2 h3
        have e : growS m N = sizeG m N true := by unfold growS; rw [if_neg h1]
        exact showG_length n N m h ps true hh hp (by omega) (by omega)

theorem growS_65 (m N : Nat) (hN : N < 18446744073709551616) : growS m N ≤ 65 := by
  unfold growS
  split
  · omega
  · exact sizeG_65 m N true (by omega) hN

/-- Two hashes that lie in cells and a number, as results. -/
theorem ret_two_tmp {fn : Func} {p u t : Tmp} (h : fn.results = #[.cell p 24, .cell u 24, .tmp t]) (tmps : Array Value) (W : World) (g g' : Nat) (cs cs' : Array Value) (c : Value) (hs : cs.size = 32) (hs' : cs'.size = 32)
    (hp : tmps.getD p undef = .pointer (some ⟨g, 0, none⟩)) (hc : tmps.getD u undef = .pointer (some ⟨g', 0, none⟩)) (ht : tmps.getD t undef = c) (hb : Blk W g 24 cs) (hb' : Blk W g' 24 cs') :
    (results fn tmps).run Tryd.prog W = .ok (.tuple #[.agg cs, .agg cs', c]) W := by
  have hl := run_loadVar_row (P := Tryd.prog) W g 24 24 cs (0, 0) _ hb Tryd.underlying24 rfl (size_hash hs)
  have hl' := run_loadVar_row (P := Tryd.prog) W g' 24 24 cs' (0, 0) _ hb' Tryd.underlying24 rfl (size_hash hs')
  rw [Array.getD_eq_getD_getElem?] at hp hc ht
  simp only [results, h]
  simp [Sem.run_bind, Result.andThen, hp, hc, ht, asAddr, hl, hl']

set_option maxHeartbeats 2000000 in
set_option maxRecDepth 100000 in
theorem refclimb16_any (n : Int) (hn : I64 n) (h : Hs) (m N : Nat) (ps : List Hs) (v : Value) (w : World) (hh : h.length = 32) (hm : m < 18446744073709551616) (hN : N < 18446744073709551616) (hv : Hss w v ps) (hk : Consts w) :
    Calls Tryd.prog 71 #[.int .i64 n, .int .u64 (m : Int), .int .u64 (N : Int), .agg (bs h), v] w fun e w' => e = .returned (.tuple #[.agg (bs (climbGR n h m N ps).1.1), .agg (bs (climbGR n h m N ps).1.2), .int .i64 ((climbGR n h m N ps).2 : Int)]) ∧ Below w.heap.size w w' := by
  have HP := Lib.hid (ShW.new w h)
  obtain ⟨pa, pc, rfl, _⟩ := hv.form
  obtain ⟨p, hp⟩ : ∃ p, p = ps.length := ⟨_, rfl⟩
  rw [← hp] at hv ⊢
  obtain ⟨S, hS⟩ : ∃ S, S = growS m N := ⟨_, rfl⟩
  have hSb : S ≤ 65 := by rw [hS]; exact growS_65 m N hN
  have HSize := Lib.hid (fun W => refSize16_any m N W hm hN)
  rw [← hS] at HSize
  obtain ⟨zz, hzz⟩ : ∃ z, z = z32 := ⟨_, rfl⟩
  have hz32 : zz.length = 32 := by rw [hzz]; rfl
  have HZ := Lib.hid (size_hash (cs := bs zz) (by rw [bs_size, hz32]))
  have HZ32 := Lib.hid hz32
  have HzS := Lib.hid (show (bs zz).size = 32 by rw [bs_size, hz32])
  have HZe := Lib.hid (show bs zz = bs (List.replicate 32 0) by rw [hzz]; rfl)
  by_cases h0 : m = 0
  · have hr : climbGR n h m N ps = ((zz, zz), 9) := by rw [climbGR, if_pos (.inl h0), hzz]
    rw [hr]
    clear hv hk hr hzz hz32 hh hS hp hn
    subst h0
    go_enter Tryd.func71, Tryd.ntmps71
    go_upto_region 1 with fail
    refine world_cut (fun W => ShW w h W) HP.out ?_
    clear HP
    intro W1 hW1
    have HW1 := Lib.hid hW1
    clear hW1
    obtain ⟨-, ⟨zs, hz1, hz2⟩, ⟨zt, hz3, hz4⟩, hb⟩ := HW1.out
    have HZ1 := Lib.hid hz1
    have HZ2 := Lib.hid hz2
    have HZ3 := Lib.hid hz3
    have HZ4 := Lib.hid hz4
    have HB := Lib.hid hb
    clear hz1 hz2 hz3 hz4 hb
    go_wp2_with (first
      | (refine wpList_store_row rfl 24 (.tmp 10) (.tmp 22) rfl (w.heap.size + 1) (bs zz) rfl (by rw [HZe.out]; rfl) 24 _ HZ1.out HZ.out (by rw [HzS.out, HZ2.out]) (bs_one _) ?_)
      | (refine wpList_store_row rfl 24 (.tmp 11) (.tmp 23) rfl (w.heap.size + 2) (bs zz) rfl (by rw [HZe.out]; rfl) 24 _ (HZ3.out.rowOther _ (by omega)) HZ.out (by rw [HzS.out, HZ4.out]) (bs_one _) ?_))
    exact bodyPost_ret (v := .tuple #[.agg (bs zz), .agg (bs zz), .int .i64 9]) (ret_two_tmp rfl _ _ (w.heap.size + 1) (w.heap.size + 2) (bs zz) (bs zz) _ (by rw [bs_size, HZ32.out]) (by rw [bs_size, HZ32.out]) rfl rfl rfl ((Blk.row HZ1.out (bs zz)).rowOther _ (by omega)) (Blk.row (HZ3.out.rowOther _ (by omega)) (bs zz))) rfl ⟨rfl, below_setRow (below_setRow HB.out _ _ (by omega)) _ _ (by omega)⟩
  · have hz : ((m : Int) == 0) = false := by simpa using h0
    by_cases hc : N < m
    · have hr : climbGR n h m N ps = ((zz, zz), 9) := by rw [climbGR, if_pos (.inr hc), hzz]
      rw [hr]
      have hgt : decide ((m : Int) > (N : Int)) = true := decide_eq_true (by omega)
      clear hv hk hr hzz hz32 hh hS hp hn
      go_enter Tryd.func71, Tryd.ntmps71
      go_upto_region 1 with fail
      refine world_cut (fun W => ShW w h W) HP.out ?_
      clear HP
      intro W1 hW1
      have HW1 := Lib.hid hW1
      clear hW1
      obtain ⟨-, ⟨zs, hz1, hz2⟩, ⟨zt, hz3, hz4⟩, hb⟩ := HW1.out
      have HZ1 := Lib.hid hz1
      have HZ2 := Lib.hid hz2
      have HZ3 := Lib.hid hz3
      have HZ4 := Lib.hid hz4
      have HB := Lib.hid hb
      clear hz1 hz2 hz3 hz4 hb
      go_wp2_with (first
        | (refine wpList_store_row rfl 24 (.tmp 10) (.tmp 22) rfl (w.heap.size + 1) (bs zz) rfl (by rw [HZe.out]; rfl) 24 _ HZ1.out HZ.out (by rw [HzS.out, HZ2.out]) (bs_one _) ?_)
        | (refine wpList_store_row rfl 24 (.tmp 11) (.tmp 23) rfl (w.heap.size + 2) (bs zz) rfl (by rw [HZe.out]; rfl) 24 _ (HZ3.out.rowOther _ (by omega)) HZ.out (by rw [HzS.out, HZ4.out]) (bs_one _) ?_))
      exact bodyPost_ret (v := .tuple #[.agg (bs zz), .agg (bs zz), .int .i64 9]) (ret_two_tmp rfl _ _ (w.heap.size + 1) (w.heap.size + 2) (bs zz) (bs zz) _ (by rw [bs_size, HZ32.out]) (by rw [bs_size, HZ32.out]) rfl rfl rfl ((Blk.row HZ1.out (bs zz)).rowOther _ (by omega)) (Blk.row (HZ3.out.rowOther _ (by omega)) (bs zz))) rfl ⟨rfl, below_setRow (below_setRow HB.out _ _ (by omega)) _ _ (by omega)⟩
    · have hgt : decide ((m : Int) > (N : Int)) = false := decide_eq_false (by omega)
      by_cases h2 : p < S
      · have hr : climbGR n h m N ps = ((zz, zz), 2) := by rw [climbGR, if_neg (by omega), if_pos (by rw [← hp, ← hS]; exact h2), hzz]
        rw [hr]
        clear hv hk hr hzz hz32 hh hS hp hn
        go_enter Tryd.func71, Tryd.ntmps71
        go_upto_region 1 with fail
        refine world_cut (fun W => ShW w h W) HP.out ?_
        clear HP
        intro W1 hW1
        have HW1 := Lib.hid hW1
        clear hW1
        go_wp2_with fail
        refine (HSize.out _).mono ?_
        rintro e W2 ⟨rfl, rfl⟩
        obtain ⟨-, ⟨zs, hz1, hz2⟩, ⟨zt, hz3, hz4⟩, hb⟩ := HW1.out
        have HZ1 := Lib.hid hz1
        have HZ2 := Lib.hid hz2
        have HZ3 := Lib.hid hz3
        have HZ4 := Lib.hid hz4
        have HB := Lib.hid hb
        clear hz1 hz2 hz3 hz4 hb
        go_wp2_with (first
          | (refine wpList_store_row rfl 24 (.tmp 10) (.tmp 30) rfl (w.heap.size + 1) (bs zz) rfl (by rw [HZe.out]; rfl) 24 _ HZ1.out HZ.out (by rw [HzS.out, HZ2.out]) (bs_one _) ?_)
          | (refine wpList_store_row rfl 24 (.tmp 11) (.tmp 31) rfl (w.heap.size + 2) (bs zz) rfl (by rw [HZe.out]; rfl) 24 _ (HZ3.out.rowOther _ (by omega)) HZ.out (by rw [HzS.out, HZ4.out]) (bs_one _) ?_))
        exact bodyPost_ret (v := .tuple #[.agg (bs zz), .agg (bs zz), .int .i64 2]) (ret_two_tmp rfl _ _ (w.heap.size + 1) (w.heap.size + 2) (bs zz) (bs zz) _ (by rw [bs_size, HZ32.out]) (by rw [bs_size, HZ32.out]) rfl rfl rfl ((Blk.row HZ1.out (bs zz)).rowOther _ (by omega)) (Blk.row (HZ3.out.rowOther _ (by omega)) (bs zz))) rfl ⟨rfl, below_setRow (below_setRow HB.out _ _ (by omega)) _ _ (by omega)⟩
      · by_cases h3 : S < p
        · have hr : climbGR n h m N ps = ((zz, zz), 4) := by rw [climbGR, if_neg (by omega), if_neg (by rw [← hp, ← hS]; exact h2), if_pos (by rw [← hp, ← hS]; exact h3), hzz]
          rw [hr]
          clear hv hk hr hzz hz32 hh hS hp hn
          go_enter Tryd.func71, Tryd.ntmps71
          go_upto_region 1 with fail
          refine world_cut (fun W => ShW w h W) HP.out ?_
          clear HP
          intro W1 hW1
          have HW1 := Lib.hid hW1
          clear hW1
          go_wp2_with fail
          refine (HSize.out _).mono ?_
          rintro e W2 ⟨rfl, rfl⟩
          go_wp2_with fail
          refine (HSize.out _).mono ?_
          rintro e W2 ⟨rfl, rfl⟩
          obtain ⟨-, ⟨zs, hz1, hz2⟩, ⟨zt, hz3, hz4⟩, hb⟩ := HW1.out
          have HZ1 := Lib.hid hz1
          have HZ2 := Lib.hid hz2
          have HZ3 := Lib.hid hz3
          have HZ4 := Lib.hid hz4
          have HB := Lib.hid hb
          clear hz1 hz2 hz3 hz4 hb
          go_wp2_with (first
            | (refine wpList_store_row rfl 24 (.tmp 10) (.tmp 38) rfl (w.heap.size + 1) (bs zz) rfl (by rw [HZe.out]; rfl) 24 _ HZ1.out HZ.out (by rw [HzS.out, HZ2.out]) (bs_one _) ?_)
            | (refine wpList_store_row rfl 24 (.tmp 11) (.tmp 39) rfl (w.heap.size + 2) (bs zz) rfl (by rw [HZe.out]; rfl) 24 _ (HZ3.out.rowOther _ (by omega)) HZ.out (by rw [HzS.out, HZ4.out]) (bs_one _) ?_))
          exact bodyPost_ret (v := .tuple #[.agg (bs zz), .agg (bs zz), .int .i64 4]) (ret_two_tmp rfl _ _ (w.heap.size + 1) (w.heap.size + 2) (bs zz) (bs zz) _ (by rw [bs_size, HZ32.out]) (by rw [bs_size, HZ32.out]) rfl rfl rfl ((Blk.row HZ1.out (bs zz)).rowOther _ (by omega)) (Blk.row (HZ3.out.rowOther _ (by omega)) (bs zz))) rfl ⟨rfl, below_setRow (below_setRow HB.out _ _ (by omega)) _ _ (by omega)⟩
        · have hr : climbGR n h m N ps = (showG n m N h ps true, 0) := by rw [climbGR, if_neg (by omega), if_neg (by rw [← hp, ← hS]; exact h2), if_neg (by rw [← hp, ← hS]; exact h3)]
          rw [hr]
          have hSe : S = sizeG m N true := by rw [hS, growS, if_neg (by omega)]
          obtain ⟨U, hU⟩ : ∃ U, U = showG n m N h ps true := ⟨_, rfl⟩
          have hU32 : U.1.length = 32 ∧ U.2.length = 32 := by
            rw [hU]; exact showG_length n N m h ps true hh hv.all (by omega) (by omega)
          have HShow := Lib.hid (fun (W : World) (hW : Below w.heap.size w W) => refshow_any n hn N m h ps true (.slice pa p pc) W hh (by omega) (by omega) hN (hv.below (Nat.le_refl _) hW) (by omega) (hk.below (Nat.le_refl _) hW))
          rw [← hU] at HShow ⊢
          obtain ⟨o, ho⟩ : ∃ o, o = U.1 := ⟨_, rfl⟩
          obtain ⟨r, hrr⟩ : ∃ r, r = U.2 := ⟨_, rfl⟩
          rw [← ho, ← hrr] at hU32 HShow ⊢
          obtain ⟨ho32, hr32⟩ := hU32
          have HSo := Lib.hid (size_hash (cs := bs o) (by rw [bs_size, ho32]))
          have HSr := Lib.hid (size_hash (cs := bs r) (by rw [bs_size, hr32]))
          have Ho := Lib.hid ho32
          have Hr := Lib.hid hr32
          have HoS := Lib.hid (show (bs o).size = 32 by rw [bs_size, ho32])
          have HrS := Lib.hid (show (bs r).size = 32 by rw [bs_size, hr32])
          have HSh := Lib.hid (size_hash (cs := bs h) (by rw [bs_size, hh]))
          obtain rfl : p = S := by omega
          clear hv hk hr hzz hz32 hh hS hp hn hSe hU ho hrr ho32 hr32 h2 h3 HZe
          go_enter Tryd.func71, Tryd.ntmps71
          go_upto_region 1 with fail
          refine world_cut (fun W => ShW w h W) HP.out ?_
          clear HP
          intro W1 hW1
          have HW1 := Lib.hid hW1
          clear hW1
          go_wp2_with fail
          refine (HSize.out _).mono ?_
          rintro e W2 ⟨rfl, rfl⟩
          go_wp2_with fail
          refine (HSize.out _).mono ?_
          rintro e W2 ⟨rfl, rfl⟩
          go_wp2_with (refine wpList_load_row rfl 24 (.tmp 8) rfl w.heap.size rfl 24 (bs h) (0, 0) _ HW1.out.1 Tryd.underlying24 rfl HSh.out ?_)
          refine (HShow.out _ HW1.out.2.2.2).mono ?_
          rintro e W3 ⟨rfl, hb3⟩
          have hW3 := HW1.out.keep hb3
          have HW3 := Lib.hid hW3
          have hg3 : w.heap.size + 2 < W3.heap.size := hW3.lt
          clear hW3 hb3 HShow HW1
          go_upto_region 8 with (first
            | (refine wpList_store_row rfl 24 (.tmp 13) (.tmp 47) rfl W3.heap.size (bs o) rfl rfl 24 _ ((Blk.new W3 _ _).alloc _) HSo.out (by rw [HoS.out]; rfl) (bs_one _) ?_)
            | (refine wpList_store_row rfl 24 (.tmp 14) (.tmp 48) rfl (W3.heap.size + 1) (bs r) rfl rfl 24 _ (Blk.rowOther (Blk.newAt _ _ _ _ _ (by simp) rfl) _ (by omega)) HSr.out (by rw [HrS.out]; rfl) (bs_one _) ?_))
          have hW4 : ShW w h ((((W3.alloc (.cells (bs (List.replicate 32 0)) 24)).alloc (.cells (bs (List.replicate 32 0)) 24)).setRow W3.heap.size (bs o)).setRow (W3.heap.size + 1) (bs r)) := HW3.out.keep (below_setRow (below_setRow (((Below.refl _ _).alloc (Nat.le_refl _) _).alloc (by simp) _) _ _ (Nat.le_refl _)) _ _ (by omega))
          refine world_cut (fun W => ShW w h W ∧ Blk W W3.heap.size 24 (bs o) ∧ Blk W (W3.heap.size + 1) 24 (bs r)) ⟨hW4, (Blk.row ((Blk.new W3 _ _).alloc _) (bs o)).rowOther _ (by omega), Blk.row (Blk.rowOther (Blk.newAt _ _ _ _ _ (by simp) rfl) _ (by omega)) (bs r)⟩ ?_
          rintro W4 hW4
          obtain ⟨gx, hgx⟩ : ∃ g, g = W3.heap.size := ⟨_, rfl⟩
          obtain ⟨gy, hgy⟩ : ∃ g, g = W3.heap.size + 1 := ⟨_, rfl⟩
          have hx3 : w.heap.size + 2 < gx := by omega
          have hy3 : w.heap.size + 2 < gy := by omega
          rw [← hgy, ← hgx] at hW4
          rw [← hgy, ← hgx]
          have HW4 := Lib.hid hW4
          clear hW4 hgx hgy hg3 HW3
          have hG : ∀ W W' : World, (ShW w h W ∧ Blk W gx 24 (bs o) ∧ Blk W gy 24 (bs r)) → Below W.heap.size W W' → (ShW w h W' ∧ Blk W' gx 24 (bs o) ∧ Blk W' gy 24 (bs r)) := fun W W' h h' => ⟨h.1.keep h', h.2.1.keep h', h.2.2.keep h'⟩
          refine region_rel_by 2 3 (fun _ _ => [(49, .is (.agg (bs o))), (50, .is (.agg (bs r))), (12, .is (.int .i64 0))]) [10, 11, 12] (fun W => ShW w h W ∧ Blk W gx 24 (bs o) ∧ Blk W gy 24 (bs r)) (Put2 2 3 (w.heap.size + 1) (w.heap.size + 2) 24 (bs o) (bs r)) (by kernel_rfl) (by kernel_rfl) (by kernel_rfl) (by kernel_rfl) (by kernel_rfl) (by decide) (by decide) (hG _ _ HW4.out (Below.refl _ _).drew) (put2_none _ _ _) ?_ ?_
          · refine ⟨?c0, ?c1, ?c2, ?c3, ?c4, trivial⟩
            case c0 => exact plain_put (by kernel_rfl) (fun Wx => ask_load (guard_none rfl) _ (.tmp 13) (.pointer (some ⟨gx, 0, none⟩)) (.agg (bs o)) rfl rfl (by intro k hk; cases hk; rfl) (fun W hW => (hW.1.2.1).loads 24 _ Tryd.underlying24 rfl HSo.out))
            case c1 => exact plain_put (by kernel_rfl) (fun Wx => ask_load (guard_none rfl) _ (.tmp 14) (.pointer (some ⟨gy, 0, none⟩)) (.agg (bs r)) rfl rfl (by intro k hk; cases hk; rfl) (fun W hW => (hW.1.2.2).loads 24 _ Tryd.underlying24 rfl HSr.out))
            case c4 => exact plain_put (by kernel_rfl) (fun Wx => ask_copy (guard_none rfl) (.const (.int .i64 0)) (.inr rfl) (by intro k hk; cases hk; rfl))
            case c2 => exact .inr (put2_p rfl 24 (.tmp 10) (.tmp 49) rfl rfl rfl rfl (by kernel_rfl) (by decide) (by omega) (fun W hW => hW.1.cur1 HoS.out) HSo.out (bs_one _) (fun W hW => ⟨hW.1.row1 _ HoS.out, hW.2.1.rowOther _ (by omega), hW.2.2.rowOther _ (by omega)⟩))
            case c3 => exact .inr (put2_q rfl 24 (.tmp 11) (.tmp 50) rfl rfl rfl rfl (by kernel_rfl) (by decide) (by omega) (fun W hW => hW.1.cur2 HrS.out) HSr.out (bs_one _) (fun W hW => ⟨hW.1.row2 _ HrS.out, hW.2.1.rowOther _ (by omega), hW.2.2.rowOther _ (by omega)⟩))
          · intro L a' W hall hW hr hd' hs' hf'
            have HA := Lib.hid (hr.1 (hall 2 (by decide)))
            have HBk := Lib.hid (hr.2 (hall 3 (by decide)))
            have t10 : a'.tmps.getD 10 undef = .pointer (some ⟨w.heap.size + 1, 0, none⟩) := hf' 10 rfl
            have t11 : a'.tmps.getD 11 undef = .pointer (some ⟨w.heap.size + 2, 0, none⟩) := hf' 11 rfl
            have t12 : a'.tmps.getD 12 undef = .int .i64 0 := hf' 12 rfl
            obtain ⟨us', hus, ha'⟩ := act_open 51 a' hs' hd'
            rw [← hus] at t10 t11 t12
            have el : ((List.range 51).map us').toArray = #[us' 0, us' 1, us' 2, us' 3, us' 4, us' 5, us' 6, us' 7, us' 8, us' 9, .pointer (some ⟨w.heap.size + 1, 0, none⟩), .pointer (some ⟨w.heap.size + 2, 0, none⟩), .int .i64 0, us' 13, us' 14, us' 15, us' 16, us' 17, us' 18, us' 19, us' 20, us' 21, us' 22, us' 23, us' 24, us' 25, us' 26, us' 27, us' 28, us' 29, us' 30, us' 31, us' 32, us' 33, us' 34, us' 35, us' 36, us' 37, us' 38, us' 39, us' 40, us' 41, us' 42, us' 43, us' 44, us' 45, us' 46, us' 47, us' 48, us' 49, us' 50] := by
              show #[us' 0, us' 1, us' 2, us' 3, us' 4, us' 5, us' 6, us' 7, us' 8, us' 9, us' 10, us' 11, us' 12, us' 13, us' 14, us' 15, us' 16, us' 17, us' 18, us' 19, us' 20, us' 21, us' 22, us' 23, us' 24, us' 25, us' 26, us' 27, us' 28, us' 29, us' 30, us' 31, us' 32, us' 33, us' 34, us' 35, us' 36, us' 37, us' 38, us' 39, us' 40, us' 41, us' 42, us' 43, us' 44, us' 45, us' 46, us' 47, us' 48, us' 49, us' 50] = _
              rw [t10, t11, t12]
            rw [el] at ha'
            subst ha'
            clear hus t10 t11 t12 el hf' hs' hd'
            go_wp2
            exact bodyPost_ret (v := .tuple #[.agg (bs o), .agg (bs r), .int .i64 0]) (ret_two_tmp rfl _ _ (w.heap.size + 1) (w.heap.size + 2) (bs o) (bs r) _ (by rw [bs_size, Ho.out]) (by rw [bs_size, Hr.out]) rfl rfl rfl HA.out HBk.out) rfl ⟨rfl, hW.1.2.2.2⟩
end Go.Proofs.YtdhfabjkpffhnaaDoor

