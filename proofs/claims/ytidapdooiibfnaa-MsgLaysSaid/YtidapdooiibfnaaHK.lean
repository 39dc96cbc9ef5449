/- Joined: CmdRefPut, CmdCopy, CmdOpen, MsgKit, MsgRefList. -/
import Derived.Test.YtidapdooiibfnaaHG
import Derived.Test.YtidapdooiibfnaaHJ
import Derived.Lib.SlBytesConst
import Derived.ChangeArms
import Derived.ChangeSlices
import Derived.Laws.IdiomArrays
import Derived.SizedLaws
import Derived.Test.YtidapdooiibfnaaHH
import Derived.Test.YtidapdooiibfnaaHF
/- The bytes of an entry: the reference's. -/
namespace Go.Proofs.Ytidapdooiibfnaa
set_option maxRecDepth 20000
open Go.RowKit BinMath CmdMath Reg

set_option maxHeartbeats 4000000 in
set_option maxRecDepth 100000 in
theorem refput_1 (t c s : Nat) (d : List UInt8) (m : List Nat) (a b : Option Addr) (ca cb : Nat) (w : World) (he : Has w ⟨t, 1, c, s, d, m⟩ a ca b cb) (hf : formed ⟨t, 1, c, s, d, m⟩ = true) :
    Calls Try.prog 23 #[.agg (entC ⟨t, 1, c, s, d, m⟩ a ca b cb)] w fun r w' => ∃ v, r = .returned (.tuple #[v, .int .i64 0]) ∧ Row w' w.heap.size v (putL ⟨t, 1, c, s, d, m⟩) ∧ Below w.heap.size w w' := by
  have b1 : Below w.heap.size w (w.alloc (.cells (entC ⟨t, 1, c, s, d, m⟩ a ca b cb) 42)) := (Below.refl _ _).alloc (Nat.le_refl _) _
  have hF := refFormed_any ⟨t, 1, c, s, d, m⟩ a b ca cb _ (he.below (Nat.le_refl _) b1)
  rw [hf] at hF
  obtain ⟨nd, hnd⟩ : ∃ nd, nd = d.length := ⟨_, rfl⟩
  obtain ⟨nm, hnm⟩ : ∃ nm, nm = m.length := ⟨_, rfl⟩
  have HOk := Lib.hid he.ok
  simp only [entC] at hF b1 ⊢
  rw [← hnd, ← hnm] at hF b1 ⊢
  have HF := Lib.hid hF
  have HB1 := Lib.hid b1
  clear he hf hF b1 hnd hnm
  go_enter Try.func23, Try.ntmps23
  go_wp2_with fail
  refine HF.out.mono ?_
  rintro r w2 ⟨rfl, hb⟩
  have EB := (Blk.new w 42 #[.int .u64 (t : Int), .int .i64 1, .int .u64 (c : Int), .int .u64 (s : Int), .slice a nd ca, .slice b nm cb]).keep hb
  obtain ⟨g, hg⟩ : ∃ g, g = w.heap.size := ⟨_, rfl⟩
  have HG := Lib.hid hg
  have HB2 : Hid (Below g w w2) := by rw [hg]; exact HB1.out.trans (hb.mono HB1.out.size)
  have hgw : g ≤ w2.heap.size := by rw [hg]; exact Nat.le_trans HB1.out.size hb.size
  clear hb HF
  rw [← hg] at EB
  have ht64 := HOk.out.t
  clear hg
  go_upto_region 3 with fail
  rw [← HG.out]
  have hG : ∀ W W' : World, Below w2.heap.size w2 W → Below W.heap.size W W' → Below w2.heap.size w2 W' := fun W W' hW hb => hW.trans (hb.mono hW.size)
  refine region_tails_by 7 [(9, .is (.pointer (some ⟨g, 0, none⟩))), (10, .is (.int .u64 (t : Int))), (11, .row w2.heap.size (numL t)), (12, .is (.pointer (some ⟨g, 1, none⟩))), (13, .is (.int .i64 1)), (14, .is (bv 1)), (15, .bys [1])] [1, 11, 15] (fun W => Below w2.heap.size w2 W) (by kernel_rfl) (by kernel_rfl) (by kernel_rfl) (by kernel_rfl) (by kernel_rfl) (by decide) (by kernel_rfl) (by kernel_rfl) ((Below.refl _ _).drew) ?_ ?_
  · refine ⟨?c0, ?c1, ?c2, ?c3, ?c4, ?c5, ?c6, trivial⟩
    case c0 => exact ask_field (guard_none rfl) _ (.tmp 1) 0 (.pointer (some ⟨g, 0, none⟩)) (.pointer (some ⟨g, 0, none⟩)) rfl rfl (by intro k hk; cases hk; rfl) (fun W => by kernel_rfl)
    case c1 => exact ask_load (guard_none rfl) _ (.tmp 9) (.pointer (some ⟨g, 0, none⟩)) (.int .u64 (t : Int)) rfl rfl (by intro k hk; cases hk; rfl) (fun W hW => load_num W _ _ (by rw [hW.cell (p := ⟨g, 0, none⟩) EB.lt, EB.cell]; rfl))
    case c2 => exact ask_call hG (guard_none rfl) _ _ _ #[.int .u64 (t : Int)] (.row w2.heap.size (numL t)) rfl (by kernel_rfl) rfl rfl (by intro k hk; cases hk; rfl) (fun W hW => (refnum_any t W ht64).mono fun e w' h => by obtain ⟨v, h1, h2, h3⟩ := h; exact ⟨v, h1, row_low h2 hW.size, h3⟩)
    case c3 => exact ask_field (guard_none rfl) _ (.tmp 1) 1 (.pointer (some ⟨g, 0, none⟩)) (.pointer (some ⟨g, 1, none⟩)) rfl rfl (by intro k hk; cases hk; rfl) (fun W => by kernel_rfl)
    case c4 => exact ask_load (guard_none rfl) _ (.tmp 12) (.pointer (some ⟨g, 1, none⟩)) (.int .i64 1) rfl rfl (by intro k hk; cases hk; rfl) (fun W hW => load_int W _ _ (by rw [hW.cell (p := ⟨g, 1, none⟩) EB.lt, EB.cell]; rfl))
    case c5 => exact ask_exec (guard_none rfl) (bv 1) rfl rfl (by intro k hk; cases hk; rfl) (fun W hW => by kernel_rfl)
    case c6 => exact ask_build_one hG (guard_none rfl) (.tmp 14) 1 rfl rfl (by intro k hk; cases hk; rfl)
  intro af w3 hW hd' hs' hf'
  have t1 : af.tmps.getD 1 undef = (.pointer (some ⟨g, 0, none⟩)) := hf' 1 rfl
  have h4 : Row w3 w2.heap.size (af.tmps.getD 11 undef) (numL t) := hf' 11 rfl
  have h6 : Bys w3 (af.tmps.getD 15 undef) [1] := hf' 15 rfl
  obtain ⟨us, hus, haf⟩ := act_open 61 af hs' hd'
  rw [← hus] at t1 h4 h6
  have el : ((List.range 61).map us).toArray = #[us 0, us 1, us 2, us 3, us 4, us 5, us 6, us 7, us 8, us 9, us 10, us 11, us 12, us 13, us 14, us 15, us 16, us 17, us 18, us 19, us 20, us 21, us 22, us 23, us 24, us 25, us 26, us 27, us 28, us 29, us 30, us 31, us 32, us 33, us 34, us 35, us 36, us 37, us 38, us 39, us 40, us 41, us 42, us 43, us 44, us 45, us 46, us 47, us 48, us 49, us 50, us 51, us 52, us 53, us 54, us 55, us 56, us 57, us 58, us 59, us 60] := rfl
  rw [el] at haf
  subst haf
  rw [t1]
  have A4 := append_bys (B := g) (Nat.le_trans hgw hW.size) (row_low h4 hgw) h6 (by have := numL_le t ht64; simp only [List.length_cons, List.length_nil]; omega)
  have HR3 := Lib.hid (row_low h4 hgw)
  have EBw := EB.keep hW
  have HA4 := Lib.hid A4
  have HBw := Lib.hid (HB2.out.trans (hW.mono hgw))
  have hgw3 : g ≤ w3.heap.size := Nat.le_trans hgw hW.size
  obtain ⟨va, hva⟩ : ∃ va, va = us 11 := ⟨_, rfl⟩
  obtain ⟨vb, hvb⟩ : ∃ vb, vb = us 15 := ⟨_, rfl⟩
  rw [← hva, ← hvb] at HA4 ⊢
  rw [← hva] at HR3
  clear hus t1 el hf' hs' hd' hW h4 h6 hG EB hgw HB2 hva hvb A4
  simp only [List.drop_succ_cons, List.drop_zero]
  go_wp2_with (at_builtin; refine wpList_append_by rfl _ _ 25 rfl _ _ rfl rfl _ HA4.out ?_; rintro v4 w4 ⟨hr, hgr⟩; (have EB3 := EBw.grown HR3.out (by decide) hgr); (have k1 : w4.cell? ⟨g, 1, none⟩ = some (.int .i64 1) := by rw [EB3.cell]; rfl); (have hg3 : g ≤ w4.heap.size := Nat.le_trans hgw3 hgr.size); (have HR4 := Lib.hid hr); (have HB3 := Lib.hid (HBw.out.grown hgr hgw3 fun k hk => (World.ownsRow.lt HR3.out k hk).1)); clear hr hgr)
  rw [putL_one, ← HG.out]
  exact bodyPost_ret (v := .tuple #[v4, .int .i64 0]) (by simp [results, Try.results23, go_sem]) rfl ⟨_, rfl, HR4.out, HB3.out⟩

set_option maxHeartbeats 4000000 in
set_option maxRecDepth 100000 in
theorem refput_2 (t c s : Nat) (d : List UInt8) (m : List Nat) (a b : Option Addr) (ca cb : Nat) (w : World) (he : Has w ⟨t, 2, c, s, d, m⟩ a ca b cb) (hf : formed ⟨t, 2, c, s, d, m⟩ = true) :
    Calls Try.prog 23 #[.agg (entC ⟨t, 2, c, s, d, m⟩ a ca b cb)] w fun r w' => ∃ v, r = .returned (.tuple #[v, .int .i64 0]) ∧ Row w' w.heap.size v (putL ⟨t, 2, c, s, d, m⟩) ∧ Below w.heap.size w w' := by
  have b1 : Below w.heap.size w (w.alloc (.cells (entC ⟨t, 2, c, s, d, m⟩ a ca b cb) 42)) := (Below.refl _ _).alloc (Nat.le_refl _) _
  have hF := refFormed_any ⟨t, 2, c, s, d, m⟩ a b ca cb _ (he.below (Nat.le_refl _) b1)
  rw [hf] at hF
  obtain ⟨nd, hnd⟩ : ∃ nd, nd = d.length := ⟨_, rfl⟩
  obtain ⟨nm, hnm⟩ : ∃ nm, nm = m.length := ⟨_, rfl⟩
  have hdl := he.dl
  have HOk := Lib.hid he.ok
  have HD := Lib.hid he.d
  have h64 := formed_len hf
  have HND := Lib.hid hnd
  simp only [entC] at hF b1 hdl ⊢
  rw [← hnd, ← hnm] at hF b1 ⊢
  have HF := Lib.hid hF
  have HB1 := Lib.hid b1
  clear he hf hF b1 hnd hnm
  go_enter Try.func23, Try.ntmps23
  go_wp2_with fail
  refine HF.out.mono ?_
  rintro r w2 ⟨rfl, hb⟩
  have EB := (Blk.new w 42 #[.int .u64 (t : Int), .int .i64 2, .int .u64 (c : Int), .int .u64 (s : Int), .slice a nd ca, .slice b nm cb]).keep hb
  obtain ⟨g, hg⟩ : ∃ g, g = w.heap.size := ⟨_, rfl⟩
  have HG := Lib.hid hg
  have HB2 : Hid (Below g w w2) := by rw [hg]; exact HB1.out.trans (hb.mono HB1.out.size)
  have hgw : g ≤ w2.heap.size := by rw [hg]; exact Nat.le_trans HB1.out.size hb.size
  clear hb HF
  rw [← hg] at EB
  have ht64 := HOk.out.t
  clear hg
  go_upto_region 3 with fail
  rw [← HG.out]
  have hG : ∀ W W' : World, Below w2.heap.size w2 W → Below W.heap.size W W' → Below w2.heap.size w2 W' := fun W W' hW hb => hW.trans (hb.mono hW.size)
  refine region_tails_by 7 [(9, .is (.pointer (some ⟨g, 0, none⟩))), (10, .is (.int .u64 (t : Int))), (11, .row w2.heap.size (numL t)), (12, .is (.pointer (some ⟨g, 1, none⟩))), (13, .is (.int .i64 2)), (14, .is (bv 2)), (15, .bys [2])] [1, 11, 15] (fun W => Below w2.heap.size w2 W) (by kernel_rfl) (by kernel_rfl) (by kernel_rfl) (by kernel_rfl) (by kernel_rfl) (by decide) (by kernel_rfl) (by kernel_rfl) ((Below.refl _ _).drew) ?_ ?_
  · refine ⟨?c0, ?c1, ?c2, ?c3, ?c4, ?c5, ?c6, trivial⟩
    case c0 => exact ask_field (guard_none rfl) _ (.tmp 1) 0 (.pointer (some ⟨g, 0, none⟩)) (.pointer (some ⟨g, 0, none⟩)) rfl rfl (by intro k hk; cases hk; rfl) (fun W => by kernel_rfl)
    case c1 => exact ask_load (guard_none rfl) _ (.tmp 9) (.pointer (some ⟨g, 0, none⟩)) (.int .u64 (t : Int)) rfl rfl (by intro k hk; cases hk; rfl) (fun W hW => load_num W _ _ (by rw [hW.cell (p := ⟨g, 0, none⟩) EB.lt, EB.cell]; rfl))
    case c2 => exact ask_call hG (guard_none rfl) _ _ _ #[.int .u64 (t : Int)] (.row w2.heap.size (numL t)) rfl (by kernel_rfl) rfl rfl (by intro k hk; cases hk; rfl) (fun W hW => (refnum_any t W ht64).mono fun e w' h => by obtain ⟨v, h1, h2, h3⟩ := h; exact ⟨v, h1, row_low h2 hW.size, h3⟩)
    case c3 => exact ask_field (guard_none rfl) _ (.tmp 1) 1 (.pointer (some ⟨g, 0, none⟩)) (.pointer (some ⟨g, 1, none⟩)) rfl rfl (by intro k hk; cases hk; rfl) (fun W => by kernel_rfl)
    case c4 => exact ask_load (guard_none rfl) _ (.tmp 12) (.pointer (some ⟨g, 1, none⟩)) (.int .i64 2) rfl rfl (by intro k hk; cases hk; rfl) (fun W hW => load_int W _ _ (by rw [hW.cell (p := ⟨g, 1, none⟩) EB.lt, EB.cell]; rfl))
    case c5 => exact ask_exec (guard_none rfl) (bv 2) rfl rfl (by intro k hk; cases hk; rfl) (fun W hW => by kernel_rfl)
    case c6 => exact ask_build_one hG (guard_none rfl) (.tmp 14) 2 rfl rfl (by intro k hk; cases hk; rfl)
  intro af w3 hW hd' hs' hf'
  have t1 : af.tmps.getD 1 undef = (.pointer (some ⟨g, 0, none⟩)) := hf' 1 rfl
  have h4 : Row w3 w2.heap.size (af.tmps.getD 11 undef) (numL t) := hf' 11 rfl
  have h6 : Bys w3 (af.tmps.getD 15 undef) [2] := hf' 15 rfl
  obtain ⟨us, hus, haf⟩ := act_open 61 af hs' hd'
  rw [← hus] at t1 h4 h6
  have el : ((List.range 61).map us).toArray = #[us 0, us 1, us 2, us 3, us 4, us 5, us 6, us 7, us 8, us 9, us 10, us 11, us 12, us 13, us 14, us 15, us 16, us 17, us 18, us 19, us 20, us 21, us 22, us 23, us 24, us 25, us 26, us 27, us 28, us 29, us 30, us 31, us 32, us 33, us 34, us 35, us 36, us 37, us 38, us 39, us 40, us 41, us 42, us 43, us 44, us 45, us 46, us 47, us 48, us 49, us 50, us 51, us 52, us 53, us 54, us 55, us 56, us 57, us 58, us 59, us 60] := rfl
  rw [el] at haf
  subst haf
  rw [t1]
  have A4 := append_bys (B := g) (Nat.le_trans hgw hW.size) (row_low h4 hgw) h6 (by have := numL_le t ht64; simp only [List.length_cons, List.length_nil]; omega)
  have HR3 := Lib.hid (row_low h4 hgw)
  have EBw := EB.keep hW
  have HA4 := Lib.hid A4
  have HBw := Lib.hid (HB2.out.trans (hW.mono hgw))
  have hgw3 : g ≤ w3.heap.size := Nat.le_trans hgw hW.size
  obtain ⟨va, hva⟩ : ∃ va, va = us 11 := ⟨_, rfl⟩
  obtain ⟨vb, hvb⟩ : ∃ vb, vb = us 15 := ⟨_, rfl⟩
  rw [← hva, ← hvb] at HA4 ⊢
  rw [← hva] at HR3
  clear hus t1 el hf' hs' hd' hW h4 h6 hG EB hgw HB2 hva hvb A4
  simp only [List.drop_succ_cons, List.drop_zero]
  go_wp2_with (at_builtin; refine wpList_append_by rfl _ _ 25 rfl _ _ rfl rfl _ HA4.out ?_; rintro v4 w4 ⟨hr, hgr⟩; (have EB3 := EBw.grown HR3.out (by decide) hgr); (have k1 : w4.cell? ⟨g, 1, none⟩ = some (.int .i64 2) := by rw [EB3.cell]; rfl); (have k2 : w4.cell? ⟨g, 2, none⟩ = some (.int .u64 (c : Int)) := by rw [EB3.cell]; rfl); (have hg3 : g ≤ w4.heap.size := Nat.le_trans hgw3 hgr.size); (have HR4 := Lib.hid hr); (have HB3 := Lib.hid (HBw.out.grown hgr hgw3 fun k hk => (World.ownsRow.lt HR3.out k hk).1)); clear hr hgr)
  have hc64 := HOk.out.c
  have hs64 := HOk.out.s
  have h1 := numL_le t ht64
  have h2 := numL_le c hc64
  have h3 := numL_le s hs64
  have h4 := numL_le d.length (by omega)
  refine (refnum_any c _ hc64).mono ?_
  rintro r wa0 ⟨u0, rfl, hr, hb⟩
  have EBa0 := EB3.keep hb
  have A0 := append_bys (B := g) (Nat.le_trans (Nat.le_trans (Nat.le_of_eq HG.out) HB3.out.size) hb.size) (HR4.out.below hb) hr.bys (by simp only [List.length_append, List.length_cons, List.length_nil]; omega)
  have HA0 := Lib.hid A0
  have HRa0 := Lib.hid (HR4.out.below hb)
  have HBa0 := Lib.hid (HB3.out.trans (hb.mono (Nat.le_trans (Nat.le_of_eq HG.out) HB3.out.size)))
  clear hr hb A0 k2 
  go_wp2_with (at_builtin; refine wpList_append_by rfl _ _ 25 rfl _ _ rfl rfl _ HA0.out ?_; rintro v5 wb0 ⟨hr, hgr⟩; (have EBb0 := EBa0.grown HRa0.out (by decide) hgr); (have k3 : wb0.cell? ⟨g, 3, none⟩ = some (.int .u64 (s : Int)) := by rw [EBb0.cell]; rfl); (have HRb0 := Lib.hid hr); (have HBb0 := Lib.hid (HBa0.out.grown hgr (Nat.le_trans (Nat.le_of_eq HG.out) HBa0.out.size) fun k hk => (World.ownsRow.lt HRa0.out k hk).1)); clear hr hgr)
  refine (refnum_any s _ hs64).mono ?_
  rintro r wa1 ⟨u1, rfl, hr, hb⟩
  have EBa1 := EBb0.keep hb
  have A1 := append_bys (B := g) (Nat.le_trans (Nat.le_trans (Nat.le_of_eq HG.out) HBb0.out.size) hb.size) (HRb0.out.below hb) hr.bys (by simp only [List.length_append, List.length_cons, List.length_nil]; omega)
  have HA1 := Lib.hid A1
  have HRa1 := Lib.hid (HRb0.out.below hb)
  have HBa1 := Lib.hid (HBb0.out.trans (hb.mono (Nat.le_trans (Nat.le_of_eq HG.out) HBb0.out.size)))
  clear hr hb A1 k3 
  go_wp2_with (at_builtin; refine wpList_append_by rfl _ _ 25 rfl _ _ rfl rfl _ HA1.out ?_; rintro v6 wb1 ⟨hr, hgr⟩; (have EBb1 := EBa1.grown HRa1.out (by decide) hgr); (have k4 : wb1.cell? ⟨g, 4, none⟩ = some (.slice a nd ca) := by rw [EBb1.cell]; rfl); (have HRb1 := Lib.hid hr); (have HBb1 := Lib.hid (HBa1.out.grown hgr (Nat.le_trans (Nat.le_of_eq HG.out) HBa1.out.size) fun k hk => (World.ownsRow.lt HRa1.out k hk).1)); clear hr hgr)
  have HDx : Hid (Bys wb1 (.slice a nd ca) d) := Lib.hid (by
    rw [HND.out]
    exact HD.out.below (Nat.le_refl _) (HBb1.out.mono (Nat.le_of_eq HG.out.symm)))
  refine (refraw_any _ d _ HDx.out hdl).mono ?_
  rintro r wa2 ⟨u2, rfl, hr, hb⟩
  have EBa2 := EBb1.keep hb
  have A2 := append_bys (B := g) (Nat.le_trans (Nat.le_trans (Nat.le_of_eq HG.out) HBb1.out.size) hb.size) (HRb1.out.below hb) hr.bys (by simp only [rawL, List.length_append, List.length_cons, List.length_nil]; omega)
  have HA2 := Lib.hid A2
  have HRa2 := Lib.hid (HRb1.out.below hb)
  have HBa2 := Lib.hid (HBb1.out.trans (hb.mono (Nat.le_trans (Nat.le_of_eq HG.out) HBb1.out.size)))
  clear hr hb A2 k4 
  go_wp2_with (at_builtin; refine wpList_append_by rfl _ _ 25 rfl _ _ rfl rfl _ HA2.out ?_; rintro v7 wb2 ⟨hr, hgr⟩; (have EBb2 := EBa2.grown HRa2.out (by decide) hgr); (have k5 : wb2.cell? ⟨g, 1, none⟩ = some (.int .i64 2) := by rw [EBb2.cell]; rfl); (have HRb2 := Lib.hid hr); (have HBb2 := Lib.hid (HBa2.out.grown hgr (Nat.le_trans (Nat.le_of_eq HG.out) HBa2.out.size) fun k hk => (World.ownsRow.lt HRa2.out k hk).1)); clear hr hgr)
  rw [putL_two, ← HG.out]
  have e : [numL t ++ [2], numL c, numL s, rawL d].flatten = numL t ++ [2] ++ numL c ++ numL s ++ rawL d := by simp
  rw [e]
  exact bodyPost_ret (v := .tuple #[v7, .int .i64 0]) (by simp [results, Try.results23, go_sem]) rfl ⟨_, rfl, HRb2.out, HBb2.out⟩

set_option maxHeartbeats 4000000 in
set_option maxRecDepth 100000 in
theorem refput_3 (t c s : Nat) (d : List UInt8) (m : List Nat) (a b : Option Addr) (ca cb : Nat) (w : World) (he : Has w ⟨t, 3, c, s, d, m⟩ a ca b cb) (hf : formed ⟨t, 3, c, s, d, m⟩ = true) :
    Calls Try.prog 23 #[.agg (entC ⟨t, 3, c, s, d, m⟩ a ca b cb)] w fun r w' => ∃ v, r = .returned (.tuple #[v, .int .i64 0]) ∧ Row w' w.heap.size v (putL ⟨t, 3, c, s, d, m⟩) ∧ Below w.heap.size w w' := by
  have b1 : Below w.heap.size w (w.alloc (.cells (entC ⟨t, 3, c, s, d, m⟩ a ca b cb) 42)) := (Below.refl _ _).alloc (Nat.le_refl _) _
  have hF := refFormed_any ⟨t, 3, c, s, d, m⟩ a b ca cb _ (he.below (Nat.le_refl _) b1)
  rw [hf] at hF
  obtain ⟨nd, hnd⟩ : ∃ nd, nd = d.length := ⟨_, rfl⟩
  obtain ⟨nm, hnm⟩ : ∃ nm, nm = m.length := ⟨_, rfl⟩
  have hml := he.ml
  have HOk := Lib.hid he.ok
  have HM := Lib.hid he.m
  have h7 := formed_mem hf
  have HNM := Lib.hid hnm
  simp only [entC] at hF b1 hml ⊢
  rw [← hnd, ← hnm] at hF b1 ⊢
  have HF := Lib.hid hF
  have HB1 := Lib.hid b1
  clear he hf hF b1 hnd hnm
  go_enter Try.func23, Try.ntmps23
  go_wp2_with fail
  refine HF.out.mono ?_
  rintro r w2 ⟨rfl, hb⟩
  have EB := (Blk.new w 42 #[.int .u64 (t : Int), .int .i64 3, .int .u64 (c : Int), .int .u64 (s : Int), .slice a nd ca, .slice b nm cb]).keep hb
  obtain ⟨g, hg⟩ : ∃ g, g = w.heap.size := ⟨_, rfl⟩
  have HG := Lib.hid hg
  have HB2 : Hid (Below g w w2) := by rw [hg]; exact HB1.out.trans (hb.mono HB1.out.size)
  have hgw : g ≤ w2.heap.size := by rw [hg]; exact Nat.le_trans HB1.out.size hb.size
  clear hb HF
  rw [← hg] at EB
  have ht64 := HOk.out.t
  clear hg
  go_upto_region 3 with fail
  rw [← HG.out]
  have hG : ∀ W W' : World, Below w2.heap.size w2 W → Below W.heap.size W W' → Below w2.heap.size w2 W' := fun W W' hW hb => hW.trans (hb.mono hW.size)
  refine region_tails_by 7 [(9, .is (.pointer (some ⟨g, 0, none⟩))), (10, .is (.int .u64 (t : Int))), (11, .row w2.heap.size (numL t)), (12, .is (.pointer (some ⟨g, 1, none⟩))), (13, .is (.int .i64 3)), (14, .is (bv 3)), (15, .bys [3])] [1, 11, 15] (fun W => Below w2.heap.size w2 W) (by kernel_rfl) (by kernel_rfl) (by kernel_rfl) (by kernel_rfl) (by kernel_rfl) (by decide) (by kernel_rfl) (by kernel_rfl) ((Below.refl _ _).drew) ?_ ?_
  · refine ⟨?c0, ?c1, ?c2, ?c3, ?c4, ?c5, ?c6, trivial⟩
    case c0 => exact ask_field (guard_none rfl) _ (.tmp 1) 0 (.pointer (some ⟨g, 0, none⟩)) (.pointer (some ⟨g, 0, none⟩)) rfl rfl (by intro k hk; cases hk; rfl) (fun W => by kernel_rfl)
    case c1 => exact ask_load (guard_none rfl) _ (.tmp 9) (.pointer (some ⟨g, 0, none⟩)) (.int .u64 (t : Int)) rfl rfl (by intro k hk; cases hk; rfl) (fun W hW => load_num W _ _ (by rw [hW.cell (p := ⟨g, 0, none⟩) EB.lt, EB.cell]; rfl))
    case c2 => exact ask_call hG (guard_none rfl) _ _ _ #[.int .u64 (t : Int)] (.row w2.heap.size (numL t)) rfl (by kernel_rfl) rfl rfl (by intro k hk; cases hk; rfl) (fun W hW => (refnum_any t W ht64).mono fun e w' h => by obtain ⟨v, h1, h2, h3⟩ := h; exact ⟨v, h1, row_low h2 hW.size, h3⟩)
    case c3 => exact ask_field (guard_none rfl) _ (.tmp 1) 1 (.pointer (some ⟨g, 0, none⟩)) (.pointer (some ⟨g, 1, none⟩)) rfl rfl (by intro k hk; cases hk; rfl) (fun W => by kernel_rfl)
    case c4 => exact ask_load (guard_none rfl) _ (.tmp 12) (.pointer (some ⟨g, 1, none⟩)) (.int .i64 3) rfl rfl (by intro k hk; cases hk; rfl) (fun W hW => load_int W _ _ (by rw [hW.cell (p := ⟨g, 1, none⟩) EB.lt, EB.cell]; rfl))
    case c5 => exact ask_exec (guard_none rfl) (bv 3) rfl rfl (by intro k hk; cases hk; rfl) (fun W hW => by kernel_rfl)
    case c6 => exact ask_build_one hG (guard_none rfl) (.tmp 14) 3 rfl rfl (by intro k hk; cases hk; rfl)
  intro af w3 hW hd' hs' hf'
  have t1 : af.tmps.getD 1 undef = (.pointer (some ⟨g, 0, none⟩)) := hf' 1 rfl
  have h4 : Row w3 w2.heap.size (af.tmps.getD 11 undef) (numL t) := hf' 11 rfl
  have h6 : Bys w3 (af.tmps.getD 15 undef) [3] := hf' 15 rfl
  obtain ⟨us, hus, haf⟩ := act_open 61 af hs' hd'
  rw [← hus] at t1 h4 h6
  have el : ((List.range 61).map us).toArray = #[us 0, us 1, us 2, us 3, us 4, us 5, us 6, us 7, us 8, us 9, us 10, us 11, us 12, us 13, us 14, us 15, us 16, us 17, us 18, us 19, us 20, us 21, us 22, us 23, us 24, us 25, us 26, us 27, us 28, us 29, us 30, us 31, us 32, us 33, us 34, us 35, us 36, us 37, us 38, us 39, us 40, us 41, us 42, us 43, us 44, us 45, us 46, us 47, us 48, us 49, us 50, us 51, us 52, us 53, us 54, us 55, us 56, us 57, us 58, us 59, us 60] := rfl
  rw [el] at haf
  subst haf
  rw [t1]
  have A4 := append_bys (B := g) (Nat.le_trans hgw hW.size) (row_low h4 hgw) h6 (by have := numL_le t ht64; simp only [List.length_cons, List.length_nil]; omega)
  have HR3 := Lib.hid (row_low h4 hgw)
  have EBw := EB.keep hW
  have HA4 := Lib.hid A4
  have HBw := Lib.hid (HB2.out.trans (hW.mono hgw))
  have hgw3 : g ≤ w3.heap.size := Nat.le_trans hgw hW.size
  obtain ⟨va, hva⟩ : ∃ va, va = us 11 := ⟨_, rfl⟩
  obtain ⟨vb, hvb⟩ : ∃ vb, vb = us 15 := ⟨_, rfl⟩
  rw [← hva, ← hvb] at HA4 ⊢
  rw [← hva] at HR3
  clear hus t1 el hf' hs' hd' hW h4 h6 hG EB hgw HB2 hva hvb A4
  have h7' : nm ≤ 7 := by rw [HNM.out]; exact h7
  have hcv := conv_len nm (by omega)
  simp only [List.drop_succ_cons, List.drop_zero]
  go_wp2_with (at_builtin; refine wpList_append_by rfl _ _ 25 rfl _ _ rfl rfl _ HA4.out ?_; rintro v4 w4 ⟨hr, hgr⟩; (have EB3 := EBw.grown HR3.out (by decide) hgr); (have k1 : w4.cell? ⟨g, 1, none⟩ = some (.int .i64 3) := by rw [EB3.cell]; rfl); (have k5 : w4.cell? ⟨g, 5, none⟩ = some (.slice b nm cb) := by rw [EB3.cell]; rfl); (have hg3 : g ≤ w4.heap.size := Nat.le_trans hgw3 hgr.size); (have HR4 := Lib.hid hr); (have HB3 := Lib.hid (HBw.out.grown hgr hgw3 fun k hk => (World.ownsRow.lt HR3.out k hk).1)); clear hr hgr)
  have h1 := numL_le t ht64
  have h2 := numL_le nm (by omega)
  have HM2 := Lib.hid HM.out.at
  have HMl := Lib.hid HOk.out.m
  have HI := Lib.hid (fun i => idsL_take_len m i HMl.out h7)
  clear HM
  refine (refnum_any nm _ (by omega)).mono ?_
  rintro r wa ⟨u0, rfl, hr, hb⟩
  have EBa := EB3.keep hb
  have A0 := append_bys (B := g) (Nat.le_trans hg3 hb.size) (HR4.out.below hb) hr.bys (by simp only [List.length_append, List.length_cons, List.length_nil]; omega)
  have HA0 := Lib.hid A0
  have HRa := Lib.hid (HR4.out.below hb)
  have HBa := Lib.hid (HB3.out.trans (hb.mono hg3))
  clear hr hb A0 k5 k1
  go_wp2_with (at_builtin; refine wpList_append_by rfl _ _ 25 rfl _ _ rfl rfl _ HA0.out ?_; rintro v5 wb ⟨hr, hgr⟩; (have EBb := EBa.grown HRa.out (by decide) hgr); (have k5 : wb.cell? ⟨g, 5, none⟩ = some (.slice b nm cb) := by rw [EBb.cell]; rfl); (have k1 : wb.cell? ⟨g, 1, none⟩ = some (.int .i64 3) := by rw [EBb.cell]; rfl); (have HRb := Lib.hid hr); (have HBb := Lib.hid (HBa.out.grown hgr (Nat.le_trans (Nat.le_of_eq HG.out) HBa.out.size) fun k hk => (World.ownsRow.lt HRa.out k hk).1)); clear hr hgr)
  clear k5 k1
  go_loopw [4, 5] (fun s4 s5 wr => ∃ i : Nat, i ≤ nm ∧ s5 = .int .i64 (i : Int) ∧ Row wr g s4 (numL t ++ [3] ++ numL nm ++ idsL (m.take i)) ∧ Below g w wr ∧ Blk wr g 42 #[.int .u64 (t : Int), .int .i64 3, .int .u64 (c : Int), .int .u64 (s : Int), .slice a nd ca, .slice b nm cb]) (fun _ s5 _ => nm - (intOf s5).toNat)
  case atStart => exact ⟨0, by omega, rfl, by simpa [idsL] using HRb.out, HBb.out, EBb⟩
  case round =>
    obtain ⟨i, hi, rfl, hrow, hbw, ebw⟩ := hrel
    have k5 : wr.cell? ⟨g, 5, none⟩ = some (.slice b nm cb) := by rw [ebw.cell]; rfl
    by_cases hlt : i < nm
    · have hil : i < m.length := by have := HNM.out; omega
      obtain ⟨ad, rfl, hc⟩ := HM2.out.2.2 i hil
      have hst := idsL_step m i hil
      have hy := HMl.out m[i] (List.getElem_mem _)
      obtain ⟨y, hye⟩ : ∃ y, y = m[i] := ⟨_, rfl⟩
      rw [← hye] at hc hst hy
      have hc1 : wr.cell? (ad.add i) = some (.int .u64 (y : Int)) := by rw [hbw.cell (p := ad.add i) (by rw [HG.out]; exact World.block_lt_of_cell? w _ hc)]; exact hc
      have HST := Lib.hid hst
      have HRw := Lib.hid hrow
      have HBw := Lib.hid hbw
      have hil2 := HI.out i
      have hy9 := numL_le y hy
      clear hst hye hil hrow hbw hc
      go_wp2_with fail
      refine (refnum_any y _ hy).mono ?_
      rintro r wc ⟨u1, rfl, hr, hb⟩
      have A1 := append_bys (B := g) (Nat.le_trans (Nat.le_trans (Nat.le_of_eq HG.out) HBw.out.size) hb.size) (HRw.out.below hb) hr.bys (by simp only [List.length_append, List.length_cons, List.length_nil]; omega)
      have HA1 := Lib.hid A1
      have HRc := Lib.hid (HRw.out.below hb)
      have HBc := Lib.hid (HBw.out.trans (hb.mono (Nat.le_trans (Nat.le_of_eq HG.out) HBw.out.size)))
      have EBc := ebw.keep hb
      clear hr hb A1 hc1 k5
      go_wp2_with (at_builtin; refine wpList_append_by rfl _ _ 25 rfl _ _ rfl rfl _ HA1.out ?_; rintro v6 wd ⟨hr, hgr⟩; (have HRd := Lib.hid hr); (have EBd := EBc.grown HRc.out (by decide) hgr); (have HBd := Lib.hid (HBc.out.grown hgr (Nat.le_trans (Nat.le_of_eq HG.out) HBc.out.size) fun k hk => (World.ownsRow.lt HRc.out k hk).1)); clear hr hgr)
      go_round
      case rel => exact ⟨i + 1, by omega, by go_num, by rw [HST.out, ← List.append_assoc]; exact HRd.out, HBd.out, EBd⟩
      case measure => simp [intOf]; omega
    · have e : m.take i = m := List.take_of_length_le (by have := HNM.out; omega)
      rw [e] at hrow
      have HRw := Lib.hid hrow
      have HBw := Lib.hid hbw
      clear hrow hbw
      go_wp2
      rw [putL_three, ← HNM.out, ← HG.out]
      exact bodyPost_ret (v := .tuple #[_, .int .i64 0]) (by simp [results, Try.results23, go_sem]) rfl ⟨_, rfl, HRw.out, HBw.out⟩

theorem refput_yes (e : Ent) (a b : Option Addr) (ca cb : Nat) (w : World) (he : Has w e a ca b cb) (hf : formed e = true) :
    Calls Try.prog 23 #[.agg (entC e a ca b cb)] w fun r w' => ∃ v, r = .returned (.tuple #[v, .int .i64 0]) ∧ Row w' w.heap.size v (putL e) ∧ Below w.heap.size w w' := by
  obtain ⟨t, k, c, s, d, m⟩ := e
  by_cases k1 : k = 1
  · subst k1; exact refput_1 t c s d m a b ca cb w he hf
  · by_cases k2 : k = 2
    · subst k2; exact refput_2 t c s d m a b ca cb w he hf
    · by_cases k3 : k = 3
      · subst k3; exact refput_3 t c s d m a b ca cb w he hf
      · rw [formed_none k1 k2 k3] at hf
        cases hf

end Go.Proofs.Ytidapdooiibfnaa

/- copied and awake. -/
namespace Go.Proofs.Ytidapdooiibfnaa
set_option maxRecDepth 20000
open Go.RowKit BinMath CmdMath

theorem cells_nums {w : World} {ad : Addr} {l : List Nat} (hc : ∀ i (h : i < l.length), w.cell? (ad.add i) = some (.int .u64 (l[i] : Int))) : ∀ (j : Nat) (u : Value), (l.map uv)[j]? = some u → w.cell? (ad.add j) = some u := by
  intro j u h
  have hj : j < l.length := by have := (List.getElem?_eq_some_iff.1 h).1; simpa using this
  rw [hc j hj]
  simpa [hj, uv] using h

/-- append([]uint64{}, x...): nothing that was there is written. -/
theorem append_num_lit {w : World} {B g : Nat} {x : Value} {l : List Nat} (hB : B ≤ g) (hg : w.heap[g]? = some (.cells #[] 22 (0, 0))) (hx : Nums w x l) (hlen : l.length ≤ 17592186043904) :
    ∃ v' w', (Builtin.append_ #[24, 24] 24 #[.slice (some ⟨g, 0, none⟩) 0 0, x]).run Try.prog w = .ok v' w' ∧ NRow w' B v' l ∧ Below w.heap.size w w' := by
  obtain ⟨i0, hi, hz0, hz1, hz2⟩ := info_parts info_num
  have hlt : g < w.heap.size := (Array.getElem?_eq_some_iff.1 hg).1
  have hrow : w.ownsRow B 22 1 (.slice (some ⟨g, 0, none⟩) 0 0) 0 [] := ⟨rfl, .inr ⟨g, 0, #[], rfl, hB, hg, Nat.le_refl _, by unfold maxLen; omega, rfl, rfl⟩⟩
  rcases hx with ⟨rfl, rfl⟩ | ⟨ad, cap, rfl, -, hc⟩
  · exact ⟨_, w, run_append_owned_none (P := Try.prog) (w := w) B _ _ _ i0 1 Try.underlying24 hi _ 0 [] hrow, hrow, Below.refl _ _⟩
  · by_cases hl : l = []
    · subst hl
      have hr := run_append_room (P := Try.prog) w 24 24 22 i0 Try.underlying24 hi g 0 0 #[] hg ad 0 cap [] (by simp) (by simp) (by simp) (by omega) (by simp)
      refine ⟨_, _, hr, ?_, ⟨rfl, rfl, rfl, by simp, fun k hk => ?_⟩⟩
      · refine ⟨rfl, .inr ⟨g, 0, #[], rfl, hB, ?_, Nat.le_refl _, by unfold maxLen; omega, rfl, rfl⟩⟩
        simpa using setRow_heap w g #[] _ 22 _ hg
      · by_cases hkg : k = g
        · subst hkg
          rw [hg]
          simpa using setRow_heap w k #[] _ 22 _ hg
        · exact setRow_other w g k _ hkg
    · have hpos : 0 < l.length := List.length_pos_iff.2 hl
      have hr := run_append_grow (P := Try.prog) w 24 24 22 i0 (.int .u64 0) Try.underlying24 hi hz0 ⟨g, 0, none⟩ 0 0 [] (by simp) (by simp) ad l.length cap (l.map uv) (by simp [hz1]) (cells_nums hc) (by omega) (by omega) (growslice_fits (by omega) (by rw [hz2]; omega))
      refine ⟨_, _, hr, ?_, (Below.refl _ _).drew.alloc (Nat.le_refl _) _⟩
      have hge := grownCap_ge w (0 + l.length) 0 22
      have hge' := grownCap_ge w l.length 0 22
      have hle := grownCap_le_maxLen w (0 + l.length) 0 22 (by unfold maxLen; omega)
      refine ⟨by simp, .inr ⟨w.heap.size, _, _, by rw [Nat.zero_add], by omega, heap_alloc_new w.drew _, by omega, hle, ?_, ?_⟩⟩
      · simp [size_zeroCells]
        simp [Value.cells]
        omega
      · simp

theorem get_is {a : Option Addr} {len cap : Nat} {l : List UInt8} {x : Ent} {c : Nat} {w : World} (hr : getR l = (x, c)) (hx : Bys w (.slice a len cap) l) (hl : l.length ≤ 140737488351232) :
    Calls Try.prog 97 #[.slice a len cap] w fun e w' => ∃ a' ca b' cb, e = .returned (.tuple #[.agg (entC x a' ca b' cb), .int .i64 (c : Int)]) ∧ Mine w' w.heap.size x a' ca b' cb ∧ Below w.heap.size w w' := by
  have h := get_any a len cap l w hx hl
  unfold GetEnd at h
  rw [hr] at h
  exact h

theorem refget_is {a : Option Addr} {len cap : Nat} {l : List UInt8} {x : Ent} {c : Nat} {w : World} (hr : getR l = (x, c)) (hx : Bys w (.slice a len cap) l) (hl : l.length ≤ 140737488351232) (hlc : len ≤ cap) :
    Calls Try.prog 38 #[.slice a len cap] w fun e w' => ∃ a' ca b' cb, e = .returned (.tuple #[.agg (entC x a' ca b' cb), .int .i64 (c : Int)]) ∧ Mine w' w.heap.size x a' ca b' cb ∧ Below w.heap.size w w' := by
  have h := refget_any a len cap l w hx hl hlc
  unfold GetEnd at h
  rw [hr] at h
  exact h

theorem same_self (e : Ent) (a b a' b' : Option Addr) (ca cb ca' cb' : Nat) (w : World) (he : Has w e a ca b cb) (hf : Has w e a' ca' b' cb') :
    Calls Try.prog 42 #[.agg (entC e a ca b cb), .agg (entC e a' ca' b' cb')] w fun r w' => r = .returned (.bool true) ∧ Below w.heap.size w w' := by
  have h := same_any e e a b a' b' ca cb ca' cb' w he hf
  rwa [decide_eq_true (rfl : e = e)] at h

end Go.Proofs.Ytidapdooiibfnaa

/- An entry that came in. -/
namespace Go.Proofs.Ytidapdooiibfnaa
set_option maxRecDepth 20000
open Go.RowKit Go.ChangeShapes BinMath CmdMath

theorem six_cells (l : List Value) (h : l.length = 6) : ∃ a b c d e f, l = [a, b, c, d, e, f] := by
  match l, h with
  | [a, b, c, d, e, f], _ => exact ⟨a, b, c, d, e, f, rfl⟩

theorem u64_nat (n : Int) (h : (Lit.int .u64 n).wf = true) : ∃ k : Nat, n = k ∧ k < 18446744073709551616 := by
  have := bounds_u64 h
  exact ⟨n.toNat, by omega, by omega⟩

theorem ent_open {H : Type} {enc : TypeId × Value → H} {W : World} {fuel : Nat} {cs : List Value} {x : DataW H × List MemPlace}
    (h : DataW.trod enc Try.prog W 0 (fun _ => true) true fuel 42 cs = some x) :
    ∃ (e : Ent) (a : Option Addr) (ca : Nat) (b : Option Addr) (cb : Nat), cs = (entC e a ca b cb).toList ∧ e.Ok ∧ Bys W (.slice a e.d.length ca) e.d ∧ Nums W (.slice b e.m.length cb) e.m ∧
      ((x.1.weights Try.prog 42).all (· ≤ reachBytes) = true → e.d.length ≤ 140737488351232 ∧ e.m.length ≤ 17592186043904) := by
  obtain ⟨xs, n', -, hx, hlen, hxl, hfld⟩ := DataW.trod_struct Try.underlying42 h
  have f0 : DataW.trod enc Try.prog W 0 (fun _ => true) true n' 22 ((cs.drop 0).take (Try.prog.cellsOf 22)) = xs[0]? := hfld 0 _ rfl
  have f1 : DataW.trod enc Try.prog W 0 (fun _ => true) true n' 3 ((cs.drop 1).take (Try.prog.cellsOf 3)) = xs[1]? := hfld 1 _ rfl
  have f2 : DataW.trod enc Try.prog W 0 (fun _ => true) true n' 22 ((cs.drop 2).take (Try.prog.cellsOf 22)) = xs[2]? := hfld 2 _ rfl
  have f3 : DataW.trod enc Try.prog W 0 (fun _ => true) true n' 22 ((cs.drop 3).take (Try.prog.cellsOf 22)) = xs[3]? := hfld 3 _ rfl
  have f4 : DataW.trod enc Try.prog W 0 (fun _ => true) true n' 25 ((cs.drop 4).take (Try.prog.cellsOf 25)) = xs[4]? := hfld 4 _ rfl
  have f5 : DataW.trod enc Try.prog W 0 (fun _ => true) true n' 24 ((cs.drop 5).take (Try.prog.cellsOf 24)) = xs[5]? := hfld 5 _ rfl
  have c0 : Try.prog.cellsOf 22 = 1 := by kernel_rfl
  have c1 : Try.prog.cellsOf 3 = 1 := by kernel_rfl
  have c4 : Try.prog.cellsOf 25 = 1 := by kernel_rfl
  have c5 : Try.prog.cellsOf 24 = 1 := by kernel_rfl
  have cr : Try.prog.cellsOf 42 = 6 := by kernel_rfl
  rw [cr] at hlen
  rw [c0] at f0 f2 f3
  rw [c1] at f1
  rw [c4] at f4
  rw [c5] at f5
  obtain ⟨u0, u1, u2, u3, u4, u5, rfl⟩ := six_cells cs hlen
  have l6 : xs.length = 6 := hxl
  rw [List.getElem?_eq_getElem (by omega)] at f0 f1 f2 f3 f4 f5
  obtain ⟨k0, e0, -, w0⟩ := DataW.trod_int Try.underlying22 f0
  obtain ⟨k1, e1, -, w1⟩ := DataW.trod_int Try.underlying3 f1
  obtain ⟨k2, e2, -, w2⟩ := DataW.trod_int Try.underlying22 f2
  obtain ⟨k3, e3, -, w3⟩ := DataW.trod_int Try.underlying22 f3
  simp at e0 e1 e2 e3
  obtain ⟨t, rfl, ht⟩ := u64_nat k0 w0
  have hk := bounds_i64 w1
  obtain ⟨c, rfl, hc⟩ := u64_nat k2 w2
  obtain ⟨s, rfl, hs⟩ := u64_nat k3 w3
  subst e0 e1 e2 e3
  have hw : (x.1.weights Try.prog 42).all (· ≤ reachBytes) = true → (DataW.weightsEach Try.prog [22, 3, 22, 22, 25, 24] (xs.map (·.1))).all (· ≤ reachBytes) = true := by
    rw [hx]
    simp only [DataW.weights, Try.underlying42]
    exact fun h => h
  obtain ⟨A, C, d, g4, hdl, hby⟩ : ∃ A C, ∃ d : List UInt8, u4 = .slice A d.length C ∧ ((x.1.weights Try.prog 42).all (· ≤ reachBytes) = true → d.length ≤ 140737488351232) ∧ Bys W (.slice A d.length C) d := by
    obtain ⟨y, hy⟩ : ∃ y, y = xs[4] := ⟨_, rfl⟩
    rw [← hy] at f4
    obtain ⟨yd, yp⟩ := y
    have f4' : DataW.trod enc Try.prog W 0 (fun _ => true) true n' 25 [u4] = some (yd, yp) := f4
    rcases open_ints Try.underlying25 Try.underlying5 (by kernel_rfl) f4' with ⟨hcs, _⟩ | ⟨x', l', c', zs, hcs, _, hl', hm', hz', hx', hcell', hwz'⟩
    · simp at hcs
      subst hcs
      exact ⟨none, 0, [], rfl, by simp, .inl ⟨rfl, rfl⟩⟩
    · simp at hcs
      subst hcs
      simp only [if_true] at hz'
      obtain ⟨d, hd, hbd⟩ := IsRow.bys (w := W) (a := some x') (len := l') (cap := c') (zs := zs) (.inr ⟨_, rfl, hl', hm', hz', hcell', hwz'⟩)
      subst hd
      refine ⟨some x', c', d, rfl, fun hh => ?_, hbd⟩
      have hyd : yd = _ := (Prod.mk.inj hx').1
      have hs4 := sized_slice (hw hh) (j := 4) (t := 25) (e := 5) (elems := lits .u8 (zs.take d.length)) (spare := lits .u8 (zs.drop d.length)) rfl
        (by rw [List.getElem?_map, List.getElem?_eq_getElem (by omega), ← hy, ← hyd]; rfl) Try.underlying25
      have hb : Try.prog.bytesOf 5 = 1 := by kernel_rfl
      rw [hb] at hs4
      simp only [lits, List.length_map, List.length_take, List.length_drop, reachBytes] at hs4
      omega
  obtain ⟨B, E, m, g5, hml, hmb, hnu⟩ : ∃ A C, ∃ m : List Nat, u5 = .slice A m.length C ∧ ((x.1.weights Try.prog 42).all (· ≤ reachBytes) = true → m.length ≤ 17592186043904) ∧ (∀ y ∈ m, y < 18446744073709551616) ∧ Nums W (.slice A m.length C) m := by
    obtain ⟨y, hy⟩ : ∃ y, y = xs[5] := ⟨_, rfl⟩
    rw [← hy] at f5
    obtain ⟨yd, yp⟩ := y
    have f5' : DataW.trod enc Try.prog W 0 (fun _ => true) true n' 24 [u5] = some (yd, yp) := f5
    rcases open_ints Try.underlying24 Try.underlying22 (by kernel_rfl) f5' with ⟨hcs, _⟩ | ⟨x', l', c', zs, hcs, _, hl', hm', hz', hx', hcell', hwz'⟩
    · simp at hcs
      subst hcs
      exact ⟨none, 0, [], rfl, by simp, by simp, .inl ⟨rfl, rfl⟩⟩
    · simp at hcs
      subst hcs
      simp only [if_true] at hz'
      obtain ⟨m, hm, hmb, hbm⟩ := IsRow.nums (w := W) (a := some x') (len := l') (cap := c') (zs := zs) (.inr ⟨_, rfl, hl', hm', hz', hcell', hwz'⟩)
      subst hm
      refine ⟨some x', c', m, rfl, fun hh => ?_, hmb, hbm⟩
      have hyd : yd = _ := (Prod.mk.inj hx').1
      have hs5 := sized_slice (hw hh) (j := 5) (t := 24) (e := 22) (elems := lits .u64 (zs.take m.length)) (spare := lits .u64 (zs.drop m.length)) rfl
        (by rw [List.getElem?_map, List.getElem?_eq_getElem (by omega), ← hy, ← hyd]; rfl) Try.underlying24
      have hb : Try.prog.bytesOf 22 = 8 := by kernel_rfl
      rw [hb] at hs5
      simp only [lits, List.length_map, List.length_take, List.length_drop, reachBytes] at hs5
      omega
  subst g4 g5
  exact ⟨⟨t, k1, c, s, d, m⟩, A, C, B, E, rfl, ⟨ht, hk.1, Int.lt_of_le_of_lt hk.2 (by decide), hc, hs, hmb⟩, hby, hnu, fun hh => ⟨hdl hh, hml hh⟩⟩

end Go.Proofs.Ytidapdooiibfnaa

/- A message in memory: its twelve fields; an entry of a list, loaded. -/
namespace Go.Proofs.Ytidapdooiibfnaa
set_option maxRecDepth 20000
open Go.RowKit Go.Maps
open CmdMath (Ent)
open MsgMath (Mg)

/-- The twelve fields. -/
def mgC (m : Mg) (ve vm vg : Value) : Array Value :=
  #[.int .i64 m.k, .int .u64 (m.f : Int), .int .u64 (m.o : Int), .int .u64 (m.t : Int), .int .u64 (m.i : Int), .int .u64 (m.l : Int), .int .u64 (m.c : Int), .int .u64 (m.s : Int), .bool m.y, ve, vm, vg]

/-- What a message's fields lead to, and their ranges. -/
structure MHas (w : World) (m : Mg) (ve vm vg : Value) (us : List EE) : Prop where
  ok : m.Ok
  els : Els w ve us
  all : HasAll w us
  ents : us.map EE.e = m.e
  ms : Nums w vm m.m
  gs : Bys w vg m.g
  ul : us.length ≤ 140737488351232
  ml : m.m.length ≤ 140737488351232
  gl : m.g.length ≤ 140737488351232

theorem MHas.below {w w' : World} {m : Mg} {ve vm vg : Value} {us : List EE} (h : MHas w m ve vm vg us) {B : Nat} (hB : w.heap.size ≤ B) (hb : Below B w w') : MHas w' m ve vm vg us :=
  ⟨h.ok, h.els.below hB hb, h.all.below hB hb, h.ents, h.ms.below hB hb, h.gs.below hB hb, h.ul, h.ml, h.gl⟩

theorem MHas.el {w : World} {m : Mg} {ve vm vg : Value} {us : List EE} (h : MHas w m ve vm vg us) : us.length = m.e.length := by rw [← h.ents, List.length_map]

/-- No message: all fields are zero. -/
theorem MHas.zero (w : World) : MHas w Mg.zero (.slice none 0 0) (.slice none 0 0) (.slice none 0 0) [] :=
  ⟨MsgMath.Mg.Ok.zero, .inl ⟨rfl, rfl⟩, fun u hu => absurd hu List.not_mem_nil, rfl, .inl ⟨rfl, rfl⟩, .inl ⟨rfl, rfl⟩, by simp, by simp [Mg.zero], by simp [Mg.zero]⟩

def zeroM : Array Value := mgC Mg.zero (.slice none 0 0) (.slice none 0 0) (.slice none 0 0)

end Go.Proofs.Ytidapdooiibfnaa

/- Layer 12's reference: lists of entries. -/
namespace Go.Proofs.Ytidapdooiibfnaa
set_option maxRecDepth 20000
open Go.RowKit BinMath CmdMath

/-- Lists of entries that are one up to i. -/
def entsTo (a b : List EE) (i : Nat) : Prop := (a.take i).map EE.e = (b.take i).map EE.e

theorem entsTo_next {a b : List EE} {i : Nat} {x y : EE} (h : entsTo a b i) (hx : a[i]? = some x) (hy : b[i]? = some y) (he : x.e = y.e) : entsTo a b (i + 1) := by
  unfold entsTo at *
  obtain ⟨h1, h2⟩ := List.getElem?_eq_some_iff.1 hx
  obtain ⟨h3, h4⟩ := List.getElem?_eq_some_iff.1 hy
  rw [List.take_succ_eq_append_getElem h1, List.take_succ_eq_append_getElem h3, List.map_append, List.map_append, h, h2, h4]
  simp [he]

theorem ask_indexM {P : Program} {ops : Array Oper} {tab : List (List Nat)} {fin : List Tmp} {K : World → Prop} {f : Tmp → Fact} {i : Nat} {o : Oper} (hg : guardOk ops f o) (ty : TypeId) (s t : Operand) (v x c : Value) (ho : o.op = .indexAddr ty s t) (hs : opFact f s = .is v) (ht : opFact f t = .is x)
    (hd : ∀ k, o.dst = some k → f k = .is c) (hr : ∀ W, (Instr.indexAt ty v x).run P W = .ok c W) : Asked P ops tab fin K f i o := by
  refine ask_val hg c hd fun y W _ hk => ?_
  have e1 := evalBy_opVal hk s (by rw [ho]; simp [Op.operands]) hs
  have e2 := evalBy_opVal hk t (by rw [ho]; simp [Op.operands]) ht
  simp only [execOp, ho, e1, e2, Sem.run_bind, hr W, Result.andThen_ok, Sem.run_pure]

theorem ix_ent (W : World) (ad : Addr) (n c i : Nat) (hi : i < n) : (Instr.indexAt 23 (.slice (some ad) n c) (.int .i64 (i : Int))).run Try.prog W = .ok (.pointer (some (ad.add (i * 6)))) W := by
  have he : Try.prog.elem 23 = 42 := by kernel_rfl
  have hs : (Go.sizeOf 42).run Try.prog W = .ok 6 W := by kernel_rfl
  have ht : Try.prog.underlying 23 = some (.slice (Try.prog.elem 23)) := by rw [he]; exact Try.underlying23
  rw [run_indexAt_slice (h := ht), if_pos (by omega), he, hs]
  simp [Result.andThen]

def ListAt (us vs : List EE) (w : World) (s5 : Value) (wr : World) : Prop :=
  ∃ i, i ≤ us.length ∧ s5 = .int .i64 ((i : Nat) : Int) ∧ entsTo us vs i ∧ Below w.heap.size w wr

set_option maxHeartbeats 2000000 in
theorem refList_any (va vb : Value) (us vs : List EE) (w : World) (ha : Els w va us) (hb : Els w vb vs) (hha : HasAll w us) (hhb : HasAll w vs) (hl : us.length ≤ 140737488351232) :
    Calls Try.prog 28 #[va, vb] w fun r w' => r = .returned (.bool (decide (us.map EE.e = vs.map EE.e))) ∧ Below w.heap.size w w' := by
  obtain ⟨a, ca, rfl⟩ := ha.form
  obtain ⟨b, cb, rfl⟩ := hb.form
  obtain ⟨n, hn⟩ : ∃ n, n = us.length := ⟨_, rfl⟩
  by_cases hlen : us.length = vs.length
  · have hm : n = vs.length := by omega
    rw [← hn] at ha hl
    rw [← hm] at hb
    rw [← hn, ← hm]
    have HA := Lib.hid ha
    have HB := Lib.hid hb
    have HHA := Lib.hid hha
    have HHB := Lib.hid hhb
    have HN := Lib.hid hn
    have HM := Lib.hid hm
    have HStart := Lib.hid (show ListAt us vs w (.int .i64 0) w from ⟨0, Nat.zero_le _, rfl, rfl, Below.refl _ _⟩)
    clear ha hb hha hhb hn hm hlen
    go_enter Try.func28, Try.ntmps28
    go_wp2
    go_loopw [5] (fun s5 wr => ListAt us vs w s5 wr) (fun s5 _ => n - (intOf s5).toNat)
    case atStart => exact HStart.out
    case round =>
      obtain ⟨i, hi, rfl, he, hbw⟩ := hrel
      have hin : i ≤ n := by have := HN.out; omega
      have HBw := Lib.hid hbw
      have HE := Lib.hid he
      clear hi he hbw HStart
      by_cases hlt : i < n
      · obtain ⟨x, hx⟩ : ∃ x, us[i]? = some x := ⟨us[i]'(by have := HN.out; omega), List.getElem?_eq_getElem _⟩
        obtain ⟨y, hy⟩ : ∃ y, vs[i]? = some y := ⟨vs[i]'(by have := HM.out; omega), List.getElem?_eq_getElem _⟩
        obtain ⟨ad, rfl, hca⟩ := (HA.out.below (Nat.le_refl _) HBw.out).load hx
        obtain ⟨bd, rfl, hcb⟩ := (HB.out.below (Nat.le_refl _) HBw.out).load hy
        have LX := Lib.hid (fun W (hW : Below wr.heap.size wr W) => load_ent W (ad.add (i * 6)) x fun j v hj => by
          have h1 := hca j v hj
          rw [hW.cell (p := (ad.add (i * 6)).add j) (World.block_lt_of_cell? wr _ h1)]
          exact h1)
        have LY := Lib.hid (fun W (hW : Below wr.heap.size wr W) => load_ent W (bd.add (i * 6)) y fun j v hj => by
          have h1 := hcb j v hj
          rw [hW.cell (p := (bd.add (i * 6)).add j) (World.block_lt_of_cell? wr _ h1)]
          exact h1)
        have EX := Lib.hid ((HHA.out x (List.mem_of_getElem? hx)).below (Nat.le_refl _) HBw.out)
        have EY := Lib.hid ((HHB.out y (List.mem_of_getElem? hy)).below (Nat.le_refl _) HBw.out)
        have HX := Lib.hid hx
        have HY := Lib.hid hy
        clear hca hcb hx hy
        have IXA := Lib.hid (fun W => ix_ent W ad n ca i hlt)
        have IXB := Lib.hid (fun W => ix_ent W bd n cb i hlt)
        have hG : ∀ W W' : World, Below wr.heap.size wr W → Below W.heap.size W W' → Below wr.heap.size wr W' := fun W W' hW hb => hW.trans (hb.mono hW.size)
        by_cases hxy : x.e = y.e
        · have HC : Hid (∀ W, Below wr.heap.size wr W → Calls Try.prog 53 #[.agg (entC x.e x.a x.ca x.b x.cb), .agg (entC y.e y.a y.ca y.b y.cb)] W fun r w' => r = .returned (.bool true) ∧ Below W.heap.size W w') := Lib.hid fun W hW => by
            have h := refSame_any x.e y.e x.a x.b y.a y.b x.ca x.cb y.ca y.cb W (EX.out.below (Nat.le_refl _) hW) (EY.out.below (Nat.le_refl _) hW)
            rwa [decide_eq_true hxy] at h
          have HNext := Lib.hid (fun W (hW : Below w.heap.size w W) => (⟨i + 1, by have := HN.out; omega, rfl, entsTo_next HE.out HX.out HY.out hxy, hW⟩ : ListAt us vs w (.int .i64 ((i + 1 : Nat) : Int)) W))
          clear hxy EX EY HX HY
          go_upto_region 6 with fail
          refine region_by [(17, .is (.slice (some ad) n ca)), (18, .is (.int .i64 (i : Int))), (19, .is (.pointer (some (ad.add (i * 6))))), (20, .is (.agg (entC x.e x.a x.ca x.b x.cb))), (21, .is (.slice (some bd) n cb)), (22, .is (.int .i64 (i : Int))), (23, .is (.pointer (some (bd.add (i * 6))))), (24, .is (.agg (entC y.e y.a y.ca y.b y.cb))), (25, .is (.bool true)), (26, .is (.bool false))] [0, 1, 2, 3, 4, 5, 6, 7, 8, 9, 10, 26] (fun W => Below wr.heap.size wr W) (by kernel_rfl) (by kernel_rfl) (by kernel_rfl) (by kernel_rfl) (by kernel_rfl) ((Below.refl _ _).drew) ?_ ?_
          · refine ⟨?c0, ?c1, ?c2, ?c3, ?c4, ?c5, ?c6, ?c7, ?c8, ?c9, trivial⟩
            case c0 => exact ask_copy (guard_none rfl) (.tmp 0) (.inl rfl) (by intro k hk; cases hk; rfl)
            case c1 => exact ask_copy (guard_none rfl) (.tmp 5) (.inl rfl) (by intro k hk; cases hk; rfl)
            case c2 => exact ask_indexM (guard_none rfl) _ (.tmp 17) (.tmp 18) _ _ (.pointer (some (ad.add (i * 6)))) rfl rfl rfl (by intro k hk; cases hk; rfl) IXA.out
            case c3 => exact ask_load (guard_none rfl) _ (.tmp 19) (.pointer (some (ad.add (i * 6)))) (.agg (entC x.e x.a x.ca x.b x.cb)) rfl rfl (by intro k hk; cases hk; rfl) (fun W hW => LX.out W hW)
            case c4 => exact ask_copy (guard_none rfl) (.tmp 1) (.inl rfl) (by intro k hk; cases hk; rfl)
            case c5 => exact ask_copy (guard_none rfl) (.tmp 5) (.inl rfl) (by intro k hk; cases hk; rfl)
            case c6 => exact ask_indexM (guard_none rfl) _ (.tmp 21) (.tmp 22) _ _ (.pointer (some (bd.add (i * 6)))) rfl rfl rfl (by intro k hk; cases hk; rfl) IXB.out
            case c7 => exact ask_load (guard_none rfl) _ (.tmp 23) (.pointer (some (bd.add (i * 6)))) (.agg (entC y.e y.a y.ca y.b y.cb)) rfl rfl (by intro k hk; cases hk; rfl) (fun W hW => LY.out W hW)
            case c8 => exact ask_call hG (guard_none rfl) _ _ _ #[.agg (entC x.e x.a x.ca x.b x.cb), .agg (entC y.e y.a y.ca y.b y.cb)] (.is (.bool true)) rfl (by kernel_rfl) rfl rfl (by intro k hk; cases hk; rfl) (fun W hW => (HC.out W hW).mono fun e w' h => ⟨_, h.1, rfl, h.2⟩)
            case c9 => exact ask_exec (guard_none rfl) (.bool false) rfl rfl (by intro k hk; cases hk; rfl) (fun W hW => by kernel_rfl)
          · intro af wq hW hd' hs' hf'
            have t0 : af.tmps.getD 0 undef = .slice (some ad) n ca := hf' 0 rfl
            have t1 : af.tmps.getD 1 undef = .slice (some bd) n cb := hf' 1 rfl
            have t2 : af.tmps.getD 2 undef = undef := hf' 2 rfl
            have t3 : af.tmps.getD 3 undef = undef := hf' 3 rfl
            have t4 : af.tmps.getD 4 undef = u4 := hf' 4 rfl
            have t5 : af.tmps.getD 5 undef = .int .i64 (i : Int) := hf' 5 rfl
            have t6 : af.tmps.getD 6 undef = .slice (some ad) n ca := hf' 6 rfl
            have t7 : af.tmps.getD 7 undef = .int .i64 (n : Int) := hf' 7 rfl
            have t8 : af.tmps.getD 8 undef = .slice (some bd) n cb := hf' 8 rfl
            have t9 : af.tmps.getD 9 undef = .int .i64 (n : Int) := hf' 9 rfl
            have t10 : af.tmps.getD 10 undef = .bool false := hf' 10 rfl
            have t26 : af.tmps.getD 26 undef = .bool false := hf' 26 rfl
            obtain ⟨us, hus, haf⟩ := act_open 27 af hs' hd'
            rw [← hus] at t0 t1 t2 t3 t4 t5 t6 t7 t8 t9 t10 t26
            have el : ((List.range 27).map us).toArray = #[us 0, us 1, us 2, us 3, us 4, us 5, us 6, us 7, us 8, us 9, us 10, us 11, us 12, us 13, us 14, us 15, us 16, us 17, us 18, us 19, us 20, us 21, us 22, us 23, us 24, us 25, us 26] := rfl
            rw [el] at haf
            subst haf
            rw [t0, t1, t2, t3, t4, t5, t6, t7, t8, t9, t10, t26]
            have HQ := Lib.hid hW
            clear hus t0 t1 t2 t3 t4 t5 t6 t7 t8 t9 t10 t26 el hf' hs' hd' hW
            go_wp2
            go_roundw
            case rel => exact HNext.out _ (HBw.out.trans (HQ.out.mono HBw.out.size))
            case measure => simp [intOf]; omega
        · have HC : Hid (∀ W, Below wr.heap.size wr W → Calls Try.prog 53 #[.agg (entC x.e x.a x.ca x.b x.cb), .agg (entC y.e y.a y.ca y.b y.cb)] W fun r w' => r = .returned (.bool false) ∧ Below W.heap.size W w') := Lib.hid fun W hW => by
            have h := refSame_any x.e y.e x.a x.b y.a y.b x.ca x.cb y.ca y.cb W (EX.out.below (Nat.le_refl _) hW) (EY.out.below (Nat.le_refl _) hW)
            rwa [decide_eq_false hxy] at h
          have HF := Lib.hid (show us.map EE.e ≠ vs.map EE.e from fun h => hxy (by
            have h1 : (us.map EE.e)[i]? = some x.e := by rw [List.getElem?_map, HX.out]; rfl
            have h2 : (vs.map EE.e)[i]? = some y.e := by rw [List.getElem?_map, HY.out]; rfl
            rw [h, h2] at h1
            exact (Option.some.inj h1).symm))
          clear hxy EX EY HX HY
          go_upto_region 6 with fail
          refine region_by [(17, .is (.slice (some ad) n ca)), (18, .is (.int .i64 (i : Int))), (19, .is (.pointer (some (ad.add (i * 6))))), (20, .is (.agg (entC x.e x.a x.ca x.b x.cb))), (21, .is (.slice (some bd) n cb)), (22, .is (.int .i64 (i : Int))), (23, .is (.pointer (some (bd.add (i * 6))))), (24, .is (.agg (entC y.e y.a y.ca y.b y.cb))), (25, .is (.bool false)), (26, .is (.bool true))] [0, 1, 2, 3, 4, 5, 6, 7, 8, 9, 10, 26] (fun W => Below wr.heap.size wr W) (by kernel_rfl) (by kernel_rfl) (by kernel_rfl) (by kernel_rfl) (by kernel_rfl) ((Below.refl _ _).drew) ?_ ?_
          · refine ⟨?c0, ?c1, ?c2, ?c3, ?c4, ?c5, ?c6, ?c7, ?c8, ?c9, trivial⟩
            case c0 => exact ask_copy (guard_none rfl) (.tmp 0) (.inl rfl) (by intro k hk; cases hk; rfl)
            case c1 => exact ask_copy (guard_none rfl) (.tmp 5) (.inl rfl) (by intro k hk; cases hk; rfl)
            case c2 => exact ask_indexM (guard_none rfl) _ (.tmp 17) (.tmp 18) _ _ (.pointer (some (ad.add (i * 6)))) rfl rfl rfl (by intro k hk; cases hk; rfl) IXA.out
            case c3 => exact ask_load (guard_none rfl) _ (.tmp 19) (.pointer (some (ad.add (i * 6)))) (.agg (entC x.e x.a x.ca x.b x.cb)) rfl rfl (by intro k hk; cases hk; rfl) (fun W hW => LX.out W hW)
            case c4 => exact ask_copy (guard_none rfl) (.tmp 1) (.inl rfl) (by intro k hk; cases hk; rfl)
            case c5 => exact ask_copy (guard_none rfl) (.tmp 5) (.inl rfl) (by intro k hk; cases hk; rfl)
            case c6 => exact ask_indexM (guard_none rfl) _ (.tmp 21) (.tmp 22) _ _ (.pointer (some (bd.add (i * 6)))) rfl rfl rfl (by intro k hk; cases hk; rfl) IXB.out
            case c7 => exact ask_load (guard_none rfl) _ (.tmp 23) (.pointer (some (bd.add (i * 6)))) (.agg (entC y.e y.a y.ca y.b y.cb)) rfl rfl (by intro k hk; cases hk; rfl) (fun W hW => LY.out W hW)
            case c8 => exact ask_call hG (guard_none rfl) _ _ _ #[.agg (entC x.e x.a x.ca x.b x.cb), .agg (entC y.e y.a y.ca y.b y.cb)] (.is (.bool false)) rfl (by kernel_rfl) rfl rfl (by intro k hk; cases hk; rfl) (fun W hW => (HC.out W hW).mono fun e w' h => ⟨_, h.1, rfl, h.2⟩)
            case c9 => exact ask_exec (guard_none rfl) (.bool true) rfl rfl (by intro k hk; cases hk; rfl) (fun W hW => by kernel_rfl)
          · intro af wq hW hd' hs' hf'
            have t0 : af.tmps.getD 0 undef = .slice (some ad) n ca := hf' 0 rfl
            have t1 : af.tmps.getD 1 undef = .slice (some bd) n cb := hf' 1 rfl
            have t2 : af.tmps.getD 2 undef = undef := hf' 2 rfl
            have t3 : af.tmps.getD 3 undef = undef := hf' 3 rfl
            have t4 : af.tmps.getD 4 undef = u4 := hf' 4 rfl
            have t5 : af.tmps.getD 5 undef = .int .i64 (i : Int) := hf' 5 rfl
            have t6 : af.tmps.getD 6 undef = .slice (some ad) n ca := hf' 6 rfl
            have t7 : af.tmps.getD 7 undef = .int .i64 (n : Int) := hf' 7 rfl
            have t8 : af.tmps.getD 8 undef = .slice (some bd) n cb := hf' 8 rfl
            have t9 : af.tmps.getD 9 undef = .int .i64 (n : Int) := hf' 9 rfl
            have t10 : af.tmps.getD 10 undef = .bool false := hf' 10 rfl
            have t26 : af.tmps.getD 26 undef = .bool true := hf' 26 rfl
            obtain ⟨us, hus, haf⟩ := act_open 27 af hs' hd'
            rw [← hus] at t0 t1 t2 t3 t4 t5 t6 t7 t8 t9 t10 t26
            have el : ((List.range 27).map us).toArray = #[us 0, us 1, us 2, us 3, us 4, us 5, us 6, us 7, us 8, us 9, us 10, us 11, us 12, us 13, us 14, us 15, us 16, us 17, us 18, us 19, us 20, us 21, us 22, us 23, us 24, us 25, us 26] := rfl
            rw [el] at haf
            subst haf
            rw [t0, t1, t2, t3, t4, t5, t6, t7, t8, t9, t10, t26]
            have HQ := Lib.hid hW
            clear hus t0 t1 t2 t3 t4 t5 t6 t7 t8 t9 t10 t26 el hf' hs' hd' hW
            go_wp2
            go_ret
            exact ⟨by rw [decide_eq_false HF.out]; rfl, HBw.out.trans (HQ.out.mono HBw.out.size)⟩
      · obtain rfl : i = n := by omega
        have HF := Lib.hid (show us.map EE.e = vs.map EE.e by
          have h := HE.out
          unfold entsTo at h
          rw [List.take_of_length_le (by have := HN.out; omega), List.take_of_length_le (by have := HM.out; omega)] at h
          exact h)
        go_wp2
        go_ret
        exact ⟨by rw [decide_eq_true HF.out]; rfl, HBw.out⟩
  · have hq : ((us.length : Int) != (vs.length : Int)) = true := by simp; omega
    have hne : us.map EE.e ≠ vs.map EE.e := fun e => hlen (by simpa using congrArg List.length e)
    rw [decide_eq_false hne]
    obtain ⟨m, hm⟩ : ∃ m, m = vs.length := ⟨_, rfl⟩
    rw [← hn, ← hm] at hq
    rw [← hn, ← hm]
    clear ha hb hha hhb hn hm hlen hne hl
    go_enter Try.func28, Try.ntmps28
    go_wp2
    go_ret
    exact ⟨rfl, Below.refl _ _⟩
end Go.Proofs.Ytidapdooiibfnaa

