/- The bytes of an entry: the reference's. -/
import Derived.Test.YtleoiklcddkgdaaCmdPut
namespace Go.Proofs.Ytleoiklcddkgdaa
open Go.RowKit BinMath CmdMath Reg

set_option maxHeartbeats 4000000 in
set_option maxRecDepth 100000 in
theorem refput_1 (t c s : Nat) (d : List UInt8) (m : List Nat) (a b : Option Addr) (ca cb : Nat) (w : World) (he : Has w ⟨t, 1, c, s, d, m⟩ a ca b cb) (hf : formed ⟨t, 1, c, s, d, m⟩ = true) :
    Calls Try.prog 11 #[.agg (entC ⟨t, 1, c, s, d, m⟩ a ca b cb)] w fun r w' => ∃ v, r = .returned (.tuple #[v, .int .i64 0]) ∧ Row w' w.heap.size v (putL ⟨t, 1, c, s, d, m⟩) ∧ Below w.heap.size w w' := by
  have b1 : Below w.heap.size w (w.alloc (.cells (entC ⟨t, 1, c, s, d, m⟩ a ca b cb) 26)) := (Below.refl _ _).alloc (Nat.le_refl _) _
  have hF := refFormed_any ⟨t, 1, c, s, d, m⟩ a b ca cb _ (he.below (Nat.le_refl _) b1)
  rw [hf] at hF
  obtain ⟨nd, hnd⟩ : ∃ nd, nd = d.length := ⟨_, rfl⟩
  obtain ⟨nm, hnm⟩ : ∃ nm, nm = m.length := ⟨_, rfl⟩
  have HOk := Lib.hid he.ok
  simp only [entC] at hF b1 ⊢
  rw [← hnd, ← hnm] at hF b1 ⊢
  have HF := Lib.hid hF
  have HB1 := Lib.hid b1
  clear he hf hF b1 hnd hnm
  go_enter Try.func11, Try.ntmps11
  go_wp2_with fail
  refine HF.out.mono ?_
  rintro r w2 ⟨rfl, hb⟩
  have EB := (Blk.new w 26 #[.int .u64 (t : Int), .int .i64 1, .int .u64 (c : Int), .int .u64 (s : Int), .slice a nd ca, .slice b nm cb]).keep hb
  obtain ⟨g, hg⟩ : ∃ g, g = w.heap.size := ⟨_, rfl⟩
  have HG := Lib.hid hg
  have HB2 : Hid (Below g w w2) := by rw [hg]; exact HB1.out.trans (hb.mono HB1.out.size)
  have hgw : g ≤ w2.heap.size := by rw [hg]; exact Nat.le_trans HB1.out.size hb.size
  clear hb HF
  rw [← hg] at EB
  have ht64 := HOk.out.t
  clear hg
  go_upto_region 3 with fail
  rw [← HG.out]
  have hG : ∀ W W' : World, Below w2.heap.size w2 W → Below W.heap.size W W' → Below w2.heap.size w2 W' := fun W W' hW hb => hW.trans (hb.mono hW.size)
  refine region_tails_by 7 [(9, .is (.pointer (some ⟨g, 0, none⟩))), (10, .is (.int .u64 (t : Int))), (11, .row w2.heap.size (numL t)), (12, .is (.pointer (some ⟨g, 1, none⟩))), (13, .is (.int .i64 1)), (14, .is (bv 1)), (15, .bys [1])] [1, 11, 15] (fun W => Below w2.heap.size w2 W) (by kernel_rfl) (by kernel_rfl) (by kernel_rfl) (by kernel_rfl) (by kernel_rfl) (by decide) (by kernel_rfl) (by kernel_rfl) ((Below.refl _ _).drew) ?_ ?_
  · refine ⟨?c0, ?c1, ?c2, ?c3, ?c4, ?c5, ?c6, trivial⟩
    case c0 => exact ask_field (guard_none rfl) _ (.tmp 1) 0 (.pointer (some ⟨g, 0, none⟩)) (.pointer (some ⟨g, 0, none⟩)) rfl rfl (by intro k hk; cases hk; rfl) (fun W => by kernel_rfl)
    case c1 => exact ask_load (guard_none rfl) _ (.tmp 9) (.pointer (some ⟨g, 0, none⟩)) (.int .u64 (t : Int)) rfl rfl (by intro k hk; cases hk; rfl) (fun W hW => load_num W _ _ (by rw [hW.cell (p := ⟨g, 0, none⟩) EB.lt, EB.cell]; rfl))
    case c2 => exact ask_call hG (guard_none rfl) _ _ _ #[.int .u64 (t : Int)] (.row w2.heap.size (numL t)) rfl (by kernel_rfl) rfl rfl (by intro k hk; cases hk; rfl) (fun W hW => (refnum_any t W ht64).mono fun e w' h => by obtain ⟨v, h1, h2, h3⟩ := h; exact ⟨v, h1, row_low h2 hW.size, h3⟩)
    case c3 => exact ask_field (guard_none rfl) _ (.tmp 1) 1 (.pointer (some ⟨g, 0, none⟩)) (.pointer (some ⟨g, 1, none⟩)) rfl rfl (by intro k hk; cases hk; rfl) (fun W => by kernel_rfl)
    case c4 => exact ask_load (guard_none rfl) _ (.tmp 12) (.pointer (some ⟨g, 1, none⟩)) (.int .i64 1) rfl rfl (by intro k hk; cases hk; rfl) (fun W hW => load_int W _ _ (by rw [hW.cell (p := ⟨g, 1, none⟩) EB.lt, EB.cell]; rfl))
    case c5 => exact ask_exec (guard_none rfl) (bv 1) rfl rfl (by intro k hk; cases hk; rfl) (fun W hW => by kernel_rfl)
    case c6 => exact ask_build_one hG (guard_none rfl) (.tmp 14) 1 rfl rfl (by intro k hk; cases hk; rfl)
  intro af w3 hW hd' hs' hf'
  have t1 : af.tmps.getD 1 undef = (.pointer (some ⟨g, 0, none⟩)) := hf' 1 rfl
  have h4 : Row w3 w2.heap.size (af.tmps.getD 11 undef) (numL t) := hf' 11 rfl
  have h6 : Bys w3 (af.tmps.getD 15 undef) [1] := hf' 15 rfl
  obtain ⟨us, hus, haf⟩ := act_open 61 af hs' hd'
  rw [← hus] at t1 h4 h6
  have el : ((List.range 61).map us).toArray = #[us 0, us 1, us 2, us 3, us 4, us 5, us 6, us 7, us 8, us 9, us 10, us 11, us 12, us 13, us 14, us 15, us 16, us 17, us 18, us 19, us 20, us 21, us 22, us 23, us 24, us 25, us 26, us 27, us 28, us 29, us 30, us 31, us 32, us 33, us 34, us 35, us 36, us 37, us 38, us 39, us 40, us 41, us 42, us 43, us 44, us 45, us 46, us 47, us 48, us 49, us 50, us 51, us 52, us 53, us 54, us 55, us 56, us 57, us 58, us 59, us 60] := rfl
  rw [el] at haf
  subst haf
  rw [t1]
  have A4 := append_bys (B := g) (Nat.le_trans hgw hW.size) (row_low h4 hgw) h6 (by have := numL_le t ht64; simp only [List.length_cons, List.length_nil]; omega)
  have HR3 := Lib.hid (row_low h4 hgw)
  have EBw := EB.keep hW
  have HA4 := Lib.hid A4
  have HBw := Lib.hid (HB2.out.trans (hW.mono hgw))
  have hgw3 : g ≤ w3.heap.size := Nat.le_trans hgw hW.size
  obtain ⟨va, hva⟩ : ∃ va, va = us 11 := ⟨_, rfl⟩
  obtain ⟨vb, hvb⟩ : ∃ vb, vb = us 15 := ⟨_, rfl⟩
  rw [← hva, ← hvb] at HA4 ⊢
  rw [← hva] at HR3
  clear hus t1 el hf' hs' hd' hW h4 h6 hG EB hgw HB2 hva hvb A4
  simp only [List.drop_succ_cons, List.drop_zero]
  go_wp2_with (at_builtin; refine wpList_append_by rfl _ _ 23 rfl _ _ rfl rfl _ HA4.out ?_; rintro v4 w4 ⟨hr, hgr⟩; (have EB3 := EBw.grown HR3.out (by decide) hgr); (have k1 : w4.cell? ⟨g, 1, none⟩ = some (.int .i64 1) := by rw [EB3.cell]; rfl); (have hg3 : g ≤ w4.heap.size := Nat.le_trans hgw3 hgr.size); (have HR4 := Lib.hid hr); (have HB3 := Lib.hid (HBw.out.grown hgr hgw3 fun k hk => (World.ownsRow.lt HR3.out k hk).1)); clear hr hgr)
  rw [putL_one, ← HG.out]
  exact bodyPost_ret (v := .tuple #[v4, .int .i64 0]) (by simp [results, Try.results11, go_sem]) rfl ⟨_, rfl, HR4.out, HB3.out⟩

set_option maxHeartbeats 4000000 in
set_option maxRecDepth 100000 in
theorem refput_2 (t c s : Nat) (d : List UInt8) (m : List Nat) (a b : Option Addr) (ca cb : Nat) (w : World) (he : Has w ⟨t, 2, c, s, d, m⟩ a ca b cb) (hf : formed ⟨t, 2, c, s, d, m⟩ = true) :
    Calls Try.prog 11 #[.agg (entC ⟨t, 2, c, s, d, m⟩ a ca b cb)] w fun r w' => ∃ v, r = .returned (.tuple #[v, .int .i64 0]) ∧ Row w' w.heap.size v (putL ⟨t, 2, c, s, d, m⟩) ∧ Below w.heap.size w w' := by
  have b1 : Below w.heap.size w (w.alloc (.cells (entC ⟨t, 2, c, s, d, m⟩ a ca b cb) 26)) := (Below.refl _ _).alloc (Nat.le_refl _) _
  have hF := refFormed_any ⟨t, 2, c, s, d, m⟩ a b ca cb _ (he.below (Nat.le_refl _) b1)
  rw [hf] at hF
  obtain ⟨nd, hnd⟩ : ∃ nd, nd = d.length := ⟨_, rfl⟩
  obtain ⟨nm, hnm⟩ : ∃ nm, nm = m.length := ⟨_, rfl⟩
  have hdl := he.dl
  have HOk := Lib.hid he.ok
  have HD := Lib.hid he.d
  have h64 := formed_len hf
  have HND := Lib.hid hnd
  simp only [entC] at hF b1 hdl ⊢
  rw [← hnd, ← hnm] at hF b1 ⊢
  have HF := Lib.hid hF
  have HB1 := Lib.hid b1
  clear he hf hF b1 hnd hnm
  go_enter Try.func11, Try.ntmps11
  go_wp2_with fail
  refine HF.out.mono ?_
  rintro r w2 ⟨rfl, hb⟩
  have EB := (Blk.new w 26 #[.int .u64 (t : Int), .int .i64 2, .int .u64 (c : Int), .int .u64 (s : Int), .slice a nd ca, .slice b nm cb]).keep hb
  obtain ⟨g, hg⟩ : ∃ g, g = w.heap.size := ⟨_, rfl⟩
  have HG := Lib.hid hg
  have HB2 : Hid (Below g w w2) := by rw [hg]; exact HB1.out.trans (hb.mono HB1.out.size)
  have hgw : g ≤ w2.heap.size := by rw [hg]; exact Nat.le_trans HB1.out.size hb.size
  clear hb HF
  rw [← hg] at EB
  have ht64 := HOk.out.t
  clear hg
  go_upto_region 3 with fail
  rw [← HG.out]
  have hG : ∀ W W' : World, Below w2.heap.size w2 W → Below W.heap.size W W' → Below w2.heap.size w2 W' := fun W W' hW hb => hW.trans (hb.mono hW.size)
  refine region_tails_by 7 [(9, .is (.pointer (some ⟨g, 0, none⟩))), (10, .is (.int .u64 (t : Int))), (11, .row w2.heap.size (numL t)), (12, .is (.pointer (some ⟨g, 1, none⟩))), (13, .is (.int .i64 2)), (14, .is (bv 2)), (15, .bys [2])] [1, 11, 15] (fun W => Below w2.heap.size w2 W) (by kernel_rfl) (by kernel_rfl) (by kernel_rfl) (by kernel_rfl) (by kernel_rfl) (by decide) (by kernel_rfl) (by kernel_rfl) ((Below.refl _ _).drew) ?_ ?_
  · refine ⟨?c0, ?c1, ?c2, ?c3, ?c4, ?c5, ?c6, trivial⟩
    case c0 => exact ask_field (guard_none rfl) _ (.tmp 1) 0 (.pointer (some ⟨g, 0, none⟩)) (.pointer (some ⟨g, 0, none⟩)) rfl rfl (by intro k hk; cases hk; rfl) (fun W => by kernel_rfl)
    case c1 => exact ask_load (guard_none rfl) _ (.tmp 9) (.pointer (some ⟨g, 0, none⟩)) (.int .u64 (t : Int)) rfl rfl (by intro k hk; cases hk; rfl) (fun W hW => load_num W _ _ (by rw [hW.cell (p := ⟨g, 0, none⟩) EB.lt, EB.cell]; rfl))
    case c2 => exact ask_call hG (guard_none rfl) _ _ _ #[.int .u64 (t : Int)] (.row w2.heap.size (numL t)) rfl (by kernel_rfl) rfl rfl (by intro k hk; cases hk; rfl) (fun W hW => (refnum_any t W ht64).mono fun e w' h => by obtain ⟨v, h1, h2, h3⟩ := h; exact ⟨v, h1, row_low h2 hW.size, h3⟩)
    case c3 => exact ask_field (guard_none rfl) _ (.tmp 1) 1 (.pointer (some ⟨g, 0, none⟩)) (.pointer (some ⟨g, 1, none⟩)) rfl rfl (by intro k hk; cases hk; rfl) (fun W => by kernel_rfl)
    case c4 => exact ask_load (guard_none rfl) _ (.tmp 12) (.pointer (some ⟨g, 1, none⟩)) (.int .i64 2) rfl rfl (by intro k hk; cases hk; rfl) (fun W hW => load_int W _ _ (by rw [hW.cell (p := ⟨g, 1, none⟩) EB.lt, EB.cell]; rfl))
    case c5 => exact ask_exec (guard_none rfl) (bv 2) rfl rfl (by intro k hk; cases hk; rfl) (fun W hW => by kernel_rfl)
    case c6 => exact ask_build_one hG (guard_none rfl) (.tmp 14) 2 rfl rfl (by intro k hk; cases hk; rfl)
  intro af w3 hW hd' hs' hf'
  have t1 : af.tmps.getD 1 undef = (.pointer (some ⟨g, 0, none⟩)) := hf' 1 rfl
  have h4 : Row w3 w2.heap.size (af.tmps.getD 11 undef) (numL t) := hf' 11 rfl
  have h6 : Bys w3 (af.tmps.getD 15 undef) [2] := hf' 15 rfl
  obtain ⟨us, hus, haf⟩ := act_open 61 af hs' hd'
  rw [← hus] at t1 h4 h6
  have el : ((List.range 61).map us).toArray = #[us 0, us 1, us 2, us 3, us 4, us 5, us 6, us 7, us 8, us 9, us 10, us 11, us 12, us 13, us 14, us 15, us 16, us 17, us 18, us 19, us 20, us 21, us 22, us 23, us 24, us 25, us 26, us 27, us 28, us 29, us 30, us 31, us 32, us 33, us 34, us 35, us 36, us 37, us 38, us 39, us 40, us 41, us 42, us 43, us 44, us 45, us 46, us 47, us 48, us 49, us 50, us 51, us 52, us 53, us 54, us 55, us 56, us 57, us 58, us 59, us 60] := rfl
  rw [el] at haf
  subst haf
  rw [t1]
  have A4 := append_bys (B := g) (Nat.le_trans hgw hW.size) (row_low h4 hgw) h6 (by have := numL_le t ht64; simp only [List.length_cons, List.length_nil]; omega)
  have HR3 := Lib.hid (row_low h4 hgw)
  have EBw := EB.keep hW
  have HA4 := Lib.hid A4
  have HBw := Lib.hid (HB2.out.trans (hW.mono hgw))
  have hgw3 : g ≤ w3.heap.size := Nat.le_trans hgw hW.size
  obtain ⟨va, hva⟩ : ∃ va, va = us 11 := ⟨_, rfl⟩
  obtain ⟨vb, hvb⟩ : ∃ vb, vb = us 15 := ⟨_, rfl⟩
  rw [← hva, ← hvb] at HA4 ⊢
  rw [← hva] at HR3
  clear hus t1 el hf' hs' hd' hW h4 h6 hG EB hgw HB2 hva hvb A4
  simp only [List.drop_succ_cons, List.drop_zero]
  go_wp2_with (at_builtin; refine wpList_append_by rfl _ _ 23 rfl _ _ rfl rfl _ HA4.out ?_; rintro v4 w4 ⟨hr, hgr⟩; (have EB3 := EBw.grown HR3.out (by decide) hgr); (have k1 : w4.cell? ⟨g, 1, none⟩ = some (.int .i64 2) := by rw [EB3.cell]; rfl); (have k2 : w4.cell? ⟨g, 2, none⟩ = some (.int .u64 (c : Int)) := by rw [EB3.cell]; rfl); (have hg3 : g ≤ w4.heap.size := Nat.le_trans hgw3 hgr.size); (have HR4 := Lib.hid hr); (have HB3 := Lib.hid (HBw.out.grown hgr hgw3 fun k hk => (World.ownsRow.lt HR3.out k hk).1)); clear hr hgr)
  have hc64 := HOk.out.c
  have hs64 := HOk.out.s
  have h1 := numL_le t ht64
  have h2 := numL_le c hc64
  have h3 := numL_le s hs64
  have h4 := numL_le d.length (by omega)
  refine (refnum_any c _ hc64).mono ?_
  rintro r wa0 ⟨u0, rfl, hr, hb⟩
  have EBa0 := EB3.keep hb
  have A0 := append_bys (B := g) (Nat.le_trans (Nat.le_trans (Nat.le_of_eq HG.out) HB3.out.size) hb.size) (HR4.out.below hb) hr.bys (by simp only [List.length_append, List.length_cons, List.length_nil]; omega)
  have HA0 := Lib.hid A0
  have HRa0 := Lib.hid (HR4.out.below hb)
  have HBa0 := Lib.hid (HB3.out.trans (hb.mono (Nat.le_trans (Nat.le_of_eq HG.out) HB3.out.size)))
  clear hr hb A0 k2 
  go_wp2_with (at_builtin; refine wpList_append_by rfl _ _ 23 rfl _ _ rfl rfl _ HA0.out ?_; rintro v5 wb0 ⟨hr, hgr⟩; (have EBb0 := EBa0.grown HRa0.out (by decide) hgr); (have k3 : wb0.cell? ⟨g, 3, none⟩ = some (.int .u64 (s : Int)) := by rw [EBb0.cell]; rfl); (have HRb0 := Lib.hid hr); (have HBb0 := Lib.hid (HBa0.out.grown hgr (Nat.le_trans (Nat.le_of_eq HG.out) HBa0.out.size) fun k hk => (World.ownsRow.lt HRa0.out k hk).1)); clear hr hgr)
  refine (refnum_any s _ hs64).mono ?_
  rintro r wa1 ⟨u1, rfl, hr, hb⟩
  have EBa1 := EBb0.keep hb
  have A1 := append_bys (B := g) (Nat.le_trans (Nat.le_trans (Nat.le_of_eq HG.out) HBb0.out.size) hb.size) (HRb0.out.below hb) hr.bys (by simp only [List.length_append, List.length_cons, List.length_nil]; omega)
  have HA1 := Lib.hid A1
  have HRa1 := Lib.hid (HRb0.out.below hb)
  have HBa1 := Lib.hid (HBb0.out.trans (hb.mono (Nat.le_trans (Nat.le_of_eq HG.out) HBb0.out.size)))
  clear hr hb A1 k3 
  go_wp2_with (at_builtin; refine wpList_append_by rfl _ _ 23 rfl _ _ rfl rfl _ HA1.out ?_; rintro v6 wb1 ⟨hr, hgr⟩; (have EBb1 := EBa1.grown HRa1.out (by decide) hgr); (have k4 : wb1.cell? ⟨g, 4, none⟩ = some (.slice a nd ca) := by rw [EBb1.cell]; rfl); (have HRb1 := Lib.hid hr); (have HBb1 := Lib.hid (HBa1.out.grown hgr (Nat.le_trans (Nat.le_of_eq HG.out) HBa1.out.size) fun k hk => (World.ownsRow.lt HRa1.out k hk).1)); clear hr hgr)
  have HDx : Hid (Bys wb1 (.slice a nd ca) d) := Lib.hid (by
    rw [HND.out]
    exact HD.out.below (Nat.le_refl _) (HBb1.out.mono (Nat.le_of_eq HG.out.symm)))
  refine (refraw_any _ d _ HDx.out hdl).mono ?_
  rintro r wa2 ⟨u2, rfl, hr, hb⟩
  have EBa2 := EBb1.keep hb
  have A2 := append_bys (B := g) (Nat.le_trans (Nat.le_trans (Nat.le_of_eq HG.out) HBb1.out.size) hb.size) (HRb1.out.below hb) hr.bys (by simp only [rawL, List.length_append, List.length_cons, List.length_nil]; omega)
  have HA2 := Lib.hid A2
  have HRa2 := Lib.hid (HRb1.out.below hb)
  have HBa2 := Lib.hid (HBb1.out.trans (hb.mono (Nat.le_trans (Nat.le_of_eq HG.out) HBb1.out.size)))
  clear hr hb A2 k4 
  go_wp2_with (at_builtin; refine wpList_append_by rfl _ _ 23 rfl _ _ rfl rfl _ HA2.out ?_; rintro v7 wb2 ⟨hr, hgr⟩; (have EBb2 := EBa2.grown HRa2.out (by decide) hgr); (have k5 : wb2.cell? ⟨g, 1, none⟩ = some (.int .i64 2) := by rw [EBb2.cell]; rfl); (have HRb2 := Lib.hid hr); (have HBb2 := Lib.hid (HBa2.out.grown hgr (Nat.le_trans (Nat.le_of_eq HG.out) HBa2.out.size) fun k hk => (World.ownsRow.lt HRa2.out k hk).1)); clear hr hgr)
  rw [putL_two, ← HG.out]
  have e : [numL t ++ [2], numL c, numL s, rawL d].flatten = numL t ++ [2] ++ numL c ++ numL s ++ rawL d := by simp
  rw [e]
  exact bodyPost_ret (v := .tuple #[v7, .int .i64 0]) (by simp [results, Try.results11, go_sem]) rfl ⟨_, rfl, HRb2.out, HBb2.out⟩

set_option maxHeartbeats 4000000 in
set_option maxRecDepth 100000 in
theorem refput_3 (t c s : Nat) (d : List UInt8) (m : List Nat) (a b : Option Addr) (ca cb : Nat) (w : World) (he : Has w ⟨t, 3, c, s, d, m⟩ a ca b cb) (hf : formed ⟨t, 3, c, s, d, m⟩ = true) :
    Calls Try.prog 11 #[.agg (entC ⟨t, 3, c, s, d, m⟩ a ca b cb)] w fun r w' => ∃ v, r = .returned (.tuple #[v, .int .i64 0]) ∧ Row w' w.heap.size v (putL ⟨t, 3, c, s, d, m⟩) ∧ Below w.heap.size w w' := by
  have b1 : Below w.heap.size w (w.alloc (.cells (entC ⟨t, 3, c, s, d, m⟩ a ca b cb) 26)) := (Below.refl _ _).alloc (Nat.le_refl _) _
  have hF := refFormed_any ⟨t, 3, c, s, d, m⟩ a b ca cb _ (he.below (Nat.le_refl _) b1)
  rw [hf] at hF
  obtain ⟨nd, hnd⟩ : ∃ nd, nd = d.length := ⟨_, rfl⟩
  obtain ⟨nm, hnm⟩ : ∃ nm, nm = m.length := ⟨_, rfl⟩
  have hml := he.ml
  have HOk := Lib.hid he.ok
  have HM := Lib.hid he.m
  have h7 := formed_mem hf
  have HNM := Lib.hid hnm
  simp only [entC] at hF b1 hml ⊢
  rw [← hnd, ← hnm] at hF b1 ⊢
  have HF := Lib.hid hF
  have HB1 := Lib.hid b1
  clear he hf hF b1 hnd hnm
  go_enter Try.func11, Try.ntmps11
  go_wp2_with fail
  refine HF.out.mono ?_
  rintro r w2 ⟨rfl, hb⟩
  have EB := (Blk.new w 26 #[.int .u64 (t : Int), .int .i64 3, .int .u64 (c : Int), .int .u64 (s : Int), .slice a nd ca, .slice b nm cb]).keep hb
  obtain ⟨g, hg⟩ : ∃ g, g = w.heap.size := ⟨_, rfl⟩
  have HG := Lib.hid hg
  have HB2 : Hid (Below g w w2) := by rw [hg]; exact HB1.out.trans (hb.mono HB1.out.size)
  have hgw : g ≤ w2.heap.size := by rw [hg]; exact Nat.le_trans HB1.out.size hb.size
  clear hb HF
  rw [← hg] at EB
  have ht64 := HOk.out.t
  clear hg
  go_upto_region 3 with fail
  rw [← HG.out]
  have hG : ∀ W W' : World, Below w2.heap.size w2 W → Below W.heap.size W W' → Below w2.heap.size w2 W' := fun W W' hW hb => hW.trans (hb.mono hW.size)
  refine region_tails_by 7 [(9, .is (.pointer (some ⟨g, 0, none⟩))), (10, .is (.int .u64 (t : Int))), (11, .row w2.heap.size (numL t)), (12, .is (.pointer (some ⟨g, 1, none⟩))), (13, .is (.int .i64 3)), (14, .is (bv 3)), (15, .bys [3])] [1, 11, 15] (fun W => Below w2.heap.size w2 W) (by kernel_rfl) (by kernel_rfl) (by kernel_rfl) (by kernel_rfl) (by kernel_rfl) (by decide) (by kernel_rfl) (by kernel_rfl) ((Below.refl _ _).drew) ?_ ?_
  · refine ⟨?c0, ?c1, ?c2, ?c3, ?c4, ?c5, ?c6, trivial⟩
    case c0 => exact ask_field (guard_none rfl) _ (.tmp 1) 0 (.pointer (some ⟨g, 0, none⟩)) (.pointer (some ⟨g, 0, none⟩)) rfl rfl (by intro k hk; cases hk; rfl) (fun W => by kernel_rfl)
    case c1 => exact ask_load (guard_none rfl) _ (.tmp 9) (.pointer (some ⟨g, 0, none⟩)) (.int .u64 (t : Int)) rfl rfl (by intro k hk; cases hk; rfl) (fun W hW => load_num W _ _ (by rw [hW.cell (p := ⟨g, 0, none⟩) EB.lt, EB.cell]; rfl))
    case c2 => exact ask_call hG (guard_none rfl) _ _ _ #[.int .u64 (t : Int)] (.row w2.heap.size (numL t)) rfl (by kernel_rfl) rfl rfl (by intro k hk; cases hk; rfl) (fun W hW => (refnum_any t W ht64).mono fun e w' h => by obtain ⟨v, h1, h2, h3⟩ := h; exact ⟨v, h1, row_low h2 hW.size, h3⟩)
    case c3 => exact ask_field (guard_none rfl) _ (.tmp 1) 1 (.pointer (some ⟨g, 0, none⟩)) (.pointer (some ⟨g, 1, none⟩)) rfl rfl (by intro k hk; cases hk; rfl) (fun W => by kernel_rfl)
    case c4 => exact ask_load (guard_none rfl) _ (.tmp 12) (.pointer (some ⟨g, 1, none⟩)) (.int .i64 3) rfl rfl (by intro k hk; cases hk; rfl) (fun W hW => load_int W _ _ (by rw [hW.cell (p := ⟨g, 1, none⟩) EB.lt, EB.cell]; rfl))
    case c5 => exact ask_exec (guard_none rfl) (bv 3) rfl rfl (by intro k hk; cases hk; rfl) (fun W hW => by kernel_rfl)
    case c6 => exact ask_build_one hG (guard_none rfl) (.tmp 14) 3 rfl rfl (by intro k hk; cases hk; rfl)
  intro af w3 hW hd' hs' hf'
  have t1 : af.tmps.getD 1 undef = (.pointer (some ⟨g, 0, none⟩)) := hf' 1 rfl
  have h4 : Row w3 w2.heap.size (af.tmps.getD 11 undef) (numL t) := hf' 11 rfl
  have h6 : Bys w3 (af.tmps.getD 15 undef) [3] := hf' 15 rfl
  obtain ⟨us, hus, haf⟩ := act_open 61 af hs' hd'
  rw [← hus] at t1 h4 h6
  have el : ((List.range 61).map us).toArray = #[us 0, us 1, us 2, us 3, us 4, us 5, us 6, us 7, us 8, us 9, us 10, us 11, us 12, us 13, us 14, us 15, us 16, us 17, us 18, us 19, us 20, us 21, us 22, us 23, us 24, us 25, us 26, us 27, us 28, us 29, us 30, us 31, us 32, us 33, us 34, us 35, us 36, us 37, us 38, us 39, us 40, us 41, us 42, us 43, us 44, us 45, us 46, us 47, us 48, us 49, us 50, us 51, us 52, us 53, us 54, us 55, us 56, us 57, us 58, us 59, us 60] := rfl
  rw [el] at haf
  subst haf
  rw [t1]
  have A4 := append_bys (B := g) (Nat.le_trans hgw hW.size) (row_low h4 hgw) h6 (by have := numL_le t ht64; simp only [List.length_cons, List.length_nil]; omega)
  have HR3 := Lib.hid (row_low h4 hgw)
  have EBw := EB.keep hW
  have HA4 := Lib.hid A4
  have HBw := Lib.hid (HB2.out.trans (hW.mono hgw))
  have hgw3 : g ≤ w3.heap.size := Nat.le_trans hgw hW.size
  obtain ⟨va, hva⟩ : ∃ va, va = us 11 := ⟨_, rfl⟩
  obtain ⟨vb, hvb⟩ : ∃ vb, vb = us 15 := ⟨_, rfl⟩
  rw [← hva, ← hvb] at HA4 ⊢
  rw [← hva] at HR3
  clear hus t1 el hf' hs' hd' hW h4 h6 hG EB hgw HB2 hva hvb A4
  have h7' : nm ≤ 7 := by rw [HNM.out]; exact h7
  have hcv := conv_len nm (by omega)
  simp only [List.drop_succ_cons, List.drop_zero]
  go_wp2_with (at_builtin; refine wpList_append_by rfl _ _ 23 rfl _ _ rfl rfl _ HA4.out ?_; rintro v4 w4 ⟨hr, hgr⟩; (have EB3 := EBw.grown HR3.out (by decide) hgr); (have k1 : w4.cell? ⟨g, 1, none⟩ = some (.int .i64 3) := by rw [EB3.cell]; rfl); (have k5 : w4.cell? ⟨g, 5, none⟩ = some (.slice b nm cb) := by rw [EB3.cell]; rfl); (have hg3 : g ≤ w4.heap.size := Nat.le_trans hgw3 hgr.size); (have HR4 := Lib.hid hr); (have HB3 := Lib.hid (HBw.out.grown hgr hgw3 fun k hk => (World.ownsRow.lt HR3.out k hk).1)); clear hr hgr)
  have h1 := numL_le t ht64
  have h2 := numL_le nm (by omega)
  have HM2 := Lib.hid HM.out.at
  have HMl := Lib.hid HOk.out.m
  have HI := Lib.hid (fun i => idsL_take_len m i HMl.out h7)
  clear HM
  refine (refnum_any nm _ (by omega)).mono ?_
  rintro r wa ⟨u0, rfl, hr, hb⟩
  have EBa := EB3.keep hb
  have A0 := append_bys (B := g) (Nat.le_trans hg3 hb.size) (HR4.out.below hb) hr.bys (by simp only [List.length_append, List.length_cons, List.length_nil]; omega)
  have HA0 := Lib.hid A0
  have HRa := Lib.hid (HR4.out.below hb)
  have HBa := Lib.hid (HB3.out.trans (hb.mono hg3))
  clear hr hb A0 k5 k1
  go_wp2_with (at_builtin; refine wpList_append_by rfl _ _ 23 rfl _ _ rfl rfl _ HA0.out ?_; rintro v5 wb ⟨hr, hgr⟩; (have EBb := EBa.grown HRa.out (by decide) hgr); (have k5 : wb.cell? ⟨g, 5, none⟩ = some (.slice b nm cb) := by rw [EBb.cell]; rfl); (have k1 : wb.cell? ⟨g, 1, none⟩ = some (.int .i64 3) := by rw [EBb.cell]; rfl); (have HRb := Lib.hid hr); (have HBb := Lib.hid (HBa.out.grown hgr (Nat.le_trans (Nat.le_of_eq HG.out) HBa.out.size) fun k hk => (World.ownsRow.lt HRa.out k hk).1)); clear hr hgr)
  clear k5 k1
  go_loopw [4, 5] (fun s4 s5 wr => ∃ i : Nat, i ≤ nm ∧ s5 = .int .i64 (i : Int) ∧ Row wr g s4 (numL t ++ [3] ++ numL nm ++ idsL (m.take i)) ∧ Below g w wr ∧ Blk wr g 26 #[.int .u64 (t : Int), .int .i64 3, .int .u64 (c : Int), .int .u64 (s : Int), .slice a nd ca, .slice b nm cb]) (fun _ s5 _ => nm - (intOf s5).toNat)
  case atStart => exact ⟨0, by omega, rfl, by simpa [idsL] using HRb.out, HBb.out, EBb⟩
  case round =>
    obtain ⟨i, hi, rfl, hrow, hbw, ebw⟩ := hrel
    have k5 : wr.cell? ⟨g, 5, none⟩ = some (.slice b nm cb) := by rw [ebw.cell]; rfl
    by_cases hlt : i < nm
    · have hil : i < m.length := by have := HNM.out; omega
      obtain ⟨ad, rfl, hc⟩ := HM2.out.2.2 i hil
      have hst := idsL_step m i hil
      have hy := HMl.out m[i] (List.getElem_mem _)
      obtain ⟨y, hye⟩ : ∃ y, y = m[i] := ⟨_, rfl⟩
      rw [← hye] at hc hst hy
      have hc1 : wr.cell? (ad.add i) = some (.int .u64 (y : Int)) := by rw [hbw.cell (p := ad.add i) (by rw [HG.out]; exact World.block_lt_of_cell? w _ hc)]; exact hc
      have HST := Lib.hid hst
      have HRw := Lib.hid hrow
      have HBw := Lib.hid hbw
      have hil2 := HI.out i
      have hy9 := numL_le y hy
      clear hst hye hil hrow hbw hc
      go_wp2_with fail
      refine (refnum_any y _ hy).mono ?_
      rintro r wc ⟨u1, rfl, hr, hb⟩
      have A1 := append_bys (B := g) (Nat.le_trans (Nat.le_trans (Nat.le_of_eq HG.out) HBw.out.size) hb.size) (HRw.out.below hb) hr.bys (by simp only [List.length_append, List.length_cons, List.length_nil]; omega)
      have HA1 := Lib.hid A1
      have HRc := Lib.hid (HRw.out.below hb)
      have HBc := Lib.hid (HBw.out.trans (hb.mono (Nat.le_trans (Nat.le_of_eq HG.out) HBw.out.size)))
      have EBc := ebw.keep hb
      clear hr hb A1 hc1 k5
      go_wp2_with (at_builtin; refine wpList_append_by rfl _ _ 23 rfl _ _ rfl rfl _ HA1.out ?_; rintro v6 wd ⟨hr, hgr⟩; (have HRd := Lib.hid hr); (have EBd := EBc.grown HRc.out (by decide) hgr); (have HBd := Lib.hid (HBc.out.grown hgr (Nat.le_trans (Nat.le_of_eq HG.out) HBc.out.size) fun k hk => (World.ownsRow.lt HRc.out k hk).1)); clear hr hgr)
      go_round
      case rel => exact ⟨i + 1, by omega, by go_num, by rw [HST.out, ← List.append_assoc]; exact HRd.out, HBd.out, EBd⟩
      case measure => simp [intOf]; omega
    · have e : m.take i = m := List.take_of_length_le (by have := HNM.out; omega)
      rw [e] at hrow
      have HRw := Lib.hid hrow
      have HBw := Lib.hid hbw
      clear hrow hbw
      go_wp2
      rw [putL_three, ← HNM.out, ← HG.out]
      exact bodyPost_ret (v := .tuple #[_, .int .i64 0]) (by simp [results, Try.results11, go_sem]) rfl ⟨_, rfl, HRw.out, HBw.out⟩

set_option maxHeartbeats 1000000 in
theorem refput_no (e : Ent) (a b : Option Addr) (ca cb : Nat) (w : World) (he : Has w e a ca b cb) (hf : formed e = false) :
    Calls Try.prog 11 #[.agg (entC e a ca b cb)] w fun r w' => r = .returned (.tuple #[.slice none 0 0, .int .i64 1]) ∧ Below w.heap.size w w' := by
  have b1 : Below w.heap.size w (w.alloc (.cells (entC e a ca b cb) 26)) := (Below.refl _ _).alloc (Nat.le_refl _) _
  have hF := refFormed_any e a b ca cb _ (he.below (Nat.le_refl _) b1)
  rw [hf] at hF
  have HF := Lib.hid hF
  have HB1 := Lib.hid b1
  clear hF b1 he hf
  simp only [entC] at HF HB1 ⊢
  go_enter Try.func11, Try.ntmps11
  go_wp2_with fail
  refine HF.out.mono ?_
  rintro r w2 ⟨rfl, hb⟩
  have HB2 := Lib.hid (HB1.out.trans (hb.mono HB1.out.size))
  clear hb HF
  go_wp2
  exact bodyPost_ret (v := .tuple #[.slice none 0 0, .int .i64 1]) (by simp [results, Try.results11, go_sem]) rfl ⟨rfl, HB2.out⟩

theorem refput_yes (e : Ent) (a b : Option Addr) (ca cb : Nat) (w : World) (he : Has w e a ca b cb) (hf : formed e = true) :
    Calls Try.prog 11 #[.agg (entC e a ca b cb)] w fun r w' => ∃ v, r = .returned (.tuple #[v, .int .i64 0]) ∧ Row w' w.heap.size v (putL e) ∧ Below w.heap.size w w' := by
  obtain ⟨t, k, c, s, d, m⟩ := e
  by_cases k1 : k = 1
  · subst k1; exact refput_1 t c s d m a b ca cb w he hf
  · by_cases k2 : k = 2
    · subst k2; exact refput_2 t c s d m a b ca cb w he hf
    · by_cases k3 : k = 3
      · subst k3; exact refput_3 t c s d m a b ca cb w he hf
      · rw [formed_none k1 k2 k3] at hf
        cases hf

end Go.Proofs.Ytleoiklcddkgdaa
