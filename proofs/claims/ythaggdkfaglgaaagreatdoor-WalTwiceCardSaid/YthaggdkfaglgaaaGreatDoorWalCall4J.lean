/- The law's call, kind 4. -/
import Derived.Test.YthaggdkfaglgaaaGreatDoorJX2
namespace Go.Proofs.YthaggdkfaglgaaaGreatDoor
set_option maxRecDepth 20000
open Go.RowKit Go.Maps DiskMath WalMath FrameMath Reg

set_option maxHeartbeats 4000000 in
set_option maxRecDepth 100000 in
theorem call4_any {w : World} {Z : Nat → Prop} {B : Nat} {s : St} {V : WS} {N : Nat} {kd n : Int} {ba : Option Addr} {bn bc : Nat} {ka : Option Addr} {kn kc : Nat} {r : List UInt8} (h : Run w Z B s V.first V.recs false V) (hi : Idle s V N) (hN : N ≤ 97) (ht : Tab w) (hZ : ¬ Z 0) (hn : -9223372036854775808 ≤ n ∧ n ≤ 9223372036854775807)
    (hb : ∀ W, OnlyS Z w W → Bys W (.slice ba bn bc) r) (hrl : r.length = bn) (hbl : bn ≤ 1048576) (hba : r ≠ [] → ∀ k, (Value.slice ba bn bc).ownBlock = some k → ¬ Z k ∧ k < w.heap.size) :
    Calls Tryz.prog 14 #[.pointer (some ⟨B, 0, none⟩), .agg #[.int .i64 kd, .int .i64 n, .slice ba bn bc, .slice ka kn kc], .int .i64 4] w (Called w Z B s N) := by
  obtain ⟨d, l, x, c0, hc0, hat⟩ := at_of_run h
  have hat0 := hat.tight (c' := 400) (by have := hi.rest.sure.few; have := hi.ops; omega) (by decide)
  have hov := hi.over
  have hs99 := hi.rest.sure.lo
  obtain ⟨f, hf⟩ : ∃ f, f = V.first := ⟨_, rfl⟩
  obtain ⟨nx, hnx⟩ : ∃ nx, nx = V.first + V.recs.length := ⟨_, rfl⟩
  obtain ⟨m, hm⟩ := nn_nat f n
  have HNum := Lib.hid hi.num
  have HI := Lib.hid hi
  have HN := Lib.hid hN
  have HT := Lib.hid ht
  have HZ := Lib.hid hZ
  have HRl := Lib.hid hrl
  have HBl := Lib.hid hbl
  have HBa := Lib.hid hba
  have HBy := Lib.hid hb
  have HNr := Lib.hid hn
  have HF := Lib.hid hf
  have HNx := Lib.hid hnx
  have HM := Lib.hid hm
  have HOv := Lib.hid hov
  have HSu := Lib.hid hs99
  have HAt := Lib.hid hat0
  clear h hi hN ht hZ hn hb hrl hbl hba hat hat0 hc0 hov hs99 hf hnx hm
  go_enter Tryz.func14, Tryz.ntmps14
  go_upto_region 1 with fail
  obtain ⟨W0, hW0⟩ : ∃ W0, W0 = w.alloc (.cells #[.int .i64 kd, .int .i64 n, .slice ba bn bc, .slice ka kn kc] 30) := ⟨_, rfl⟩
  obtain ⟨b0, hb0⟩ : ∃ b0, b0 = w.heap.size := ⟨_, rfl⟩
  have hbox : Blk W0 b0 30 #[.int .i64 kd, .int .i64 n, .slice ba bn bc, .slice ka kn kc] := by rw [hW0, hb0]; exact Blk.new w _ _
  have hb00 : Below w.heap.size w W0 := by rw [hW0]; exact (Below.refl _ w).alloc (Nat.le_refl _) _
  have hsz0 : W0.heap.size = b0 + 1 := by rw [hW0, hb0]; simp
  obtain ⟨G0, hG0, hGb⟩ : ∃ G0, At w Z B d l x 400 s V.first V.recs false V G0 W0 ∧ G0 b0 := ⟨_, (HAt.out.grow hb00).1, .inr ⟨by omega, by omega⟩⟩
  have HAt0 := Lib.hid hG0
  have HGb := Lib.hid hGb
  have HBox0 := Lib.hid hbox
  have HBB := Lib.hid hG0.blkB
  obtain ⟨v0, hx0⟩ := hG0.blkX
  have HXX := Lib.hid hx0
  have hG : ∀ W W' : World, Below W0.heap.size W0 W → Below W.heap.size W W' → Below W0.heap.size W0 W' := fun W W' h h' => h.trans (h'.mono h.size)
  rw [← hW0, ← hb0]
  clear hW0 hb0 hbox hb00 hsz0 hG0 hGb hx0
  refine region_by [(13, .is (.pointer (some ⟨B, 0, none⟩))), (14, .is (.pointer (some ⟨B, 0, none⟩))), (15, .is (.pointer (some ⟨B, 2, none⟩))), (16, .is (.pointer (some ⟨x, 0, none⟩))), (17, .is (.pointer (some ⟨x, 0, none⟩))), (18, .is (.pointer (some ⟨x, 0, none⟩))), (19, .is (.int .u64 (f : Int))), (20, .is (.pointer (some ⟨b0, 1, none⟩))), (21, .is (.int .i64 n)), (22, .is (.int .u64 (IntKind.u64.wrap n))), (23, .is (.int .u64 (m : Int))), (7, .is (.int .u64 (m : Int)))] [0, 2, 4, 7] (fun W => Below W0.heap.size W0 W) (by kernel_rfl) (by kernel_rfl) (by kernel_rfl) (by kernel_rfl) (by kernel_rfl) ((Below.refl _ _).drew) ?_ ?_
  · refine ⟨?c0, ?c1, ?c2, ?c3, ?c4, ?c5, ?c6, ?c7, ?c8, ?c9, ?c10, ?c11, trivial⟩
    case c0 => exact ask_copy (guard_none rfl) (.tmp 0) (.inl rfl) (by intro k hk; cases hk; rfl)
    case c1 => exact ask_exec (guard_none rfl) (.pointer (some ⟨B, 0, none⟩)) rfl rfl (by intro k hk; cases hk; rfl) (fun W hW => by kernel_rfl)
    case c2 => exact ask_field (guard_none rfl) _ (.tmp 14) 2 (.pointer (some ⟨B, 0, none⟩)) (.pointer (some ⟨B, 2, none⟩)) rfl rfl (by intro k hk; cases hk; rfl) (fun W => by kernel_rfl)
    case c3 => exact ask_load (guard_none rfl) _ (.tmp 15) (.pointer (some ⟨B, 2, none⟩)) (.pointer (some ⟨x, 0, none⟩)) rfl rfl (by intro k hk; cases hk; rfl) (fun W hW => load_rl W _ _ (by rw [hW.cell (p := ⟨B, 2, none⟩) HBB.out.lt, HBB.out.cell]; rfl))
    case c4 => exact ask_exec (guard_none rfl) (.pointer (some ⟨x, 0, none⟩)) rfl rfl (by intro k hk; cases hk; rfl) (fun W hW => by kernel_rfl)
    case c5 => exact ask_field (guard_none rfl) _ (.tmp 17) 0 (.pointer (some ⟨x, 0, none⟩)) (.pointer (some ⟨x, 0, none⟩)) rfl rfl (by intro k hk; cases hk; rfl) (fun W => by kernel_rfl)
    case c6 => exact ask_load (guard_none rfl) _ (.tmp 18) (.pointer (some ⟨x, 0, none⟩)) (.int .u64 (f : Int)) rfl rfl (by intro k hk; cases hk; rfl) (fun W hW => load_u64 W _ _ (by rw [hW.cell (p := ⟨x, 0, none⟩) HXX.out.lt, HXX.out.cell, HF.out]; rfl))
    case c7 => exact ask_field (guard_none rfl) _ (.tmp 4) 1 (.pointer (some ⟨b0, 0, none⟩)) (.pointer (some ⟨b0, 1, none⟩)) rfl rfl (by intro k hk; cases hk; rfl) (fun W => by kernel_rfl)
    case c8 => exact ask_load (guard_none rfl) _ (.tmp 20) (.pointer (some ⟨b0, 1, none⟩)) (.int .i64 n) rfl rfl (by intro k hk; cases hk; rfl) (fun W hW => load_int W _ _ (by rw [hW.cell (p := ⟨b0, 1, none⟩) HBox0.out.lt, HBox0.out.cell]; rfl))
    case c9 => exact ask_exec (guard_none rfl) (.int .u64 (IntKind.u64.wrap n)) rfl rfl (by intro k hk; cases hk; rfl) (fun W hW => by kernel_rfl)
    case c10 => exact ask_bin (guard_none rfl) _ _ _ _ _ _ _ _ rfl rfl rfl (by intro k hk; cases hk; rfl) (fun W => add_u64 _ _ _ _ _ _ HM.out W)
    case c11 => exact ask_copy (guard_none rfl) (.tmp 23) (.inr rfl) (by intro k hk; cases hk; rfl)
  · intro af W1 hW hd' hs' hf'
    have t0 : af.tmps.getD 0 undef = .pointer (some ⟨B, 0, none⟩) := hf' 0 rfl
    have t2 : af.tmps.getD 2 undef = .int .i64 4 := hf' 2 rfl
    have t4 : af.tmps.getD 4 undef = .pointer (some ⟨b0, 0, none⟩) := hf' 4 rfl
    have t7 : af.tmps.getD 7 undef = .int .u64 (m : Int) := hf' 7 rfl
    obtain ⟨us, hus, haf⟩ := act_open 346 af hs' hd'
    rw [← hus] at t0 t2 t4 t7
    have el := range_346 us
    rw [el] at haf
    subst haf
    rw [t0, t2, t4, t7]
    have HW1 := Lib.hid hW
    clear hus t0 t2 t4 t7 el hf' hs' hd' hW
    have HA1 := Lib.hid (HAt0.out.below HW1.out).1
    have HBox1 := Lib.hid (HBox0.out.keep HW1.out)
    have hbb1 := HA1.out.blkB
    obtain ⟨v1, hx1⟩ := HA1.out.blkX
    have HBB1 := Lib.hid hbb1
    have HXX1 := Lib.hid hx1
    have hG1 : ∀ W W' : World, Below W1.heap.size W1 W → Below W.heap.size W W' → Below W1.heap.size W1 W' := fun W W' h h' => h.trans (h'.mono h.size)
    have kB0 : W1.cell? ⟨B, 0, none⟩ = some (dp d) := by rw [hbb1.cell]; rfl
    have kB1 : W1.cell? ⟨B, 1, none⟩ = some (.pointer (some ⟨l, 0, none⟩)) := by rw [hbb1.cell]; rfl
    have kB2 : W1.cell? ⟨B, 2, none⟩ = some (.pointer (some ⟨x, 0, none⟩)) := by rw [hbb1.cell]; rfl
    have kO1 : W1.cell? ⟨b0, 1, none⟩ = some (.int .i64 n) := by rw [HBox1.out.cell]; rfl
    have kO2 : W1.cell? ⟨b0, 2, none⟩ = some (.slice ba bn bc) := by rw [HBox1.out.cell]; rfl
    have kx0 : W1.cell? ⟨x, 0, none⟩ = some (.int .u64 (f : Int)) := by rw [hx1.cell, HF.out]; rfl
    have kx3 : W1.cell? ⟨x, 3, none⟩ = some (.bool false) := by rw [hx1.cell]; show some (Value.bool V.over) = _; rw [HOv.out]
    clear hbb1 hx1
    by_cases hn0 : n < 0
    · have hout := nn_out (len := V.recs.length) HM.out (by have := HF.out; have := HNum.out; have := HN.out; omega) HNr.out (.inl hn0)
      have hrg := at_trim_range HA1.out m (by rw [← HF.out]; exact hout)
      have HRg := Lib.hid hrg
      clear hout hrg
      go_wp2_with fail
      have hrg := HRg.out
      clear kB0 kB1 kB2 kO1 kO2 kx0 kx3
      refine hrg.mono ?_
      rintro e W3 ⟨rfl, hb3⟩
      have HA4 := Lib.hid (HA1.out.below hb3).1
      clear hb3 hrg
      have HSm := Lib.hid (at_same HA4.out)
      go_wp2_with fail
      refine HSm.out.mono ?_
      rintro e W9 ⟨v, rfl, rfl, hb9⟩
      have hfin : Called w Z B s N (.returned (.bool true)) W9 := called_ok (HA4.out.below hb9).1 (HI.out.more (by omega)) (by have := HN.out; omega) fun h => h
      have HFin := Lib.hid hfin
      clear hb9 hfin
      go_wp2
      go_ret
      exact HFin.out
    · by_cases hn1 : (V.recs.length : Int) < n
      · have hout := nn_out HM.out (by have := HF.out; have := HNum.out; have := HN.out; omega) HNr.out (.inr hn1)
        have hk0 : nx < m := by
          have := nn_in (f := f) (k := n.toNat) (m := m)
          have h1 := HM.out
          rw [IntKind.wrap_u64, IntKind.wrap_u64] at h1
          have := HNx.out
          have := HF.out
          have := HNr.out
          have := HNum.out
          have := HN.out
          omega
        have hk1 : (m : Int) > (nx : Int) := by omega
        have HOut := Lib.hid hout
        clear hout hn1
        go_wp2_with fail
        have hnxt := at_next HA1.out
        rw [← HNx.out] at hnxt
        refine hnxt.mono ?_
        rintro e W2 ⟨rfl, m2, rfl⟩
        have HA2 := Lib.hid (HA1.out.below (below_dn (Below.refl _ _) m2)).1
        clear hnxt
        go_wp2_with fail
        refine (at_trim_range HA2.out m (by rw [← HF.out]; exact HOut.out)).mono ?_
        rintro e W3 ⟨rfl, hb3⟩
        have HA4 := Lib.hid (HA2.out.below hb3).1
        clear hb3
        clear kB0 kB1 kB2 kO1 kO2 kx0 kx3
        have HSm := Lib.hid (at_same HA4.out)
        go_wp2_with fail
        refine HSm.out.mono ?_
        rintro e W9 ⟨v, rfl, rfl, hb9⟩
        have hfin : Called w Z B s N (.returned (.bool true)) W9 := called_ok (HA4.out.below hb9).1 (HI.out.more (by omega)) (by have := HN.out; omega) fun h => h
        have HFin := Lib.hid hfin
        clear hb9 hfin
        go_wp2
        go_ret
        exact HFin.out
      · obtain ⟨k, hk⟩ : ∃ k : Nat, n = (k : Int) := ⟨n.toNat, by omega⟩
        subst hk
        have hkl : k ≤ V.recs.length := by omega
        have HK := Lib.hid hkl
        have hmk := nn_in HM.out (by have := HF.out; have := HNum.out; have := HN.out; omega)
        have HMk := Lib.hid hmk
        have j1 : ¬ (m : Int) > (nx : Int) := by have := HNx.out; have := HF.out; omega
        have j2 : ¬ (m : Int) < (f : Int) := by omega
        clear hn1 hkl hmk
        go_wp2_with fail
        have hnxt := at_next HA1.out
        rw [← HNx.out] at hnxt
        refine hnxt.mono ?_
        rintro e W2 ⟨rfl, m2, rfl⟩
        have HA2 := Lib.hid (HA1.out.below (below_dn (Below.refl _ _) m2)).1
        have HBox2 := Lib.hid (HBox1.out.keep (below_dn (Below.refl _ _) m2))
        clear hnxt
        go_wp2_with fail
        have hcl := tri_trim HA2.out HI.out (by decide) HK.out
        rw [← HF.out, ← HMk.out] at hcl
        refine hcl.mono ?_
        rintro e W3 ⟨hs3, htri⟩
        rw [HMk.out, HF.out] at htri
        have HBox4 := Lib.hid (hs3.blk HGb.out HBox2.out)
        obtain ⟨W4, hW4⟩ : ∃ W4, W4 = W3 := ⟨_, rfl⟩
        rw [← hW4] at htri HBox4 ⊢
        clear hs3 hW4 hcl j1 j2 hn0
        clear kB0 kB1 kB2 kO1 kO2 kx0 kx3
        obtain ⟨c3, hc3, htri⟩ := htri
        have HC3 : Hid (c3 ≤ 700) := Lib.hid (by omega)
        clear hc3
        rcases htri with ⟨hfull, he, ha3⟩ | ⟨he, hnc, s3, hoff3, ha3, hg3⟩ | ⟨he, s3, ha3, hi3, hcm3⟩
        · subst he
          have HA4 := Lib.hid ha3
          clear ha3 hfull
          have HSm := Lib.hid (at_same HA4.out)
          go_wp2_with fail
          refine HSm.out.mono ?_
          rintro e W9 ⟨v, rfl, rfl, hb9⟩
          have hfin : Called w Z B s N (.returned (.bool true)) W9 := called_ok (HA4.out.below hb9).1 (HI.out.more (by omega)) (by have := HN.out; omega) fun h => h
          have HFin := Lib.hid hfin
          clear hb9 hfin
          go_wp2
          go_ret
          exact HFin.out
        · subst he
          have HA4 := Lib.hid ha3
          have HNc := Lib.hid hnc
          have HOff := Lib.hid hoff3
          have HGo := Lib.hid hg3
          clear ha3 hnc hoff3 hg3
          have hbb4 := HA4.out.blkB
          obtain ⟨v4, hx4⟩ := HA4.out.blkX
          have HBB4 := Lib.hid hbb4
          have HXX4 := Lib.hid hx4
          have hG4 : ∀ W W' : World, Below W4.heap.size W4 W → Below W.heap.size W W' → Below W4.heap.size W4 W' := fun W W' h h' => h.trans (h'.mono h.size)
          have kB0 : W4.cell? ⟨B, 0, none⟩ = some (dp d) := by rw [hbb4.cell]; rfl
          have kB1 : W4.cell? ⟨B, 1, none⟩ = some (.pointer (some ⟨l, 0, none⟩)) := by rw [hbb4.cell]; rfl
          have kB2 : W4.cell? ⟨B, 2, none⟩ = some (.pointer (some ⟨x, 0, none⟩)) := by rw [hbb4.cell]; rfl
          have kO1 : W4.cell? ⟨b0, 1, none⟩ = some (.int .i64 (k : Int)) := by rw [HBox4.out.cell]; rfl
          have kO2 : W4.cell? ⟨b0, 2, none⟩ = some (.slice ba bn bc) := by rw [HBox4.out.cell]; rfl
          have kx0 : W4.cell? ⟨x, 0, none⟩ = some (.int .u64 (f : Int)) := by rw [hx4.cell, HF.out]; rfl
          have kx3 : W4.cell? ⟨x, 3, none⟩ = some (.bool false) := by rw [hx4.cell]; show some (Value.bool V.over) = _; rw [HOv.out]
          clear hbb4 hx4
          have HDn := Lib.hid (fun (W : World) (hW : Below W4.heap.size W4 W) => show Calls Tryz.prog 18 #[dp d] W (fun e w' => ∃ v, e = .returned v ∧ v = .bool true ∧ Below W.heap.size W w') from by
            have h := at_down (HA4.out.below hW).1
            rw [HOff.out] at h
            exact h)
          have HOvr := Lib.hid (fun (W : World) (hW : Below W4.heap.size W4 W) => at_over (HA4.out.below hW).1 none 0 0 (f : Int))
          have HSm4 := Lib.hid (fun (W : World) (hW : Below W4.heap.size W4 W) => at_same (HA4.out.below hW).1)
          go_upto_region 45 with fail
          clear kB0 kB1 kB2 kO1 kO2 kx0 kx3
          refine region_by [(210, .is (.pointer (some ⟨B, 0, none⟩))), (211, .is (.pointer (some ⟨B, 0, none⟩))), (212, .is (.pointer (some ⟨B, 0, none⟩))), (213, .is (dp d)), (214, .is (.bool true)), (215, .is (.bool false)), (216, .is (.bool false)), (217, .is (.pointer (some ⟨B, 0, none⟩))), (218, .is (.pointer (some ⟨B, 0, none⟩))), (219, .is (.pointer (some ⟨B, 1, none⟩))), (220, .is (.pointer (some ⟨l, 0, none⟩))), (221, .is (.int .i64 6)), (222, .is (.bool false)), (223, .is (.bool false)), (224, .is (.bool false)), (225, .is (.pointer (some ⟨B, 0, none⟩))), (226, .is (.pointer (some ⟨B, 0, none⟩))), (227, .is (.pointer (some ⟨B, 1, none⟩))), (228, .is (.pointer (some ⟨l, 0, none⟩))), (229, .is (.int .i64 6)), (230, .is (.bool false)), (231, .is (.bool false)), (232, .is (.bool false)), (233, .is (.pointer (some ⟨B, 0, none⟩))), (234, .is (.pointer (some ⟨B, 0, none⟩))), (235, .is (.pointer (some ⟨B, 1, none⟩))), (236, .is (.pointer (some ⟨l, 0, none⟩))), (237, .is (.pointer (some ⟨B, 0, none⟩))), (238, .is (.pointer (some ⟨B, 0, none⟩))), (239, .is (.pointer (some ⟨B, 2, none⟩))), (240, .is (.pointer (some ⟨x, 0, none⟩))), (241, .is (.pointer (some ⟨x, 0, none⟩))), (242, .is (.pointer (some ⟨x, 0, none⟩))), (243, .is (.int .u64 (f : Int))), (244, .is (.int .i64 6)), (245, .is (.bool false)), (246, .is (.bool false)), (247, .is (.bool false)), (248, .is (.pointer (some ⟨B, 0, none⟩))), (249, .is (.pointer (some ⟨B, 0, none⟩))), (250, .is (.pointer (some ⟨B, 1, none⟩))), (251, .is (.pointer (some ⟨l, 0, none⟩))), (252, .is (.pointer (some ⟨B, 0, none⟩))), (253, .is (.pointer (some ⟨B, 0, none⟩))), (254, .is (.pointer (some ⟨B, 2, none⟩))), (255, .is (.pointer (some ⟨x, 0, none⟩))), (256, .is (.pointer (some ⟨x, 0, none⟩))), (257, .is (.pointer (some ⟨x, 0, none⟩))), (258, .is (.int .u64 (f : Int))), (259, .is (.int .i64 6)), (260, .is (.bool false)), (261, .is (.bool false)), (262, .is (.bool false)), (263, .is (.pointer (some ⟨B, 0, none⟩))), (264, .is (.bool true)), (265, .is (.bool false)), (266, .is (.bool false))] [0, 2, 4, 7, 8, 266] (fun W => Below W4.heap.size W4 W) (by kernel_rfl) (by kernel_rfl) (by kernel_rfl) (by kernel_rfl) (by kernel_rfl) ((Below.refl _ _).drew) ?_ ?_
          · refine ⟨?c0, ?c1, ?c2, ?c3, ?c4, ?c5, ?c6, ?c7, ?c8, ?c9, ?c10, ?c11, ?c12, ?c13, ?c14, ?c15, ?c16, ?c17, ?c18, ?c19, ?c20, ?c21, ?c22, ?c23, ?c24, ?c25, ?c26, ?c27, ?c28, ?c29, ?c30, ?c31, ?c32, ?c33, ?c34, ?c35, ?c36, ?c37, ?c38, ?c39, ?c40, ?c41, ?c42, ?c43, ?c44, ?c45, ?c46, ?c47, ?c48, ?c49, ?c50, ?c51, ?c52, ?c53, ?c54, ?c55, ?c56, trivial⟩
            case c0 => exact ask_copy (guard_none rfl) (.tmp 0) (.inl rfl) (by intro k hk; cases hk; rfl)
            case c1 => exact ask_exec (guard_none rfl) (.pointer (some ⟨B, 0, none⟩)) rfl rfl (by intro k hk; cases hk; rfl) (fun W hW => by kernel_rfl)
            case c2 => exact ask_field (guard_none rfl) _ (.tmp 211) 0 (.pointer (some ⟨B, 0, none⟩)) (.pointer (some ⟨B, 0, none⟩)) rfl rfl (by intro k hk; cases hk; rfl) (fun W => by kernel_rfl)
            case c3 => exact ask_load (guard_none rfl) _ (.tmp 212) (.pointer (some ⟨B, 0, none⟩)) (dp d) rfl rfl (by intro k hk; cases hk; rfl) (fun W hW => load_dp W _ _ (by rw [hW.cell (p := ⟨B, 0, none⟩) HBB4.out.lt, HBB4.out.cell]; rfl))
            case c4 => exact ask_call hG4 (guard_none rfl) _ _ _ #[dp d] (.is (.bool true)) rfl (by kernel_rfl) rfl rfl (by intro k hk; cases hk; rfl) (fun W hW => (HDn.out W hW).mono fun e w' h => by obtain ⟨v, h1, h2, h3⟩ := h; exact ⟨v, h1, h2, h3⟩)
            case c5 => exact ask_exec (guard_none rfl) (.bool false) rfl rfl (by intro k hk; cases hk; rfl) (fun W hW => by kernel_rfl)
            case c6 => exact ask_copy (guard_none rfl) (.tmp 215) (.inl rfl) (by intro k hk; cases hk; rfl)
            case c7 => exact ask_copy (guard_some rfl rfl rfl) (.tmp 0) (.inl rfl) (by intro k hk; cases hk; rfl)
            case c8 => exact ask_exec (guard_some rfl rfl rfl) (.pointer (some ⟨B, 0, none⟩)) rfl rfl (by intro k hk; cases hk; rfl) (fun W hW => by kernel_rfl)
            case c9 => exact ask_field (guard_some rfl rfl rfl) _ (.tmp 218) 1 (.pointer (some ⟨B, 0, none⟩)) (.pointer (some ⟨B, 1, none⟩)) rfl rfl (by intro k hk; cases hk; rfl) (fun W => by kernel_rfl)
            case c10 => exact ask_load (guard_some rfl rfl rfl) _ (.tmp 219) (.pointer (some ⟨B, 1, none⟩)) (.pointer (some ⟨l, 0, none⟩)) rfl rfl (by intro k hk; cases hk; rfl) (fun W hW => load_wl W _ _ (by rw [hW.cell (p := ⟨B, 1, none⟩) HBB4.out.lt, HBB4.out.cell]; rfl))
            case c11 => exact ask_call hG4 (guard_some rfl rfl rfl) _ _ _ #[.pointer (some ⟨l, 0, none⟩), .slice none 0 0] (.is (.int .i64 6)) rfl (by kernel_rfl) rfl rfl (by intro k hk; cases hk; rfl) (fun W hW => ((HOvr.out W hW).1).mono fun e w' h => by obtain ⟨v, h1, h2, h3⟩ := h; exact ⟨v, h1, h2, h3⟩)
            case c12 => exact ask_exec (guard_some rfl rfl rfl) (.bool false) rfl rfl (by intro k hk; cases hk; rfl) (fun W hW => by kernel_rfl)
            case c13 => exact ask_pick (guard_none rfl) (.tmp 216) (.const (.bool true)) (.tmp 222) false rfl rfl (by intro k hk; cases hk; rfl)
            case c14 => exact ask_copy (guard_none rfl) (.tmp 223) (.inl rfl) (by intro k hk; cases hk; rfl)
            case c15 => exact ask_copy (guard_some rfl rfl rfl) (.tmp 0) (.inl rfl) (by intro k hk; cases hk; rfl)
            case c16 => exact ask_exec (guard_some rfl rfl rfl) (.pointer (some ⟨B, 0, none⟩)) rfl rfl (by intro k hk; cases hk; rfl) (fun W hW => by kernel_rfl)
            case c17 => exact ask_field (guard_some rfl rfl rfl) _ (.tmp 226) 1 (.pointer (some ⟨B, 0, none⟩)) (.pointer (some ⟨B, 1, none⟩)) rfl rfl (by intro k hk; cases hk; rfl) (fun W => by kernel_rfl)
            case c18 => exact ask_load (guard_some rfl rfl rfl) _ (.tmp 227) (.pointer (some ⟨B, 1, none⟩)) (.pointer (some ⟨l, 0, none⟩)) rfl rfl (by intro k hk; cases hk; rfl) (fun W hW => load_wl W _ _ (by rw [hW.cell (p := ⟨B, 1, none⟩) HBB4.out.lt, HBB4.out.cell]; rfl))
            case c19 => exact ask_call hG4 (guard_some rfl rfl rfl) _ _ _ #[.pointer (some ⟨l, 0, none⟩)] (.is (.int .i64 6)) rfl (by kernel_rfl) rfl rfl (by intro k hk; cases hk; rfl) (fun W hW => ((HOvr.out W hW).2.1).mono fun e w' h => by obtain ⟨v, h1, h2, h3⟩ := h; exact ⟨v, h1, h2, h3⟩)
            case c20 => exact ask_exec (guard_some rfl rfl rfl) (.bool false) rfl rfl (by intro k hk; cases hk; rfl) (fun W hW => by kernel_rfl)
            case c21 => exact ask_pick (guard_none rfl) (.tmp 224) (.const (.bool true)) (.tmp 230) false rfl rfl (by intro k hk; cases hk; rfl)
            case c22 => exact ask_copy (guard_none rfl) (.tmp 231) (.inl rfl) (by intro k hk; cases hk; rfl)
            case c23 => exact ask_copy (guard_some rfl rfl rfl) (.tmp 0) (.inl rfl) (by intro k hk; cases hk; rfl)
            case c24 => exact ask_exec (guard_some rfl rfl rfl) (.pointer (some ⟨B, 0, none⟩)) rfl rfl (by intro k hk; cases hk; rfl) (fun W hW => by kernel_rfl)
            case c25 => exact ask_field (guard_some rfl rfl rfl) _ (.tmp 234) 1 (.pointer (some ⟨B, 0, none⟩)) (.pointer (some ⟨B, 1, none⟩)) rfl rfl (by intro k hk; cases hk; rfl) (fun W => by kernel_rfl)
            case c26 => exact ask_load (guard_some rfl rfl rfl) _ (.tmp 235) (.pointer (some ⟨B, 1, none⟩)) (.pointer (some ⟨l, 0, none⟩)) rfl rfl (by intro k hk; cases hk; rfl) (fun W hW => load_wl W _ _ (by rw [hW.cell (p := ⟨B, 1, none⟩) HBB4.out.lt, HBB4.out.cell]; rfl))
            case c27 => exact ask_copy (guard_some rfl rfl rfl) (.tmp 0) (.inl rfl) (by intro k hk; cases hk; rfl)
            case c28 => exact ask_exec (guard_some rfl rfl rfl) (.pointer (some ⟨B, 0, none⟩)) rfl rfl (by intro k hk; cases hk; rfl) (fun W hW => by kernel_rfl)
            case c29 => exact ask_field (guard_some rfl rfl rfl) _ (.tmp 238) 2 (.pointer (some ⟨B, 0, none⟩)) (.pointer (some ⟨B, 2, none⟩)) rfl rfl (by intro k hk; cases hk; rfl) (fun W => by kernel_rfl)
            case c30 => exact ask_load (guard_some rfl rfl rfl) _ (.tmp 239) (.pointer (some ⟨B, 2, none⟩)) (.pointer (some ⟨x, 0, none⟩)) rfl rfl (by intro k hk; cases hk; rfl) (fun W hW => load_rl W _ _ (by rw [hW.cell (p := ⟨B, 2, none⟩) HBB4.out.lt, HBB4.out.cell]; rfl))
            case c31 => exact ask_exec (guard_some rfl rfl rfl) (.pointer (some ⟨x, 0, none⟩)) rfl rfl (by intro k hk; cases hk; rfl) (fun W hW => by kernel_rfl)
            case c32 => exact ask_field (guard_some rfl rfl rfl) _ (.tmp 241) 0 (.pointer (some ⟨x, 0, none⟩)) (.pointer (some ⟨x, 0, none⟩)) rfl rfl (by intro k hk; cases hk; rfl) (fun W => by kernel_rfl)
            case c33 => exact ask_load (guard_some rfl rfl rfl) _ (.tmp 242) (.pointer (some ⟨x, 0, none⟩)) (.int .u64 (f : Int)) rfl rfl (by intro k hk; cases hk; rfl) (fun W hW => load_u64 W _ _ (by rw [hW.cell (p := ⟨x, 0, none⟩) HXX4.out.lt, HXX4.out.cell, HF.out]; rfl))
            case c34 => exact ask_call hG4 (guard_some rfl rfl rfl) _ _ _ #[.pointer (some ⟨l, 0, none⟩), .int .u64 (f : Int)] (.is (.int .i64 6)) rfl (by kernel_rfl) rfl rfl (by intro k hk; cases hk; rfl) (fun W hW => ((HOvr.out W hW).2.2.1).mono fun e w' h => by obtain ⟨v, h1, h2, h3⟩ := h; exact ⟨v, h1, h2, h3⟩)
            case c35 => exact ask_exec (guard_some rfl rfl rfl) (.bool false) rfl rfl (by intro k hk; cases hk; rfl) (fun W hW => by kernel_rfl)
            case c36 => exact ask_pick (guard_none rfl) (.tmp 232) (.const (.bool true)) (.tmp 245) false rfl rfl (by intro k hk; cases hk; rfl)
            case c37 => exact ask_copy (guard_none rfl) (.tmp 246) (.inl rfl) (by intro k hk; cases hk; rfl)
            case c38 => exact ask_copy (guard_some rfl rfl rfl) (.tmp 0) (.inl rfl) (by intro k hk; cases hk; rfl)
            case c39 => exact ask_exec (guard_some rfl rfl rfl) (.pointer (some ⟨B, 0, none⟩)) rfl rfl (by intro k hk; cases hk; rfl) (fun W hW => by kernel_rfl)
            case c40 => exact ask_field (guard_some rfl rfl rfl) _ (.tmp 249) 1 (.pointer (some ⟨B, 0, none⟩)) (.pointer (some ⟨B, 1, none⟩)) rfl rfl (by intro k hk; cases hk; rfl) (fun W => by kernel_rfl)
            case c41 => exact ask_load (guard_some rfl rfl rfl) _ (.tmp 250) (.pointer (some ⟨B, 1, none⟩)) (.pointer (some ⟨l, 0, none⟩)) rfl rfl (by intro k hk; cases hk; rfl) (fun W hW => load_wl W _ _ (by rw [hW.cell (p := ⟨B, 1, none⟩) HBB4.out.lt, HBB4.out.cell]; rfl))
            case c42 => exact ask_copy (guard_some rfl rfl rfl) (.tmp 0) (.inl rfl) (by intro k hk; cases hk; rfl)
            case c43 => exact ask_exec (guard_some rfl rfl rfl) (.pointer (some ⟨B, 0, none⟩)) rfl rfl (by intro k hk; cases hk; rfl) (fun W hW => by kernel_rfl)
            case c44 => exact ask_field (guard_some rfl rfl rfl) _ (.tmp 253) 2 (.pointer (some ⟨B, 0, none⟩)) (.pointer (some ⟨B, 2, none⟩)) rfl rfl (by intro k hk; cases hk; rfl) (fun W => by kernel_rfl)
            case c45 => exact ask_load (guard_some rfl rfl rfl) _ (.tmp 254) (.pointer (some ⟨B, 2, none⟩)) (.pointer (some ⟨x, 0, none⟩)) rfl rfl (by intro k hk; cases hk; rfl) (fun W hW => load_rl W _ _ (by rw [hW.cell (p := ⟨B, 2, none⟩) HBB4.out.lt, HBB4.out.cell]; rfl))
            case c46 => exact ask_exec (guard_some rfl rfl rfl) (.pointer (some ⟨x, 0, none⟩)) rfl rfl (by intro k hk; cases hk; rfl) (fun W hW => by kernel_rfl)
            case c47 => exact ask_field (guard_some rfl rfl rfl) _ (.tmp 256) 0 (.pointer (some ⟨x, 0, none⟩)) (.pointer (some ⟨x, 0, none⟩)) rfl rfl (by intro k hk; cases hk; rfl) (fun W => by kernel_rfl)
            case c48 => exact ask_load (guard_some rfl rfl rfl) _ (.tmp 257) (.pointer (some ⟨x, 0, none⟩)) (.int .u64 (f : Int)) rfl rfl (by intro k hk; cases hk; rfl) (fun W hW => load_u64 W _ _ (by rw [hW.cell (p := ⟨x, 0, none⟩) HXX4.out.lt, HXX4.out.cell, HF.out]; rfl))
            case c49 => exact ask_call hG4 (guard_some rfl rfl rfl) _ _ _ #[.pointer (some ⟨l, 0, none⟩), .int .u64 (f : Int)] (.is (.int .i64 6)) rfl (by kernel_rfl) rfl rfl (by intro k hk; cases hk; rfl) (fun W hW => ((HOvr.out W hW).2.2.2).mono fun e w' h => by obtain ⟨v, h1, h2, h3⟩ := h; exact ⟨v, h1, h2, h3⟩)
            case c50 => exact ask_exec (guard_some rfl rfl rfl) (.bool false) rfl rfl (by intro k hk; cases hk; rfl) (fun W hW => by kernel_rfl)
            case c51 => exact ask_pick (guard_none rfl) (.tmp 247) (.const (.bool true)) (.tmp 260) false rfl rfl (by intro k hk; cases hk; rfl)
            case c52 => exact ask_copy (guard_none rfl) (.tmp 261) (.inl rfl) (by intro k hk; cases hk; rfl)
            case c53 => exact ask_copy (guard_some rfl rfl rfl) (.tmp 0) (.inl rfl) (by intro k hk; cases hk; rfl)
            case c54 => exact ask_call hG4 (guard_some rfl rfl rfl) _ _ _ #[.pointer (some ⟨B, 0, none⟩)] (.is (.bool true)) rfl (by kernel_rfl) rfl rfl (by intro k hk; cases hk; rfl) (fun W hW => (HSm4.out W hW).mono fun e w' h => by obtain ⟨v, h1, h2, h3⟩ := h; exact ⟨v, h1, h2, h3⟩)
            case c55 => exact ask_exec (guard_some rfl rfl rfl) (.bool false) rfl rfl (by intro k hk; cases hk; rfl) (fun W hW => by kernel_rfl)
            case c56 => exact ask_pick (guard_none rfl) (.tmp 262) (.const (.bool true)) (.tmp 265) false rfl rfl (by intro k hk; cases hk; rfl)
          · intro af W7 hW hd' hs' hf'
            have t0 : af.tmps.getD 0 undef = .pointer (some ⟨B, 0, none⟩) := hf' 0 rfl
            have t2 : af.tmps.getD 2 undef = .int .i64 4 := hf' 2 rfl
            have t4 : af.tmps.getD 4 undef = .pointer (some ⟨b0, 0, none⟩) := hf' 4 rfl
            have t7 : af.tmps.getD 7 undef = .int .u64 (m : Int) := hf' 7 rfl
            have t8 : af.tmps.getD 8 undef = .int .i64 (k : Int) := hf' 8 rfl
            have t266 : af.tmps.getD 266 undef = .bool false := hf' 266 rfl
            obtain ⟨us, hus, haf⟩ := act_open 346 af hs' hd'
            rw [← hus] at t0 t2 t4 t7 t8 t266
            have el := range_346 us
            rw [el] at haf
            subst haf
            rw [t0, t2, t4, t7, t8, t266]
            have HW7 := Lib.hid hW
            clear hus t0 t2 t4 t7 t8 t266 el hf' hs' hd' hW
            have HA7 := Lib.hid (HA4.out.below HW7.out).1
            have HBox7 := Lib.hid (HBox4.out.keep HW7.out)
            clear HDn HOvr HSm4
            have hbb7 := HA7.out.blkB
            obtain ⟨v7, hx7⟩ := HA7.out.blkX
            have HBB7 := Lib.hid hbb7
            have HXX7 := Lib.hid hx7
            have hG7 : ∀ W W' : World, Below W7.heap.size W7 W → Below W.heap.size W W' → Below W7.heap.size W7 W' := fun W W' h h' => h.trans (h'.mono h.size)
            have kB0 : W7.cell? ⟨B, 0, none⟩ = some (dp d) := by rw [hbb7.cell]; rfl
            have kB1 : W7.cell? ⟨B, 1, none⟩ = some (.pointer (some ⟨l, 0, none⟩)) := by rw [hbb7.cell]; rfl
            have kB2 : W7.cell? ⟨B, 2, none⟩ = some (.pointer (some ⟨x, 0, none⟩)) := by rw [hbb7.cell]; rfl
            have kO1 : W7.cell? ⟨b0, 1, none⟩ = some (.int .i64 (k : Int)) := by rw [HBox7.out.cell]; rfl
            have kO2 : W7.cell? ⟨b0, 2, none⟩ = some (.slice ba bn bc) := by rw [HBox7.out.cell]; rfl
            have kx0 : W7.cell? ⟨x, 0, none⟩ = some (.int .u64 (f : Int)) := by rw [hx7.cell, HF.out]; rfl
            have kx3 : W7.cell? ⟨x, 3, none⟩ = some (.bool false) := by rw [hx7.cell]; show some (Value.bool V.over) = _; rw [HOv.out]
            clear hbb7 hx7
            go_upto_region 56 with fail
            clear kB0 kB1 kB2 kO1 kO2 kx0 kx3
            refine region_tails_by 12 [(333, .is (.pointer (some ⟨B, 0, none⟩))), (334, .is (.pointer (some ⟨B, 0, none⟩))), (335, .is (.pointer (some ⟨B, 2, none⟩))), (336, .is (.pointer (some ⟨x, 0, none⟩))), (337, .is (.pointer (some ⟨B, 0, none⟩))), (338, .is (.pointer (some ⟨B, 0, none⟩))), (339, .is (.pointer (some ⟨B, 2, none⟩))), (340, .is (.pointer (some ⟨x, 0, none⟩))), (341, .is (.pointer (some ⟨x, 0, none⟩))), (342, .is (.pointer (some ⟨x, 2, none⟩))), (343, .is (.int .i64 (V.sure : Int))), (344, .is (.int .u64 (m : Int)))] [0, 336, 343, 344] (fun W => Below W7.heap.size W7 W) (by kernel_rfl) (by kernel_rfl) (by kernel_rfl) (by kernel_rfl) (by kernel_rfl) (by decide) (by kernel_rfl) (by kernel_rfl) ((Below.refl _ _).drew) ?_ ?_
            · refine ⟨?c0, ?c1, ?c2, ?c3, ?c4, ?c5, ?c6, ?c7, ?c8, ?c9, ?c10, ?c11, trivial⟩
              case c0 => exact ask_copy (guard_none rfl) (.tmp 0) (.inl rfl) (by intro k hk; cases hk; rfl)
              case c1 => exact ask_exec (guard_none rfl) (.pointer (some ⟨B, 0, none⟩)) rfl rfl (by intro k hk; cases hk; rfl) (fun W hW => by kernel_rfl)
              case c2 => exact ask_field (guard_none rfl) _ (.tmp 334) 2 (.pointer (some ⟨B, 0, none⟩)) (.pointer (some ⟨B, 2, none⟩)) rfl rfl (by intro k hk; cases hk; rfl) (fun W => by kernel_rfl)
              case c3 => exact ask_load (guard_none rfl) _ (.tmp 335) (.pointer (some ⟨B, 2, none⟩)) (.pointer (some ⟨x, 0, none⟩)) rfl rfl (by intro k hk; cases hk; rfl) (fun W hW => load_rl W _ _ (by rw [hW.cell (p := ⟨B, 2, none⟩) HBB7.out.lt, HBB7.out.cell]; rfl))
              case c4 => exact ask_copy (guard_none rfl) (.tmp 0) (.inl rfl) (by intro k hk; cases hk; rfl)
              case c5 => exact ask_exec (guard_none rfl) (.pointer (some ⟨B, 0, none⟩)) rfl rfl (by intro k hk; cases hk; rfl) (fun W hW => by kernel_rfl)
              case c6 => exact ask_field (guard_none rfl) _ (.tmp 338) 2 (.pointer (some ⟨B, 0, none⟩)) (.pointer (some ⟨B, 2, none⟩)) rfl rfl (by intro k hk; cases hk; rfl) (fun W => by kernel_rfl)
              case c7 => exact ask_load (guard_none rfl) _ (.tmp 339) (.pointer (some ⟨B, 2, none⟩)) (.pointer (some ⟨x, 0, none⟩)) rfl rfl (by intro k hk; cases hk; rfl) (fun W hW => load_rl W _ _ (by rw [hW.cell (p := ⟨B, 2, none⟩) HBB7.out.lt, HBB7.out.cell]; rfl))
              case c8 => exact ask_exec (guard_none rfl) (.pointer (some ⟨x, 0, none⟩)) rfl rfl (by intro k hk; cases hk; rfl) (fun W hW => by kernel_rfl)
              case c9 => exact ask_field (guard_none rfl) _ (.tmp 341) 2 (.pointer (some ⟨x, 0, none⟩)) (.pointer (some ⟨x, 2, none⟩)) rfl rfl (by intro k hk; cases hk; rfl) (fun W => by kernel_rfl)
              case c10 => exact ask_load (guard_none rfl) _ (.tmp 342) (.pointer (some ⟨x, 2, none⟩)) (.int .i64 (V.sure : Int)) rfl rfl (by intro k hk; cases hk; rfl) (fun W hW => load_int W _ _ (by rw [hW.cell (p := ⟨x, 2, none⟩) HXX7.out.lt, HXX7.out.cell]; rfl))
              case c11 => exact ask_copy (guard_none rfl) (.tmp 7) (.inl rfl) (by intro k hk; cases hk; rfl)
            · intro af W8 hW hd' hs' hf'
              have t0 : af.tmps.getD 0 undef = .pointer (some ⟨B, 0, none⟩) := hf' 0 rfl
              have t336 : af.tmps.getD 336 undef = .pointer (some ⟨x, 0, none⟩) := hf' 336 rfl
              have t343 : af.tmps.getD 343 undef = .int .i64 (V.sure : Int) := hf' 343 rfl
              have t344 : af.tmps.getD 344 undef = .int .u64 (m : Int) := hf' 344 rfl
              obtain ⟨us, hus, haf⟩ := act_open 346 af hs' hd'
              rw [← hus] at t0 t336 t343 t344
              have el := range_346 us
              rw [el] at haf
              subst haf
              rw [t0, t336, t343, t344]
              have HW8 := Lib.hid hW
              clear hus t0 t336 t343 t344 el hf' hs' hd' hW
              have HA8 := Lib.hid (HA7.out.below HW8.out).1
              go_wp2_with fail
              have hlo := at_lost HA8.out V.sure (V.first + k) (by have := HSu.out; have := HNum.out; have := HN.out; have := HK.out; omega) (by have := HNum.out; have := HN.out; have := HK.out; omega)
              rw [← HF.out, ← HMk.out] at hlo
              refine hlo.mono ?_
              rintro e W9 ⟨rfl, ha9, hs9⟩
              rw [HMk.out, HF.out] at ha9
              have hfin : Called w Z B s N (.returned (.bool true)) W9 := called_lost ha9 HC3.out (HGo.out.more (by omega)) HNc.out
              have HFin := Lib.hid hfin
              clear hlo ha9 hs9 hfin
              go_wp2
              go_ret
              exact HFin.out
        · subst he
          have HA4 := Lib.hid ha3
          have hi3 := Lib.hid hi3
          have HCm := Lib.hid hcm3
          clear ha3 hcm3
          have hbb4 := HA4.out.blkB
          obtain ⟨v4, hx4⟩ := HA4.out.blkX
          have HBB4 := Lib.hid hbb4
          have HXX4 := Lib.hid hx4
          have hG4 : ∀ W W' : World, Below W4.heap.size W4 W → Below W.heap.size W W' → Below W4.heap.size W4 W' := fun W W' h h' => h.trans (h'.mono h.size)
          have kB0 : W4.cell? ⟨B, 0, none⟩ = some (dp d) := by rw [hbb4.cell]; rfl
          have kB1 : W4.cell? ⟨B, 1, none⟩ = some (.pointer (some ⟨l, 0, none⟩)) := by rw [hbb4.cell]; rfl
          have kB2 : W4.cell? ⟨B, 2, none⟩ = some (.pointer (some ⟨x, 0, none⟩)) := by rw [hbb4.cell]; rfl
          have kO1 : W4.cell? ⟨b0, 1, none⟩ = some (.int .i64 (k : Int)) := by rw [HBox4.out.cell]; rfl
          have kO2 : W4.cell? ⟨b0, 2, none⟩ = some (.slice ba bn bc) := by rw [HBox4.out.cell]; rfl
          have kx0 : W4.cell? ⟨x, 0, none⟩ = some (.int .u64 (f : Int)) := by rw [hx4.cell, HF.out]; rfl
          have kx3 : W4.cell? ⟨x, 3, none⟩ = some (.bool false) := by rw [hx4.cell]; show some (Value.bool V.over) = _; rw [HOv.out]
          clear hbb4 hx4
          obtain ⟨ya1, yn1, yc1, ya2, yn2, yc2, hy1, hy2, hy3⟩ := at_trimrec HA4.out HK.out
          have HY1 := Lib.hid hy1
          have HY2 := Lib.hid hy2
          have HY3 := Lib.hid hy3
          clear hy1 hy2 hy3
          go_upto_region 30 with fail
          clear kB0 kB1 kB2 kO1 kO2 kx0 kx3
          refine region_tails_by 15 [(128, .is (.pointer (some ⟨B, 0, none⟩))), (129, .is (.pointer (some ⟨B, 0, none⟩))), (130, .is (.pointer (some ⟨B, 2, none⟩))), (131, .is (.pointer (some ⟨x, 0, none⟩))), (132, .is (.pointer (some ⟨B, 0, none⟩))), (133, .is (.pointer (some ⟨B, 0, none⟩))), (134, .is (.pointer (some ⟨B, 2, none⟩))), (135, .is (.pointer (some ⟨x, 0, none⟩))), (136, .is (.pointer (some ⟨x, 0, none⟩))), (137, .is (.pointer (some ⟨x, 1, none⟩))), (138, .is (.slice ya1 yn1 yc1)), (139, .is (.int .i64 (k : Int))), (140, .is (.slice ya2 yn2 yc2)), (141, .is (.pointer (some ⟨x, 0, none⟩))), (142, .is (.pointer (some ⟨x, 1, none⟩)))] [0, 2, 4, 7, 8, 142, 140] (fun W => Below W4.heap.size W4 W) (by kernel_rfl) (by kernel_rfl) (by kernel_rfl) (by kernel_rfl) (by kernel_rfl) (by decide) (by kernel_rfl) (by kernel_rfl) ((Below.refl _ _).drew) ?_ ?_
          · refine ⟨?c0, ?c1, ?c2, ?c3, ?c4, ?c5, ?c6, ?c7, ?c8, ?c9, ?c10, ?c11, ?c12, ?c13, ?c14, trivial⟩
            case c0 => exact ask_copy (guard_none rfl) (.tmp 0) (.inl rfl) (by intro k hk; cases hk; rfl)
            case c1 => exact ask_exec (guard_none rfl) (.pointer (some ⟨B, 0, none⟩)) rfl rfl (by intro k hk; cases hk; rfl) (fun W hW => by kernel_rfl)
            case c2 => exact ask_field (guard_none rfl) _ (.tmp 129) 2 (.pointer (some ⟨B, 0, none⟩)) (.pointer (some ⟨B, 2, none⟩)) rfl rfl (by intro k hk; cases hk; rfl) (fun W => by kernel_rfl)
            case c3 => exact ask_load (guard_none rfl) _ (.tmp 130) (.pointer (some ⟨B, 2, none⟩)) (.pointer (some ⟨x, 0, none⟩)) rfl rfl (by intro k hk; cases hk; rfl) (fun W hW => load_rl W _ _ (by rw [hW.cell (p := ⟨B, 2, none⟩) HBB4.out.lt, HBB4.out.cell]; rfl))
            case c4 => exact ask_copy (guard_none rfl) (.tmp 0) (.inl rfl) (by intro k hk; cases hk; rfl)
            case c5 => exact ask_exec (guard_none rfl) (.pointer (some ⟨B, 0, none⟩)) rfl rfl (by intro k hk; cases hk; rfl) (fun W hW => by kernel_rfl)
            case c6 => exact ask_field (guard_none rfl) _ (.tmp 133) 2 (.pointer (some ⟨B, 0, none⟩)) (.pointer (some ⟨B, 2, none⟩)) rfl rfl (by intro k hk; cases hk; rfl) (fun W => by kernel_rfl)
            case c7 => exact ask_load (guard_none rfl) _ (.tmp 134) (.pointer (some ⟨B, 2, none⟩)) (.pointer (some ⟨x, 0, none⟩)) rfl rfl (by intro k hk; cases hk; rfl) (fun W hW => load_rl W _ _ (by rw [hW.cell (p := ⟨B, 2, none⟩) HBB4.out.lt, HBB4.out.cell]; rfl))
            case c8 => exact ask_exec (guard_none rfl) (.pointer (some ⟨x, 0, none⟩)) rfl rfl (by intro k hk; cases hk; rfl) (fun W hW => by kernel_rfl)
            case c9 => exact ask_field (guard_none rfl) _ (.tmp 136) 1 (.pointer (some ⟨x, 0, none⟩)) (.pointer (some ⟨x, 1, none⟩)) rfl rfl (by intro k hk; cases hk; rfl) (fun W => by kernel_rfl)
            case c10 => exact ask_load (guard_none rfl) _ (.tmp 137) (.pointer (some ⟨x, 1, none⟩)) (.slice ya1 yn1 yc1) rfl rfl (by intro k hk; cases hk; rfl) (fun W hW => load_ls W _ _ (by rw [hW.cell (p := ⟨x, 1, none⟩) HY1.out.lt, HY1.out.cell]; rfl))
            case c11 => exact ask_copy (guard_none rfl) (.tmp 8) (.inl rfl) (by intro k hk; cases hk; rfl)
            case c12 => exact ask_slice (guard_none rfl) _ (.tmp 138) (some (.tmp 139)) none none (.slice ya1 yn1 yc1) (.slice ya2 yn2 yc2) (some (.int .i64 (k : Int))) none none rfl rfl rfl rfl rfl (by intro k hk; cases hk; rfl) (fun W => HY2.out W)
            case c13 => exact ask_exec (guard_none rfl) (.pointer (some ⟨x, 0, none⟩)) rfl rfl (by intro k hk; cases hk; rfl) (fun W hW => by kernel_rfl)
            case c14 => exact ask_field (guard_none rfl) _ (.tmp 141) 1 (.pointer (some ⟨x, 0, none⟩)) (.pointer (some ⟨x, 1, none⟩)) rfl rfl (by intro k hk; cases hk; rfl) (fun W => by kernel_rfl)
          · intro af Wr hW hd' hs' hf'
            have t0 : af.tmps.getD 0 undef = .pointer (some ⟨B, 0, none⟩) := hf' 0 rfl
            have t2 : af.tmps.getD 2 undef = .int .i64 4 := hf' 2 rfl
            have t4 : af.tmps.getD 4 undef = .pointer (some ⟨b0, 0, none⟩) := hf' 4 rfl
            have t7 : af.tmps.getD 7 undef = .int .u64 (m : Int) := hf' 7 rfl
            have t8 : af.tmps.getD 8 undef = .int .i64 (k : Int) := hf' 8 rfl
            have t142 : af.tmps.getD 142 undef = .pointer (some ⟨x, 1, none⟩) := hf' 142 rfl
            have t140 : af.tmps.getD 140 undef = .slice ya2 yn2 yc2 := hf' 140 rfl
            obtain ⟨us, hus, haf⟩ := act_open 346 af hs' hd'
            rw [← hus] at t0 t2 t4 t7 t8 t142 t140
            have el := range_346 us
            rw [el] at haf
            subst haf
            rw [t0, t2, t4, t7, t8, t142, t140]
            have HWr := Lib.hid hW
            clear hus t0 t2 t4 t7 t8 t142 t140 el hf' hs' hd' hW
            obtain ⟨hbx, haa⟩ := (HY3.out Wr HWr.out)
            rw [← HF.out, ← HMk.out] at haa
            have c1 : Wr.cell? ⟨x, 1, none⟩ = some (.slice ya1 yn1 yc1) := by rw [(HY1.out.keep HWr.out).cell]; rfl
            have f1 : Wr.frozen? ⟨x, 1, none⟩ = false := (HY1.out.keep HWr.out).frozen 1
            have c2 : (Wr.setCell ⟨x, 1, none⟩ (.slice ya2 yn2 yc2)).cell? ⟨x, 0, none⟩ = some (.int .u64 (f : Int)) := by rw [hbx.cell, HF.out]; rfl
            have f2 : (Wr.setCell ⟨x, 1, none⟩ (.slice ya2 yn2 yc2)).frozen? ⟨x, 0, none⟩ = false := hbx.frozen 0
            have hne : B ≠ x := fun e => by
              obtain ⟨S, X, _, _, hr, _, _, _, _, h5, _⟩ := HA4.out.ex
              obtain ⟨_, _, _, _, _, _, h, _⟩ := hr.ex
              exact h5 (e ▸ h)
            have c3 : (Wr.setCell ⟨x, 1, none⟩ (.slice ya2 yn2 yc2)).cell? ⟨B, 2, none⟩ = some (.pointer (some ⟨x, 0, none⟩)) := by
              rw [((HBB4.out.keep HWr.out).other ⟨x, 1, none⟩ (.slice ya2 yn2 yc2) hne).cell]; rfl
            have k5 : ((Wr.setCell ⟨x, 1, none⟩ (.slice ya2 yn2 yc2)).setCell ⟨x, 0, none⟩ (.int .u64 (m : Int))).cell? ⟨B, 2, none⟩ = some (.pointer (some ⟨x, 0, none⟩)) := by rw [haa.1.blkB.cell]; rfl
            have HA5 := Lib.hid haa.1
            clear haa hbx hne
            go_upto_region 31 with fail
            obtain ⟨Wq, hWq⟩ : ∃ Wq, Wq = Wr.setCell ⟨x, 1, none⟩ (.slice ya2 yn2 yc2) := ⟨_, rfl⟩
            rw [← hWq] at HA5 k5 c2 f2 c3 ⊢
            clear hWq c1 f1
            go_upto_region 32 with fail
            obtain ⟨Ws, hWs⟩ : ∃ Ws, Ws = Wq.setCell ⟨x, 0, none⟩ (.int .u64 (m : Int)) := ⟨_, rfl⟩
            rw [← hWs] at HA5 k5 ⊢
            clear hWs c2 f2 c3
            go_wp2_with fail
            refine (at_took HA5.out).mono ?_
            rintro e Wa ⟨rfl, haa, hsa⟩
            have HAa := Lib.hid haa
            clear haa hsa k5
            have HSm := Lib.hid (at_same HAa.out)
            go_wp2_with fail
            refine HSm.out.mono ?_
            rintro e W9 ⟨v, rfl, rfl, hb9⟩
            have hfin : Called w Z B s N (.returned (.bool true)) W9 := called_ok (HAa.out.below hb9).1 (hi3.out.more (by omega)) (by have := HN.out; omega) HCm.out
            have HFin := Lib.hid hfin
            clear hb9 hfin
            go_wp2
            go_ret
            exact HFin.out
end Go.Proofs.YthaggdkfaglgaaaGreatDoor
