/- The law's call, kind 0. -/
import Derived.Test.YthaggdkfaglgaaaGreatDoorJX2
namespace Go.Proofs.YthaggdkfaglgaaaGreatDoor
set_option maxRecDepth 20000
open Go.RowKit Go.Maps DiskMath WalMath FrameMath Reg

set_option maxHeartbeats 4000000 in
set_option maxRecDepth 100000 in
theorem call0_any {w : World} {Z : Nat → Prop} {B : Nat} {s : St} {V : WS} {N : Nat} {kd n : Int} {ba : Option Addr} {bn bc : Nat} {ka : Option Addr} {kn kc : Nat} {r : List UInt8} (h : Run w Z B s V.first V.recs false V) (hi : Idle s V N) (hN : N ≤ 97) (ht : Tab w) (hZ : ¬ Z 0) (hn : -9223372036854775808 ≤ n ∧ n ≤ 9223372036854775807)
    (hb : ∀ W, OnlyS Z w W → Bys W (.slice ba bn bc) r) (hrl : r.length = bn) (hbl : bn ≤ 1048576) (hba : r ≠ [] → ∀ k, (Value.slice ba bn bc).ownBlock = some k → ¬ Z k ∧ k < w.heap.size) :
    Calls Tryz.prog 14 #[.pointer (some ⟨B, 0, none⟩), .agg #[.int .i64 kd, .int .i64 n, .slice ba bn bc, .slice ka kn kc], .int .i64 0] w (Called w Z B s N) := by
  obtain ⟨d, l, x, c0, hc0, hat⟩ := at_of_run h
  have hat0 := hat.tight (c' := 400) (by have := hi.rest.sure.few; have := hi.ops; omega) (by decide)
  have hov := hi.over
  have hs99 := hi.rest.sure.lo
  obtain ⟨f, hf⟩ : ∃ f, f = V.first := ⟨_, rfl⟩
  obtain ⟨nx, hnx⟩ : ∃ nx, nx = V.first + V.recs.length := ⟨_, rfl⟩
  obtain ⟨m, hm⟩ := nn_nat f n
  have HNum := Lib.hid hi.num
  have HI := Lib.hid hi
  have HN := Lib.hid hN
  have HT := Lib.hid ht
  have HZ := Lib.hid hZ
  have HRl := Lib.hid hrl
  have HBl := Lib.hid hbl
  have HBa := Lib.hid hba
  have HBy := Lib.hid hb
  have HNr := Lib.hid hn
  have HF := Lib.hid hf
  have HNx := Lib.hid hnx
  have HM := Lib.hid hm
  have HOv := Lib.hid hov
  have HSu := Lib.hid hs99
  have HAt := Lib.hid hat0
  clear h hi hN ht hZ hn hb hrl hbl hba hat hat0 hc0 hov hs99 hf hnx hm
  go_enter Tryz.func14, Tryz.ntmps14
  go_upto_region 1 with fail
  obtain ⟨W0, hW0⟩ : ∃ W0, W0 = w.alloc (.cells #[.int .i64 kd, .int .i64 n, .slice ba bn bc, .slice ka kn kc] 30) := ⟨_, rfl⟩
  obtain ⟨b0, hb0⟩ : ∃ b0, b0 = w.heap.size := ⟨_, rfl⟩
  have hbox : Blk W0 b0 30 #[.int .i64 kd, .int .i64 n, .slice ba bn bc, .slice ka kn kc] := by rw [hW0, hb0]; exact Blk.new w _ _
  have hb00 : Below w.heap.size w W0 := by rw [hW0]; exact (Below.refl _ w).alloc (Nat.le_refl _) _
  have hsz0 : W0.heap.size = b0 + 1 := by rw [hW0, hb0]; simp
  obtain ⟨G0, hG0, hGb⟩ : ∃ G0, At w Z B d l x 400 s V.first V.recs false V G0 W0 ∧ G0 b0 := ⟨_, (HAt.out.grow hb00).1, .inr ⟨by omega, by omega⟩⟩
  have HAt0 := Lib.hid hG0
  have HGb := Lib.hid hGb
  have HBox0 := Lib.hid hbox
  have HBB := Lib.hid hG0.blkB
  obtain ⟨v0, hx0⟩ := hG0.blkX
  have HXX := Lib.hid hx0
  have hG : ∀ W W' : World, Below W0.heap.size W0 W → Below W.heap.size W W' → Below W0.heap.size W0 W' := fun W W' h h' => h.trans (h'.mono h.size)
  rw [← hW0, ← hb0]
  clear hW0 hb0 hbox hb00 hsz0 hG0 hGb hx0
  refine region_by [(13, .is (.pointer (some ⟨B, 0, none⟩))), (14, .is (.pointer (some ⟨B, 0, none⟩))), (15, .is (.pointer (some ⟨B, 2, none⟩))), (16, .is (.pointer (some ⟨x, 0, none⟩))), (17, .is (.pointer (some ⟨x, 0, none⟩))), (18, .is (.pointer (some ⟨x, 0, none⟩))), (19, .is (.int .u64 (f : Int))), (20, .is (.pointer (some ⟨b0, 1, none⟩))), (21, .is (.int .i64 n)), (22, .is (.int .u64 (IntKind.u64.wrap n))), (23, .is (.int .u64 (m : Int))), (7, .is (.int .u64 (m : Int)))] [0, 2, 4, 7] (fun W => Below W0.heap.size W0 W) (by kernel_rfl) (by kernel_rfl) (by kernel_rfl) (by kernel_rfl) (by kernel_rfl) ((Below.refl _ _).drew) ?_ ?_
  · refine ⟨?c0, ?c1, ?c2, ?c3, ?c4, ?c5, ?c6, ?c7, ?c8, ?c9, ?c10, ?c11, trivial⟩
    case c0 => exact ask_copy (guard_none rfl) (.tmp 0) (.inl rfl) (by intro k hk; cases hk; rfl)
    case c1 => exact ask_exec (guard_none rfl) (.pointer (some ⟨B, 0, none⟩)) rfl rfl (by intro k hk; cases hk; rfl) (fun W hW => by kernel_rfl)
    case c2 => exact ask_field (guard_none rfl) _ (.tmp 14) 2 (.pointer (some ⟨B, 0, none⟩)) (.pointer (some ⟨B, 2, none⟩)) rfl rfl (by intro k hk; cases hk; rfl) (fun W => by kernel_rfl)
    case c3 => exact ask_load (guard_none rfl) _ (.tmp 15) (.pointer (some ⟨B, 2, none⟩)) (.pointer (some ⟨x, 0, none⟩)) rfl rfl (by intro k hk; cases hk; rfl) (fun W hW => load_rl W _ _ (by rw [hW.cell (p := ⟨B, 2, none⟩) HBB.out.lt, HBB.out.cell]; rfl))
    case c4 => exact ask_exec (guard_none rfl) (.pointer (some ⟨x, 0, none⟩)) rfl rfl (by intro k hk; cases hk; rfl) (fun W hW => by kernel_rfl)
    case c5 => exact ask_field (guard_none rfl) _ (.tmp 17) 0 (.pointer (some ⟨x, 0, none⟩)) (.pointer (some ⟨x, 0, none⟩)) rfl rfl (by intro k hk; cases hk; rfl) (fun W => by kernel_rfl)
    case c6 => exact ask_load (guard_none rfl) _ (.tmp 18) (.pointer (some ⟨x, 0, none⟩)) (.int .u64 (f : Int)) rfl rfl (by intro k hk; cases hk; rfl) (fun W hW => load_u64 W _ _ (by rw [hW.cell (p := ⟨x, 0, none⟩) HXX.out.lt, HXX.out.cell, HF.out]; rfl))
    case c7 => exact ask_field (guard_none rfl) _ (.tmp 4) 1 (.pointer (some ⟨b0, 0, none⟩)) (.pointer (some ⟨b0, 1, none⟩)) rfl rfl (by intro k hk; cases hk; rfl) (fun W => by kernel_rfl)
    case c8 => exact ask_load (guard_none rfl) _ (.tmp 20) (.pointer (some ⟨b0, 1, none⟩)) (.int .i64 n) rfl rfl (by intro k hk; cases hk; rfl) (fun W hW => load_int W _ _ (by rw [hW.cell (p := ⟨b0, 1, none⟩) HBox0.out.lt, HBox0.out.cell]; rfl))
    case c9 => exact ask_exec (guard_none rfl) (.int .u64 (IntKind.u64.wrap n)) rfl rfl (by intro k hk; cases hk; rfl) (fun W hW => by kernel_rfl)
    case c10 => exact ask_bin (guard_none rfl) _ _ _ _ _ _ _ _ rfl rfl rfl (by intro k hk; cases hk; rfl) (fun W => add_u64 _ _ _ _ _ _ HM.out W)
    case c11 => exact ask_copy (guard_none rfl) (.tmp 23) (.inr rfl) (by intro k hk; cases hk; rfl)
  · intro af W1 hW hd' hs' hf'
    have t0 : af.tmps.getD 0 undef = .pointer (some ⟨B, 0, none⟩) := hf' 0 rfl
    have t2 : af.tmps.getD 2 undef = .int .i64 0 := hf' 2 rfl
    have t4 : af.tmps.getD 4 undef = .pointer (some ⟨b0, 0, none⟩) := hf' 4 rfl
    have t7 : af.tmps.getD 7 undef = .int .u64 (m : Int) := hf' 7 rfl
    obtain ⟨us, hus, haf⟩ := act_open 346 af hs' hd'
    rw [← hus] at t0 t2 t4 t7
    have el := range_346 us
    rw [el] at haf
    subst haf
    rw [t0, t2, t4, t7]
    have HW1 := Lib.hid hW
    clear hus t0 t2 t4 t7 el hf' hs' hd' hW
    have HA1 := Lib.hid (HAt0.out.below HW1.out).1
    have HBox1 := Lib.hid (HBox0.out.keep HW1.out)
    have hbb1 := HA1.out.blkB
    obtain ⟨v1, hx1⟩ := HA1.out.blkX
    have HBB1 := Lib.hid hbb1
    have HXX1 := Lib.hid hx1
    have hG1 : ∀ W W' : World, Below W1.heap.size W1 W → Below W.heap.size W W' → Below W1.heap.size W1 W' := fun W W' h h' => h.trans (h'.mono h.size)
    have kB0 : W1.cell? ⟨B, 0, none⟩ = some (dp d) := by rw [hbb1.cell]; rfl
    have kB1 : W1.cell? ⟨B, 1, none⟩ = some (.pointer (some ⟨l, 0, none⟩)) := by rw [hbb1.cell]; rfl
    have kB2 : W1.cell? ⟨B, 2, none⟩ = some (.pointer (some ⟨x, 0, none⟩)) := by rw [hbb1.cell]; rfl
    have kO1 : W1.cell? ⟨b0, 1, none⟩ = some (.int .i64 n) := by rw [HBox1.out.cell]; rfl
    have kO2 : W1.cell? ⟨b0, 2, none⟩ = some (.slice ba bn bc) := by rw [HBox1.out.cell]; rfl
    have kx0 : W1.cell? ⟨x, 0, none⟩ = some (.int .u64 (f : Int)) := by rw [hx1.cell, HF.out]; rfl
    have kx3 : W1.cell? ⟨x, 3, none⟩ = some (.bool false) := by rw [hx1.cell]; show some (Value.bool V.over) = _; rw [HOv.out]
    clear hbb1 hx1
    by_cases hlong : 16384 < bn
    · have i1 : (bn : Int) > 16384 := by omega
      have A1 : Hid (∃ v' w', (Builtin.append_ #[27, 27] 27 #[.slice (some ⟨W1.heap.size, 0, none⟩) 0 0, .slice ba bn bc]).run Tryz.prog (W1.alloc (.cells #[] 5)) = .ok v' w' ∧ Row w' W1.heap.size v' r ∧ Below (W1.alloc (.cells #[] 5)).heap.size (W1.alloc (.cells #[] 5)) w') :=
        Lib.hid (append_lit (Nat.le_refl _) (heap_alloc_new W1 _) ((HBy.out W1 HA1.out.only).below (Nat.le_refl _) ((Below.refl _ W1).alloc (Nat.le_refl _) _)) (by have := HRl.out; have := HBl.out; omega))
      have kO2b : (W1.alloc (.cells #[] 5)).cell? ⟨b0, 2, none⟩ = some (.slice ba bn bc) := by rw [(HBox1.out.alloc _).cell]; rfl
      go_upto_region 16 with (at_builtin; refine wpList_append_by rfl _ _ 27 rfl _ _ rfl rfl _ A1.out ?_; rintro vb W2 ⟨hr2, hb2⟩; (obtain ⟨va, vc, rfl⟩ := slice_of_row hr2); (have HR2 := Lib.hid hr2); (have HB2 := Lib.hid hb2); clear hr2 hb2)
      rw [HRl.out] at HR2 ⊢
      have hb12 : Below W1.heap.size W1 W2 := ((Below.refl _ W1).alloc (Nat.le_refl _) _).trans (HB2.out.mono (by simp))
      obtain ⟨G, hat2, hsg, hgb, hgr⟩ : ∃ G, At w Z B d l x 400 s V.first V.recs false V G W2 ∧ SameG G0 W1 W2 ∧ G b0 ∧ ∀ k, (Value.slice va bn vc).ownBlock = some k → G k := ⟨_, (HA1.out.grow hb12).1, (HA1.out.grow hb12).2, .inl HGb.out, fun k hk => .inr (HR2.out.lt hk)⟩
      have HBox2 := Lib.hid (HBox1.out.keep hb12)
      have HA2 := Lib.hid hat2
      have HGb2 := Lib.hid hgb
      have HGr := Lib.hid hgr
      have hlt1 := HBox1.out.lt
      have HLt1 := Lib.hid hlt1
      clear kB0 kB1 kB2 kO1 kO2 kx0 kx3
      clear A1 HB2 hb12 hat2 hgb hgr hsg hlt1 kO2b
      have hbb2 := HA2.out.blkB
      obtain ⟨v2, hx2⟩ := HA2.out.blkX
      have HBB2 := Lib.hid hbb2
      have HXX2 := Lib.hid hx2
      have hG2 : ∀ W W' : World, Below W2.heap.size W2 W → Below W.heap.size W W' → Below W2.heap.size W2 W' := fun W W' h h' => h.trans (h'.mono h.size)
      have kB0 : W2.cell? ⟨B, 0, none⟩ = some (dp d) := by rw [hbb2.cell]; rfl
      have kB1 : W2.cell? ⟨B, 1, none⟩ = some (.pointer (some ⟨l, 0, none⟩)) := by rw [hbb2.cell]; rfl
      have kB2 : W2.cell? ⟨B, 2, none⟩ = some (.pointer (some ⟨x, 0, none⟩)) := by rw [hbb2.cell]; rfl
      have kO1 : W2.cell? ⟨b0, 1, none⟩ = some (.int .i64 n) := by rw [HBox2.out.cell]; rfl
      have kO2 : W2.cell? ⟨b0, 2, none⟩ = some (.slice ba bn bc) := by rw [HBox2.out.cell]; rfl
      have kx0 : W2.cell? ⟨x, 0, none⟩ = some (.int .u64 (f : Int)) := by rw [hx2.cell, HF.out]; rfl
      have kx3 : W2.cell? ⟨x, 3, none⟩ = some (.bool false) := by rw [hx2.cell]; show some (Value.bool V.over) = _; rw [HOv.out]
      clear hbb2 hx2
      go_wp2_with fail
      refine (at_append_long HA2.out va bn vc hlong).mono ?_
      rintro e W3 ⟨rfl, hb23⟩
      have HB23 := Lib.hid hb23
      clear hb23 hlong i1
      clear kB0 kB1 kB2 kO1 kO2 kx0 kx3
      go_wp2_with fail
      go_loopw [12] (fun s12 wr => ∃ (i : Nat) (lb : List UInt8), i ≤ bn ∧ lb.length = bn ∧ s12 = .int .i64 i ∧ Hid (Row wr W1.heap.size (.slice va bn vc) lb) ∧ Hid (OnlyS G W3 wr ∧ Blk wr b0 30 #[.int .i64 kd, .int .i64 n, .slice ba bn bc, .slice ka kn kc])) (fun s12 _ => bn - (intOf s12).toNat)
      case atStart => exact ⟨0, r, Nat.zero_le _, HRl.out, rfl, HR2.out.below HB23.out, ⟨OnlyS.refl _ _, HBox2.out.keep HB23.out⟩⟩
      case round =>
        obtain ⟨i, lb, hi, hll, rfl, HRw, HWr⟩ := hrel
        by_cases hlt : i < bn
        · have i0 : (0 : Int) ≤ (i : Int) := Int.natCast_nonneg _
          have i1 : (i : Int) < (bn : Int) := by omega
          obtain ⟨gx, hgx⟩ : ∃ gx, va = some ⟨gx, 0, none⟩ := by
            rcases HRw.out.2 with ⟨hv, h0⟩ | ⟨gx, cap, cur, hv, _⟩
            · omega
            · simp at hv
              exact ⟨gx, hv.1⟩
          subst hgx
          obtain ⟨⟨z, hz⟩, hfz⟩ := row_cell HRw.out i (by omega)
          have hbn := HBl.out
          have HLL := Lib.hid hll
          have HGx : Hid (G gx) := HGr.out gx rfl
          have HGe : Hid (b0 ≠ gx) := Lib.hid (by have := (HRw.out.lt (k := gx) rfl).1; have := HLt1.out; omega)
          clear hll
          go_wp2
          go_roundw
          case rel =>
            obtain ⟨b, hb⟩ := u8_wrap (z + 1)
            refine ⟨i + 1, lb.set i b, by omega, by rw [List.length_set]; exact HLL.out, by go_num, Lib.hid ?_, Lib.hid ?_⟩
            · have h := row_set HRw.out i b
              rw [← hb] at h
              first | exact h | (rw [IntKind.wrap_u8] at h; exact h)
            · exact ⟨HWr.out.1.setCell (p := ⟨gx, i, none⟩) (fun _ => HGx.out) _, HWr.out.2.other ⟨gx, i, none⟩ _ HGe.out⟩
          case measure => simp [intOf]; omega
        · clear hll
          have HA4 := Lib.hid ((HA2.out.below HB23.out).1.write HWr.out.1)
          have HBox4 := Lib.hid HWr.out.2
          have HSm := Lib.hid (at_same HA4.out)
          go_wp2_with fail
          refine HSm.out.mono ?_
          rintro e W9 ⟨v, rfl, rfl, hb9⟩
          have hfin : Called w Z B s N (.returned (.bool true)) W9 := called_ok (HA4.out.below hb9).1 (HI.out.more (by omega)) (by have := HN.out; omega) fun h => h
          have HFin := Lib.hid hfin
          clear hb9 hfin
          go_wp2
          go_ret
          exact HFin.out
    · have i1 : ¬ (bn : Int) > 16384 := by omega
      have hb16 : bn ≤ 16384 := by omega
      have A1 : Hid (∃ v' w', (Builtin.append_ #[27, 27] 27 #[.slice (some ⟨W1.heap.size, 0, none⟩) 0 0, .slice ba bn bc]).run Tryz.prog (W1.alloc (.cells #[] 5)) = .ok v' w' ∧ Row w' W1.heap.size v' r ∧ Below (W1.alloc (.cells #[] 5)).heap.size (W1.alloc (.cells #[] 5)) w') :=
        Lib.hid (append_lit (Nat.le_refl _) (heap_alloc_new W1 _) ((HBy.out W1 HA1.out.only).below (Nat.le_refl _) ((Below.refl _ W1).alloc (Nat.le_refl _) _)) (by have := HRl.out; have := HBl.out; omega))
      have kO2b : (W1.alloc (.cells #[] 5)).cell? ⟨b0, 2, none⟩ = some (.slice ba bn bc) := by rw [(HBox1.out.alloc _).cell]; rfl
      go_upto_region 16 with (at_builtin; refine wpList_append_by rfl _ _ 27 rfl _ _ rfl rfl _ A1.out ?_; rintro vb W2 ⟨hr2, hb2⟩; (obtain ⟨va, vc, rfl⟩ := slice_of_row hr2); (have HR2 := Lib.hid hr2); (have HB2 := Lib.hid hb2); clear hr2 hb2)
      rw [HRl.out] at HR2 ⊢
      have hb12 : Below W1.heap.size W1 W2 := ((Below.refl _ W1).alloc (Nat.le_refl _) _).trans (HB2.out.mono (by simp))
      obtain ⟨G, hat2, hsg, hgb, hgr⟩ : ∃ G, At w Z B d l x 400 s V.first V.recs false V G W2 ∧ SameG G0 W1 W2 ∧ G b0 ∧ ∀ k, (Value.slice va bn vc).ownBlock = some k → G k := ⟨_, (HA1.out.grow hb12).1, (HA1.out.grow hb12).2, .inl HGb.out, fun k hk => .inr (HR2.out.lt hk)⟩
      have HBox2 := Lib.hid (HBox1.out.keep hb12)
      have HA2 := Lib.hid hat2
      have HGb2 := Lib.hid hgb
      have HGr := Lib.hid hgr
      have hlt1 := HBox1.out.lt
      have HLt1 := Lib.hid hlt1
      clear kB0 kB1 kB2 kO1 kO2 kx0 kx3
      clear A1 HB2 hb12 hat2 hgb hgr hsg hlt1 kO2b
      have hbb2 := HA2.out.blkB
      obtain ⟨v2, hx2⟩ := HA2.out.blkX
      have HBB2 := Lib.hid hbb2
      have HXX2 := Lib.hid hx2
      have hG2 : ∀ W W' : World, Below W2.heap.size W2 W → Below W.heap.size W W' → Below W2.heap.size W2 W' := fun W W' h h' => h.trans (h'.mono h.size)
      have kB0 : W2.cell? ⟨B, 0, none⟩ = some (dp d) := by rw [hbb2.cell]; rfl
      have kB1 : W2.cell? ⟨B, 1, none⟩ = some (.pointer (some ⟨l, 0, none⟩)) := by rw [hbb2.cell]; rfl
      have kB2 : W2.cell? ⟨B, 2, none⟩ = some (.pointer (some ⟨x, 0, none⟩)) := by rw [hbb2.cell]; rfl
      have kO1 : W2.cell? ⟨b0, 1, none⟩ = some (.int .i64 n) := by rw [HBox2.out.cell]; rfl
      have kO2 : W2.cell? ⟨b0, 2, none⟩ = some (.slice ba bn bc) := by rw [HBox2.out.cell]; rfl
      have kx0 : W2.cell? ⟨x, 0, none⟩ = some (.int .u64 (f : Int)) := by rw [hx2.cell, HF.out]; rfl
      have kx3 : W2.cell? ⟨x, 3, none⟩ = some (.bool false) := by rw [hx2.cell]; show some (Value.bool V.over) = _; rw [HOv.out]
      clear hbb2 hx2
      go_wp2_with fail
      refine (tri_append HA2.out HI.out (by have := HN.out; omega) (by decide) HR2.out.bys HRl.out hb16 HGr.out HT.out HZ.out).mono ?_
      rintro e W3 ⟨hs3, htri⟩
      obtain ⟨cd, rfl⟩ := tri_code htri
      have HRow3 := Lib.hid (hs3.row HGr.out HR2.out)
      have HBox3 := Lib.hid (hs3.blk HGb2.out HBox2.out)
      have HTri := Lib.hid htri
      clear hs3 htri hlong
      clear kB0 kB1 kB2 kO1 kO2 kx0 kx3
      go_wp2_with fail
      go_loopw [12] (fun s12 wr => ∃ (i : Nat) (lb : List UInt8), i ≤ bn ∧ lb.length = bn ∧ s12 = .int .i64 i ∧ Hid (Row wr W1.heap.size (.slice va bn vc) lb) ∧ Hid (OnlyS G W3 wr ∧ Blk wr b0 30 #[.int .i64 kd, .int .i64 n, .slice ba bn bc, .slice ka kn kc])) (fun s12 _ => bn - (intOf s12).toNat)
      case atStart => exact ⟨0, r, Nat.zero_le _, HRl.out, rfl, HRow3.out, ⟨OnlyS.refl _ _, HBox3.out⟩⟩
      case round =>
        obtain ⟨i, lb, hi, hll, rfl, HRw, HWr⟩ := hrel
        by_cases hlt : i < bn
        · have i0 : (0 : Int) ≤ (i : Int) := Int.natCast_nonneg _
          have i1 : (i : Int) < (bn : Int) := by omega
          obtain ⟨gx, hgx⟩ : ∃ gx, va = some ⟨gx, 0, none⟩ := by
            rcases HRw.out.2 with ⟨hv, h0⟩ | ⟨gx, cap, cur, hv, _⟩
            · omega
            · simp at hv
              exact ⟨gx, hv.1⟩
          subst hgx
          obtain ⟨⟨z, hz⟩, hfz⟩ := row_cell HRw.out i (by omega)
          have hbn := HBl.out
          have HLL := Lib.hid hll
          have HGx : Hid (G gx) := HGr.out gx rfl
          have HGe : Hid (b0 ≠ gx) := Lib.hid (by have := (HRw.out.lt (k := gx) rfl).1; have := HLt1.out; omega)
          clear hll
          go_wp2
          go_roundw
          case rel =>
            obtain ⟨b, hb⟩ := u8_wrap (z + 1)
            refine ⟨i + 1, lb.set i b, by omega, by rw [List.length_set]; exact HLL.out, by go_num, Lib.hid ?_, Lib.hid ?_⟩
            · have h := row_set HRw.out i b
              rw [← hb] at h
              first | exact h | (rw [IntKind.wrap_u8] at h; exact h)
            · exact ⟨HWr.out.1.setCell (p := ⟨gx, i, none⟩) (fun _ => HGx.out) _, HWr.out.2.other ⟨gx, i, none⟩ _ HGe.out⟩
          case measure => simp [intOf]; omega
        · clear hll
          have htri := HTri.out.write HWr.out.1
          have HBox4 := Lib.hid HWr.out.2
          have HGb := HGb2
          obtain ⟨W4, hW4⟩ : ∃ W4, W4 = wr := ⟨_, rfl⟩
          rw [← hW4] at htri HBox4 ⊢
          clear hW4 HTri i1
          obtain ⟨c3, hc3, htri⟩ := htri
          have HC3 : Hid (c3 ≤ 700) := Lib.hid (by omega)
          clear hc3
          rcases htri with ⟨hfull, he, ha3⟩ | ⟨he, hnc, s3, hoff3, ha3, hg3⟩ | ⟨he, s3, ha3, hi3, hcm3⟩
          · (obtain rfl : cd = _ := by simpa using he); clear he
            have HA4 := Lib.hid ha3
            clear ha3 hfull
            have HSm := Lib.hid (at_same HA4.out)
            go_wp2_with fail
            refine HSm.out.mono ?_
            rintro e W9 ⟨v, rfl, rfl, hb9⟩
            have hfin : Called w Z B s N (.returned (.bool true)) W9 := called_ok (HA4.out.below hb9).1 (HI.out.more (by omega)) (by have := HN.out; omega) fun h => h
            have HFin := Lib.hid hfin
            clear hb9 hfin
            go_wp2
            go_ret
            exact HFin.out
          · (obtain rfl : cd = _ := by simpa using he); clear he
            have HA4 := Lib.hid ha3
            have HNc := Lib.hid hnc
            have HOff := Lib.hid hoff3
            have HGo := Lib.hid hg3
            clear ha3 hnc hoff3 hg3
            have hbb4 := HA4.out.blkB
            obtain ⟨v4, hx4⟩ := HA4.out.blkX
            have HBB4 := Lib.hid hbb4
            have HXX4 := Lib.hid hx4
            have hG4 : ∀ W W' : World, Below W4.heap.size W4 W → Below W.heap.size W W' → Below W4.heap.size W4 W' := fun W W' h h' => h.trans (h'.mono h.size)
            have kB0 : W4.cell? ⟨B, 0, none⟩ = some (dp d) := by rw [hbb4.cell]; rfl
            have kB1 : W4.cell? ⟨B, 1, none⟩ = some (.pointer (some ⟨l, 0, none⟩)) := by rw [hbb4.cell]; rfl
            have kB2 : W4.cell? ⟨B, 2, none⟩ = some (.pointer (some ⟨x, 0, none⟩)) := by rw [hbb4.cell]; rfl
            have kO1 : W4.cell? ⟨b0, 1, none⟩ = some (.int .i64 n) := by rw [HBox4.out.cell]; rfl
            have kO2 : W4.cell? ⟨b0, 2, none⟩ = some (.slice ba bn bc) := by rw [HBox4.out.cell]; rfl
            have kx0 : W4.cell? ⟨x, 0, none⟩ = some (.int .u64 (f : Int)) := by rw [hx4.cell, HF.out]; rfl
            have kx3 : W4.cell? ⟨x, 3, none⟩ = some (.bool false) := by rw [hx4.cell]; show some (Value.bool V.over) = _; rw [HOv.out]
            clear hbb4 hx4
            have HDn := Lib.hid (fun (W : World) (hW : Below W4.heap.size W4 W) => show Calls Tryz.prog 18 #[dp d] W (fun e w' => ∃ v, e = .returned v ∧ v = .bool true ∧ Below W.heap.size W w') from by
              have h := at_down (HA4.out.below hW).1
              rw [HOff.out] at h
              exact h)
            have HOvr := Lib.hid (fun (W : World) (hW : Below W4.heap.size W4 W) => at_over (HA4.out.below hW).1 none 0 0 (f : Int))
            have HSm4 := Lib.hid (fun (W : World) (hW : Below W4.heap.size W4 W) => at_same (HA4.out.below hW).1)
            go_upto_region 45 with fail
            clear kB0 kB1 kB2 kO1 kO2 kx0 kx3
            refine region_by [(210, .is (.pointer (some ⟨B, 0, none⟩))), (211, .is (.pointer (some ⟨B, 0, none⟩))), (212, .is (.pointer (some ⟨B, 0, none⟩))), (213, .is (dp d)), (214, .is (.bool true)), (215, .is (.bool false)), (216, .is (.bool false)), (217, .is (.pointer (some ⟨B, 0, none⟩))), (218, .is (.pointer (some ⟨B, 0, none⟩))), (219, .is (.pointer (some ⟨B, 1, none⟩))), (220, .is (.pointer (some ⟨l, 0, none⟩))), (221, .is (.int .i64 6)), (222, .is (.bool false)), (223, .is (.bool false)), (224, .is (.bool false)), (225, .is (.pointer (some ⟨B, 0, none⟩))), (226, .is (.pointer (some ⟨B, 0, none⟩))), (227, .is (.pointer (some ⟨B, 1, none⟩))), (228, .is (.pointer (some ⟨l, 0, none⟩))), (229, .is (.int .i64 6)), (230, .is (.bool false)), (231, .is (.bool false)), (232, .is (.bool false)), (233, .is (.pointer (some ⟨B, 0, none⟩))), (234, .is (.pointer (some ⟨B, 0, none⟩))), (235, .is (.pointer (some ⟨B, 1, none⟩))), (236, .is (.pointer (some ⟨l, 0, none⟩))), (237, .is (.pointer (some ⟨B, 0, none⟩))), (238, .is (.pointer (some ⟨B, 0, none⟩))), (239, .is (.pointer (some ⟨B, 2, none⟩))), (240, .is (.pointer (some ⟨x, 0, none⟩))), (241, .is (.pointer (some ⟨x, 0, none⟩))), (242, .is (.pointer (some ⟨x, 0, none⟩))), (243, .is (.int .u64 (f : Int))), (244, .is (.int .i64 6)), (245, .is (.bool false)), (246, .is (.bool false)), (247, .is (.bool false)), (248, .is (.pointer (some ⟨B, 0, none⟩))), (249, .is (.pointer (some ⟨B, 0, none⟩))), (250, .is (.pointer (some ⟨B, 1, none⟩))), (251, .is (.pointer (some ⟨l, 0, none⟩))), (252, .is (.pointer (some ⟨B, 0, none⟩))), (253, .is (.pointer (some ⟨B, 0, none⟩))), (254, .is (.pointer (some ⟨B, 2, none⟩))), (255, .is (.pointer (some ⟨x, 0, none⟩))), (256, .is (.pointer (some ⟨x, 0, none⟩))), (257, .is (.pointer (some ⟨x, 0, none⟩))), (258, .is (.int .u64 (f : Int))), (259, .is (.int .i64 6)), (260, .is (.bool false)), (261, .is (.bool false)), (262, .is (.bool false)), (263, .is (.pointer (some ⟨B, 0, none⟩))), (264, .is (.bool true)), (265, .is (.bool false)), (266, .is (.bool false))] [0, 2, 4, 7, 8, 266] (fun W => Below W4.heap.size W4 W) (by kernel_rfl) (by kernel_rfl) (by kernel_rfl) (by kernel_rfl) (by kernel_rfl) ((Below.refl _ _).drew) ?_ ?_
            · refine ⟨?c0, ?c1, ?c2, ?c3, ?c4, ?c5, ?c6, ?c7, ?c8, ?c9, ?c10, ?c11, ?c12, ?c13, ?c14, ?c15, ?c16, ?c17, ?c18, ?c19, ?c20, ?c21, ?c22, ?c23, ?c24, ?c25, ?c26, ?c27, ?c28, ?c29, ?c30, ?c31, ?c32, ?c33, ?c34, ?c35, ?c36, ?c37, ?c38, ?c39, ?c40, ?c41, ?c42, ?c43, ?c44, ?c45, ?c46, ?c47, ?c48, ?c49, ?c50, ?c51, ?c52, ?c53, ?c54, ?c55, ?c56, trivial⟩
              case c0 => exact ask_copy (guard_none rfl) (.tmp 0) (.inl rfl) (by intro k hk; cases hk; rfl)
              case c1 => exact ask_exec (guard_none rfl) (.pointer (some ⟨B, 0, none⟩)) rfl rfl (by intro k hk; cases hk; rfl) (fun W hW => by kernel_rfl)
              case c2 => exact ask_field (guard_none rfl) _ (.tmp 211) 0 (.pointer (some ⟨B, 0, none⟩)) (.pointer (some ⟨B, 0, none⟩)) rfl rfl (by intro k hk; cases hk; rfl) (fun W => by kernel_rfl)
              case c3 => exact ask_load (guard_none rfl) _ (.tmp 212) (.pointer (some ⟨B, 0, none⟩)) (dp d) rfl rfl (by intro k hk; cases hk; rfl) (fun W hW => load_dp W _ _ (by rw [hW.cell (p := ⟨B, 0, none⟩) HBB4.out.lt, HBB4.out.cell]; rfl))
              case c4 => exact ask_call hG4 (guard_none rfl) _ _ _ #[dp d] (.is (.bool true)) rfl (by kernel_rfl) rfl rfl (by intro k hk; cases hk; rfl) (fun W hW => (HDn.out W hW).mono fun e w' h => by obtain ⟨v, h1, h2, h3⟩ := h; exact ⟨v, h1, h2, h3⟩)
              case c5 => exact ask_exec (guard_none rfl) (.bool false) rfl rfl (by intro k hk; cases hk; rfl) (fun W hW => by kernel_rfl)
              case c6 => exact ask_copy (guard_none rfl) (.tmp 215) (.inl rfl) (by intro k hk; cases hk; rfl)
              case c7 => exact ask_copy (guard_some rfl rfl rfl) (.tmp 0) (.inl rfl) (by intro k hk; cases hk; rfl)
              case c8 => exact ask_exec (guard_some rfl rfl rfl) (.pointer (some ⟨B, 0, none⟩)) rfl rfl (by intro k hk; cases hk; rfl) (fun W hW => by kernel_rfl)
              case c9 => exact ask_field (guard_some rfl rfl rfl) _ (.tmp 218) 1 (.pointer (some ⟨B, 0, none⟩)) (.pointer (some ⟨B, 1, none⟩)) rfl rfl (by intro k hk; cases hk; rfl) (fun W => by kernel_rfl)
              case c10 => exact ask_load (guard_some rfl rfl rfl) _ (.tmp 219) (.pointer (some ⟨B, 1, none⟩)) (.pointer (some ⟨l, 0, none⟩)) rfl rfl (by intro k hk; cases hk; rfl) (fun W hW => load_wl W _ _ (by rw [hW.cell (p := ⟨B, 1, none⟩) HBB4.out.lt, HBB4.out.cell]; rfl))
              case c11 => exact ask_call hG4 (guard_some rfl rfl rfl) _ _ _ #[.pointer (some ⟨l, 0, none⟩), .slice none 0 0] (.is (.int .i64 6)) rfl (by kernel_rfl) rfl rfl (by intro k hk; cases hk; rfl) (fun W hW => ((HOvr.out W hW).1).mono fun e w' h => by obtain ⟨v, h1, h2, h3⟩ := h; exact ⟨v, h1, h2, h3⟩)
              case c12 => exact ask_exec (guard_some rfl rfl rfl) (.bool false) rfl rfl (by intro k hk; cases hk; rfl) (fun W hW => by kernel_rfl)
              case c13 => exact ask_pick (guard_none rfl) (.tmp 216) (.const (.bool true)) (.tmp 222) false rfl rfl (by intro k hk; cases hk; rfl)
              case c14 => exact ask_copy (guard_none rfl) (.tmp 223) (.inl rfl) (by intro k hk; cases hk; rfl)
              case c15 => exact ask_copy (guard_some rfl rfl rfl) (.tmp 0) (.inl rfl) (by intro k hk; cases hk; rfl)
              case c16 => exact ask_exec (guard_some rfl rfl rfl) (.pointer (some ⟨B, 0, none⟩)) rfl rfl (by intro k hk; cases hk; rfl) (fun W hW => by kernel_rfl)
              case c17 => exact ask_field (guard_some rfl rfl rfl) _ (.tmp 226) 1 (.pointer (some ⟨B, 0, none⟩)) (.pointer (some ⟨B, 1, none⟩)) rfl rfl (by intro k hk; cases hk; rfl) (fun W => by kernel_rfl)
              case c18 => exact ask_load (guard_some rfl rfl rfl) _ (.tmp 227) (.pointer (some ⟨B, 1, none⟩)) (.pointer (some ⟨l, 0, none⟩)) rfl rfl (by intro k hk; cases hk; rfl) (fun W hW => load_wl W _ _ (by rw [hW.cell (p := ⟨B, 1, none⟩) HBB4.out.lt, HBB4.out.cell]; rfl))
              case c19 => exact ask_call hG4 (guard_some rfl rfl rfl) _ _ _ #[.pointer (some ⟨l, 0, none⟩)] (.is (.int .i64 6)) rfl (by kernel_rfl) rfl rfl (by intro k hk; cases hk; rfl) (fun W hW => ((HOvr.out W hW).2.1).mono fun e w' h => by obtain ⟨v, h1, h2, h3⟩ := h; exact ⟨v, h1, h2, h3⟩)
              case c20 => exact ask_exec (guard_some rfl rfl rfl) (.bool false) rfl rfl (by intro k hk; cases hk; rfl) (fun W hW => by kernel_rfl)
              case c21 => exact ask_pick (guard_none rfl) (.tmp 224) (.const (.bool true)) (.tmp 230) false rfl rfl (by intro k hk; cases hk; rfl)
              case c22 => exact ask_copy (guard_none rfl) (.tmp 231) (.inl rfl) (by intro k hk; cases hk; rfl)
              case c23 => exact ask_copy (guard_some rfl rfl rfl) (.tmp 0) (.inl rfl) (by intro k hk; cases hk; rfl)
              case c24 => exact ask_exec (guard_some rfl rfl rfl) (.pointer (some ⟨B, 0, none⟩)) rfl rfl (by intro k hk; cases hk; rfl) (fun W hW => by kernel_rfl)
              case c25 => exact ask_field (guard_some rfl rfl rfl) _ (.tmp 234) 1 (.pointer (some ⟨B, 0, none⟩)) (.pointer (some ⟨B, 1, none⟩)) rfl rfl (by intro k hk; cases hk; rfl) (fun W => by kernel_rfl)
              case c26 => exact ask_load (guard_some rfl rfl rfl) _ (.tmp 235) (.pointer (some ⟨B, 1, none⟩)) (.pointer (some ⟨l, 0, none⟩)) rfl rfl (by intro k hk; cases hk; rfl) (fun W hW => load_wl W _ _ (by rw [hW.cell (p := ⟨B, 1, none⟩) HBB4.out.lt, HBB4.out.cell]; rfl))
              case c27 => exact ask_copy (guard_some rfl rfl rfl) (.tmp 0) (.inl rfl) (by intro k hk; cases hk; rfl)
              case c28 => exact ask_exec (guard_some rfl rfl rfl) (.pointer (some ⟨B, 0, none⟩)) rfl rfl (by intro k hk; cases hk; rfl) (fun W hW => by kernel_rfl)
              case c29 => exact ask_field (guard_some rfl rfl rfl) _ (.tmp 238) 2 (.pointer (some ⟨B, 0, none⟩)) (.pointer (some ⟨B, 2, none⟩)) rfl rfl (by intro k hk; cases hk; rfl) (fun W => by kernel_rfl)
              case c30 => exact ask_load (guard_some rfl rfl rfl) _ (.tmp 239) (.pointer (some ⟨B, 2, none⟩)) (.pointer (some ⟨x, 0, none⟩)) rfl rfl (by intro k hk; cases hk; rfl) (fun W hW => load_rl W _ _ (by rw [hW.cell (p := ⟨B, 2, none⟩) HBB4.out.lt, HBB4.out.cell]; rfl))
              case c31 => exact ask_exec (guard_some rfl rfl rfl) (.pointer (some ⟨x, 0, none⟩)) rfl rfl (by intro k hk; cases hk; rfl) (fun W hW => by kernel_rfl)
              case c32 => exact ask_field (guard_some rfl rfl rfl) _ (.tmp 241) 0 (.pointer (some ⟨x, 0, none⟩)) (.pointer (some ⟨x, 0, none⟩)) rfl rfl (by intro k hk; cases hk; rfl) (fun W => by kernel_rfl)
              case c33 => exact ask_load (guard_some rfl rfl rfl) _ (.tmp 242) (.pointer (some ⟨x, 0, none⟩)) (.int .u64 (f : Int)) rfl rfl (by intro k hk; cases hk; rfl) (fun W hW => load_u64 W _ _ (by rw [hW.cell (p := ⟨x, 0, none⟩) HXX4.out.lt, HXX4.out.cell, HF.out]; rfl))
              case c34 => exact ask_call hG4 (guard_some rfl rfl rfl) _ _ _ #[.pointer (some ⟨l, 0, none⟩), .int .u64 (f : Int)] (.is (.int .i64 6)) rfl (by kernel_rfl) rfl rfl (by intro k hk; cases hk; rfl) (fun W hW => ((HOvr.out W hW).2.2.1).mono fun e w' h => by obtain ⟨v, h1, h2, h3⟩ := h; exact ⟨v, h1, h2, h3⟩)
              case c35 => exact ask_exec (guard_some rfl rfl rfl) (.bool false) rfl rfl (by intro k hk; cases hk; rfl) (fun W hW => by kernel_rfl)
              case c36 => exact ask_pick (guard_none rfl) (.tmp 232) (.const (.bool true)) (.tmp 245) false rfl rfl (by intro k hk; cases hk; rfl)
              case c37 => exact ask_copy (guard_none rfl) (.tmp 246) (.inl rfl) (by intro k hk; cases hk; rfl)
              case c38 => exact ask_copy (guard_some rfl rfl rfl) (.tmp 0) (.inl rfl) (by intro k hk; cases hk; rfl)
              case c39 => exact ask_exec (guard_some rfl rfl rfl) (.pointer (some ⟨B, 0, none⟩)) rfl rfl (by intro k hk; cases hk; rfl) (fun W hW => by kernel_rfl)
              case c40 => exact ask_field (guard_some rfl rfl rfl) _ (.tmp 249) 1 (.pointer (some ⟨B, 0, none⟩)) (.pointer (some ⟨B, 1, none⟩)) rfl rfl (by intro k hk; cases hk; rfl) (fun W => by kernel_rfl)
              case c41 => exact ask_load (guard_some rfl rfl rfl) _ (.tmp 250) (.pointer (some ⟨B, 1, none⟩)) (.pointer (some ⟨l, 0, none⟩)) rfl rfl (by intro k hk; cases hk; rfl) (fun W hW => load_wl W _ _ (by rw [hW.cell (p := ⟨B, 1, none⟩) HBB4.out.lt, HBB4.out.cell]; rfl))
              case c42 => exact ask_copy (guard_some rfl rfl rfl) (.tmp 0) (.inl rfl) (by intro k hk; cases hk; rfl)
              case c43 => exact ask_exec (guard_some rfl rfl rfl) (.pointer (some ⟨B, 0, none⟩)) rfl rfl (by intro k hk; cases hk; rfl) (fun W hW => by kernel_rfl)
              case c44 => exact ask_field (guard_some rfl rfl rfl) _ (.tmp 253) 2 (.pointer (some ⟨B, 0, none⟩)) (.pointer (some ⟨B, 2, none⟩)) rfl rfl (by intro k hk; cases hk; rfl) (fun W => by kernel_rfl)
              case c45 => exact ask_load (guard_some rfl rfl rfl) _ (.tmp 254) (.pointer (some ⟨B, 2, none⟩)) (.pointer (some ⟨x, 0, none⟩)) rfl rfl (by intro k hk; cases hk; rfl) (fun W hW => load_rl W _ _ (by rw [hW.cell (p := ⟨B, 2, none⟩) HBB4.out.lt, HBB4.out.cell]; rfl))
              case c46 => exact ask_exec (guard_some rfl rfl rfl) (.pointer (some ⟨x, 0, none⟩)) rfl rfl (by intro k hk; cases hk; rfl) (fun W hW => by kernel_rfl)
              case c47 => exact ask_field (guard_some rfl rfl rfl) _ (.tmp 256) 0 (.pointer (some ⟨x, 0, none⟩)) (.pointer (some ⟨x, 0, none⟩)) rfl rfl (by intro k hk; cases hk; rfl) (fun W => by kernel_rfl)
              case c48 => exact ask_load (guard_some rfl rfl rfl) _ (.tmp 257) (.pointer (some ⟨x, 0, none⟩)) (.int .u64 (f : Int)) rfl rfl (by intro k hk; cases hk; rfl) (fun W hW => load_u64 W _ _ (by rw [hW.cell (p := ⟨x, 0, none⟩) HXX4.out.lt, HXX4.out.cell, HF.out]; rfl))
              case c49 => exact ask_call hG4 (guard_some rfl rfl rfl) _ _ _ #[.pointer (some ⟨l, 0, none⟩), .int .u64 (f : Int)] (.is (.int .i64 6)) rfl (by kernel_rfl) rfl rfl (by intro k hk; cases hk; rfl) (fun W hW => ((HOvr.out W hW).2.2.2).mono fun e w' h => by obtain ⟨v, h1, h2, h3⟩ := h; exact ⟨v, h1, h2, h3⟩)
              case c50 => exact ask_exec (guard_some rfl rfl rfl) (.bool false) rfl rfl (by intro k hk; cases hk; rfl) (fun W hW => by kernel_rfl)
              case c51 => exact ask_pick (guard_none rfl) (.tmp 247) (.const (.bool true)) (.tmp 260) false rfl rfl (by intro k hk; cases hk; rfl)
              case c52 => exact ask_copy (guard_none rfl) (.tmp 261) (.inl rfl) (by intro k hk; cases hk; rfl)
              case c53 => exact ask_copy (guard_some rfl rfl rfl) (.tmp 0) (.inl rfl) (by intro k hk; cases hk; rfl)
              case c54 => exact ask_call hG4 (guard_some rfl rfl rfl) _ _ _ #[.pointer (some ⟨B, 0, none⟩)] (.is (.bool true)) rfl (by kernel_rfl) rfl rfl (by intro k hk; cases hk; rfl) (fun W hW => (HSm4.out W hW).mono fun e w' h => by obtain ⟨v, h1, h2, h3⟩ := h; exact ⟨v, h1, h2, h3⟩)
              case c55 => exact ask_exec (guard_some rfl rfl rfl) (.bool false) rfl rfl (by intro k hk; cases hk; rfl) (fun W hW => by kernel_rfl)
              case c56 => exact ask_pick (guard_none rfl) (.tmp 262) (.const (.bool true)) (.tmp 265) false rfl rfl (by intro k hk; cases hk; rfl)
            · intro af W7 hW hd' hs' hf'
              have t0 : af.tmps.getD 0 undef = .pointer (some ⟨B, 0, none⟩) := hf' 0 rfl
              have t2 : af.tmps.getD 2 undef = .int .i64 0 := hf' 2 rfl
              have t4 : af.tmps.getD 4 undef = .pointer (some ⟨b0, 0, none⟩) := hf' 4 rfl
              have t7 : af.tmps.getD 7 undef = .int .u64 (m : Int) := hf' 7 rfl
              have t8 : af.tmps.getD 8 undef = .int .i64 n := hf' 8 rfl
              have t266 : af.tmps.getD 266 undef = .bool false := hf' 266 rfl
              obtain ⟨us, hus, haf⟩ := act_open 346 af hs' hd'
              rw [← hus] at t0 t2 t4 t7 t8 t266
              have el := range_346 us
              rw [el] at haf
              subst haf
              rw [t0, t2, t4, t7, t8, t266]
              have HW7 := Lib.hid hW
              clear hus t0 t2 t4 t7 t8 t266 el hf' hs' hd' hW
              have HA7 := Lib.hid (HA4.out.below HW7.out).1
              have HBox7 := Lib.hid (HBox4.out.keep HW7.out)
              clear HDn HOvr HSm4
              have hbb7 := HA7.out.blkB
              obtain ⟨v7, hx7⟩ := HA7.out.blkX
              have HBB7 := Lib.hid hbb7
              have HXX7 := Lib.hid hx7
              have hG7 : ∀ W W' : World, Below W7.heap.size W7 W → Below W.heap.size W W' → Below W7.heap.size W7 W' := fun W W' h h' => h.trans (h'.mono h.size)
              have kB0 : W7.cell? ⟨B, 0, none⟩ = some (dp d) := by rw [hbb7.cell]; rfl
              have kB1 : W7.cell? ⟨B, 1, none⟩ = some (.pointer (some ⟨l, 0, none⟩)) := by rw [hbb7.cell]; rfl
              have kB2 : W7.cell? ⟨B, 2, none⟩ = some (.pointer (some ⟨x, 0, none⟩)) := by rw [hbb7.cell]; rfl
              have kO1 : W7.cell? ⟨b0, 1, none⟩ = some (.int .i64 n) := by rw [HBox7.out.cell]; rfl
              have kO2 : W7.cell? ⟨b0, 2, none⟩ = some (.slice ba bn bc) := by rw [HBox7.out.cell]; rfl
              have kx0 : W7.cell? ⟨x, 0, none⟩ = some (.int .u64 (f : Int)) := by rw [hx7.cell, HF.out]; rfl
              have kx3 : W7.cell? ⟨x, 3, none⟩ = some (.bool false) := by rw [hx7.cell]; show some (Value.bool V.over) = _; rw [HOv.out]
              clear hbb7 hx7
              go_upto_region 51 with fail
              clear kB0 kB1 kB2 kO1 kO2 kx0 kx3
              refine region_tails_by 6 [(290, .is (.pointer (some ⟨B, 0, none⟩))), (291, .is (.pointer (some ⟨B, 0, none⟩))), (292, .is (.pointer (some ⟨B, 2, none⟩))), (293, .is (.pointer (some ⟨x, 0, none⟩))), (294, .is (.pointer (some ⟨b0, 2, none⟩))), (295, .is (.slice ba bn bc))] [0, 2, 4, 7, 8, 293, 295] (fun W => Below W7.heap.size W7 W) (by kernel_rfl) (by kernel_rfl) (by kernel_rfl) (by kernel_rfl) (by kernel_rfl) (by decide) (by kernel_rfl) (by kernel_rfl) ((Below.refl _ _).drew) ?_ ?_
              · refine ⟨?c0, ?c1, ?c2, ?c3, ?c4, ?c5, trivial⟩
                case c0 => exact ask_copy (guard_none rfl) (.tmp 0) (.inl rfl) (by intro k hk; cases hk; rfl)
                case c1 => exact ask_exec (guard_none rfl) (.pointer (some ⟨B, 0, none⟩)) rfl rfl (by intro k hk; cases hk; rfl) (fun W hW => by kernel_rfl)
                case c2 => exact ask_field (guard_none rfl) _ (.tmp 291) 2 (.pointer (some ⟨B, 0, none⟩)) (.pointer (some ⟨B, 2, none⟩)) rfl rfl (by intro k hk; cases hk; rfl) (fun W => by kernel_rfl)
                case c3 => exact ask_load (guard_none rfl) _ (.tmp 292) (.pointer (some ⟨B, 2, none⟩)) (.pointer (some ⟨x, 0, none⟩)) rfl rfl (by intro k hk; cases hk; rfl) (fun W hW => load_rl W _ _ (by rw [hW.cell (p := ⟨B, 2, none⟩) HBB7.out.lt, HBB7.out.cell]; rfl))
                case c4 => exact ask_field (guard_none rfl) _ (.tmp 4) 2 (.pointer (some ⟨b0, 0, none⟩)) (.pointer (some ⟨b0, 2, none⟩)) rfl rfl (by intro k hk; cases hk; rfl) (fun W => by kernel_rfl)
                case c5 => exact ask_load (guard_none rfl) _ (.tmp 294) (.pointer (some ⟨b0, 2, none⟩)) (.slice ba bn bc) rfl rfl (by intro k hk; cases hk; rfl) (fun W hW => load_bs W _ _ (by rw [hW.cell (p := ⟨b0, 2, none⟩) HBox7.out.lt, HBox7.out.cell]; rfl))
              · intro af Wr hW hd' hs' hf'
                have t0 : af.tmps.getD 0 undef = .pointer (some ⟨B, 0, none⟩) := hf' 0 rfl
                have t2 : af.tmps.getD 2 undef = .int .i64 0 := hf' 2 rfl
                have t4 : af.tmps.getD 4 undef = .pointer (some ⟨b0, 0, none⟩) := hf' 4 rfl
                have t7 : af.tmps.getD 7 undef = .int .u64 (m : Int) := hf' 7 rfl
                have t8 : af.tmps.getD 8 undef = .int .i64 n := hf' 8 rfl
                have t293 : af.tmps.getD 293 undef = .pointer (some ⟨x, 0, none⟩) := hf' 293 rfl
                have t295 : af.tmps.getD 295 undef = .slice ba bn bc := hf' 295 rfl
                obtain ⟨us, hus, haf⟩ := act_open 346 af hs' hd'
                rw [← hus] at t0 t2 t4 t7 t8 t293 t295
                have el := range_346 us
                rw [el] at haf
                subst haf
                rw [t0, t2, t4, t7, t8, t293, t295]
                have HWr := Lib.hid hW
                clear hus t0 t2 t4 t7 t8 t293 t295 el hf' hs' hd' hW
                have HAr := Lib.hid (HA7.out.below HWr.out).1
                have HBoxr := Lib.hid (HBox7.out.keep HWr.out)
                go_wp2_with fail
                refine (at_appended HAr.out (by have := HNum.out; have := HN.out; omega) (HBy.out Wr HAr.out.only) HRl.out (by omega) HBa.out).mono ?_
                rintro e Wa ⟨rfl, haa, hsa⟩
                have HAa := Lib.hid haa
                have HBoxa := Lib.hid (hsa.blk HGb.out HBoxr.out)
                clear haa hsa
                have hbba := HAa.out.blkB
                obtain ⟨va, hxa⟩ := HAa.out.blkX
                have HBBa := Lib.hid hbba
                have HXXa := Lib.hid hxa
                have hGa : ∀ W W' : World, Below Wa.heap.size Wa W → Below W.heap.size W W' → Below Wa.heap.size Wa W' := fun W W' h h' => h.trans (h'.mono h.size)
                have kB0 : Wa.cell? ⟨B, 0, none⟩ = some (dp d) := by rw [hbba.cell]; rfl
                have kB1 : Wa.cell? ⟨B, 1, none⟩ = some (.pointer (some ⟨l, 0, none⟩)) := by rw [hbba.cell]; rfl
                have kB2 : Wa.cell? ⟨B, 2, none⟩ = some (.pointer (some ⟨x, 0, none⟩)) := by rw [hbba.cell]; rfl
                have kO1 : Wa.cell? ⟨b0, 1, none⟩ = some (.int .i64 n) := by rw [HBoxa.out.cell]; rfl
                have kO2 : Wa.cell? ⟨b0, 2, none⟩ = some (.slice ba bn bc) := by rw [HBoxa.out.cell]; rfl
                have kx0 : Wa.cell? ⟨x, 0, none⟩ = some (.int .u64 (f : Int)) := by rw [hxa.cell, HF.out]; rfl
                have kx3 : Wa.cell? ⟨x, 3, none⟩ = some (.bool false) := by rw [hxa.cell]; show some (Value.bool V.over) = _; rw [HOv.out]
                clear hbba hxa
                go_upto_region 52 with fail
                clear kB0 kB1 kB2 kO1 kO2 kx0 kx3
                refine region_tails_by 18 [(297, .is (.pointer (some ⟨B, 0, none⟩))), (298, .is (.pointer (some ⟨B, 0, none⟩))), (299, .is (.pointer (some ⟨B, 2, none⟩))), (300, .is (.pointer (some ⟨x, 0, none⟩))), (301, .is (.pointer (some ⟨B, 0, none⟩))), (302, .is (.pointer (some ⟨B, 0, none⟩))), (303, .is (.pointer (some ⟨B, 2, none⟩))), (304, .is (.pointer (some ⟨x, 0, none⟩))), (305, .is (.pointer (some ⟨x, 0, none⟩))), (306, .is (.pointer (some ⟨x, 2, none⟩))), (307, .is (.int .i64 (V.sure : Int))), (308, .is (.pointer (some ⟨B, 0, none⟩))), (309, .is (.pointer (some ⟨B, 0, none⟩))), (310, .is (.pointer (some ⟨B, 2, none⟩))), (311, .is (.pointer (some ⟨x, 0, none⟩))), (312, .is (.pointer (some ⟨x, 0, none⟩))), (313, .is (.pointer (some ⟨x, 0, none⟩))), (314, .is (.int .u64 (f : Int)))] [0, 300, 307, 314] (fun W => Below Wa.heap.size Wa W) (by kernel_rfl) (by kernel_rfl) (by kernel_rfl) (by kernel_rfl) (by kernel_rfl) (by decide) (by kernel_rfl) (by kernel_rfl) ((Below.refl _ _).drew) ?_ ?_
                · refine ⟨?c0, ?c1, ?c2, ?c3, ?c4, ?c5, ?c6, ?c7, ?c8, ?c9, ?c10, ?c11, ?c12, ?c13, ?c14, ?c15, ?c16, ?c17, trivial⟩
                  case c0 => exact ask_copy (guard_none rfl) (.tmp 0) (.inl rfl) (by intro k hk; cases hk; rfl)
                  case c1 => exact ask_exec (guard_none rfl) (.pointer (some ⟨B, 0, none⟩)) rfl rfl (by intro k hk; cases hk; rfl) (fun W hW => by kernel_rfl)
                  case c2 => exact ask_field (guard_none rfl) _ (.tmp 298) 2 (.pointer (some ⟨B, 0, none⟩)) (.pointer (some ⟨B, 2, none⟩)) rfl rfl (by intro k hk; cases hk; rfl) (fun W => by kernel_rfl)
                  case c3 => exact ask_load (guard_none rfl) _ (.tmp 299) (.pointer (some ⟨B, 2, none⟩)) (.pointer (some ⟨x, 0, none⟩)) rfl rfl (by intro k hk; cases hk; rfl) (fun W hW => load_rl W _ _ (by rw [hW.cell (p := ⟨B, 2, none⟩) HBBa.out.lt, HBBa.out.cell]; rfl))
                  case c4 => exact ask_copy (guard_none rfl) (.tmp 0) (.inl rfl) (by intro k hk; cases hk; rfl)
                  case c5 => exact ask_exec (guard_none rfl) (.pointer (some ⟨B, 0, none⟩)) rfl rfl (by intro k hk; cases hk; rfl) (fun W hW => by kernel_rfl)
                  case c6 => exact ask_field (guard_none rfl) _ (.tmp 302) 2 (.pointer (some ⟨B, 0, none⟩)) (.pointer (some ⟨B, 2, none⟩)) rfl rfl (by intro k hk; cases hk; rfl) (fun W => by kernel_rfl)
                  case c7 => exact ask_load (guard_none rfl) _ (.tmp 303) (.pointer (some ⟨B, 2, none⟩)) (.pointer (some ⟨x, 0, none⟩)) rfl rfl (by intro k hk; cases hk; rfl) (fun W hW => load_rl W _ _ (by rw [hW.cell (p := ⟨B, 2, none⟩) HBBa.out.lt, HBBa.out.cell]; rfl))
                  case c8 => exact ask_exec (guard_none rfl) (.pointer (some ⟨x, 0, none⟩)) rfl rfl (by intro k hk; cases hk; rfl) (fun W hW => by kernel_rfl)
                  case c9 => exact ask_field (guard_none rfl) _ (.tmp 305) 2 (.pointer (some ⟨x, 0, none⟩)) (.pointer (some ⟨x, 2, none⟩)) rfl rfl (by intro k hk; cases hk; rfl) (fun W => by kernel_rfl)
                  case c10 => exact ask_load (guard_none rfl) _ (.tmp 306) (.pointer (some ⟨x, 2, none⟩)) (.int .i64 (V.sure : Int)) rfl rfl (by intro k hk; cases hk; rfl) (fun W hW => load_int W _ _ (by rw [hW.cell (p := ⟨x, 2, none⟩) HXXa.out.lt, HXXa.out.cell]; rfl))
                  case c11 => exact ask_copy (guard_none rfl) (.tmp 0) (.inl rfl) (by intro k hk; cases hk; rfl)
                  case c12 => exact ask_exec (guard_none rfl) (.pointer (some ⟨B, 0, none⟩)) rfl rfl (by intro k hk; cases hk; rfl) (fun W hW => by kernel_rfl)
                  case c13 => exact ask_field (guard_none rfl) _ (.tmp 309) 2 (.pointer (some ⟨B, 0, none⟩)) (.pointer (some ⟨B, 2, none⟩)) rfl rfl (by intro k hk; cases hk; rfl) (fun W => by kernel_rfl)
                  case c14 => exact ask_load (guard_none rfl) _ (.tmp 310) (.pointer (some ⟨B, 2, none⟩)) (.pointer (some ⟨x, 0, none⟩)) rfl rfl (by intro k hk; cases hk; rfl) (fun W hW => load_rl W _ _ (by rw [hW.cell (p := ⟨B, 2, none⟩) HBBa.out.lt, HBBa.out.cell]; rfl))
                  case c15 => exact ask_exec (guard_none rfl) (.pointer (some ⟨x, 0, none⟩)) rfl rfl (by intro k hk; cases hk; rfl) (fun W hW => by kernel_rfl)
                  case c16 => exact ask_field (guard_none rfl) _ (.tmp 312) 0 (.pointer (some ⟨x, 0, none⟩)) (.pointer (some ⟨x, 0, none⟩)) rfl rfl (by intro k hk; cases hk; rfl) (fun W => by kernel_rfl)
                  case c17 => exact ask_load (guard_none rfl) _ (.tmp 313) (.pointer (some ⟨x, 0, none⟩)) (.int .u64 (f : Int)) rfl rfl (by intro k hk; cases hk; rfl) (fun W hW => load_u64 W _ _ (by rw [hW.cell (p := ⟨x, 0, none⟩) HXXa.out.lt, HXXa.out.cell, HF.out]; rfl))
                · intro af W8 hW hd' hs' hf'
                  have t0 : af.tmps.getD 0 undef = .pointer (some ⟨B, 0, none⟩) := hf' 0 rfl
                  have t300 : af.tmps.getD 300 undef = .pointer (some ⟨x, 0, none⟩) := hf' 300 rfl
                  have t307 : af.tmps.getD 307 undef = .int .i64 (V.sure : Int) := hf' 307 rfl
                  have t314 : af.tmps.getD 314 undef = .int .u64 (f : Int) := hf' 314 rfl
                  obtain ⟨us, hus, haf⟩ := act_open 346 af hs' hd'
                  rw [← hus] at t0 t300 t307 t314
                  have el := range_346 us
                  rw [el] at haf
                  subst haf
                  rw [t0, t300, t307, t314]
                  have HW8 := Lib.hid hW
                  clear hus t0 t300 t307 t314 el hf' hs' hd' hW
                  have HA8 := Lib.hid (HAa.out.below HW8.out).1
                  go_wp2_with fail
                  have hlo := at_lost HA8.out V.sure V.first (by have := HSu.out; have := HNum.out; have := HN.out; omega) (by have := HNum.out; have := HN.out; omega)
                  rw [← HF.out] at hlo
                  refine hlo.mono ?_
                  rintro e W9 ⟨rfl, ha9, hs9⟩
                  rw [HF.out] at ha9
                  have hfin : Called w Z B s N (.returned (.bool true)) W9 := called_lost ha9 HC3.out (HGo.out.more (by omega)) HNc.out
                  have HFin := Lib.hid hfin
                  clear hlo ha9 hs9 hfin
                  go_wp2
                  go_ret
                  exact HFin.out
          · (obtain rfl : cd = _ := by simpa using he); clear he
            have HA4 := Lib.hid ha3
            have hi3 := Lib.hid hi3
            have HCm := Lib.hid hcm3
            clear ha3 hcm3
            have hbb4 := HA4.out.blkB
            obtain ⟨v4, hx4⟩ := HA4.out.blkX
            have HBB4 := Lib.hid hbb4
            have HXX4 := Lib.hid hx4
            have hG4 : ∀ W W' : World, Below W4.heap.size W4 W → Below W.heap.size W W' → Below W4.heap.size W4 W' := fun W W' h h' => h.trans (h'.mono h.size)
            have kB0 : W4.cell? ⟨B, 0, none⟩ = some (dp d) := by rw [hbb4.cell]; rfl
            have kB1 : W4.cell? ⟨B, 1, none⟩ = some (.pointer (some ⟨l, 0, none⟩)) := by rw [hbb4.cell]; rfl
            have kB2 : W4.cell? ⟨B, 2, none⟩ = some (.pointer (some ⟨x, 0, none⟩)) := by rw [hbb4.cell]; rfl
            have kO1 : W4.cell? ⟨b0, 1, none⟩ = some (.int .i64 n) := by rw [HBox4.out.cell]; rfl
            have kO2 : W4.cell? ⟨b0, 2, none⟩ = some (.slice ba bn bc) := by rw [HBox4.out.cell]; rfl
            have kx0 : W4.cell? ⟨x, 0, none⟩ = some (.int .u64 (f : Int)) := by rw [hx4.cell, HF.out]; rfl
            have kx3 : W4.cell? ⟨x, 3, none⟩ = some (.bool false) := by rw [hx4.cell]; show some (Value.bool V.over) = _; rw [HOv.out]
            clear hbb4 hx4
            go_upto_region 35 with fail
            clear kB0 kB1 kB2 kO1 kO2 kx0 kx3
            refine region_tails_by 6 [(158, .is (.pointer (some ⟨B, 0, none⟩))), (159, .is (.pointer (some ⟨B, 0, none⟩))), (160, .is (.pointer (some ⟨B, 2, none⟩))), (161, .is (.pointer (some ⟨x, 0, none⟩))), (162, .is (.pointer (some ⟨b0, 2, none⟩))), (163, .is (.slice ba bn bc))] [0, 2, 4, 7, 8, 161, 163] (fun W => Below W4.heap.size W4 W) (by kernel_rfl) (by kernel_rfl) (by kernel_rfl) (by kernel_rfl) (by kernel_rfl) (by decide) (by kernel_rfl) (by kernel_rfl) ((Below.refl _ _).drew) ?_ ?_
            · refine ⟨?c0, ?c1, ?c2, ?c3, ?c4, ?c5, trivial⟩
              case c0 => exact ask_copy (guard_none rfl) (.tmp 0) (.inl rfl) (by intro k hk; cases hk; rfl)
              case c1 => exact ask_exec (guard_none rfl) (.pointer (some ⟨B, 0, none⟩)) rfl rfl (by intro k hk; cases hk; rfl) (fun W hW => by kernel_rfl)
              case c2 => exact ask_field (guard_none rfl) _ (.tmp 159) 2 (.pointer (some ⟨B, 0, none⟩)) (.pointer (some ⟨B, 2, none⟩)) rfl rfl (by intro k hk; cases hk; rfl) (fun W => by kernel_rfl)
              case c3 => exact ask_load (guard_none rfl) _ (.tmp 160) (.pointer (some ⟨B, 2, none⟩)) (.pointer (some ⟨x, 0, none⟩)) rfl rfl (by intro k hk; cases hk; rfl) (fun W hW => load_rl W _ _ (by rw [hW.cell (p := ⟨B, 2, none⟩) HBB4.out.lt, HBB4.out.cell]; rfl))
              case c4 => exact ask_field (guard_none rfl) _ (.tmp 4) 2 (.pointer (some ⟨b0, 0, none⟩)) (.pointer (some ⟨b0, 2, none⟩)) rfl rfl (by intro k hk; cases hk; rfl) (fun W => by kernel_rfl)
              case c5 => exact ask_load (guard_none rfl) _ (.tmp 162) (.pointer (some ⟨b0, 2, none⟩)) (.slice ba bn bc) rfl rfl (by intro k hk; cases hk; rfl) (fun W hW => load_bs W _ _ (by rw [hW.cell (p := ⟨b0, 2, none⟩) HBox4.out.lt, HBox4.out.cell]; rfl))
            · intro af Wr hW hd' hs' hf'
              have t0 : af.tmps.getD 0 undef = .pointer (some ⟨B, 0, none⟩) := hf' 0 rfl
              have t2 : af.tmps.getD 2 undef = .int .i64 0 := hf' 2 rfl
              have t4 : af.tmps.getD 4 undef = .pointer (some ⟨b0, 0, none⟩) := hf' 4 rfl
              have t7 : af.tmps.getD 7 undef = .int .u64 (m : Int) := hf' 7 rfl
              have t8 : af.tmps.getD 8 undef = .int .i64 n := hf' 8 rfl
              have t161 : af.tmps.getD 161 undef = .pointer (some ⟨x, 0, none⟩) := hf' 161 rfl
              have t163 : af.tmps.getD 163 undef = .slice ba bn bc := hf' 163 rfl
              obtain ⟨us, hus, haf⟩ := act_open 346 af hs' hd'
              rw [← hus] at t0 t2 t4 t7 t8 t161 t163
              have el := range_346 us
              rw [el] at haf
              subst haf
              rw [t0, t2, t4, t7, t8, t161, t163]
              have HWr := Lib.hid hW
              clear hus t0 t2 t4 t7 t8 t161 t163 el hf' hs' hd' hW
              have HAr := Lib.hid (HA4.out.below HWr.out).1
              have HBoxr := Lib.hid (HBox4.out.keep HWr.out)
              go_wp2_with fail
              refine (at_appended HAr.out (by have := HNum.out; have := HN.out; omega) (HBy.out Wr HAr.out.only) HRl.out (by omega) HBa.out).mono ?_
              rintro e Wa ⟨rfl, haa, hsa⟩
              have HAa := Lib.hid haa
              have HBoxa := Lib.hid (hsa.blk HGb.out HBoxr.out)
              clear haa hsa
              have HSm := Lib.hid (at_same HAa.out)
              go_wp2_with fail
              refine HSm.out.mono ?_
              rintro e W9 ⟨v, rfl, rfl, hb9⟩
              have hfin : Called w Z B s N (.returned (.bool true)) W9 := called_ok (HAa.out.below hb9).1 (hi3.out.more (by omega)) (by have := HN.out; omega) HCm.out
              have HFin := Lib.hid hfin
              clear hb9 hfin
              go_wp2
              go_ret
              exact HFin.out
end Go.Proofs.YthaggdkfaglgaaaGreatDoor
