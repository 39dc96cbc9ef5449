/- Joined: PathUp, PathSize, PathClimb, PathCheck. -/
import Derived.Test.YtdhfabjkpffhnaaDoorGCB
import Derived.Test.YtdhfabjkpffhnaaDoorGCC
import Derived.Test.YtdhfabjkpffhnaaDoorGCA
import Derived.Test.YtdhfabjkpffhnaaDoorLeafAskC
import Derived.Test.YtdhfabjkpffhnaaDoorLeafConvC
import Derived.Test.YtdhfabjkpffhnaaDoorGCF
import Derived.Test.YtdhfabjkpffhnaaDoorLeafSpecC
/- Layer 15: the program's climb. -/
namespace Go.Proofs.YtdhfabjkpffhnaaDoor
set_option maxRecDepth 20000
open Go.RowKit ShaMath LeafMath PathMath Reg

theorem UpW.lt {w W : World} {h : Hs} (H : UpW w h W) : w.heap.size + 2 ≤ W.heap.size := by
  obtain ⟨-, ⟨zs, h2, -⟩, -⟩ := H
  have := h2.lt
  omega
theorem UpW.row {w W : World} {h : Hs} (H : UpW w h W) (g : Nat) (cs : Array Value) (hg : w.heap.size + 2 ≤ g) : UpW w h (W.setRow g cs) := by
  obtain ⟨h1, ⟨zs, h2, h3⟩, h4⟩ := H
  exact ⟨h1.rowOther _ (by omega), ⟨zs, h2.rowOther _ (by omega), h3⟩, below_setRow h4 _ _ (by omega)⟩

set_option maxHeartbeats 2000000 in
set_option maxRecDepth 100000 in
theorem climbIn_any (n : Int) (hn : I64 n) : ∀ (m i : Nat) (h : Hs) (ps : List Hs) (v : Value) (w : World), h.length = 32 → i < m → m < 18446744073709551616 → Hss w v ps → ps.length = sizeP i m → Tabs w →
    Calls Tryd.prog 85 #[.int .i64 n, .agg (bs h), .int .u64 (i : Int), .int .u64 (m : Int), v] w fun e w' => e = .returned (.agg (bs (climbP n i m ps h))) ∧ Below w.heap.size w w' := by
  intro m
  induction m using Nat.strongRecOn with
  | ind m ih =>
    intro i h ps v w hh him hm hv hl hk
    have HP := Lib.hid (UpW.new w h)
    have HSh := Lib.hid (size_hash (cs := bs h) (by rw [bs_size, hh]))
    have Hh := Lib.hid hh
    by_cases h1 : m = 1
    · subst h1
      rw [climbP_one n i 1 ps h (by decide)]
      obtain ⟨a, c, rfl, _⟩ := hv.form
      clear ih hh hv hl hk him
      go_enter Tryd.func85, Tryd.ntmps85
      go_upto_region 1 with fail
      refine world_cut (fun W => UpW w h W) HP.out ?_
      clear HP
      intro W1 hW1
      obtain ⟨b0, ⟨zs, hz1, hz2⟩, hb⟩ := hW1
      have B0 := Lib.hid b0
      have HZ := Lib.hid hz1
      have HZs := Lib.hid hz2
      have HB := Lib.hid hb
      clear b0 hz1 hz2 hb
      go_wp2_with (first
        | (refine wpList_load_row rfl 24 (.tmp 6) rfl w.heap.size rfl 24 (bs h) (0, 0) _ B0.out Tryd.underlying24 rfl HSh.out ?_)
        | (refine wpList_store_row rfl 24 (.tmp 10) (.tmp 16) rfl (w.heap.size + 1) (bs h) rfl rfl 24 _ HZ.out HSh.out (by rw [bs_size, Hh.out, HZs.out]) (bs_one _) ?_))
      exact bodyPost_ret (v := .agg (bs h)) (results_cell_row rfl _ _ (w.heap.size + 1) 24 (bs h) (0, 0) _ rfl (Blk.row HZ.out (bs h)) Tryd.underlying24 rfl HSh.out) rfl ⟨rfl, below_setRow HB.out _ _ (by omega)⟩
    · have h2 : 2 ≤ m := by omega
      have hlt := splitN_lt h2
      have hp0 := splitN_pos m
      obtain ⟨k, hk2⟩ : ∃ k, k = splitN m := ⟨_, rfl⟩
      have HSplit := Lib.hid (fun W => splitAt_any m W (by omega) hm)
      rw [← hk2] at HSplit hlt hp0
      have hne : ¬ (m : Int) = 1 := by omega
      obtain ⟨p, hp⟩ : ∃ p, p = ps.length := ⟨_, rfl⟩
      have hpos : 0 < p := by
        by_cases hik : i < splitN m
        · rw [hp, hl, sizeP_left h2 hik]; omega
        · rw [hp, hl, sizeP_right h2 hik him]; omega
      have hp64 : p ≤ 64 := by rw [hp, hl]; exact sizeP_64 i m hm
      obtain ⟨z, hz⟩ : ∃ z : Nat, (p : Int) - 1 = (z : Int) := ⟨p - 1, by omega⟩
      have hzp : z + 1 = p := by omega
      obtain ⟨y, hy⟩ : ∃ y, ps[z]? = some y := ⟨ps[z]'(by omega), List.getElem?_eq_getElem _⟩
      have hlast : ps.getLastD [] = y := by
        obtain ⟨q, x, rfl⟩ : ∃ q x, ps = q ++ [x] := by
          have hne : ps ≠ [] := fun e => by rw [e] at hp; simp at hp; omega
          exact ⟨ps.dropLast, ps.getLast hne, (List.dropLast_concat_getLast hne).symm⟩
        have hzq : z = q.length := by simp at hp; omega
        rw [hzq] at hy
        simp at hy
        simp [hy]
      have hdl : ps.dropLast = ps.take z := by rw [List.dropLast_eq_take, ← hp]; congr 1; omega
      obtain ⟨pad, hpad, hcy⟩ : ∃ pad pc, v = .slice (some pad) p pc ∧ p ≤ pc := by
        obtain ⟨a, c, e, hc⟩ := hv.form
        rw [← hp] at e hc
        subst e
        obtain ⟨ad, rfl, _⟩ := hv.load hy
        exact ⟨ad, c, rfl, hc⟩
      obtain ⟨rfl, hpc⟩ := hcy
      obtain ⟨pc, hpcc⟩ : ∃ c, c = hpad := ⟨_, rfl⟩
      rw [← hpcc] at hv hpc ⊢
      clear hpcc
      have hy32 := hv.all.get hy
      have Hy32 := Lib.hid hy32
      have HSy := Lib.hid (size_hash (cs := bs y) (by rw [bs_size, hy32]))
      have HZP := Lib.hid hz
      have hv2 : Hss w (.slice (some pad) z pc) ps.dropLast := by
        have := hv.sub 0 z (by omega) (by omega)
        rw [sliced_zero2] at this
        rw [hdl]
        simpa using this
      have HLd := Lib.hid (fun (W : World) (hW : Below w.heap.size w W) => load_hash W (pad.add (z * 32)) y hy32 fun j u hj => by
        obtain ⟨ad2, e, h⟩ := (hv.below (Nat.le_refl _) hW).load hy
        cases e
        exact h j u hj)
      have HIx := Lib.hid (fun W => hss_index W pad p pc z (by omega))
      have HSl := Lib.hid (fun (W : World) => show (Instr.sliceAt 30 (.slice (some pad) p pc) none (some (.int .i64 (z : Int))) none).run Tryd.prog W = .ok (.slice (some pad) z pc) W by
        have h := slice_hs_to (some pad) p pc z (by omega) W
        rwa [sliced_zero2] at h)
      have hG : ∀ W W' : World, UpW w h W → Below W.heap.size W W' → UpW w h W' := fun W W' h h' => h.keep h'
      by_cases hik : i < k
      · have hs := sizeP_left h2 (i := i) (by rw [← hk2]; exact hik)
        rw [← hk2] at hs
        obtain ⟨U, hU, hU32⟩ : ∃ U, U = climbP n i k ps.dropLast h ∧ U.length = 32 := ⟨_, rfl, climbP_length n i k _ h hh⟩
        obtain ⟨R, hR, hR32⟩ : ∃ R, R = climbP n i m ps h ∧ R.length = 32 := ⟨_, rfl, climbP_length n i m _ h hh⟩
        have hnode : nodeH n U y = R := by rw [hR, climbP_left n ps h h2 (by rw [← hk2]; exact hik), hU, hlast, hk2]
        have HUp := Lib.hid (fun (W : World) (hW : Below w.heap.size w W) => ih k hlt i h ps.dropLast (.slice (some pad) z pc) W hh hik (by omega) (hv2.below (Nat.le_refl _) hW) (by rw [List.length_dropLast, hl, hs]; rfl) (hk.below (Nat.le_refl _) hW))
        have HNode := Lib.hid (fun (W : World) (hW : Below w.heap.size w W) => node_any n U y W hn hU32 hy32 (hk.below (Nat.le_refl _) hW))
        rw [← hU] at HUp
        rw [hnode] at HNode
        rw [← hR]
        have HSR := Lib.hid (size_hash (cs := bs R) (by rw [bs_size, hR32]))
        have HR32 := Lib.hid hR32
        have hik2 : (i : Int) < (k : Int) := by omega
        clear ih hh hv hl hk hs hU hU32 hR hR32 hnode hlast hdl hy hy32 hv2 hp hk2
        go_enter Tryd.func85, Tryd.ntmps85
        go_upto_region 1 with fail
        refine world_cut (fun W => UpW w h W) HP.out ?_
        clear HP
        intro W1 hW1
        have HW1 := Lib.hid hW1
        clear hW1
        go_upto_region 3 with fail
        refine region_fill_by 13 _ (fun b => [(12, (if b then varF (w.heap.size + 2) 24 (bs y) else varF (w.heap.size + 2) 24 (bs (List.replicate 32 0)))), (17, .is (.slice (some pad) p pc)), (18, .is (.slice (some pad) p pc)), (19, .is (.int .i64 (p : Int))), (20, .is (.int .i64 (z : Int))), (21, .is (.slice (some pad) z pc)), (22, .is (.slice (some pad) p pc)), (23, .is (.slice (some pad) p pc)), (24, .is (.int .i64 (p : Int))), (25, .is (.int .i64 (z : Int))), (26, .is (.pointer (some (pad.add (z * 32))))), (27, .is (.agg (bs y))), (11, .is (.slice (some pad) z pc))]) [0, 2, 3, 4, 6, 10, 11, 12] (fun W => UpW w h W) (by kernel_rfl) (by kernel_rfl) (by kernel_rfl) (by kernel_rfl) (by kernel_rfl) (hG _ _ HW1.out (Below.refl _ _).drew) rfl rfl ?_ ?_ ?_
        · refine ⟨?c0, ?c1, ?c2, ?c3, ?c4, ?c5, ?c6, ?c7, ?c8, ?c9, ?c10, ?c11, ?c12, ?c13, trivial⟩
          case c0 => exact .inr (.inl fun b => ask_copy (guard_none rfl) (.tmp 4) (.inl rfl) (by intro k hk; cases hk; rfl))
          case c1 => exact .inr (.inl fun b => ask_copy (guard_none rfl) (.tmp 4) (.inl rfl) (by intro k hk; cases hk; rfl))
          case c2 => exact .inr (.inl fun b => ask_len (guard_none rfl) (.tmp 18) _ (some pad) p pc rfl (by kernel_rfl) rfl (by intro k hk; cases hk; rfl))
          case c3 => exact .inr (.inl fun b => ask_bin (guard_none rfl) .sub _ _ (.tmp 19) (.const (.int .i64 1)) (.int .i64 (p : Int)) (.int .i64 1) (.int .i64 (z : Int)) rfl rfl rfl (by intro k hk; cases hk; rfl) (fun W => sub_i64 _ _ _ _ _ _ HZP.out (by omega) W))
          case c4 => exact .inr (.inl fun b => ask_slice (guard_none rfl) _ (.tmp 17) none (some (.tmp 20)) none (.slice (some pad) p pc) (.slice (some pad) z pc) none (some (.int .i64 (z : Int))) none rfl rfl rfl rfl rfl (by intro k hk; cases hk; rfl) (HSl.out))
          case c5 => exact .inr (.inl fun b => ask_copy (guard_none rfl) (.tmp 4) (.inl rfl) (by intro k hk; cases hk; rfl))
          case c6 => exact .inr (.inl fun b => ask_copy (guard_none rfl) (.tmp 4) (.inl rfl) (by intro k hk; cases hk; rfl))
          case c7 => exact .inr (.inl fun b => ask_len (guard_none rfl) (.tmp 23) _ (some pad) p pc rfl (by kernel_rfl) rfl (by intro k hk; cases hk; rfl))
          case c8 => exact .inr (.inl fun b => ask_bin (guard_none rfl) .sub _ _ (.tmp 24) (.const (.int .i64 1)) (.int .i64 (p : Int)) (.int .i64 1) (.int .i64 (z : Int)) rfl rfl rfl (by intro k hk; cases hk; rfl) (fun W => sub_i64 _ _ _ _ _ _ HZP.out (by omega) W))
          case c9 => exact .inr (.inl fun b => ask_idx (guard_none rfl) _ (.tmp 22) (.tmp 25) (.slice (some pad) p pc) (.int .i64 (z : Int)) (.pointer (some (pad.add (z * 32)))) rfl rfl rfl (by intro k hk; cases hk; rfl) HIx.out)
          case c10 => exact .inr (.inl fun b => ask_load (guard_none rfl) _ (.tmp 26) (.pointer (some (pad.add (z * 32)))) (.agg (bs y)) rfl rfl (by intro k hk; cases hk; rfl) (fun W hW => HLd.out W hW.2.2))
          case c11 => exact .inr (.inr ⟨by kernel_rfl, ask_alloc hG (guard_none rfl) _ (.agg (bs (List.replicate 32 0))) (varF (w.heap.size + 2) 24 (bs (List.replicate 32 0))) rfl (fun W => by kernel_rfl) (by intro k hk; cases hk; rfl) (fun W hW => ⟨_, rfl, hW.lt, Blk.new W _ _⟩)⟩)
          case c12 => exact .inr (.inl fun b => ask_copy (guard_none rfl) (.tmp 21) (.inr rfl) (by intro k hk; cases hk; rfl))
          case c13 => exact .inl rfl
        · intro x W hW hk
          obtain ⟨g, e1, e2, e3⟩ : ∃ g, x 12 = .pointer (some ⟨g, 0, none⟩) ∧ w.heap.size + 2 ≤ g ∧ Blk W g 24 (bs (List.replicate 32 0)) := hk 12 rfl
          have e4 : x 27 = .agg (bs y) := hk 27 rfl
          refine ⟨guard_ok (guard_none rfl) hk, gives_store 24 (.tmp 12) (.tmp 27) rfl (.pointer (some ⟨g, 0, none⟩)) (.agg (bs y)) e1 e4 (e3.stores 24 _ HSy.out (by simp [bs_size, Hy32.out]) (bs_one _)) ⟨hW.row g _ e2, fun k _ hu => ?_⟩⟩
          by_cases h12 : k = 12
          · subst h12
            exact ⟨g, e1, e2, e3.row _⟩
          · simp only [factsOf_ne h12] at hu ⊢
            refine facts_keep (fun q hq u hu => ?_) k _ hu
            simp only [List.mem_cons, List.not_mem_nil, or_false] at hq
            rcases hq with rfl | rfl | rfl | rfl | rfl | rfl | rfl | rfl | rfl | rfl | rfl | rfl
            all_goals exact hu
        · intro a' W3 hW hd' hs' hf'
          have t12 : ∃ g, a'.tmps.getD 12 undef = .pointer (some ⟨g, 0, none⟩) ∧ w.heap.size + 2 ≤ g ∧ Blk W3 g 24 (bs y) := hf' 12 rfl
          obtain ⟨g, e12, hg12, hb12⟩ := t12
          have t0 : a'.tmps.getD 0 undef = .int .i64 n := hf' 0 rfl
          have t2 : a'.tmps.getD 2 undef = .int .u64 (i : Int) := hf' 2 rfl
          have t3 : a'.tmps.getD 3 undef = .int .u64 (m : Int) := hf' 3 rfl
          have t4 : a'.tmps.getD 4 undef = .slice (some pad) p pc := hf' 4 rfl
          have t6 : a'.tmps.getD 6 undef = .pointer (some ⟨w.heap.size, 0, none⟩) := hf' 6 rfl
          have t10 : a'.tmps.getD 10 undef = .pointer (some ⟨w.heap.size + 1, 0, none⟩) := hf' 10 rfl
          have t11 : a'.tmps.getD 11 undef = .slice (some pad) z pc := hf' 11 rfl
          have t12 := e12
          obtain ⟨us', hus, ha'⟩ := act_open 55 a' hs' hd'
          rw [← hus] at t0 t2 t3 t4 t6 t10 t11 t12
          have el : ((List.range 55).map us').toArray = #[.int .i64 n, us' 1, .int .u64 (i : Int), .int .u64 (m : Int), .slice (some pad) p pc, us' 5, .pointer (some ⟨w.heap.size, 0, none⟩), us' 7, us' 8, us' 9, .pointer (some ⟨w.heap.size + 1, 0, none⟩), .slice (some pad) z pc, .pointer (some ⟨g, 0, none⟩), us' 13, us' 14, us' 15, us' 16, us' 17, us' 18, us' 19, us' 20, us' 21, us' 22, us' 23, us' 24, us' 25, us' 26, us' 27, us' 28, us' 29, us' 30, us' 31, us' 32, us' 33, us' 34, us' 35, us' 36, us' 37, us' 38, us' 39, us' 40, us' 41, us' 42, us' 43, us' 44, us' 45, us' 46, us' 47, us' 48, us' 49, us' 50, us' 51, us' 52, us' 53, us' 54] := by
            show #[us' 0, us' 1, us' 2, us' 3, us' 4, us' 5, us' 6, us' 7, us' 8, us' 9, us' 10, us' 11, us' 12, us' 13, us' 14, us' 15, us' 16, us' 17, us' 18, us' 19, us' 20, us' 21, us' 22, us' 23, us' 24, us' 25, us' 26, us' 27, us' 28, us' 29, us' 30, us' 31, us' 32, us' 33, us' 34, us' 35, us' 36, us' 37, us' 38, us' 39, us' 40, us' 41, us' 42, us' 43, us' 44, us' 45, us' 46, us' 47, us' 48, us' 49, us' 50, us' 51, us' 52, us' 53, us' 54] = _
            rw [t0, t2, t3, t4, t6, t10, t11, t12]
          rw [el] at ha'
          subst ha'
          clear e12 hus t0 t2 t3 t4 t6 t10 t11 t12 el hf' hs' hd'
          have HW3 := Lib.hid (And.intro hW hb12)
          clear hW hb12 hG hg12
          go_wp2_with fail
          refine (HSplit.out _).mono ?_
          rintro e W4 ⟨rfl, rfl⟩
          go_upto_region 6 with fail
          have hG2 : ∀ W W' : World, (UpW w h W ∧ Blk W g 24 (bs y)) → Below W.heap.size W W' → (UpW w h W' ∧ Blk W' g 24 (bs y)) := fun W W' h h' => ⟨h.1.keep h', h.2.keep h'⟩
          refine region_tail_by 9 _ [(33, .is (.int .i64 n)), (34, .is (.int .i64 n)), (35, .is (.agg (bs h))), (36, .is (.int .u64 (i : Int))), (37, .is (.int .u64 (k : Int))), (38, .is (.slice (some pad) z pc)), (39, .is (.agg (bs U))), (40, .is (.agg (bs y))), (41, .is (.agg (bs R)))] [10, 41] (fun W => UpW w h W ∧ Blk W g 24 (bs y)) (by kernel_rfl) (by kernel_rfl) (by kernel_rfl) (by kernel_rfl) (by kernel_rfl) rfl rfl rfl rfl (by kernel_rfl) (hG2 _ _ HW3.out (Below.refl _ _).drew) ?_ ?_
          · refine ⟨?c0, ?c1, ?c2, ?c3, ?c4, ?c5, ?c6, ?c7, ?c8, trivial⟩
            case c0 => exact ask_copy (guard_none rfl) (.tmp 0) (.inl rfl) (by intro k hk; cases hk; rfl)
            case c1 => exact ask_copy (guard_none rfl) (.tmp 0) (.inl rfl) (by intro k hk; cases hk; rfl)
            case c2 => exact ask_load (guard_none rfl) _ (.tmp 6) (.pointer (some ⟨w.heap.size, 0, none⟩)) (.agg (bs h)) rfl rfl (by intro k hk; cases hk; rfl) (fun W hW => hW.1.1.loads 24 _ Tryd.underlying24 rfl HSh.out)
            case c3 => exact ask_copy (guard_none rfl) (.tmp 2) (.inl rfl) (by intro k hk; cases hk; rfl)
            case c4 => exact ask_copy (guard_none rfl) (.tmp 13) (.inl rfl) (by intro k hk; cases hk; rfl)
            case c5 => exact ask_copy (guard_none rfl) (.tmp 11) (.inl rfl) (by intro k hk; cases hk; rfl)
            case c6 => exact ask_call hG2 (guard_none rfl) _ _ _ #[.int .i64 n, .agg (bs h), .int .u64 (i : Int), .int .u64 (k : Int), .slice (some pad) z pc] (.is (.agg (bs U))) rfl (by kernel_rfl) rfl rfl (by intro k hk; cases hk; rfl) (fun W hW => (HUp.out W hW.1.2.2).mono fun e w' h => ⟨_, h.1, rfl, h.2⟩)
            case c7 => exact ask_load (guard_none rfl) _ (.tmp 12) (.pointer (some ⟨g, 0, none⟩)) (.agg (bs y)) rfl rfl (by intro k hk; cases hk; rfl) (fun W hW => hW.2.loads 24 _ Tryd.underlying24 rfl HSy.out)
            case c8 => exact ask_call hG2 (guard_none rfl) _ _ _ #[.int .i64 n, .agg (bs U), .agg (bs y)] (.is (.agg (bs R))) rfl (by kernel_rfl) rfl rfl (by intro k hk; cases hk; rfl) (fun W hW => (HNode.out W hW.1.2.2).mono fun e w' h => ⟨_, h.1, rfl, h.2⟩)
          · intro a' W hW hd' hs' hf'
            have t10 : a'.tmps.getD 10 undef = .pointer (some ⟨w.heap.size + 1, 0, none⟩) := hf' 10 rfl
            have t41 : a'.tmps.getD 41 undef = .agg (bs R) := hf' 41 rfl
            obtain ⟨us', hus, ha'⟩ := act_open 55 a' hs' hd'
            rw [← hus] at t10 t41
            have el : ((List.range 55).map us').toArray = #[us' 0, us' 1, us' 2, us' 3, us' 4, us' 5, us' 6, us' 7, us' 8, us' 9, .pointer (some ⟨w.heap.size + 1, 0, none⟩), us' 11, us' 12, us' 13, us' 14, us' 15, us' 16, us' 17, us' 18, us' 19, us' 20, us' 21, us' 22, us' 23, us' 24, us' 25, us' 26, us' 27, us' 28, us' 29, us' 30, us' 31, us' 32, us' 33, us' 34, us' 35, us' 36, us' 37, us' 38, us' 39, us' 40, .agg (bs R), us' 42, us' 43, us' 44, us' 45, us' 46, us' 47, us' 48, us' 49, us' 50, us' 51, us' 52, us' 53, us' 54] := by
              show #[us' 0, us' 1, us' 2, us' 3, us' 4, us' 5, us' 6, us' 7, us' 8, us' 9, us' 10, us' 11, us' 12, us' 13, us' 14, us' 15, us' 16, us' 17, us' 18, us' 19, us' 20, us' 21, us' 22, us' 23, us' 24, us' 25, us' 26, us' 27, us' 28, us' 29, us' 30, us' 31, us' 32, us' 33, us' 34, us' 35, us' 36, us' 37, us' 38, us' 39, us' 40, us' 41, us' 42, us' 43, us' 44, us' 45, us' 46, us' 47, us' 48, us' 49, us' 50, us' 51, us' 52, us' 53, us' 54] = _
              rw [t10, t41]
            rw [el] at ha'
            subst ha'
            clear hus t10 t41 el hf' hs' hd'
            obtain ⟨⟨-, ⟨zs, hz1, hz2⟩, hB5⟩, -⟩ := hW
            have HZ := Lib.hid hz1
            have HZs := Lib.hid hz2
            have HB5 := Lib.hid hB5
            clear hz1 hz2 hB5 hG2
            go_wp2_with (refine wpList_store_row rfl 24 (.tmp 10) (.tmp 41) rfl (w.heap.size + 1) (bs R) rfl rfl 24 _ HZ.out HSR.out (by rw [bs_size, HR32.out, HZs.out]) (bs_one _) ?_)
            exact bodyPost_ret (v := .agg (bs R)) (results_cell_row rfl _ _ (w.heap.size + 1) 24 (bs R) (0, 0) _ rfl (Blk.row HZ.out (bs R)) Tryd.underlying24 rfl HSR.out) rfl ⟨rfl, below_setRow HB5.out _ _ (by omega)⟩
      · have hs := sizeP_right h2 (i := i) (by rw [← hk2]; exact hik) him
        rw [← hk2] at hs
        obtain ⟨i2, hi2⟩ : ∃ i2 : Nat, (i : Int) - (k : Int) = (i2 : Int) := ⟨i - k, by omega⟩
        obtain ⟨m2, hm2⟩ : ∃ m2 : Nat, (m : Int) - (k : Int) = (m2 : Int) := ⟨m - k, by omega⟩
        have ei : i - k = i2 := by omega
        have em : m - k = m2 := by omega
        rw [ei, em] at hs
        obtain ⟨U, hU, hU32⟩ : ∃ U, U = climbP n i2 m2 ps.dropLast h ∧ U.length = 32 := ⟨_, rfl, climbP_length n i2 m2 _ h hh⟩
        obtain ⟨R, hR, hR32⟩ : ∃ R, R = climbP n i m ps h ∧ R.length = 32 := ⟨_, rfl, climbP_length n i m _ h hh⟩
        have hnode : nodeH n y U = R := by rw [hR, climbP_right n ps h h2 (by rw [← hk2]; exact hik), hU, hlast, ← ei, ← em, hk2]
        have hi2b : i2 < 18446744073709551616 := by omega
        have hm2b : m2 < 18446744073709551616 := by omega
        have HUp := Lib.hid (fun (W : World) (hW : Below w.heap.size w W) => ih m2 (by omega) i2 h ps.dropLast (.slice (some pad) z pc) W hh (by omega) hm2b (hv2.below (Nat.le_refl _) hW) (by rw [List.length_dropLast, hl, hs]; rfl) (hk.below (Nat.le_refl _) hW))
        have HNode := Lib.hid (fun (W : World) (hW : Below w.heap.size w W) => node_any n y U W hn hy32 hU32 (hk.below (Nat.le_refl _) hW))
        rw [← hU] at HUp
        rw [hnode] at HNode
        rw [← hR]
        have HSR := Lib.hid (size_hash (cs := bs R) (by rw [bs_size, hR32]))
        have HR32 := Lib.hid hR32
        have HI2 := Lib.hid hi2
        have HM2 := Lib.hid hm2
        have hik2 : ¬ (i : Int) < (k : Int) := by omega
        clear ih hh hv hl hk hs hU hU32 hR hR32 hnode hlast hdl hy hy32 hv2 hp hk2 ei em hi2 hm2
        go_enter Tryd.func85, Tryd.ntmps85
        go_upto_region 1 with fail
        refine world_cut (fun W => UpW w h W) HP.out ?_
        clear HP
        intro W1 hW1
        have HW1 := Lib.hid hW1
        clear hW1
        go_upto_region 3 with fail
        refine region_fill_by 13 _ (fun b => [(12, (if b then varF (w.heap.size + 2) 24 (bs y) else varF (w.heap.size + 2) 24 (bs (List.replicate 32 0)))), (17, .is (.slice (some pad) p pc)), (18, .is (.slice (some pad) p pc)), (19, .is (.int .i64 (p : Int))), (20, .is (.int .i64 (z : Int))), (21, .is (.slice (some pad) z pc)), (22, .is (.slice (some pad) p pc)), (23, .is (.slice (some pad) p pc)), (24, .is (.int .i64 (p : Int))), (25, .is (.int .i64 (z : Int))), (26, .is (.pointer (some (pad.add (z * 32))))), (27, .is (.agg (bs y))), (11, .is (.slice (some pad) z pc))]) [0, 2, 3, 4, 6, 10, 11, 12] (fun W => UpW w h W) (by kernel_rfl) (by kernel_rfl) (by kernel_rfl) (by kernel_rfl) (by kernel_rfl) (hG _ _ HW1.out (Below.refl _ _).drew) rfl rfl ?_ ?_ ?_
        · refine ⟨?c0, ?c1, ?c2, ?c3, ?c4, ?c5, ?c6, ?c7, ?c8, ?c9, ?c10, ?c11, ?c12, ?c13, trivial⟩
          case c0 => exact .inr (.inl fun b => ask_copy (guard_none rfl) (.tmp 4) (.inl rfl) (by intro k hk; cases hk; rfl))
          case c1 => exact .inr (.inl fun b => ask_copy (guard_none rfl) (.tmp 4) (.inl rfl) (by intro k hk; cases hk; rfl))
          case c2 => exact .inr (.inl fun b => ask_len (guard_none rfl) (.tmp 18) _ (some pad) p pc rfl (by kernel_rfl) rfl (by intro k hk; cases hk; rfl))
          case c3 => exact .inr (.inl fun b => ask_bin (guard_none rfl) .sub _ _ (.tmp 19) (.const (.int .i64 1)) (.int .i64 (p : Int)) (.int .i64 1) (.int .i64 (z : Int)) rfl rfl rfl (by intro k hk; cases hk; rfl) (fun W => sub_i64 _ _ _ _ _ _ HZP.out (by omega) W))
          case c4 => exact .inr (.inl fun b => ask_slice (guard_none rfl) _ (.tmp 17) none (some (.tmp 20)) none (.slice (some pad) p pc) (.slice (some pad) z pc) none (some (.int .i64 (z : Int))) none rfl rfl rfl rfl rfl (by intro k hk; cases hk; rfl) (HSl.out))
          case c5 => exact .inr (.inl fun b => ask_copy (guard_none rfl) (.tmp 4) (.inl rfl) (by intro k hk; cases hk; rfl))
          case c6 => exact .inr (.inl fun b => ask_copy (guard_none rfl) (.tmp 4) (.inl rfl) (by intro k hk; cases hk; rfl))
          case c7 => exact .inr (.inl fun b => ask_len (guard_none rfl) (.tmp 23) _ (some pad) p pc rfl (by kernel_rfl) rfl (by intro k hk; cases hk; rfl))
          case c8 => exact .inr (.inl fun b => ask_bin (guard_none rfl) .sub _ _ (.tmp 24) (.const (.int .i64 1)) (.int .i64 (p : Int)) (.int .i64 1) (.int .i64 (z : Int)) rfl rfl rfl (by intro k hk; cases hk; rfl) (fun W => sub_i64 _ _ _ _ _ _ HZP.out (by omega) W))
          case c9 => exact .inr (.inl fun b => ask_idx (guard_none rfl) _ (.tmp 22) (.tmp 25) (.slice (some pad) p pc) (.int .i64 (z : Int)) (.pointer (some (pad.add (z * 32)))) rfl rfl rfl (by intro k hk; cases hk; rfl) HIx.out)
          case c10 => exact .inr (.inl fun b => ask_load (guard_none rfl) _ (.tmp 26) (.pointer (some (pad.add (z * 32)))) (.agg (bs y)) rfl rfl (by intro k hk; cases hk; rfl) (fun W hW => HLd.out W hW.2.2))
          case c11 => exact .inr (.inr ⟨by kernel_rfl, ask_alloc hG (guard_none rfl) _ (.agg (bs (List.replicate 32 0))) (varF (w.heap.size + 2) 24 (bs (List.replicate 32 0))) rfl (fun W => by kernel_rfl) (by intro k hk; cases hk; rfl) (fun W hW => ⟨_, rfl, hW.lt, Blk.new W _ _⟩)⟩)
          case c12 => exact .inr (.inl fun b => ask_copy (guard_none rfl) (.tmp 21) (.inr rfl) (by intro k hk; cases hk; rfl))
          case c13 => exact .inl rfl
        · intro x W hW hk
          obtain ⟨g, e1, e2, e3⟩ : ∃ g, x 12 = .pointer (some ⟨g, 0, none⟩) ∧ w.heap.size + 2 ≤ g ∧ Blk W g 24 (bs (List.replicate 32 0)) := hk 12 rfl
          have e4 : x 27 = .agg (bs y) := hk 27 rfl
          refine ⟨guard_ok (guard_none rfl) hk, gives_store 24 (.tmp 12) (.tmp 27) rfl (.pointer (some ⟨g, 0, none⟩)) (.agg (bs y)) e1 e4 (e3.stores 24 _ HSy.out (by simp [bs_size, Hy32.out]) (bs_one _)) ⟨hW.row g _ e2, fun k _ hu => ?_⟩⟩
          by_cases h12 : k = 12
          · subst h12
            exact ⟨g, e1, e2, e3.row _⟩
          · simp only [factsOf_ne h12] at hu ⊢
            refine facts_keep (fun q hq u hu => ?_) k _ hu
            simp only [List.mem_cons, List.not_mem_nil, or_false] at hq
            rcases hq with rfl | rfl | rfl | rfl | rfl | rfl | rfl | rfl | rfl | rfl | rfl | rfl
            all_goals exact hu
        · intro a' W3 hW hd' hs' hf'
          have t12 : ∃ g, a'.tmps.getD 12 undef = .pointer (some ⟨g, 0, none⟩) ∧ w.heap.size + 2 ≤ g ∧ Blk W3 g 24 (bs y) := hf' 12 rfl
          obtain ⟨g, e12, hg12, hb12⟩ := t12
          have t0 : a'.tmps.getD 0 undef = .int .i64 n := hf' 0 rfl
          have t2 : a'.tmps.getD 2 undef = .int .u64 (i : Int) := hf' 2 rfl
          have t3 : a'.tmps.getD 3 undef = .int .u64 (m : Int) := hf' 3 rfl
          have t4 : a'.tmps.getD 4 undef = .slice (some pad) p pc := hf' 4 rfl
          have t6 : a'.tmps.getD 6 undef = .pointer (some ⟨w.heap.size, 0, none⟩) := hf' 6 rfl
          have t10 : a'.tmps.getD 10 undef = .pointer (some ⟨w.heap.size + 1, 0, none⟩) := hf' 10 rfl
          have t11 : a'.tmps.getD 11 undef = .slice (some pad) z pc := hf' 11 rfl
          have t12 := e12
          obtain ⟨us', hus, ha'⟩ := act_open 55 a' hs' hd'
          rw [← hus] at t0 t2 t3 t4 t6 t10 t11 t12
          have el : ((List.range 55).map us').toArray = #[.int .i64 n, us' 1, .int .u64 (i : Int), .int .u64 (m : Int), .slice (some pad) p pc, us' 5, .pointer (some ⟨w.heap.size, 0, none⟩), us' 7, us' 8, us' 9, .pointer (some ⟨w.heap.size + 1, 0, none⟩), .slice (some pad) z pc, .pointer (some ⟨g, 0, none⟩), us' 13, us' 14, us' 15, us' 16, us' 17, us' 18, us' 19, us' 20, us' 21, us' 22, us' 23, us' 24, us' 25, us' 26, us' 27, us' 28, us' 29, us' 30, us' 31, us' 32, us' 33, us' 34, us' 35, us' 36, us' 37, us' 38, us' 39, us' 40, us' 41, us' 42, us' 43, us' 44, us' 45, us' 46, us' 47, us' 48, us' 49, us' 50, us' 51, us' 52, us' 53, us' 54] := by
            show #[us' 0, us' 1, us' 2, us' 3, us' 4, us' 5, us' 6, us' 7, us' 8, us' 9, us' 10, us' 11, us' 12, us' 13, us' 14, us' 15, us' 16, us' 17, us' 18, us' 19, us' 20, us' 21, us' 22, us' 23, us' 24, us' 25, us' 26, us' 27, us' 28, us' 29, us' 30, us' 31, us' 32, us' 33, us' 34, us' 35, us' 36, us' 37, us' 38, us' 39, us' 40, us' 41, us' 42, us' 43, us' 44, us' 45, us' 46, us' 47, us' 48, us' 49, us' 50, us' 51, us' 52, us' 53, us' 54] = _
            rw [t0, t2, t3, t4, t6, t10, t11, t12]
          rw [el] at ha'
          subst ha'
          clear e12 hus t0 t2 t3 t4 t6 t10 t11 t12 el hf' hs' hd'
          have HW3 := Lib.hid (And.intro hW hb12)
          clear hW hb12 hG hg12
          go_wp2_with fail
          refine (HSplit.out _).mono ?_
          rintro e W4 ⟨rfl, rfl⟩
          go_upto_region 7 with fail
          have hG2 : ∀ W W' : World, (UpW w h W ∧ Blk W g 24 (bs y)) → Below W.heap.size W W' → (UpW w h W' ∧ Blk W' g 24 (bs y)) := fun W W' h h' => ⟨h.1.keep h', h.2.keep h'⟩
          refine region_tail_by 13 _ [(42, .is (.int .i64 n)), (43, .is (.agg (bs y))), (44, .is (.int .i64 n)), (45, .is (.agg (bs h))), (46, .is (.int .u64 (i : Int))), (47, .is (.int .u64 (k : Int))), (48, .is (.int .u64 (i2 : Int))), (49, .is (.int .u64 (m : Int))), (50, .is (.int .u64 (k : Int))), (51, .is (.int .u64 (m2 : Int))), (52, .is (.slice (some pad) z pc)), (53, .is (.agg (bs U))), (54, .is (.agg (bs R)))] [10, 54] (fun W => UpW w h W ∧ Blk W g 24 (bs y)) (by kernel_rfl) (by kernel_rfl) (by kernel_rfl) (by kernel_rfl) (by kernel_rfl) rfl rfl rfl rfl (by kernel_rfl) (hG2 _ _ HW3.out (Below.refl _ _).drew) ?_ ?_
          · refine ⟨?c0, ?c1, ?c2, ?c3, ?c4, ?c5, ?c6, ?c7, ?c8, ?c9, ?c10, ?c11, ?c12, trivial⟩
            case c0 => exact ask_copy (guard_none rfl) (.tmp 0) (.inl rfl) (by intro k hk; cases hk; rfl)
            case c1 => exact ask_load (guard_none rfl) _ (.tmp 12) (.pointer (some ⟨g, 0, none⟩)) (.agg (bs y)) rfl rfl (by intro k hk; cases hk; rfl) (fun W hW => hW.2.loads 24 _ Tryd.underlying24 rfl HSy.out)
            case c2 => exact ask_copy (guard_none rfl) (.tmp 0) (.inl rfl) (by intro k hk; cases hk; rfl)
            case c3 => exact ask_load (guard_none rfl) _ (.tmp 6) (.pointer (some ⟨w.heap.size, 0, none⟩)) (.agg (bs h)) rfl rfl (by intro k hk; cases hk; rfl) (fun W hW => hW.1.1.loads 24 _ Tryd.underlying24 rfl HSh.out)
            case c4 => exact ask_copy (guard_none rfl) (.tmp 2) (.inl rfl) (by intro k hk; cases hk; rfl)
            case c5 => exact ask_copy (guard_none rfl) (.tmp 13) (.inl rfl) (by intro k hk; cases hk; rfl)
            case c6 => exact ask_bin (guard_none rfl) .sub _ _ (.tmp 46) (.tmp 47) (.int .u64 (i : Int)) (.int .u64 (k : Int)) (.int .u64 (i2 : Int)) rfl rfl rfl (by intro k hk; cases hk; rfl) (fun W => sub_u64 _ _ _ _ _ _ HI2.out (by omega) W)
            case c7 => exact ask_copy (guard_none rfl) (.tmp 3) (.inl rfl) (by intro k hk; cases hk; rfl)
            case c8 => exact ask_copy (guard_none rfl) (.tmp 13) (.inl rfl) (by intro k hk; cases hk; rfl)
            case c9 => exact ask_bin (guard_none rfl) .sub _ _ (.tmp 49) (.tmp 50) (.int .u64 (m : Int)) (.int .u64 (k : Int)) (.int .u64 (m2 : Int)) rfl rfl rfl (by intro k hk; cases hk; rfl) (fun W => sub_u64 _ _ _ _ _ _ HM2.out (by omega) W)
            case c10 => exact ask_copy (guard_none rfl) (.tmp 11) (.inl rfl) (by intro k hk; cases hk; rfl)
            case c11 => exact ask_call hG2 (guard_none rfl) _ _ _ #[.int .i64 n, .agg (bs h), .int .u64 (i2 : Int), .int .u64 (m2 : Int), .slice (some pad) z pc] (.is (.agg (bs U))) rfl (by kernel_rfl) rfl rfl (by intro k hk; cases hk; rfl) (fun W hW => (HUp.out W hW.1.2.2).mono fun e w' h => ⟨_, h.1, rfl, h.2⟩)
            case c12 => exact ask_call hG2 (guard_none rfl) _ _ _ #[.int .i64 n, .agg (bs y), .agg (bs U)] (.is (.agg (bs R))) rfl (by kernel_rfl) rfl rfl (by intro k hk; cases hk; rfl) (fun W hW => (HNode.out W hW.1.2.2).mono fun e w' h => ⟨_, h.1, rfl, h.2⟩)
          · intro a' W hW hd' hs' hf'
            have t10 : a'.tmps.getD 10 undef = .pointer (some ⟨w.heap.size + 1, 0, none⟩) := hf' 10 rfl
            have t54 : a'.tmps.getD 54 undef = .agg (bs R) := hf' 54 rfl
            obtain ⟨us', hus, ha'⟩ := act_open 55 a' hs' hd'
            rw [← hus] at t10 t54
            have el : ((List.range 55).map us').toArray = #[us' 0, us' 1, us' 2, us' 3, us' 4, us' 5, us' 6, us' 7, us' 8, us' 9, .pointer (some ⟨w.heap.size + 1, 0, none⟩), us' 11, us' 12, us' 13, us' 14, us' 15, us' 16, us' 17, us' 18, us' 19, us' 20, us' 21, us' 22, us' 23, us' 24, us' 25, us' 26, us' 27, us' 28, us' 29, us' 30, us' 31, us' 32, us' 33, us' 34, us' 35, us' 36, us' 37, us' 38, us' 39, us' 40, us' 41, us' 42, us' 43, us' 44, us' 45, us' 46, us' 47, us' 48, us' 49, us' 50, us' 51, us' 52, us' 53, .agg (bs R)] := by
              show #[us' 0, us' 1, us' 2, us' 3, us' 4, us' 5, us' 6, us' 7, us' 8, us' 9, us' 10, us' 11, us' 12, us' 13, us' 14, us' 15, us' 16, us' 17, us' 18, us' 19, us' 20, us' 21, us' 22, us' 23, us' 24, us' 25, us' 26, us' 27, us' 28, us' 29, us' 30, us' 31, us' 32, us' 33, us' 34, us' 35, us' 36, us' 37, us' 38, us' 39, us' 40, us' 41, us' 42, us' 43, us' 44, us' 45, us' 46, us' 47, us' 48, us' 49, us' 50, us' 51, us' 52, us' 53, us' 54] = _
              rw [t10, t54]
            rw [el] at ha'
            subst ha'
            clear hus t10 t54 el hf' hs' hd'
            obtain ⟨⟨-, ⟨zs, hz1, hz2⟩, hB5⟩, -⟩ := hW
            have HZ := Lib.hid hz1
            have HZs := Lib.hid hz2
            have HB5 := Lib.hid hB5
            clear hz1 hz2 hB5 hG2
            go_wp2_with (refine wpList_store_row rfl 24 (.tmp 10) (.tmp 54) rfl (w.heap.size + 1) (bs R) rfl rfl 24 _ HZ.out HSR.out (by rw [bs_size, HR32.out, HZs.out]) (bs_one _) ?_)
            exact bodyPost_ret (v := .agg (bs R)) (results_cell_row rfl _ _ (w.heap.size + 1) 24 (bs R) (0, 0) _ rfl (Blk.row HZ.out (bs R)) Tryd.underlying24 rfl HSR.out) rfl ⟨rfl, below_setRow HB5.out _ _ (by omega)⟩
end Go.Proofs.YtdhfabjkpffhnaaDoor

/- Layer 15: the program's Size. -/
namespace Go.Proofs.YtdhfabjkpffhnaaDoor
set_option maxRecDepth 20000
open Go.RowKit ShaMath LeafMath PathMath Reg

def SizeAtP (i m : Nat) (w : World) (s0 s1 s5 : Value) (wr : World) : Prop := ∃ a b s : Nat, s0 = .int .u64 (a : Int) ∧ s1 = .int .u64 (b : Int) ∧ s5 = .int .i64 (s : Int) ∧ s + sizeP a b = sizeP i m ∧ a < b ∧ b < 18446744073709551616 ∧ wr = w

theorem size_any (i m : Nat) (w : World) (_ : i < 18446744073709551616) (hm : m < 18446744073709551616) :
    Calls Tryd.prog 45 #[.int .u64 (i : Int), .int .u64 (m : Int)] w fun e w' => e = .returned (.int .i64 (sizeP i m : Int)) ∧ w' = w := by
  by_cases him : i < m
  · have hS := sizeP_64 i m hm
    have hstart : SizeAtP i m w (.int .u64 (i : Int)) (.int .u64 (m : Int)) (.int .i64 0) w := ⟨i, m, 0, rfl, rfl, rfl, by omega, him, hm, rfl⟩
    obtain ⟨S, hSS⟩ : ∃ S, S = sizeP i m := ⟨_, rfl⟩
    have HSS := Lib.hid hSS
    have HS := Lib.hid hstart
    rw [← hSS] at hS ⊢
    have hige : ¬ (i : Int) ≥ (m : Int) := by omega
    clear hstart hSS
    go_enter Tryd.func45, Tryd.ntmps45
    go_wp2
    go_loopw [0, 1, 5] (fun s0 s1 s5 wr => SizeAtP i m w s0 s1 s5 wr) (fun _ s1 _ _ => natOf s1)
    case atStart => exact HS.out
    case round =>
      obtain ⟨a, b, s, rfl, rfl, rfl, hsum, hab, hb, rfl⟩ := hrel
      clear HS
      by_cases h1 : 1 < b
      · have h2 : 2 ≤ b := by omega
        have hlt := splitN_lt h2
        have hp := splitN_pos b
        obtain ⟨k, hk⟩ : ∃ k, k = splitN b := ⟨_, rfl⟩
        have HSplit := Lib.hid (fun W => splitAt_any b W h2 hb)
        rw [← hk] at HSplit hlt hp
        have hgt : (b : Int) > 1 := by omega
        by_cases hak : a < k
        · have hs := sizeP_left h2 (i := a) (by rw [← hk]; exact hak)
          rw [← hk] at hs
          have HSum := Lib.hid (show (s + 1) + sizeP a k = S by rw [HSS.out]; omega)
          obtain ⟨s1, hs1⟩ : ∃ s1, s1 = s + 1 := ⟨_, rfl⟩
          rw [← hs1] at HSum
          have hz : (s : Int) + 1 = (s1 : Int) := by omega
          have hsS : s1 ≤ 64 := by have := HSum.out; omega
          clear hsum hs hs1 hk
          go_wp2_with fail
          refine (HSplit.out _).mono ?_
          rintro e w2 ⟨rfl, rfl⟩
          clear HSplit
          go_wp2
          go_roundw
          case rel => exact ⟨a, k, s1, rfl, rfl, rfl, by rw [HSum.out, HSS.out], hak, by omega, rfl⟩
          case measure =>
            simp only [natOf, Int.toNat_natCast]
            omega
        · have hs := sizeP_right h2 (i := a) (by rw [← hk]; exact hak) hab
          rw [← hk] at hs
          obtain ⟨a2, ha2⟩ : ∃ x : Nat, (a : Int) - (k : Int) = (x : Int) := ⟨a - k, by omega⟩
          obtain ⟨b2, hb2⟩ : ∃ x : Nat, (b : Int) - (k : Int) = (x : Int) := ⟨b - k, by omega⟩
          have ea : a - k = a2 := by omega
          have eb : b - k = b2 := by omega
          rw [ea, eb] at hs
          have HSum := Lib.hid (show (s + 1) + sizeP a2 b2 = S by rw [HSS.out]; omega)
          obtain ⟨s1, hs1⟩ : ∃ s1, s1 = s + 1 := ⟨_, rfl⟩
          rw [← hs1] at HSum
          have hz : (s : Int) + 1 = (s1 : Int) := by omega
          have hsS : s1 ≤ 64 := by have := HSum.out; omega
          have hA := Lib.hid (show a2 < b2 by omega)
          have hB := Lib.hid (show b2 < b by omega)
          have hb2b : b2 < 18446744073709551616 := by omega
          have ha2b : a2 < 18446744073709551616 := by omega
          clear hsum hs hs1 hk ea eb
          go_wp2_with fail
          refine (HSplit.out _).mono ?_
          rintro e w2 ⟨rfl, rfl⟩
          clear HSplit
          go_wp2
          go_roundw
          case rel => exact ⟨a2, b2, s1, rfl, rfl, rfl, by rw [HSum.out, HSS.out], hA.out, hb2b, rfl⟩
          case measure =>
            have := hB.out
            simp only [natOf, Int.toNat_natCast]
            omega
      · have hb1 : b = 1 := by omega
        subst hb1
        have hz : sizeP a 1 = 0 := sizeP_one a
        have HE := Lib.hid (show s = S by rw [HSS.out]; omega)
        clear hsum hz
        go_wp2
        go_ret
        exact ⟨by rw [HE.out]; rfl, rfl⟩
  · have e : sizeP i m = 0 := sizeP_out i m (by omega)
    have hige : (i : Int) ≥ (m : Int) := by omega
    rw [e]
    clear e
    go_enter Tryd.func45, Tryd.ntmps45
    go_wp2
    go_ret
    exact ⟨rfl, rfl⟩
end Go.Proofs.YtdhfabjkpffhnaaDoor

/- Layer 15: the program's Climb. -/
namespace Go.Proofs.YtdhfabjkpffhnaaDoor
set_option maxRecDepth 20000
open Go.RowKit ShaMath LeafMath PathMath Reg

set_option maxHeartbeats 2000000 in
set_option maxRecDepth 100000 in
theorem climb_any (n : Int) (hn : I64 n) (h : Hs) (i m : Nat) (ps : List Hs) (v : Value) (w : World) (hh : h.length = 32) (hi : i < 18446744073709551616) (hm : m < 18446744073709551616) (hv : Hss w v ps) (hk : Tabs w) :
    Calls Tryd.prog 63 #[.int .i64 n, .agg (bs h), .int .u64 (i : Int), .int .u64 (m : Int), v] w fun e w' => e = .returned (.tuple #[.agg (bs (climbR n h i m ps).1), .int .i64 ((climbR n h i m ps).2 : Int)]) ∧ Below w.heap.size w w' := by
  have HP := Lib.hid (UpW.new w h)
  obtain ⟨pa, pc, rfl, _⟩ := hv.form
  obtain ⟨p, hp⟩ : ∃ p, p = ps.length := ⟨_, rfl⟩
  rw [← hp] at hv ⊢
  obtain ⟨S, hS⟩ : ∃ S, S = sizeP i m := ⟨_, rfl⟩
  have hSb : S ≤ 64 := by rw [hS]; exact sizeP_64 i m hm
  have HSize := Lib.hid (fun W => size_any i m W hi hm)
  rw [← hS] at HSize
  obtain ⟨zz, hzz⟩ : ∃ z, z = z32 := ⟨_, rfl⟩
  have hz32 : zz.length = 32 := by rw [hzz]; rfl
  have HZ := Lib.hid (size_hash (cs := bs zz) (by rw [bs_size, hz32]))
  have HZ32 := Lib.hid hz32
  have HZe := Lib.hid (show bs zz = bs (List.replicate 32 0) by rw [hzz]; rfl)
  by_cases h1 : m ≤ i
  · have hr : climbR n h i m ps = (zz, 9) := by rw [climbR, if_pos h1, hzz]
    rw [hr]
    have hge : (i : Int) ≥ (m : Int) := by omega
    clear hv hk hr hzz hz32 hh hS hp h1
    go_enter Tryd.func63, Tryd.ntmps63
    go_upto_region 1 with fail
    refine world_cut (fun W => UpW w h W) HP.out ?_
    clear HP
    intro W1 hW1
    obtain ⟨b0, ⟨zs, hz1, hz2⟩, hb⟩ := hW1
    have HZ1 := Lib.hid hz1
    have HZ2 := Lib.hid hz2
    have HB := Lib.hid hb
    clear b0 hz1 hz2 hb
    go_wp2_with (refine wpList_store_row rfl 24 (.tmp 10) (.tmp 16) rfl (w.heap.size + 1) (bs zz) rfl (by rw [HZe.out]; rfl) 24 _ HZ1.out HZ.out (by rw [bs_size, HZ32.out, HZ2.out]) (bs_one _) ?_)
    exact bodyPost_ret (v := .tuple #[.agg (bs zz), .int .i64 9]) (ret_hash rfl _ _ (w.heap.size + 1) (bs zz) _ (by rw [bs_size, HZ32.out]) rfl rfl (Blk.row HZ1.out (bs zz))) rfl ⟨rfl, below_setRow HB.out _ _ (by omega)⟩
  · have hge : ¬ (i : Int) ≥ (m : Int) := by omega
    by_cases h2 : p < S
    · have hr : climbR n h i m ps = (zz, 2) := by rw [climbR, if_neg h1, if_pos (by rw [← hp, ← hS]; exact h2), hzz]
      have HLen := Lib.hid (show ∀ W, Calls Tryd.prog 84 #[.int .i64 (p : Int), .int .i64 (S : Int)] W fun e w' => e = .returned (.int .i64 2) ∧ w' = W from fun W => by
        have hx := splitLength_any p S W
        rw [lenR, if_pos (by omega)] at hx
        exact hx)
      rw [hr]
      clear hv hk hr hzz hz32 hh hS hp h1
      go_enter Tryd.func63, Tryd.ntmps63
      go_upto_region 1 with fail
      refine world_cut (fun W => UpW w h W) HP.out ?_
      clear HP
      intro W1 hW1
      obtain ⟨b0, ⟨zs, hz1, hz2⟩, hb⟩ := hW1
      have HZ1 := Lib.hid hz1
      have HZ2 := Lib.hid hz2
      have HB := Lib.hid hb
      clear b0 hz1 hz2 hb
      go_wp2_with fail
      refine (HSize.out _).mono ?_
      rintro e W2 ⟨rfl, rfl⟩
      go_wp2_with fail
      refine (HLen.out _).mono ?_
      rintro e W3 ⟨rfl, rfl⟩
      go_wp2_with (refine wpList_store_row rfl 24 (.tmp 10) (.tmp 25) rfl (w.heap.size + 1) (bs zz) rfl (by rw [HZe.out]; rfl) 24 _ HZ1.out HZ.out (by rw [bs_size, HZ32.out, HZ2.out]) (bs_one _) ?_)
      exact bodyPost_ret (v := .tuple #[.agg (bs zz), .int .i64 2]) (ret_hash rfl _ _ (w.heap.size + 1) (bs zz) _ (by rw [bs_size, HZ32.out]) rfl rfl (Blk.row HZ1.out (bs zz))) rfl ⟨rfl, below_setRow HB.out _ _ (by omega)⟩
    · by_cases h3 : S < p
      · have hr : climbR n h i m ps = (zz, 4) := by rw [climbR, if_neg h1, if_neg (by rw [← hp, ← hS]; exact h2), if_pos (by rw [← hp, ← hS]; exact h3), hzz]
        have HLen := Lib.hid (show ∀ W, Calls Tryd.prog 84 #[.int .i64 (p : Int), .int .i64 (S : Int)] W fun e w' => e = .returned (.int .i64 4) ∧ w' = W from fun W => by
          have hx := splitLength_any p S W
          rw [lenR, if_neg (by omega), if_pos (by omega)] at hx
          exact hx)
        rw [hr]
        clear hv hk hr hzz hz32 hh hS hp h1
        go_enter Tryd.func63, Tryd.ntmps63
        go_upto_region 1 with fail
        refine world_cut (fun W => UpW w h W) HP.out ?_
        clear HP
        intro W1 hW1
        obtain ⟨b0, ⟨zs, hz1, hz2⟩, hb⟩ := hW1
        have HZ1 := Lib.hid hz1
        have HZ2 := Lib.hid hz2
        have HB := Lib.hid hb
        clear b0 hz1 hz2 hb
        go_wp2_with fail
        refine (HSize.out _).mono ?_
        rintro e W2 ⟨rfl, rfl⟩
        go_wp2_with fail
        refine (HLen.out _).mono ?_
        rintro e W3 ⟨rfl, rfl⟩
        go_wp2_with (refine wpList_store_row rfl 24 (.tmp 10) (.tmp 25) rfl (w.heap.size + 1) (bs zz) rfl (by rw [HZe.out]; rfl) 24 _ HZ1.out HZ.out (by rw [bs_size, HZ32.out, HZ2.out]) (bs_one _) ?_)
        exact bodyPost_ret (v := .tuple #[.agg (bs zz), .int .i64 4]) (ret_hash rfl _ _ (w.heap.size + 1) (bs zz) _ (by rw [bs_size, HZ32.out]) rfl rfl (Blk.row HZ1.out (bs zz))) rfl ⟨rfl, below_setRow HB.out _ _ (by omega)⟩
      · have hr : climbR n h i m ps = (climbP n i m ps h, 0) := by rw [climbR, if_neg h1, if_neg (by rw [← hp, ← hS]; exact h2), if_neg (by rw [← hp, ← hS]; exact h3)]
        have HLen := Lib.hid (show ∀ W, Calls Tryd.prog 84 #[.int .i64 (p : Int), .int .i64 (S : Int)] W fun e w' => e = .returned (.int .i64 0) ∧ w' = W from fun W => by
          have hx := splitLength_any p S W
          rw [lenR, if_neg (by omega), if_neg (by omega)] at hx
          exact hx)
        rw [hr]
        obtain ⟨U, hU, hU32⟩ : ∃ U, U = climbP n i m ps h ∧ U.length = 32 := ⟨_, rfl, climbP_length n i m _ h hh⟩
        have HUp := Lib.hid (fun (W : World) (hW : Below w.heap.size w W) => climbIn_any n hn m i h ps (.slice pa p pc) W hh (by omega) hm (hv.below (Nat.le_refl _) hW) (by omega) (hk.below (Nat.le_refl _) hW))
        rw [← hU] at HUp ⊢
        have HSU := Lib.hid (size_hash (cs := bs U) (by rw [bs_size, hU32]))
        have HU32 := Lib.hid hU32
        have HSh := Lib.hid (size_hash (cs := bs h) (by rw [bs_size, hh]))
        obtain rfl : p = S := by omega
        clear hv hk hr hzz hz32 hh hS hp h1 hU hU32 h2 h3 HZe
        go_enter Tryd.func63, Tryd.ntmps63
        go_upto_region 1 with fail
        refine world_cut (fun W => UpW w h W) HP.out ?_
        clear HP
        intro W1 hW1
        have HW1 := Lib.hid hW1
        clear hW1
        go_wp2_with fail
        refine (HSize.out _).mono ?_
        rintro e W2 ⟨rfl, rfl⟩
        go_wp2_with fail
        refine (HLen.out _).mono ?_
        rintro e W3 ⟨rfl, rfl⟩
        go_wp2_with (refine wpList_load_row rfl 24 (.tmp 6) rfl w.heap.size rfl 24 (bs h) (0, 0) _ HW1.out.1 Tryd.underlying24 rfl HSh.out ?_)
        refine (HUp.out _ HW1.out.2.2).mono ?_
        rintro e W3 ⟨rfl, hb3⟩
        obtain ⟨-, ⟨zs, hz1, hz2⟩, hb⟩ := HW1.out.keep hb3
        have HZ1 := Lib.hid hz1
        have HZ2 := Lib.hid hz2
        have HB := Lib.hid hb
        clear hz1 hz2 hb hb3 HUp
        go_wp2_with (refine wpList_store_row rfl 24 (.tmp 10) (.tmp 32) rfl (w.heap.size + 1) (bs U) rfl rfl 24 _ HZ1.out HSU.out (by rw [bs_size, HU32.out, HZ2.out]) (bs_one _) ?_)
        exact bodyPost_ret (v := .tuple #[.agg (bs U), .int .i64 0]) (ret_hash rfl _ _ (w.heap.size + 1) (bs U) _ (by rw [bs_size, HU32.out]) rfl rfl (Blk.row HZ1.out (bs U))) rfl ⟨rfl, below_setRow HB.out _ _ (by omega)⟩
end Go.Proofs.YtdhfabjkpffhnaaDoor

/- Layer 15: the program's Check. -/
namespace Go.Proofs.YtdhfabjkpffhnaaDoor
set_option maxRecDepth 20000
open Go.RowKit ShaMath LeafMath PathMath Reg

/-- A hash in a block of the call's own, and another. -/
def ChkW (w : World) (h r : Hs) (W : World) : Prop := Blk W w.heap.size 24 (bs h) ∧ Blk W (w.heap.size + 1) 24 (bs r) ∧ Below w.heap.size w W
theorem ChkW.new (w : World) (h r : Hs) : ChkW w h r ((w.alloc (.cells (bs h) 24)).alloc (.cells (bs r) 24)) :=
  ⟨(Blk.new w _ _).alloc _, Blk.newAt _ _ _ _ _ (by simp) rfl, ((Below.refl _ _).alloc (Nat.le_refl _) _).alloc (by simp) _⟩
theorem ChkW.keep {w W W' : World} {h r : Hs} (H : ChkW w h r W) (hb : Below W.heap.size W W') : ChkW w h r W' := ⟨H.1.keep hb, H.2.1.keep hb, H.2.2.trans (hb.mono H.2.2.size)⟩

end Go.Proofs.YtdhfabjkpffhnaaDoor

