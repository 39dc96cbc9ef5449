/- Layer 19's law: NetKeeps, walked. -/
import Derived.Test.YtgbhfolbkgibfaaKBG
import Derived.Test.YtgbhfolbkgibfaaKBF
import Derived.BigQuiet
import Derived.Deep.QuietTactic
namespace Go.Proofs.Ytgbhfolbkgibfaa
set_option maxRecDepth 20000
open Go.RowKit Go.Maps BinMath NetMath Reg
open MsgMath (Mg formedM)

set_option maxHeartbeats 8000000 in
theorem netKeeps_walk (hp : NetProg) (v : Value) (L : List MM) (w : World) (hv : InRow 12 MM.cells w v L) (hm : MMHas w L) (pa : Option Addr) (pl pc : Nat) (zs : List Int) (hz : IsRow .i64 w pa pl pc zs) :
    Calls Try.prog 4 #[v, .slice pa pl pc] w fun e w' => e = .returned (.bool true) ∧ Below w.heap.size w w' := by
  obtain ⟨sa, c, rfl, ⟨hl, hlc⟩, hel⟩ := hv
  obtain ⟨N, hN⟩ : ∃ N, N = L.length := ⟨_, rfl⟩
  rw [← hN] at hl hlc ⊢
  have hpc : pl ≤ 9223372036854775807 := by
    rcases hz with ⟨-, rfl, -, -⟩ | ⟨x, -, h1, h2, -⟩
    · omega
    · unfold maxLen at h2; omega
  have HE := Lib.hid (show ∀ i x, L[i]? = some x → ∃ ad : Addr, sa = some ad ∧ ∀ W, Below w.heap.size w W → (Instr.loadAt 36 (.pointer (some (ad.add (i * 12))))).run Try.prog W = .ok (.agg (mgC x.m x.ve x.vm x.vg)) W from fun i x hx => by
    obtain ⟨ad, h1, h2⟩ := hel i x hx
    exact ⟨ad, h1, fun W hW => load_mm W _ x fun j v hj => (hW.cell (World.block_lt_of_cell? w _ (h2 j v hj))).trans (h2 j v hj)⟩)
  have HM := Lib.hid hm
  have HN := Lib.hid hN
  have HZ := Lib.hid (show ∀ i : Nat, i < pl → ∃ (x : Addr) (z : Int), pa = some x ∧ ∀ W, Below w.heap.size w W → W.cell? (x.add i) = some (.int .i64 z) from fun i hi => by
    rcases hz with ⟨-, rfl, -, -⟩ | ⟨x, h0, h1, h2, h3, h4, h5⟩
    · omega
    · exact ⟨x, zs.getD i 0, h0, fun W hW => (hW.cell (World.block_lt_of_cell? w _ (h4 i (by omega)))).trans (h4 i (by omega))⟩)
  have HA := Lib.hid (awake19_any hp w)
  have S60 : 60 < N → ∀ W, (Instr.sliceAt 27 (.slice sa N c) none (some (.int .i64 60)) none).run Try.prog W = .ok (.slice sa 60 c) W := fun h W => slice_ml_to sa N c 60 (by omega) W
  clear hel hm hN hz
  by_cases hcase : 60 < N
  · -- more than sixty
    have hn60 : 60 ≤ N := by omega
    have S := S60 (by omega)
    have q60 : (60 : Int) < (N : Int) := by omega
    clear S60
    clear hcase
    go_enter Try.func4, Try.ntmps4
    go_wp2_with fail
    refine HA.out.mono ?_
    rintro e w1 ⟨rfl, hb⟩
    have HB1 := Lib.hid hb
    clear hb HA
    go_wp2_with fail
    refine (hp.new_ w1).mono ?_
    rintro e w2 ⟨P, U, rfl, hi, hb, hU⟩
    have HK := Lib.hid (show KNet hp w1.heap.size w w2 P U L [] (.slice none 0 0) [] from ⟨hi, hU, World.ownsRow_nil _ _ _ _, fun k e => (by cases e), fun _ e => absurd e List.not_mem_nil, hb.size, HB1.out.size, HB1.out.trans (hb.mono HB1.out.size)⟩)
    clear hi hb hU
    have HSz := Lib.hid HB1.out.size
    go_wp2_with fail
    obtain ⟨n, hn⟩ : ∃ n : Nat, n = 60 := ⟨_, rfl⟩
    rw [show (Value.slice sa 60 c) = .slice sa n c by rw [hn]]
    have hnN : n ≤ N := by omega
    have hn6 : n ≤ 60 := by omega
    clear hn
    clear hn60 hl hlc S q60
    have HnN := Lib.hid hnN
    go_loopw [6, 7] (fun s6 s7 wr => ∃ (i : Nat) (U : Nat → Prop) (ys : List MM), i ≤ n ∧ s7 = .int .i64 (i : Int) ∧ KNet hp w1.heap.size w wr P U L (ys.map MM.m) s6 ys ∧ ys.length ≤ i) (fun _ s7 _ => n - (intOf s7).toNat)
    case atStart => exact ⟨0, U, [], by omega, rfl, HK.out, Nat.le_refl _⟩
    case round =>
      obtain ⟨i, U, ys, hi, rfl, hk, hyl⟩ := hrel
      obtain ⟨a6, c6, rfl⟩ := hk.row.form
      have HR := Lib.hid hk
      have i0 : (0 : Int) ≤ (i : Int) := Int.natCast_nonneg _
      clear hk HK
      by_cases hlt : i < n
      · obtain ⟨x, hx⟩ : ∃ x, L[i]? = some x := ⟨L[i]'(by have := HN.out; have := HnN.out; omega), List.getElem?_eq_getElem _⟩
        obtain ⟨ad, rfl, hld⟩ := HE.out i x hx
        have HX := Lib.hid hx
        have HLd := Lib.hid hld
        have hhas := (HM.out x (List.mem_of_getElem? hx)).below (Nat.le_refl _) HR.out.bel
        have hS := hp.send x.m x.ve x.vm x.vg x.us HR.out.is_ hhas (by simp)
        have i1 : (i : Int) < (n : Int) := by omega
        obtain ⟨m6, hm6⟩ : ∃ q, q = ys.length := ⟨_, rfl⟩
        have HM6 := Lib.hid hm6
        rw [← hm6]
        clear hx hld hhas hm6
        rcases send_free (ys.map MM.m) x.m with ⟨h1, h2⟩ | ⟨h1, h2⟩
        · rw [h1, h2] at hS
          have HS := Lib.hid hS
          clear h1 h2 hS
          go_wp2_with (refine wpList_load_by rfl 36 (.tmp 31) rfl _ _ rfl (HLd.out _ HR.out.bel) ?_)
          refine HS.out.mono ?_
          intro e w3 hh
          obtain ⟨rfl, U3, hk3⟩ := HR.out.net hh rfl
          clear hh HS
          have hba := (Below.refl w3.heap.size w3).alloc (Nat.le_refl _) (.cells (mgC x.m x.ve x.vm x.vg) 36)
          have hk4 := hk3.below hba
          have hhas := (HM.out x (List.mem_of_getElem? HX.out)).below (Nat.le_refl _) hk4.bel
          have A := Lib.hid (append_mm_at hk4.zl hk4.row (by have := HM6.out; omega) x hhas w3.heap.size (Blk.new w3 _ _))
          have HK3 := Lib.hid hk3
          have HK4 := Lib.hid hk4
          rw [← HM6.out] at A
          clear hba hk4 hhas hk3
          go_wp2_with (first
            | (refine wpList_load_by rfl 36 (.tmp 38) rfl _ _ rfl (HLd.out _ HK3.out.bel) ?_)
            | (refine wpList_build_mm rfl (.tmp 39) rfl (mgC x.m x.ve x.vm x.vg) rfl rfl ?_)
            | (at_builtin; refine wpList_append_by rfl (.tmp 35) (.tmp 40) 27 rfl _ _ rfl rfl _ A.out ?_; rintro v4 w4 ⟨hr, hg, hn⟩; (have HK5 := Lib.hid (HK4.out.list (by rw [← HM6.out]; exact hg) hr (by rw [← HM6.out]; exact hn) (fun y hy => (List.mem_append.1 hy).elim (HK4.out.sub y) fun e => by rw [List.mem_singleton] at e; rw [e]; exact List.mem_of_getElem? HX.out))); clear hr hg hn))
          go_roundw
          case rel => exact ⟨i + 1, U3, ys ++ [x], by omega, by go_num, by rw [List.map_append]; exact HK5.out, by rw [List.length_append]; simp; omega⟩
          case measure => simp [intOf]; omega
        · rw [h2] at hS
          obtain ⟨z, hz⟩ : ∃ z, z = ((⟨ys.map MM.m, []⟩ : Nt).send x.m).1 := ⟨_, rfl⟩
          rw [← hz] at hS h1
          have HS := Lib.hid hS
          have hz0 : ¬ (z : Int) = 0 := by omega
          clear h1 h2 hS hz
          go_wp2_with (refine wpList_load_by rfl 36 (.tmp 31) rfl _ _ rfl (HLd.out _ HR.out.bel) ?_)
          refine HS.out.mono ?_
          intro e w3 hh
          obtain ⟨rfl, U3, hk3⟩ := HR.out.net hh rfl
          have HK3 := Lib.hid hk3
          clear hh HS hk3
          go_wp2_with fail
          go_roundw
          case rel => exact ⟨i + 1, U3, ys, by omega, by go_num, by rw [HM6.out]; exact HK3.out, by omega⟩
          case measure => simp [intOf]; omega
      · have i1 : ¬ (i : Int) < (n : Int) := by omega
        go_wp2_with fail
        go_loopw [6, 8] (fun s6 s8 wx => ∃ (j : Nat) (U : Nat → Prop) (ys : List MM), s8 = .int .i64 (j : Int) ∧ KNet hp w1.heap.size w wx P U L (ys.map MM.m) s6 ys ∧ j + ys.length ≤ 60) (fun s6 _ _ => slLen s6)
        case atStart => exact ⟨0, U, ys, rfl, HR.out, by omega⟩
        case round =>
          obtain ⟨j, U2, yq, rfl, hk, hyl2⟩ := hrel
          obtain ⟨a7, c7, rfl⟩ := hk.row.form
          have HR2 := Lib.hid hk
          have j0 : (0 : Int) ≤ (j : Int) := Int.natCast_nonneg _
          clear hk HR
          obtain ⟨m7, hm7⟩ : ∃ q, q = yq.length := ⟨_, rfl⟩
          have HM7 := Lib.hid hm7
          have hj60 : j + m7 ≤ 60 := by omega
          rw [← hm7]
          clear hyl2 hm7
          by_cases h0 : 0 < m7
          · have g0 : (0 : Int) < (m7 : Int) := by omega
            by_cases hjp : j < pl
            · have g1 : (j : Int) < (pl : Int) := by omega
              obtain ⟨px, z, rfl, hcz⟩ := HZ.out j hjp
              have cz := hcz _ HR2.out.bel
              obtain ⟨k, hkz, hkl⟩ := any_place z m7 h0 (by omega)
              have HKz := Lib.hid hkz
              clear hcz hkz
              go_wp2_with fail
              rw [HKz.out]
              have hk7 := HR2.out.row
              rw [← HM7.out] at hk7
              obtain ⟨y, hy⟩ : ∃ y, yq[k]? = some y := ⟨yq[k]'(by have := HM7.out; omega), List.getElem?_eq_getElem _⟩
              obtain ⟨e1, e2⟩ := at_list hy
              have hT := hp.take (k : Int) HR2.out.is_ (by omega) (by omega)
              rw [e1, e2] at hT
              obtain ⟨g, hag, hgZ, hgl, hgc⟩ := hk7.load hy
              subst hag
              have HT := Lib.hid hT
              have HY := Lib.hid hy
              have k1 : (k : Int) < (m7 : Int) := by omega
              have k0 : (0 : Int) ≤ (k : Int) := Int.natCast_nonneg _
              clear hT e1 e2 hy hk7 hgc hgZ hgl cz
              refine HT.out.mono ?_
              intro e w3 hh
              obtain ⟨⟨ve, vm, vg, us, rfl, hf⟩, U3, hk3⟩ := HR2.out.net hh rfl
              have HF := Lib.hid hf
              have HK3 := Lib.hid hk3
              clear hh HT hf hk3
              go_upto_region 19 with (refine wpList_store_all rfl 36 (.tmp 10) (.tmp 65) rfl w3.heap.size (mgC y.m ve vm vg) rfl rfl 36 zeroM (Blk.new w3 _ _) (mgM_info _ _ _ _) rfl (mgC_one HF.out.has) ?_; intro w4 hb ho; (have HB4 := Lib.hid hb); (have HW4 := Lib.hid (show Below w3.heap.size w3 w4 from ((Below.refl _ _).alloc (Nat.le_refl _) _).trans (ho.below (fun k hk e => by have e : k = w3.heap.size := e; omega) (by simp)))); clear hb ho)
              have HK4 := Lib.hid (HK3.out.below HW4.out)
              have hrow4 := HK4.out.row
              rw [← HM7.out] at hrow4
              obtain ⟨g', hag, -, -, hgc⟩ := hrow4.load HY.out
              simp only [Option.some.injEq, Addr.mk.injEq, and_true] at hag
              subst hag
              have HGc := Lib.hid hgc
              clear hrow4 hgc
              obtain ⟨G10, hG10⟩ : ∃ q, q = w3.heap.size := ⟨_, rfl⟩
              have HG10 := Lib.hid (show w.heap.size ≤ G10 by rw [hG10]; exact HK3.out.bel.size)
              rw [← hG10] at HB4 ⊢
              have L10 := Lib.hid (show ∀ W, Below w4.heap.size w4 W → (Instr.loadAt 36 (.pointer (some ⟨G10, 0, none⟩))).run Try.prog W = .ok (.agg (mgC y.m ve vm vg)) W from fun W hW => Blk.loads (P := Try.prog) (HB4.out.keep hW) 36 _ Try.underlying36 rfl (mgM_info _ _ _ _))
              have L73 := Lib.hid (show ∀ W, Below w4.heap.size w4 W → (Instr.loadAt 36 (.pointer (some ⟨g, k * 12, none⟩))).run Try.prog W = .ok (.agg (mgC y.m y.ve y.vm y.vg)) W from fun W hW => load_mm W _ y fun j v hj => (hW.cell (World.block_lt_of_cell? w4 _ (HGc.out j v hj))).trans (HGc.out j v hj))
              have HIX := Lib.hid (fun W => ix_mm W g m7 c7 k hkl)
              have HF4 := Lib.hid (show MHas w4 y.m ve vm vg us from (HF.out.below HW4.out).has)
              have HY4 := Lib.hid (HK4.out.has HM.out y (List.mem_of_getElem? HY.out))
              have HSame := Lib.hid (show ∀ W, Below w4.heap.size w4 W → Calls Try.prog 22 #[.agg (mgC y.m ve vm vg), .agg (mgC y.m y.ve y.vm y.vg)] W fun r w' => r = .returned (.bool true) ∧ Below W.heap.size W w' from fun W hW => (refMsgSame_any y.m y.m _ _ _ _ _ _ us y.us W (HF4.out.below (Nat.le_refl _) hW) (HY4.out.below (Nat.le_refl _) hW)).mono fun r w' h => ⟨by rw [h.1, decide_eq_true rfl], h.2⟩)
              have hG : ∀ W W' : World, Below w4.heap.size w4 W → Below W.heap.size W W' → Below w4.heap.size w4 W' := fun W W' hW hb => hW.trans (hb.mono hW.size)
              refine region_by [(67, .is (.int .i64 0)), (68, .is (.bool false)), (69, .is (.bool false)), (70, .is (.agg (mgC y.m ve vm vg))), (71, .is (.slice (some ⟨g, 0, none⟩) m7 c7)), (72, .is (.int .i64 (k : Int))), (73, .is (.pointer (some ⟨g, k * 12, none⟩))), (74, .is (.agg (mgC y.m y.ve y.vm y.vg))), (75, .is (.bool true)), (76, .is (.bool false)), (77, .is (.bool false))] [0, 1, 2, 3, 5, 6, 7, 8, 9, 12, 13, 14, 15, 16, 17, 18, 19, 20, 21, 22, 23, 24, 25, 26, 27, 28, 29, 30, 31, 32, 33, 34, 35, 36, 37, 38, 39, 40, 41, 77, 88, 89, 90, 91, 92, 93, 94, 95, 96, 97, 98, 99] (fun W => Below w4.heap.size w4 W) (by kernel_rfl) (by kernel_rfl) (by kernel_rfl) (by kernel_rfl) (by kernel_rfl) ((Below.refl _ _).drew) ?_ ?_
              · refine ⟨?c0, ?c1, ?c2, ?c3, ?c4, ?c5, ?c6, ?c7, ?c8, ?c9, ?c10, trivial⟩
                case c0 => exact ask_copy (guard_none rfl) (.tmp 11) (.inl rfl) (by intro k hk; cases hk; rfl)
                case c1 => exact ask_bin (guard_none rfl) .neq _ _ (.tmp 67) (.const (.int .i64 0)) (.int .i64 0) (.int .i64 0) (.bool false) rfl rfl rfl (by intro k hk; cases hk; rfl) (fun W => by kernel_rfl)
                case c2 => exact ask_copy (guard_none rfl) (.tmp 68) (.inl rfl) (by intro k hk; cases hk; rfl)
                case c3 => exact ask_load (guard_some rfl rfl rfl) _ (.tmp 10) (.pointer (some ⟨G10, 0, none⟩)) (.agg (mgC y.m ve vm vg)) rfl rfl (by intro k hk; cases hk; rfl) (fun W hW => L10.out W hW)
                case c4 => exact ask_copy (guard_some rfl rfl rfl) (.tmp 6) (.inl rfl) (by intro k hk; cases hk; rfl)
                case c5 => exact ask_copy (guard_some rfl rfl rfl) (.tmp 9) (.inl rfl) (by intro k hk; cases hk; rfl)
                case c6 => exact ask_indexM (guard_some rfl rfl rfl) _ (.tmp 71) (.tmp 72) _ _ (.pointer (some ⟨g, k * 12, none⟩)) rfl rfl rfl (by intro k hk; cases hk; rfl) HIX.out
                case c7 => exact ask_load (guard_some rfl rfl rfl) _ (.tmp 73) (.pointer (some ⟨g, k * 12, none⟩)) (.agg (mgC y.m y.ve y.vm y.vg)) rfl rfl (by intro k hk; cases hk; rfl) (fun W hW => L73.out W hW)
                case c8 => exact ask_call hG (guard_some rfl rfl rfl) _ _ _ #[(.agg (mgC y.m ve vm vg)), (.agg (mgC y.m y.ve y.vm y.vg))] (.is (.bool true)) rfl (by kernel_rfl) rfl rfl (by intro k hk; cases hk; rfl) (fun W hW => (HSame.out W hW).mono fun e w' h => ⟨_, h.1, rfl, h.2⟩)
                case c9 => exact ask_exec (guard_some rfl rfl rfl) (.bool false) rfl rfl (by intro k hk; cases hk; rfl) (fun W hW => by kernel_rfl)
                case c10 => exact ask_pick (guard_none rfl) (.tmp 69) (.const (.bool true)) (.tmp 76) false rfl rfl (by intro k hk; cases hk; rfl)
              intro af w5 hW hd' hs' hf'
              have t0 : af.tmps.getD 0 undef = .slice sa n c := hf' 0 rfl
              have t1 : af.tmps.getD 1 undef = .slice (some px) pl pc := hf' 1 rfl
              have t2 : af.tmps.getD 2 undef = undef := hf' 2 rfl
              have t3 : af.tmps.getD 3 undef = undef := hf' 3 rfl
              have t5 : af.tmps.getD 5 undef = .pointer (some ⟨P, 0, none⟩) := hf' 5 rfl
              have t6 : af.tmps.getD 6 undef = .slice (some ⟨g, 0, none⟩) m7 c7 := hf' 6 rfl
              have t7 : af.tmps.getD 7 undef = .int .i64 (i : Int) := hf' 7 rfl
              have t8 : af.tmps.getD 8 undef = .int .i64 (j : Int) := hf' 8 rfl
              have t9 : af.tmps.getD 9 undef = .int .i64 (k : Int) := hf' 9 rfl
              have t12 : af.tmps.getD 12 undef = undef := hf' 12 rfl
              have t13 : af.tmps.getD 13 undef = undef := hf' 13 rfl
              have t14 : af.tmps.getD 14 undef = .bool true := hf' 14 rfl
              have t15 : af.tmps.getD 15 undef = .bool false := hf' 15 rfl
              have t16 : af.tmps.getD 16 undef = .slice sa N c := hf' 16 rfl
              have t17 : af.tmps.getD 17 undef = .int .i64 (N : Int) := hf' 17 rfl
              have t18 : af.tmps.getD 18 undef = .bool true := hf' 18 rfl
              have t19 : af.tmps.getD 19 undef = .slice sa N c := hf' 19 rfl
              have t20 : af.tmps.getD 20 undef = .slice sa n c := hf' 20 rfl
              have t21 : af.tmps.getD 21 undef = .pointer (some ⟨P, 0, none⟩) := hf' 21 rfl
              have t22 : af.tmps.getD 22 undef = .int .i64 (i : Int) := hf' 22 rfl
              have t23 : af.tmps.getD 23 undef = .slice sa n c := hf' 23 rfl
              have t24 : af.tmps.getD 24 undef = .int .i64 (n : Int) := hf' 24 rfl
              have t25 : af.tmps.getD 25 undef = .bool false := hf' 25 rfl
              have t26 : af.tmps.getD 26 undef = u26 := hf' 26 rfl
              have t27 : af.tmps.getD 27 undef = u27 := hf' 27 rfl
              have t28 : af.tmps.getD 28 undef = u28 := hf' 28 rfl
              have t29 : af.tmps.getD 29 undef = u29 := hf' 29 rfl
              have t30 : af.tmps.getD 30 undef = u30 := hf' 30 rfl
              have t31 : af.tmps.getD 31 undef = u31 := hf' 31 rfl
              have t32 : af.tmps.getD 32 undef = u32 := hf' 32 rfl
              have t33 : af.tmps.getD 33 undef = u33 := hf' 33 rfl
              have t34 : af.tmps.getD 34 undef = u34 := hf' 34 rfl
              have t35 : af.tmps.getD 35 undef = u35 := hf' 35 rfl
              have t36 : af.tmps.getD 36 undef = u36 := hf' 36 rfl
              have t37 : af.tmps.getD 37 undef = u37 := hf' 37 rfl
              have t38 : af.tmps.getD 38 undef = u38 := hf' 38 rfl
              have t39 : af.tmps.getD 39 undef = u39 := hf' 39 rfl
              have t40 : af.tmps.getD 40 undef = u40 := hf' 40 rfl
              have t41 : af.tmps.getD 41 undef = u41 := hf' 41 rfl
              have t77 : af.tmps.getD 77 undef = .bool false := hf' 77 rfl
              have t88 : af.tmps.getD 88 undef = undef := hf' 88 rfl
              have t89 : af.tmps.getD 89 undef = undef := hf' 89 rfl
              have t90 : af.tmps.getD 90 undef = undef := hf' 90 rfl
              have t91 : af.tmps.getD 91 undef = undef := hf' 91 rfl
              have t92 : af.tmps.getD 92 undef = undef := hf' 92 rfl
              have t93 : af.tmps.getD 93 undef = undef := hf' 93 rfl
              have t94 : af.tmps.getD 94 undef = undef := hf' 94 rfl
              have t95 : af.tmps.getD 95 undef = undef := hf' 95 rfl
              have t96 : af.tmps.getD 96 undef = undef := hf' 96 rfl
              have t97 : af.tmps.getD 97 undef = undef := hf' 97 rfl
              have t98 : af.tmps.getD 98 undef = undef := hf' 98 rfl
              have t99 : af.tmps.getD 99 undef = undef := hf' 99 rfl
              obtain ⟨uq, hus, haf⟩ := act_open 100 af hs' hd'
              rw [← hus] at t0 t1 t2 t3 t5 t6 t7 t8 t9 t12 t13 t14 t15 t16 t17 t18 t19 t20 t21 t22 t23 t24 t25 t26 t27 t28 t29 t30 t31 t32 t33 t34 t35 t36 t37 t38 t39 t40 t41 t77 t88 t89 t90 t91 t92 t93 t94 t95 t96 t97 t98 t99
              have el : ((List.range 100).map uq).toArray = #[.slice sa n c, .slice (some px) pl pc, undef, undef, uq 4, .pointer (some ⟨P, 0, none⟩), .slice (some ⟨g, 0, none⟩) m7 c7, .int .i64 (i : Int), .int .i64 (j : Int), .int .i64 (k : Int), uq 10, uq 11, undef, undef, .bool true, .bool false, .slice sa N c, .int .i64 (N : Int), .bool true, .slice sa N c, .slice sa n c, .pointer (some ⟨P, 0, none⟩), .int .i64 (i : Int), .slice sa n c, .int .i64 (n : Int), .bool false, u26, u27, u28, u29, u30, u31, u32, u33, u34, u35, u36, u37, u38, u39, u40, u41, uq 42, uq 43, uq 44, uq 45, uq 46, uq 47, uq 48, uq 49, uq 50, uq 51, uq 52, uq 53, uq 54, uq 55, uq 56, uq 57, uq 58, uq 59, uq 60, uq 61, uq 62, uq 63, uq 64, uq 65, uq 66, uq 67, uq 68, uq 69, uq 70, uq 71, uq 72, uq 73, uq 74, uq 75, uq 76, .bool false, uq 78, uq 79, uq 80, uq 81, uq 82, uq 83, uq 84, uq 85, uq 86, uq 87, undef, undef, undef, undef, undef, undef, undef, undef, undef, undef, undef, undef] := by
                show #[uq 0, uq 1, uq 2, uq 3, uq 4, uq 5, uq 6, uq 7, uq 8, uq 9, uq 10, uq 11, uq 12, uq 13, uq 14, uq 15, uq 16, uq 17, uq 18, uq 19, uq 20, uq 21, uq 22, uq 23, uq 24, uq 25, uq 26, uq 27, uq 28, uq 29, uq 30, uq 31, uq 32, uq 33, uq 34, uq 35, uq 36, uq 37, uq 38, uq 39, uq 40, uq 41, uq 42, uq 43, uq 44, uq 45, uq 46, uq 47, uq 48, uq 49, uq 50, uq 51, uq 52, uq 53, uq 54, uq 55, uq 56, uq 57, uq 58, uq 59, uq 60, uq 61, uq 62, uq 63, uq 64, uq 65, uq 66, uq 67, uq 68, uq 69, uq 70, uq 71, uq 72, uq 73, uq 74, uq 75, uq 76, uq 77, uq 78, uq 79, uq 80, uq 81, uq 82, uq 83, uq 84, uq 85, uq 86, uq 87, uq 88, uq 89, uq 90, uq 91, uq 92, uq 93, uq 94, uq 95, uq 96, uq 97, uq 98, uq 99] = _
                rw [t0, t1, t2, t3, t5, t6, t7, t8, t9, t12, t13, t14, t15, t16, t17, t18, t19, t20, t21, t22, t23, t24, t25, t26, t27, t28, t29, t30, t31, t32, t33, t34, t35, t36, t37, t38, t39, t40, t41, t77, t88, t89, t90, t91, t92, t93, t94, t95, t96, t97, t98, t99]
              rw [el] at haf
              subst haf
              have HK5 := Lib.hid (HK4.out.below hW)
              clear hus el hf' hs' hd' hW hG t0 t1 t2 t3 t5 t6 t7 t8 t9 t12 t13 t14 t15 t16 t17 t18 t19 t20 t21 t22 t23 t24 t25 t26 t27 t28 t29 t30 t31 t32 t33 t34 t35 t36 t37 t38 t39 t40 t41 t77 t88 t89 t90 t91 t92 t93 t94 t95 t96 t97 t98 t99
              clear HF HK3 HB4 HW4 HK4 HGc HG10 L10 L73 HIX HF4 HY4 HSame hG10
              go_upto_region 21 with fail
              have HRow := Lib.hid HK5.out.row
              have HOne := Lib.hid (mms_one (HK5.out.has HM.out))
              have HAdd := Lib.hid (fun W => add_i64g (.tmp 84) (.const (.int .i64 1)) k (by omega) W)
              have HKl := Lib.hid hkl
              have HLc := Lib.hid (show m7 ≤ c7 by
                have h := HK5.out.row
                rw [← HM7.out] at h
                rcases h.2 with ⟨h1, -⟩ | ⟨g', cap, cur, h1, -, -, hn, -⟩
                · cases h1
                · cases h1
                  rw [HM7.out]
                  exact hn)
              have H60 := Lib.hid hj60
              rw [← HM7.out] at HRow
              have hG : ∀ W W' : World, Below w5.heap.size w5 W → Below W.heap.size W W' → Below w5.heap.size w5 W' := fun W W' hW hb => hW.trans (hb.mono hW.size)
              have hGg : ∀ (W W' : World) (row : Option Nat), Below w5.heap.size w5 W → W.grownBy W' row → (∀ k, row = some k → w5.heap.size ≤ k) → Below w5.heap.size w5 W' := fun W W' row hW hg hr => hW.grown hg hW.size hr
              refine region_latetails_by 10 [(78, newF w5.heap.size []), (79, .is (.slice (some ⟨g, 0, none⟩) m7 c7)), (80, .is (.int .i64 (k : Int))), (81, .is (.slice (some ⟨g, 0, none⟩) k c7)), (82, newF w5.heap.size ([] ++ yq.take k)), (83, .is (.slice (some ⟨g, 0, none⟩) m7 c7)), (84, .is (.int .i64 (k : Int))), (85, .is (.int .i64 ((k + 1 : Nat) : Int))), (86, .is (sliced (some ⟨g, 0, none⟩) (k + 1) m7 c7 12)), (87, newF w5.heap.size ([] ++ yq.take k ++ yq.drop (k + 1)))] [0, 1, 2, 3, 5, 7, 8, 12, 13, 14, 15, 16, 17, 18, 19, 20, 21, 22, 23, 24, 25, 26, 27, 28, 29, 30, 31, 32, 33, 34, 35, 36, 37, 38, 39, 40, 41, 87, 88, 89, 90, 91, 92, 93, 94, 95, 96, 97, 98, 99] (fun W => Below w5.heap.size w5 W) (by kernel_rfl) (by kernel_rfl) (by kernel_rfl) (by kernel_rfl) (by kernel_rfl) (by decide) (by kernel_rfl) ((Below.refl _ _).drew) ?_ ?_
              · refine ⟨?c0, ?c1, ?c2, ?c3, ?c4, ?c5, ?c6, ?c7, ?c8, ?c9, trivial⟩
                case c0 => exact Asked.late (ask_build_ml hG (guard_none rfl) w5.heap.size (fun W hW => hW.size) rfl (by intro k hk; cases hk; rfl))
                case c1 => exact Asked.late (ask_copy (guard_none rfl) (.tmp 6) (.inl rfl) (by intro k hk; cases hk; rfl))
                case c2 => exact Asked.late (ask_copy (guard_none rfl) (.tmp 9) (.inl rfl) (by intro k hk; cases hk; rfl))
                case c3 => exact Asked.late (ask_slice (guard_none rfl) _ (.tmp 79) none (some (.tmp 80)) none (.slice (some ⟨g, 0, none⟩) m7 c7) (.slice (some ⟨g, 0, none⟩) k c7) none (some (.int .i64 (k : Int))) none rfl rfl rfl rfl rfl (by intro k hk; cases hk; rfl) (fun W => slice_ml_to (some ⟨g, 0, none⟩) m7 c7 k (by have := HKl.out; have := HLc.out; omega) W))
                case c4 => exact ask_append_mms (guard_none rfl) (by kernel_rfl) (.tmp 78) (.tmp 81) w5.heap.size [] (yq.take k) (.slice (some ⟨g, 0, none⟩) k c7) (by kernel_rfl) rfl rfl rfl (fun W hW => MRow.first (ownsRow_keep HRow.out hW) HM7.out.symm k (Nat.le_of_lt HKl.out)) (fun u hu => HOne.out u (by rw [← mms_take] at hu; exact List.mem_of_mem_take hu)) (by have := H60.out; have := HM7.out; simp only [List.length_nil, List.length_take]; omega) (fun W hW => hW.size) hGg (by intro k hk; cases hk; rfl)
                case c5 => exact Asked.late (ask_copy (guard_none rfl) (.tmp 6) (.inl rfl) (by intro k hk; cases hk; rfl))
                case c6 => exact Asked.late (ask_copy (guard_none rfl) (.tmp 9) (.inl rfl) (by intro k hk; cases hk; rfl))
                case c7 => exact Asked.late (ask_bin (guard_none rfl) .add _ _ (.tmp 84) (.const (.int .i64 1)) (.int .i64 (k : Int)) (.int .i64 1) (.int .i64 ((k + 1 : Nat) : Int)) rfl rfl rfl (by intro k hk; cases hk; rfl) (fun W => HAdd.out W))
                case c8 => exact Asked.late (ask_slice (guard_none rfl) _ (.tmp 83) (some (.tmp 85)) none none (.slice (some ⟨g, 0, none⟩) m7 c7) (sliced (some ⟨g, 0, none⟩) (k + 1) m7 c7 12) (some (.int .i64 ((k + 1 : Nat) : Int))) none none rfl rfl rfl rfl rfl (by intro k hk; cases hk; rfl) (fun W => slice_ml_from (some ⟨g, 0, none⟩) m7 c7 (k + 1) HKl.out W))
                case c9 => exact ask_append_mms (guard_none rfl) (by kernel_rfl) (.tmp 82) (.tmp 86) w5.heap.size ([] ++ yq.take k) (yq.drop (k + 1)) (sliced (some ⟨g, 0, none⟩) (k + 1) m7 c7 12) (by kernel_rfl) rfl rfl rfl (fun W hW => MRow.from_ (ownsRow_keep HRow.out hW) HM7.out.symm (k + 1) HKl.out) (fun u hu => HOne.out u (by rw [← mms_drop] at hu; exact List.mem_of_mem_drop hu)) (by have := H60.out; have := HM7.out; simp only [List.nil_append, List.length_take, List.length_drop]; omega) (fun W hW => hW.size) hGg (by intro k hk; cases hk; rfl)
              intro af w6 hW hd' hs' hf'
              have t0 : af.tmps.getD 0 undef = .slice sa n c := hf' 0 rfl
              have t1 : af.tmps.getD 1 undef = .slice (some px) pl pc := hf' 1 rfl
              have t2 : af.tmps.getD 2 undef = undef := hf' 2 rfl
              have t3 : af.tmps.getD 3 undef = undef := hf' 3 rfl
              have t5 : af.tmps.getD 5 undef = .pointer (some ⟨P, 0, none⟩) := hf' 5 rfl
              have t7 : af.tmps.getD 7 undef = .int .i64 (i : Int) := hf' 7 rfl
              have t8 : af.tmps.getD 8 undef = .int .i64 (j : Int) := hf' 8 rfl
              have t12 : af.tmps.getD 12 undef = undef := hf' 12 rfl
              have t13 : af.tmps.getD 13 undef = undef := hf' 13 rfl
              have t14 : af.tmps.getD 14 undef = .bool true := hf' 14 rfl
              have t15 : af.tmps.getD 15 undef = .bool false := hf' 15 rfl
              have t16 : af.tmps.getD 16 undef = .slice sa N c := hf' 16 rfl
              have t17 : af.tmps.getD 17 undef = .int .i64 (N : Int) := hf' 17 rfl
              have t18 : af.tmps.getD 18 undef = .bool true := hf' 18 rfl
              have t19 : af.tmps.getD 19 undef = .slice sa N c := hf' 19 rfl
              have t20 : af.tmps.getD 20 undef = .slice sa n c := hf' 20 rfl
              have t21 : af.tmps.getD 21 undef = .pointer (some ⟨P, 0, none⟩) := hf' 21 rfl
              have t22 : af.tmps.getD 22 undef = .int .i64 (i : Int) := hf' 22 rfl
              have t23 : af.tmps.getD 23 undef = .slice sa n c := hf' 23 rfl
              have t24 : af.tmps.getD 24 undef = .int .i64 (n : Int) := hf' 24 rfl
              have t25 : af.tmps.getD 25 undef = .bool false := hf' 25 rfl
              have t26 : af.tmps.getD 26 undef = u26 := hf' 26 rfl
              have t27 : af.tmps.getD 27 undef = u27 := hf' 27 rfl
              have t28 : af.tmps.getD 28 undef = u28 := hf' 28 rfl
              have t29 : af.tmps.getD 29 undef = u29 := hf' 29 rfl
              have t30 : af.tmps.getD 30 undef = u30 := hf' 30 rfl
              have t31 : af.tmps.getD 31 undef = u31 := hf' 31 rfl
              have t32 : af.tmps.getD 32 undef = u32 := hf' 32 rfl
              have t33 : af.tmps.getD 33 undef = u33 := hf' 33 rfl
              have t34 : af.tmps.getD 34 undef = u34 := hf' 34 rfl
              have t35 : af.tmps.getD 35 undef = u35 := hf' 35 rfl
              have t36 : af.tmps.getD 36 undef = u36 := hf' 36 rfl
              have t37 : af.tmps.getD 37 undef = u37 := hf' 37 rfl
              have t38 : af.tmps.getD 38 undef = u38 := hf' 38 rfl
              have t39 : af.tmps.getD 39 undef = u39 := hf' 39 rfl
              have t40 : af.tmps.getD 40 undef = u40 := hf' 40 rfl
              have t41 : af.tmps.getD 41 undef = u41 := hf' 41 rfl
              have t88 : af.tmps.getD 88 undef = undef := hf' 88 rfl
              have t89 : af.tmps.getD 89 undef = undef := hf' 89 rfl
              have t90 : af.tmps.getD 90 undef = undef := hf' 90 rfl
              have t91 : af.tmps.getD 91 undef = undef := hf' 91 rfl
              have t92 : af.tmps.getD 92 undef = undef := hf' 92 rfl
              have t93 : af.tmps.getD 93 undef = undef := hf' 93 rfl
              have t94 : af.tmps.getD 94 undef = undef := hf' 94 rfl
              have t95 : af.tmps.getD 95 undef = undef := hf' 95 rfl
              have t96 : af.tmps.getD 96 undef = undef := hf' 96 rfl
              have t97 : af.tmps.getD 97 undef = undef := hf' 97 rfl
              have t98 : af.tmps.getD 98 undef = undef := hf' 98 rfl
              have t99 : af.tmps.getD 99 undef = undef := hf' 99 rfl
              have hrow : MRow w6 w5.heap.size (af.tmps.getD 87 undef) ([] ++ yq.take k ++ yq.drop (k + 1)) := hf' 87 rfl
              rw [List.nil_append] at hrow
              obtain ⟨ur, hus, haf⟩ := act_open 100 af hs' hd'
              rw [← hus] at hrow t0 t1 t2 t3 t5 t7 t8 t12 t13 t14 t15 t16 t17 t18 t19 t20 t21 t22 t23 t24 t25 t26 t27 t28 t29 t30 t31 t32 t33 t34 t35 t36 t37 t38 t39 t40 t41 t88 t89 t90 t91 t92 t93 t94 t95 t96 t97 t98 t99
              have el : ((List.range 100).map ur).toArray = #[.slice sa n c, .slice (some px) pl pc, undef, undef, ur 4, .pointer (some ⟨P, 0, none⟩), ur 6, .int .i64 (i : Int), .int .i64 (j : Int), ur 9, ur 10, ur 11, undef, undef, .bool true, .bool false, .slice sa N c, .int .i64 (N : Int), .bool true, .slice sa N c, .slice sa n c, .pointer (some ⟨P, 0, none⟩), .int .i64 (i : Int), .slice sa n c, .int .i64 (n : Int), .bool false, u26, u27, u28, u29, u30, u31, u32, u33, u34, u35, u36, u37, u38, u39, u40, u41, ur 42, ur 43, ur 44, ur 45, ur 46, ur 47, ur 48, ur 49, ur 50, ur 51, ur 52, ur 53, ur 54, ur 55, ur 56, ur 57, ur 58, ur 59, ur 60, ur 61, ur 62, ur 63, ur 64, ur 65, ur 66, ur 67, ur 68, ur 69, ur 70, ur 71, ur 72, ur 73, ur 74, ur 75, ur 76, ur 77, ur 78, ur 79, ur 80, ur 81, ur 82, ur 83, ur 84, ur 85, ur 86, ur 87, undef, undef, undef, undef, undef, undef, undef, undef, undef, undef, undef, undef] := by
                show #[ur 0, ur 1, ur 2, ur 3, ur 4, ur 5, ur 6, ur 7, ur 8, ur 9, ur 10, ur 11, ur 12, ur 13, ur 14, ur 15, ur 16, ur 17, ur 18, ur 19, ur 20, ur 21, ur 22, ur 23, ur 24, ur 25, ur 26, ur 27, ur 28, ur 29, ur 30, ur 31, ur 32, ur 33, ur 34, ur 35, ur 36, ur 37, ur 38, ur 39, ur 40, ur 41, ur 42, ur 43, ur 44, ur 45, ur 46, ur 47, ur 48, ur 49, ur 50, ur 51, ur 52, ur 53, ur 54, ur 55, ur 56, ur 57, ur 58, ur 59, ur 60, ur 61, ur 62, ur 63, ur 64, ur 65, ur 66, ur 67, ur 68, ur 69, ur 70, ur 71, ur 72, ur 73, ur 74, ur 75, ur 76, ur 77, ur 78, ur 79, ur 80, ur 81, ur 82, ur 83, ur 84, ur 85, ur 86, ur 87, ur 88, ur 89, ur 90, ur 91, ur 92, ur 93, ur 94, ur 95, ur 96, ur 97, ur 98, ur 99] = _
                rw [t0, t1, t2, t3, t5, t7, t8, t12, t13, t14, t15, t16, t17, t18, t19, t20, t21, t22, t23, t24, t25, t26, t27, t28, t29, t30, t31, t32, t33, t34, t35, t36, t37, t38, t39, t40, t41, t88, t89, t90, t91, t92, t93, t94, t95, t96, t97, t98, t99]
              rw [el] at haf
              subst haf
              obtain ⟨v7, hv7⟩ : ∃ q, q = ur 87 := ⟨_, rfl⟩
              rw [← hv7] at hrow ⊢
              obtain ⟨na, nc, hvs⟩ := hrow.form
              obtain ⟨nl, hnl⟩ : ∃ q, q = (yq.take k ++ yq.drop (k + 1)).length := ⟨_, rfl⟩
              have hnl7 : nl + 1 = m7 := by
                have := HM7.out
                have := HKl.out
                rw [hnl, List.length_append, List.length_take, List.length_drop]
                omega
              rw [← hnl] at hvs
              subst hvs
              have HK6 := Lib.hid (HK5.out.fresh hW hrow fun u hu => HK5.out.sub u ((List.mem_append.1 hu).elim List.mem_of_mem_take List.mem_of_mem_drop))
              have HNl := Lib.hid hnl
              clear hrow hv7 hus el hf' hs' hd' hW hG hGg t0 t1 t2 t3 t5 t7 t8 t12 t13 t14 t15 t16 t17 t18 t19 t20 t21 t22 t23 t24 t25 t26 t27 t28 t29 t30 t31 t32 t33 t34 t35 t36 t37 t38 t39 t40 t41 t88 t89 t90 t91 t92 t93 t94 t95 t96 t97 t98 t99 hnl
              simp only [List.drop_succ_cons, List.drop_zero]
              go_wp2_with fail
              go_roundw
              case rel => exact ⟨j + 1, U3, yq.take k ++ yq.drop (k + 1), by go_num, HK6.out, by rw [← HNl.out]; omega⟩
              case measure => simp [slLen]; omega
            · have g1 : ¬ (j : Int) < (pl : Int) := by omega
              obtain ⟨k, hk0⟩ : ∃ k : Nat, k = 0 := ⟨_, rfl⟩
              have hkl : k < m7 := by omega
              go_wp2_with fail
              rw [show (Value.int .i64 0) = .int .i64 (k : Int) by rw [hk0]; rfl]
              clear hk0
              have hk7 := HR2.out.row
              rw [← HM7.out] at hk7
              obtain ⟨y, hy⟩ : ∃ y, yq[k]? = some y := ⟨yq[k]'(by have := HM7.out; omega), List.getElem?_eq_getElem _⟩
              obtain ⟨e1, e2⟩ := at_list hy
              have hT := hp.take (k : Int) HR2.out.is_ (by omega) (by omega)
              rw [e1, e2] at hT
              obtain ⟨g, hag, hgZ, hgl, hgc⟩ := hk7.load hy
              subst hag
              have HT := Lib.hid hT
              have HY := Lib.hid hy
              have k1 : (k : Int) < (m7 : Int) := by omega
              have k0 : (0 : Int) ≤ (k : Int) := Int.natCast_nonneg _
              clear hT e1 e2 hy hk7 hgc hgZ hgl
              refine HT.out.mono ?_
              intro e w3 hh
              obtain ⟨⟨ve, vm, vg, us, rfl, hf⟩, U3, hk3⟩ := HR2.out.net hh rfl
              have HF := Lib.hid hf
              have HK3 := Lib.hid hk3
              clear hh HT hf hk3
              go_upto_region 19 with (refine wpList_store_all rfl 36 (.tmp 10) (.tmp 65) rfl w3.heap.size (mgC y.m ve vm vg) rfl rfl 36 zeroM (Blk.new w3 _ _) (mgM_info _ _ _ _) rfl (mgC_one HF.out.has) ?_; intro w4 hb ho; (have HB4 := Lib.hid hb); (have HW4 := Lib.hid (show Below w3.heap.size w3 w4 from ((Below.refl _ _).alloc (Nat.le_refl _) _).trans (ho.below (fun k hk e => by have e : k = w3.heap.size := e; omega) (by simp)))); clear hb ho)
              have HK4 := Lib.hid (HK3.out.below HW4.out)
              have hrow4 := HK4.out.row
              rw [← HM7.out] at hrow4
              obtain ⟨g', hag, -, -, hgc⟩ := hrow4.load HY.out
              simp only [Option.some.injEq, Addr.mk.injEq, and_true] at hag
              subst hag
              have HGc := Lib.hid hgc
              clear hrow4 hgc
              obtain ⟨G10, hG10⟩ : ∃ q, q = w3.heap.size := ⟨_, rfl⟩
              have HG10 := Lib.hid (show w.heap.size ≤ G10 by rw [hG10]; exact HK3.out.bel.size)
              rw [← hG10] at HB4 ⊢
              have L10 := Lib.hid (show ∀ W, Below w4.heap.size w4 W → (Instr.loadAt 36 (.pointer (some ⟨G10, 0, none⟩))).run Try.prog W = .ok (.agg (mgC y.m ve vm vg)) W from fun W hW => Blk.loads (P := Try.prog) (HB4.out.keep hW) 36 _ Try.underlying36 rfl (mgM_info _ _ _ _))
              have L73 := Lib.hid (show ∀ W, Below w4.heap.size w4 W → (Instr.loadAt 36 (.pointer (some ⟨g, k * 12, none⟩))).run Try.prog W = .ok (.agg (mgC y.m y.ve y.vm y.vg)) W from fun W hW => load_mm W _ y fun j v hj => (hW.cell (World.block_lt_of_cell? w4 _ (HGc.out j v hj))).trans (HGc.out j v hj))
              have HIX := Lib.hid (fun W => ix_mm W g m7 c7 k hkl)
              have HF4 := Lib.hid (show MHas w4 y.m ve vm vg us from (HF.out.below HW4.out).has)
              have HY4 := Lib.hid (HK4.out.has HM.out y (List.mem_of_getElem? HY.out))
              have HSame := Lib.hid (show ∀ W, Below w4.heap.size w4 W → Calls Try.prog 22 #[.agg (mgC y.m ve vm vg), .agg (mgC y.m y.ve y.vm y.vg)] W fun r w' => r = .returned (.bool true) ∧ Below W.heap.size W w' from fun W hW => (refMsgSame_any y.m y.m _ _ _ _ _ _ us y.us W (HF4.out.below (Nat.le_refl _) hW) (HY4.out.below (Nat.le_refl _) hW)).mono fun r w' h => ⟨by rw [h.1, decide_eq_true rfl], h.2⟩)
              have hG : ∀ W W' : World, Below w4.heap.size w4 W → Below W.heap.size W W' → Below w4.heap.size w4 W' := fun W W' hW hb => hW.trans (hb.mono hW.size)
              refine region_by [(67, .is (.int .i64 0)), (68, .is (.bool false)), (69, .is (.bool false)), (70, .is (.agg (mgC y.m ve vm vg))), (71, .is (.slice (some ⟨g, 0, none⟩) m7 c7)), (72, .is (.int .i64 (k : Int))), (73, .is (.pointer (some ⟨g, k * 12, none⟩))), (74, .is (.agg (mgC y.m y.ve y.vm y.vg))), (75, .is (.bool true)), (76, .is (.bool false)), (77, .is (.bool false))] [0, 1, 2, 3, 5, 6, 7, 8, 9, 12, 13, 14, 15, 16, 17, 18, 19, 20, 21, 22, 23, 24, 25, 26, 27, 28, 29, 30, 31, 32, 33, 34, 35, 36, 37, 38, 39, 40, 41, 77, 88, 89, 90, 91, 92, 93, 94, 95, 96, 97, 98, 99] (fun W => Below w4.heap.size w4 W) (by kernel_rfl) (by kernel_rfl) (by kernel_rfl) (by kernel_rfl) (by kernel_rfl) ((Below.refl _ _).drew) ?_ ?_
              · refine ⟨?c0, ?c1, ?c2, ?c3, ?c4, ?c5, ?c6, ?c7, ?c8, ?c9, ?c10, trivial⟩
                case c0 => exact ask_copy (guard_none rfl) (.tmp 11) (.inl rfl) (by intro k hk; cases hk; rfl)
                case c1 => exact ask_bin (guard_none rfl) .neq _ _ (.tmp 67) (.const (.int .i64 0)) (.int .i64 0) (.int .i64 0) (.bool false) rfl rfl rfl (by intro k hk; cases hk; rfl) (fun W => by kernel_rfl)
                case c2 => exact ask_copy (guard_none rfl) (.tmp 68) (.inl rfl) (by intro k hk; cases hk; rfl)
                case c3 => exact ask_load (guard_some rfl rfl rfl) _ (.tmp 10) (.pointer (some ⟨G10, 0, none⟩)) (.agg (mgC y.m ve vm vg)) rfl rfl (by intro k hk; cases hk; rfl) (fun W hW => L10.out W hW)
                case c4 => exact ask_copy (guard_some rfl rfl rfl) (.tmp 6) (.inl rfl) (by intro k hk; cases hk; rfl)
                case c5 => exact ask_copy (guard_some rfl rfl rfl) (.tmp 9) (.inl rfl) (by intro k hk; cases hk; rfl)
                case c6 => exact ask_indexM (guard_some rfl rfl rfl) _ (.tmp 71) (.tmp 72) _ _ (.pointer (some ⟨g, k * 12, none⟩)) rfl rfl rfl (by intro k hk; cases hk; rfl) HIX.out
                case c7 => exact ask_load (guard_some rfl rfl rfl) _ (.tmp 73) (.pointer (some ⟨g, k * 12, none⟩)) (.agg (mgC y.m y.ve y.vm y.vg)) rfl rfl (by intro k hk; cases hk; rfl) (fun W hW => L73.out W hW)
                case c8 => exact ask_call hG (guard_some rfl rfl rfl) _ _ _ #[(.agg (mgC y.m ve vm vg)), (.agg (mgC y.m y.ve y.vm y.vg))] (.is (.bool true)) rfl (by kernel_rfl) rfl rfl (by intro k hk; cases hk; rfl) (fun W hW => (HSame.out W hW).mono fun e w' h => ⟨_, h.1, rfl, h.2⟩)
                case c9 => exact ask_exec (guard_some rfl rfl rfl) (.bool false) rfl rfl (by intro k hk; cases hk; rfl) (fun W hW => by kernel_rfl)
                case c10 => exact ask_pick (guard_none rfl) (.tmp 69) (.const (.bool true)) (.tmp 76) false rfl rfl (by intro k hk; cases hk; rfl)
              intro af w5 hW hd' hs' hf'
              have t0 : af.tmps.getD 0 undef = .slice sa n c := hf' 0 rfl
              have t1 : af.tmps.getD 1 undef = .slice pa pl pc := hf' 1 rfl
              have t2 : af.tmps.getD 2 undef = undef := hf' 2 rfl
              have t3 : af.tmps.getD 3 undef = undef := hf' 3 rfl
              have t5 : af.tmps.getD 5 undef = .pointer (some ⟨P, 0, none⟩) := hf' 5 rfl
              have t6 : af.tmps.getD 6 undef = .slice (some ⟨g, 0, none⟩) m7 c7 := hf' 6 rfl
              have t7 : af.tmps.getD 7 undef = .int .i64 (i : Int) := hf' 7 rfl
              have t8 : af.tmps.getD 8 undef = .int .i64 (j : Int) := hf' 8 rfl
              have t9 : af.tmps.getD 9 undef = .int .i64 (k : Int) := hf' 9 rfl
              have t12 : af.tmps.getD 12 undef = undef := hf' 12 rfl
              have t13 : af.tmps.getD 13 undef = undef := hf' 13 rfl
              have t14 : af.tmps.getD 14 undef = .bool true := hf' 14 rfl
              have t15 : af.tmps.getD 15 undef = .bool false := hf' 15 rfl
              have t16 : af.tmps.getD 16 undef = .slice sa N c := hf' 16 rfl
              have t17 : af.tmps.getD 17 undef = .int .i64 (N : Int) := hf' 17 rfl
              have t18 : af.tmps.getD 18 undef = .bool true := hf' 18 rfl
              have t19 : af.tmps.getD 19 undef = .slice sa N c := hf' 19 rfl
              have t20 : af.tmps.getD 20 undef = .slice sa n c := hf' 20 rfl
              have t21 : af.tmps.getD 21 undef = .pointer (some ⟨P, 0, none⟩) := hf' 21 rfl
              have t22 : af.tmps.getD 22 undef = .int .i64 (i : Int) := hf' 22 rfl
              have t23 : af.tmps.getD 23 undef = .slice sa n c := hf' 23 rfl
              have t24 : af.tmps.getD 24 undef = .int .i64 (n : Int) := hf' 24 rfl
              have t25 : af.tmps.getD 25 undef = .bool false := hf' 25 rfl
              have t26 : af.tmps.getD 26 undef = u26 := hf' 26 rfl
              have t27 : af.tmps.getD 27 undef = u27 := hf' 27 rfl
              have t28 : af.tmps.getD 28 undef = u28 := hf' 28 rfl
              have t29 : af.tmps.getD 29 undef = u29 := hf' 29 rfl
              have t30 : af.tmps.getD 30 undef = u30 := hf' 30 rfl
              have t31 : af.tmps.getD 31 undef = u31 := hf' 31 rfl
              have t32 : af.tmps.getD 32 undef = u32 := hf' 32 rfl
              have t33 : af.tmps.getD 33 undef = u33 := hf' 33 rfl
              have t34 : af.tmps.getD 34 undef = u34 := hf' 34 rfl
              have t35 : af.tmps.getD 35 undef = u35 := hf' 35 rfl
              have t36 : af.tmps.getD 36 undef = u36 := hf' 36 rfl
              have t37 : af.tmps.getD 37 undef = u37 := hf' 37 rfl
              have t38 : af.tmps.getD 38 undef = u38 := hf' 38 rfl
              have t39 : af.tmps.getD 39 undef = u39 := hf' 39 rfl
              have t40 : af.tmps.getD 40 undef = u40 := hf' 40 rfl
              have t41 : af.tmps.getD 41 undef = u41 := hf' 41 rfl
              have t77 : af.tmps.getD 77 undef = .bool false := hf' 77 rfl
              have t88 : af.tmps.getD 88 undef = undef := hf' 88 rfl
              have t89 : af.tmps.getD 89 undef = undef := hf' 89 rfl
              have t90 : af.tmps.getD 90 undef = undef := hf' 90 rfl
              have t91 : af.tmps.getD 91 undef = undef := hf' 91 rfl
              have t92 : af.tmps.getD 92 undef = undef := hf' 92 rfl
              have t93 : af.tmps.getD 93 undef = undef := hf' 93 rfl
              have t94 : af.tmps.getD 94 undef = undef := hf' 94 rfl
              have t95 : af.tmps.getD 95 undef = undef := hf' 95 rfl
              have t96 : af.tmps.getD 96 undef = undef := hf' 96 rfl
              have t97 : af.tmps.getD 97 undef = undef := hf' 97 rfl
              have t98 : af.tmps.getD 98 undef = undef := hf' 98 rfl
              have t99 : af.tmps.getD 99 undef = undef := hf' 99 rfl
              obtain ⟨uq, hus, haf⟩ := act_open 100 af hs' hd'
              rw [← hus] at t0 t1 t2 t3 t5 t6 t7 t8 t9 t12 t13 t14 t15 t16 t17 t18 t19 t20 t21 t22 t23 t24 t25 t26 t27 t28 t29 t30 t31 t32 t33 t34 t35 t36 t37 t38 t39 t40 t41 t77 t88 t89 t90 t91 t92 t93 t94 t95 t96 t97 t98 t99
              have el : ((List.range 100).map uq).toArray = #[.slice sa n c, .slice pa pl pc, undef, undef, uq 4, .pointer (some ⟨P, 0, none⟩), .slice (some ⟨g, 0, none⟩) m7 c7, .int .i64 (i : Int), .int .i64 (j : Int), .int .i64 (k : Int), uq 10, uq 11, undef, undef, .bool true, .bool false, .slice sa N c, .int .i64 (N : Int), .bool true, .slice sa N c, .slice sa n c, .pointer (some ⟨P, 0, none⟩), .int .i64 (i : Int), .slice sa n c, .int .i64 (n : Int), .bool false, u26, u27, u28, u29, u30, u31, u32, u33, u34, u35, u36, u37, u38, u39, u40, u41, uq 42, uq 43, uq 44, uq 45, uq 46, uq 47, uq 48, uq 49, uq 50, uq 51, uq 52, uq 53, uq 54, uq 55, uq 56, uq 57, uq 58, uq 59, uq 60, uq 61, uq 62, uq 63, uq 64, uq 65, uq 66, uq 67, uq 68, uq 69, uq 70, uq 71, uq 72, uq 73, uq 74, uq 75, uq 76, .bool false, uq 78, uq 79, uq 80, uq 81, uq 82, uq 83, uq 84, uq 85, uq 86, uq 87, undef, undef, undef, undef, undef, undef, undef, undef, undef, undef, undef, undef] := by
                show #[uq 0, uq 1, uq 2, uq 3, uq 4, uq 5, uq 6, uq 7, uq 8, uq 9, uq 10, uq 11, uq 12, uq 13, uq 14, uq 15, uq 16, uq 17, uq 18, uq 19, uq 20, uq 21, uq 22, uq 23, uq 24, uq 25, uq 26, uq 27, uq 28, uq 29, uq 30, uq 31, uq 32, uq 33, uq 34, uq 35, uq 36, uq 37, uq 38, uq 39, uq 40, uq 41, uq 42, uq 43, uq 44, uq 45, uq 46, uq 47, uq 48, uq 49, uq 50, uq 51, uq 52, uq 53, uq 54, uq 55, uq 56, uq 57, uq 58, uq 59, uq 60, uq 61, uq 62, uq 63, uq 64, uq 65, uq 66, uq 67, uq 68, uq 69, uq 70, uq 71, uq 72, uq 73, uq 74, uq 75, uq 76, uq 77, uq 78, uq 79, uq 80, uq 81, uq 82, uq 83, uq 84, uq 85, uq 86, uq 87, uq 88, uq 89, uq 90, uq 91, uq 92, uq 93, uq 94, uq 95, uq 96, uq 97, uq 98, uq 99] = _
                rw [t0, t1, t2, t3, t5, t6, t7, t8, t9, t12, t13, t14, t15, t16, t17, t18, t19, t20, t21, t22, t23, t24, t25, t26, t27, t28, t29, t30, t31, t32, t33, t34, t35, t36, t37, t38, t39, t40, t41, t77, t88, t89, t90, t91, t92, t93, t94, t95, t96, t97, t98, t99]
              rw [el] at haf
              subst haf
              have HK5 := Lib.hid (HK4.out.below hW)
              clear hus el hf' hs' hd' hW hG t0 t1 t2 t3 t5 t6 t7 t8 t9 t12 t13 t14 t15 t16 t17 t18 t19 t20 t21 t22 t23 t24 t25 t26 t27 t28 t29 t30 t31 t32 t33 t34 t35 t36 t37 t38 t39 t40 t41 t77 t88 t89 t90 t91 t92 t93 t94 t95 t96 t97 t98 t99
              clear HF HK3 HB4 HW4 HK4 HGc HG10 L10 L73 HIX HF4 HY4 HSame hG10
              go_upto_region 21 with fail
              have HRow := Lib.hid HK5.out.row
              have HOne := Lib.hid (mms_one (HK5.out.has HM.out))
              have HAdd := Lib.hid (fun W => add_i64g (.tmp 84) (.const (.int .i64 1)) k (by omega) W)
              have HKl := Lib.hid hkl
              have HLc := Lib.hid (show m7 ≤ c7 by
                have h := HK5.out.row
                rw [← HM7.out] at h
                rcases h.2 with ⟨h1, -⟩ | ⟨g', cap, cur, h1, -, -, hn, -⟩
                · cases h1
                · cases h1
                  rw [HM7.out]
                  exact hn)
              have H60 := Lib.hid hj60
              rw [← HM7.out] at HRow
              have hG : ∀ W W' : World, Below w5.heap.size w5 W → Below W.heap.size W W' → Below w5.heap.size w5 W' := fun W W' hW hb => hW.trans (hb.mono hW.size)
              have hGg : ∀ (W W' : World) (row : Option Nat), Below w5.heap.size w5 W → W.grownBy W' row → (∀ k, row = some k → w5.heap.size ≤ k) → Below w5.heap.size w5 W' := fun W W' row hW hg hr => hW.grown hg hW.size hr
              refine region_latetails_by 10 [(78, newF w5.heap.size []), (79, .is (.slice (some ⟨g, 0, none⟩) m7 c7)), (80, .is (.int .i64 (k : Int))), (81, .is (.slice (some ⟨g, 0, none⟩) k c7)), (82, newF w5.heap.size ([] ++ yq.take k)), (83, .is (.slice (some ⟨g, 0, none⟩) m7 c7)), (84, .is (.int .i64 (k : Int))), (85, .is (.int .i64 ((k + 1 : Nat) : Int))), (86, .is (sliced (some ⟨g, 0, none⟩) (k + 1) m7 c7 12)), (87, newF w5.heap.size ([] ++ yq.take k ++ yq.drop (k + 1)))] [0, 1, 2, 3, 5, 7, 8, 12, 13, 14, 15, 16, 17, 18, 19, 20, 21, 22, 23, 24, 25, 26, 27, 28, 29, 30, 31, 32, 33, 34, 35, 36, 37, 38, 39, 40, 41, 87, 88, 89, 90, 91, 92, 93, 94, 95, 96, 97, 98, 99] (fun W => Below w5.heap.size w5 W) (by kernel_rfl) (by kernel_rfl) (by kernel_rfl) (by kernel_rfl) (by kernel_rfl) (by decide) (by kernel_rfl) ((Below.refl _ _).drew) ?_ ?_
              · refine ⟨?c0, ?c1, ?c2, ?c3, ?c4, ?c5, ?c6, ?c7, ?c8, ?c9, trivial⟩
                case c0 => exact Asked.late (ask_build_ml hG (guard_none rfl) w5.heap.size (fun W hW => hW.size) rfl (by intro k hk; cases hk; rfl))
                case c1 => exact Asked.late (ask_copy (guard_none rfl) (.tmp 6) (.inl rfl) (by intro k hk; cases hk; rfl))
                case c2 => exact Asked.late (ask_copy (guard_none rfl) (.tmp 9) (.inl rfl) (by intro k hk; cases hk; rfl))
                case c3 => exact Asked.late (ask_slice (guard_none rfl) _ (.tmp 79) none (some (.tmp 80)) none (.slice (some ⟨g, 0, none⟩) m7 c7) (.slice (some ⟨g, 0, none⟩) k c7) none (some (.int .i64 (k : Int))) none rfl rfl rfl rfl rfl (by intro k hk; cases hk; rfl) (fun W => slice_ml_to (some ⟨g, 0, none⟩) m7 c7 k (by have := HKl.out; have := HLc.out; omega) W))
                case c4 => exact ask_append_mms (guard_none rfl) (by kernel_rfl) (.tmp 78) (.tmp 81) w5.heap.size [] (yq.take k) (.slice (some ⟨g, 0, none⟩) k c7) (by kernel_rfl) rfl rfl rfl (fun W hW => MRow.first (ownsRow_keep HRow.out hW) HM7.out.symm k (Nat.le_of_lt HKl.out)) (fun u hu => HOne.out u (by rw [← mms_take] at hu; exact List.mem_of_mem_take hu)) (by have := H60.out; have := HM7.out; simp only [List.length_nil, List.length_take]; omega) (fun W hW => hW.size) hGg (by intro k hk; cases hk; rfl)
                case c5 => exact Asked.late (ask_copy (guard_none rfl) (.tmp 6) (.inl rfl) (by intro k hk; cases hk; rfl))
                case c6 => exact Asked.late (ask_copy (guard_none rfl) (.tmp 9) (.inl rfl) (by intro k hk; cases hk; rfl))
                case c7 => exact Asked.late (ask_bin (guard_none rfl) .add _ _ (.tmp 84) (.const (.int .i64 1)) (.int .i64 (k : Int)) (.int .i64 1) (.int .i64 ((k + 1 : Nat) : Int)) rfl rfl rfl (by intro k hk; cases hk; rfl) (fun W => HAdd.out W))
                case c8 => exact Asked.late (ask_slice (guard_none rfl) _ (.tmp 83) (some (.tmp 85)) none none (.slice (some ⟨g, 0, none⟩) m7 c7) (sliced (some ⟨g, 0, none⟩) (k + 1) m7 c7 12) (some (.int .i64 ((k + 1 : Nat) : Int))) none none rfl rfl rfl rfl rfl (by intro k hk; cases hk; rfl) (fun W => slice_ml_from (some ⟨g, 0, none⟩) m7 c7 (k + 1) HKl.out W))
                case c9 => exact ask_append_mms (guard_none rfl) (by kernel_rfl) (.tmp 82) (.tmp 86) w5.heap.size ([] ++ yq.take k) (yq.drop (k + 1)) (sliced (some ⟨g, 0, none⟩) (k + 1) m7 c7 12) (by kernel_rfl) rfl rfl rfl (fun W hW => MRow.from_ (ownsRow_keep HRow.out hW) HM7.out.symm (k + 1) HKl.out) (fun u hu => HOne.out u (by rw [← mms_drop] at hu; exact List.mem_of_mem_drop hu)) (by have := H60.out; have := HM7.out; simp only [List.nil_append, List.length_take, List.length_drop]; omega) (fun W hW => hW.size) hGg (by intro k hk; cases hk; rfl)
              intro af w6 hW hd' hs' hf'
              have t0 : af.tmps.getD 0 undef = .slice sa n c := hf' 0 rfl
              have t1 : af.tmps.getD 1 undef = .slice pa pl pc := hf' 1 rfl
              have t2 : af.tmps.getD 2 undef = undef := hf' 2 rfl
              have t3 : af.tmps.getD 3 undef = undef := hf' 3 rfl
              have t5 : af.tmps.getD 5 undef = .pointer (some ⟨P, 0, none⟩) := hf' 5 rfl
              have t7 : af.tmps.getD 7 undef = .int .i64 (i : Int) := hf' 7 rfl
              have t8 : af.tmps.getD 8 undef = .int .i64 (j : Int) := hf' 8 rfl
              have t12 : af.tmps.getD 12 undef = undef := hf' 12 rfl
              have t13 : af.tmps.getD 13 undef = undef := hf' 13 rfl
              have t14 : af.tmps.getD 14 undef = .bool true := hf' 14 rfl
              have t15 : af.tmps.getD 15 undef = .bool false := hf' 15 rfl
              have t16 : af.tmps.getD 16 undef = .slice sa N c := hf' 16 rfl
              have t17 : af.tmps.getD 17 undef = .int .i64 (N : Int) := hf' 17 rfl
              have t18 : af.tmps.getD 18 undef = .bool true := hf' 18 rfl
              have t19 : af.tmps.getD 19 undef = .slice sa N c := hf' 19 rfl
              have t20 : af.tmps.getD 20 undef = .slice sa n c := hf' 20 rfl
              have t21 : af.tmps.getD 21 undef = .pointer (some ⟨P, 0, none⟩) := hf' 21 rfl
              have t22 : af.tmps.getD 22 undef = .int .i64 (i : Int) := hf' 22 rfl
              have t23 : af.tmps.getD 23 undef = .slice sa n c := hf' 23 rfl
              have t24 : af.tmps.getD 24 undef = .int .i64 (n : Int) := hf' 24 rfl
              have t25 : af.tmps.getD 25 undef = .bool false := hf' 25 rfl
              have t26 : af.tmps.getD 26 undef = u26 := hf' 26 rfl
              have t27 : af.tmps.getD 27 undef = u27 := hf' 27 rfl
              have t28 : af.tmps.getD 28 undef = u28 := hf' 28 rfl
              have t29 : af.tmps.getD 29 undef = u29 := hf' 29 rfl
              have t30 : af.tmps.getD 30 undef = u30 := hf' 30 rfl
              have t31 : af.tmps.getD 31 undef = u31 := hf' 31 rfl
              have t32 : af.tmps.getD 32 undef = u32 := hf' 32 rfl
              have t33 : af.tmps.getD 33 undef = u33 := hf' 33 rfl
              have t34 : af.tmps.getD 34 undef = u34 := hf' 34 rfl
              have t35 : af.tmps.getD 35 undef = u35 := hf' 35 rfl
              have t36 : af.tmps.getD 36 undef = u36 := hf' 36 rfl
              have t37 : af.tmps.getD 37 undef = u37 := hf' 37 rfl
              have t38 : af.tmps.getD 38 undef = u38 := hf' 38 rfl
              have t39 : af.tmps.getD 39 undef = u39 := hf' 39 rfl
              have t40 : af.tmps.getD 40 undef = u40 := hf' 40 rfl
              have t41 : af.tmps.getD 41 undef = u41 := hf' 41 rfl
              have t88 : af.tmps.getD 88 undef = undef := hf' 88 rfl
              have t89 : af.tmps.getD 89 undef = undef := hf' 89 rfl
              have t90 : af.tmps.getD 90 undef = undef := hf' 90 rfl
              have t91 : af.tmps.getD 91 undef = undef := hf' 91 rfl
              have t92 : af.tmps.getD 92 undef = undef := hf' 92 rfl
              have t93 : af.tmps.getD 93 undef = undef := hf' 93 rfl
              have t94 : af.tmps.getD 94 undef = undef := hf' 94 rfl
              have t95 : af.tmps.getD 95 undef = undef := hf' 95 rfl
              have t96 : af.tmps.getD 96 undef = undef := hf' 96 rfl
              have t97 : af.tmps.getD 97 undef = undef := hf' 97 rfl
              have t98 : af.tmps.getD 98 undef = undef := hf' 98 rfl
              have t99 : af.tmps.getD 99 undef = undef := hf' 99 rfl
              have hrow : MRow w6 w5.heap.size (af.tmps.getD 87 undef) ([] ++ yq.take k ++ yq.drop (k + 1)) := hf' 87 rfl
              rw [List.nil_append] at hrow
              obtain ⟨ur, hus, haf⟩ := act_open 100 af hs' hd'
              rw [← hus] at hrow t0 t1 t2 t3 t5 t7 t8 t12 t13 t14 t15 t16 t17 t18 t19 t20 t21 t22 t23 t24 t25 t26 t27 t28 t29 t30 t31 t32 t33 t34 t35 t36 t37 t38 t39 t40 t41 t88 t89 t90 t91 t92 t93 t94 t95 t96 t97 t98 t99
              have el : ((List.range 100).map ur).toArray = #[.slice sa n c, .slice pa pl pc, undef, undef, ur 4, .pointer (some ⟨P, 0, none⟩), ur 6, .int .i64 (i : Int), .int .i64 (j : Int), ur 9, ur 10, ur 11, undef, undef, .bool true, .bool false, .slice sa N c, .int .i64 (N : Int), .bool true, .slice sa N c, .slice sa n c, .pointer (some ⟨P, 0, none⟩), .int .i64 (i : Int), .slice sa n c, .int .i64 (n : Int), .bool false, u26, u27, u28, u29, u30, u31, u32, u33, u34, u35, u36, u37, u38, u39, u40, u41, ur 42, ur 43, ur 44, ur 45, ur 46, ur 47, ur 48, ur 49, ur 50, ur 51, ur 52, ur 53, ur 54, ur 55, ur 56, ur 57, ur 58, ur 59, ur 60, ur 61, ur 62, ur 63, ur 64, ur 65, ur 66, ur 67, ur 68, ur 69, ur 70, ur 71, ur 72, ur 73, ur 74, ur 75, ur 76, ur 77, ur 78, ur 79, ur 80, ur 81, ur 82, ur 83, ur 84, ur 85, ur 86, ur 87, undef, undef, undef, undef, undef, undef, undef, undef, undef, undef, undef, undef] := by
                show #[ur 0, ur 1, ur 2, ur 3, ur 4, ur 5, ur 6, ur 7, ur 8, ur 9, ur 10, ur 11, ur 12, ur 13, ur 14, ur 15, ur 16, ur 17, ur 18, ur 19, ur 20, ur 21, ur 22, ur 23, ur 24, ur 25, ur 26, ur 27, ur 28, ur 29, ur 30, ur 31, ur 32, ur 33, ur 34, ur 35, ur 36, ur 37, ur 38, ur 39, ur 40, ur 41, ur 42, ur 43, ur 44, ur 45, ur 46, ur 47, ur 48, ur 49, ur 50, ur 51, ur 52, ur 53, ur 54, ur 55, ur 56, ur 57, ur 58, ur 59, ur 60, ur 61, ur 62, ur 63, ur 64, ur 65, ur 66, ur 67, ur 68, ur 69, ur 70, ur 71, ur 72, ur 73, ur 74, ur 75, ur 76, ur 77, ur 78, ur 79, ur 80, ur 81, ur 82, ur 83, ur 84, ur 85, ur 86, ur 87, ur 88, ur 89, ur 90, ur 91, ur 92, ur 93, ur 94, ur 95, ur 96, ur 97, ur 98, ur 99] = _
                rw [t0, t1, t2, t3, t5, t7, t8, t12, t13, t14, t15, t16, t17, t18, t19, t20, t21, t22, t23, t24, t25, t26, t27, t28, t29, t30, t31, t32, t33, t34, t35, t36, t37, t38, t39, t40, t41, t88, t89, t90, t91, t92, t93, t94, t95, t96, t97, t98, t99]
              rw [el] at haf
              subst haf
              obtain ⟨v7, hv7⟩ : ∃ q, q = ur 87 := ⟨_, rfl⟩
              rw [← hv7] at hrow ⊢
              obtain ⟨na, nc, hvs⟩ := hrow.form
              obtain ⟨nl, hnl⟩ : ∃ q, q = (yq.take k ++ yq.drop (k + 1)).length := ⟨_, rfl⟩
              have hnl7 : nl + 1 = m7 := by
                have := HM7.out
                have := HKl.out
                rw [hnl, List.length_append, List.length_take, List.length_drop]
                omega
              rw [← hnl] at hvs
              subst hvs
              have HK6 := Lib.hid (HK5.out.fresh hW hrow fun u hu => HK5.out.sub u ((List.mem_append.1 hu).elim List.mem_of_mem_take List.mem_of_mem_drop))
              have HNl := Lib.hid hnl
              clear hrow hv7 hus el hf' hs' hd' hW hG hGg t0 t1 t2 t3 t5 t7 t8 t12 t13 t14 t15 t16 t17 t18 t19 t20 t21 t22 t23 t24 t25 t26 t27 t28 t29 t30 t31 t32 t33 t34 t35 t36 t37 t38 t39 t40 t41 t88 t89 t90 t91 t92 t93 t94 t95 t96 t97 t98 t99 hnl
              simp only [List.drop_succ_cons, List.drop_zero]
              go_wp2_with fail
              go_roundw
              case rel => exact ⟨j + 1, U3, yq.take k ++ yq.drop (k + 1), by go_num, HK6.out, by rw [← HNl.out]; omega⟩
              case measure => simp [slLen]; omega
          · have g0 : ¬ (0 : Int) < (m7 : Int) := by omega
            obtain rfl : yq = [] := List.eq_nil_of_length_eq_zero (by have := HM7.out; omega)
            have hT := hp.take 0 HR2.out.is_ (by omega) (by omega)
            rw [show ((⟨([] : List MM).map MM.m, []⟩ : Nt).at_ 0) = (Mg.zero, 9) from rfl, show ((⟨([] : List MM).map MM.m, []⟩ : Nt).take 0) = ⟨[], []⟩ from rfl] at hT
            have HT := Lib.hid hT
            clear hT
            go_wp2_with fail
            refine HT.out.mono ?_
            intro e w3 hh
            obtain ⟨⟨ve, vm, vg, us, rfl, hf⟩, U3, hk3⟩ := HR2.out.net hh rfl
            have HF := Lib.hid hf
            have HK3 := Lib.hid hk3
            clear hh HT hf hk3
            go_wp2_with (refine wpList_store_all rfl 36 (.tmp 12) (.tmp 91) rfl w3.heap.size (mgC Mg.zero ve vm vg) rfl rfl 36 zeroM (Blk.new w3 _ _) (mgM_info _ _ _ _) rfl (mgC_one HF.out.has) ?_; intro w4 hb ho; (have HW4 := Lib.hid (show Below w3.heap.size w3 w4 from ((Below.refl _ _).alloc (Nat.le_refl _) _).trans (ho.below (fun k hk e => by have e : k = w3.heap.size := e; omega) (by simp)))); clear hb ho)
            have HK4 := HK3.out.below HW4.out
            refine (hp.len HK4.is_).mono ?_
            rintro e w5 ⟨rfl, hb⟩
            have HB5 := Lib.hid (HK4.bel.trans (hb.mono HK4.bel.size))
            clear hb HK4
            go_wp2
            go_ret
            exact ⟨rfl, HB5.out⟩
  · -- all
    have hn60 : N ≤ 60 := by omega
    have q60 : ¬ (60 : Int) < (N : Int) := by omega
    clear S60
    clear hcase
    go_enter Try.func4, Try.ntmps4
    go_wp2_with fail
    refine HA.out.mono ?_
    rintro e w1 ⟨rfl, hb⟩
    have HB1 := Lib.hid hb
    clear hb HA
    go_wp2_with fail
    refine (hp.new_ w1).mono ?_
    rintro e w2 ⟨P, U, rfl, hi, hb, hU⟩
    have HK := Lib.hid (show KNet hp w1.heap.size w w2 P U L [] (.slice none 0 0) [] from ⟨hi, hU, World.ownsRow_nil _ _ _ _, fun k e => (by cases e), fun _ e => absurd e List.not_mem_nil, hb.size, HB1.out.size, HB1.out.trans (hb.mono HB1.out.size)⟩)
    clear hi hb hU
    have HSz := Lib.hid HB1.out.size
    go_wp2_with fail
    obtain ⟨n, hn⟩ : ∃ n : Nat, n = N := ⟨_, rfl⟩
    rw [show (Value.slice sa N c) = .slice sa n c by rw [hn]]
    have hnN : n ≤ N := by omega
    have hn6 : n ≤ 60 := by omega
    clear hn
    clear hn60 hl hlc q60
    have HnN := Lib.hid hnN
    go_loopw [6, 7] (fun s6 s7 wr => ∃ (i : Nat) (U : Nat → Prop) (ys : List MM), i ≤ n ∧ s7 = .int .i64 (i : Int) ∧ KNet hp w1.heap.size w wr P U L (ys.map MM.m) s6 ys ∧ ys.length ≤ i) (fun _ s7 _ => n - (intOf s7).toNat)
    case atStart => exact ⟨0, U, [], by omega, rfl, HK.out, Nat.le_refl _⟩
    case round =>
      obtain ⟨i, U, ys, hi, rfl, hk, hyl⟩ := hrel
      obtain ⟨a6, c6, rfl⟩ := hk.row.form
      have HR := Lib.hid hk
      have i0 : (0 : Int) ≤ (i : Int) := Int.natCast_nonneg _
      clear hk HK
      by_cases hlt : i < n
      · obtain ⟨x, hx⟩ : ∃ x, L[i]? = some x := ⟨L[i]'(by have := HN.out; have := HnN.out; omega), List.getElem?_eq_getElem _⟩
        obtain ⟨ad, rfl, hld⟩ := HE.out i x hx
        have HX := Lib.hid hx
        have HLd := Lib.hid hld
        have hhas := (HM.out x (List.mem_of_getElem? hx)).below (Nat.le_refl _) HR.out.bel
        have hS := hp.send x.m x.ve x.vm x.vg x.us HR.out.is_ hhas (by simp)
        have i1 : (i : Int) < (n : Int) := by omega
        obtain ⟨m6, hm6⟩ : ∃ q, q = ys.length := ⟨_, rfl⟩
        have HM6 := Lib.hid hm6
        rw [← hm6]
        clear hx hld hhas hm6
        rcases send_free (ys.map MM.m) x.m with ⟨h1, h2⟩ | ⟨h1, h2⟩
        · rw [h1, h2] at hS
          have HS := Lib.hid hS
          clear h1 h2 hS
          go_wp2_with (refine wpList_load_by rfl 36 (.tmp 31) rfl _ _ rfl (HLd.out _ HR.out.bel) ?_)
          refine HS.out.mono ?_
          intro e w3 hh
          obtain ⟨rfl, U3, hk3⟩ := HR.out.net hh rfl
          clear hh HS
          have hba := (Below.refl w3.heap.size w3).alloc (Nat.le_refl _) (.cells (mgC x.m x.ve x.vm x.vg) 36)
          have hk4 := hk3.below hba
          have hhas := (HM.out x (List.mem_of_getElem? HX.out)).below (Nat.le_refl _) hk4.bel
          have A := Lib.hid (append_mm_at hk4.zl hk4.row (by have := HM6.out; omega) x hhas w3.heap.size (Blk.new w3 _ _))
          have HK3 := Lib.hid hk3
          have HK4 := Lib.hid hk4
          rw [← HM6.out] at A
          clear hba hk4 hhas hk3
          go_wp2_with (first
            | (refine wpList_load_by rfl 36 (.tmp 38) rfl _ _ rfl (HLd.out _ HK3.out.bel) ?_)
            | (refine wpList_build_mm rfl (.tmp 39) rfl (mgC x.m x.ve x.vm x.vg) rfl rfl ?_)
            | (at_builtin; refine wpList_append_by rfl (.tmp 35) (.tmp 40) 27 rfl _ _ rfl rfl _ A.out ?_; rintro v4 w4 ⟨hr, hg, hn⟩; (have HK5 := Lib.hid (HK4.out.list (by rw [← HM6.out]; exact hg) hr (by rw [← HM6.out]; exact hn) (fun y hy => (List.mem_append.1 hy).elim (HK4.out.sub y) fun e => by rw [List.mem_singleton] at e; rw [e]; exact List.mem_of_getElem? HX.out))); clear hr hg hn))
          go_roundw
          case rel => exact ⟨i + 1, U3, ys ++ [x], by omega, by go_num, by rw [List.map_append]; exact HK5.out, by rw [List.length_append]; simp; omega⟩
          case measure => simp [intOf]; omega
        · rw [h2] at hS
          obtain ⟨z, hz⟩ : ∃ z, z = ((⟨ys.map MM.m, []⟩ : Nt).send x.m).1 := ⟨_, rfl⟩
          rw [← hz] at hS h1
          have HS := Lib.hid hS
          have hz0 : ¬ (z : Int) = 0 := by omega
          clear h1 h2 hS hz
          go_wp2_with (refine wpList_load_by rfl 36 (.tmp 31) rfl _ _ rfl (HLd.out _ HR.out.bel) ?_)
          refine HS.out.mono ?_
          intro e w3 hh
          obtain ⟨rfl, U3, hk3⟩ := HR.out.net hh rfl
          have HK3 := Lib.hid hk3
          clear hh HS hk3
          go_wp2_with fail
          go_roundw
          case rel => exact ⟨i + 1, U3, ys, by omega, by go_num, by rw [HM6.out]; exact HK3.out, by omega⟩
          case measure => simp [intOf]; omega
      · have i1 : ¬ (i : Int) < (n : Int) := by omega
        go_wp2_with fail
        go_loopw [6, 8] (fun s6 s8 wx => ∃ (j : Nat) (U : Nat → Prop) (ys : List MM), s8 = .int .i64 (j : Int) ∧ KNet hp w1.heap.size w wx P U L (ys.map MM.m) s6 ys ∧ j + ys.length ≤ 60) (fun s6 _ _ => slLen s6)
        case atStart => exact ⟨0, U, ys, rfl, HR.out, by omega⟩
        case round =>
          obtain ⟨j, U2, yq, rfl, hk, hyl2⟩ := hrel
          obtain ⟨a7, c7, rfl⟩ := hk.row.form
          have HR2 := Lib.hid hk
          have j0 : (0 : Int) ≤ (j : Int) := Int.natCast_nonneg _
          clear hk HR
          obtain ⟨m7, hm7⟩ : ∃ q, q = yq.length := ⟨_, rfl⟩
          have HM7 := Lib.hid hm7
          have hj60 : j + m7 ≤ 60 := by omega
          rw [← hm7]
          clear hyl2 hm7
          by_cases h0 : 0 < m7
          · have g0 : (0 : Int) < (m7 : Int) := by omega
            by_cases hjp : j < pl
            · have g1 : (j : Int) < (pl : Int) := by omega
              obtain ⟨px, z, rfl, hcz⟩ := HZ.out j hjp
              have cz := hcz _ HR2.out.bel
              obtain ⟨k, hkz, hkl⟩ := any_place z m7 h0 (by omega)
              have HKz := Lib.hid hkz
              clear hcz hkz
              go_wp2_with fail
              rw [HKz.out]
              have hk7 := HR2.out.row
              rw [← HM7.out] at hk7
              obtain ⟨y, hy⟩ : ∃ y, yq[k]? = some y := ⟨yq[k]'(by have := HM7.out; omega), List.getElem?_eq_getElem _⟩
              obtain ⟨e1, e2⟩ := at_list hy
              have hT := hp.take (k : Int) HR2.out.is_ (by omega) (by omega)
              rw [e1, e2] at hT
              obtain ⟨g, hag, hgZ, hgl, hgc⟩ := hk7.load hy
              subst hag
              have HT := Lib.hid hT
              have HY := Lib.hid hy
              have k1 : (k : Int) < (m7 : Int) := by omega
              have k0 : (0 : Int) ≤ (k : Int) := Int.natCast_nonneg _
              clear hT e1 e2 hy hk7 hgc hgZ hgl cz
              refine HT.out.mono ?_
              intro e w3 hh
              obtain ⟨⟨ve, vm, vg, us, rfl, hf⟩, U3, hk3⟩ := HR2.out.net hh rfl
              have HF := Lib.hid hf
              have HK3 := Lib.hid hk3
              clear hh HT hf hk3
              go_upto_region 19 with (refine wpList_store_all rfl 36 (.tmp 10) (.tmp 65) rfl w3.heap.size (mgC y.m ve vm vg) rfl rfl 36 zeroM (Blk.new w3 _ _) (mgM_info _ _ _ _) rfl (mgC_one HF.out.has) ?_; intro w4 hb ho; (have HB4 := Lib.hid hb); (have HW4 := Lib.hid (show Below w3.heap.size w3 w4 from ((Below.refl _ _).alloc (Nat.le_refl _) _).trans (ho.below (fun k hk e => by have e : k = w3.heap.size := e; omega) (by simp)))); clear hb ho)
              have HK4 := Lib.hid (HK3.out.below HW4.out)
              have hrow4 := HK4.out.row
              rw [← HM7.out] at hrow4
              obtain ⟨g', hag, -, -, hgc⟩ := hrow4.load HY.out
              simp only [Option.some.injEq, Addr.mk.injEq, and_true] at hag
              subst hag
              have HGc := Lib.hid hgc
              clear hrow4 hgc
              obtain ⟨G10, hG10⟩ : ∃ q, q = w3.heap.size := ⟨_, rfl⟩
              have HG10 := Lib.hid (show w.heap.size ≤ G10 by rw [hG10]; exact HK3.out.bel.size)
              rw [← hG10] at HB4 ⊢
              have L10 := Lib.hid (show ∀ W, Below w4.heap.size w4 W → (Instr.loadAt 36 (.pointer (some ⟨G10, 0, none⟩))).run Try.prog W = .ok (.agg (mgC y.m ve vm vg)) W from fun W hW => Blk.loads (P := Try.prog) (HB4.out.keep hW) 36 _ Try.underlying36 rfl (mgM_info _ _ _ _))
              have L73 := Lib.hid (show ∀ W, Below w4.heap.size w4 W → (Instr.loadAt 36 (.pointer (some ⟨g, k * 12, none⟩))).run Try.prog W = .ok (.agg (mgC y.m y.ve y.vm y.vg)) W from fun W hW => load_mm W _ y fun j v hj => (hW.cell (World.block_lt_of_cell? w4 _ (HGc.out j v hj))).trans (HGc.out j v hj))
              have HIX := Lib.hid (fun W => ix_mm W g m7 c7 k hkl)
              have HF4 := Lib.hid (show MHas w4 y.m ve vm vg us from (HF.out.below HW4.out).has)
              have HY4 := Lib.hid (HK4.out.has HM.out y (List.mem_of_getElem? HY.out))
              have HSame := Lib.hid (show ∀ W, Below w4.heap.size w4 W → Calls Try.prog 22 #[.agg (mgC y.m ve vm vg), .agg (mgC y.m y.ve y.vm y.vg)] W fun r w' => r = .returned (.bool true) ∧ Below W.heap.size W w' from fun W hW => (refMsgSame_any y.m y.m _ _ _ _ _ _ us y.us W (HF4.out.below (Nat.le_refl _) hW) (HY4.out.below (Nat.le_refl _) hW)).mono fun r w' h => ⟨by rw [h.1, decide_eq_true rfl], h.2⟩)
              have hG : ∀ W W' : World, Below w4.heap.size w4 W → Below W.heap.size W W' → Below w4.heap.size w4 W' := fun W W' hW hb => hW.trans (hb.mono hW.size)
              refine region_by [(67, .is (.int .i64 0)), (68, .is (.bool false)), (69, .is (.bool false)), (70, .is (.agg (mgC y.m ve vm vg))), (71, .is (.slice (some ⟨g, 0, none⟩) m7 c7)), (72, .is (.int .i64 (k : Int))), (73, .is (.pointer (some ⟨g, k * 12, none⟩))), (74, .is (.agg (mgC y.m y.ve y.vm y.vg))), (75, .is (.bool true)), (76, .is (.bool false)), (77, .is (.bool false))] [0, 1, 2, 3, 5, 6, 7, 8, 9, 12, 13, 14, 15, 16, 17, 18, 19, 20, 21, 22, 23, 24, 25, 26, 27, 28, 29, 30, 31, 32, 33, 34, 35, 36, 37, 38, 39, 40, 41, 77, 88, 89, 90, 91, 92, 93, 94, 95, 96, 97, 98, 99] (fun W => Below w4.heap.size w4 W) (by kernel_rfl) (by kernel_rfl) (by kernel_rfl) (by kernel_rfl) (by kernel_rfl) ((Below.refl _ _).drew) ?_ ?_
              · refine ⟨?c0, ?c1, ?c2, ?c3, ?c4, ?c5, ?c6, ?c7, ?c8, ?c9, ?c10, trivial⟩
                case c0 => exact ask_copy (guard_none rfl) (.tmp 11) (.inl rfl) (by intro k hk; cases hk; rfl)
                case c1 => exact ask_bin (guard_none rfl) .neq _ _ (.tmp 67) (.const (.int .i64 0)) (.int .i64 0) (.int .i64 0) (.bool false) rfl rfl rfl (by intro k hk; cases hk; rfl) (fun W => by kernel_rfl)
                case c2 => exact ask_copy (guard_none rfl) (.tmp 68) (.inl rfl) (by intro k hk; cases hk; rfl)
                case c3 => exact ask_load (guard_some rfl rfl rfl) _ (.tmp 10) (.pointer (some ⟨G10, 0, none⟩)) (.agg (mgC y.m ve vm vg)) rfl rfl (by intro k hk; cases hk; rfl) (fun W hW => L10.out W hW)
                case c4 => exact ask_copy (guard_some rfl rfl rfl) (.tmp 6) (.inl rfl) (by intro k hk; cases hk; rfl)
                case c5 => exact ask_copy (guard_some rfl rfl rfl) (.tmp 9) (.inl rfl) (by intro k hk; cases hk; rfl)
                case c6 => exact ask_indexM (guard_some rfl rfl rfl) _ (.tmp 71) (.tmp 72) _ _ (.pointer (some ⟨g, k * 12, none⟩)) rfl rfl rfl (by intro k hk; cases hk; rfl) HIX.out
                case c7 => exact ask_load (guard_some rfl rfl rfl) _ (.tmp 73) (.pointer (some ⟨g, k * 12, none⟩)) (.agg (mgC y.m y.ve y.vm y.vg)) rfl rfl (by intro k hk; cases hk; rfl) (fun W hW => L73.out W hW)
                case c8 => exact ask_call hG (guard_some rfl rfl rfl) _ _ _ #[(.agg (mgC y.m ve vm vg)), (.agg (mgC y.m y.ve y.vm y.vg))] (.is (.bool true)) rfl (by kernel_rfl) rfl rfl (by intro k hk; cases hk; rfl) (fun W hW => (HSame.out W hW).mono fun e w' h => ⟨_, h.1, rfl, h.2⟩)
                case c9 => exact ask_exec (guard_some rfl rfl rfl) (.bool false) rfl rfl (by intro k hk; cases hk; rfl) (fun W hW => by kernel_rfl)
                case c10 => exact ask_pick (guard_none rfl) (.tmp 69) (.const (.bool true)) (.tmp 76) false rfl rfl (by intro k hk; cases hk; rfl)
              intro af w5 hW hd' hs' hf'
              have t0 : af.tmps.getD 0 undef = .slice sa n c := hf' 0 rfl
              have t1 : af.tmps.getD 1 undef = .slice (some px) pl pc := hf' 1 rfl
              have t2 : af.tmps.getD 2 undef = undef := hf' 2 rfl
              have t3 : af.tmps.getD 3 undef = undef := hf' 3 rfl
              have t5 : af.tmps.getD 5 undef = .pointer (some ⟨P, 0, none⟩) := hf' 5 rfl
              have t6 : af.tmps.getD 6 undef = .slice (some ⟨g, 0, none⟩) m7 c7 := hf' 6 rfl
              have t7 : af.tmps.getD 7 undef = .int .i64 (i : Int) := hf' 7 rfl
              have t8 : af.tmps.getD 8 undef = .int .i64 (j : Int) := hf' 8 rfl
              have t9 : af.tmps.getD 9 undef = .int .i64 (k : Int) := hf' 9 rfl
              have t12 : af.tmps.getD 12 undef = undef := hf' 12 rfl
              have t13 : af.tmps.getD 13 undef = undef := hf' 13 rfl
              have t14 : af.tmps.getD 14 undef = .bool true := hf' 14 rfl
              have t15 : af.tmps.getD 15 undef = .bool false := hf' 15 rfl
              have t16 : af.tmps.getD 16 undef = .slice sa n c := hf' 16 rfl
              have t17 : af.tmps.getD 17 undef = .int .i64 (N : Int) := hf' 17 rfl
              have t18 : af.tmps.getD 18 undef = .bool (decide (60 < (N : Int))) := hf' 18 rfl
              have t19 : af.tmps.getD 19 undef = undef := hf' 19 rfl
              have t20 : af.tmps.getD 20 undef = undef := hf' 20 rfl
              have t21 : af.tmps.getD 21 undef = .pointer (some ⟨P, 0, none⟩) := hf' 21 rfl
              have t22 : af.tmps.getD 22 undef = .int .i64 (i : Int) := hf' 22 rfl
              have t23 : af.tmps.getD 23 undef = .slice sa n c := hf' 23 rfl
              have t24 : af.tmps.getD 24 undef = .int .i64 (n : Int) := hf' 24 rfl
              have t25 : af.tmps.getD 25 undef = .bool false := hf' 25 rfl
              have t26 : af.tmps.getD 26 undef = u26 := hf' 26 rfl
              have t27 : af.tmps.getD 27 undef = u27 := hf' 27 rfl
              have t28 : af.tmps.getD 28 undef = u28 := hf' 28 rfl
              have t29 : af.tmps.getD 29 undef = u29 := hf' 29 rfl
              have t30 : af.tmps.getD 30 undef = u30 := hf' 30 rfl
              have t31 : af.tmps.getD 31 undef = u31 := hf' 31 rfl
              have t32 : af.tmps.getD 32 undef = u32 := hf' 32 rfl
              have t33 : af.tmps.getD 33 undef = u33 := hf' 33 rfl
              have t34 : af.tmps.getD 34 undef = u34 := hf' 34 rfl
              have t35 : af.tmps.getD 35 undef = u35 := hf' 35 rfl
              have t36 : af.tmps.getD 36 undef = u36 := hf' 36 rfl
              have t37 : af.tmps.getD 37 undef = u37 := hf' 37 rfl
              have t38 : af.tmps.getD 38 undef = u38 := hf' 38 rfl
              have t39 : af.tmps.getD 39 undef = u39 := hf' 39 rfl
              have t40 : af.tmps.getD 40 undef = u40 := hf' 40 rfl
              have t41 : af.tmps.getD 41 undef = u41 := hf' 41 rfl
              have t77 : af.tmps.getD 77 undef = .bool false := hf' 77 rfl
              have t88 : af.tmps.getD 88 undef = undef := hf' 88 rfl
              have t89 : af.tmps.getD 89 undef = undef := hf' 89 rfl
              have t90 : af.tmps.getD 90 undef = undef := hf' 90 rfl
              have t91 : af.tmps.getD 91 undef = undef := hf' 91 rfl
              have t92 : af.tmps.getD 92 undef = undef := hf' 92 rfl
              have t93 : af.tmps.getD 93 undef = undef := hf' 93 rfl
              have t94 : af.tmps.getD 94 undef = undef := hf' 94 rfl
              have t95 : af.tmps.getD 95 undef = undef := hf' 95 rfl
              have t96 : af.tmps.getD 96 undef = undef := hf' 96 rfl
              have t97 : af.tmps.getD 97 undef = undef := hf' 97 rfl
              have t98 : af.tmps.getD 98 undef = undef := hf' 98 rfl
              have t99 : af.tmps.getD 99 undef = undef := hf' 99 rfl
              obtain ⟨uq, hus, haf⟩ := act_open 100 af hs' hd'
              rw [← hus] at t0 t1 t2 t3 t5 t6 t7 t8 t9 t12 t13 t14 t15 t16 t17 t18 t19 t20 t21 t22 t23 t24 t25 t26 t27 t28 t29 t30 t31 t32 t33 t34 t35 t36 t37 t38 t39 t40 t41 t77 t88 t89 t90 t91 t92 t93 t94 t95 t96 t97 t98 t99
              have el : ((List.range 100).map uq).toArray = #[.slice sa n c, .slice (some px) pl pc, undef, undef, uq 4, .pointer (some ⟨P, 0, none⟩), .slice (some ⟨g, 0, none⟩) m7 c7, .int .i64 (i : Int), .int .i64 (j : Int), .int .i64 (k : Int), uq 10, uq 11, undef, undef, .bool true, .bool false, .slice sa n c, .int .i64 (N : Int), .bool (decide (60 < (N : Int))), undef, undef, .pointer (some ⟨P, 0, none⟩), .int .i64 (i : Int), .slice sa n c, .int .i64 (n : Int), .bool false, u26, u27, u28, u29, u30, u31, u32, u33, u34, u35, u36, u37, u38, u39, u40, u41, uq 42, uq 43, uq 44, uq 45, uq 46, uq 47, uq 48, uq 49, uq 50, uq 51, uq 52, uq 53, uq 54, uq 55, uq 56, uq 57, uq 58, uq 59, uq 60, uq 61, uq 62, uq 63, uq 64, uq 65, uq 66, uq 67, uq 68, uq 69, uq 70, uq 71, uq 72, uq 73, uq 74, uq 75, uq 76, .bool false, uq 78, uq 79, uq 80, uq 81, uq 82, uq 83, uq 84, uq 85, uq 86, uq 87, undef, undef, undef, undef, undef, undef, undef, undef, undef, undef, undef, undef] := by
                show #[uq 0, uq 1, uq 2, uq 3, uq 4, uq 5, uq 6, uq 7, uq 8, uq 9, uq 10, uq 11, uq 12, uq 13, uq 14, uq 15, uq 16, uq 17, uq 18, uq 19, uq 20, uq 21, uq 22, uq 23, uq 24, uq 25, uq 26, uq 27, uq 28, uq 29, uq 30, uq 31, uq 32, uq 33, uq 34, uq 35, uq 36, uq 37, uq 38, uq 39, uq 40, uq 41, uq 42, uq 43, uq 44, uq 45, uq 46, uq 47, uq 48, uq 49, uq 50, uq 51, uq 52, uq 53, uq 54, uq 55, uq 56, uq 57, uq 58, uq 59, uq 60, uq 61, uq 62, uq 63, uq 64, uq 65, uq 66, uq 67, uq 68, uq 69, uq 70, uq 71, uq 72, uq 73, uq 74, uq 75, uq 76, uq 77, uq 78, uq 79, uq 80, uq 81, uq 82, uq 83, uq 84, uq 85, uq 86, uq 87, uq 88, uq 89, uq 90, uq 91, uq 92, uq 93, uq 94, uq 95, uq 96, uq 97, uq 98, uq 99] = _
                rw [t0, t1, t2, t3, t5, t6, t7, t8, t9, t12, t13, t14, t15, t16, t17, t18, t19, t20, t21, t22, t23, t24, t25, t26, t27, t28, t29, t30, t31, t32, t33, t34, t35, t36, t37, t38, t39, t40, t41, t77, t88, t89, t90, t91, t92, t93, t94, t95, t96, t97, t98, t99]
              rw [el] at haf
              subst haf
              have HK5 := Lib.hid (HK4.out.below hW)
              clear hus el hf' hs' hd' hW hG t0 t1 t2 t3 t5 t6 t7 t8 t9 t12 t13 t14 t15 t16 t17 t18 t19 t20 t21 t22 t23 t24 t25 t26 t27 t28 t29 t30 t31 t32 t33 t34 t35 t36 t37 t38 t39 t40 t41 t77 t88 t89 t90 t91 t92 t93 t94 t95 t96 t97 t98 t99
              clear HF HK3 HB4 HW4 HK4 HGc HG10 L10 L73 HIX HF4 HY4 HSame hG10
              go_upto_region 21 with fail
              have HRow := Lib.hid HK5.out.row
              have HOne := Lib.hid (mms_one (HK5.out.has HM.out))
              have HAdd := Lib.hid (fun W => add_i64g (.tmp 84) (.const (.int .i64 1)) k (by omega) W)
              have HKl := Lib.hid hkl
              have HLc := Lib.hid (show m7 ≤ c7 by
                have h := HK5.out.row
                rw [← HM7.out] at h
                rcases h.2 with ⟨h1, -⟩ | ⟨g', cap, cur, h1, -, -, hn, -⟩
                · cases h1
                · cases h1
                  rw [HM7.out]
                  exact hn)
              have H60 := Lib.hid hj60
              rw [← HM7.out] at HRow
              have hG : ∀ W W' : World, Below w5.heap.size w5 W → Below W.heap.size W W' → Below w5.heap.size w5 W' := fun W W' hW hb => hW.trans (hb.mono hW.size)
              have hGg : ∀ (W W' : World) (row : Option Nat), Below w5.heap.size w5 W → W.grownBy W' row → (∀ k, row = some k → w5.heap.size ≤ k) → Below w5.heap.size w5 W' := fun W W' row hW hg hr => hW.grown hg hW.size hr
              refine region_latetails_by 10 [(78, newF w5.heap.size []), (79, .is (.slice (some ⟨g, 0, none⟩) m7 c7)), (80, .is (.int .i64 (k : Int))), (81, .is (.slice (some ⟨g, 0, none⟩) k c7)), (82, newF w5.heap.size ([] ++ yq.take k)), (83, .is (.slice (some ⟨g, 0, none⟩) m7 c7)), (84, .is (.int .i64 (k : Int))), (85, .is (.int .i64 ((k + 1 : Nat) : Int))), (86, .is (sliced (some ⟨g, 0, none⟩) (k + 1) m7 c7 12)), (87, newF w5.heap.size ([] ++ yq.take k ++ yq.drop (k + 1)))] [0, 1, 2, 3, 5, 7, 8, 12, 13, 14, 15, 16, 17, 18, 19, 20, 21, 22, 23, 24, 25, 26, 27, 28, 29, 30, 31, 32, 33, 34, 35, 36, 37, 38, 39, 40, 41, 87, 88, 89, 90, 91, 92, 93, 94, 95, 96, 97, 98, 99] (fun W => Below w5.heap.size w5 W) (by kernel_rfl) (by kernel_rfl) (by kernel_rfl) (by kernel_rfl) (by kernel_rfl) (by decide) (by kernel_rfl) ((Below.refl _ _).drew) ?_ ?_
              · refine ⟨?c0, ?c1, ?c2, ?c3, ?c4, ?c5, ?c6, ?c7, ?c8, ?c9, trivial⟩
                case c0 => exact Asked.late (ask_build_ml hG (guard_none rfl) w5.heap.size (fun W hW => hW.size) rfl (by intro k hk; cases hk; rfl))
                case c1 => exact Asked.late (ask_copy (guard_none rfl) (.tmp 6) (.inl rfl) (by intro k hk; cases hk; rfl))
                case c2 => exact Asked.late (ask_copy (guard_none rfl) (.tmp 9) (.inl rfl) (by intro k hk; cases hk; rfl))
                case c3 => exact Asked.late (ask_slice (guard_none rfl) _ (.tmp 79) none (some (.tmp 80)) none (.slice (some ⟨g, 0, none⟩) m7 c7) (.slice (some ⟨g, 0, none⟩) k c7) none (some (.int .i64 (k : Int))) none rfl rfl rfl rfl rfl (by intro k hk; cases hk; rfl) (fun W => slice_ml_to (some ⟨g, 0, none⟩) m7 c7 k (by have := HKl.out; have := HLc.out; omega) W))
                case c4 => exact ask_append_mms (guard_none rfl) (by kernel_rfl) (.tmp 78) (.tmp 81) w5.heap.size [] (yq.take k) (.slice (some ⟨g, 0, none⟩) k c7) (by kernel_rfl) rfl rfl rfl (fun W hW => MRow.first (ownsRow_keep HRow.out hW) HM7.out.symm k (Nat.le_of_lt HKl.out)) (fun u hu => HOne.out u (by rw [← mms_take] at hu; exact List.mem_of_mem_take hu)) (by have := H60.out; have := HM7.out; simp only [List.length_nil, List.length_take]; omega) (fun W hW => hW.size) hGg (by intro k hk; cases hk; rfl)
                case c5 => exact Asked.late (ask_copy (guard_none rfl) (.tmp 6) (.inl rfl) (by intro k hk; cases hk; rfl))
                case c6 => exact Asked.late (ask_copy (guard_none rfl) (.tmp 9) (.inl rfl) (by intro k hk; cases hk; rfl))
                case c7 => exact Asked.late (ask_bin (guard_none rfl) .add _ _ (.tmp 84) (.const (.int .i64 1)) (.int .i64 (k : Int)) (.int .i64 1) (.int .i64 ((k + 1 : Nat) : Int)) rfl rfl rfl (by intro k hk; cases hk; rfl) (fun W => HAdd.out W))
                case c8 => exact Asked.late (ask_slice (guard_none rfl) _ (.tmp 83) (some (.tmp 85)) none none (.slice (some ⟨g, 0, none⟩) m7 c7) (sliced (some ⟨g, 0, none⟩) (k + 1) m7 c7 12) (some (.int .i64 ((k + 1 : Nat) : Int))) none none rfl rfl rfl rfl rfl (by intro k hk; cases hk; rfl) (fun W => slice_ml_from (some ⟨g, 0, none⟩) m7 c7 (k + 1) HKl.out W))
                case c9 => exact ask_append_mms (guard_none rfl) (by kernel_rfl) (.tmp 82) (.tmp 86) w5.heap.size ([] ++ yq.take k) (yq.drop (k + 1)) (sliced (some ⟨g, 0, none⟩) (k + 1) m7 c7 12) (by kernel_rfl) rfl rfl rfl (fun W hW => MRow.from_ (ownsRow_keep HRow.out hW) HM7.out.symm (k + 1) HKl.out) (fun u hu => HOne.out u (by rw [← mms_drop] at hu; exact List.mem_of_mem_drop hu)) (by have := H60.out; have := HM7.out; simp only [List.nil_append, List.length_take, List.length_drop]; omega) (fun W hW => hW.size) hGg (by intro k hk; cases hk; rfl)
              intro af w6 hW hd' hs' hf'
              have t0 : af.tmps.getD 0 undef = .slice sa n c := hf' 0 rfl
              have t1 : af.tmps.getD 1 undef = .slice (some px) pl pc := hf' 1 rfl
              have t2 : af.tmps.getD 2 undef = undef := hf' 2 rfl
              have t3 : af.tmps.getD 3 undef = undef := hf' 3 rfl
              have t5 : af.tmps.getD 5 undef = .pointer (some ⟨P, 0, none⟩) := hf' 5 rfl
              have t7 : af.tmps.getD 7 undef = .int .i64 (i : Int) := hf' 7 rfl
              have t8 : af.tmps.getD 8 undef = .int .i64 (j : Int) := hf' 8 rfl
              have t12 : af.tmps.getD 12 undef = undef := hf' 12 rfl
              have t13 : af.tmps.getD 13 undef = undef := hf' 13 rfl
              have t14 : af.tmps.getD 14 undef = .bool true := hf' 14 rfl
              have t15 : af.tmps.getD 15 undef = .bool false := hf' 15 rfl
              have t16 : af.tmps.getD 16 undef = .slice sa n c := hf' 16 rfl
              have t17 : af.tmps.getD 17 undef = .int .i64 (N : Int) := hf' 17 rfl
              have t18 : af.tmps.getD 18 undef = .bool (decide (60 < (N : Int))) := hf' 18 rfl
              have t19 : af.tmps.getD 19 undef = undef := hf' 19 rfl
              have t20 : af.tmps.getD 20 undef = undef := hf' 20 rfl
              have t21 : af.tmps.getD 21 undef = .pointer (some ⟨P, 0, none⟩) := hf' 21 rfl
              have t22 : af.tmps.getD 22 undef = .int .i64 (i : Int) := hf' 22 rfl
              have t23 : af.tmps.getD 23 undef = .slice sa n c := hf' 23 rfl
              have t24 : af.tmps.getD 24 undef = .int .i64 (n : Int) := hf' 24 rfl
              have t25 : af.tmps.getD 25 undef = .bool false := hf' 25 rfl
              have t26 : af.tmps.getD 26 undef = u26 := hf' 26 rfl
              have t27 : af.tmps.getD 27 undef = u27 := hf' 27 rfl
              have t28 : af.tmps.getD 28 undef = u28 := hf' 28 rfl
              have t29 : af.tmps.getD 29 undef = u29 := hf' 29 rfl
              have t30 : af.tmps.getD 30 undef = u30 := hf' 30 rfl
              have t31 : af.tmps.getD 31 undef = u31 := hf' 31 rfl
              have t32 : af.tmps.getD 32 undef = u32 := hf' 32 rfl
              have t33 : af.tmps.getD 33 undef = u33 := hf' 33 rfl
              have t34 : af.tmps.getD 34 undef = u34 := hf' 34 rfl
              have t35 : af.tmps.getD 35 undef = u35 := hf' 35 rfl
              have t36 : af.tmps.getD 36 undef = u36 := hf' 36 rfl
              have t37 : af.tmps.getD 37 undef = u37 := hf' 37 rfl
              have t38 : af.tmps.getD 38 undef = u38 := hf' 38 rfl
              have t39 : af.tmps.getD 39 undef = u39 := hf' 39 rfl
              have t40 : af.tmps.getD 40 undef = u40 := hf' 40 rfl
              have t41 : af.tmps.getD 41 undef = u41 := hf' 41 rfl
              have t88 : af.tmps.getD 88 undef = undef := hf' 88 rfl
              have t89 : af.tmps.getD 89 undef = undef := hf' 89 rfl
              have t90 : af.tmps.getD 90 undef = undef := hf' 90 rfl
              have t91 : af.tmps.getD 91 undef = undef := hf' 91 rfl
              have t92 : af.tmps.getD 92 undef = undef := hf' 92 rfl
              have t93 : af.tmps.getD 93 undef = undef := hf' 93 rfl
              have t94 : af.tmps.getD 94 undef = undef := hf' 94 rfl
              have t95 : af.tmps.getD 95 undef = undef := hf' 95 rfl
              have t96 : af.tmps.getD 96 undef = undef := hf' 96 rfl
              have t97 : af.tmps.getD 97 undef = undef := hf' 97 rfl
              have t98 : af.tmps.getD 98 undef = undef := hf' 98 rfl
              have t99 : af.tmps.getD 99 undef = undef := hf' 99 rfl
              have hrow : MRow w6 w5.heap.size (af.tmps.getD 87 undef) ([] ++ yq.take k ++ yq.drop (k + 1)) := hf' 87 rfl
              rw [List.nil_append] at hrow
              obtain ⟨ur, hus, haf⟩ := act_open 100 af hs' hd'
              rw [← hus] at hrow t0 t1 t2 t3 t5 t7 t8 t12 t13 t14 t15 t16 t17 t18 t19 t20 t21 t22 t23 t24 t25 t26 t27 t28 t29 t30 t31 t32 t33 t34 t35 t36 t37 t38 t39 t40 t41 t88 t89 t90 t91 t92 t93 t94 t95 t96 t97 t98 t99
              have el : ((List.range 100).map ur).toArray = #[.slice sa n c, .slice (some px) pl pc, undef, undef, ur 4, .pointer (some ⟨P, 0, none⟩), ur 6, .int .i64 (i : Int), .int .i64 (j : Int), ur 9, ur 10, ur 11, undef, undef, .bool true, .bool false, .slice sa n c, .int .i64 (N : Int), .bool (decide (60 < (N : Int))), undef, undef, .pointer (some ⟨P, 0, none⟩), .int .i64 (i : Int), .slice sa n c, .int .i64 (n : Int), .bool false, u26, u27, u28, u29, u30, u31, u32, u33, u34, u35, u36, u37, u38, u39, u40, u41, ur 42, ur 43, ur 44, ur 45, ur 46, ur 47, ur 48, ur 49, ur 50, ur 51, ur 52, ur 53, ur 54, ur 55, ur 56, ur 57, ur 58, ur 59, ur 60, ur 61, ur 62, ur 63, ur 64, ur 65, ur 66, ur 67, ur 68, ur 69, ur 70, ur 71, ur 72, ur 73, ur 74, ur 75, ur 76, ur 77, ur 78, ur 79, ur 80, ur 81, ur 82, ur 83, ur 84, ur 85, ur 86, ur 87, undef, undef, undef, undef, undef, undef, undef, undef, undef, undef, undef, undef] := by
                show #[ur 0, ur 1, ur 2, ur 3, ur 4, ur 5, ur 6, ur 7, ur 8, ur 9, ur 10, ur 11, ur 12, ur 13, ur 14, ur 15, ur 16, ur 17, ur 18, ur 19, ur 20, ur 21, ur 22, ur 23, ur 24, ur 25, ur 26, ur 27, ur 28, ur 29, ur 30, ur 31, ur 32, ur 33, ur 34, ur 35, ur 36, ur 37, ur 38, ur 39, ur 40, ur 41, ur 42, ur 43, ur 44, ur 45, ur 46, ur 47, ur 48, ur 49, ur 50, ur 51, ur 52, ur 53, ur 54, ur 55, ur 56, ur 57, ur 58, ur 59, ur 60, ur 61, ur 62, ur 63, ur 64, ur 65, ur 66, ur 67, ur 68, ur 69, ur 70, ur 71, ur 72, ur 73, ur 74, ur 75, ur 76, ur 77, ur 78, ur 79, ur 80, ur 81, ur 82, ur 83, ur 84, ur 85, ur 86, ur 87, ur 88, ur 89, ur 90, ur 91, ur 92, ur 93, ur 94, ur 95, ur 96, ur 97, ur 98, ur 99] = _
                rw [t0, t1, t2, t3, t5, t7, t8, t12, t13, t14, t15, t16, t17, t18, t19, t20, t21, t22, t23, t24, t25, t26, t27, t28, t29, t30, t31, t32, t33, t34, t35, t36, t37, t38, t39, t40, t41, t88, t89, t90, t91, t92, t93, t94, t95, t96, t97, t98, t99]
              rw [el] at haf
              subst haf
              obtain ⟨v7, hv7⟩ : ∃ q, q = ur 87 := ⟨_, rfl⟩
              rw [← hv7] at hrow ⊢
              obtain ⟨na, nc, hvs⟩ := hrow.form
              obtain ⟨nl, hnl⟩ : ∃ q, q = (yq.take k ++ yq.drop (k + 1)).length := ⟨_, rfl⟩
              have hnl7 : nl + 1 = m7 := by
                have := HM7.out
                have := HKl.out
                rw [hnl, List.length_append, List.length_take, List.length_drop]
                omega
              rw [← hnl] at hvs
              subst hvs
              have HK6 := Lib.hid (HK5.out.fresh hW hrow fun u hu => HK5.out.sub u ((List.mem_append.1 hu).elim List.mem_of_mem_take List.mem_of_mem_drop))
              have HNl := Lib.hid hnl
              clear hrow hv7 hus el hf' hs' hd' hW hG hGg t0 t1 t2 t3 t5 t7 t8 t12 t13 t14 t15 t16 t17 t18 t19 t20 t21 t22 t23 t24 t25 t26 t27 t28 t29 t30 t31 t32 t33 t34 t35 t36 t37 t38 t39 t40 t41 t88 t89 t90 t91 t92 t93 t94 t95 t96 t97 t98 t99 hnl
              simp only [List.drop_succ_cons, List.drop_zero]
              go_wp2_with fail
              go_roundw
              case rel => exact ⟨j + 1, U3, yq.take k ++ yq.drop (k + 1), by go_num, HK6.out, by rw [← HNl.out]; omega⟩
              case measure => simp [slLen]; omega
            · have g1 : ¬ (j : Int) < (pl : Int) := by omega
              obtain ⟨k, hk0⟩ : ∃ k : Nat, k = 0 := ⟨_, rfl⟩
              have hkl : k < m7 := by omega
              go_wp2_with fail
              rw [show (Value.int .i64 0) = .int .i64 (k : Int) by rw [hk0]; rfl]
              clear hk0
              have hk7 := HR2.out.row
              rw [← HM7.out] at hk7
              obtain ⟨y, hy⟩ : ∃ y, yq[k]? = some y := ⟨yq[k]'(by have := HM7.out; omega), List.getElem?_eq_getElem _⟩
              obtain ⟨e1, e2⟩ := at_list hy
              have hT := hp.take (k : Int) HR2.out.is_ (by omega) (by omega)
              rw [e1, e2] at hT
              obtain ⟨g, hag, hgZ, hgl, hgc⟩ := hk7.load hy
              subst hag
              have HT := Lib.hid hT
              have HY := Lib.hid hy
              have k1 : (k : Int) < (m7 : Int) := by omega
              have k0 : (0 : Int) ≤ (k : Int) := Int.natCast_nonneg _
              clear hT e1 e2 hy hk7 hgc hgZ hgl
              refine HT.out.mono ?_
              intro e w3 hh
              obtain ⟨⟨ve, vm, vg, us, rfl, hf⟩, U3, hk3⟩ := HR2.out.net hh rfl
              have HF := Lib.hid hf
              have HK3 := Lib.hid hk3
              clear hh HT hf hk3
              go_upto_region 19 with (refine wpList_store_all rfl 36 (.tmp 10) (.tmp 65) rfl w3.heap.size (mgC y.m ve vm vg) rfl rfl 36 zeroM (Blk.new w3 _ _) (mgM_info _ _ _ _) rfl (mgC_one HF.out.has) ?_; intro w4 hb ho; (have HB4 := Lib.hid hb); (have HW4 := Lib.hid (show Below w3.heap.size w3 w4 from ((Below.refl _ _).alloc (Nat.le_refl _) _).trans (ho.below (fun k hk e => by have e : k = w3.heap.size := e; omega) (by simp)))); clear hb ho)
              have HK4 := Lib.hid (HK3.out.below HW4.out)
              have hrow4 := HK4.out.row
              rw [← HM7.out] at hrow4
              obtain ⟨g', hag, -, -, hgc⟩ := hrow4.load HY.out
              simp only [Option.some.injEq, Addr.mk.injEq, and_true] at hag
              subst hag
              have HGc := Lib.hid hgc
              clear hrow4 hgc
              obtain ⟨G10, hG10⟩ : ∃ q, q = w3.heap.size := ⟨_, rfl⟩
              have HG10 := Lib.hid (show w.heap.size ≤ G10 by rw [hG10]; exact HK3.out.bel.size)
              rw [← hG10] at HB4 ⊢
              have L10 := Lib.hid (show ∀ W, Below w4.heap.size w4 W → (Instr.loadAt 36 (.pointer (some ⟨G10, 0, none⟩))).run Try.prog W = .ok (.agg (mgC y.m ve vm vg)) W from fun W hW => Blk.loads (P := Try.prog) (HB4.out.keep hW) 36 _ Try.underlying36 rfl (mgM_info _ _ _ _))
              have L73 := Lib.hid (show ∀ W, Below w4.heap.size w4 W → (Instr.loadAt 36 (.pointer (some ⟨g, k * 12, none⟩))).run Try.prog W = .ok (.agg (mgC y.m y.ve y.vm y.vg)) W from fun W hW => load_mm W _ y fun j v hj => (hW.cell (World.block_lt_of_cell? w4 _ (HGc.out j v hj))).trans (HGc.out j v hj))
              have HIX := Lib.hid (fun W => ix_mm W g m7 c7 k hkl)
              have HF4 := Lib.hid (show MHas w4 y.m ve vm vg us from (HF.out.below HW4.out).has)
              have HY4 := Lib.hid (HK4.out.has HM.out y (List.mem_of_getElem? HY.out))
              have HSame := Lib.hid (show ∀ W, Below w4.heap.size w4 W → Calls Try.prog 22 #[.agg (mgC y.m ve vm vg), .agg (mgC y.m y.ve y.vm y.vg)] W fun r w' => r = .returned (.bool true) ∧ Below W.heap.size W w' from fun W hW => (refMsgSame_any y.m y.m _ _ _ _ _ _ us y.us W (HF4.out.below (Nat.le_refl _) hW) (HY4.out.below (Nat.le_refl _) hW)).mono fun r w' h => ⟨by rw [h.1, decide_eq_true rfl], h.2⟩)
              have hG : ∀ W W' : World, Below w4.heap.size w4 W → Below W.heap.size W W' → Below w4.heap.size w4 W' := fun W W' hW hb => hW.trans (hb.mono hW.size)
              refine region_by [(67, .is (.int .i64 0)), (68, .is (.bool false)), (69, .is (.bool false)), (70, .is (.agg (mgC y.m ve vm vg))), (71, .is (.slice (some ⟨g, 0, none⟩) m7 c7)), (72, .is (.int .i64 (k : Int))), (73, .is (.pointer (some ⟨g, k * 12, none⟩))), (74, .is (.agg (mgC y.m y.ve y.vm y.vg))), (75, .is (.bool true)), (76, .is (.bool false)), (77, .is (.bool false))] [0, 1, 2, 3, 5, 6, 7, 8, 9, 12, 13, 14, 15, 16, 17, 18, 19, 20, 21, 22, 23, 24, 25, 26, 27, 28, 29, 30, 31, 32, 33, 34, 35, 36, 37, 38, 39, 40, 41, 77, 88, 89, 90, 91, 92, 93, 94, 95, 96, 97, 98, 99] (fun W => Below w4.heap.size w4 W) (by kernel_rfl) (by kernel_rfl) (by kernel_rfl) (by kernel_rfl) (by kernel_rfl) ((Below.refl _ _).drew) ?_ ?_
              · refine ⟨?c0, ?c1, ?c2, ?c3, ?c4, ?c5, ?c6, ?c7, ?c8, ?c9, ?c10, trivial⟩
                case c0 => exact ask_copy (guard_none rfl) (.tmp 11) (.inl rfl) (by intro k hk; cases hk; rfl)
                case c1 => exact ask_bin (guard_none rfl) .neq _ _ (.tmp 67) (.const (.int .i64 0)) (.int .i64 0) (.int .i64 0) (.bool false) rfl rfl rfl (by intro k hk; cases hk; rfl) (fun W => by kernel_rfl)
                case c2 => exact ask_copy (guard_none rfl) (.tmp 68) (.inl rfl) (by intro k hk; cases hk; rfl)
                case c3 => exact ask_load (guard_some rfl rfl rfl) _ (.tmp 10) (.pointer (some ⟨G10, 0, none⟩)) (.agg (mgC y.m ve vm vg)) rfl rfl (by intro k hk; cases hk; rfl) (fun W hW => L10.out W hW)
                case c4 => exact ask_copy (guard_some rfl rfl rfl) (.tmp 6) (.inl rfl) (by intro k hk; cases hk; rfl)
                case c5 => exact ask_copy (guard_some rfl rfl rfl) (.tmp 9) (.inl rfl) (by intro k hk; cases hk; rfl)
                case c6 => exact ask_indexM (guard_some rfl rfl rfl) _ (.tmp 71) (.tmp 72) _ _ (.pointer (some ⟨g, k * 12, none⟩)) rfl rfl rfl (by intro k hk; cases hk; rfl) HIX.out
                case c7 => exact ask_load (guard_some rfl rfl rfl) _ (.tmp 73) (.pointer (some ⟨g, k * 12, none⟩)) (.agg (mgC y.m y.ve y.vm y.vg)) rfl rfl (by intro k hk; cases hk; rfl) (fun W hW => L73.out W hW)
                case c8 => exact ask_call hG (guard_some rfl rfl rfl) _ _ _ #[(.agg (mgC y.m ve vm vg)), (.agg (mgC y.m y.ve y.vm y.vg))] (.is (.bool true)) rfl (by kernel_rfl) rfl rfl (by intro k hk; cases hk; rfl) (fun W hW => (HSame.out W hW).mono fun e w' h => ⟨_, h.1, rfl, h.2⟩)
                case c9 => exact ask_exec (guard_some rfl rfl rfl) (.bool false) rfl rfl (by intro k hk; cases hk; rfl) (fun W hW => by kernel_rfl)
                case c10 => exact ask_pick (guard_none rfl) (.tmp 69) (.const (.bool true)) (.tmp 76) false rfl rfl (by intro k hk; cases hk; rfl)
              intro af w5 hW hd' hs' hf'
              have t0 : af.tmps.getD 0 undef = .slice sa n c := hf' 0 rfl
              have t1 : af.tmps.getD 1 undef = .slice pa pl pc := hf' 1 rfl
              have t2 : af.tmps.getD 2 undef = undef := hf' 2 rfl
              have t3 : af.tmps.getD 3 undef = undef := hf' 3 rfl
              have t5 : af.tmps.getD 5 undef = .pointer (some ⟨P, 0, none⟩) := hf' 5 rfl
              have t6 : af.tmps.getD 6 undef = .slice (some ⟨g, 0, none⟩) m7 c7 := hf' 6 rfl
              have t7 : af.tmps.getD 7 undef = .int .i64 (i : Int) := hf' 7 rfl
              have t8 : af.tmps.getD 8 undef = .int .i64 (j : Int) := hf' 8 rfl
              have t9 : af.tmps.getD 9 undef = .int .i64 (k : Int) := hf' 9 rfl
              have t12 : af.tmps.getD 12 undef = undef := hf' 12 rfl
              have t13 : af.tmps.getD 13 undef = undef := hf' 13 rfl
              have t14 : af.tmps.getD 14 undef = .bool true := hf' 14 rfl
              have t15 : af.tmps.getD 15 undef = .bool false := hf' 15 rfl
              have t16 : af.tmps.getD 16 undef = .slice sa n c := hf' 16 rfl
              have t17 : af.tmps.getD 17 undef = .int .i64 (N : Int) := hf' 17 rfl
              have t18 : af.tmps.getD 18 undef = .bool (decide (60 < (N : Int))) := hf' 18 rfl
              have t19 : af.tmps.getD 19 undef = undef := hf' 19 rfl
              have t20 : af.tmps.getD 20 undef = undef := hf' 20 rfl
              have t21 : af.tmps.getD 21 undef = .pointer (some ⟨P, 0, none⟩) := hf' 21 rfl
              have t22 : af.tmps.getD 22 undef = .int .i64 (i : Int) := hf' 22 rfl
              have t23 : af.tmps.getD 23 undef = .slice sa n c := hf' 23 rfl
              have t24 : af.tmps.getD 24 undef = .int .i64 (n : Int) := hf' 24 rfl
              have t25 : af.tmps.getD 25 undef = .bool false := hf' 25 rfl
              have t26 : af.tmps.getD 26 undef = u26 := hf' 26 rfl
              have t27 : af.tmps.getD 27 undef = u27 := hf' 27 rfl
              have t28 : af.tmps.getD 28 undef = u28 := hf' 28 rfl
              have t29 : af.tmps.getD 29 undef = u29 := hf' 29 rfl
              have t30 : af.tmps.getD 30 undef = u30 := hf' 30 rfl
              have t31 : af.tmps.getD 31 undef = u31 := hf' 31 rfl
              have t32 : af.tmps.getD 32 undef = u32 := hf' 32 rfl
              have t33 : af.tmps.getD 33 undef = u33 := hf' 33 rfl
              have t34 : af.tmps.getD 34 undef = u34 := hf' 34 rfl
              have t35 : af.tmps.getD 35 undef = u35 := hf' 35 rfl
              have t36 : af.tmps.getD 36 undef = u36 := hf' 36 rfl
              have t37 : af.tmps.getD 37 undef = u37 := hf' 37 rfl
              have t38 : af.tmps.getD 38 undef = u38 := hf' 38 rfl
              have t39 : af.tmps.getD 39 undef = u39 := hf' 39 rfl
              have t40 : af.tmps.getD 40 undef = u40 := hf' 40 rfl
              have t41 : af.tmps.getD 41 undef = u41 := hf' 41 rfl
              have t77 : af.tmps.getD 77 undef = .bool false := hf' 77 rfl
              have t88 : af.tmps.getD 88 undef = undef := hf' 88 rfl
              have t89 : af.tmps.getD 89 undef = undef := hf' 89 rfl
              have t90 : af.tmps.getD 90 undef = undef := hf' 90 rfl
              have t91 : af.tmps.getD 91 undef = undef := hf' 91 rfl
              have t92 : af.tmps.getD 92 undef = undef := hf' 92 rfl
              have t93 : af.tmps.getD 93 undef = undef := hf' 93 rfl
              have t94 : af.tmps.getD 94 undef = undef := hf' 94 rfl
              have t95 : af.tmps.getD 95 undef = undef := hf' 95 rfl
              have t96 : af.tmps.getD 96 undef = undef := hf' 96 rfl
              have t97 : af.tmps.getD 97 undef = undef := hf' 97 rfl
              have t98 : af.tmps.getD 98 undef = undef := hf' 98 rfl
              have t99 : af.tmps.getD 99 undef = undef := hf' 99 rfl
              obtain ⟨uq, hus, haf⟩ := act_open 100 af hs' hd'
              rw [← hus] at t0 t1 t2 t3 t5 t6 t7 t8 t9 t12 t13 t14 t15 t16 t17 t18 t19 t20 t21 t22 t23 t24 t25 t26 t27 t28 t29 t30 t31 t32 t33 t34 t35 t36 t37 t38 t39 t40 t41 t77 t88 t89 t90 t91 t92 t93 t94 t95 t96 t97 t98 t99
              have el : ((List.range 100).map uq).toArray = #[.slice sa n c, .slice pa pl pc, undef, undef, uq 4, .pointer (some ⟨P, 0, none⟩), .slice (some ⟨g, 0, none⟩) m7 c7, .int .i64 (i : Int), .int .i64 (j : Int), .int .i64 (k : Int), uq 10, uq 11, undef, undef, .bool true, .bool false, .slice sa n c, .int .i64 (N : Int), .bool (decide (60 < (N : Int))), undef, undef, .pointer (some ⟨P, 0, none⟩), .int .i64 (i : Int), .slice sa n c, .int .i64 (n : Int), .bool false, u26, u27, u28, u29, u30, u31, u32, u33, u34, u35, u36, u37, u38, u39, u40, u41, uq 42, uq 43, uq 44, uq 45, uq 46, uq 47, uq 48, uq 49, uq 50, uq 51, uq 52, uq 53, uq 54, uq 55, uq 56, uq 57, uq 58, uq 59, uq 60, uq 61, uq 62, uq 63, uq 64, uq 65, uq 66, uq 67, uq 68, uq 69, uq 70, uq 71, uq 72, uq 73, uq 74, uq 75, uq 76, .bool false, uq 78, uq 79, uq 80, uq 81, uq 82, uq 83, uq 84, uq 85, uq 86, uq 87, undef, undef, undef, undef, undef, undef, undef, undef, undef, undef, undef, undef] := by
                show #[uq 0, uq 1, uq 2, uq 3, uq 4, uq 5, uq 6, uq 7, uq 8, uq 9, uq 10, uq 11, uq 12, uq 13, uq 14, uq 15, uq 16, uq 17, uq 18, uq 19, uq 20, uq 21, uq 22, uq 23, uq 24, uq 25, uq 26, uq 27, uq 28, uq 29, uq 30, uq 31, uq 32, uq 33, uq 34, uq 35, uq 36, uq 37, uq 38, uq 39, uq 40, uq 41, uq 42, uq 43, uq 44, uq 45, uq 46, uq 47, uq 48, uq 49, uq 50, uq 51, uq 52, uq 53, uq 54, uq 55, uq 56, uq 57, uq 58, uq 59, uq 60, uq 61, uq 62, uq 63, uq 64, uq 65, uq 66, uq 67, uq 68, uq 69, uq 70, uq 71, uq 72, uq 73, uq 74, uq 75, uq 76, uq 77, uq 78, uq 79, uq 80, uq 81, uq 82, uq 83, uq 84, uq 85, uq 86, uq 87, uq 88, uq 89, uq 90, uq 91, uq 92, uq 93, uq 94, uq 95, uq 96, uq 97, uq 98, uq 99] = _
                rw [t0, t1, t2, t3, t5, t6, t7, t8, t9, t12, t13, t14, t15, t16, t17, t18, t19, t20, t21, t22, t23, t24, t25, t26, t27, t28, t29, t30, t31, t32, t33, t34, t35, t36, t37, t38, t39, t40, t41, t77, t88, t89, t90, t91, t92, t93, t94, t95, t96, t97, t98, t99]
              rw [el] at haf
              subst haf
              have HK5 := Lib.hid (HK4.out.below hW)
              clear hus el hf' hs' hd' hW hG t0 t1 t2 t3 t5 t6 t7 t8 t9 t12 t13 t14 t15 t16 t17 t18 t19 t20 t21 t22 t23 t24 t25 t26 t27 t28 t29 t30 t31 t32 t33 t34 t35 t36 t37 t38 t39 t40 t41 t77 t88 t89 t90 t91 t92 t93 t94 t95 t96 t97 t98 t99
              clear HF HK3 HB4 HW4 HK4 HGc HG10 L10 L73 HIX HF4 HY4 HSame hG10
              go_upto_region 21 with fail
              have HRow := Lib.hid HK5.out.row
              have HOne := Lib.hid (mms_one (HK5.out.has HM.out))
              have HAdd := Lib.hid (fun W => add_i64g (.tmp 84) (.const (.int .i64 1)) k (by omega) W)
              have HKl := Lib.hid hkl
              have HLc := Lib.hid (show m7 ≤ c7 by
                have h := HK5.out.row
                rw [← HM7.out] at h
                rcases h.2 with ⟨h1, -⟩ | ⟨g', cap, cur, h1, -, -, hn, -⟩
                · cases h1
                · cases h1
                  rw [HM7.out]
                  exact hn)
              have H60 := Lib.hid hj60
              rw [← HM7.out] at HRow
              have hG : ∀ W W' : World, Below w5.heap.size w5 W → Below W.heap.size W W' → Below w5.heap.size w5 W' := fun W W' hW hb => hW.trans (hb.mono hW.size)
              have hGg : ∀ (W W' : World) (row : Option Nat), Below w5.heap.size w5 W → W.grownBy W' row → (∀ k, row = some k → w5.heap.size ≤ k) → Below w5.heap.size w5 W' := fun W W' row hW hg hr => hW.grown hg hW.size hr
              refine region_latetails_by 10 [(78, newF w5.heap.size []), (79, .is (.slice (some ⟨g, 0, none⟩) m7 c7)), (80, .is (.int .i64 (k : Int))), (81, .is (.slice (some ⟨g, 0, none⟩) k c7)), (82, newF w5.heap.size ([] ++ yq.take k)), (83, .is (.slice (some ⟨g, 0, none⟩) m7 c7)), (84, .is (.int .i64 (k : Int))), (85, .is (.int .i64 ((k + 1 : Nat) : Int))), (86, .is (sliced (some ⟨g, 0, none⟩) (k + 1) m7 c7 12)), (87, newF w5.heap.size ([] ++ yq.take k ++ yq.drop (k + 1)))] [0, 1, 2, 3, 5, 7, 8, 12, 13, 14, 15, 16, 17, 18, 19, 20, 21, 22, 23, 24, 25, 26, 27, 28, 29, 30, 31, 32, 33, 34, 35, 36, 37, 38, 39, 40, 41, 87, 88, 89, 90, 91, 92, 93, 94, 95, 96, 97, 98, 99] (fun W => Below w5.heap.size w5 W) (by kernel_rfl) (by kernel_rfl) (by kernel_rfl) (by kernel_rfl) (by kernel_rfl) (by decide) (by kernel_rfl) ((Below.refl _ _).drew) ?_ ?_
              · refine ⟨?c0, ?c1, ?c2, ?c3, ?c4, ?c5, ?c6, ?c7, ?c8, ?c9, trivial⟩
                case c0 => exact Asked.late (ask_build_ml hG (guard_none rfl) w5.heap.size (fun W hW => hW.size) rfl (by intro k hk; cases hk; rfl))
                case c1 => exact Asked.late (ask_copy (guard_none rfl) (.tmp 6) (.inl rfl) (by intro k hk; cases hk; rfl))
                case c2 => exact Asked.late (ask_copy (guard_none rfl) (.tmp 9) (.inl rfl) (by intro k hk; cases hk; rfl))
                case c3 => exact Asked.late (ask_slice (guard_none rfl) _ (.tmp 79) none (some (.tmp 80)) none (.slice (some ⟨g, 0, none⟩) m7 c7) (.slice (some ⟨g, 0, none⟩) k c7) none (some (.int .i64 (k : Int))) none rfl rfl rfl rfl rfl (by intro k hk; cases hk; rfl) (fun W => slice_ml_to (some ⟨g, 0, none⟩) m7 c7 k (by have := HKl.out; have := HLc.out; omega) W))
                case c4 => exact ask_append_mms (guard_none rfl) (by kernel_rfl) (.tmp 78) (.tmp 81) w5.heap.size [] (yq.take k) (.slice (some ⟨g, 0, none⟩) k c7) (by kernel_rfl) rfl rfl rfl (fun W hW => MRow.first (ownsRow_keep HRow.out hW) HM7.out.symm k (Nat.le_of_lt HKl.out)) (fun u hu => HOne.out u (by rw [← mms_take] at hu; exact List.mem_of_mem_take hu)) (by have := H60.out; have := HM7.out; simp only [List.length_nil, List.length_take]; omega) (fun W hW => hW.size) hGg (by intro k hk; cases hk; rfl)
                case c5 => exact Asked.late (ask_copy (guard_none rfl) (.tmp 6) (.inl rfl) (by intro k hk; cases hk; rfl))
                case c6 => exact Asked.late (ask_copy (guard_none rfl) (.tmp 9) (.inl rfl) (by intro k hk; cases hk; rfl))
                case c7 => exact Asked.late (ask_bin (guard_none rfl) .add _ _ (.tmp 84) (.const (.int .i64 1)) (.int .i64 (k : Int)) (.int .i64 1) (.int .i64 ((k + 1 : Nat) : Int)) rfl rfl rfl (by intro k hk; cases hk; rfl) (fun W => HAdd.out W))
                case c8 => exact Asked.late (ask_slice (guard_none rfl) _ (.tmp 83) (some (.tmp 85)) none none (.slice (some ⟨g, 0, none⟩) m7 c7) (sliced (some ⟨g, 0, none⟩) (k + 1) m7 c7 12) (some (.int .i64 ((k + 1 : Nat) : Int))) none none rfl rfl rfl rfl rfl (by intro k hk; cases hk; rfl) (fun W => slice_ml_from (some ⟨g, 0, none⟩) m7 c7 (k + 1) HKl.out W))
                case c9 => exact ask_append_mms (guard_none rfl) (by kernel_rfl) (.tmp 82) (.tmp 86) w5.heap.size ([] ++ yq.take k) (yq.drop (k + 1)) (sliced (some ⟨g, 0, none⟩) (k + 1) m7 c7 12) (by kernel_rfl) rfl rfl rfl (fun W hW => MRow.from_ (ownsRow_keep HRow.out hW) HM7.out.symm (k + 1) HKl.out) (fun u hu => HOne.out u (by rw [← mms_drop] at hu; exact List.mem_of_mem_drop hu)) (by have := H60.out; have := HM7.out; simp only [List.nil_append, List.length_take, List.length_drop]; omega) (fun W hW => hW.size) hGg (by intro k hk; cases hk; rfl)
              intro af w6 hW hd' hs' hf'
              have t0 : af.tmps.getD 0 undef = .slice sa n c := hf' 0 rfl
              have t1 : af.tmps.getD 1 undef = .slice pa pl pc := hf' 1 rfl
              have t2 : af.tmps.getD 2 undef = undef := hf' 2 rfl
              have t3 : af.tmps.getD 3 undef = undef := hf' 3 rfl
              have t5 : af.tmps.getD 5 undef = .pointer (some ⟨P, 0, none⟩) := hf' 5 rfl
              have t7 : af.tmps.getD 7 undef = .int .i64 (i : Int) := hf' 7 rfl
              have t8 : af.tmps.getD 8 undef = .int .i64 (j : Int) := hf' 8 rfl
              have t12 : af.tmps.getD 12 undef = undef := hf' 12 rfl
              have t13 : af.tmps.getD 13 undef = undef := hf' 13 rfl
              have t14 : af.tmps.getD 14 undef = .bool true := hf' 14 rfl
              have t15 : af.tmps.getD 15 undef = .bool false := hf' 15 rfl
              have t16 : af.tmps.getD 16 undef = .slice sa n c := hf' 16 rfl
              have t17 : af.tmps.getD 17 undef = .int .i64 (N : Int) := hf' 17 rfl
              have t18 : af.tmps.getD 18 undef = .bool (decide (60 < (N : Int))) := hf' 18 rfl
              have t19 : af.tmps.getD 19 undef = undef := hf' 19 rfl
              have t20 : af.tmps.getD 20 undef = undef := hf' 20 rfl
              have t21 : af.tmps.getD 21 undef = .pointer (some ⟨P, 0, none⟩) := hf' 21 rfl
              have t22 : af.tmps.getD 22 undef = .int .i64 (i : Int) := hf' 22 rfl
              have t23 : af.tmps.getD 23 undef = .slice sa n c := hf' 23 rfl
              have t24 : af.tmps.getD 24 undef = .int .i64 (n : Int) := hf' 24 rfl
              have t25 : af.tmps.getD 25 undef = .bool false := hf' 25 rfl
              have t26 : af.tmps.getD 26 undef = u26 := hf' 26 rfl
              have t27 : af.tmps.getD 27 undef = u27 := hf' 27 rfl
              have t28 : af.tmps.getD 28 undef = u28 := hf' 28 rfl
              have t29 : af.tmps.getD 29 undef = u29 := hf' 29 rfl
              have t30 : af.tmps.getD 30 undef = u30 := hf' 30 rfl
              have t31 : af.tmps.getD 31 undef = u31 := hf' 31 rfl
              have t32 : af.tmps.getD 32 undef = u32 := hf' 32 rfl
              have t33 : af.tmps.getD 33 undef = u33 := hf' 33 rfl
              have t34 : af.tmps.getD 34 undef = u34 := hf' 34 rfl
              have t35 : af.tmps.getD 35 undef = u35 := hf' 35 rfl
              have t36 : af.tmps.getD 36 undef = u36 := hf' 36 rfl
              have t37 : af.tmps.getD 37 undef = u37 := hf' 37 rfl
              have t38 : af.tmps.getD 38 undef = u38 := hf' 38 rfl
              have t39 : af.tmps.getD 39 undef = u39 := hf' 39 rfl
              have t40 : af.tmps.getD 40 undef = u40 := hf' 40 rfl
              have t41 : af.tmps.getD 41 undef = u41 := hf' 41 rfl
              have t88 : af.tmps.getD 88 undef = undef := hf' 88 rfl
              have t89 : af.tmps.getD 89 undef = undef := hf' 89 rfl
              have t90 : af.tmps.getD 90 undef = undef := hf' 90 rfl
              have t91 : af.tmps.getD 91 undef = undef := hf' 91 rfl
              have t92 : af.tmps.getD 92 undef = undef := hf' 92 rfl
              have t93 : af.tmps.getD 93 undef = undef := hf' 93 rfl
              have t94 : af.tmps.getD 94 undef = undef := hf' 94 rfl
              have t95 : af.tmps.getD 95 undef = undef := hf' 95 rfl
              have t96 : af.tmps.getD 96 undef = undef := hf' 96 rfl
              have t97 : af.tmps.getD 97 undef = undef := hf' 97 rfl
              have t98 : af.tmps.getD 98 undef = undef := hf' 98 rfl
              have t99 : af.tmps.getD 99 undef = undef := hf' 99 rfl
              have hrow : MRow w6 w5.heap.size (af.tmps.getD 87 undef) ([] ++ yq.take k ++ yq.drop (k + 1)) := hf' 87 rfl
              rw [List.nil_append] at hrow
              obtain ⟨ur, hus, haf⟩ := act_open 100 af hs' hd'
              rw [← hus] at hrow t0 t1 t2 t3 t5 t7 t8 t12 t13 t14 t15 t16 t17 t18 t19 t20 t21 t22 t23 t24 t25 t26 t27 t28 t29 t30 t31 t32 t33 t34 t35 t36 t37 t38 t39 t40 t41 t88 t89 t90 t91 t92 t93 t94 t95 t96 t97 t98 t99
              have el : ((List.range 100).map ur).toArray = #[.slice sa n c, .slice pa pl pc, undef, undef, ur 4, .pointer (some ⟨P, 0, none⟩), ur 6, .int .i64 (i : Int), .int .i64 (j : Int), ur 9, ur 10, ur 11, undef, undef, .bool true, .bool false, .slice sa n c, .int .i64 (N : Int), .bool (decide (60 < (N : Int))), undef, undef, .pointer (some ⟨P, 0, none⟩), .int .i64 (i : Int), .slice sa n c, .int .i64 (n : Int), .bool false, u26, u27, u28, u29, u30, u31, u32, u33, u34, u35, u36, u37, u38, u39, u40, u41, ur 42, ur 43, ur 44, ur 45, ur 46, ur 47, ur 48, ur 49, ur 50, ur 51, ur 52, ur 53, ur 54, ur 55, ur 56, ur 57, ur 58, ur 59, ur 60, ur 61, ur 62, ur 63, ur 64, ur 65, ur 66, ur 67, ur 68, ur 69, ur 70, ur 71, ur 72, ur 73, ur 74, ur 75, ur 76, ur 77, ur 78, ur 79, ur 80, ur 81, ur 82, ur 83, ur 84, ur 85, ur 86, ur 87, undef, undef, undef, undef, undef, undef, undef, undef, undef, undef, undef, undef] := by
                show #[ur 0, ur 1, ur 2, ur 3, ur 4, ur 5, ur 6, ur 7, ur 8, ur 9, ur 10, ur 11, ur 12, ur 13, ur 14, ur 15, ur 16, ur 17, ur 18, ur 19, ur 20, ur 21, ur 22, ur 23, ur 24, ur 25, ur 26, ur 27, ur 28, ur 29, ur 30, ur 31, ur 32, ur 33, ur 34, ur 35, ur 36, ur 37, ur 38, ur 39, ur 40, ur 41, ur 42, ur 43, ur 44, ur 45, ur 46, ur 47, ur 48, ur 49, ur 50, ur 51, ur 52, ur 53, ur 54, ur 55, ur 56, ur 57, ur 58, ur 59, ur 60, ur 61, ur 62, ur 63, ur 64, ur 65, ur 66, ur 67, ur 68, ur 69, ur 70, ur 71, ur 72, ur 73, ur 74, ur 75, ur 76, ur 77, ur 78, ur 79, ur 80, ur 81, ur 82, ur 83, ur 84, ur 85, ur 86, ur 87, ur 88, ur 89, ur 90, ur 91, ur 92, ur 93, ur 94, ur 95, ur 96, ur 97, ur 98, ur 99] = _
                rw [t0, t1, t2, t3, t5, t7, t8, t12, t13, t14, t15, t16, t17, t18, t19, t20, t21, t22, t23, t24, t25, t26, t27, t28, t29, t30, t31, t32, t33, t34, t35, t36, t37, t38, t39, t40, t41, t88, t89, t90, t91, t92, t93, t94, t95, t96, t97, t98, t99]
              rw [el] at haf
              subst haf
              obtain ⟨v7, hv7⟩ : ∃ q, q = ur 87 := ⟨_, rfl⟩
              rw [← hv7] at hrow ⊢
              obtain ⟨na, nc, hvs⟩ := hrow.form
              obtain ⟨nl, hnl⟩ : ∃ q, q = (yq.take k ++ yq.drop (k + 1)).length := ⟨_, rfl⟩
              have hnl7 : nl + 1 = m7 := by
                have := HM7.out
                have := HKl.out
                rw [hnl, List.length_append, List.length_take, List.length_drop]
                omega
              rw [← hnl] at hvs
              subst hvs
              have HK6 := Lib.hid (HK5.out.fresh hW hrow fun u hu => HK5.out.sub u ((List.mem_append.1 hu).elim List.mem_of_mem_take List.mem_of_mem_drop))
              have HNl := Lib.hid hnl
              clear hrow hv7 hus el hf' hs' hd' hW hG hGg t0 t1 t2 t3 t5 t7 t8 t12 t13 t14 t15 t16 t17 t18 t19 t20 t21 t22 t23 t24 t25 t26 t27 t28 t29 t30 t31 t32 t33 t34 t35 t36 t37 t38 t39 t40 t41 t88 t89 t90 t91 t92 t93 t94 t95 t96 t97 t98 t99 hnl
              simp only [List.drop_succ_cons, List.drop_zero]
              go_wp2_with fail
              go_roundw
              case rel => exact ⟨j + 1, U3, yq.take k ++ yq.drop (k + 1), by go_num, HK6.out, by rw [← HNl.out]; omega⟩
              case measure => simp [slLen]; omega
          · have g0 : ¬ (0 : Int) < (m7 : Int) := by omega
            obtain rfl : yq = [] := List.eq_nil_of_length_eq_zero (by have := HM7.out; omega)
            have hT := hp.take 0 HR2.out.is_ (by omega) (by omega)
            rw [show ((⟨([] : List MM).map MM.m, []⟩ : Nt).at_ 0) = (Mg.zero, 9) from rfl, show ((⟨([] : List MM).map MM.m, []⟩ : Nt).take 0) = ⟨[], []⟩ from rfl] at hT
            have HT := Lib.hid hT
            clear hT
            go_wp2_with fail
            refine HT.out.mono ?_
            intro e w3 hh
            obtain ⟨⟨ve, vm, vg, us, rfl, hf⟩, U3, hk3⟩ := HR2.out.net hh rfl
            have HF := Lib.hid hf
            have HK3 := Lib.hid hk3
            clear hh HT hf hk3
            go_wp2_with (refine wpList_store_all rfl 36 (.tmp 12) (.tmp 91) rfl w3.heap.size (mgC Mg.zero ve vm vg) rfl rfl 36 zeroM (Blk.new w3 _ _) (mgM_info _ _ _ _) rfl (mgC_one HF.out.has) ?_; intro w4 hb ho; (have HW4 := Lib.hid (show Below w3.heap.size w3 w4 from ((Below.refl _ _).alloc (Nat.le_refl _) _).trans (ho.below (fun k hk e => by have e : k = w3.heap.size := e; omega) (by simp)))); clear hb ho)
            have HK4 := HK3.out.below HW4.out
            refine (hp.len HK4.is_).mono ?_
            rintro e w5 ⟨rfl, hb⟩
            have HB5 := Lib.hid (HK4.bel.trans (hb.mono HK4.bel.size))
            clear hb HK4
            go_wp2
            go_ret
            exact ⟨rfl, HB5.out⟩
end Go.Proofs.Ytgbhfolbkgibfaa

