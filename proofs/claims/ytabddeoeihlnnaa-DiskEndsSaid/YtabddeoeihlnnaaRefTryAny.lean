/- The reference's try: the walk. -/
import Derived.Test.YtabddeoeihlnnaaRefTry
namespace Go.Proofs.Ytabddeoeihlnnaa
open Go.RowKit Go.Maps DiskMath Reg

theorem TryEnd.ahead {w W w' : World} {r c : Nat} {s : St} {fv sv ov v : Value} {F1 F2 : Gf} {G : Go8} (h : TryEnd W r c s fv sv ov F1 F2 G v w') (ho : OnlyS (rk r fv sv ov F1 F2 G) w W) : TryEnd w r c s fv sv ov F1 F2 G v w' := by
  obtain ⟨⟨fv', ov', F1', G', h1, h2⟩, h3⟩ := h
  refine ⟨⟨fv', ov', F1', G', h1, fun k hk => ?_⟩, ho.then h3 fun _ _ h => h⟩
  rcases h2 k hk with h | h | h
  · exact .inl h
  · exact .inr (.inl h)
  · exact .inr (.inr (Nat.le_trans ho.size h))

set_option maxHeartbeats 1000000 in
set_option maxRecDepth 20000 in
theorem try_any {w : World} {r c : Nat} {s : St} {fv sv ov v : Value} {F1 F2 : Gf} {G : Go8} {op : AOp} (hd : Rk w r c s fv sv ov F1 F2 G) (hc : c + 1 ≤ 2000) (ho : FitO op) (hv : Row w 0 v op.b) :
    Calls Try.prog 52 #[dp r, .agg (rC op v)] w fun e w' => e = .returned (.int .i64 (s.said : Int)) ∧ TryEnd w r (c + 1) (s.run op) fv sv ov F1 F2 G v w' := by
  have hb1 : Below w.heap.size w (w.alloc (.cells (rC op v) 83)) := (Below.refl _ _).alloc (Nat.le_refl _) _
  have hd1 : Rk (w.alloc (.cells (rC op v) 83)) r c s fv sv ov F1 F2 G := hd.same fun k hk => hb1.block k (hd.lt hk)
  have HBurn := Lib.hid (burnr_any hd1)
  have hgd : w.heap.size ≠ r := fun e => by have := hd.blk.lt; omega
  have HBox : Hid (Blk (w.alloc (.cells (rC op v) 83)) w.heap.size 83 (rC op v)) := Lib.hid (Blk.new w _ _)
  have HB1 := Lib.hid hb1
  have HV := Lib.hid (hv.below hb1)
  have HO := Lib.hid ho
  have HOne := Lib.hid (one_opr op v (row_one hv))
  have HD := Lib.hid hd
  obtain ⟨cs, hcs⟩ : ∃ cs, cs = rC op v := ⟨_, rfl⟩
  have hcs5 : cs.size = 5 := by rw [hcs]; rfl
  rw [← hcs] at HBurn HBox HB1 HV HOne ⊢
  have HCs := Lib.hid hcs
  clear hb1 hd1 hd ho hv hcs
  by_cases h0 : s.fuse = 0
  · have hr : s.run op = s.burn := by unfold St.run; rw [if_pos h0]
    have hs : s.said = 6 := by unfold St.said; rw [if_pos h0]
    rw [hs] at HBurn
    rw [hr, hs]
    clear hr hs h0
    go_enter Try.func52, Try.ntmps52
    go_wp2_with fail
    refine HBurn.out.mono ?_
    rintro e w2 ⟨rfl, hd2, ho2⟩
    have HEnd : Hid (TryEnd w r (c + 1) s.burn fv sv ov F1 F2 G v w2) := Lib.hid ⟨⟨fv, ov, F1, G, { hd2 with ok := { hd2.ok with few := Nat.le_succ_of_le hd2.ok.few }, small := hc }, fun k hk => .inl hk⟩, (OnlyS.of_below (S := rk r fv sv ov F1 F2 G) HB1.out fun k hk _ => hk).then ho2 fun k _ e => .inl e⟩
    clear hd2 ho2
    go_wp2
    go_ret
    exact ⟨rfl, HEnd.out⟩
  · have hs : s.said = 0 := by unfold St.said; rw [if_neg h0]
    rw [hs] at HBurn ⊢
    have H0 := Lib.hid h0
    clear h0 hs
    go_enter Try.func52, Try.ntmps52
    go_wp2_with fail
    refine HBurn.out.mono ?_
    rintro e w2 ⟨rfl, hd2, ho2⟩
    have HBox2 : Hid (Blk w2 w.heap.size 83 cs) := Lib.hid (only_d_blk HBox.out ho2 hgd)
    have HD2 := Lib.hid hd2
    have HO2 := Lib.hid ho2
    have HV2 : Hid (Row w2 0 v op.b) := Lib.hid (HV.out.same fun k hk => ho2.block k (HV.out.lt hk).2 fun e => by
      obtain ⟨cur, hcu⟩ := HV.out.block hk
      have hb := (HD.out.blk.keep HB1.out)
      unfold Blk at hb
      rw [← e, hcu] at hb
      simp at hb)
    have HRl := Lib.hid hd2.blk.lt
    clear hd2 ho2 HBurn
    go_wp2
    have hG : ∀ W W' : World, Below w2.heap.size w2 W → Below W.heap.size W W' → Below w2.heap.size w2 W' := fun W W' h h' => h.trans (h'.mono h.size)
    refine region_tail_by 9 _ [(10, .is (dp r)), (11, .is (dp r)), (12, .is (dp r)), (13, .is (.pointer (some ⟨r, 0, none⟩))), (14, .is fv), (15, .is (.agg cs)), (16, .sat (fun u W => DoEnd w2 fv F1 op u W) (fun _ _ _ h hb => h.below hb)), (17, .is (dp r)), (18, .is (.pointer (some ⟨r, 0, none⟩)))] [0, 3, 5, 16, 18]
      (fun W => Below w2.heap.size w2 W) (by kernel_rfl) (by kernel_rfl) (by kernel_rfl) (by kernel_rfl) (by kernel_rfl) rfl rfl rfl rfl (by kernel_rfl) (Below.refl _ _).drew ?_ ?_
    · refine ⟨?c0, ?c1, ?c2, ?c3, ?c4, ?c5, ?c6, ?c7, ?c8, trivial⟩
      case c0 => exact ask_copy (guard_none rfl) (.tmp 0) (.inl rfl) (by intro k hk; cases hk; rfl)
      case c1 => exact ask_copy (guard_none rfl) (.tmp 0) (.inl rfl) (by intro k hk; cases hk; rfl)
      case c2 => exact ask_exec (guard_none rfl) (dp r) rfl rfl (by intro k hk; cases hk; rfl) (fun W hW => by kernel_rfl)
      case c3 => exact ask_field (guard_none rfl) _ (.tmp 12) 0 (dp r) (.pointer (some ⟨r, 0, none⟩)) rfl rfl (by intro k hk; cases hk; rfl) (fun W => by kernel_rfl)
      case c4 => exact ask_load (guard_none rfl) _ (.tmp 13) (.pointer (some ⟨r, 0, none⟩)) fv rfl rfl (by intro k hk; cases hk; rfl) (fun W hW => load_one (fun W => by kernel_rfl) W _ _ (by rw [hW.cell (p := ⟨r, 0, none⟩) HRl.out, Blk.cell HD2.out.blk]; rfl))
      case c5 => exact ask_load (guard_none rfl) _ (.tmp 3) (.pointer (some ⟨w.heap.size, 0, none⟩)) (.agg cs) rfl rfl (by intro k hk; cases hk; rfl) (fun W hW => (HBox2.out.keep hW).loads _ _ Try.underlying83 rfl (by rw [hcs5]; kernel_rfl))
      case c6 => exact ask_call hG (guard_none rfl) _ _ _ #[fv, .agg cs] (.sat (fun u W => DoEnd w2 fv F1 op u W) (fun _ _ _ h hb => h.below hb)) rfl (by kernel_rfl) rfl rfl (by intro k hk; cases hk; rfl) (fun W hW => by
        have h := dor_any (HD2.out.f1.below hW) (Nat.le_trans HD2.out.len (by decide)) ((rise_map (fun y : Value × List UInt8 => y.2)).1 (by show Rise (pr F1); rw [HD2.out.p1]; exact HD2.out.ok.riseN)) (by rw [HD2.out.p1]; exact HD2.out.ok.fitN) HO.out (HV2.out.below hW)
        rw [← HCs.out] at h
        exact h.mono fun e w' h => by
          obtain ⟨u, h1, h2⟩ := h
          exact ⟨u, h1, h2.ahead hW, h2.bel⟩)
      case c7 => exact ask_exec (guard_none rfl) (dp r) rfl rfl (by intro k hk; cases hk; rfl) (fun W hW => by kernel_rfl)
      case c8 => exact ask_field (guard_none rfl) _ (.tmp 17) 0 (dp r) (.pointer (some ⟨r, 0, none⟩)) rfl rfl (by intro k hk; cases hk; rfl) (fun W => by kernel_rfl)
    · intro a' W hW hd' hs' hf'
      have t16 : DoEnd w2 fv F1 op (a'.tmps.getD 16 undef) W := hf' 16 rfl
      have t18 : a'.tmps.getD 18 undef = .pointer (some ⟨r, 0, none⟩) := hf' 18 rfl
      have t0 : a'.tmps.getD 0 undef = dp r := hf' 0 rfl
      have t3 : a'.tmps.getD 3 undef = .pointer (some ⟨w.heap.size, 0, none⟩) := hf' 3 rfl
      have t5 : a'.tmps.getD 5 undef = .int .i64 0 := hf' 5 rfl
      obtain ⟨us, hus, ha'⟩ := act_open 30 a' hs' hd'
      rw [← hus] at t16 t18 t0 t3 t5
      have el : ((List.range 30).map us).toArray = #[us 0, us 1, us 2, us 3, us 4, us 5, us 6, us 7, us 8, us 9, us 10, us 11, us 12, us 13, us 14, us 15, us 16, us 17, us 18, us 19, us 20, us 21, us 22, us 23, us 24, us 25, us 26, us 27, us 28, us 29] := rfl
      rw [el] at ha'
      subst ha'
      rw [t18, t0, t3, t5]
      obtain ⟨ua, un, uc, hu⟩ : ∃ ua un uc, us 16 = .slice ua un uc := by
        obtain ⟨⟨F1', h1, _⟩, _⟩ := t16
        obtain ⟨a, c, h⟩ := h1.slice
        exact ⟨a, _, c, h⟩
      rw [hu] at t16 ⊢
      have HT16 := Lib.hid t16
      have f0 : W.frozen? ⟨r, 0, none⟩ = false := Blk.frozen (HD2.out.blk.keep hW) 0
      have c00 : W.cell? ⟨r, 0, none⟩ = some fv := by rw [Blk.cell (HD2.out.blk.keep hW)]; rfl
      have hrW : r < W.heap.size := Nat.lt_of_lt_of_le HRl.out hW.size
      have hblk3 : Hid (Blk (W.setCell ⟨r, 0, none⟩ (.slice ua un uc)) r 65 ((rsC s.burn fv sv ov).setIfInBounds 0 (.slice ua un uc))) := Lib.hid (Blk.set (HD2.out.blk.keep hW) 0 _)
      have hbx3 : Hid (Blk (W.setCell ⟨r, 0, none⟩ (.slice ua un uc)) w.heap.size 83 cs) := Lib.hid ((HBox2.out.keep hW).other ⟨r, 0, none⟩ _ hgd)
      have hovr : ov.ownBlock ≠ some r := fun e => HD2.out.ne (.inr (.inr (.inl e))) rfl
      have hovg : ov.ownBlock ≠ some w.heap.size := fun e => by
        have := (World.ownsRow.lt HD.out.ops _ e).2
        omega
      have hops3 : Hid ((W.setCell ⟨r, 0, none⟩ (.slice ua un uc)).ownsRow 0 83 5 ov G.length (cellsR G)) := Lib.hid (ownRow_same HD2.out.ops fun k hk => by
        rw [heap_setCell_other W ⟨r, 0, none⟩ k _ (fun e => hovr (by rw [hk]; exact congrArg some e)), hW.block k (World.ownsRow.lt HD2.out.ops k hk).2])
      have HOvr := Lib.hid hovr
      have HOvg := Lib.hid hovg
      have HW := Lib.hid hW
      clear t16 hu hus hf' hs' hd' hW el hG t18 t0 t3 t5 hovr hovg
      obtain ⟨W3, hW3⟩ : ∃ W3, W3 = W.setCell ⟨r, 0, none⟩ (.slice ua un uc) := ⟨_, rfl⟩
      rw [← hW3] at hblk3 hbx3 hops3
      have HW3 := Lib.hid hW3
      clear hW3
      go_wp2
      rw [← HW3.out]
      have hovr := HOvr.out
      have hovg := HOvg.out
      have hr3 : r < W3.heap.size := hblk3.out.lt
      have hG : ∀ W W' : World, (OnlyS (fun k => ov.ownBlock = some k) W3 W ∧ W.ownsRow 0 83 5 ov G.length (cellsR G)) → Below W.heap.size W W' → (OnlyS (fun k => ov.ownBlock = some k) W3 W' ∧ W'.ownsRow 0 83 5 ov G.length (cellsR G)) := fun W W' hW hb =>
        ⟨hW.1.then (OnlyS.of_below (S := fun _ => False) hb fun k hk _ => hk) (fun _ _ h => h.elim), ownRow_same hW.2 fun k hk => hb.block k (World.ownsRow.lt hW.2 k hk).2⟩
      have hone : ∀ u ∈ cs.toList, u.oneCell' = true := HOne.out
      have hGl : G.length ≤ 2000 := by
        have h := HD.out.ok.few
        have e : G.length = s.ops.length := by rw [← HD.out.pw]; simp [names8]
        have := HD.out.small
        omega
      refine region_tail_by 10 _ [(19, .is (dp r)), (20, .is (dp r)), (21, .is (dp r)), (22, .is (.pointer (some ⟨r, 2, none⟩))), (23, .is ov), (24, .is (.agg cs)), (25, .sat (fun u W => ∃ g, u = .slice (some ⟨g, 0, none⟩) 1 1 ∧ Blk W g 83 cs) (fun u W W' ⟨g, h1, h2⟩ hb => ⟨g, h1, h2.keep hb⟩)), (26, .sat (fun u W => W.ownsRow 0 83 5 u (G.length + 1) (cellsR G ++ cs.toList) ∧ Near W3 ov u) (fun u W W' ⟨h1, h2⟩ hb => ⟨ownRow_same h1 fun k hk => hb.block k (World.ownsRow.lt h1 k hk).2, h2⟩)), (27, .is (dp r)), (28, .is (.pointer (some ⟨r, 2, none⟩)))] [0, 5, 26, 28]
        (fun W => OnlyS (fun k => ov.ownBlock = some k) W3 W ∧ W.ownsRow 0 83 5 ov G.length (cellsR G)) (by kernel_rfl) (by kernel_rfl) (by kernel_rfl) (by kernel_rfl) (by kernel_rfl) rfl rfl rfl rfl (by kernel_rfl) (hG _ _ ⟨OnlyS.refl _ _, hops3.out⟩ (Below.refl _ _).drew) ?_ ?_
      · refine ⟨?d0, ?d1, ?d2, ?d3, ?d4, ?d5, ?d6, ?d7, ?d8, ?d9, trivial⟩
        case d0 => exact ask_copy (guard_none rfl) (.tmp 0) (.inl rfl) (by intro k hk; cases hk; rfl)
        case d1 => exact ask_copy (guard_none rfl) (.tmp 0) (.inl rfl) (by intro k hk; cases hk; rfl)
        case d2 => exact ask_exec (guard_none rfl) (dp r) rfl rfl (by intro k hk; cases hk; rfl) (fun W hW => by kernel_rfl)
        case d3 => exact ask_field (guard_none rfl) _ (.tmp 21) 2 (dp r) (.pointer (some ⟨r, 2, none⟩)) rfl rfl (by intro k hk; cases hk; rfl) (fun W => by kernel_rfl)
        case d4 => exact ask_load (guard_none rfl) _ (.tmp 22) (.pointer (some ⟨r, 2, none⟩)) ov rfl rfl (by intro k hk; cases hk; rfl) (fun W hW => load_one (fun W => by kernel_rfl) W _ _ (by rw [World.cell?_of_block (w := W3) (hW.1.block r hr3 hovr), Blk.cell hblk3.out]; rfl))
        case d5 => exact ask_load (guard_none rfl) _ (.tmp 3) (.pointer (some ⟨w.heap.size, 0, none⟩)) (.agg cs) rfl rfl (by intro k hk; cases hk; rfl) (fun W hW => (hbx3.out.only hW.1 hovg).loads _ _ Try.underlying83 rfl (by rw [hcs5]; kernel_rfl))
        case d6 => exact ask_grow hG (guard_none rfl) (fun x W hW hk => by
          have e24 : x 24 = .agg cs := hk 24 rfl
          refine gives_value (v := .slice (some ⟨W.heap.size, 0, none⟩) 1 1) (w' := W.alloc (.cells cs 83)) ?_ ⟨(Below.refl _ _).alloc (Nat.le_refl _) _, fun k hk => by cases hk; exact ⟨_, rfl, Blk.new W _ _⟩⟩
          have hr := build_opr W (.int .i64 ((op.k : Int) + 1)) (nm op.n) (nm op.q) (.int .i64 (op.a : Int)) v
          have hr2 : (Instr.buildSlice 63 1 #[(0, .agg cs)]).run Try.prog W = .ok (.slice (some ⟨W.heap.size, 0, none⟩) 1 1) (W.alloc (.cells cs 83)) := by rw [HCs.out]; exact hr
          simp [execOp, evalBy, e24, hr2, Result.andThen])
        case d7 => exact ask_write (guard_none rfl) (by kernel_rfl) (fun x W hW hk => by
          have e23 : x 23 = ov := hk 23 rfl
          obtain ⟨g, e25, hg⟩ : ∃ g, x 25 = .slice (some ⟨g, 0, none⟩) 1 1 ∧ Blk W g 83 cs := hk 25 rfl
          obtain ⟨v', w', hr, q1, q2, q3, q4⟩ := add_opr hW.2 (by omega) hg hcs5 hone
          refine gives_value (v := v') (w' := w') ?_ ⟨⟨hW.1.then q3 fun _ _ h => h, q2⟩, fun k hk => by
            cases hk
            exact ⟨q1, fun j hj => by
              rcases q4 j hj with h | h
              · exact .inl h
              · exact .inr (Nat.le_trans hW.1.size h)⟩⟩
          simp [execOp, evalBy, resolve, invoke, builtin, e23, e25, hr, Result.andThen])
        case d8 => exact ask_exec (guard_none rfl) (dp r) rfl rfl (by intro k hk; cases hk; rfl) (fun W hW => by kernel_rfl)
        case d9 => exact ask_field (guard_none rfl) _ (.tmp 27) 2 (dp r) (.pointer (some ⟨r, 2, none⟩)) rfl rfl (by intro k hk; cases hk; rfl) (fun W => by kernel_rfl)
      · intro a' W7 hW7 hd7 hs7 hf7
        obtain ⟨t26, hnear⟩ : W7.ownsRow 0 83 5 (a'.tmps.getD 26 undef) (G.length + 1) (cellsR G ++ cs.toList) ∧ Near W3 ov (a'.tmps.getD 26 undef) := hf7 26 rfl
        have t28 : a'.tmps.getD 28 undef = .pointer (some ⟨r, 2, none⟩) := hf7 28 rfl
        have t5 : a'.tmps.getD 5 undef = .int .i64 0 := hf7 5 rfl
        obtain ⟨vs, hvs, ha'⟩ := act_open 30 a' hs7 hd7
        rw [← hvs] at t26 hnear t28 t5
        have el : ((List.range 30).map vs).toArray = #[vs 0, vs 1, vs 2, vs 3, vs 4, vs 5, vs 6, vs 7, vs 8, vs 9, vs 10, vs 11, vs 12, vs 13, vs 14, vs 15, vs 16, vs 17, vs 18, vs 19, vs 20, vs 21, vs 22, vs 23, vs 24, vs 25, vs 26, vs 27, vs 28, vs 29] := rfl
        rw [el] at ha'
        subst ha'
        rw [t28, t5]
        obtain ⟨va, vc, hv'⟩ : ∃ va vc, vs 26 = .slice va (G.length + 1) vc := by
          rcases t26.2 with ⟨_, h0⟩ | ⟨g, cap, cur, h, _⟩
          · omega
          · exact ⟨_, _, h⟩
        have hend : TryEnd w2 r (c + 1) (s.run op) fv sv ov F1 F2 G v (W7.setCell ⟨r, 2, none⟩ (vs 26)) :=
          try_end HD2.out H0.out hc HO.out HV2.out HT16.out (by rw [← HW3.out]; exact hW7.1) (by rw [← HCs.out]; exact t26) (by rw [← HW3.out]; exact hnear)
        have HEnd := Lib.hid (hend.ahead ((OnlyS.of_below (S := rk r fv sv ov F1 F2 G) HB1.out fun k hk _ => hk).then HO2.out fun k _ e => .inl e))
        clear hend
        rw [hv'] at HEnd ⊢
        have c2 : W7.cell? ⟨r, 2, none⟩ = some ov := by rw [World.cell?_of_block (w := W3) (hW7.1.block r hr3 hovr), Blk.cell hblk3.out]; rfl
        have f2 : W7.frozen? ⟨r, 2, none⟩ = false := Blk.frozen (hblk3.out.only hW7.1 hovr) 2
        clear hvs t26 t28 t5 hnear el hf7 hs7 hd7 hW7 hv' hone hcs5 hr3 hrW hG f0 c00
        go_wp2
        go_ret
        exact ⟨rfl, HEnd.out⟩
end Go.Proofs.Ytabddeoeihlnnaa
