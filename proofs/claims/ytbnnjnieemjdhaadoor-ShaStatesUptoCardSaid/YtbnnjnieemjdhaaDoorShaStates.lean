/- ShaStates: the walk. -/
import Derived.Test.YtbnnjnieemjdhaaDoorShaStatesKit
namespace Go.Proofs.YtbnnjnieemjdhaaDoor
open Go.RowKit ShaMath Reg

set_option maxHeartbeats 1000000 in
set_option maxRecDepth 100000 in
theorem states_walk (a : Option Addr) (n cap : Nat) (w : World) (ho : OpsAt w a n) (ht : Tabs w) (hk : Consts w) :
    Calls Tryd.prog 4 #[.slice a n cap] w fun e w' => e = .returned (.bool true) ∧ Below w.heap.size w w' := by
  have HO := Lib.hid ho
  have HT := Lib.hid ht
  have HK := Lib.hid hk
  clear ho ht hk
  obtain ⟨zc, hzc⟩ : ∃ zc, zc = zeroState := ⟨_, rfl⟩
  have hzs : ∀ W, (zeroValue 34).run Tryd.prog W = .ok (.agg zc) W := fun W => by rw [hzc]; kernel_rfl
  have HI : Hid (zc.size = 73 ∧ (∀ u ∈ zc.toList, u.oneCell' = true) ∧ IsState (.agg zc) []) := Lib.hid ⟨by rw [hzc]; kernel_rfl, fun u hu => by rw [hzc] at hu; exact stL_one _ _ _ u (by simpa [zeroState, stC] using hu), List.replicate 8 0#32, List.replicate 64 0, by rw [hzc]; rfl, goodS_nil⟩
  clear hzc
  go_enter Tryd.func4, Tryd.ntmps4
  go_wp2_with fail
  refine (awake_any _ HT.out).mono ?_
  rintro e w1 ⟨rfl, hb1⟩
  have hs1 := hb1.size
  have HB1 := Lib.hid hb1
  clear hb1
  go_upto_region 4 with (refine wpList_build_state rfl (.tmp 12) rfl zc rfl HI.out.1 ?_)
  clear hzs
  refine world_cut (fun W => Blk W w1.heap.size 34 zc ∧ W.heap.size = w1.heap.size + 1 ∧ Below w.heap.size w W) ⟨Blk.newAt _ _ _ _ _ rfl rfl, by simp, HB1.out.alloc hs1 _⟩ ?_
  rintro W1 ⟨h1, h2, h3⟩
  have H1 := Lib.hid h1
  have H2 := Lib.hid h2
  have H3 := Lib.hid h3
  clear h1 h2 h3
  go_upto_region 5 with fail
  refine world_cut (fun W => Kept W w.heap.size (.slice (some ⟨w1.heap.size, 0, none⟩) 1 1) (.slice (some ⟨W1.heap.size, 0, none⟩) 1 1) [zc.toList] [[]] ∧ Below w.heap.size w W) ?_ ?_
  · have hb : ∀ o, Blk (W1.alloc o) w1.heap.size 34 zc := fun o => H1.out.alloc o
    have hz := HI.out.1
    refine ⟨⟨⟨by simp [hz], .inr ⟨w1.heap.size, 1, zc, rfl, hs1, hb _, Nat.le_refl _, by unfold maxLen; omega, by rw [hz], ?_⟩⟩, ⟨rfl, .inr ⟨W1.heap.size, 1, _, rfl, by rw [H2.out]; omega, Blk.new W1 _ _, Nat.le_refl _, by unfold maxLen; omega, rfl, rfl⟩⟩, rfl, ?_⟩, H3.out.alloc (by rw [H2.out]; omega) _⟩
    · simp [List.take_of_length_le, hz]
    · intro i c t hc ht
      match i with
      | 0 =>
        simp at hc ht
        subst hc ht
        exact ⟨by simp [hz], HI.out.2.1, by simpa using HI.out.2.2⟩
      | i + 1 => simp at hc
  obtain ⟨g3, hg3⟩ : ∃ g, g = w1.heap.size := ⟨_, rfl⟩
  obtain ⟨g4, hg4⟩ : ∃ g, g = W1.heap.size := ⟨_, rfl⟩
  rw [← hg3, ← hg4]
  clear hg3 hg4 H1 H2 H3 HB1
  rintro W2 ⟨h1, h2⟩
  have H1 := Lib.hid h1
  have H2 := Lib.hid h2
  clear h1 h2
  go_wp2
  go_loopw [3, 4, 5] (fun s3 s4 s5 wr => StatesAt w n s3 s4 s5 wr) (fun _ _ s5 _ => 200 - (intOf s5).toNat)
  case atStart => exact ⟨0, [zc.toList], [[]], Nat.zero_le _, by omega, rfl, rfl, H1.out, by simp, H2.out⟩
  case round =>
    clear H1 H2 HI
    obtain ⟨i, S, T, hin, hi40, rfl, hT, hkept, hlen, hbel⟩ := hrel
    obtain ⟨m, hm⟩ : ∃ m, m = T.length := ⟨_, rfl⟩
    rw [← hm] at hT
    obtain ⟨g3', c3, rfl, hc3⟩ := own_form hkept.states (by omega)
    obtain ⟨g4', c4, rfl, hc4⟩ := own_form hkept.texts (by omega)
    have hsz := hbel.size
    rw [← hm] at hkept
    have HKept := Lib.hid hkept
    have HLen := Lib.hid hlen
    have HBel := Lib.hid hbel
    have HM := Lib.hid hm
    clear hkept hlen hbel
    rw [← hm]
    clear hm
    have hm1' : 0 < m := by omega
    have hm41 : m ≤ 41 := by omega
    have HTl := Lib.hid hT
    clear hT
    by_cases hgo : i < n ∧ i < 40
    · obtain ⟨hi1, hi2⟩ := hgo
      obtain ⟨ad, f, A, L, C, t, rfl, hf0, hB0, hbt0, htl, hL, hLC⟩ := HO.out i hi1
      subst htl
      have hf1 : wr.cell? (ad.add (i * 2)) = some (.int .i64 f) := by rw [HBel.out.cell (World.block_lt_of_cell? w _ hf0)]; exact hf0
      have hB1 : wr.cell? ⟨(ad.add (i * 2)).block, (ad.add (i * 2)).off + 1, none⟩ = some (.slice A t.length C) := by rw [HBel.out.cell (World.block_lt_of_cell? w _ hB0)]; exact hB0
      have hbt := HBel.out
      obtain ⟨m1, hm1⟩ : ∃ m : Nat, IntKind.u64.wrap f = (m : Int) := ⟨(IntKind.u64.wrap f).toNat, by rw [IntKind.wrap_u64]; omega⟩
      obtain ⟨k, hk⟩ : ∃ k : Nat, (m1 : Int) % (m : Int) = (k : Int) := ⟨((m1 : Int) % (m : Int)).toNat, by rw [Int.toNat_of_nonneg (Int.emod_nonneg _ (by omega))]⟩
      have hkm : k < m := by
        have := Int.emod_lt_of_pos (m1 : Int) (show (0 : Int) < (m : Int) by omega)
        omega
      clear hf0 hB0 hbt
      go_upto_region 9 with fail
      clear hf1 hm1 hk
      have hb0 : Below wr.heap.size wr (wr.alloc (.cells #[] 5)) := (Below.refl _ _).alloc (Nat.le_refl _) _
      have hbt : Bys (wr.alloc (.cells #[] 5)) (.slice A t.length C) t := (hbt0.below (Nat.le_refl _) HBel.out).below (Nat.le_refl _) hb0
      have A1 := Lib.hid (append_lit (B := w.heap.size) (g := wr.heap.size) (w := wr.alloc (.cells #[] 5)) hsz (heap_alloc_new wr _) hbt (by omega))
      have hB2 : (wr.alloc (.cells #[] 5)).cell? ⟨(ad.add (i * 2)).block, (ad.add (i * 2)).off + 1, none⟩ = some (.slice A t.length C) := by rw [hb0.cell (World.block_lt_of_cell? wr _ hB1)]; exact hB1
      have HB0 := Lib.hid hb0
      have HBt := Lib.hid hbt0
      clear hb0 hbt hbt0
      go_upto_region 10 with (at_builtin; refine wpList_append_by rfl (.tmp 36) (.tmp 41) 22 rfl _ _ rfl rfl _ A1.out ?_; rintro v7 w7 ⟨hr7, hb7⟩; (have HR7 := Lib.hid hr7); (have HB7 := Lib.hid hb7); clear hr7 hb7)
      refine world_cut (fun W => Kept W w.heap.size (.slice (some ⟨g3', 0, none⟩) m c3) (.slice (some ⟨g4', 0, none⟩) m c4) S T ∧ Row W w.heap.size v7 t ∧ Below w.heap.size w W) ⟨(HKept.out.below HB0.out).below HB7.out, HR7.out, HBel.out.trans ((HB0.out.trans (HB7.out.mono (by simp))).mono hsz)⟩ ?_
      clear A1 HB0 HBt HR7 HB7 HKept HBel hB1 hB2 HO
      rintro W7 ⟨h1, h2, h3⟩
      obtain ⟨a7, c7, rfl⟩ := slice_of_row h2
      have hc7 : t.length ≤ c7 := by
        rcases h2.2 with ⟨e, h0⟩ | ⟨_, _, _, e, _, _, hle, _⟩
        · omega
        · cases e; exact hle
      have hs7 := h3.size
      obtain ⟨cs, tk, hTk, hSk, hcz, hcs, hload⟩ := h1.load k (by rw [← HM.out]; exact hkm)
      have htk : tk.length ≤ i * 1048576 := HLen.out tk (List.mem_of_getElem? hTk)
      obtain ⟨cv, hcv⟩ : ∃ cv, cv = cs.toArray := ⟨_, rfl⟩
      rw [← hcv] at hcs hload
      have HW := Lib.hid (write_any (.agg cv) tk t a7 t.length c7 W7 hcs h2.bys hc7 (by omega) (HT.out.1.below (Nat.le_refl _) h3) (HT.out.2.below (Nat.le_refl _) h3))
      have H1 := Lib.hid h1
      have H2 := Lib.hid h2
      have H3 := Lib.hid h3
      have HTk := Lib.hid hTk
      have HLd := Lib.hid hload
      have HTkl := Lib.hid htk
      clear h1 h2 h3 hTk hSk hcz hcs hload hcv htk
      go_wp2_with (refine wpList_load_by rfl 34 (.tmp 46) rfl (.pointer (some ⟨g3', k * 73, none⟩)) (.agg cv) rfl HLd.out ?_)
      refine HW.out.mono ?_
      rintro e w8 ⟨v8, rfl, h8, hb8⟩
      obtain ⟨cs8, rfl, hz8, ho8⟩ := h8.form
      have hs8 := hb8.size
      have hb9 : Below W7.heap.size W7 (w8.alloc (.cells cs8 34)) := hb8.alloc hs8 _
      have A2 := Lib.hid ((H1.out.below hb9).addState cs8 hz8 ho8 (Nat.le_trans hs7 hb9.size) (by rw [← HM.out]; omega) w8.heap.size (Blk.new w8 _ _))
      have HB9 := Lib.hid hb9
      have HZ8 := Lib.hid hz8
      have HO8 := Lib.hid ho8
      have H8 := Lib.hid h8
      clear hb8 hb9 hz8 ho8 h8
      go_upto_region 11 with (first | refine wpList_build_state rfl (.tmp 49) rfl cs8 rfl HZ8.out ?_ | (at_builtin; refine wpList_append_by rfl (.tmp 43) (.tmp 50) 35 rfl _ _ rfl rfl _ A2.out ?_; rintro v3 w9 ⟨h9a, h9b, h9c⟩; (have H9a := Lib.hid h9a); (have H9b := Lib.hid h9b); (have H9c := Lib.hid h9c); clear h9a h9b h9c))
      have HK9 := Lib.hid (H1.out.below HB9.out)
      have HR9 := Lib.hid (own_below H2.out HB9.out)
      have HEa := Lib.hid H1.out.each
      have HEl := Lib.hid H1.out.len
      have HT9 := Lib.hid (H9b.out _ _ _ _ _ (by decide) HK9.out.texts)
      have HRb := Lib.hid (H9b.out _ _ _ _ _ (by decide) HR9.out)
      have HW9 := Lib.hid (H9c.out w _ (Nat.le_refl _) (H3.out.trans (HB9.out.mono hs7)))
      clear HW H1 H2 H3 HLd A2 HB9 H9b H9c HK9 HR9
      have hG : ∀ W W' : World, (W.ownsRow w.heap.size 34 73 v3 (T.length + 1) (S ++ [cs8.toList]).flatten ∧ Row W w.heap.size (.slice a7 t.length c7) t ∧ Below w.heap.size w W) → Below W.heap.size W W' →
          (W'.ownsRow w.heap.size 34 73 v3 (T.length + 1) (S ++ [cs8.toList]).flatten ∧ Row W' w.heap.size (.slice a7 t.length c7) t ∧ Below w.heap.size w W') := fun W W' h h' => ⟨own_below h.1 h', own_below h.2.1 h', h.2.2.trans (h'.mono h.2.2.size)⟩
      refine region_last_by 10 _ _ rfl [(4, .sat (fun v W => v = .slice (some ⟨g4', 0, none⟩) m c4 ∧ W.ownsRow w.heap.size 9 1 v T.length (txs T)) (fun _ _ _ h hb => ⟨h.1, own_below h.2 hb⟩)),
          (52, .sat (fun v W => v = .slice (some ⟨g4', 0, none⟩) m c4 ∧ W.ownsRow w.heap.size 9 1 v T.length (txs T)) (fun _ _ _ h hb => ⟨h.1, own_below h.2 hb⟩)),
          (53, .sat (fun v W => v = .slice (some ⟨g4', 0, none⟩) m c4 ∧ W.ownsRow w.heap.size 9 1 v T.length (txs T)) (fun _ _ _ h hb => ⟨h.1, own_below h.2 hb⟩)),
          (54, .is (.int .i64 (k : Int))), (55, .sat (fun v W => v = .pointer (some ⟨g4', k, none⟩) ∧ W.cell? ⟨g4', k, none⟩ = some (.string ⟨tk.toArray⟩)) (fun _ _ _ h hb => ⟨h.1, by rw [hb.cell (World.block_lt_of_cell? _ _ h.2)]; exact h.2⟩)),
          (56, .is (.string ⟨tk.toArray⟩)), (57, .is (.slice a7 t.length c7)), (58, .is (.string ⟨t.toArray⟩)), (59, .is (.string ⟨(tk ++ t).toArray⟩)),
          (60, .sat (fun v W => ∃ x, v = .slice (some ⟨x, 0, none⟩) 1 1 ∧ Blk W x 9 #[.string ⟨(tk ++ t).toArray⟩]) (fun _ _ _ h hb => by obtain ⟨x, h1, h2⟩ := h; exact ⟨x, h1, h2.keep hb⟩)),
          (61, .sat (fun v W => W.ownsRow w.heap.size 9 1 v (T ++ [tk ++ t]).length (txs (T ++ [tk ++ t]))) (fun _ _ _ h hb => own_below h hb))]
        [0, 1, 2, 3, 5, 6, 7, 8, 9, 10, 11, 12, 13, 14, 74, 75, 76, 77, 78, 79, 80, 81, 82, 83, 84, 85, 86, 87, 88, 89, 90, 91, 92, 93, 94, 95, 96, 97, 98, 99, 100, 101, 102, 103, 104, 105, 61] (fun W => W.ownsRow w.heap.size 34 73 v3 (T.length + 1) (S ++ [cs8.toList]).flatten ∧ Row W w.heap.size (.slice a7 t.length c7) t ∧ Below w.heap.size w W)
        (by kernel_rfl) (by kernel_rfl) (by kernel_rfl) (by kernel_rfl) ?_ rfl rfl rfl (by kernel_rfl) ⟨H9a.out, HRb.out, HW9.out.drew⟩ ?_ ?_
      · intro q fq hq
        by_cases h4 : q = 4
        · subst h4
          right
          obtain rfl := Option.some.inj hq
          exact ⟨rfl, HT9.out⟩
        · left
          exact lookup_all 4 (by kernel_rfl) hq h4
      · refine ⟨?a0, ?a1, ?a2, ?a3, ?a4, ?a5, ?a6, ?a7, ?a8, ?a9, trivial⟩
        case a0 => exact ask_copy (guard_none rfl) (.tmp 4) (.inl rfl) (by intro k hk; cases hk; rfl)
        case a1 => exact ask_copy (guard_none rfl) (.tmp 4) (.inl rfl) (by intro k hk; cases hk; rfl)
        case a2 => exact ask_copy (guard_none rfl) (.tmp 6) (.inl rfl) (by intro k hk; cases hk; rfl)
        case a3 => exact ask_grow hG (guard_none rfl) (fun x W hW ht => by
          have e53 : x 53 = .slice (some ⟨g4', 0, none⟩) m c4 ∧ W.ownsRow w.heap.size 9 1 (x 53) T.length (txs T) := ht 53 rfl
          have e54 : x 54 = .int .i64 (k : Int) := ht 54 rfl
          obtain ⟨e1, e2⟩ := e53
          rw [e1, ← HM.out] at e2
          have hcell : W.cell? ⟨g4', k, none⟩ = some (.string ⟨tk.toArray⟩) := by
            rw [World.ownsRow.cellAt e2 k (by omega), txs, List.getElem?_map, HTk.out]
            rfl
          refine gives_value (v := .pointer (some ⟨g4', k, none⟩)) (w' := W) ?_ ⟨Below.refl _ _, fun q hq => by cases hq; exact ⟨rfl, hcell⟩⟩
          simp [execOp, evalBy, e1, e54, text_index W g4' m c4 k hkm, Result.andThen])
        case a4 => exact ask_val (guard_none rfl) (.string ⟨tk.toArray⟩) (by intro k hk; cases hk; rfl) (fun x W hW ht => by
          have e55 : x 55 = .pointer (some ⟨g4', k, none⟩) ∧ W.cell? ⟨g4', k, none⟩ = some (.string ⟨tk.toArray⟩) := ht 55 rfl
          simp [execOp, evalBy, e55.1, text_load W _ _ e55.2, Result.andThen])
        case a5 => exact ask_copy (guard_none rfl) (.tmp 7) (.inl rfl) (by intro k hk; cases hk; rfl)
        case a6 => exact ask_string_is (guard_none rfl) (.tmp 57) (.slice a7 t.length c7) t rfl (fun W hW => hW.2.1.bys) rfl (by intro k hk; cases hk; rfl)
        case a7 => exact ask_bin (guard_none rfl) _ _ _ _ _ _ _ _ rfl rfl rfl (by intro k hk; cases hk; rfl) (fun W => text_add tk t (by have := HTkl.out; omega) _ _ W)
        case a8 => exact ask_grow hG (guard_none rfl) (fun x W hW ht => by
          have e59 : x 59 = .string ⟨(tk ++ t).toArray⟩ := ht 59 rfl
          refine gives_value (v := .slice (some ⟨W.heap.size, 0, none⟩) 1 1) (w' := W.alloc (.cells #[.string ⟨(tk ++ t).toArray⟩] 9)) ?_ ⟨(Below.refl _ _).alloc (Nat.le_refl _) _, fun q hq => by cases hq; exact ⟨W.heap.size, rfl, Blk.new W _ _⟩⟩
          have hb := text_build W ⟨(tk ++ t).toArray⟩
          simp only [execOp, List.map_toArray, List.map_cons, List.map_nil, evalBy, e59, Sem.run_bind, hb, Result.andThen_ok, Sem.run_pure])
        case a9 => exact ask_write (guard_none rfl) (by kernel_rfl) (fun x W hW ht => by
          have e52 : x 52 = .slice (some ⟨g4', 0, none⟩) m c4 ∧ W.ownsRow w.heap.size 9 1 (x 52) T.length (txs T) := ht 52 rfl
          have e60 : ∃ y, x 60 = .slice (some ⟨y, 0, none⟩) 1 1 ∧ Blk W y 9 #[.string ⟨(tk ++ t).toArray⟩] := ht 60 rfl
          obtain ⟨y, e60, hy⟩ := e60
          obtain ⟨v', w', hr, r1, r2, r3⟩ := add_text e52.2 (tk ++ t) hW.2.2.size (by rw [← HM.out]; omega) y hy
          refine gives_value (v := v') (w' := w') ?_ ⟨⟨r2 _ _ _ _ _ (by decide) hW.1, r2 _ _ _ _ _ (by decide) hW.2.1, r3 w _ (Nat.le_refl _) hW.2.2⟩, fun q hq => by cases hq; exact r1⟩
          simp [execOp, resolve, invoke, builtin, evalBy, e60, hr, Result.andThen])
      intro a' W9 hW9 hd9 hs9 hf9
      have t0 : a'.tmps.getD 0 undef = .slice (some ad) n cap := hf9 0 rfl
      have t1 : a'.tmps.getD 1 undef = undef := hf9 1 rfl
      have t2 : a'.tmps.getD 2 undef = .bool false := hf9 2 rfl
      have t3 : a'.tmps.getD 3 undef = v3 := hf9 3 rfl
      have t5 : a'.tmps.getD 5 undef = .int .i64 (i : Int) := hf9 5 rfl
      have t6 : a'.tmps.getD 6 undef = .int .i64 (k : Int) := hf9 6 rfl
      have t7 : a'.tmps.getD 7 undef = .slice a7 t.length c7 := hf9 7 rfl
      have t8 : a'.tmps.getD 8 undef = u8 := hf9 8 rfl
      have t9 : a'.tmps.getD 9 undef = undef := hf9 9 rfl
      have t10 : a'.tmps.getD 10 undef = .bool true := hf9 10 rfl
      have t11 : a'.tmps.getD 11 undef = .bool false := hf9 11 rfl
      have t12 : a'.tmps.getD 12 undef = .agg zc := hf9 12 rfl
      have t13 : a'.tmps.getD 13 undef = .slice (some ⟨g3, 0, none⟩) 1 1 := hf9 13 rfl
      have t14 : a'.tmps.getD 14 undef = .slice (some ⟨g4, 0, none⟩) 1 1 := hf9 14 rfl
      have t74 : a'.tmps.getD 74 undef = undef := hf9 74 rfl
      have t75 : a'.tmps.getD 75 undef = undef := hf9 75 rfl
      have t76 : a'.tmps.getD 76 undef = undef := hf9 76 rfl
      have t77 : a'.tmps.getD 77 undef = undef := hf9 77 rfl
      have t78 : a'.tmps.getD 78 undef = undef := hf9 78 rfl
      have t79 : a'.tmps.getD 79 undef = undef := hf9 79 rfl
      have t80 : a'.tmps.getD 80 undef = undef := hf9 80 rfl
      have t81 : a'.tmps.getD 81 undef = undef := hf9 81 rfl
      have t82 : a'.tmps.getD 82 undef = undef := hf9 82 rfl
      have t83 : a'.tmps.getD 83 undef = undef := hf9 83 rfl
      have t84 : a'.tmps.getD 84 undef = undef := hf9 84 rfl
      have t85 : a'.tmps.getD 85 undef = undef := hf9 85 rfl
      have t86 : a'.tmps.getD 86 undef = undef := hf9 86 rfl
      have t87 : a'.tmps.getD 87 undef = undef := hf9 87 rfl
      have t88 : a'.tmps.getD 88 undef = undef := hf9 88 rfl
      have t89 : a'.tmps.getD 89 undef = undef := hf9 89 rfl
      have t90 : a'.tmps.getD 90 undef = undef := hf9 90 rfl
      have t91 : a'.tmps.getD 91 undef = undef := hf9 91 rfl
      have t92 : a'.tmps.getD 92 undef = undef := hf9 92 rfl
      have t93 : a'.tmps.getD 93 undef = undef := hf9 93 rfl
      have t94 : a'.tmps.getD 94 undef = undef := hf9 94 rfl
      have t95 : a'.tmps.getD 95 undef = undef := hf9 95 rfl
      have t96 : a'.tmps.getD 96 undef = undef := hf9 96 rfl
      have t97 : a'.tmps.getD 97 undef = undef := hf9 97 rfl
      have t98 : a'.tmps.getD 98 undef = undef := hf9 98 rfl
      have t99 : a'.tmps.getD 99 undef = undef := hf9 99 rfl
      have t100 : a'.tmps.getD 100 undef = undef := hf9 100 rfl
      have t101 : a'.tmps.getD 101 undef = undef := hf9 101 rfl
      have t102 : a'.tmps.getD 102 undef = undef := hf9 102 rfl
      have t103 : a'.tmps.getD 103 undef = undef := hf9 103 rfl
      have t104 : a'.tmps.getD 104 undef = undef := hf9 104 rfl
      have t105 : a'.tmps.getD 105 undef = undef := hf9 105 rfl
      have r61 : W9.ownsRow w.heap.size 9 1 (a'.tmps.getD 61 undef) (T ++ [tk ++ t]).length (txs (T ++ [tk ++ t])) := hf9 61 rfl
      obtain ⟨us9, hus, ha'⟩ := act_open 106 a' hs9 hd9
      rw [← hus] at t0 t1 t2 t3 t5 t6 t7 t8 t9 t10 t11 t12 t13 t14 t74 t75 t76 t77 t78 t79 t80 t81 t82 t83 t84 t85 t86 t87 t88 t89 t90 t91 t92 t93 t94 t95 t96 t97 t98 t99 t100 t101 t102 t103 t104 t105 r61
      have el : ((List.range 106).map us9).toArray = #[us9 0, us9 1, us9 2, us9 3, us9 4, us9 5, us9 6, us9 7, us9 8, us9 9, us9 10, us9 11, us9 12, us9 13, us9 14, us9 15, us9 16, us9 17, us9 18, us9 19, us9 20, us9 21, us9 22, us9 23, us9 24, us9 25, us9 26, us9 27, us9 28, us9 29, us9 30, us9 31, us9 32, us9 33, us9 34, us9 35, us9 36, us9 37, us9 38, us9 39, us9 40, us9 41, us9 42, us9 43, us9 44, us9 45, us9 46, us9 47, us9 48, us9 49, us9 50, us9 51, us9 52, us9 53, us9 54, us9 55, us9 56, us9 57, us9 58, us9 59, us9 60, us9 61, us9 62, us9 63, us9 64, us9 65, us9 66, us9 67, us9 68, us9 69, us9 70, us9 71, us9 72, us9 73, us9 74, us9 75, us9 76, us9 77, us9 78, us9 79, us9 80, us9 81, us9 82, us9 83, us9 84, us9 85, us9 86, us9 87, us9 88, us9 89, us9 90, us9 91, us9 92, us9 93, us9 94, us9 95, us9 96, us9 97, us9 98, us9 99, us9 100, us9 101, us9 102, us9 103, us9 104, us9 105] := rfl
      rw [el] at ha'
      subst ha'
      rw [t0, t1, t2, t3, t5, t6, t7, t8, t9, t10, t11, t12, t13, t14, t74, t75, t76, t77, t78, t79, t80, t81, t82, t83, t84, t85, t86, t87, t88, t89, t90, t91, t92, t93, t94, t95, t96, t97, t98, t99, t100, t101, t102, t103, t104, t105]
      clear hus t0 t1 t2 t3 t5 t6 t7 t8 t9 t10 t11 t12 t13 t14 t74 t75 t76 t77 t78 t79 t80 t81 t82 t83 t84 t85 t86 t87 t88 t89 t90 t91 t92 t93 t94 t95 t96 t97 t98 t99 t100 t101 t102 t103 t104 t105 el
      clear hd9 hs9 hf9 hG
      obtain ⟨v4, hv4⟩ : ∃ v, v = us9 61 := ⟨_, rfl⟩
      rw [← hv4] at r61
      obtain ⟨h91, h92, h93⟩ := hW9
      have hk9 := Kept.more HEl.out HEa.out cs8 (tk ++ t) HZ8.out HO8.out H8.out h91 r61
      have hlen9 := lens_more HLen.out HTkl.out hL
      have hT9 : (T ++ [tk ++ t]).length = i + 1 + 1 := by rw [List.length_append, ← HM.out, HTl.out]; rfl
      obtain ⟨S9, hS9⟩ : ∃ S9, S9 = S ++ [cs8.toList] := ⟨_, rfl⟩
      obtain ⟨T9, hTT⟩ : ∃ T9, T9 = T ++ [tk ++ t] := ⟨_, rfl⟩
      rw [← hTT] at hk9 hlen9 hT9
      rw [← hS9] at hk9
      have HK9 := Lib.hid hk9
      have HLen9 := Lib.hid hlen9
      have HT9' := Lib.hid hT9
      have HR9 := Lib.hid h92
      have HB9 := Lib.hid h93
      clear hk9 hlen9 hT9 h91 h92 h93 r61 hS9 hTT H9a HEa HEl HT9 HRb HW9 H8 HO8 HZ8 HTk HTkl hs8 HLen HM HTl hm1' hm41
      clear hc3 hc4 hsz hs7
      obtain ⟨wo, rfl⟩ : ∃ wo : World, wo = wr := ⟨_, rfl⟩
      go_upto_region 12 with fail
      rw [← hv4]
      clear hv4
      go_wp2
      go_loopw [8] (fun s8 wr => StatesTurn w v3 v4 (.slice a7 t.length c7) S9 T9 t.length s8 wr) (fun s8 _ => 1048577 - (intOf s8).toNat)
      case atStart => exact ⟨0, t, rfl, Nat.zero_le _, rfl, HK9.out, HR9.out, HB9.out⟩
      case round =>
        clear HK9 HR9 HB9
        obtain ⟨j, l, rfl, hjn, hll, hk9, hr9, hb9⟩ := hrel
        have HK9 := Lib.hid hk9
        have HB9 := Lib.hid hb9
        clear hk9 hb9
        by_cases hj : j < t.length
        · obtain ⟨g7, c7', e7, _⟩ := own_form hr9 (by omega)
          rw [hll] at e7
          cases e7
          obtain ⟨⟨z, hz⟩, hfz⟩ := row_cell hr9 j (by omega)
          have HR9 := Lib.hid hr9
          have HLL := Lib.hid hll
          clear hr9 hll
          go_wp2
          go_roundw
          case rel =>
            obtain ⟨b, hb⟩ := u8_wrap (z + 1)
            refine ⟨j + 1, l.set j b, by go_num, by omega, by rw [List.length_set]; exact HLL.out, ?_, ?_, ?_⟩
            · exact HK9.out.set HR9.out j _
            · have h := row_set HR9.out j b
              rw [← hb] at h
              first | exact h | (rw [IntKind.wrap_u8] at h; exact h)
            · exact HB9.out.setCell (World.ownsRow.lt HR9.out g7 rfl).1 _
          case measure => simp [intOf]; omega
        · clear hr9 hll
          go_wp2
          go_roundw
          case rel => exact ⟨i + 1, S9, T9, by omega, by omega, by go_num, HT9'.out, HK9.out, HLen9.out, HB9.out⟩
          case measure => simp [intOf]; omega
    · clear HO
      have hz : (∃ us : Nat → Value, False) ∨ True := .inr trivial
      clear hz
      go_upto_region 16 with fail
      all_goals
        refine frame_cut 106 rfl rfl ?_
        intro us0 hus
        have f2 : us0 2 = .bool false := hus 2
        have f3 : us0 3 = .slice (some ⟨g3', 0, none⟩) m c3 := hus 3
        have f4 : us0 4 = .slice (some ⟨g4', 0, none⟩) m c4 := hus 4
        clear hus
        have el : ((List.range 106).map us0).toArray = #[us0 0, us0 1, us0 2, us0 3, us0 4, us0 5, us0 6, us0 7, us0 8, us0 9, us0 10, us0 11, us0 12, us0 13, us0 14, us0 15, us0 16, us0 17, us0 18, us0 19, us0 20, us0 21, us0 22, us0 23, us0 24, us0 25, us0 26, us0 27, us0 28, us0 29, us0 30, us0 31, us0 32, us0 33, us0 34, us0 35, us0 36, us0 37, us0 38, us0 39, us0 40, us0 41, us0 42, us0 43, us0 44, us0 45, us0 46, us0 47, us0 48, us0 49, us0 50, us0 51, us0 52, us0 53, us0 54, us0 55, us0 56, us0 57, us0 58, us0 59, us0 60, us0 61, us0 62, us0 63, us0 64, us0 65, us0 66, us0 67, us0 68, us0 69, us0 70, us0 71, us0 72, us0 73, us0 74, us0 75, us0 76, us0 77, us0 78, us0 79, us0 80, us0 81, us0 82, us0 83, us0 84, us0 85, us0 86, us0 87, us0 88, us0 89, us0 90, us0 91, us0 92, us0 93, us0 94, us0 95, us0 96, us0 97, us0 98, us0 99, us0 100, us0 101, us0 102, us0 103, us0 104, us0 105] := rfl
        rw [el, f2, f3, f4]
        clear el f2 f3 f4
        rw [← HM.out] at hc3 hc4
        obtain ⟨wo, rfl⟩ : ∃ wo : World, wo = wr := ⟨_, rfl⟩
        go_wp2
        go_loopw [9] (fun s9 wr => StatesLook w (.slice (some ⟨g3', 0, none⟩) m c3) (.slice (some ⟨g4', 0, none⟩) m c4) S T s9 wr) (fun s9 _ => 200 - (intOf s9).toNat)
        case atStart => exact ⟨0, rfl, Nat.zero_le _, HKept.out, HBel.out⟩
        case round =>
          clear HKept HBel
          obtain ⟨j, rfl, hjT, hk9, hb9⟩ := hrel
          rw [← HM.out] at hjT
          have HK9 := Lib.hid hk9
          have HB9 := Lib.hid hb9
          clear hk9 hb9
          by_cases hj : j < m
          · go_upto_region 19 with fail
            have hjl : j < T.length := by rw [← HM.out]; exact hj
            obtain ⟨t, ht⟩ : ∃ t, T[j]? = some t := ⟨_, List.getElem?_eq_getElem hjl⟩
            obtain ⟨cs, hcs⟩ : ∃ cs, S[j]? = some cs := ⟨_, List.getElem?_eq_getElem (by rw [HK9.out.len]; exact hjl)⟩
            obtain ⟨_, _, hst⟩ := HK9.out.each j cs t hcs ht
            have htl : t.length ≤ i * 1048576 := HLen.out t (List.mem_of_getElem? ht)
            have htb : t.length ≤ 41943040 := Nat.le_trans htl (Nat.mul_le_mul_right 1048576 hi40)
            clear htl
            obtain ⟨N, hN⟩ : ∃ N, N = t.length := ⟨_, rfl⟩
            obtain ⟨hh, hhh⟩ : ∃ hh, hh = ShaMath.hash t := ⟨_, rfl⟩
            have hhl : hh.length = 32 := by rw [hhh]; exact hash_length _
            obtain ⟨cv, hcv⟩ : ∃ cv, cv = cs.toArray := ⟨_, rfl⟩
            have hld : ∀ W, Kept W w.heap.size (.slice (some ⟨g3', 0, none⟩) m c3) (.slice (some ⟨g4', 0, none⟩) m c4) S T → (Instr.loadAt 34 (.pointer (some ⟨g3', j * 73, none⟩))).run Tryd.prog W = .ok (.agg cv) W := fun W hW => by rw [hcv]; exact hW.loadAs j cs hcs
            rw [← hcv] at hst
            have HSt := Lib.hid hst
            have HTj := Lib.hid ht
            have HLd := Lib.hid hld
            clear hst ht hld hcs hcv
            have hG : ∀ W W' : World, (Kept W w.heap.size (.slice (some ⟨g3', 0, none⟩) m c3) (.slice (some ⟨g4', 0, none⟩) m c4) S T ∧ Below w.heap.size w W) → Below W.heap.size W W' → (Kept W' w.heap.size (.slice (some ⟨g3', 0, none⟩) m c3) (.slice (some ⟨g4', 0, none⟩) m c4) S T ∧ Below w.heap.size w W') := fun W W' h h' => ⟨h.1.below h', h.2.trans (h'.mono h.2.size)⟩
            refine region_by [(80, .is (.slice (some ⟨g3', 0, none⟩) m c3)), (81, .is (.int .i64 (j : Int))), (82, .is (.pointer (some ⟨g3', j * 73, none⟩))), (83, .is (.agg cv)), (84, .is (.agg (bs hh))), (85, .is (.slice (some ⟨g4', 0, none⟩) m c4)), (86, .is (.int .i64 (j : Int))), (87, .is (.pointer (some ⟨g4', j, none⟩))), (88, .is (.string ⟨t.toArray⟩)), (89, .sat (fun v W => ∃ a c, v = .slice a t.length c ∧ Bys W v t) (fun _ _ _ h hb => by obtain ⟨a, c, h1, h2⟩ := h; exact ⟨a, c, h1, h2.below (Nat.le_refl _) hb⟩)), (90, .is (.agg (bs hh))), (91, .is (.bool false)), (92, .is (.bool false)), (93, .is (.slice (some ⟨g3', 0, none⟩) m c3)), (94, .is (.int .i64 (j : Int))), (95, .is (.pointer (some ⟨g3', j * 73, none⟩))), (96, .is (.agg cv)), (97, .is (.int .u64 (N : Int))), (98, .is (.slice (some ⟨g4', 0, none⟩) m c4)), (99, .is (.int .i64 (j : Int))), (100, .is (.pointer (some ⟨g4', j, none⟩))), (101, .is (.string ⟨t.toArray⟩)), (102, .is (.int .i64 (N : Int))), (103, .is (.int .u64 (N : Int))), (104, .is (.bool false)), (105, .is (.bool false))] [0, 1, 2, 3, 4, 5, 6, 7, 8, 9, 10, 11, 12, 13, 14, 15, 16, 17, 18, 19, 20, 21, 22, 23, 24, 25, 26, 27, 28, 29, 30, 31, 32, 33, 34, 35, 36, 37, 38, 39, 40, 41, 42, 43, 44, 45, 46, 47, 48, 49, 50, 51, 52, 53, 54, 55, 56, 57, 58, 59, 60, 61, 62, 63, 64, 65, 66, 67, 68, 69, 70, 71, 72, 73, 105] (fun W => Kept W w.heap.size (.slice (some ⟨g3', 0, none⟩) m c3) (.slice (some ⟨g4', 0, none⟩) m c4) S T ∧ Below w.heap.size w W) (by kernel_rfl) (by kernel_rfl) (by kernel_rfl) (by kernel_rfl) (by kernel_rfl) ⟨HK9.out.below (Below.refl _ _).drew, HB9.out.drew⟩ ?_ ?_
            · refine ⟨?b0, ?b1, ?b2, ?b3, ?b4, ?b5, ?b6, ?b7, ?b8, ?b9, ?b10, ?b11, ?b12, ?b13, ?b14, ?b15, ?b16, ?b17, ?b18, ?b19, ?b20, ?b21, ?b22, ?b23, ?b24, ?b25, trivial⟩
              case b0 => exact ask_copy (guard_none rfl) (.tmp 3) (.inl rfl) (by intro k hk; cases hk; rfl)
              case b1 => exact ask_copy (guard_none rfl) (.tmp 9) (.inl rfl) (by intro k hk; cases hk; rfl)
              case b2 => exact ask_val (guard_none rfl) (.pointer (some ⟨g3', j * 73, none⟩)) (by intro k hk; cases hk; rfl) (fun x W hW ht => by
                  have e1 : x 80 = .slice (some ⟨g3', 0, none⟩) m c3 := ht 80 rfl
                  have e2 : x 81 = .int .i64 (j : Int) := ht 81 rfl
                  simp [execOp, evalBy, e1, e2, state_index W g3' m c3 j hj, Result.andThen])
              case b3 => exact ask_load (guard_none rfl) 34 (.tmp 82) (.pointer (some ⟨g3', j * 73, none⟩)) (.agg cv) rfl rfl (by intro k hk; cases hk; rfl) (fun W hW => HLd.out W hW.1)
              case b4 => exact ask_call hG (guard_none rfl) _ _ _ #[.agg cv] (.is (.agg (bs hh))) rfl (by kernel_rfl) rfl rfl (by intro k hk; cases hk; rfl) (fun W hW => (stateSum_any (.agg cv) t W HSt.out (by omega) (HT.out.1.below (Nat.le_refl _) hW.2) (HT.out.2.below (Nat.le_refl _) hW.2)).mono fun e w' h => ⟨_, h.1, by show _ = _; rw [hhh], h.2⟩)
              case b5 => exact ask_copy (guard_none rfl) (.tmp 4) (.inl rfl) (by intro k hk; cases hk; rfl)
              case b6 => exact ask_copy (guard_none rfl) (.tmp 9) (.inl rfl) (by intro k hk; cases hk; rfl)
              case b7 => exact ask_val (guard_none rfl) (.pointer (some ⟨g4', j, none⟩)) (by intro k hk; cases hk; rfl) (fun x W hW ht => by
                  have e1 : x 85 = .slice (some ⟨g4', 0, none⟩) m c4 := ht 85 rfl
                  have e2 : x 86 = .int .i64 (j : Int) := ht 86 rfl
                  simp [execOp, evalBy, e1, e2, text_index W g4' m c4 j hj, Result.andThen])
              case b8 => exact ask_load (guard_none rfl) 9 (.tmp 87) (.pointer (some ⟨g4', j, none⟩)) (.string ⟨t.toArray⟩) rfl rfl (by intro k hk; cases hk; rfl) (fun W hW => text_load W _ _ (hW.1.textAs j t HTj.out))
              case b9 => exact ask_grow hG (guard_none rfl) (fun x W hW ht => by
                  have e1 : x 88 = .string ⟨t.toArray⟩ := ht 88 rfl
                  obtain ⟨c, W', hr, h1, h2⟩ := text_bytes W t
                  refine gives_value (v := .slice (some ⟨W.heap.size, 0, none⟩) t.length c) (w' := W') ?_ ⟨h2, fun q hq => by cases hq; exact ⟨_, c, rfl, h1⟩⟩
                  simp [execOp, evalBy, e1, hr, Result.andThen])
              case b10 => exact ask_call_by hG (guard_none rfl) _ _ _ (.is (.agg (bs hh))) rfl (by kernel_rfl) (by intro k hk; cases hk; rfl) (fun x W hW hk => by
                  have e1 : ∃ a c, x 89 = .slice a t.length c ∧ Bys W (x 89) t := hk 89 rfl
                  obtain ⟨a, c, e1, h1⟩ := e1
                  rw [e1] at h1
                  show Calls _ _ #[x 89] W _
                  rw [e1]
                  exact (refsum_any t a t.length c W h1 rfl (by omega) (HK.out.below (Nat.le_refl _) hW.2)).mono fun e w' h => ⟨_, h.1, by show _ = _; rw [hhh], h.2⟩)
              case b11 => exact ask_cmp (guard_none rfl) _ _ _ _ _ _ _ _ rfl rfl rfl (by intro k hk; cases hk; rfl) (neq_hash _ _ hh hhl)
              case b12 => exact ask_copy (guard_none rfl) (.tmp 91) (.inl rfl) (by intro k hk; cases hk; rfl)
              case b13 => exact ask_copy (guard_some rfl rfl rfl) (.tmp 3) (.inl rfl) (by intro k hk; cases hk; rfl)
              case b14 => exact ask_copy (guard_some rfl rfl rfl) (.tmp 9) (.inl rfl) (by intro k hk; cases hk; rfl)
              case b15 => exact ask_val (guard_some rfl rfl rfl) (.pointer (some ⟨g3', j * 73, none⟩)) (by intro k hk; cases hk; rfl) (fun x W hW ht => by
                  have e1 : x 93 = .slice (some ⟨g3', 0, none⟩) m c3 := ht 93 rfl
                  have e2 : x 94 = .int .i64 (j : Int) := ht 94 rfl
                  simp [execOp, evalBy, e1, e2, state_index W g3' m c3 j hj, Result.andThen])
              case b16 => exact ask_load (guard_some rfl rfl rfl) 34 (.tmp 95) (.pointer (some ⟨g3', j * 73, none⟩)) (.agg cv) rfl rfl (by intro k hk; cases hk; rfl) (fun W hW => HLd.out W hW.1)
              case b17 => exact ask_call hG (guard_some rfl rfl rfl) _ _ _ #[.agg cv] (.is (.int .u64 (N : Int))) rfl (by kernel_rfl) rfl rfl (by intro k hk; cases hk; rfl) (fun W hW => (len_of HSt.out W).mono fun e w' h => ⟨_, h.1, by show _ = _; rw [hN], h.2⟩)
              case b18 => exact ask_copy (guard_some rfl rfl rfl) (.tmp 4) (.inl rfl) (by intro k hk; cases hk; rfl)
              case b19 => exact ask_copy (guard_some rfl rfl rfl) (.tmp 9) (.inl rfl) (by intro k hk; cases hk; rfl)
              case b20 => exact ask_val (guard_some rfl rfl rfl) (.pointer (some ⟨g4', j, none⟩)) (by intro k hk; cases hk; rfl) (fun x W hW ht => by
                  have e1 : x 98 = .slice (some ⟨g4', 0, none⟩) m c4 := ht 98 rfl
                  have e2 : x 99 = .int .i64 (j : Int) := ht 99 rfl
                  simp [execOp, evalBy, e1, e2, text_index W g4' m c4 j hj, Result.andThen])
              case b21 => exact ask_load (guard_some rfl rfl rfl) 9 (.tmp 100) (.pointer (some ⟨g4', j, none⟩)) (.string ⟨t.toArray⟩) rfl rfl (by intro k hk; cases hk; rfl) (fun W hW => text_load W _ _ (hW.1.textAs j t HTj.out))
              case b22 => exact ask_val (guard_some rfl rfl rfl) (.int .i64 (N : Int)) (by intro k hk; cases hk; rfl) (fun x W hW ht => by
                  have e1 : x 101 = .string ⟨t.toArray⟩ := ht 101 rfl
                  simp [Builtin.len_, evalBy, e1, Result.andThen, go_sem]
                  rw [hN])
              case b23 => exact ask_val (guard_some rfl rfl rfl) (.int .u64 (N : Int)) (by intro k hk; cases hk; rfl) (fun x W hW ht => by
                  have e1 : x 102 = .int .i64 (N : Int) := ht 102 rfl
                  simp [execOp, evalBy, e1, Result.andThen, go_sem]
                  exact u64_small N (by rw [hN]; exact htb))
              case b24 => exact ask_cmp (guard_some rfl rfl rfl) _ _ _ _ _ _ _ _ rfl rfl rfl (by intro k hk; cases hk; rfl) (fun W => by simp [eqGuard, go_sem])
              case b25 => exact ask_pick (guard_none rfl) (.tmp 92) (.const (.bool true)) (.tmp 104) false rfl rfl (by intro k hk; cases hk; rfl)
            intro a2 W9 hW9 hd9 hs9 hf9
            have t0 : a2.tmps.getD 0 undef = us0 0 := hf9 0 rfl
            have t1 : a2.tmps.getD 1 undef = us0 1 := hf9 1 rfl
            have t3 : a2.tmps.getD 3 undef = .slice (some ⟨g3', 0, none⟩) m c3 := hf9 3 rfl
            have t4 : a2.tmps.getD 4 undef = .slice (some ⟨g4', 0, none⟩) m c4 := hf9 4 rfl
            have t5 : a2.tmps.getD 5 undef = us0 5 := hf9 5 rfl
            have t6 : a2.tmps.getD 6 undef = us0 6 := hf9 6 rfl
            have t7 : a2.tmps.getD 7 undef = us0 7 := hf9 7 rfl
            have t8 : a2.tmps.getD 8 undef = us0 8 := hf9 8 rfl
            have t9 : a2.tmps.getD 9 undef = .int .i64 (j : Int) := hf9 9 rfl
            have t10 : a2.tmps.getD 10 undef = us0 10 := hf9 10 rfl
            have t11 : a2.tmps.getD 11 undef = us0 11 := hf9 11 rfl
            have t12 : a2.tmps.getD 12 undef = us0 12 := hf9 12 rfl
            have t13 : a2.tmps.getD 13 undef = us0 13 := hf9 13 rfl
            have t14 : a2.tmps.getD 14 undef = us0 14 := hf9 14 rfl
            have t15 : a2.tmps.getD 15 undef = us0 15 := hf9 15 rfl
            have t16 : a2.tmps.getD 16 undef = us0 16 := hf9 16 rfl
            have t17 : a2.tmps.getD 17 undef = us0 17 := hf9 17 rfl
            have t18 : a2.tmps.getD 18 undef = us0 18 := hf9 18 rfl
            have t19 : a2.tmps.getD 19 undef = us0 19 := hf9 19 rfl
            have t20 : a2.tmps.getD 20 undef = us0 20 := hf9 20 rfl
            have t21 : a2.tmps.getD 21 undef = us0 21 := hf9 21 rfl
            have t22 : a2.tmps.getD 22 undef = us0 22 := hf9 22 rfl
            have t23 : a2.tmps.getD 23 undef = us0 23 := hf9 23 rfl
            have t24 : a2.tmps.getD 24 undef = us0 24 := hf9 24 rfl
            have t25 : a2.tmps.getD 25 undef = us0 25 := hf9 25 rfl
            have t26 : a2.tmps.getD 26 undef = us0 26 := hf9 26 rfl
            have t27 : a2.tmps.getD 27 undef = us0 27 := hf9 27 rfl
            have t28 : a2.tmps.getD 28 undef = us0 28 := hf9 28 rfl
            have t29 : a2.tmps.getD 29 undef = us0 29 := hf9 29 rfl
            have t30 : a2.tmps.getD 30 undef = us0 30 := hf9 30 rfl
            have t31 : a2.tmps.getD 31 undef = us0 31 := hf9 31 rfl
            have t32 : a2.tmps.getD 32 undef = us0 32 := hf9 32 rfl
            have t33 : a2.tmps.getD 33 undef = us0 33 := hf9 33 rfl
            have t34 : a2.tmps.getD 34 undef = us0 34 := hf9 34 rfl
            have t35 : a2.tmps.getD 35 undef = us0 35 := hf9 35 rfl
            have t36 : a2.tmps.getD 36 undef = us0 36 := hf9 36 rfl
            have t37 : a2.tmps.getD 37 undef = us0 37 := hf9 37 rfl
            have t38 : a2.tmps.getD 38 undef = us0 38 := hf9 38 rfl
            have t39 : a2.tmps.getD 39 undef = us0 39 := hf9 39 rfl
            have t40 : a2.tmps.getD 40 undef = us0 40 := hf9 40 rfl
            have t41 : a2.tmps.getD 41 undef = us0 41 := hf9 41 rfl
            have t42 : a2.tmps.getD 42 undef = us0 42 := hf9 42 rfl
            have t43 : a2.tmps.getD 43 undef = us0 43 := hf9 43 rfl
            have t44 : a2.tmps.getD 44 undef = us0 44 := hf9 44 rfl
            have t45 : a2.tmps.getD 45 undef = us0 45 := hf9 45 rfl
            have t46 : a2.tmps.getD 46 undef = us0 46 := hf9 46 rfl
            have t47 : a2.tmps.getD 47 undef = us0 47 := hf9 47 rfl
            have t48 : a2.tmps.getD 48 undef = us0 48 := hf9 48 rfl
            have t49 : a2.tmps.getD 49 undef = us0 49 := hf9 49 rfl
            have t50 : a2.tmps.getD 50 undef = us0 50 := hf9 50 rfl
            have t51 : a2.tmps.getD 51 undef = us0 51 := hf9 51 rfl
            have t52 : a2.tmps.getD 52 undef = us0 52 := hf9 52 rfl
            have t53 : a2.tmps.getD 53 undef = us0 53 := hf9 53 rfl
            have t54 : a2.tmps.getD 54 undef = us0 54 := hf9 54 rfl
            have t55 : a2.tmps.getD 55 undef = us0 55 := hf9 55 rfl
            have t56 : a2.tmps.getD 56 undef = us0 56 := hf9 56 rfl
            have t57 : a2.tmps.getD 57 undef = us0 57 := hf9 57 rfl
            have t58 : a2.tmps.getD 58 undef = us0 58 := hf9 58 rfl
            have t59 : a2.tmps.getD 59 undef = us0 59 := hf9 59 rfl
            have t60 : a2.tmps.getD 60 undef = us0 60 := hf9 60 rfl
            have t61 : a2.tmps.getD 61 undef = us0 61 := hf9 61 rfl
            have t62 : a2.tmps.getD 62 undef = us0 62 := hf9 62 rfl
            have t63 : a2.tmps.getD 63 undef = us0 63 := hf9 63 rfl
            have t64 : a2.tmps.getD 64 undef = us0 64 := hf9 64 rfl
            have t65 : a2.tmps.getD 65 undef = us0 65 := hf9 65 rfl
            have t66 : a2.tmps.getD 66 undef = us0 66 := hf9 66 rfl
            have t67 : a2.tmps.getD 67 undef = us0 67 := hf9 67 rfl
            have t68 : a2.tmps.getD 68 undef = us0 68 := hf9 68 rfl
            have t69 : a2.tmps.getD 69 undef = us0 69 := hf9 69 rfl
            have t70 : a2.tmps.getD 70 undef = us0 70 := hf9 70 rfl
            have t71 : a2.tmps.getD 71 undef = us0 71 := hf9 71 rfl
            have t72 : a2.tmps.getD 72 undef = us0 72 := hf9 72 rfl
            have t73 : a2.tmps.getD 73 undef = us0 73 := hf9 73 rfl
            have t105 : a2.tmps.getD 105 undef = .bool false := hf9 105 rfl
            obtain ⟨us9, hus, ha'⟩ := act_open 106 a2 hs9 hd9
            rw [← hus] at t0 t1 t3 t4 t5 t6 t7 t8 t9 t10 t11 t12 t13 t14 t15 t16 t17 t18 t19 t20 t21 t22 t23 t24 t25 t26 t27 t28 t29 t30 t31 t32 t33 t34 t35 t36 t37 t38 t39 t40 t41 t42 t43 t44 t45 t46 t47 t48 t49 t50 t51 t52 t53 t54 t55 t56 t57 t58 t59 t60 t61 t62 t63 t64 t65 t66 t67 t68 t69 t70 t71 t72 t73 t105
            have el : ((List.range 106).map us9).toArray = #[us9 0, us9 1, us9 2, us9 3, us9 4, us9 5, us9 6, us9 7, us9 8, us9 9, us9 10, us9 11, us9 12, us9 13, us9 14, us9 15, us9 16, us9 17, us9 18, us9 19, us9 20, us9 21, us9 22, us9 23, us9 24, us9 25, us9 26, us9 27, us9 28, us9 29, us9 30, us9 31, us9 32, us9 33, us9 34, us9 35, us9 36, us9 37, us9 38, us9 39, us9 40, us9 41, us9 42, us9 43, us9 44, us9 45, us9 46, us9 47, us9 48, us9 49, us9 50, us9 51, us9 52, us9 53, us9 54, us9 55, us9 56, us9 57, us9 58, us9 59, us9 60, us9 61, us9 62, us9 63, us9 64, us9 65, us9 66, us9 67, us9 68, us9 69, us9 70, us9 71, us9 72, us9 73, us9 74, us9 75, us9 76, us9 77, us9 78, us9 79, us9 80, us9 81, us9 82, us9 83, us9 84, us9 85, us9 86, us9 87, us9 88, us9 89, us9 90, us9 91, us9 92, us9 93, us9 94, us9 95, us9 96, us9 97, us9 98, us9 99, us9 100, us9 101, us9 102, us9 103, us9 104, us9 105] := rfl
            rw [el] at ha'
            subst ha'
            rw [t0, t1, t3, t4, t5, t6, t7, t8, t9, t10, t11, t12, t13, t14, t15, t16, t17, t18, t19, t20, t21, t22, t23, t24, t25, t26, t27, t28, t29, t30, t31, t32, t33, t34, t35, t36, t37, t38, t39, t40, t41, t42, t43, t44, t45, t46, t47, t48, t49, t50, t51, t52, t53, t54, t55, t56, t57, t58, t59, t60, t61, t62, t63, t64, t65, t66, t67, t68, t69, t70, t71, t72, t73, t105]
            clear hd9 hs9 hf9 hG hus t0 t1 t3 t4 t5 t6 t7 t8 t9 t10 t11 t12 t13 t14 t15 t16 t17 t18 t19 t20 t21 t22 t23 t24 t25 t26 t27 t28 t29 t30 t31 t32 t33 t34 t35 t36 t37 t38 t39 t40 t41 t42 t43 t44 t45 t46 t47 t48 t49 t50 t51 t52 t53 t54 t55 t56 t57 t58 t59 t60 t61 t62 t63 t64 t65 t66 t67 t68 t69 t70 t71 t72 t73 t105 el
            clear HSt HTj HLd hhl hhh hN
            go_wp2
            go_roundw
            case rel => exact ⟨j + 1, by go_num, hjl, hW9.1, hW9.2⟩
            case measure => simp [intOf]; omega
          · go_wp2
            go_ret
            exact ⟨rfl, HB9.out⟩
end Go.Proofs.YtbnnjnieemjdhaaDoor
