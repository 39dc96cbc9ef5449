/- Joined: NetDel, NetTwiceP, NetWayP. -/
import Derived.Test.YtgbhfolbkgibfaaKAP
import Derived.BigQuiet
import Derived.Deep.QuietTactic
/- Layer 19: slices.Delete, walked. -/
namespace Go.Proofs.Ytgbhfolbkgibfaa
set_option maxRecDepth 20000
open Go.RowKit Go.Maps BinMath NetMath Reg
open MsgMath (Mg formedM putM getM)

set_option maxHeartbeats 4000000 in
theorem ndelete_any {w : World} {B g n c i j : Nat} {us : List Value} (h : w.ownsRow B 34 1 (.slice (some ⟨g, 0, none⟩) n c) n us) (hi : i < n) (hj : j = i + 1) (hone : ∀ u ∈ us, u.oneCell' = true) :
    Calls Try.prog 30 #[.slice (some ⟨g, 0, none⟩) n c, .int .i64 (i : Int), .int .i64 (j : Int)] w fun e w' => e = .returned (.slice (some ⟨g, 0, none⟩) (n - 1) c) ∧ w'.ownsRow B 34 1 (.slice (some ⟨g, 0, none⟩) (n - 1) c) (n - 1) (us.eraseIdx i) ∧ OnlyS (fun k => k = g) w w' := by
  obtain ⟨a', c', hv, hnc⟩ := ownsRow_shape h
  cases hv
  obtain ⟨ya, yn, yc, hY⟩ : ∃ xa xn xc, Value.slice xa xn xc = sliced (some ⟨g, 0, none⟩) i j n 1 := ⟨_, _, _, rfl⟩
  have S0 := nslice_three (some ⟨g, 0, none⟩) n c i j n (by omega) (by omega) hnc
  rw [← hY] at S0
  have S1 := nslice_to (some ⟨g, 0, none⟩) n c i (by omega)
  obtain ⟨xa, xn, xc, hX⟩ : ∃ xa xn xc, Value.slice xa xn xc = sliced (some ⟨g, 0, none⟩) j n c 1 := ⟨_, _, _, rfl⟩
  have S2 : ∀ W, (Instr.sliceAt 58 (.slice (some ⟨g, 0, none⟩) n c) (some (.int .i64 (j : Int))) none none).run Try.prog W = .ok (.slice xa xn xc) W := fun W => by rw [hX]; exact nslice_from (some ⟨g, 0, none⟩) n c j (by omega) W
  have HA := Lib.hid (show ∀ W, Below w.heap.size w W → ∃ w', (Builtin.append_ #[58, 58] 58 #[.slice (some ⟨g, 0, none⟩) i c, .slice xa xn xc]).run Try.prog W = .ok (.slice (some ⟨g, 0, none⟩) (n - 1) c) w' ∧
      (w'.ownsRow B 34 1 (.slice (some ⟨g, 0, none⟩) (n - 1) c) (n - 1) (us.eraseIdx i) ∧ OnlyS (fun k => k = g) W w') from fun W hW => by rw [hX, hj]; exact nappend_over (ownsRow_keep h hW) hi hone)
  have HC := Lib.hid hnc
  have HI := Lib.hid hi
  have hne : ¬ (i : Int) = (j : Int) := by omega
  have S3 := nslice_mid g (n - 1) c (n - 1) n (by omega) hnc (by omega)
  obtain ⟨p, hp⟩ : ∃ p, p = n - 1 := ⟨_, rfl⟩
  have HPn := Lib.hid hp
  rw [← hp] at HA S3 ⊢
  rw [show n - p = 1 by omega] at S3
  clear h hX hY hone hi hnc hp hj
  go_enter Try.func30, Try.ntmps30
  go_upto_region 5 with fail
  clear S0 hne
  refine region_tail 6 (by kernel_rfl) (by kernel_rfl) (fun W => Below w.heap.size w W) ((Below.refl _ _).drew) ?_
  intro wq hW
  have A1 := Lib.hid (HA.out wq hW)
  have HW := Lib.hid hW
  clear hW
  simp only [List.take_succ_cons, List.take_zero, List.drop_succ_cons, List.drop_zero]
  repeat (first | go_big_quiet_skip | (go_big_quiet_want; go_big_quiet_op; go_big_quiet_on))
  refine wpQuiet_nil ?_
  go_wp2_with (first
    | (at_builtin; refine wpList_append_by rfl (.tmp 22) (.tmp 25) 58 rfl _ _ rfl rfl (fun v W => v = .slice (some ⟨g, 0, none⟩) p c ∧ (W.ownsRow B 34 1 (.slice (some ⟨g, 0, none⟩) p c) p (us.eraseIdx i) ∧ OnlyS (fun k => k = g) wq W)) (by obtain ⟨w', h1, h2⟩ := A1.out; exact ⟨_, w', h1, rfl, h2⟩) ?_; rintro v1 w1 ⟨rfl, hr, ho⟩; (have HR := Lib.hid hr); (have HO := Lib.hid ho); clear hr ho; (have CL := Lib.hid (fun ty q => nclear_behind HR.out (by have := HC.out; have := HI.out; have := HPn.out; omega) ty q)))
    | (refine wpList_clear_to rfl _ 58 rfl _ rfl _ (CL.out _ _) ?_; rintro w2 ⟨hr, ho⟩; (have HR2 := Lib.hid hr); (have HO2 := Lib.hid ho); clear hr ho))
  go_ret
  exact ⟨rfl, HR2.out, ((OnlyS.of_below (S := fun k => k = g) HW.out fun _ hk _ => hk).then HO.out fun k _ e => e).then HO2.out fun k _ e => e⟩
end Go.Proofs.Ytgbhfolbkgibfaa

/- Layer 19: Twice of the landed net. -/
namespace Go.Proofs.Ytgbhfolbkgibfaa
set_option maxRecDepth 20000
open Go.RowKit Go.Maps BinMath NetMath
open MsgMath (Mg formedM putM getM)

theorem txs_cell {w : World} {B e n c : Nat} {a : Option Addr} {xs : List Value} (h : w.ownsRow B e 1 (.slice a n c) n xs) {i : Nat} {x : Value} (hx : xs[i]? = some x) : ∃ g, a = some ⟨g, 0, none⟩ ∧ w.cell? ⟨g, i, none⟩ = some x := by
  have hi := (List.getElem?_eq_some_iff.1 hx).1
  have hl := h.1
  rcases h.2 with ⟨-, h1⟩ | ⟨g, cap, cur, hv, hB, hg, hn, hm, hs, ht⟩
  · omega
  · cases hv
    refine ⟨g, rfl, ?_⟩
    rw [← ht, List.getElem?_take, if_pos (by omega), Array.getElem?_toList] at hx
    rw [(show Blk w g e cur from hg).cell]
    exact hx

set_option maxHeartbeats 1000000 in
theorem ntwice_any {w : World} {P : Nat} {n : Nt} {U : Nat → Prop} {m : Nat} {v : Value} {ts : List (Value × Mg)} (h : NIs w P n U m v ts) (i : Int) :
    Calls Try.prog 17 #[np P, .int .i64 i] w (NetEnd IsNet P U (n.twice i).2 w fun e _ => e = .returned (.int .i64 ((n.twice i).1 : Int))) := by
  have HB := Lib.hid (nhas_any h i)
  have HH := Lib.hid h
  by_cases hi : 0 ≤ i ∧ i.toNat < ts.length
  · obtain ⟨j, rfl⟩ : ∃ j : Nat, i = (j : Int) := ⟨i.toNat, by omega⟩
    have hj : j < ts.length := by omega
    have hj2 : j < n.L.length := by rw [h.len]; exact hj
    rw [decide_eq_true hi] at HB
    obtain ⟨⟨x, mg⟩, ht⟩ : ∃ t, ts[j]? = some t := ⟨ts[j], List.getElem?_eq_getElem hj⟩
    have hmem := List.mem_of_getElem? ht
    have hmg : n.L[j]? = some mg := by rw [← h.msgs, List.getElem?_map, ht]; rfl
    have hx : (ts.map Prod.fst)[j]? = some x := by rw [List.getElem?_map, ht]; rfl
    have e2 : n.twice (j : Int) = if 256 ≤ n.L.length then (7, n) else (0, ⟨n.L ++ [mg], n.W⟩) := by
      unfold Nt.twice
      rw [dif_pos ⟨by omega, by simpa using hj2⟩]
      have e3 : n.L[(j : Int).toNat]'(by simpa using hj2) = mg := by
        have := List.getElem?_eq_some_iff.1 hmg
        obtain ⟨_, h5⟩ := this
        exact h5
      rw [e3]
    have HA := Lib.hid (nadd_any h (h.txt _ hmem) (h.ut _ hmem))
    have HE := Lib.hid (show ∀ e w', NetEnd IsNet P U (if 256 ≤ n.L.length then n else ⟨n.L ++ [mg], n.W⟩) w (fun e _ => e = .returned (.int .i64 (if 256 ≤ n.L.length then 7 else 0))) e w' → NetEnd IsNet P U (n.twice (j : Int)).2 w (fun e _ => e = .returned (.int .i64 ((n.twice (j : Int)).1 : Int))) e w' from fun e w' hh => by
      rw [e2]
      by_cases hf : 256 ≤ n.L.length
      · simp only [if_pos hf] at hh ⊢; exact hh
      · simp only [if_neg hf] at hh ⊢; exact hh)
    obtain ⟨a, c, rfl, -⟩ := ownsRow_shape h.row
    obtain ⟨g, rfl, hc⟩ := txs_cell h.row hx
    obtain ⟨xa, xc, hxe, -⟩ := (h.txt _ hmem).row
    simp only at hxe
    subst hxe
    have c0 : w.cell? ⟨P, 0, none⟩ = some (.slice (some ⟨g, 0, none⟩) ts.length c) := by rw [h.blk.cell]; rfl
    have hjl : (j : Int) < (ts.length : Int) := by omega
    obtain ⟨l, hl⟩ : ∃ l, l = ts.length := ⟨_, rfl⟩
    rw [← hl] at c0 hjl
    obtain ⟨lx, hlx⟩ : ∃ l, l = (putM mg).length := ⟨_, rfl⟩
    rw [← hlx] at hc HA
    clear h hmem hx ht hmg hj hj2 hi e2 hl hlx
    go_enter Try.func17, Try.ntmps17
    go_wp2_with fail
    refine HB.out.mono ?_
    rintro e w2 ⟨rfl, rfl⟩
    go_wp2_with fail
    refine HA.out.mono ?_
    intro e w2 hh
    have HE2 := Lib.hid (HE.out _ _ hh)
    obtain rfl := hh.1
    clear hh
    obtain ⟨z, hz⟩ : ∃ z : Int, z = if 256 ≤ n.L.length then 7 else 0 := ⟨_, rfl⟩
    rw [← hz] at HE2 ⊢
    clear hz
    go_wp2
    go_ret
    exact HE2.out
  · rw [decide_eq_false hi] at HB
    have e2 : n.twice i = (9, n) := by
      unfold Nt.twice
      rw [dif_neg (by rw [h.len]; exact hi)]
    rw [e2]
    clear h e2 hi
    go_enter Try.func17, Try.ntmps17
    go_wp2_with fail
    refine HB.out.mono ?_
    rintro e w2 ⟨rfl, rfl⟩
    go_wp2
    go_ret
    exact ⟨rfl, OnlyS.refl _ _, U, ⟨m, v, ts, HH.out⟩, fun k hk => .inl hk⟩
end Go.Proofs.Ytgbhfolbkgibfaa

/- Layer 19: New, Block, Blocked of the landed net. -/
namespace Go.Proofs.Ytgbhfolbkgibfaa
set_option maxRecDepth 20000
open Go.RowKit Go.Maps BinMath NetMath
open MsgMath (Mg formedM putM getM)

theorem nnew_any (w : World) : Calls Try.prog 8 #[] w fun e w' => ∃ P U, e = .returned (.pointer (some ⟨P, 0, none⟩)) ∧ IsNet w' P Nt.none U ∧ Below w.heap.size w w' ∧ ∀ k, U k → w.heap.size ≤ k := by
  have hmk : ∀ W, (Instr.makeMap 57 none).run Try.prog W = .ok (.map (some W.heap.size)) (W.alloc (.map #[] 0)) := fun W => rfl
  go_enter Try.func8, Try.ntmps8
  go_wp2
  go_ret
  have hb1 : Below w.heap.size w (w.alloc (.map #[] 0)) := (Below.refl _ _).alloc (Nat.le_refl _) _
  have hb2 := hb1.alloc hb1.size (.cells #[.slice none 0 0, .map (some w.heap.size)] 60)
  refine ⟨w.heap.size + 1, fun k => k = w.heap.size ∨ k = w.heap.size + 1, ?_, ⟨w.heap.size, .slice none 0 0, [], ?_⟩, hb2, fun k e => by omega⟩
  · simp
  · have hbk : Blk ((w.alloc (.map #[] 0)).alloc (.cells #[.slice none 0 0, .map (some w.heap.size)] 60)) (w.heap.size + 1) 60 #[.slice none 0 0, .map (some w.heap.size)] := Blk.newAt _ _ _ _ _ (by simp) rfl
    exact { blk := hbk, row := World.ownsRow_nil _ _ _ _
            ways := (WMap.made w).same (((Below.refl _ _).alloc (Nat.le_refl _) _).block _ (by simp))
            txt := fun t e => absurd e List.not_mem_nil
            msgs := rfl, few := by simp, uP := .inr rfl, um := .inl rfl
            uv := fun k e => by simp [Value.ownBlock] at e
            ut := fun t e => absurd e List.not_mem_nil
            ul := fun k e => by simp only [World.size_alloc]; omega }

set_option maxHeartbeats 1000000 in
theorem nblocked_any {w : World} {P : Nat} {n : Nt} {U : Nat → Prop} {m : Nat} {v : Value} {ts : List (Value × Mg)} (h : NIs w P n U m v ts) (a b : Nat) (ha : a < 18446744073709551616) (hb : b < 18446744073709551616) :
    Calls Try.prog 23 #[np P, .int .u64 (a : Int), .int .u64 (b : Int)] w fun e w' => e = .returned (.bool (n.blocked a b)) ∧ Below w.heap.size w w' := by
  have hl := h.ways.look (p := (a, b)) ⟨ha, hb⟩
  unfold wv at hl
  simp only at hl
  have c1 : w.cell? ⟨P, 1, none⟩ = some (.map (some m)) := by rw [h.blk.cell]; rfl
  unfold Nt.blocked
  obtain ⟨d, hd⟩ : ∃ d, d = decide ((a, b) ∈ n.W) := ⟨_, rfl⟩
  rw [← hd] at hl ⊢
  clear h ha hb hd
  go_enter Try.func23, Try.ntmps23
  go_wp2
  go_ret
  exact ⟨rfl, (Below.refl _ _).alloc (Nat.le_refl _) _⟩

set_option maxHeartbeats 1000000 in
theorem nblock_any {w : World} {P : Nat} {n : Nt} {U : Nat → Prop} {m : Nat} {v : Value} {ts : List (Value × Mg)} (h : NIs w P n U m v ts) (a b : Nat) (yes : Bool) (ha : a < 18446744073709551616) (hb : b < 18446744073709551616) (hl : n.W.length ≤ 1000) :
    Calls Try.prog 19 #[np P, .int .u64 (a : Int), .int .u64 (b : Int), .bool yes] w (NetEnd IsNet P U (n.block a b yes) w fun e _ => e = .returned (.tuple #[])) := by
  have c1 : w.cell? ⟨P, 1, none⟩ = some (.map (some m)) := by rw [h.blk.cell]; rfl
  have hend : ∀ w', WMap w' m (blockW n.W a b yes) → OnlyS (fun k => k = m) w w' → NetEnd IsNet P U (n.block a b yes) w (fun e _ => e = .returned (.tuple #[])) (.returned (.tuple #[])) w' := fun w' hm ho => by
    refine ⟨rfl, ho.mono fun k _ e => e ▸ h.um, U, ⟨m, v, ts, ?_⟩, fun k e => .inl e⟩
    exact { blk := h.blk.onlyS ho fun e => h.ways.ne h.blk e.symm
            row := ownsRow_to h.row fun k e => ho.block k (World.ownsRow.lt h.row k e).2 fun e2 => h.ways.ne_row h.row (e2 ▸ e)
            ways := hm
            txt := fun t e => (h.txt t e).to fun k hk => ho.block k ((h.txt t e).lt hk) fun e2 => by
              obtain ⟨p, q, -, -, hr⟩ := (h.txt t e).row
              exact h.ways.ne_row hr (e2 ▸ hk)
            msgs := h.msgs, few := h.few, uP := h.uP, um := h.um, uv := h.uv, ut := h.ut
            ul := fun k e => Nat.lt_of_lt_of_le (h.ul k e) ho.size }
  have HE := Lib.hid hend
  cases yes with
  | true =>
    have S := Lib.hid (h.ways.store (p := (a, b)) ⟨ha, hb⟩ (by omega))
    unfold wv at S
    clear h ha hb hl hend
    go_enter Try.func19, Try.ntmps19
    go_wp2_with (refine wpList_mapUpdate_to rfl _ _ _ 57 rfl _ _ _ rfl rfl rfl _ S.out ?_; rintro w2 ⟨hm, ho⟩; (have HM := Lib.hid hm); (have HO := Lib.hid ho); clear hm ho)
    go_end0
    exact HE.out _ HM.out HO.out
  | false =>
    have S := Lib.hid (h.ways.drop (p := (a, b)) ⟨ha, hb⟩ 0)
    unfold wv at S
    clear h ha hb hl hend
    go_enter Try.func19, Try.ntmps19
    go_wp2_with (refine wpList_delete_to rfl _ _ 57 72 rfl _ _ rfl rfl _ S.out ?_; rintro w2 ⟨hm, ho⟩; (have HM := Lib.hid hm); (have HO := Lib.hid ho); clear hm ho)
    go_end0
    exact HE.out _ HM.out HO.out
end Go.Proofs.Ytgbhfolbkgibfaa

