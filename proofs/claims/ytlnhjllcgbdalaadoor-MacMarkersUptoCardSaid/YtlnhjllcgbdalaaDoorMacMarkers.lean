/- MacMarkers: the walk. -/
import Derived.Test.YtlnhjllcgbdalaaDoorMacOps
namespace Go.Proofs.YtlnhjllcgbdalaaDoor
open Go.RowKit ShaMath MacMath BinMath Reg

/-- While the key's copy is turned. -/
def OwnTurn (w : World) (v5 v6 : Value) (cs : Array Value) (n : Nat) (s7 : Value) (wr : World) : Prop :=
  ∃ (j : Nat) (l : List UInt8), s7 = .int .i64 j ∧ j ≤ n ∧ l.length = n ∧ wr.ownsRow w.heap.size 37 137 v6 1 cs.toList ∧ Row wr w.heap.size v5 l ∧ Below w.heap.size w wr

/-- Cells of a value that lies somewhere. -/
def CellsAt (W : World) (g o : Nat) (cs : Array Value) : Prop := ∀ j u, cs.toList[j]? = some u → W.cell? ⟨g, o + j, none⟩ = some u
theorem CellsAt.below {W W' : World} {g o : Nat} {cs : Array Value} (h : CellsAt W g o cs) (hb : Below W.heap.size W W') : CellsAt W' g o cs := fun j u hj => by
  have h1 := h j u hj
  rw [hb.cell (World.block_lt_of_cell? W _ h1)]
  exact h1
theorem own_cellsAt {W : World} {B g n c n' : Nat} {S : List (List Value)} (h : W.ownsRow B 37 137 (.slice (some ⟨g, 0, none⟩) n c) n' S.flatten) (hl : ∀ d ∈ S, d.length = 137) (k : Nat) (cs : List Value) (hS : S[k]? = some cs) (hc : cs.length = 137) (hk : k < n') : CellsAt W g (k * 137) cs.toArray := by
  intro j u hj
  have hj : cs[j]? = some u := by simpa using hj
  have hj2 := (List.getElem?_eq_some_iff.1 hj).1
  obtain ⟨g', c', e3, _⟩ := own_form h (by omega)
  cases e3
  rw [World.ownsRow.cellAt h _ (by have : k + 1 ≤ n := hk; have := Nat.mul_le_mul_right 137 this; omega)]
  exact flat_at S k _ hl hS j u hj
theorem load_cellsAt {W : World} {g o : Nat} {cs : Array Value} (h : CellsAt W g o cs) (hc : cs.size = 137) : (Instr.loadAt 37 (.pointer (some ⟨g, o, none⟩))).run Tryd.prog W = .ok (.agg cs) W := by
  have := loads_cells (P := Tryd.prog) (W := W) ⟨g, o, none⟩ 37 _ cs.toList Tryd.underlying37 rfl (by rw [Array.length_toList, hc]; kernel_rfl) (fun j u hj => by rw [addr_add]; exact h j u hj)
  simpa using this
theorem op_index (W : World) (ad : Addr) (m c i : Nat) (hi : i < m) : (Instr.indexAt 30 (.slice (some ad) m c) (.int .i64 (i : Int))).run Tryd.prog W = .ok (.pointer (some (ad.add (i * 2)))) W := by
  have ht : Tryd.prog.underlying 30 = some (.slice (Tryd.prog.elem 30)) := by
    rw [show Tryd.prog.elem 30 = 43 by kernel_rfl]
    exact Tryd.underlying30
  have hs : (Go.sizeOf (Tryd.prog.elem 30)).run Tryd.prog W = .ok 2 W := by kernel_rfl
  rw [run_indexAt_slice (h := ht), if_pos (by omega), hs]
  simp [Result.andThen]
theorem op_field (W : World) (p : Addr) : (Instr.fieldAt 43 (.pointer (some p)) 1).run Tryd.prog W = .ok (.pointer (some ⟨p.block, p.off + 1, none⟩)) W := by kernel_rfl
theorem slice_load (W : World) (p : Addr) (v : Value) (h : W.cell? p = some v) : (Instr.loadAt 22 (.pointer (some p))).run Tryd.prog W = .ok v W := by
  have hagg : (isAgg 22).run Tryd.prog W = .ok false W := by kernel_rfl
  simp [Instr.loadAt, Instr.sureAddr, loadVar, Sem.run_bind, hagg, h]

/-- append(list, one), by its row alone. -/
theorem add_marker {W : World} {B m : Nat} {v : Value} {xs : List Value} (h : W.ownsRow B 37 137 v m xs) (cs : Array Value) (hc : cs.size = 137) (h1 : ∀ u ∈ cs.toList, u.oneCell' = true) (hB : B ≤ W.heap.size) (hn : m ≤ 100) (x : Nat) (hx : Blk W x 37 cs) :
    ∃ v' w', (Builtin.append_ #[39, 39] 39 #[v, .slice (some ⟨x, 0, none⟩) 1 1]).run Tryd.prog W = .ok v' w' ∧
      (w'.ownsRow B 37 137 v' (m + 1) (xs ++ cs.toList) ∧ (∀ e size v n xs, e ≠ 37 → W.ownsRow B e size v n xs → w'.ownsRow B e size v n xs) ∧ (∀ A : World, ∀ D, D ≤ B → Below D A W → Below D A w')) := by
  obtain ⟨i0, hi, hz0, hz1, hz2⟩ := info_parts info_marker
  obtain ⟨v', w', hr, o1, o2, _⟩ := run_append_own (P := Tryd.prog) (w := W) B 39 39 37 i0 (.agg zeroMarker) 137 168 Tryd.underlying39 hi hz0 hz1 hz2 (by kernel_rfl) (by decide) v m xs h ⟨x, 0, none⟩ 1 1 cs.toList (by simp [hc])
    (fun j u hj => by rw [addr_add, Nat.zero_add, hx.cell]; simpa using hj) h1 (by unfold maxLen; omega) (by omega) hB
  exact ⟨v', w', hr, o1, fun e size v n xs hne hv => own_other hv h hne o2, fun A D hD hA => hA.grown o2 (Nat.le_trans hD hB) fun k hk => Nat.le_trans hD (World.ownsRow.lt h k hk).1⟩

set_option maxHeartbeats 2000000 in
set_option maxRecDepth 100000 in
theorem markers_walk (key : List UInt8) (a : Option Addr) (na ca : Nat) (sa : Option Addr) (n cap : Nat) (w : World) (hk : Bys w (.slice a na ca) key) (hca : na ≤ ca) (hlk : na ≤ 1048576) (ho : OpsAt w sa n) (ht : Tabs w) (hc : Consts w) :
    Calls Tryd.prog 4 #[.slice a na ca, .slice sa n cap] w fun e w' => e = .returned (.bool true) ∧ Below w.heap.size w w' := by
  have hlenk := bys_len hk
  have HV := Lib.hid hk
  have HLk := Lib.hid hlenk
  have HO := Lib.hid ho
  have HT := Lib.hid ht
  have HC := Lib.hid hc
  obtain ⟨K, hK⟩ : ∃ K, K = kb key := ⟨_, rfl⟩
  have HKe := Lib.hid hK
  clear hk hlenk ho ht hc hK
  go_enter Tryd.func4, Tryd.ntmps4
  go_wp2_with fail
  refine (awake_any _ HT.out).mono ?_
  rintro e w1 ⟨rfl, hb1⟩
  have hs1 := hb1.size
  have hb0 : Below w1.heap.size w1 (w1.alloc (.cells #[] 5)) := (Below.refl _ _).alloc (Nat.le_refl _) _
  have A1 := Lib.hid (append_lit (B := w.heap.size) (g := w1.heap.size) (w := w1.alloc (.cells #[] 5)) hs1 (heap_alloc_new w1 _) ((HV.out.below (Nat.le_refl _) hb1).below (Nat.le_refl _) hb0) (by rw [HLk.out]; omega))
  have HB1 := Lib.hid hb1
  have HB0 := Lib.hid hb0
  clear hb0 hb1
  go_upto_region 4 with (at_builtin; refine wpList_append_by rfl (.tmp 15) (.tmp 16) 22 rfl _ _ rfl rfl _ A1.out ?_; rintro v3 w2 ⟨hr3, hb2⟩; (have HR3 := Lib.hid hr3); (have HB2 := Lib.hid hb2); clear hr3 hb2)
  have hbel : Below w.heap.size w w2 := (HB1.out.trans (HB0.out.mono hs1)).trans (HB2.out.mono (by simp; omega))
  have hs2 := hbel.size
  obtain ⟨a5, c5, rfl, hc5⟩ := row_form HR3.out
  have hr3 := HR3.out
  rw [HLk.out] at hr3 hc5 ⊢
  have hnew := new_any key a5 na c5 w2 hr3.bys hc5 (by omega) (HT.out.below (Nat.le_refl _) hbel)
  rw [← HKe.out] at hnew
  have HNew := Lib.hid hnew
  have HR3 := Lib.hid hr3
  have HB3 := Lib.hid hbel
  clear hbel hr3 hnew A1 HB0 HB1 HB2
  go_wp2_with fail
  refine HNew.out.mono ?_
  rintro e w3 ⟨v3, rfl, hv3, hb3⟩
  obtain ⟨mc, rfl, hmz, hm1⟩ := hv3.form
  have hs3 := hb3.size
  have HB4 := Lib.hid (HB3.out.trans (hb3.mono hs2))
  have HR4 := Lib.hid (HR3.out.below hb3)
  have HMv := Lib.hid hv3
  have HMz := Lib.hid hmz
  have HM1 := Lib.hid hm1
  clear hb3 hv3 hmz hm1 HNew HR3 HB3
  go_upto_region 5 with (refine wpList_build_marker rfl (.tmp 19) rfl mc rfl HMz.out ?_)
  obtain ⟨g6, hg6⟩ : ∃ g, g = w3.heap.size := ⟨_, rfl⟩
  rw [← hg6]
  refine world_cut (fun W => W.ownsRow w.heap.size 37 137 (.slice (some ⟨g6, 0, none⟩) 1 1) 1 mc.toList ∧ Row W w.heap.size (.slice a5 na c5) key ∧ Below w.heap.size w W) ?_ ?_
  · refine ⟨⟨by simp [HMz.out], .inr ⟨g6, 1, mc, rfl, by omega, Blk.newAt _ _ _ _ _ hg6 rfl, Nat.le_refl _, by unfold maxLen; omega, by rw [HMz.out], ?_⟩⟩, HR4.out.below ((Below.refl _ _).alloc (Nat.le_refl _) _), HB4.out.alloc (by omega) _⟩
    simp [List.take_of_length_le, HMz.out]
  have hg6w : w.heap.size ≤ g6 := by omega
  clear hg6 HR4 HB4 hs1 hs2 hs3
  rintro W1 ⟨h1, h2, h3⟩
  have H1 := Lib.hid h1
  have H2 := Lib.hid h2
  have H3 := Lib.hid h3
  clear h1 h2 h3
  go_wp2
  go_loopw [7] (fun s7 wr => OwnTurn w (.slice a5 na c5) (.slice (some ⟨g6, 0, none⟩) 1 1) mc na s7 wr) (fun s7 _ => 1048577 - (intOf s7).toNat)
  case atStart => exact ⟨0, key, rfl, Nat.zero_le _, HLk.out, H1.out, H2.out, H3.out⟩
  case round =>
    clear H1 H2 H3
    obtain ⟨j, l, rfl, hjn, hll, hm9, hr9, hb9⟩ := hrel
    have HM9 := Lib.hid hm9
    have HB9 := Lib.hid hb9
    clear hm9 hb9
    by_cases hj : j < na
    · obtain ⟨g7, c7', e7, _⟩ := own_form hr9 (by omega)
      rw [hll] at e7
      cases e7
      obtain ⟨⟨z, hz⟩, hfz⟩ := row_cell hr9 j (by omega)
      have HR9 := Lib.hid hr9
      have HLL := Lib.hid hll
      clear hr9 hll
      go_wp2
      go_roundw
      case rel =>
        obtain ⟨b, hb⟩ := u8_wrap (z + 1)
        refine ⟨j + 1, l.set j b, by go_num, by omega, by rw [List.length_set]; exact HLL.out, ?_, ?_, ?_⟩
        · have hrow := HR9.out
          unfold Row at hrow
          rw [HLL.out] at hrow
          exact own_set HM9.out hrow (by decide) j _
        · have h := row_set HR9.out j b
          rw [← hb] at h
          first | exact h | (rw [IntKind.wrap_u8] at h; exact h)
        · exact HB9.out.setCell (World.ownsRow.lt HR9.out g7 rfl).1 _
      case measure => simp [intOf]; omega
    · clear hr9 hll
      have hsz9 := HB9.out.size
      go_upto_region 10 with fail
      obtain ⟨g8, hg8⟩ : ∃ g, g = wr.heap.size := ⟨_, rfl⟩
      rw [← hg8]
      refine world_cut (fun W => Kept K W w.heap.size (.slice (some ⟨g6, 0, none⟩) 1 1) (.slice (some ⟨g8, 0, none⟩) 1 1) [mc.toList] [[]] ∧ Below w.heap.size w W) ?_ ?_
      · refine ⟨⟨?_, ⟨rfl, .inr ⟨g8, 1, _, rfl, by omega, Blk.newAt _ _ _ _ _ hg8 rfl, Nat.le_refl _, by unfold maxLen; omega, rfl, rfl⟩⟩, rfl, ?_⟩, HB9.out.alloc hsz9 _⟩
        · have := own_below HM9.out ((Below.refl wr.heap.size wr).alloc (Nat.le_refl _) (.cells #[.string ⟨#[]⟩] 9))
          simpa using this
        · intro i c t hc ht
          match i with
          | 0 =>
            simp at hc ht
            subst hc ht
            exact ⟨by simp [HMz.out], HM1.out, by rw [HKe.out]; simpa [HKe.out] using HMv.out⟩
          | i + 1 => simp at hc
      clear hg8 HM9 HB9 hsz9 hj
      rintro W2 ⟨h1, h2⟩
      have H1 := Lib.hid h1
      have H2 := Lib.hid h2
      clear h1 h2
      refine frame_cut 114 rfl rfl ?_
      intro us0 hus
      have f0 : us0 0 = .slice a na ca := hus 0
      have f1 : us0 1 = .slice sa n cap := hus 1
      have f4 : us0 4 = .bool false := hus 4
      have f6 : us0 6 = .slice (some ⟨g6, 0, none⟩) 1 1 := hus 6
      have f8 : us0 8 = .slice (some ⟨g8, 0, none⟩) 1 1 := hus 8
      clear hus
      have el : ((List.range 114).map us0).toArray = #[us0 0, us0 1, us0 2, us0 3, us0 4, us0 5, us0 6, us0 7, us0 8, us0 9, us0 10, us0 11, us0 12, us0 13, us0 14, us0 15, us0 16, us0 17, us0 18, us0 19, us0 20, us0 21, us0 22, us0 23, us0 24, us0 25, us0 26, us0 27, us0 28, us0 29, us0 30, us0 31, us0 32, us0 33, us0 34, us0 35, us0 36, us0 37, us0 38, us0 39, us0 40, us0 41, us0 42, us0 43, us0 44, us0 45, us0 46, us0 47, us0 48, us0 49, us0 50, us0 51, us0 52, us0 53, us0 54, us0 55, us0 56, us0 57, us0 58, us0 59, us0 60, us0 61, us0 62, us0 63, us0 64, us0 65, us0 66, us0 67, us0 68, us0 69, us0 70, us0 71, us0 72, us0 73, us0 74, us0 75, us0 76, us0 77, us0 78, us0 79, us0 80, us0 81, us0 82, us0 83, us0 84, us0 85, us0 86, us0 87, us0 88, us0 89, us0 90, us0 91, us0 92, us0 93, us0 94, us0 95, us0 96, us0 97, us0 98, us0 99, us0 100, us0 101, us0 102, us0 103, us0 104, us0 105, us0 106, us0 107, us0 108, us0 109, us0 110, us0 111, us0 112, us0 113] := rfl
      rw [el, f0, f1, f4, f6, f8]
      clear el f0 f1 f4 f6 f8
      obtain ⟨wo, rfl⟩ : ∃ wo : World, wo = wr := ⟨_, rfl⟩
      go_wp2
      go_loopw [6, 8, 9] (fun s6 s8 s9 wr => MarkersAt K w n s6 s8 s9 wr) (fun _ _ s9 _ => 200 - (intOf s9).toNat)
      case atStart => exact ⟨0, [mc.toList], [[]], Nat.zero_le _, by omega, rfl, rfl, H1.out, by simp, H2.out⟩
      case round =>
        clear H1 H2
        obtain ⟨i, S, T, hin, hi30, rfl, hT, hkept, hlen, hbel⟩ := hrel
        obtain ⟨m, hm⟩ : ∃ m, m = T.length := ⟨_, rfl⟩
        rw [← hm] at hT
        obtain ⟨g3', c3, rfl, hc3⟩ := own_form hkept.states (by omega)
        obtain ⟨g4', c4, rfl, hc4⟩ := own_form hkept.texts (by omega)
        have hsz := hbel.size
        rw [← hm] at hkept
        have HKept := Lib.hid hkept
        have HLen := Lib.hid hlen
        have HBel := Lib.hid hbel
        have HM := Lib.hid hm
        clear hkept hlen hbel
        rw [← hm]
        clear hm
        have hm1' : 0 < m := by omega
        have hm31 : m ≤ 31 := by omega
        have HTl := Lib.hid hT
        clear hT
        by_cases hgo : i < n ∧ i < 30
        · obtain ⟨hi1, hi2⟩ := hgo
          obtain ⟨ad, f, A, L, C, t, rfl, hf0, hB0, hbt0, htl, hL, hLC⟩ := HO.out i hi1
          subst htl
          have hf1 : wr.cell? (ad.add (i * 2)) = some (.int .i64 f) := by rw [HBel.out.cell (World.block_lt_of_cell? w _ hf0)]; exact hf0
          obtain ⟨m1, hm1⟩ : ∃ m : Nat, IntKind.u64.wrap f = (m : Int) := ⟨(IntKind.u64.wrap f).toNat, by rw [IntKind.wrap_u64]; omega⟩
          obtain ⟨k, hk⟩ : ∃ k : Nat, (m1 : Int) % (m : Int) = (k : Int) := ⟨((m1 : Int) % (m : Int)).toNat, by rw [Int.toNat_of_nonneg (Int.emod_nonneg _ (by omega))]⟩
          have hkm : k < m := by
            have := Int.emod_lt_of_pos (m1 : Int) (show (0 : Int) < (m : Int) by omega)
            omega
          have HB0 := Lib.hid hB0
          have HBt0 := Lib.hid hbt0
          clear hf0 hB0 hbt0
          go_upto_region 14 with fail
          clear hf1 hm1 hk
          obtain ⟨cs, tk, hTk, hSk, hcz, hcs, -⟩ := HKept.out.load k (by rw [← HM.out]; exact hkm)
          have htk : tk.length ≤ i * 1048576 := HLen.out tk (List.mem_of_getElem? hTk)
          obtain ⟨cv, hcv⟩ : ∃ cv, cv = cs.toArray := ⟨_, rfl⟩
          have hcvz : cv.size = 137 := by rw [hcv]; simpa using hcz
          have hlens := HKept.out.lens
          have hkc : ∀ W, W.ownsRow w.heap.size 37 137 (.slice (some ⟨g3', 0, none⟩) m c3) T.length S.flatten → CellsAt W g3' (k * 137) cv := fun W h => by
            rw [hcv]
            exact own_cellsAt h hlens k cs hSk hcz (by rw [← HM.out]; exact hkm)
          rw [← hcv] at hcs
          have HCs := Lib.hid hcs
          have HCz := Lib.hid hcvz
          have HKc := Lib.hid hkc
          have HTk := Lib.hid hTk
          have HTkl := Lib.hid htk
          have htkb : tk.length ≤ 31457280 := Nat.le_trans htk (Nat.mul_le_mul_right 1048576 hi30)
          have HTkb := Lib.hid htkb
          clear hcs hcvz hkc hTk htk hSk hcz hcv hlens htkb
          have hG : ∀ W W' : World, (W.ownsRow w.heap.size 9 1 (.slice (some ⟨g4', 0, none⟩) m c4) T.length (txs T) ∧ Below w.heap.size w W) → Below W.heap.size W W' →
              (W'.ownsRow w.heap.size 9 1 (.slice (some ⟨g4', 0, none⟩) m c4) T.length (txs T) ∧ Below w.heap.size w W') := fun W W' h h' => ⟨own_below h.1 h', h.2.trans (h'.mono h.2.size)⟩
          have hscr : ∀ W, Below w.heap.size w W → W.cell? ⟨(ad.add (i * 2)).block, (ad.add (i * 2)).off + 1, none⟩ = some (.slice A t.length C) := fun W hW => by rw [hW.cell (World.block_lt_of_cell? w _ HB0.out)]; exact HB0.out
          have HScr := Lib.hid hscr
          clear hscr
          refine region_last_by 13 _ _ rfl [(6, .sat (fun v W => v = .slice (some ⟨g3', 0, none⟩) m c3 ∧ W.ownsRow w.heap.size 37 137 v T.length S.flatten) (fun _ _ _ h hb => ⟨h.1, own_below h.2 hb⟩)), (55, .sat (fun v W => v = .slice (some ⟨g3', 0, none⟩) m c3 ∧ W.ownsRow w.heap.size 37 137 v T.length S.flatten) (fun _ _ _ h hb => ⟨h.1, own_below h.2 hb⟩)), (56, .sat (fun v W => v = .slice (some ⟨g3', 0, none⟩) m c3 ∧ W.ownsRow w.heap.size 37 137 v T.length S.flatten) (fun _ _ _ h hb => ⟨h.1, own_below h.2 hb⟩)), (57, .is (.int .i64 (k : Int))),
              (58, .sat (fun v W => v = .pointer (some ⟨g3', k * 137, none⟩) ∧ CellsAt W g3' (k * 137) cv) (fun _ _ _ h hb => ⟨h.1, h.2.below hb⟩)), (59, .is (.agg cv)), (60, .is (.slice (some ad) n cap)), (61, .is (.int .i64 (i : Int))), (62, .is (.pointer (some (ad.add (i * 2))))),
              (63, .is (.pointer (some ⟨(ad.add (i * 2)).block, (ad.add (i * 2)).off + 1, none⟩))), (64, .is (.slice A t.length C)), (65, .sat (fun v _ => IsMarker v K (tk ++ t)) (fun _ _ _ h _ => h)),
              (66, .sat (fun v W => ∃ y cs, v = .slice (some ⟨y, 0, none⟩) 1 1 ∧ Blk W y 37 cs ∧ cs.size = 137 ∧ (∀ u ∈ cs.toList, u.oneCell' = true) ∧ IsMarker (.agg cs) K (tk ++ t)) (fun _ _ _ h hb => by obtain ⟨y, cs, h1, h2, h3⟩ := h; exact ⟨y, cs, h1, h2.keep hb, h3⟩)),
              (67, .sat (fun v W => ∃ cs : Array Value, W.ownsRow w.heap.size 37 137 v (T.length + 1) (S ++ [cs.toList]).flatten ∧ cs.size = 137 ∧ (∀ u ∈ cs.toList, u.oneCell' = true) ∧ IsMarker (.agg cs) K (tk ++ t)) (fun _ _ _ h hb => by obtain ⟨cs, h1, h2⟩ := h; exact ⟨cs, own_below h1 hb, h2⟩))]
            [0, 1, 2, 3, 4, 5, 7, 8, 9, 10, 11, 12, 13, 14, 15, 16, 17, 18, 19, 20, 21, 22, 23, 24, 25, 26, 27, 28, 29, 30, 31, 32, 33, 82, 83, 84, 85, 86, 87, 88, 89, 90, 91, 92, 93, 94, 95, 96, 97, 98, 99, 100, 101, 102, 103, 104, 105, 106, 107, 108, 109, 110, 111, 112, 113, 67] (fun W => W.ownsRow w.heap.size 9 1 (.slice (some ⟨g4', 0, none⟩) m c4) T.length (txs T) ∧ Below w.heap.size w W)
            (by kernel_rfl) (by kernel_rfl) (by kernel_rfl) (by kernel_rfl) ?_ rfl rfl rfl (by kernel_rfl) ⟨own_below HKept.out.texts (Below.refl _ _).drew, HBel.out.drew⟩ ?_ ?_
          · intro q fq hq
            by_cases h6 : q = 6
            · subst h6
              right
              obtain rfl := Option.some.inj hq
              exact ⟨rfl, own_below HKept.out.states (Below.refl _ _).drew⟩
            · left
              exact lookup_all 6 (by kernel_rfl) hq h6
          · refine ⟨?a0, ?a1, ?a2, ?a3, ?a4, ?a5, ?a6, ?a7, ?a8, ?a9, ?a10, ?a11, ?a12, trivial⟩
            case a0 => exact ask_copy (guard_none rfl) (.tmp 6) (.inl rfl) (by intro k hk; cases hk; rfl)
            case a1 => exact ask_copy (guard_none rfl) (.tmp 6) (.inl rfl) (by intro k hk; cases hk; rfl)
            case a2 => exact ask_copy (guard_none rfl) (.tmp 10) (.inl rfl) (by intro k hk; cases hk; rfl)
            case a3 => exact ask_grow hG (guard_none rfl) (fun x W hW ht => by
              have e56 : x 56 = .slice (some ⟨g3', 0, none⟩) m c3 ∧ W.ownsRow w.heap.size 37 137 (x 56) T.length S.flatten := ht 56 rfl
              have e57 : x 57 = .int .i64 (k : Int) := ht 57 rfl
              obtain ⟨e1, e2⟩ := e56
              rw [e1] at e2
              refine gives_value (v := .pointer (some ⟨g3', k * 137, none⟩)) (w' := W) ?_ ⟨Below.refl _ _, fun q hq => by cases hq; exact ⟨rfl, HKc.out W e2⟩⟩
              simp [execOp, evalBy, e1, e57, marker_index W g3' m c3 k hkm, Result.andThen])
            case a4 => exact ask_val (guard_none rfl) (.agg cv) (by intro k hk; cases hk; rfl) (fun x W hW ht => by
              have e58 : x 58 = .pointer (some ⟨g3', k * 137, none⟩) ∧ CellsAt W g3' (k * 137) cv := ht 58 rfl
              simp [execOp, evalBy, e58.1, load_cellsAt e58.2 HCz.out, Result.andThen])
            case a5 => exact ask_copy (guard_none rfl) (.tmp 1) (.inl rfl) (by intro k hk; cases hk; rfl)
            case a6 => exact ask_copy (guard_none rfl) (.tmp 9) (.inl rfl) (by intro k hk; cases hk; rfl)
            case a7 => exact ask_val (guard_none rfl) (.pointer (some (ad.add (i * 2)))) (by intro k hk; cases hk; rfl) (fun x W hW ht => by
              have e1 : x 60 = .slice (some ad) n cap := ht 60 rfl
              have e2 : x 61 = .int .i64 (i : Int) := ht 61 rfl
              simp [execOp, evalBy, e1, e2, op_index W ad n cap i hi1, Result.andThen])
            case a8 => exact ask_field (guard_none rfl) 43 (.tmp 62) 1 (.pointer (some (ad.add (i * 2)))) (.pointer (some ⟨(ad.add (i * 2)).block, (ad.add (i * 2)).off + 1, none⟩)) rfl rfl (by intro k hk; cases hk; rfl) (fun W => op_field W _)
            case a9 => exact ask_load (guard_none rfl) 22 (.tmp 63) (.pointer (some ⟨(ad.add (i * 2)).block, (ad.add (i * 2)).off + 1, none⟩)) (.slice A t.length C) rfl rfl (by intro k hk; cases hk; rfl) (fun W hW => slice_load W _ _ (HScr.out W hW.2))
            case a10 => exact ask_call hG (guard_none rfl) _ _ _ #[.agg cv, .slice A t.length C] (.sat (fun v _ => IsMarker v K (tk ++ t)) (fun _ _ _ h _ => h)) rfl (by kernel_rfl) rfl rfl (by intro k hk; cases hk; rfl) (fun W hW => by
              exact mwrite_any (.agg cv) K tk t A t.length C W HCs.out (HBt0.out.below (Nat.le_refl _) hW.2) hLC (by have := HTkb.out; omega) (by omega) (HT.out.below (Nat.le_refl _) hW.2))
            case a11 => exact ask_grow hG (guard_none rfl) (fun x W hW ht => by
              have e65 : IsMarker (x 65) K (tk ++ t) := ht 65 rfl
              obtain ⟨cs, e1, h1, h2⟩ := e65.form
              rw [e1] at e65
              refine gives_value (v := .slice (some ⟨W.heap.size, 0, none⟩) 1 1) (w' := W.alloc (.cells cs 37)) ?_ ⟨(Below.refl _ _).alloc (Nat.le_refl _) _, fun q hq => by cases hq; exact ⟨W.heap.size, cs, rfl, Blk.new W _ _, h1, h2, e65⟩⟩
              have hb := build_marker W cs h1
              simp only [execOp, List.map_toArray, List.map_cons, List.map_nil, evalBy, e1, Sem.run_bind, hb, Result.andThen_ok, Sem.run_pure])
            case a12 => exact ask_write (guard_none rfl) (by kernel_rfl) (fun x W hW ht => by
              have e55 : x 55 = .slice (some ⟨g3', 0, none⟩) m c3 ∧ W.ownsRow w.heap.size 37 137 (x 55) T.length S.flatten := ht 55 rfl
              have e66 : ∃ y cs, x 66 = .slice (some ⟨y, 0, none⟩) 1 1 ∧ Blk W y 37 cs ∧ cs.size = 137 ∧ (∀ u ∈ cs.toList, u.oneCell' = true) ∧ IsMarker (.agg cs) K (tk ++ t) := ht 66 rfl
              obtain ⟨y, cs, e66, hy, h1, h2, h3⟩ := e66
              obtain ⟨v', w', hr, r1, r2, r3⟩ := add_marker e55.2 cs h1 h2 hW.2.size (by rw [← HM.out]; omega) y hy
              refine gives_value (v := v') (w' := w') ?_ ⟨⟨r2 _ _ _ _ _ (by decide) hW.1, r3 w _ (Nat.le_refl _) hW.2⟩, fun q hq => by cases hq; exact ⟨cs, by simpa using r1, h1, h2, h3⟩⟩
              simp [execOp, resolve, invoke, builtin, evalBy, e66, hr, Result.andThen])
          intro a' W9 hW9 hd9 hs9 hf9
          have t0 : a'.tmps.getD 0 undef = .slice a na ca := hf9 0 rfl
          have t1 : a'.tmps.getD 1 undef = .slice (some ad) n cap := hf9 1 rfl
          have t2 : a'.tmps.getD 2 undef = us0 2 := hf9 2 rfl
          have t3 : a'.tmps.getD 3 undef = us0 3 := hf9 3 rfl
          have t4 : a'.tmps.getD 4 undef = .bool false := hf9 4 rfl
          have t5 : a'.tmps.getD 5 undef = us0 5 := hf9 5 rfl
          have t7 : a'.tmps.getD 7 undef = us0 7 := hf9 7 rfl
          have t8 : a'.tmps.getD 8 undef = .slice (some ⟨g4', 0, none⟩) m c4 := hf9 8 rfl
          have t9 : a'.tmps.getD 9 undef = .int .i64 (i : Int) := hf9 9 rfl
          have t10 : a'.tmps.getD 10 undef = .int .i64 (k : Int) := hf9 10 rfl
          have t11 : a'.tmps.getD 11 undef = us0 11 := hf9 11 rfl
          have t12 : a'.tmps.getD 12 undef = us0 12 := hf9 12 rfl
          have t13 : a'.tmps.getD 13 undef = us0 13 := hf9 13 rfl
          have t14 : a'.tmps.getD 14 undef = us0 14 := hf9 14 rfl
          have t15 : a'.tmps.getD 15 undef = us0 15 := hf9 15 rfl
          have t16 : a'.tmps.getD 16 undef = us0 16 := hf9 16 rfl
          have t17 : a'.tmps.getD 17 undef = us0 17 := hf9 17 rfl
          have t18 : a'.tmps.getD 18 undef = us0 18 := hf9 18 rfl
          have t19 : a'.tmps.getD 19 undef = us0 19 := hf9 19 rfl
          have t20 : a'.tmps.getD 20 undef = us0 20 := hf9 20 rfl
          have t21 : a'.tmps.getD 21 undef = us0 21 := hf9 21 rfl
          have t22 : a'.tmps.getD 22 undef = us0 22 := hf9 22 rfl
          have t23 : a'.tmps.getD 23 undef = us0 23 := hf9 23 rfl
          have t24 : a'.tmps.getD 24 undef = us0 24 := hf9 24 rfl
          have t25 : a'.tmps.getD 25 undef = us0 25 := hf9 25 rfl
          have t26 : a'.tmps.getD 26 undef = us0 26 := hf9 26 rfl
          have t27 : a'.tmps.getD 27 undef = us0 27 := hf9 27 rfl
          have t28 : a'.tmps.getD 28 undef = us0 28 := hf9 28 rfl
          have t29 : a'.tmps.getD 29 undef = us0 29 := hf9 29 rfl
          have t30 : a'.tmps.getD 30 undef = us0 30 := hf9 30 rfl
          have t31 : a'.tmps.getD 31 undef = us0 31 := hf9 31 rfl
          have t32 : a'.tmps.getD 32 undef = us0 32 := hf9 32 rfl
          have t33 : a'.tmps.getD 33 undef = us0 33 := hf9 33 rfl
          have t82 : a'.tmps.getD 82 undef = us0 82 := hf9 82 rfl
          have t83 : a'.tmps.getD 83 undef = us0 83 := hf9 83 rfl
          have t84 : a'.tmps.getD 84 undef = us0 84 := hf9 84 rfl
          have t85 : a'.tmps.getD 85 undef = us0 85 := hf9 85 rfl
          have t86 : a'.tmps.getD 86 undef = us0 86 := hf9 86 rfl
          have t87 : a'.tmps.getD 87 undef = us0 87 := hf9 87 rfl
          have t88 : a'.tmps.getD 88 undef = us0 88 := hf9 88 rfl
          have t89 : a'.tmps.getD 89 undef = us0 89 := hf9 89 rfl
          have t90 : a'.tmps.getD 90 undef = us0 90 := hf9 90 rfl
          have t91 : a'.tmps.getD 91 undef = us0 91 := hf9 91 rfl
          have t92 : a'.tmps.getD 92 undef = us0 92 := hf9 92 rfl
          have t93 : a'.tmps.getD 93 undef = us0 93 := hf9 93 rfl
          have t94 : a'.tmps.getD 94 undef = us0 94 := hf9 94 rfl
          have t95 : a'.tmps.getD 95 undef = us0 95 := hf9 95 rfl
          have t96 : a'.tmps.getD 96 undef = us0 96 := hf9 96 rfl
          have t97 : a'.tmps.getD 97 undef = us0 97 := hf9 97 rfl
          have t98 : a'.tmps.getD 98 undef = us0 98 := hf9 98 rfl
          have t99 : a'.tmps.getD 99 undef = us0 99 := hf9 99 rfl
          have t100 : a'.tmps.getD 100 undef = us0 100 := hf9 100 rfl
          have t101 : a'.tmps.getD 101 undef = us0 101 := hf9 101 rfl
          have t102 : a'.tmps.getD 102 undef = us0 102 := hf9 102 rfl
          have t103 : a'.tmps.getD 103 undef = us0 103 := hf9 103 rfl
          have t104 : a'.tmps.getD 104 undef = us0 104 := hf9 104 rfl
          have t105 : a'.tmps.getD 105 undef = us0 105 := hf9 105 rfl
          have t106 : a'.tmps.getD 106 undef = us0 106 := hf9 106 rfl
          have t107 : a'.tmps.getD 107 undef = us0 107 := hf9 107 rfl
          have t108 : a'.tmps.getD 108 undef = us0 108 := hf9 108 rfl
          have t109 : a'.tmps.getD 109 undef = us0 109 := hf9 109 rfl
          have t110 : a'.tmps.getD 110 undef = us0 110 := hf9 110 rfl
          have t111 : a'.tmps.getD 111 undef = us0 111 := hf9 111 rfl
          have t112 : a'.tmps.getD 112 undef = us0 112 := hf9 112 rfl
          have t113 : a'.tmps.getD 113 undef = us0 113 := hf9 113 rfl
          have rX : ∃ cs : Array Value, W9.ownsRow w.heap.size 37 137 (a'.tmps.getD 67 undef) (T.length + 1) (S ++ [cs.toList]).flatten ∧ cs.size = 137 ∧ (∀ u ∈ cs.toList, u.oneCell' = true) ∧ IsMarker (.agg cs) K (tk ++ t) := hf9 67 rfl
          obtain ⟨us9, hus, ha'⟩ := act_open 114 a' hs9 hd9
          rw [← hus] at t0 t1 t2 t3 t4 t5 t7 t8 t9 t10 t11 t12 t13 t14 t15 t16 t17 t18 t19 t20 t21 t22 t23 t24 t25 t26 t27 t28 t29 t30 t31 t32 t33 t82 t83 t84 t85 t86 t87 t88 t89 t90 t91 t92 t93 t94 t95 t96 t97 t98 t99 t100 t101 t102 t103 t104 t105 t106 t107 t108 t109 t110 t111 t112 t113 rX
          have el : ((List.range 114).map us9).toArray = #[us9 0, us9 1, us9 2, us9 3, us9 4, us9 5, us9 6, us9 7, us9 8, us9 9, us9 10, us9 11, us9 12, us9 13, us9 14, us9 15, us9 16, us9 17, us9 18, us9 19, us9 20, us9 21, us9 22, us9 23, us9 24, us9 25, us9 26, us9 27, us9 28, us9 29, us9 30, us9 31, us9 32, us9 33, us9 34, us9 35, us9 36, us9 37, us9 38, us9 39, us9 40, us9 41, us9 42, us9 43, us9 44, us9 45, us9 46, us9 47, us9 48, us9 49, us9 50, us9 51, us9 52, us9 53, us9 54, us9 55, us9 56, us9 57, us9 58, us9 59, us9 60, us9 61, us9 62, us9 63, us9 64, us9 65, us9 66, us9 67, us9 68, us9 69, us9 70, us9 71, us9 72, us9 73, us9 74, us9 75, us9 76, us9 77, us9 78, us9 79, us9 80, us9 81, us9 82, us9 83, us9 84, us9 85, us9 86, us9 87, us9 88, us9 89, us9 90, us9 91, us9 92, us9 93, us9 94, us9 95, us9 96, us9 97, us9 98, us9 99, us9 100, us9 101, us9 102, us9 103, us9 104, us9 105, us9 106, us9 107, us9 108, us9 109, us9 110, us9 111, us9 112, us9 113] := rfl
          rw [el] at ha'
          subst ha'
          rw [t0, t1, t2, t3, t4, t5, t7, t8, t9, t10, t11, t12, t13, t14, t15, t16, t17, t18, t19, t20, t21, t22, t23, t24, t25, t26, t27, t28, t29, t30, t31, t32, t33, t82, t83, t84, t85, t86, t87, t88, t89, t90, t91, t92, t93, t94, t95, t96, t97, t98, t99, t100, t101, t102, t103, t104, t105, t106, t107, t108, t109, t110, t111, t112, t113]
          clear hus t0 t1 t2 t3 t4 t5 t7 t8 t9 t10 t11 t12 t13 t14 t15 t16 t17 t18 t19 t20 t21 t22 t23 t24 t25 t26 t27 t28 t29 t30 t31 t32 t33 t82 t83 t84 t85 t86 t87 t88 t89 t90 t91 t92 t93 t94 t95 t96 t97 t98 t99 t100 t101 t102 t103 t104 t105 t106 t107 t108 t109 t110 t111 t112 t113 el hf9 hs9 hd9
          obtain ⟨v6, hv6⟩ : ∃ v, v = us9 67 := ⟨_, rfl⟩
          rw [← hv6] at rX ⊢
          obtain ⟨cs8, h8a, hz8, ho8, h8⟩ := rX
          obtain ⟨h91, h92⟩ := hW9
          have HEa := Lib.hid HKept.out.each
          have HEl := Lib.hid HKept.out.len
          have H8a := Lib.hid h8a
          have HZ8 := Lib.hid hz8
          have HO8 := Lib.hid ho8
          have H8 := Lib.hid h8
          have HT9 := Lib.hid h91
          have HW9 := Lib.hid h92
          clear hv6 h8a hz8 ho8 h8 h91 h92 hG HKept HBel HCs HCz HKc
          obtain ⟨wo, rfl⟩ : ∃ wo : World, wo = wr := ⟨_, rfl⟩
          go_upto_region 15 with fail
          have hG : ∀ W W' : World, (W.ownsRow w.heap.size 37 137 v6 (T.length + 1) (S ++ [cs8.toList]).flatten ∧ Below w.heap.size w W) → Below W.heap.size W W' →
              (W'.ownsRow w.heap.size 37 137 v6 (T.length + 1) (S ++ [cs8.toList]).flatten ∧ Below w.heap.size w W') := fun W W' h h' => ⟨own_below h.1 h', h.2.trans (h'.mono h.2.size)⟩
          refine region_last_by 14 _ _ rfl [(8, .sat (fun v W => v = .slice (some ⟨g4', 0, none⟩) m c4 ∧ W.ownsRow w.heap.size 9 1 v T.length (txs T)) (fun _ _ _ h hb => ⟨h.1, own_below h.2 hb⟩)), (68, .sat (fun v W => v = .slice (some ⟨g4', 0, none⟩) m c4 ∧ W.ownsRow w.heap.size 9 1 v T.length (txs T)) (fun _ _ _ h hb => ⟨h.1, own_below h.2 hb⟩)), (69, .sat (fun v W => v = .slice (some ⟨g4', 0, none⟩) m c4 ∧ W.ownsRow w.heap.size 9 1 v T.length (txs T)) (fun _ _ _ h hb => ⟨h.1, own_below h.2 hb⟩)), (70, .is (.int .i64 (k : Int))),
              (71, .sat (fun v W => v = .pointer (some ⟨g4', k, none⟩) ∧ W.cell? ⟨g4', k, none⟩ = some (.string ⟨tk.toArray⟩)) (fun _ _ _ h hb => ⟨h.1, by rw [hb.cell (World.block_lt_of_cell? _ _ h.2)]; exact h.2⟩)),
              (72, .is (.string ⟨tk.toArray⟩)), (73, .is (.slice (some ad) n cap)), (74, .is (.int .i64 (i : Int))), (75, .is (.pointer (some (ad.add (i * 2))))), (76, .is (.pointer (some ⟨(ad.add (i * 2)).block, (ad.add (i * 2)).off + 1, none⟩))), (77, .is (.slice A t.length C)), (78, .is (.string ⟨t.toArray⟩)), (79, .is (.string ⟨(tk ++ t).toArray⟩)),
              (80, .sat (fun v W => ∃ x, v = .slice (some ⟨x, 0, none⟩) 1 1 ∧ Blk W x 9 #[.string ⟨(tk ++ t).toArray⟩]) (fun _ _ _ h hb => by obtain ⟨x, h1, h2⟩ := h; exact ⟨x, h1, h2.keep hb⟩)),
              (81, .sat (fun v W => W.ownsRow w.heap.size 9 1 v (T ++ [tk ++ t]).length (txs (T ++ [tk ++ t]))) (fun _ _ _ h hb => own_below h hb))]
            [0, 1, 2, 3, 4, 5, 6, 7, 9, 11, 12, 13, 14, 15, 16, 17, 18, 19, 20, 21, 22, 23, 24, 25, 26, 27, 28, 29, 30, 31, 32, 33, 82, 83, 84, 85, 86, 87, 88, 89, 90, 91, 92, 93, 94, 95, 96, 97, 98, 99, 100, 101, 102, 103, 104, 105, 106, 107, 108, 109, 110, 111, 112, 113, 81] (fun W => W.ownsRow w.heap.size 37 137 v6 (T.length + 1) (S ++ [cs8.toList]).flatten ∧ Below w.heap.size w W)
            (by kernel_rfl) (by kernel_rfl) (by kernel_rfl) (by kernel_rfl) ?_ rfl rfl rfl (by kernel_rfl) ⟨own_below H8a.out (Below.refl _ _).drew, HW9.out.drew⟩ ?_ ?_
          · intro q fq hq
            by_cases h8 : q = 8
            · subst h8
              right
              obtain rfl := Option.some.inj hq
              exact ⟨rfl, own_below HT9.out (Below.refl _ _).drew⟩
            · left
              exact lookup_all 8 (by kernel_rfl) hq h8
          · refine ⟨?b0, ?b1, ?b2, ?b3, ?b4, ?b5, ?b6, ?b7, ?b8, ?b9, ?b10, ?b11, ?b12, ?b13, trivial⟩
            case b0 => exact ask_copy (guard_none rfl) (.tmp 8) (.inl rfl) (by intro k hk; cases hk; rfl)
            case b1 => exact ask_copy (guard_none rfl) (.tmp 8) (.inl rfl) (by intro k hk; cases hk; rfl)
            case b2 => exact ask_copy (guard_none rfl) (.tmp 10) (.inl rfl) (by intro k hk; cases hk; rfl)
            case b3 => exact ask_grow hG (guard_none rfl) (fun x W hW ht => by
              have e69 : x 69 = .slice (some ⟨g4', 0, none⟩) m c4 ∧ W.ownsRow w.heap.size 9 1 (x 69) T.length (txs T) := ht 69 rfl
              have e70 : x 70 = .int .i64 (k : Int) := ht 70 rfl
              obtain ⟨e1, e2⟩ := e69
              rw [e1, ← HM.out] at e2
              have hcell : W.cell? ⟨g4', k, none⟩ = some (.string ⟨tk.toArray⟩) := by
                rw [World.ownsRow.cellAt e2 k (by omega), txs, List.getElem?_map, HTk.out]
                rfl
              refine gives_value (v := .pointer (some ⟨g4', k, none⟩)) (w' := W) ?_ ⟨Below.refl _ _, fun q hq => by cases hq; exact ⟨rfl, hcell⟩⟩
              simp [execOp, evalBy, e1, e70, text_index W g4' m c4 k hkm, Result.andThen])
            case b4 => exact ask_val (guard_none rfl) (.string ⟨tk.toArray⟩) (by intro k hk; cases hk; rfl) (fun x W hW ht => by
              have e71 : x 71 = .pointer (some ⟨g4', k, none⟩) ∧ W.cell? ⟨g4', k, none⟩ = some (.string ⟨tk.toArray⟩) := ht 71 rfl
              simp [execOp, evalBy, e71.1, text_load W _ _ e71.2, Result.andThen])
            case b5 => exact ask_copy (guard_none rfl) (.tmp 1) (.inl rfl) (by intro k hk; cases hk; rfl)
            case b6 => exact ask_copy (guard_none rfl) (.tmp 9) (.inl rfl) (by intro k hk; cases hk; rfl)
            case b7 => exact ask_val (guard_none rfl) (.pointer (some (ad.add (i * 2)))) (by intro k hk; cases hk; rfl) (fun x W hW ht => by
              have e1 : x 73 = .slice (some ad) n cap := ht 73 rfl
              have e2 : x 74 = .int .i64 (i : Int) := ht 74 rfl
              simp [execOp, evalBy, e1, e2, op_index W ad n cap i hi1, Result.andThen])
            case b8 => exact ask_field (guard_none rfl) 43 (.tmp 75) 1 (.pointer (some (ad.add (i * 2)))) (.pointer (some ⟨(ad.add (i * 2)).block, (ad.add (i * 2)).off + 1, none⟩)) rfl rfl (by intro k hk; cases hk; rfl) (fun W => op_field W _)
            case b9 => exact ask_load (guard_none rfl) 22 (.tmp 76) (.pointer (some ⟨(ad.add (i * 2)).block, (ad.add (i * 2)).off + 1, none⟩)) (.slice A t.length C) rfl rfl (by intro k hk; cases hk; rfl) (fun W hW => slice_load W _ _ (HScr.out W hW.2))
            case b10 => exact ask_string_is (guard_none rfl) (.tmp 77) (.slice A t.length C) t rfl (fun W hW => HBt0.out.below (Nat.le_refl _) hW.2) rfl (by intro k hk; cases hk; rfl)
            case b11 => exact ask_bin (guard_none rfl) _ _ _ _ _ _ _ _ rfl rfl rfl (by intro k hk; cases hk; rfl) (fun W => text_add tk t (by have := HTkb.out; omega) _ _ W)
            case b12 => exact ask_grow hG (guard_none rfl) (fun x W hW ht => by
              have e79 : x 79 = .string ⟨(tk ++ t).toArray⟩ := ht 79 rfl
              refine gives_value (v := .slice (some ⟨W.heap.size, 0, none⟩) 1 1) (w' := W.alloc (.cells #[.string ⟨(tk ++ t).toArray⟩] 9)) ?_ ⟨(Below.refl _ _).alloc (Nat.le_refl _) _, fun q hq => by cases hq; exact ⟨W.heap.size, rfl, Blk.new W _ _⟩⟩
              have hb := text_build W ⟨(tk ++ t).toArray⟩
              simp only [execOp, List.map_toArray, List.map_cons, List.map_nil, evalBy, e79, Sem.run_bind, hb, Result.andThen_ok, Sem.run_pure])
            case b13 => exact ask_write (guard_none rfl) (by kernel_rfl) (fun x W hW ht => by
              have e68 : x 68 = .slice (some ⟨g4', 0, none⟩) m c4 ∧ W.ownsRow w.heap.size 9 1 (x 68) T.length (txs T) := ht 68 rfl
              have e80 : ∃ y, x 80 = .slice (some ⟨y, 0, none⟩) 1 1 ∧ Blk W y 9 #[.string ⟨(tk ++ t).toArray⟩] := ht 80 rfl
              obtain ⟨y, e80, hy⟩ := e80
              obtain ⟨v', w', hr, r1, r2, r3⟩ := add_text e68.2 (tk ++ t) hW.2.size (by rw [← HM.out]; omega) y hy
              refine gives_value (v := v') (w' := w') ?_ ⟨⟨r2 _ _ _ _ _ (by decide) hW.1, r3 w _ (Nat.le_refl _) hW.2⟩, fun q hq => by cases hq; exact r1⟩
              simp [execOp, resolve, invoke, builtin, evalBy, e80, hr, Result.andThen])
          intro a2 W8 hW8 hd8 hs8 hf8
          have t0 : a2.tmps.getD 0 undef = .slice a na ca := hf8 0 rfl
          have t1 : a2.tmps.getD 1 undef = .slice (some ad) n cap := hf8 1 rfl
          have t2 : a2.tmps.getD 2 undef = us0 2 := hf8 2 rfl
          have t3 : a2.tmps.getD 3 undef = us0 3 := hf8 3 rfl
          have t4 : a2.tmps.getD 4 undef = .bool false := hf8 4 rfl
          have t5 : a2.tmps.getD 5 undef = us0 5 := hf8 5 rfl
          have t6 : a2.tmps.getD 6 undef = v6 := hf8 6 rfl
          have t7 : a2.tmps.getD 7 undef = us0 7 := hf8 7 rfl
          have t9 : a2.tmps.getD 9 undef = .int .i64 (i : Int) := hf8 9 rfl
          have t11 : a2.tmps.getD 11 undef = us0 11 := hf8 11 rfl
          have t12 : a2.tmps.getD 12 undef = us0 12 := hf8 12 rfl
          have t13 : a2.tmps.getD 13 undef = us0 13 := hf8 13 rfl
          have t14 : a2.tmps.getD 14 undef = us0 14 := hf8 14 rfl
          have t15 : a2.tmps.getD 15 undef = us0 15 := hf8 15 rfl
          have t16 : a2.tmps.getD 16 undef = us0 16 := hf8 16 rfl
          have t17 : a2.tmps.getD 17 undef = us0 17 := hf8 17 rfl
          have t18 : a2.tmps.getD 18 undef = us0 18 := hf8 18 rfl
          have t19 : a2.tmps.getD 19 undef = us0 19 := hf8 19 rfl
          have t20 : a2.tmps.getD 20 undef = us0 20 := hf8 20 rfl
          have t21 : a2.tmps.getD 21 undef = us0 21 := hf8 21 rfl
          have t22 : a2.tmps.getD 22 undef = us0 22 := hf8 22 rfl
          have t23 : a2.tmps.getD 23 undef = us0 23 := hf8 23 rfl
          have t24 : a2.tmps.getD 24 undef = us0 24 := hf8 24 rfl
          have t25 : a2.tmps.getD 25 undef = us0 25 := hf8 25 rfl
          have t26 : a2.tmps.getD 26 undef = us0 26 := hf8 26 rfl
          have t27 : a2.tmps.getD 27 undef = us0 27 := hf8 27 rfl
          have t28 : a2.tmps.getD 28 undef = us0 28 := hf8 28 rfl
          have t29 : a2.tmps.getD 29 undef = us0 29 := hf8 29 rfl
          have t30 : a2.tmps.getD 30 undef = us0 30 := hf8 30 rfl
          have t31 : a2.tmps.getD 31 undef = us0 31 := hf8 31 rfl
          have t32 : a2.tmps.getD 32 undef = us0 32 := hf8 32 rfl
          have t33 : a2.tmps.getD 33 undef = us0 33 := hf8 33 rfl
          have t82 : a2.tmps.getD 82 undef = us0 82 := hf8 82 rfl
          have t83 : a2.tmps.getD 83 undef = us0 83 := hf8 83 rfl
          have t84 : a2.tmps.getD 84 undef = us0 84 := hf8 84 rfl
          have t85 : a2.tmps.getD 85 undef = us0 85 := hf8 85 rfl
          have t86 : a2.tmps.getD 86 undef = us0 86 := hf8 86 rfl
          have t87 : a2.tmps.getD 87 undef = us0 87 := hf8 87 rfl
          have t88 : a2.tmps.getD 88 undef = us0 88 := hf8 88 rfl
          have t89 : a2.tmps.getD 89 undef = us0 89 := hf8 89 rfl
          have t90 : a2.tmps.getD 90 undef = us0 90 := hf8 90 rfl
          have t91 : a2.tmps.getD 91 undef = us0 91 := hf8 91 rfl
          have t92 : a2.tmps.getD 92 undef = us0 92 := hf8 92 rfl
          have t93 : a2.tmps.getD 93 undef = us0 93 := hf8 93 rfl
          have t94 : a2.tmps.getD 94 undef = us0 94 := hf8 94 rfl
          have t95 : a2.tmps.getD 95 undef = us0 95 := hf8 95 rfl
          have t96 : a2.tmps.getD 96 undef = us0 96 := hf8 96 rfl
          have t97 : a2.tmps.getD 97 undef = us0 97 := hf8 97 rfl
          have t98 : a2.tmps.getD 98 undef = us0 98 := hf8 98 rfl
          have t99 : a2.tmps.getD 99 undef = us0 99 := hf8 99 rfl
          have t100 : a2.tmps.getD 100 undef = us0 100 := hf8 100 rfl
          have t101 : a2.tmps.getD 101 undef = us0 101 := hf8 101 rfl
          have t102 : a2.tmps.getD 102 undef = us0 102 := hf8 102 rfl
          have t103 : a2.tmps.getD 103 undef = us0 103 := hf8 103 rfl
          have t104 : a2.tmps.getD 104 undef = us0 104 := hf8 104 rfl
          have t105 : a2.tmps.getD 105 undef = us0 105 := hf8 105 rfl
          have t106 : a2.tmps.getD 106 undef = us0 106 := hf8 106 rfl
          have t107 : a2.tmps.getD 107 undef = us0 107 := hf8 107 rfl
          have t108 : a2.tmps.getD 108 undef = us0 108 := hf8 108 rfl
          have t109 : a2.tmps.getD 109 undef = us0 109 := hf8 109 rfl
          have t110 : a2.tmps.getD 110 undef = us0 110 := hf8 110 rfl
          have t111 : a2.tmps.getD 111 undef = us0 111 := hf8 111 rfl
          have t112 : a2.tmps.getD 112 undef = us0 112 := hf8 112 rfl
          have t113 : a2.tmps.getD 113 undef = us0 113 := hf8 113 rfl
          have rX : W8.ownsRow w.heap.size 9 1 (a2.tmps.getD 81 undef) (T ++ [tk ++ t]).length (txs (T ++ [tk ++ t])) := hf8 81 rfl
          obtain ⟨us8, hus, ha'⟩ := act_open 114 a2 hs8 hd8
          rw [← hus] at t0 t1 t2 t3 t4 t5 t6 t7 t9 t11 t12 t13 t14 t15 t16 t17 t18 t19 t20 t21 t22 t23 t24 t25 t26 t27 t28 t29 t30 t31 t32 t33 t82 t83 t84 t85 t86 t87 t88 t89 t90 t91 t92 t93 t94 t95 t96 t97 t98 t99 t100 t101 t102 t103 t104 t105 t106 t107 t108 t109 t110 t111 t112 t113 rX
          have el : ((List.range 114).map us8).toArray = #[us8 0, us8 1, us8 2, us8 3, us8 4, us8 5, us8 6, us8 7, us8 8, us8 9, us8 10, us8 11, us8 12, us8 13, us8 14, us8 15, us8 16, us8 17, us8 18, us8 19, us8 20, us8 21, us8 22, us8 23, us8 24, us8 25, us8 26, us8 27, us8 28, us8 29, us8 30, us8 31, us8 32, us8 33, us8 34, us8 35, us8 36, us8 37, us8 38, us8 39, us8 40, us8 41, us8 42, us8 43, us8 44, us8 45, us8 46, us8 47, us8 48, us8 49, us8 50, us8 51, us8 52, us8 53, us8 54, us8 55, us8 56, us8 57, us8 58, us8 59, us8 60, us8 61, us8 62, us8 63, us8 64, us8 65, us8 66, us8 67, us8 68, us8 69, us8 70, us8 71, us8 72, us8 73, us8 74, us8 75, us8 76, us8 77, us8 78, us8 79, us8 80, us8 81, us8 82, us8 83, us8 84, us8 85, us8 86, us8 87, us8 88, us8 89, us8 90, us8 91, us8 92, us8 93, us8 94, us8 95, us8 96, us8 97, us8 98, us8 99, us8 100, us8 101, us8 102, us8 103, us8 104, us8 105, us8 106, us8 107, us8 108, us8 109, us8 110, us8 111, us8 112, us8 113] := rfl
          rw [el] at ha'
          subst ha'
          rw [t0, t1, t2, t3, t4, t5, t6, t7, t9, t11, t12, t13, t14, t15, t16, t17, t18, t19, t20, t21, t22, t23, t24, t25, t26, t27, t28, t29, t30, t31, t32, t33, t82, t83, t84, t85, t86, t87, t88, t89, t90, t91, t92, t93, t94, t95, t96, t97, t98, t99, t100, t101, t102, t103, t104, t105, t106, t107, t108, t109, t110, t111, t112, t113]
          clear hus t0 t1 t2 t3 t4 t5 t6 t7 t9 t11 t12 t13 t14 t15 t16 t17 t18 t19 t20 t21 t22 t23 t24 t25 t26 t27 t28 t29 t30 t31 t32 t33 t82 t83 t84 t85 t86 t87 t88 t89 t90 t91 t92 t93 t94 t95 t96 t97 t98 t99 t100 t101 t102 t103 t104 t105 t106 t107 t108 t109 t110 t111 t112 t113 el hf8 hs8 hd8
          obtain ⟨v8, hv8⟩ : ∃ v, v = us8 81 := ⟨_, rfl⟩
          rw [← hv8] at rX ⊢
          obtain ⟨h81, h82⟩ := hW8
          have hk9 := Kept.more HEl.out HEa.out cs8 (tk ++ t) HZ8.out HO8.out H8.out h81 rX
          have hlen9 := lens_more HLen.out HTkl.out hL
          have hT9 : (T ++ [tk ++ t]).length = i + 1 + 1 := by rw [List.length_append, ← HM.out, HTl.out]; rfl
          obtain ⟨S9, hS9⟩ : ∃ S9, S9 = S ++ [cs8.toList] := ⟨_, rfl⟩
          obtain ⟨T9, hTT⟩ : ∃ T9, T9 = T ++ [tk ++ t] := ⟨_, rfl⟩
          rw [← hTT] at hk9 hlen9 hT9
          rw [← hS9] at hk9
          have HK9 := Lib.hid hk9
          have HLen9 := Lib.hid hlen9
          have HT9' := Lib.hid hT9
          have HB9 := Lib.hid h82
          clear hv8 hk9 hlen9 hT9 h81 h82 rX hS9 hTT hG HEa HEl HT9 H8a HW9 H8 HO8 HZ8 HTk HTkl HTkb HLen HM HTl hm1' hm31 HScr HB0 HBt0
          clear hc3 hc4 hsz
          go_wp2
          go_roundw
          case rel => exact ⟨i + 1, S9, T9, by omega, by omega, by go_num, HT9'.out, HK9.out, HLen9.out, HB9.out⟩
          case measure => simp [intOf]; omega
        · clear HO
          go_upto_region 16 with fail
          all_goals
            refine frame_cut 114 rfl rfl ?_
            intro us1 hus
            have f0 : us1 0 = .slice a na ca := hus 0
            have f4 : us1 4 = .bool false := hus 4
            have f6 : us1 6 = (.slice (some ⟨g3', 0, none⟩) m c3 : Value) := hus 6
            have f8 : us1 8 = (.slice (some ⟨g4', 0, none⟩) m c4 : Value) := hus 8
            clear hus
            have el : ((List.range 114).map us1).toArray = #[us1 0, us1 1, us1 2, us1 3, us1 4, us1 5, us1 6, us1 7, us1 8, us1 9, us1 10, us1 11, us1 12, us1 13, us1 14, us1 15, us1 16, us1 17, us1 18, us1 19, us1 20, us1 21, us1 22, us1 23, us1 24, us1 25, us1 26, us1 27, us1 28, us1 29, us1 30, us1 31, us1 32, us1 33, us1 34, us1 35, us1 36, us1 37, us1 38, us1 39, us1 40, us1 41, us1 42, us1 43, us1 44, us1 45, us1 46, us1 47, us1 48, us1 49, us1 50, us1 51, us1 52, us1 53, us1 54, us1 55, us1 56, us1 57, us1 58, us1 59, us1 60, us1 61, us1 62, us1 63, us1 64, us1 65, us1 66, us1 67, us1 68, us1 69, us1 70, us1 71, us1 72, us1 73, us1 74, us1 75, us1 76, us1 77, us1 78, us1 79, us1 80, us1 81, us1 82, us1 83, us1 84, us1 85, us1 86, us1 87, us1 88, us1 89, us1 90, us1 91, us1 92, us1 93, us1 94, us1 95, us1 96, us1 97, us1 98, us1 99, us1 100, us1 101, us1 102, us1 103, us1 104, us1 105, us1 106, us1 107, us1 108, us1 109, us1 110, us1 111, us1 112, us1 113] := rfl
            rw [el, f0, f4, f6, f8]
            clear el f0 f4 f6 f8
            rw [← HM.out] at hc3 hc4
            obtain ⟨wo, rfl⟩ : ∃ wo : World, wo = wr := ⟨_, rfl⟩
            go_wp2
            go_loopw [11] (fun s11 wr => MarkersLook K w (.slice (some ⟨g3', 0, none⟩) m c3) (.slice (some ⟨g4', 0, none⟩) m c4) S T s11 wr) (fun s11 _ => 200 - (intOf s11).toNat)
            case atStart => exact ⟨0, rfl, Nat.zero_le _, HKept.out, HBel.out⟩
            case round =>
              clear HKept HBel
              obtain ⟨j, rfl, hjT, hk9, hb9⟩ := hrel
              rw [← HM.out] at hjT
              have HK9 := Lib.hid hk9
              have HB9 := Lib.hid hb9
              clear hk9 hb9
              by_cases hj : j < m
              · go_upto_region 19 with fail
                have hjl : j < T.length := by rw [← HM.out]; exact hj
                obtain ⟨t, ht⟩ : ∃ t, T[j]? = some t := ⟨_, List.getElem?_eq_getElem hjl⟩
                obtain ⟨cs, hcs⟩ : ∃ cs, S[j]? = some cs := ⟨_, List.getElem?_eq_getElem (by rw [HK9.out.len]; exact hjl)⟩
                obtain ⟨_, _, hst⟩ := HK9.out.each j cs t hcs ht
                have htl : t.length ≤ i * 1048576 := HLen.out t (List.mem_of_getElem? ht)
                have htb : t.length ≤ 31457280 := Nat.le_trans htl (Nat.mul_le_mul_right 1048576 hi30)
                clear htl
                obtain ⟨M, hM⟩ : ∃ M, M = hmac key t := ⟨_, rfl⟩
                have hMl : M.length = 32 := by rw [hM]; exact hmac_length _ _
                have hM0 : mark0 K t = M := by rw [hM, HKe.out]; rfl
                obtain ⟨cv, hcv⟩ : ∃ cv, cv = cs.toArray := ⟨_, rfl⟩
                have hld : ∀ W, Kept K W w.heap.size (.slice (some ⟨g3', 0, none⟩) m c3) (.slice (some ⟨g4', 0, none⟩) m c4) S T → (Instr.loadAt 37 (.pointer (some ⟨g3', j * 137, none⟩))).run Tryd.prog W = .ok (.agg cv) W := fun W hW => by rw [hcv]; exact hW.loadAs j cs hcs
                rw [← hcv] at hst
                have HSt := Lib.hid hst
                have HTj := Lib.hid ht
                have HLd := Lib.hid hld
                clear hst ht hld hcs hcv
                have hG : ∀ W W' : World, (Kept K W w.heap.size (.slice (some ⟨g3', 0, none⟩) m c3) (.slice (some ⟨g4', 0, none⟩) m c4) S T ∧ Below w.heap.size w W) → Below W.heap.size W W' → (Kept K W' w.heap.size (.slice (some ⟨g3', 0, none⟩) m c3) (.slice (some ⟨g4', 0, none⟩) m c4) S T ∧ Below w.heap.size w W') := fun W W' h h' => ⟨h.1.below h', h.2.trans (h'.mono h.2.size)⟩
                refine region_by [(88, .is (.slice (some ⟨g3', 0, none⟩) m c3)), (89, .is (.int .i64 (j : Int))), (90, .is (.pointer (some ⟨g3', j * 137, none⟩))), (91, .is (.agg cv)), (92, .is (.agg (bs M))), (93, .is (.slice a na ca)), (94, .is (.slice (some ⟨g4', 0, none⟩) m c4)), (95, .is (.int .i64 (j : Int))), (96, .is (.pointer (some ⟨g4', j, none⟩))), (97, .is (.string ⟨t.toArray⟩)), (98, .sat (fun v W => ∃ a c, v = .slice a t.length c ∧ Bys W v t) (fun _ _ _ h hb => by obtain ⟨a, c, h1, h2⟩ := h; exact ⟨a, c, h1, h2.below (Nat.le_refl _) hb⟩)), (99, .is (.agg (bs M))), (100, .is (.bool false))] [0, 1, 2, 3, 5, 6, 7, 8, 9, 10, 11, 12, 13, 14, 15, 16, 17, 18, 19, 20, 21, 22, 23, 24, 25, 26, 27, 28, 29, 30, 31, 32, 33, 34, 35, 36, 37, 38, 39, 40, 41, 42, 43, 44, 45, 46, 47, 48, 49, 50, 51, 52, 53, 54, 55, 56, 57, 58, 59, 60, 61, 62, 63, 64, 65, 66, 67, 68, 69, 70, 71, 72, 73, 74, 75, 76, 77, 78, 79, 80, 81, 101, 102, 103, 104, 105, 106, 107, 108, 109, 110, 111, 112, 113, 100] (fun W => Kept K W w.heap.size (.slice (some ⟨g3', 0, none⟩) m c3) (.slice (some ⟨g4', 0, none⟩) m c4) S T ∧ Below w.heap.size w W) (by kernel_rfl) (by kernel_rfl) (by kernel_rfl) (by kernel_rfl) (by kernel_rfl) ⟨HK9.out.below (Below.refl _ _).drew, HB9.out.drew⟩ ?_ ?_
                · refine ⟨?b0, ?b1, ?b2, ?b3, ?b4, ?b5, ?b6, ?b7, ?b8, ?b9, ?b10, ?b11, ?b12, trivial⟩
                  case b0 => exact ask_copy (guard_none rfl) (.tmp 6) (.inl rfl) (by intro k hk; cases hk; rfl)
                  case b1 => exact ask_copy (guard_none rfl) (.tmp 11) (.inl rfl) (by intro k hk; cases hk; rfl)
                  case b2 => exact ask_val (guard_none rfl) (.pointer (some ⟨g3', j * 137, none⟩)) (by intro k hk; cases hk; rfl) (fun x W hW ht => by
                      have e1 : x 88 = .slice (some ⟨g3', 0, none⟩) m c3 := ht 88 rfl
                      have e2 : x 89 = .int .i64 (j : Int) := ht 89 rfl
                      simp [execOp, evalBy, e1, e2, marker_index W g3' m c3 j hj, Result.andThen])
                  case b3 => exact ask_load (guard_none rfl) 37 (.tmp 90) (.pointer (some ⟨g3', j * 137, none⟩)) (.agg cv) rfl rfl (by intro k hk; cases hk; rfl) (fun W hW => HLd.out W hW.1)
                  case b4 => exact ask_call hG (guard_none rfl) _ _ _ #[.agg cv] (.is (.agg (bs M))) rfl (by kernel_rfl) rfl rfl (by intro k hk; cases hk; rfl) (fun W hW => (mmark_any (.agg cv) K t W HSt.out (by omega) (HT.out.below (Nat.le_refl _) hW.2)).mono fun e w' h => ⟨_, h.1, by show _ = _; rw [hM0], h.2⟩)
                  case b5 => exact ask_copy (guard_none rfl) (.tmp 0) (.inl rfl) (by intro k hk; cases hk; rfl)
                  case b6 => exact ask_copy (guard_none rfl) (.tmp 8) (.inl rfl) (by intro k hk; cases hk; rfl)
                  case b7 => exact ask_copy (guard_none rfl) (.tmp 11) (.inl rfl) (by intro k hk; cases hk; rfl)
                  case b8 => exact ask_val (guard_none rfl) (.pointer (some ⟨g4', j, none⟩)) (by intro k hk; cases hk; rfl) (fun x W hW ht => by
                      have e1 : x 94 = .slice (some ⟨g4', 0, none⟩) m c4 := ht 94 rfl
                      have e2 : x 95 = .int .i64 (j : Int) := ht 95 rfl
                      simp [execOp, evalBy, e1, e2, text_index W g4' m c4 j hj, Result.andThen])
                  case b9 => exact ask_load (guard_none rfl) 9 (.tmp 96) (.pointer (some ⟨g4', j, none⟩)) (.string ⟨t.toArray⟩) rfl rfl (by intro k hk; cases hk; rfl) (fun W hW => text_load W _ _ (hW.1.textAs j t HTj.out))
                  case b10 => exact ask_grow hG (guard_none rfl) (fun x W hW ht => by
                      have e1 : x 97 = .string ⟨t.toArray⟩ := ht 97 rfl
                      obtain ⟨c, W', hr, h1, h2⟩ := text_bytes W t
                      refine gives_value (v := .slice (some ⟨W.heap.size, 0, none⟩) t.length c) (w' := W') ?_ ⟨h2, fun q hq => by cases hq; exact ⟨_, c, rfl, h1⟩⟩
                      simp [execOp, evalBy, e1, hr, Result.andThen])
                  case b11 => exact ask_call_by hG (guard_none rfl) _ _ _ (.is (.agg (bs M))) rfl (by kernel_rfl) (by intro k hk; cases hk; rfl) (fun x W hW hk => by
                      have e0 : x 93 = .slice a na ca := hk 93 rfl
                      have e1 : ∃ a c, x 98 = .slice a t.length c ∧ Bys W (x 98) t := hk 98 rfl
                      obtain ⟨a', c', e1, h1⟩ := e1
                      rw [e1] at h1
                      show Calls _ _ #[x 93, x 98] W _
                      rw [e0, e1]
                      exact (refmark_any key t a a' na ca _ c' W (HV.out.below (Nat.le_refl _) hW.2) h1 (by omega) (by omega) (HC.out.below (Nat.le_refl _) hW.2)).mono fun e w' h => ⟨_, h.1, by show _ = _; rw [hM], h.2⟩)
                  case b12 => exact ask_cmp (guard_none rfl) _ _ _ _ _ _ _ _ rfl rfl rfl (by intro k hk; cases hk; rfl) (neq_hash _ _ M hMl)
                intro a2 W9 hW9 hd9 hs9 hf9
                have t0 : a2.tmps.getD 0 undef = .slice a na ca := hf9 0 rfl
                have t1 : a2.tmps.getD 1 undef = us1 1 := hf9 1 rfl
                have t2 : a2.tmps.getD 2 undef = us1 2 := hf9 2 rfl
                have t3 : a2.tmps.getD 3 undef = us1 3 := hf9 3 rfl
                have t5 : a2.tmps.getD 5 undef = us1 5 := hf9 5 rfl
                have t6 : a2.tmps.getD 6 undef = (.slice (some ⟨g3', 0, none⟩) m c3 : Value) := hf9 6 rfl
                have t7 : a2.tmps.getD 7 undef = us1 7 := hf9 7 rfl
                have t8 : a2.tmps.getD 8 undef = (.slice (some ⟨g4', 0, none⟩) m c4 : Value) := hf9 8 rfl
                have t9 : a2.tmps.getD 9 undef = us1 9 := hf9 9 rfl
                have t10 : a2.tmps.getD 10 undef = us1 10 := hf9 10 rfl
                have t11 : a2.tmps.getD 11 undef = .int .i64 (j : Int) := hf9 11 rfl
                have t12 : a2.tmps.getD 12 undef = us1 12 := hf9 12 rfl
                have t13 : a2.tmps.getD 13 undef = us1 13 := hf9 13 rfl
                have t14 : a2.tmps.getD 14 undef = us1 14 := hf9 14 rfl
                have t15 : a2.tmps.getD 15 undef = us1 15 := hf9 15 rfl
                have t16 : a2.tmps.getD 16 undef = us1 16 := hf9 16 rfl
                have t17 : a2.tmps.getD 17 undef = us1 17 := hf9 17 rfl
                have t18 : a2.tmps.getD 18 undef = us1 18 := hf9 18 rfl
                have t19 : a2.tmps.getD 19 undef = us1 19 := hf9 19 rfl
                have t20 : a2.tmps.getD 20 undef = us1 20 := hf9 20 rfl
                have t21 : a2.tmps.getD 21 undef = us1 21 := hf9 21 rfl
                have t22 : a2.tmps.getD 22 undef = us1 22 := hf9 22 rfl
                have t23 : a2.tmps.getD 23 undef = us1 23 := hf9 23 rfl
                have t24 : a2.tmps.getD 24 undef = us1 24 := hf9 24 rfl
                have t25 : a2.tmps.getD 25 undef = us1 25 := hf9 25 rfl
                have t26 : a2.tmps.getD 26 undef = us1 26 := hf9 26 rfl
                have t27 : a2.tmps.getD 27 undef = us1 27 := hf9 27 rfl
                have t28 : a2.tmps.getD 28 undef = us1 28 := hf9 28 rfl
                have t29 : a2.tmps.getD 29 undef = us1 29 := hf9 29 rfl
                have t30 : a2.tmps.getD 30 undef = us1 30 := hf9 30 rfl
                have t31 : a2.tmps.getD 31 undef = us1 31 := hf9 31 rfl
                have t32 : a2.tmps.getD 32 undef = us1 32 := hf9 32 rfl
                have t33 : a2.tmps.getD 33 undef = us1 33 := hf9 33 rfl
                have t34 : a2.tmps.getD 34 undef = us1 34 := hf9 34 rfl
                have t35 : a2.tmps.getD 35 undef = us1 35 := hf9 35 rfl
                have t36 : a2.tmps.getD 36 undef = us1 36 := hf9 36 rfl
                have t37 : a2.tmps.getD 37 undef = us1 37 := hf9 37 rfl
                have t38 : a2.tmps.getD 38 undef = us1 38 := hf9 38 rfl
                have t39 : a2.tmps.getD 39 undef = us1 39 := hf9 39 rfl
                have t40 : a2.tmps.getD 40 undef = us1 40 := hf9 40 rfl
                have t41 : a2.tmps.getD 41 undef = us1 41 := hf9 41 rfl
                have t42 : a2.tmps.getD 42 undef = us1 42 := hf9 42 rfl
                have t43 : a2.tmps.getD 43 undef = us1 43 := hf9 43 rfl
                have t44 : a2.tmps.getD 44 undef = us1 44 := hf9 44 rfl
                have t45 : a2.tmps.getD 45 undef = us1 45 := hf9 45 rfl
                have t46 : a2.tmps.getD 46 undef = us1 46 := hf9 46 rfl
                have t47 : a2.tmps.getD 47 undef = us1 47 := hf9 47 rfl
                have t48 : a2.tmps.getD 48 undef = us1 48 := hf9 48 rfl
                have t49 : a2.tmps.getD 49 undef = us1 49 := hf9 49 rfl
                have t50 : a2.tmps.getD 50 undef = us1 50 := hf9 50 rfl
                have t51 : a2.tmps.getD 51 undef = us1 51 := hf9 51 rfl
                have t52 : a2.tmps.getD 52 undef = us1 52 := hf9 52 rfl
                have t53 : a2.tmps.getD 53 undef = us1 53 := hf9 53 rfl
                have t54 : a2.tmps.getD 54 undef = us1 54 := hf9 54 rfl
                have t55 : a2.tmps.getD 55 undef = us1 55 := hf9 55 rfl
                have t56 : a2.tmps.getD 56 undef = us1 56 := hf9 56 rfl
                have t57 : a2.tmps.getD 57 undef = us1 57 := hf9 57 rfl
                have t58 : a2.tmps.getD 58 undef = us1 58 := hf9 58 rfl
                have t59 : a2.tmps.getD 59 undef = us1 59 := hf9 59 rfl
                have t60 : a2.tmps.getD 60 undef = us1 60 := hf9 60 rfl
                have t61 : a2.tmps.getD 61 undef = us1 61 := hf9 61 rfl
                have t62 : a2.tmps.getD 62 undef = us1 62 := hf9 62 rfl
                have t63 : a2.tmps.getD 63 undef = us1 63 := hf9 63 rfl
                have t64 : a2.tmps.getD 64 undef = us1 64 := hf9 64 rfl
                have t65 : a2.tmps.getD 65 undef = us1 65 := hf9 65 rfl
                have t66 : a2.tmps.getD 66 undef = us1 66 := hf9 66 rfl
                have t67 : a2.tmps.getD 67 undef = us1 67 := hf9 67 rfl
                have t68 : a2.tmps.getD 68 undef = us1 68 := hf9 68 rfl
                have t69 : a2.tmps.getD 69 undef = us1 69 := hf9 69 rfl
                have t70 : a2.tmps.getD 70 undef = us1 70 := hf9 70 rfl
                have t71 : a2.tmps.getD 71 undef = us1 71 := hf9 71 rfl
                have t72 : a2.tmps.getD 72 undef = us1 72 := hf9 72 rfl
                have t73 : a2.tmps.getD 73 undef = us1 73 := hf9 73 rfl
                have t74 : a2.tmps.getD 74 undef = us1 74 := hf9 74 rfl
                have t75 : a2.tmps.getD 75 undef = us1 75 := hf9 75 rfl
                have t76 : a2.tmps.getD 76 undef = us1 76 := hf9 76 rfl
                have t77 : a2.tmps.getD 77 undef = us1 77 := hf9 77 rfl
                have t78 : a2.tmps.getD 78 undef = us1 78 := hf9 78 rfl
                have t79 : a2.tmps.getD 79 undef = us1 79 := hf9 79 rfl
                have t80 : a2.tmps.getD 80 undef = us1 80 := hf9 80 rfl
                have t81 : a2.tmps.getD 81 undef = us1 81 := hf9 81 rfl
                have t101 : a2.tmps.getD 101 undef = us1 101 := hf9 101 rfl
                have t102 : a2.tmps.getD 102 undef = us1 102 := hf9 102 rfl
                have t103 : a2.tmps.getD 103 undef = us1 103 := hf9 103 rfl
                have t104 : a2.tmps.getD 104 undef = us1 104 := hf9 104 rfl
                have t105 : a2.tmps.getD 105 undef = us1 105 := hf9 105 rfl
                have t106 : a2.tmps.getD 106 undef = us1 106 := hf9 106 rfl
                have t107 : a2.tmps.getD 107 undef = us1 107 := hf9 107 rfl
                have t108 : a2.tmps.getD 108 undef = us1 108 := hf9 108 rfl
                have t109 : a2.tmps.getD 109 undef = us1 109 := hf9 109 rfl
                have t110 : a2.tmps.getD 110 undef = us1 110 := hf9 110 rfl
                have t111 : a2.tmps.getD 111 undef = us1 111 := hf9 111 rfl
                have t112 : a2.tmps.getD 112 undef = us1 112 := hf9 112 rfl
                have t113 : a2.tmps.getD 113 undef = us1 113 := hf9 113 rfl
                have t100 : a2.tmps.getD 100 undef = .bool false := hf9 100 rfl
                obtain ⟨us9, hus, ha'⟩ := act_open 114 a2 hs9 hd9
                rw [← hus] at t0 t1 t2 t3 t5 t6 t7 t8 t9 t10 t11 t12 t13 t14 t15 t16 t17 t18 t19 t20 t21 t22 t23 t24 t25 t26 t27 t28 t29 t30 t31 t32 t33 t34 t35 t36 t37 t38 t39 t40 t41 t42 t43 t44 t45 t46 t47 t48 t49 t50 t51 t52 t53 t54 t55 t56 t57 t58 t59 t60 t61 t62 t63 t64 t65 t66 t67 t68 t69 t70 t71 t72 t73 t74 t75 t76 t77 t78 t79 t80 t81 t101 t102 t103 t104 t105 t106 t107 t108 t109 t110 t111 t112 t113 t100
                have el : ((List.range 114).map us9).toArray = #[us9 0, us9 1, us9 2, us9 3, us9 4, us9 5, us9 6, us9 7, us9 8, us9 9, us9 10, us9 11, us9 12, us9 13, us9 14, us9 15, us9 16, us9 17, us9 18, us9 19, us9 20, us9 21, us9 22, us9 23, us9 24, us9 25, us9 26, us9 27, us9 28, us9 29, us9 30, us9 31, us9 32, us9 33, us9 34, us9 35, us9 36, us9 37, us9 38, us9 39, us9 40, us9 41, us9 42, us9 43, us9 44, us9 45, us9 46, us9 47, us9 48, us9 49, us9 50, us9 51, us9 52, us9 53, us9 54, us9 55, us9 56, us9 57, us9 58, us9 59, us9 60, us9 61, us9 62, us9 63, us9 64, us9 65, us9 66, us9 67, us9 68, us9 69, us9 70, us9 71, us9 72, us9 73, us9 74, us9 75, us9 76, us9 77, us9 78, us9 79, us9 80, us9 81, us9 82, us9 83, us9 84, us9 85, us9 86, us9 87, us9 88, us9 89, us9 90, us9 91, us9 92, us9 93, us9 94, us9 95, us9 96, us9 97, us9 98, us9 99, us9 100, us9 101, us9 102, us9 103, us9 104, us9 105, us9 106, us9 107, us9 108, us9 109, us9 110, us9 111, us9 112, us9 113] := rfl
                rw [el] at ha'
                subst ha'
                rw [t0, t1, t2, t3, t5, t6, t7, t8, t9, t10, t11, t12, t13, t14, t15, t16, t17, t18, t19, t20, t21, t22, t23, t24, t25, t26, t27, t28, t29, t30, t31, t32, t33, t34, t35, t36, t37, t38, t39, t40, t41, t42, t43, t44, t45, t46, t47, t48, t49, t50, t51, t52, t53, t54, t55, t56, t57, t58, t59, t60, t61, t62, t63, t64, t65, t66, t67, t68, t69, t70, t71, t72, t73, t74, t75, t76, t77, t78, t79, t80, t81, t101, t102, t103, t104, t105, t106, t107, t108, t109, t110, t111, t112, t113, t100]
                clear hus t0 t1 t2 t3 t5 t6 t7 t8 t9 t10 t11 t12 t13 t14 t15 t16 t17 t18 t19 t20 t21 t22 t23 t24 t25 t26 t27 t28 t29 t30 t31 t32 t33 t34 t35 t36 t37 t38 t39 t40 t41 t42 t43 t44 t45 t46 t47 t48 t49 t50 t51 t52 t53 t54 t55 t56 t57 t58 t59 t60 t61 t62 t63 t64 t65 t66 t67 t68 t69 t70 t71 t72 t73 t74 t75 t76 t77 t78 t79 t80 t81 t101 t102 t103 t104 t105 t106 t107 t108 t109 t110 t111 t112 t113 t100 el hf9 hs9 hd9
                clear HSt HTj HLd hMl hM hM0 hG
                go_wp2
                go_roundw
                case rel => exact ⟨j + 1, by go_num, hjl, hW9.1, hW9.2⟩
                case measure => simp [intOf]; omega
              · have hB9 := HB9.out
                have hs9 := hB9.size
                have HB := Lib.hid hB9
                clear hB9 HK9 HB9 hjT HLen HM HTl
                obtain ⟨zm, hzv, hzs, hze⟩ := zero_marker_run
                have HZs := Lib.hid hzs
                have HZe := Lib.hid hze
                clear hzs hze
                go_upto_region 22 with fail
                clear hzv
                obtain ⟨g12, hg12⟩ : ∃ g, g = wr.heap.size := ⟨_, rfl⟩
                rw [← hg12]
                refine world_cut (fun W => Blk W g12 37 zm ∧ Below w.heap.size w W) ⟨Blk.newAt _ _ _ _ _ hg12 rfl, HB.out.alloc hs9 _⟩ ?_
                clear hg12 HB hs9
                rintro W1 ⟨h1, h2⟩
                have hIs : IsMarker (.agg zm) (kb []) [] := by rw [HZe.out]; exact zero_marker
                have hszm : (Tryd.prog.info? 37).map (·.size) = some zm.size := by rw [HZs.out]; kernel_rfl
                obtain ⟨M, hM⟩ : ∃ M, M = bs (hmac [] []) := ⟨_, rfl⟩
                obtain ⟨M2, hM2⟩ : ∃ M, M = bs (hmac [] key) := ⟨_, rfl⟩
                have he1 : ∀ W', (Op.equalIn 10000 26 (.agg M) (.agg M)).run Tryd.prog W' = .ok true W' := fun W' => by rw [hM]; exact eq_same W' _ (hmac_length _ _)
                have he2 : ∀ W', (Op.equalIn 10000 26 (.agg M2) (.agg M2)).run Tryd.prog W' = .ok true W' := fun W' => by rw [hM2]; exact eq_same W' _ (hmac_length _ _)
                have hnil : ∀ W, Bys W (.slice none 0 0) [] := fun W => .inl ⟨rfl, rfl⟩
                have c1 : ∀ W, Below w.heap.size w W → Calls Tryd.prog 14 #[.agg zm] W fun e w' => e = .returned (.agg M) ∧ Below W.heap.size W w' := fun W hW => by
                  rw [hM]
                  exact mmark_any (.agg zm) (kb []) [] W hIs (by simp) (HT.out.below (Nat.le_refl _) hW)
                have c2 : ∀ W, Below w.heap.size w W → Calls Tryd.prog 9 #[.slice none 0 0, .slice none 0 0] W fun e w' => e = .returned (.agg M) ∧ Below W.heap.size W w' := fun W hW => by
                  rw [hM]
                  exact refmark_any [] [] none none 0 0 0 0 W (hnil W) (hnil W) (by omega) (by omega) (HC.out.below (Nat.le_refl _) hW)
                have c3' : ∀ W, Below w.heap.size w W → Calls Tryd.prog 13 #[.agg zm, .slice a na ca] W fun e w' => ∃ v, e = .returned v ∧ IsMarker v (kb []) key ∧ Below W.heap.size W w' := fun W hW =>
                  mwrite_any (.agg zm) (kb []) [] key a na ca W hIs (HV.out.below (Nat.le_refl _) hW) hca (by simp) (by rw [HLk.out]; omega) (HT.out.below (Nat.le_refl _) hW)
                have c4' : ∀ v W, IsMarker v (kb []) key → Below w.heap.size w W → Calls Tryd.prog 14 #[v] W fun e w' => e = .returned (.agg M2) ∧ Below W.heap.size W w' := fun v W hv hW => by
                  rw [hM2]
                  exact mmark_any v (kb []) key W hv (by rw [HLk.out]; omega) (HT.out.below (Nat.le_refl _) hW)
                have c5 : ∀ W, Below w.heap.size w W → Calls Tryd.prog 9 #[.slice none 0 0, .slice a na ca] W fun e w' => e = .returned (.agg M2) ∧ Below W.heap.size W w' := fun W hW => by
                  rw [hM2]
                  exact refmark_any [] key none a 0 0 na ca W (hnil W) (HV.out.below (Nat.le_refl _) hW) (by omega) (by omega) (HC.out.below (Nat.le_refl _) hW)
                have H1 := Lib.hid h1
                have H2 := Lib.hid h2
                have HSzm := Lib.hid hszm
                have HE1 := Lib.hid he1
                have HE2 := Lib.hid he2
                have C1 := Lib.hid c1
                have C2 := Lib.hid c2
                have C3 := Lib.hid c3'
                have C4 := Lib.hid c4'
                have C5 := Lib.hid c5
                clear h1 h2 hszm he1 he2 c1 c2 c3' c4' c5 hM hM2 hnil hIs HZs HZe
                go_wp2_with (refine wpList_load_row rfl 37 (.tmp 12) rfl g12 rfl _ _ _ _ H1.out Tryd.underlying37 rfl HSzm.out ?_)
                refine (C1.out _ H2.out).mono ?_
                rintro e w4 ⟨rfl, hb4⟩
                have HB4 := Lib.hid (H2.out.trans (hb4.mono H2.out.size))
                have HM4 := Lib.hid (H1.out.keep hb4)
                clear hb4 H1 H2
                go_wp2_with fail
                refine (C2.out _ HB4.out).mono ?_
                rintro e w5 ⟨rfl, hb5⟩
                have HB5 := Lib.hid (HB4.out.trans (hb5.mono HB4.out.size))
                have HM5 := Lib.hid (HM4.out.keep hb5)
                clear hb5 HB4 HM4
                have he1 := HE1.out
                have hl5 := HM5.out.loads (P := Tryd.prog) 37 _ Tryd.underlying37 rfl HSzm.out
                have HL5 := Lib.hid hl5
                clear hl5
                go_wp2_with (refine wpList_load_guarded rfl 37 (.tmp 12) rfl (.pointer (some ⟨g12, 0, none⟩)) (.agg zm) rfl HL5.out ?_)
                clear he1
                refine (C3.out _ HB5.out).mono ?_
                rintro e w6 ⟨v6, rfl, hv6, hb6⟩
                have HB6 := Lib.hid (HB5.out.trans (hb6.mono HB5.out.size))
                have HV6 := Lib.hid hv6
                clear hb6 HB5 HM5 hv6 HL5
                go_wp2_with fail
                refine (C4.out _ _ HV6.out HB6.out).mono ?_
                rintro e w7 ⟨rfl, hb7⟩
                have HB7 := Lib.hid (HB6.out.trans (hb7.mono HB6.out.size))
                clear hb7 HB6
                go_wp2_with fail
                refine (C5.out _ HB7.out).mono ?_
                rintro e w8 ⟨rfl, hb8⟩
                have HB8 := Lib.hid (HB7.out.trans (hb8.mono HB7.out.size))
                clear hb8 HB7
                have he2 := HE2.out
                go_wp2
                go_ret
                exact ⟨rfl, HB8.out⟩

theorem markers_all (w : World) (ht : Tabs w ∧ Consts w) (a : Option Addr) (na ca : Nat) (x : List Int) (hx : IsRow .u8 w a na ca x) (hna : na ≤ 1048576) (sa : Option Addr) (n cap : Nat) (ho : OpsAt w sa n) :
    Calls Tryd.prog 4 #[.slice a na ca, .slice sa n cap] w fun e w' => e = .returned (.bool true) ∧ Below w.heap.size w w' := by
  obtain ⟨k, _, hb1⟩ := hx.bys
  exact markers_walk k a na ca sa n cap w hb1 hx.le hna ho ht.1 ht.2
end Go.Proofs.YtlnhjllcgbdalaaDoor
