/- MacKeys: the walk. -/
import Derived.Test.YtlnhjllcgbdalaaDoorMacMarks
namespace Go.Proofs.YtlnhjllcgbdalaaDoor
open Go.RowKit ShaMath MacMath BinMath Reg

theorem Blk.grown {W W' : World} {g B : Nat} {t : TypeId} {cs : Array Value} {v : Value} {l : List UInt8} (h : Blk W g t cs) (hr : Row W B v l) (hne : t ≠ 5) (hg : W.grownBy W' v.ownBlock) : Blk W' g t cs := by
  unfold Blk at *
  rw [hg.block g (Array.getElem?_eq_some_iff.1 h).1 ?_]
  · exact h
  · rcases hr.2 with ⟨e, _⟩ | ⟨k, cap, cur, e, _, hk, _⟩
    · rw [e]
      intro hh
      cases hh
    · rw [e]
      intro hh
      have : g = k := by injection hh
      subst this
      rw [h] at hk
      simp at hk
      exact hne hk.2

/-- append of one byte, a block of another type kept. -/
theorem grow_keep {w wr : World} {B g : Nat} {t : TypeId} {cs : Array Value} {v : Value} {l : List UInt8} (z : Int) (c : UInt8) (hz : Value.int .u8 z = bv c) (h : Row wr B v l) (hlen : l.length ≤ 140737488355320) (hB : B ≤ wr.heap.size) (hk : Blk wr g t cs) (ht : t ≠ 5) (hw : Below B w wr) :
    ∃ v' w', (Builtin.append_ #[22, 22] 22 #[v, .slice (some ⟨wr.heap.size, 0, none⟩) 1 1]).run Tryd.prog (wr.alloc (.cells #[.int .u8 z] 5)) = .ok v' w' ∧ (Row w' B v' (l ++ [c]) ∧ Blk w' g t cs ∧ Below B w w') := by
  rw [hz]
  have hb : Below wr.heap.size wr (wr.alloc (.cells #[bv c] 5)) := (Below.refl _ _).alloc (Nat.le_refl _) _
  have hr := h.below hb
  obtain ⟨v', w', h1, h2, h3⟩ := append_bys (Nat.le_trans hB hb.size) hr (byte_bys wr c) (by simp; omega)
  exact ⟨v', w', h1, h2, (hk.keep hb).grown hr ht h3, (hw.trans (hb.mono hB)).grown h3 (Nat.le_trans hB hb.size) fun k hk => (World.ownsRow.lt hr k hk).1⟩

/-- Between two rounds: i zeros are behind the key. -/
def KeysAt (w : World) (kl : List UInt8) (n g9 : Nat) (ms : Array Value) (s7 s11 : Value) (wr : World) : Prop :=
  ∃ i : Nat, i ≤ n ∧ s11 = .int .i64 i ∧ Row wr w.heap.size s7 (kl ++ List.replicate i 0) ∧ Blk wr g9 26 ms ∧ Below w.heap.size w wr

set_option maxHeartbeats 1000000 in
set_option maxRecDepth 100000 in
theorem keys_walk (key text : List UInt8) (z : Int) (a b : Option Addr) (na ca nb cb : Nat) (w : World) (hk : Bys w (.slice a na ca) key) (hca : na ≤ ca) (hx : Bys w (.slice b nb cb) text) (hcb : nb ≤ cb) (hlk : na ≤ 140737488351232) (hlx : nb ≤ 140737488351232) (ht : Tabs w) :
    Calls Tryd.prog 5 #[.slice a na ca, .slice b nb cb, .int .i64 z] w fun e w' => e = .returned (.bool true) ∧ Below w.heap.size w w' := by
  have hlenk := bys_len hk
  have hlenx := bys_len hx
  have HV := Lib.hid hk
  have HX := Lib.hid hx
  have HLk := Lib.hid hlenk
  have HLx := Lib.hid hlenx
  have HT := Lib.hid ht
  clear hk hx hlenk hlenx ht
  go_enter Tryd.func5, Tryd.ntmps5
  go_wp2_with fail
  refine (awake_any _ HT.out).mono ?_
  rintro e w1 ⟨rfl, hb1⟩
  have hs1 := hb1.size
  have hb0 : Below w1.heap.size w1 (w1.alloc (.cells #[] 5)) := (Below.refl _ _).alloc (Nat.le_refl _) _
  have A1 := Lib.hid (append_lit (B := w.heap.size) (g := w1.heap.size) (w := w1.alloc (.cells #[] 5)) hs1 (heap_alloc_new w1 _) ((HV.out.below (Nat.le_refl _) hb1).below (Nat.le_refl _) hb0) (by rw [HLk.out]; omega))
  have HB1 := Lib.hid hb1
  have HB0 := Lib.hid hb0
  clear hb0 hb1
  go_upto_region 4 with (at_builtin; refine wpList_append_by rfl (.tmp 14) (.tmp 15) 22 rfl _ _ rfl rfl _ A1.out ?_; rintro v3 w2 ⟨hr3, hb2⟩; (have HR3 := Lib.hid hr3); (have HB2 := Lib.hid hb2); clear hr3 hb2)
  have hbel : Below w.heap.size w w2 := (HB1.out.trans (HB0.out.mono hs1)).trans (HB2.out.mono (by simp; omega))
  have hs2 := hbel.size
  have HB3 := Lib.hid hbel
  clear hbel A1 HB0 HB1 HB2
  by_cases hlong : 64 < na
  · have hkey : keyL key = ShaMath.hash key := by rw [keyL, if_pos (by rw [HLk.out]; exact hlong)]
    obtain ⟨H, hH⟩ : ∃ H, H = ShaMath.hash key := ⟨_, rfl⟩
    obtain ⟨hs, hhs⟩ : ∃ hs, hs = bs H := ⟨_, rfl⟩
    have hsum := sum_any key a na ca w2 (HV.out.below (Nat.le_refl _) HB3.out) hca (by rw [HLk.out]; omega) (HT.out.below (Nat.le_refl _) HB3.out).1 (HT.out.below (Nat.le_refl _) HB3.out).2
    rw [← hH, ← hhs] at hsum
    have hH32 : H.length = 32 := by rw [hH, hash_length]
    have hsl32 : hs.size = 32 := by rw [hhs, bs_size, hH32]
    have hone : hs.all (·.oneCell') = true := by rw [hhs]; exact bs_one _
    have hsz : (Tryd.prog.info? 26).map (·.size) = some hs.size := by rw [hsl32]; kernel_rfl
    have HKey := Lib.hid (hkey.trans hH.symm)
    have HHs := Lib.hid hhs
    have HSum := Lib.hid hsum
    have HH32 := Lib.hid hH32
    have HS32 := Lib.hid hsl32
    have HOneH := Lib.hid hone
    have HSzH := Lib.hid hsz
    clear hkey hhs hsum hsl32 hone hsz hH hH32
    go_wp2_with fail
    refine HSum.out.mono ?_
    rintro e w3 ⟨rfl, hb3⟩
    have hs3 := hb3.size
    have HB4 := Lib.hid (HB3.out.trans (hb3.mono hs2))
    clear hb3 HSum HR3 HB3
    go_upto_region 6 with (refine wpList_store_row rfl 26 (.tmp 8) (.tmp 21) rfl w3.heap.size hs rfl rfl 26 _ (heap_alloc_new w3 _) HSzH.out (by rw [HS32.out]; rfl) HOneH.out ?_)
    refine world_cut (fun W => Below w.heap.size w W ∧ Blk W w3.heap.size 26 hs) ⟨below_setRow (HB4.out.alloc (by omega) _) _ _ (by omega), Blk.row (Blk.new w3 _ _) hs⟩ ?_
    obtain ⟨g4, hg4⟩ : ∃ g4, g4 = w3.heap.size := ⟨_, rfl⟩
    rw [← hg4]
    clear hg4 HB4 hs3
    rintro W3 ⟨h3, h6⟩
    have hs3 := h3.size
    have hby : Bys W3 (.slice (some ⟨g4, 0, none⟩) 32 32) H := by
      rw [HHs.out] at h6
      exact h6.bysOf 32 32 HH32.out
    have hb0 : Below W3.heap.size W3 (W3.alloc (.cells #[] 5)) := (Below.refl _ _).alloc (Nat.le_refl _) _
    have A1 := Lib.hid (append_lit (B := w.heap.size) (g := W3.heap.size) (w := W3.alloc (.cells #[] 5)) hs3 (heap_alloc_new W3 _) (hby.below (Nat.le_refl _) hb0) (by rw [HH32.out]; omega))
    have HB4 := Lib.hid h3
    have HB0 := Lib.hid hb0
    clear h3 h6 hby hb0
    have hsl0 := slice_hash_all g4
    go_upto_region 7 with (at_builtin; refine wpList_append_by rfl (.tmp 22) (.tmp 23) 22 rfl _ _ rfl rfl _ A1.out ?_; rintro v7 w7 ⟨hr7, hb7⟩; (have HR7 := Lib.hid hr7); (have HB7 := Lib.hid hb7); clear hr7 hb7)
    clear hsl0
    have hbel : Below w.heap.size w w7 := (HB4.out.trans (HB0.out.mono hs3)).trans (HB7.out.mono (by simp; omega))
    have HB7 := Lib.hid hbel
    have hr7 := HR7.out
    rw [← HKey.out] at hr7
    have HR7 := Lib.hid hr7
    clear hr7 hbel HB4 HB0 A1
    have hkl := keyL_length key
    obtain ⟨kl, hkle⟩ : ∃ kl, kl = keyL key := ⟨_, rfl⟩
    have HR7 := HR7.out
    rw [← hkle] at HR7 hkl
    have HR7 := Lib.hid HR7
    obtain ⟨M, hM⟩ : ∃ M, M = hmac key text := ⟨_, rfl⟩
    have hMk : ∀ j, kl.length + j ≤ 64 → kb (kl ++ List.replicate j 0) = kb key := fun j hj => by rw [kb_zeros kl j hj, hkle, kb_keyL]
    have hMl : M.length = 32 := by rw [hM]; exact hmac_length _ _
    obtain ⟨ms, hms⟩ : ∃ ms, ms = bs M := ⟨_, rfl⟩
    have hml : ms.size = 32 := by rw [hms, bs_size, hMl]
    have hone : ms.all (·.oneCell') = true := by rw [hms]; exact bs_one _
    have hszm : (Tryd.prog.info? 26).map (·.size) = some ms.size := by rw [hml]; kernel_rfl
    have c1 := mark_any key text a b na ca nb cb w7 (HV.out.below (Nat.le_refl _) HB7.out) hca (HX.out.below (Nat.le_refl _) HB7.out) hcb (by omega) (by omega) (HT.out.below (Nat.le_refl _) HB7.out)
    rw [← hM, ← hms] at c1
    have hmore : ∀ j W a' c', kl.length + j ≤ 64 → kl.length + j ≤ c' → Bys W (.slice a' (kl.length + j) c') (kl ++ List.replicate j 0) → Below w.heap.size w W → Calls Tryd.prog 8 #[.slice a' (kl.length + j) c', .slice b nb cb] W fun e w' => e = .returned (.agg ms) ∧ Below W.heap.size W w' := fun j W a' c' hj hc hb hW => by
      have h := mark_any (kl ++ List.replicate j 0) text a' b _ c' nb cb W hb hc (HX.out.below (Nat.le_refl _) hW) hcb (by omega) (by omega) (HT.out.below (Nat.le_refl _) hW)
      have e : hmac (kl ++ List.replicate j 0) text = M := by rw [hM, hmac, hmac, hMk j hj]
      rw [e, ← hms] at h
      exact h
    have hmn : ∀ j W a' c', kl.length + j ≤ 64 → kl.length + j ≤ c' → Bys W (.slice a' (kl.length + j) c') (kl ++ List.replicate j 0) → Below w.heap.size w W → Calls Tryd.prog 12 #[.slice a' (kl.length + j) c'] W fun e w' => ∃ v, e = .returned v ∧ IsMarker v (kb key) [] ∧ Below W.heap.size W w' := fun j W a' c' hj hc hb hW => by
      have h := new_any (kl ++ List.replicate j 0) a' _ c' W hb hc (by omega) (HT.out.below (Nat.le_refl _) hW)
      rwa [hMk j hj] at h
    have hMe : mark0 (kb key) text = M := by rw [hM]; rfl
    have HMe := Lib.hid hMe
    have HMs := Lib.hid hms
    have HMl := Lib.hid hMl
    have HMl2 := Lib.hid hml
    have HOne := Lib.hid hone
    have HSzm := Lib.hid hszm
    have HMore := Lib.hid hmore
    have HMn := Lib.hid hmn
    have C1 := Lib.hid c1
    obtain ⟨m, hm⟩ : ∃ m, m = kl.length := ⟨_, rfl⟩
    have HM := Lib.hid hm
    have hm64 : m ≤ 64 := by omega
    obtain ⟨a7, c7, rfl, hc7⟩ := row_form HR7.out
    have hR7 := HR7.out
    rw [← hm] at hR7 hc7 ⊢
    have HR7 := Lib.hid hR7
    clear hMk hMl hml hone hszm hmore hmn c1 hM hMe hms hkle hkl hR7 hm
    have hs7 := HB7.out.size
    go_wp2_with fail
    refine C1.out.mono ?_
    rintro e w8 ⟨rfl, hb8⟩
    have hs8 := hb8.size
    have hB8 := HB7.out.trans (hb8.mono hs7)
    have HR8 := Lib.hid (HR7.out.below hb8)
    have HB8 := Lib.hid hB8
    clear hb8 hB8 C1
    go_upto_region 8 with (refine wpList_store_row rfl 26 (.tmp 9) (.tmp 27) rfl w8.heap.size ms rfl rfl 26 _ (heap_alloc_new w8 _) HSzm.out (by rw [HMl2.out]; rfl) HOne.out ?_)
    obtain ⟨g9, hg9⟩ : ∃ g9, g9 = w8.heap.size := ⟨_, rfl⟩
    have hG : ∀ W W' : World, (Blk W g9 26 ms ∧ Row W w.heap.size (.slice a7 m c7) kl ∧ Below w.heap.size w W) → Below W.heap.size W W' → (Blk W' g9 26 ms ∧ Row W' w.heap.size (.slice a7 m c7) kl ∧ Below w.heap.size w W') := fun W W' hW hb => by
      obtain ⟨h1, h2, h3⟩ := hW
      exact ⟨h1.keep hb, h2.below hb, h3.trans (hb.mono h3.size)⟩
    refine world_cut (fun W => Blk W g9 26 ms ∧ Row W w.heap.size (.slice a7 m c7) kl ∧ Below w.heap.size w W) ?_ ?_
    · have hbn : Below w8.heap.size w8 (w8.alloc (.cells (Value.agg (bs (List.replicate 32 0))).cells 26)) := (Below.refl _ _).alloc (Nat.le_refl _) _
      refine ⟨by rw [hg9]; exact Blk.row (Blk.new w8 _ _) ms, HR8.out.below (below_setRow ((Below.refl _ _).alloc (Nat.le_refl _) _) _ _ (Nat.le_refl _)), below_setRow (HB8.out.alloc (by omega) _) _ _ (by omega)⟩
    rw [← hg9]
    have hg9w : w.heap.size ≤ g9 := by omega
    clear hg9 HR7 HR8 HB8 hs8
    intro W9 hW9
    refine region_by [(28, .is (.slice a7 m c7)), (29, .is (.slice b nb cb)), (30, .is (.agg ms)), (31, .is (.agg ms)), (32, .is (.bool false))] [0, 1, 2, 3, 4, 5, 6, 7, 8, 9, 10, 11, 32] (fun W => Blk W g9 26 ms ∧ Row W w.heap.size (.slice a7 m c7) kl ∧ Below w.heap.size w W) (by kernel_rfl) (by kernel_rfl) (by kernel_rfl) (by kernel_rfl) (by kernel_rfl) (hG _ _ hW9 (Below.refl _ _).drew) ?_ ?_
    · refine ⟨?a0, ?a1, ?a2, ?a3, ?a4, trivial⟩
      case a0 => exact ask_copy (guard_none rfl) (.tmp 7) (.inl rfl) (by intro k hk; cases hk; rfl)
      case a1 => exact ask_copy (guard_none rfl) (.tmp 1) (.inl rfl) (by intro k hk; cases hk; rfl)
      case a2 => exact ask_call hG (guard_none rfl) _ _ _ #[.slice a7 m c7, .slice b nb cb] (.is (.agg ms)) rfl (by kernel_rfl) rfl rfl (by intro k hk; cases hk; rfl) (fun W hW => by
        have h := HMore.out 0 W a7 c7 (by rw [← HM.out]; omega) (by rw [← HM.out]; omega) (by rw [Nat.add_zero, ← HM.out, List.replicate_zero, List.append_nil]; exact hW.2.1.bys) hW.2.2
        rw [Nat.add_zero, ← HM.out] at h
        exact h.mono fun e w' h => ⟨_, h.1, rfl, h.2⟩)
      case a3 => exact ask_load (guard_none rfl) 26 (.tmp 9) (.pointer (some ⟨g9, 0, none⟩)) (.agg ms) rfl rfl (by intro k hk; cases hk; rfl) (fun W hW => hW.1.loads _ _ Tryd.underlying26 rfl HSzm.out)
      case a4 => exact ask_cmp (guard_none rfl) _ _ _ _ _ _ _ _ rfl rfl rfl (by intro k hk; cases hk; rfl) (fun W => by rw [HMs.out]; exact neq_hash _ _ M HMl.out W)
    intro a' W1 hW1 hd1 hs1 hf1
    have t0 : a'.tmps.getD 0 undef = .slice a na ca := hf1 0 rfl
    have t1 : a'.tmps.getD 1 undef = .slice b nb cb := hf1 1 rfl
    have t2 : a'.tmps.getD 2 undef = .int .i64 z := hf1 2 rfl
    have t7 : a'.tmps.getD 7 undef = .slice a7 m c7 := hf1 7 rfl
    have t9 : a'.tmps.getD 9 undef = .pointer (some ⟨g9, 0, none⟩) := hf1 9 rfl
    have t32 : a'.tmps.getD 32 undef = .bool false := hf1 32 rfl
    obtain ⟨us', hus, ha'⟩ := act_open 63 a' hs1 hd1
    rw [← hus] at t0 t1 t2 t7 t9 t32
    have el : ((List.range 63).map us').toArray = #[us' 0, us' 1, us' 2, us' 3, us' 4, us' 5, us' 6, us' 7, us' 8, us' 9, us' 10, us' 11, us' 12, us' 13, us' 14, us' 15, us' 16, us' 17, us' 18, us' 19, us' 20, us' 21, us' 22, us' 23, us' 24, us' 25, us' 26, us' 27, us' 28, us' 29, us' 30, us' 31, us' 32, us' 33, us' 34, us' 35, us' 36, us' 37, us' 38, us' 39, us' 40, us' 41, us' 42, us' 43, us' 44, us' 45, us' 46, us' 47, us' 48, us' 49, us' 50, us' 51, us' 52, us' 53, us' 54, us' 55, us' 56, us' 57, us' 58, us' 59, us' 60, us' 61, us' 62] := rfl
    rw [el] at ha'
    subst ha'
    rw [t0, t1, t2, t7, t9, t32]
    clear hus t0 t1 t2 t7 t9 t32 el hf1 hs1 hd1
    clear hG hW9
    obtain ⟨h1, h2, h3⟩ := hW1
    have H1 := Lib.hid h1
    have H2 := Lib.hid h2
    have H3 := Lib.hid h3
    clear h1 h2 h3
    obtain ⟨m1, hm1⟩ : ∃ q : Nat, IntKind.u64.wrap z = (q : Int) := ⟨(IntKind.u64.wrap z).toNat, by rw [IntKind.wrap_u64]; omega⟩
    obtain ⟨n, hn⟩ : ∃ n : Nat, (m1 : Int) % (65 - (m : Int)) = (n : Int) := ⟨((m1 : Int) % (65 - (m : Int))).toNat, by rw [Int.toNat_of_nonneg (Int.emod_nonneg _ (by omega))]⟩
    have hnm : m + n ≤ 64 := by
      have := Int.emod_lt_of_pos (m1 : Int) (show (0 : Int) < 65 - (m : Int) by omega)
      omega
    go_upto_region 11 with fail
    clear hm1 hn
    go_wp2
    go_loopw [7, 11] (fun s7 s11 wr => KeysAt w kl n g9 ms s7 s11 wr) (fun _ s11 _ => 64 - (intOf s11).toNat)
    case atStart => exact ⟨0, Nat.zero_le _, rfl, by rw [List.replicate_zero, List.append_nil]; exact H2.out, H1.out, H3.out⟩
    case round =>
      obtain ⟨i, hi, rfl, hrow, hblk, hbel⟩ := hrel
      have hsz := hbel.size
      by_cases hlt : i < n
      · have HA := Lib.hid (grow_keep (w := w) 0 0 rfl hrow (by rw [List.length_append, List.length_replicate, ← HM.out]; omega) hsz hblk (by decide) hbel)
        clear hrow hblk hbel
        go_wp2_with (at_builtin; refine wpList_append_by rfl (.tmp 46) (.tmp 47) 22 rfl _ _ rfl rfl _ HA.out ?_; rintro v' w2 ⟨hr2, hk2, hb2⟩; (have HR2 := Lib.hid hr2); (have HK2 := Lib.hid hk2); (have HB2 := Lib.hid hb2); clear hr2 hk2 hb2)
        go_roundw
        case rel =>
          refine ⟨i + 1, hlt, by go_num, ?_, HK2.out, HB2.out⟩
          have h := HR2.out
          rwa [List.append_assoc, ← List.replicate_succ'] at h
        case measure => simp [intOf]; omega
      · have hin : i = n := by omega
        subst hin
        obtain ⟨a8, c8, rfl, hc8⟩ := row_form hrow
        have hl8 : (kl ++ List.replicate i 0).length = m + i := by rw [List.length_append, List.length_replicate, ← HM.out]
        rw [hl8] at hrow hc8 ⊢
        have HRow := Lib.hid hrow
        have HBlk := Lib.hid hblk
        have HBel := Lib.hid hbel
        clear hrow hblk hbel hl8 hi hlt
        go_upto_region 15 with fail
        have hG : ∀ W W' : World, (Blk W g9 26 ms ∧ Row W w.heap.size (.slice a8 (m + i) c8) (kl ++ List.replicate i 0) ∧ Below w.heap.size w W) → Below W.heap.size W W' → (Blk W' g9 26 ms ∧ Row W' w.heap.size (.slice a8 (m + i) c8) (kl ++ List.replicate i 0) ∧ Below w.heap.size w W') := fun W W' hW hb => by
          obtain ⟨h1, h2, h3⟩ := hW
          exact ⟨h1.keep hb, h2.below hb, h3.trans (hb.mono h3.size)⟩
        refine region_by [(49, .is (.slice a8 (m + i) c8)), (50, .is (.slice b nb cb)), (51, .is (.agg ms)), (52, .is (.agg ms)), (53, .is (.bool true)), (54, .is (.bool true)), (55, .is (.slice a8 (m + i) c8)), (56, .sat (fun v _ => IsMarker v (kb key) []) (fun _ _ _ h _ => h)), (57, .is (.slice b nb cb)), (58, .sat (fun v _ => IsMarker v (kb key) text) (fun _ _ _ h _ => h)), (59, .is (.agg ms)), (60, .is (.agg ms)), (61, .is (.bool true)), (62, .is (.bool true)), (6, .is (.bool true))] [6] (fun W => Blk W g9 26 ms ∧ Row W w.heap.size (.slice a8 (m + i) c8) (kl ++ List.replicate i 0) ∧ Below w.heap.size w W) (by kernel_rfl) (by kernel_rfl) (by kernel_rfl) (by kernel_rfl) (by kernel_rfl) (hG _ _ ⟨HBlk.out, HRow.out, HBel.out⟩ (Below.refl _ _).drew) ?_ ?_
        · refine ⟨?b0, ?b1, ?b2, ?b3, ?b4, ?b5, ?b6, ?b7, ?b8, ?b9, ?b10, ?b11, ?b12, ?b13, ?b14, trivial⟩
          case b0 => exact ask_copy (guard_none rfl) (.tmp 7) (.inl rfl) (by intro k hk; cases hk; rfl)
          case b1 => exact ask_copy (guard_none rfl) (.tmp 1) (.inl rfl) (by intro k hk; cases hk; rfl)
          case b2 => exact ask_call hG (guard_none rfl) _ _ _ #[.slice a8 (m + i) c8, .slice b nb cb] (.is (.agg ms)) rfl (by kernel_rfl) rfl rfl (by intro k hk; cases hk; rfl) (fun W hW => by
            have h := HMore.out i W a8 c8 (by rw [← HM.out]; omega) (by rw [← HM.out]; omega) (by rw [← HM.out]; exact hW.2.1.bys) hW.2.2
            rw [← HM.out] at h
            exact h.mono fun e w' h => ⟨_, h.1, rfl, h.2⟩)
          case b3 => exact ask_load (guard_none rfl) 26 (.tmp 9) (.pointer (some ⟨g9, 0, none⟩)) (.agg ms) rfl rfl (by intro k hk; cases hk; rfl) (fun W hW => hW.1.loads _ _ Tryd.underlying26 rfl HSzm.out)
          case b4 => exact ask_cmp (guard_none rfl) _ _ _ _ _ _ _ _ rfl rfl rfl (by intro k hk; cases hk; rfl) (fun W => by rw [HMs.out]; exact eql_hash _ _ M HMl.out W)
          case b5 => exact ask_copy (guard_none rfl) (.tmp 53) (.inl rfl) (by intro k hk; cases hk; rfl)
          case b6 => exact ask_copy (guard_some rfl rfl rfl) (.tmp 7) (.inl rfl) (by intro k hk; cases hk; rfl)
          case b7 => exact ask_call hG (guard_some rfl rfl rfl) _ _ _ #[.slice a8 (m + i) c8] (.sat (fun v _ => IsMarker v (kb key) []) (fun _ _ _ h _ => h)) rfl (by kernel_rfl) rfl rfl (by intro k hk; cases hk; rfl) (fun W hW => by
            have h := HMn.out i W a8 c8 (by rw [← HM.out]; omega) (by rw [← HM.out]; omega) (by rw [← HM.out]; exact hW.2.1.bys) hW.2.2
            rw [← HM.out] at h
            exact h)
          case b8 => exact ask_copy (guard_some rfl rfl rfl) (.tmp 1) (.inl rfl) (by intro k hk; cases hk; rfl)
          case b9 => exact ask_call_by hG (guard_some rfl rfl rfl) _ _ _ (.sat (fun v _ => IsMarker v (kb key) text) (fun _ _ _ h _ => h)) rfl (by kernel_rfl) (by intro k hk; cases hk; rfl) (fun x W hW hk => by
            have e1 : IsMarker (x 56) (kb key) [] := hk 56 rfl
            have e2 : x 57 = .slice b nb cb := hk 57 rfl
            show Calls _ _ #[x 56, x 57] W _
            rw [e2]
            exact mwrite_any (x 56) (kb key) [] text b nb cb W e1 (HX.out.below (Nat.le_refl _) hW.2.2) hcb (by simp) (by rw [HLx.out]; omega) (HT.out.below (Nat.le_refl _) hW.2.2))
          case b10 => exact ask_call_by hG (guard_some rfl rfl rfl) _ _ _ (.is (.agg ms)) rfl (by kernel_rfl) (by intro k hk; cases hk; rfl) (fun x W hW hk => by
            have e1 : IsMarker (x 58) (kb key) text := hk 58 rfl
            show Calls _ _ #[x 58] W _
            have h := mmark_any (x 58) (kb key) text W e1 (by rw [HLx.out]; omega) (HT.out.below (Nat.le_refl _) hW.2.2)
            rw [HMe.out, ← HMs.out] at h
            exact h.mono fun e w' h => ⟨_, h.1, rfl, h.2⟩)
          case b11 => exact ask_load (guard_some rfl rfl rfl) 26 (.tmp 9) (.pointer (some ⟨g9, 0, none⟩)) (.agg ms) rfl rfl (by intro k hk; cases hk; rfl) (fun W hW => hW.1.loads _ _ Tryd.underlying26 rfl HSzm.out)
          case b12 => exact ask_cmp (guard_some rfl rfl rfl) _ _ _ _ _ _ _ _ rfl rfl rfl (by intro k hk; cases hk; rfl) (fun W => by rw [HMs.out]; exact eql_hash _ _ M HMl.out W)
          case b13 => exact ask_pick (guard_none rfl) (.tmp 54) (.tmp 61) (.const (.bool false)) true rfl rfl (by intro k hk; cases hk; rfl)
          case b14 => exact ask_copy (guard_none rfl) (.tmp 62) (.inr rfl) (by intro k hk; cases hk; rfl)
        intro a2 W2 hW2 hd2 hs2 hf2
        have t6 : a2.tmps.getD 6 undef = .bool true := hf2 6 rfl
        obtain ⟨us2, hus, ha'⟩ := act_open 63 a2 hs2 hd2
        rw [← hus] at t6
        have el : ((List.range 63).map us2).toArray = #[us2 0, us2 1, us2 2, us2 3, us2 4, us2 5, us2 6, us2 7, us2 8, us2 9, us2 10, us2 11, us2 12, us2 13, us2 14, us2 15, us2 16, us2 17, us2 18, us2 19, us2 20, us2 21, us2 22, us2 23, us2 24, us2 25, us2 26, us2 27, us2 28, us2 29, us2 30, us2 31, us2 32, us2 33, us2 34, us2 35, us2 36, us2 37, us2 38, us2 39, us2 40, us2 41, us2 42, us2 43, us2 44, us2 45, us2 46, us2 47, us2 48, us2 49, us2 50, us2 51, us2 52, us2 53, us2 54, us2 55, us2 56, us2 57, us2 58, us2 59, us2 60, us2 61, us2 62] := rfl
        rw [el] at ha'
        subst ha'
        rw [t6]
        clear hus t6 el hf2 hs2 hd2
        go_wp2
        go_ret
        exact ⟨rfl, hW2.2.2⟩
  · have hkey : keyL key = key := by rw [keyL, if_neg (by rw [HLk.out]; exact hlong)]
    obtain ⟨w7, rfl⟩ : ∃ w7, w7 = w2 := ⟨_, rfl⟩
    have HB7 := Lib.hid HB3.out
    have hr7 := HR3.out
    rw [← hkey] at hr7
    have HR7 := Lib.hid hr7
    clear hr7 hkey HR3 HB3
    go_upto_region 7 with fail
    have hkl := keyL_length key
    obtain ⟨kl, hkle⟩ : ∃ kl, kl = keyL key := ⟨_, rfl⟩
    have HR7 := HR7.out
    rw [← hkle] at HR7 hkl
    have HR7 := Lib.hid HR7
    obtain ⟨M, hM⟩ : ∃ M, M = hmac key text := ⟨_, rfl⟩
    have hMk : ∀ j, kl.length + j ≤ 64 → kb (kl ++ List.replicate j 0) = kb key := fun j hj => by rw [kb_zeros kl j hj, hkle, kb_keyL]
    have hMl : M.length = 32 := by rw [hM]; exact hmac_length _ _
    obtain ⟨ms, hms⟩ : ∃ ms, ms = bs M := ⟨_, rfl⟩
    have hml : ms.size = 32 := by rw [hms, bs_size, hMl]
    have hone : ms.all (·.oneCell') = true := by rw [hms]; exact bs_one _
    have hszm : (Tryd.prog.info? 26).map (·.size) = some ms.size := by rw [hml]; kernel_rfl
    have c1 := mark_any key text a b na ca nb cb w7 (HV.out.below (Nat.le_refl _) HB7.out) hca (HX.out.below (Nat.le_refl _) HB7.out) hcb (by omega) (by omega) (HT.out.below (Nat.le_refl _) HB7.out)
    rw [← hM, ← hms] at c1
    have hmore : ∀ j W a' c', kl.length + j ≤ 64 → kl.length + j ≤ c' → Bys W (.slice a' (kl.length + j) c') (kl ++ List.replicate j 0) → Below w.heap.size w W → Calls Tryd.prog 8 #[.slice a' (kl.length + j) c', .slice b nb cb] W fun e w' => e = .returned (.agg ms) ∧ Below W.heap.size W w' := fun j W a' c' hj hc hb hW => by
      have h := mark_any (kl ++ List.replicate j 0) text a' b _ c' nb cb W hb hc (HX.out.below (Nat.le_refl _) hW) hcb (by omega) (by omega) (HT.out.below (Nat.le_refl _) hW)
      have e : hmac (kl ++ List.replicate j 0) text = M := by rw [hM, hmac, hmac, hMk j hj]
      rw [e, ← hms] at h
      exact h
    have hmn : ∀ j W a' c', kl.length + j ≤ 64 → kl.length + j ≤ c' → Bys W (.slice a' (kl.length + j) c') (kl ++ List.replicate j 0) → Below w.heap.size w W → Calls Tryd.prog 12 #[.slice a' (kl.length + j) c'] W fun e w' => ∃ v, e = .returned v ∧ IsMarker v (kb key) [] ∧ Below W.heap.size W w' := fun j W a' c' hj hc hb hW => by
      have h := new_any (kl ++ List.replicate j 0) a' _ c' W hb hc (by omega) (HT.out.below (Nat.le_refl _) hW)
      rwa [hMk j hj] at h
    have hMe : mark0 (kb key) text = M := by rw [hM]; rfl
    have HMe := Lib.hid hMe
    have HMs := Lib.hid hms
    have HMl := Lib.hid hMl
    have HMl2 := Lib.hid hml
    have HOne := Lib.hid hone
    have HSzm := Lib.hid hszm
    have HMore := Lib.hid hmore
    have HMn := Lib.hid hmn
    have C1 := Lib.hid c1
    obtain ⟨m, hm⟩ : ∃ m, m = kl.length := ⟨_, rfl⟩
    have HM := Lib.hid hm
    have hm64 : m ≤ 64 := by omega
    obtain ⟨a7, c7, rfl, hc7⟩ := row_form HR7.out
    have hR7 := HR7.out
    rw [← hm] at hR7 hc7 ⊢
    have HR7 := Lib.hid hR7
    clear hMk hMl hml hone hszm hmore hmn c1 hM hMe hms hkle hkl hR7 hm
    have hs7 := HB7.out.size
    go_wp2_with fail
    refine C1.out.mono ?_
    rintro e w8 ⟨rfl, hb8⟩
    have hs8 := hb8.size
    have hB8 := HB7.out.trans (hb8.mono hs7)
    have HR8 := Lib.hid (HR7.out.below hb8)
    have HB8 := Lib.hid hB8
    clear hb8 hB8 C1
    go_upto_region 8 with (refine wpList_store_row rfl 26 (.tmp 9) (.tmp 27) rfl w8.heap.size ms rfl rfl 26 _ (heap_alloc_new w8 _) HSzm.out (by rw [HMl2.out]; rfl) HOne.out ?_)
    obtain ⟨g9, hg9⟩ : ∃ g9, g9 = w8.heap.size := ⟨_, rfl⟩
    have hG : ∀ W W' : World, (Blk W g9 26 ms ∧ Row W w.heap.size (.slice a7 m c7) kl ∧ Below w.heap.size w W) → Below W.heap.size W W' → (Blk W' g9 26 ms ∧ Row W' w.heap.size (.slice a7 m c7) kl ∧ Below w.heap.size w W') := fun W W' hW hb => by
      obtain ⟨h1, h2, h3⟩ := hW
      exact ⟨h1.keep hb, h2.below hb, h3.trans (hb.mono h3.size)⟩
    refine world_cut (fun W => Blk W g9 26 ms ∧ Row W w.heap.size (.slice a7 m c7) kl ∧ Below w.heap.size w W) ?_ ?_
    · have hbn : Below w8.heap.size w8 (w8.alloc (.cells (Value.agg (bs (List.replicate 32 0))).cells 26)) := (Below.refl _ _).alloc (Nat.le_refl _) _
      refine ⟨by rw [hg9]; exact Blk.row (Blk.new w8 _ _) ms, HR8.out.below (below_setRow ((Below.refl _ _).alloc (Nat.le_refl _) _) _ _ (Nat.le_refl _)), below_setRow (HB8.out.alloc (by omega) _) _ _ (by omega)⟩
    rw [← hg9]
    have hg9w : w.heap.size ≤ g9 := by omega
    clear hg9 HR7 HR8 HB8 hs8
    intro W9 hW9
    refine region_by [(28, .is (.slice a7 m c7)), (29, .is (.slice b nb cb)), (30, .is (.agg ms)), (31, .is (.agg ms)), (32, .is (.bool false))] [0, 1, 2, 3, 4, 5, 6, 7, 8, 9, 10, 11, 32] (fun W => Blk W g9 26 ms ∧ Row W w.heap.size (.slice a7 m c7) kl ∧ Below w.heap.size w W) (by kernel_rfl) (by kernel_rfl) (by kernel_rfl) (by kernel_rfl) (by kernel_rfl) (hG _ _ hW9 (Below.refl _ _).drew) ?_ ?_
    · refine ⟨?a0, ?a1, ?a2, ?a3, ?a4, trivial⟩
      case a0 => exact ask_copy (guard_none rfl) (.tmp 7) (.inl rfl) (by intro k hk; cases hk; rfl)
      case a1 => exact ask_copy (guard_none rfl) (.tmp 1) (.inl rfl) (by intro k hk; cases hk; rfl)
      case a2 => exact ask_call hG (guard_none rfl) _ _ _ #[.slice a7 m c7, .slice b nb cb] (.is (.agg ms)) rfl (by kernel_rfl) rfl rfl (by intro k hk; cases hk; rfl) (fun W hW => by
        have h := HMore.out 0 W a7 c7 (by rw [← HM.out]; omega) (by rw [← HM.out]; omega) (by rw [Nat.add_zero, ← HM.out, List.replicate_zero, List.append_nil]; exact hW.2.1.bys) hW.2.2
        rw [Nat.add_zero, ← HM.out] at h
        exact h.mono fun e w' h => ⟨_, h.1, rfl, h.2⟩)
      case a3 => exact ask_load (guard_none rfl) 26 (.tmp 9) (.pointer (some ⟨g9, 0, none⟩)) (.agg ms) rfl rfl (by intro k hk; cases hk; rfl) (fun W hW => hW.1.loads _ _ Tryd.underlying26 rfl HSzm.out)
      case a4 => exact ask_cmp (guard_none rfl) _ _ _ _ _ _ _ _ rfl rfl rfl (by intro k hk; cases hk; rfl) (fun W => by rw [HMs.out]; exact neq_hash _ _ M HMl.out W)
    intro a' W1 hW1 hd1 hs1 hf1
    have t0 : a'.tmps.getD 0 undef = .slice a na ca := hf1 0 rfl
    have t1 : a'.tmps.getD 1 undef = .slice b nb cb := hf1 1 rfl
    have t2 : a'.tmps.getD 2 undef = .int .i64 z := hf1 2 rfl
    have t7 : a'.tmps.getD 7 undef = .slice a7 m c7 := hf1 7 rfl
    have t9 : a'.tmps.getD 9 undef = .pointer (some ⟨g9, 0, none⟩) := hf1 9 rfl
    have t32 : a'.tmps.getD 32 undef = .bool false := hf1 32 rfl
    obtain ⟨us', hus, ha'⟩ := act_open 63 a' hs1 hd1
    rw [← hus] at t0 t1 t2 t7 t9 t32
    have el : ((List.range 63).map us').toArray = #[us' 0, us' 1, us' 2, us' 3, us' 4, us' 5, us' 6, us' 7, us' 8, us' 9, us' 10, us' 11, us' 12, us' 13, us' 14, us' 15, us' 16, us' 17, us' 18, us' 19, us' 20, us' 21, us' 22, us' 23, us' 24, us' 25, us' 26, us' 27, us' 28, us' 29, us' 30, us' 31, us' 32, us' 33, us' 34, us' 35, us' 36, us' 37, us' 38, us' 39, us' 40, us' 41, us' 42, us' 43, us' 44, us' 45, us' 46, us' 47, us' 48, us' 49, us' 50, us' 51, us' 52, us' 53, us' 54, us' 55, us' 56, us' 57, us' 58, us' 59, us' 60, us' 61, us' 62] := rfl
    rw [el] at ha'
    subst ha'
    rw [t0, t1, t2, t7, t9, t32]
    clear hus t0 t1 t2 t7 t9 t32 el hf1 hs1 hd1
    clear hG hW9
    obtain ⟨h1, h2, h3⟩ := hW1
    have H1 := Lib.hid h1
    have H2 := Lib.hid h2
    have H3 := Lib.hid h3
    clear h1 h2 h3
    obtain ⟨m1, hm1⟩ : ∃ q : Nat, IntKind.u64.wrap z = (q : Int) := ⟨(IntKind.u64.wrap z).toNat, by rw [IntKind.wrap_u64]; omega⟩
    obtain ⟨n, hn⟩ : ∃ n : Nat, (m1 : Int) % (65 - (m : Int)) = (n : Int) := ⟨((m1 : Int) % (65 - (m : Int))).toNat, by rw [Int.toNat_of_nonneg (Int.emod_nonneg _ (by omega))]⟩
    have hnm : m + n ≤ 64 := by
      have := Int.emod_lt_of_pos (m1 : Int) (show (0 : Int) < 65 - (m : Int) by omega)
      omega
    go_upto_region 11 with fail
    clear hm1 hn
    go_wp2
    go_loopw [7, 11] (fun s7 s11 wr => KeysAt w kl n g9 ms s7 s11 wr) (fun _ s11 _ => 64 - (intOf s11).toNat)
    case atStart => exact ⟨0, Nat.zero_le _, rfl, by rw [List.replicate_zero, List.append_nil]; exact H2.out, H1.out, H3.out⟩
    case round =>
      obtain ⟨i, hi, rfl, hrow, hblk, hbel⟩ := hrel
      have hsz := hbel.size
      by_cases hlt : i < n
      · have HA := Lib.hid (grow_keep (w := w) 0 0 rfl hrow (by rw [List.length_append, List.length_replicate, ← HM.out]; omega) hsz hblk (by decide) hbel)
        clear hrow hblk hbel
        go_wp2_with (at_builtin; refine wpList_append_by rfl (.tmp 46) (.tmp 47) 22 rfl _ _ rfl rfl _ HA.out ?_; rintro v' w2 ⟨hr2, hk2, hb2⟩; (have HR2 := Lib.hid hr2); (have HK2 := Lib.hid hk2); (have HB2 := Lib.hid hb2); clear hr2 hk2 hb2)
        go_roundw
        case rel =>
          refine ⟨i + 1, hlt, by go_num, ?_, HK2.out, HB2.out⟩
          have h := HR2.out
          rwa [List.append_assoc, ← List.replicate_succ'] at h
        case measure => simp [intOf]; omega
      · have hin : i = n := by omega
        subst hin
        obtain ⟨a8, c8, rfl, hc8⟩ := row_form hrow
        have hl8 : (kl ++ List.replicate i 0).length = m + i := by rw [List.length_append, List.length_replicate, ← HM.out]
        rw [hl8] at hrow hc8 ⊢
        have HRow := Lib.hid hrow
        have HBlk := Lib.hid hblk
        have HBel := Lib.hid hbel
        clear hrow hblk hbel hl8 hi hlt
        go_upto_region 15 with fail
        have hG : ∀ W W' : World, (Blk W g9 26 ms ∧ Row W w.heap.size (.slice a8 (m + i) c8) (kl ++ List.replicate i 0) ∧ Below w.heap.size w W) → Below W.heap.size W W' → (Blk W' g9 26 ms ∧ Row W' w.heap.size (.slice a8 (m + i) c8) (kl ++ List.replicate i 0) ∧ Below w.heap.size w W') := fun W W' hW hb => by
          obtain ⟨h1, h2, h3⟩ := hW
          exact ⟨h1.keep hb, h2.below hb, h3.trans (hb.mono h3.size)⟩
        refine region_by [(49, .is (.slice a8 (m + i) c8)), (50, .is (.slice b nb cb)), (51, .is (.agg ms)), (52, .is (.agg ms)), (53, .is (.bool true)), (54, .is (.bool true)), (55, .is (.slice a8 (m + i) c8)), (56, .sat (fun v _ => IsMarker v (kb key) []) (fun _ _ _ h _ => h)), (57, .is (.slice b nb cb)), (58, .sat (fun v _ => IsMarker v (kb key) text) (fun _ _ _ h _ => h)), (59, .is (.agg ms)), (60, .is (.agg ms)), (61, .is (.bool true)), (62, .is (.bool true)), (6, .is (.bool true))] [6] (fun W => Blk W g9 26 ms ∧ Row W w.heap.size (.slice a8 (m + i) c8) (kl ++ List.replicate i 0) ∧ Below w.heap.size w W) (by kernel_rfl) (by kernel_rfl) (by kernel_rfl) (by kernel_rfl) (by kernel_rfl) (hG _ _ ⟨HBlk.out, HRow.out, HBel.out⟩ (Below.refl _ _).drew) ?_ ?_
        · refine ⟨?b0, ?b1, ?b2, ?b3, ?b4, ?b5, ?b6, ?b7, ?b8, ?b9, ?b10, ?b11, ?b12, ?b13, ?b14, trivial⟩
          case b0 => exact ask_copy (guard_none rfl) (.tmp 7) (.inl rfl) (by intro k hk; cases hk; rfl)
          case b1 => exact ask_copy (guard_none rfl) (.tmp 1) (.inl rfl) (by intro k hk; cases hk; rfl)
          case b2 => exact ask_call hG (guard_none rfl) _ _ _ #[.slice a8 (m + i) c8, .slice b nb cb] (.is (.agg ms)) rfl (by kernel_rfl) rfl rfl (by intro k hk; cases hk; rfl) (fun W hW => by
            have h := HMore.out i W a8 c8 (by rw [← HM.out]; omega) (by rw [← HM.out]; omega) (by rw [← HM.out]; exact hW.2.1.bys) hW.2.2
            rw [← HM.out] at h
            exact h.mono fun e w' h => ⟨_, h.1, rfl, h.2⟩)
          case b3 => exact ask_load (guard_none rfl) 26 (.tmp 9) (.pointer (some ⟨g9, 0, none⟩)) (.agg ms) rfl rfl (by intro k hk; cases hk; rfl) (fun W hW => hW.1.loads _ _ Tryd.underlying26 rfl HSzm.out)
          case b4 => exact ask_cmp (guard_none rfl) _ _ _ _ _ _ _ _ rfl rfl rfl (by intro k hk; cases hk; rfl) (fun W => by rw [HMs.out]; exact eql_hash _ _ M HMl.out W)
          case b5 => exact ask_copy (guard_none rfl) (.tmp 53) (.inl rfl) (by intro k hk; cases hk; rfl)
          case b6 => exact ask_copy (guard_some rfl rfl rfl) (.tmp 7) (.inl rfl) (by intro k hk; cases hk; rfl)
          case b7 => exact ask_call hG (guard_some rfl rfl rfl) _ _ _ #[.slice a8 (m + i) c8] (.sat (fun v _ => IsMarker v (kb key) []) (fun _ _ _ h _ => h)) rfl (by kernel_rfl) rfl rfl (by intro k hk; cases hk; rfl) (fun W hW => by
            have h := HMn.out i W a8 c8 (by rw [← HM.out]; omega) (by rw [← HM.out]; omega) (by rw [← HM.out]; exact hW.2.1.bys) hW.2.2
            rw [← HM.out] at h
            exact h)
          case b8 => exact ask_copy (guard_some rfl rfl rfl) (.tmp 1) (.inl rfl) (by intro k hk; cases hk; rfl)
          case b9 => exact ask_call_by hG (guard_some rfl rfl rfl) _ _ _ (.sat (fun v _ => IsMarker v (kb key) text) (fun _ _ _ h _ => h)) rfl (by kernel_rfl) (by intro k hk; cases hk; rfl) (fun x W hW hk => by
            have e1 : IsMarker (x 56) (kb key) [] := hk 56 rfl
            have e2 : x 57 = .slice b nb cb := hk 57 rfl
            show Calls _ _ #[x 56, x 57] W _
            rw [e2]
            exact mwrite_any (x 56) (kb key) [] text b nb cb W e1 (HX.out.below (Nat.le_refl _) hW.2.2) hcb (by simp) (by rw [HLx.out]; omega) (HT.out.below (Nat.le_refl _) hW.2.2))
          case b10 => exact ask_call_by hG (guard_some rfl rfl rfl) _ _ _ (.is (.agg ms)) rfl (by kernel_rfl) (by intro k hk; cases hk; rfl) (fun x W hW hk => by
            have e1 : IsMarker (x 58) (kb key) text := hk 58 rfl
            show Calls _ _ #[x 58] W _
            have h := mmark_any (x 58) (kb key) text W e1 (by rw [HLx.out]; omega) (HT.out.below (Nat.le_refl _) hW.2.2)
            rw [HMe.out, ← HMs.out] at h
            exact h.mono fun e w' h => ⟨_, h.1, rfl, h.2⟩)
          case b11 => exact ask_load (guard_some rfl rfl rfl) 26 (.tmp 9) (.pointer (some ⟨g9, 0, none⟩)) (.agg ms) rfl rfl (by intro k hk; cases hk; rfl) (fun W hW => hW.1.loads _ _ Tryd.underlying26 rfl HSzm.out)
          case b12 => exact ask_cmp (guard_some rfl rfl rfl) _ _ _ _ _ _ _ _ rfl rfl rfl (by intro k hk; cases hk; rfl) (fun W => by rw [HMs.out]; exact eql_hash _ _ M HMl.out W)
          case b13 => exact ask_pick (guard_none rfl) (.tmp 54) (.tmp 61) (.const (.bool false)) true rfl rfl (by intro k hk; cases hk; rfl)
          case b14 => exact ask_copy (guard_none rfl) (.tmp 62) (.inr rfl) (by intro k hk; cases hk; rfl)
        intro a2 W2 hW2 hd2 hs2 hf2
        have t6 : a2.tmps.getD 6 undef = .bool true := hf2 6 rfl
        obtain ⟨us2, hus, ha'⟩ := act_open 63 a2 hs2 hd2
        rw [← hus] at t6
        have el : ((List.range 63).map us2).toArray = #[us2 0, us2 1, us2 2, us2 3, us2 4, us2 5, us2 6, us2 7, us2 8, us2 9, us2 10, us2 11, us2 12, us2 13, us2 14, us2 15, us2 16, us2 17, us2 18, us2 19, us2 20, us2 21, us2 22, us2 23, us2 24, us2 25, us2 26, us2 27, us2 28, us2 29, us2 30, us2 31, us2 32, us2 33, us2 34, us2 35, us2 36, us2 37, us2 38, us2 39, us2 40, us2 41, us2 42, us2 43, us2 44, us2 45, us2 46, us2 47, us2 48, us2 49, us2 50, us2 51, us2 52, us2 53, us2 54, us2 55, us2 56, us2 57, us2 58, us2 59, us2 60, us2 61, us2 62] := rfl
        rw [el] at ha'
        subst ha'
        rw [t6]
        clear hus t6 el hf2 hs2 hd2
        go_wp2
        go_ret
        exact ⟨rfl, hW2.2.2⟩

theorem keys_all (w : World) (ht : Tabs w) (a : Option Addr) (na ca : Nat) (x : List Int) (hx : IsRow .u8 w a na ca x) (sx : ca * 1 ≤ 140737488351232) (b : Option Addr) (nb cb : Nat) (y : List Int) (hy : IsRow .u8 w b nb cb y) (sy : cb * 1 ≤ 140737488351232)
    (z : Int) (_hz : (Lit.int .i64 z).wf = true) : Calls Tryd.prog 5 #[.slice a na ca, .slice b nb cb, .int .i64 z] w fun e w' => e = .returned (.bool true) ∧ Below w.heap.size w w' := by
  obtain ⟨k, _, hb1⟩ := hx.bys
  obtain ⟨t, _, hb2⟩ := hy.bys
  have h1 := hx.le
  have h2 := hy.le
  exact keys_walk k t z a b na ca nb cb w hb1 h1 hb2 h2 (by omega) (by omega) ht
end Go.Proofs.YtlnhjllcgbdalaaDoor
