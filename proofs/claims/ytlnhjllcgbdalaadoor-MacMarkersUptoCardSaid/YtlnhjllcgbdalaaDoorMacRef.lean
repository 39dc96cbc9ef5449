/- The reference's mark of a text. -/
import Derived.Test.YtlnhjllcgbdalaaDoorMacPad
namespace Go.Proofs.YtlnhjllcgbdalaaDoor
open Go.RowKit ShaMath MacMath Reg

theorem bys_slice {W : World} {v : Value} {l : List UInt8} (h : Bys W v l) : ∃ a cap, v = .slice a l.length cap := by
  rcases h with ⟨rfl, rfl⟩ | ⟨ad, cap, rfl, _⟩
  · exact ⟨none, 0, rfl⟩
  · exact ⟨_, _, rfl⟩

set_option maxRecDepth 100000 in
theorem refmark_any (key text : List UInt8) (a b : Option Addr) (na ca nb cb : Nat) (w : World) (hk : Bys w (.slice a na ca) key) (hx : Bys w (.slice b nb cb) text) (hlk : na ≤ 140737488355200) (hlx : nb ≤ 140737488355136) (hc : Consts w) :
    Calls Tryd.prog 9 #[.slice a na ca, .slice b nb cb] w fun e w' => e = .returned (.agg (bs (hmac key text))) ∧ Below w.heap.size w w' := by
  have hlenk := bys_len hk
  have hlen := bys_len hx
  have HK := Lib.hid hk
  have HX := Lib.hid hx
  have HLen := Lib.hid hlen
  have HLenK := Lib.hid hlenk
  have HC := Lib.hid hc
  obtain ⟨M, hM⟩ : ∃ M, M = hmac key text := ⟨_, rfl⟩
  rw [← hM]
  have hMl : M.length = 32 := by rw [hM]; exact hmac_length key text
  have HMl := Lib.hid hMl
  have HMe := Lib.hid hM
  clear hk hx hc hlen hlenk hM hMl
  go_enter Tryd.func9, Tryd.ntmps9
  go_wp2_with fail
  have hb0 : ∀ o : Obj, Below w.heap.size w (w.alloc o) := fun o => (Below.refl _ _).alloc (Nat.le_refl _) o
  refine (pad_any key 0x36 a na ca _ (HK.out.below (Nat.le_refl _) (hb0 _)) hlk (HC.out.below (Nat.le_refl _) (hb0 _))).mono ?_
  rintro e w1 ⟨v1, rfl, hr1, hb1⟩
  have hsz1 := hb1.size
  have hB1 : Below w.heap.size w w1 := (hb0 _).trans (hb1.mono (by simp))
  have hz1 : ∃ zs, Blk w1 w.heap.size 26 zs ∧ zs.size = 32 := ⟨_, (Blk.newAt _ _ _ _ _ rfl rfl).keep hb1, rfl⟩
  have hr2 : Row w1 (w.heap.size + 1) v1 (xr (kb key) 0x36) := hr1.lower (by simp)
  have hsw : w.heap.size + 1 ≤ w1.heap.size := by
    obtain ⟨zs, h1, _⟩ := hz1
    exact h1.lt
  have HA := Lib.hid (grow_own (B := w.heap.size + 1) (w := w1) hsw hr2 (HX.out.below (Nat.le_refl _) hB1) (by rw [xr_length, kb_length, HLen.out]; omega) (Below.refl _ _))
  have HB1 := Lib.hid hB1
  have HZ1 := Lib.hid hz1
  clear hb0 hr1 hb1 hB1 hz1 hr2 hsz1
  go_wp2_with (at_builtin; refine wpList_append_by rfl (.tmp 7) (.tmp 8) 22 rfl _ _ rfl rfl _ HA.out ?_; rintro v2 w2 ⟨hr2, hb2⟩; (have HR2 := Lib.hid hr2); (have HB2 := Lib.hid hb2); clear hr2 hb2)
  obtain ⟨a2, c2, rfl⟩ := slice_of_row HR2.out
  have hl2 : (xr (kb key) 0x36 ++ text).length = 64 + nb := by rw [List.length_append, xr_length, kb_length, HLen.out]
  obtain ⟨h1, hh1⟩ : ∃ h1, h1 = ShaMath.hash (xr (kb key) 0x36 ++ text) := ⟨_, rfl⟩
  have hh32 : h1.length = 32 := by rw [hh1, hash_length]
  have hmk : M = ShaMath.hash (xr (kb key) 0x5c ++ h1) := by rw [HMe.out, hh1]; rfl
  obtain ⟨hs, hhs⟩ : ∃ hs, hs = bs h1 := ⟨_, rfl⟩
  have hB2 : Below w.heap.size w w2 := HB1.out.trans (HB2.out.mono (by omega))
  have hsm := refsum_any (xr (kb key) 0x36 ++ text) a2 _ c2 w2 HR2.out.bys rfl (by rw [hl2]; omega) (HC.out.below (Nat.le_refl _) hB2)
  rw [← hh1, ← hhs] at hsm
  have hs32 : hs.size = 32 := by rw [hhs, bs_size, hh32]
  have hsone : hs.all (·.oneCell') = true := by rw [hhs]; exact bs_one _
  have hszh : (Tryd.prog.info? 26).map (·.size) = some hs.size := by rw [hs32]; kernel_rfl
  have hz2 : ∃ zs, Blk w2 w.heap.size 26 zs ∧ zs.size = 32 := by
    obtain ⟨zs, h1, h2⟩ := HZ1.out
    exact ⟨zs, h1.below (by omega) HB2.out, h2⟩
  have hs12 := HB2.out.size
  have HB3 := Lib.hid hB2
  have HZ2 := Lib.hid hz2
  have HSm := Lib.hid hsm
  have HHs := Lib.hid hhs
  have HH32 := Lib.hid hh32
  have HMk := Lib.hid hmk
  have HS32 := Lib.hid hs32
  have HSone := Lib.hid hsone
  have HSzh := Lib.hid hszh
  clear hB2 hz2 hsm hhs hh32 hmk hs32 hsone hszh hh1 hl2 HA HB1 HZ1 HB2 HR2
  go_wp2_with fail
  refine HSm.out.mono ?_
  rintro e w3 ⟨rfl, hb3⟩
  have hs3 := hb3.size
  have HZ3 := Lib.hid (show ∃ zs, Blk w3 w.heap.size 26 zs ∧ zs.size = 32 by
    obtain ⟨zs, h1, h2⟩ := HZ2.out
    exact ⟨zs, h1.keep hb3, h2⟩)
  have HB4 := Lib.hid (HB3.out.trans (hb3.mono HB3.out.size))
  clear hb3 HZ2 HB3 HSm
  go_upto_region 2 with (refine wpList_store_row rfl 26 (.tmp 5) (.tmp 10) rfl w3.heap.size hs rfl rfl 26 _ (heap_alloc_new w3 _) HSzh.out (by rw [HS32.out]; rfl) HSone.out ?_)
  obtain ⟨g3, hg3⟩ : ∃ g3, g3 = w3.heap.size := ⟨_, rfl⟩
  have hgs : w.heap.size + 1 ≤ g3 := by omega
  have hG : ∀ W W' : World, (Blk W g3 26 hs ∧ (∃ zs, Blk W w.heap.size 26 zs ∧ zs.size = 32) ∧ Below w.heap.size w W) → Below W.heap.size W W' → (Blk W' g3 26 hs ∧ (∃ zs, Blk W' w.heap.size 26 zs ∧ zs.size = 32) ∧ Below w.heap.size w W') := fun W W' hW hb => by
    obtain ⟨h2, ⟨zs, h3, h4⟩, h5⟩ := hW
    exact ⟨h2.keep hb, ⟨zs, h3.keep hb, h4⟩, h5.trans (hb.mono h5.size)⟩
  refine world_cut (fun W => Blk W g3 26 hs ∧ (∃ zs, Blk W w.heap.size 26 zs ∧ zs.size = 32) ∧ Below w.heap.size w W) ?_ ?_
  · refine ⟨by rw [hg3]; exact Blk.row (Blk.new w3 _ _) hs, ?_, below_setRow (HB4.out.alloc (by omega) _) _ _ (by omega)⟩
    obtain ⟨zs, h1, h2⟩ := HZ3.out
    exact ⟨zs, (h1.alloc _).rowOther _ (by omega), h2⟩
  rw [← hg3]
  clear hg3 HZ3 HB4 hsw hs3
  intro W4 hW4
  refine region_tail_by 5 _ [(11, .is (.slice a na ca)), (12, .row (g3 + 1) (xr (kb key) 0x5c)), (13, .is (.slice (some ⟨g3, 0, none⟩) 32 32)), (14, .bys (xr (kb key) 0x5c ++ h1)), (15, .is (.agg (bs M)))] [0, 1, 2, 3, 4, 5, 15]
    (fun W => Blk W g3 26 hs ∧ (∃ zs, Blk W w.heap.size 26 zs ∧ zs.size = 32) ∧ Below w.heap.size w W) (by kernel_rfl) (by kernel_rfl) (by kernel_rfl) (by kernel_rfl) (by kernel_rfl) rfl rfl rfl rfl (by kernel_rfl) ?_ ?_ ?_
  · obtain ⟨h2, h3, h4⟩ := hW4
    exact ⟨h2, h3, ⟨h4.os, h4.tape, h4.output, h4.size, h4.block⟩⟩
  · refine ⟨?a0, ?a1, ?a2, ?a3, ?a4, trivial⟩
    case a0 => exact ask_copy (guard_none rfl) (.tmp 0) (.inl rfl) (by intro k hk; cases hk; rfl)
    case a1 => exact ask_call hG (guard_none rfl) _ _ _ #[.slice a na ca, .int .u8 92] (.row (g3 + 1) (xr (kb key) 0x5c)) rfl (by kernel_rfl) rfl rfl (by intro k hk; cases hk; rfl) (fun W hW => (pad_any key 0x5c a na ca W (HK.out.below (Nat.le_refl _) hW.2.2) hlk (HC.out.below (Nat.le_refl _) hW.2.2)).mono fun e w' h => by
      obtain ⟨v, h1, h2, h3⟩ := h
      exact ⟨v, h1, h2.lower hW.1.lt, h3⟩)
    case a2 => exact ask_slice (guard_none rfl) 26 (.tmp 5) none none none (.pointer (some ⟨g3, 0, none⟩)) (.slice (some ⟨g3, 0, none⟩) 32 32) none none none rfl rfl rfl rfl rfl (by intro k hk; cases hk; rfl) (fun W => slice_hash_all g3 W)
    case a3 => exact ask_append_row (guard_none rfl) (by kernel_rfl) (.tmp 12) (.tmp 13) (g3 + 1) (xr (kb key) 0x5c) h1 rfl rfl rfl (fun x W hW hk => by
      have e13 : x 13 = .slice (some ⟨g3, 0, none⟩) 32 32 := hk 13 rfl
      show Bys W (x 13) h1
      rw [e13]
      have := hW.1
      rw [HHs.out] at this
      exact this.bysOf 32 32 HH32.out) (by rw [xr_length, kb_length, HH32.out]; omega) (fun W hW => hW.1.lt) (fun W W' row hW hg hrow => by
        obtain ⟨h2, ⟨zs, h3, h4⟩, h5⟩ := hW
        have hb : Below (g3 + 1) W W' := (Below.refl _ _).grown hg h2.lt hrow
        exact ⟨h2.below (by omega) hb, ⟨zs, h3.below (by omega) hb, h4⟩, h5.trans (hb.mono (by omega))⟩) (by intro k hk; cases hk; exact .inr rfl)
    case a4 => exact ask_call_by hG (guard_none rfl) _ _ _ (.is (.agg (bs M))) rfl (by kernel_rfl) (by intro k hk; cases hk; rfl) (fun x W hW hk => by
      have e14 : Bys W (x 14) (xr (kb key) 0x5c ++ h1) := hk 14 rfl
      obtain ⟨a4, c4, e⟩ := bys_slice e14
      show Calls _ _ #[x 14] W _
      rw [e] at e14 ⊢
      refine (refsum_any _ a4 _ c4 W e14 rfl (by rw [List.length_append, xr_length, kb_length, HH32.out]; decide) (HC.out.below (Nat.le_refl _) hW.2.2)).mono fun e w' h => ⟨_, h.1, ?_, h.2⟩
      show _ = _
      rw [HMk.out])
  intro a' W5 hW5 hd5 hs5 hf5
  have t4 : a'.tmps.getD 4 undef = .pointer (some ⟨w.heap.size, 0, none⟩) := hf5 4 rfl
  have t15 : a'.tmps.getD 15 undef = .agg (bs M) := hf5 15 rfl
  obtain ⟨us', hus, ha'⟩ := act_open 16 a' hs5 hd5
  rw [← hus] at t4 t15
  have el : ((List.range 16).map us').toArray = #[us' 0, us' 1, us' 2, us' 3, us' 4, us' 5, us' 6, us' 7, us' 8, us' 9, us' 10, us' 11, us' 12, us' 13, us' 14, us' 15] := rfl
  rw [el] at ha'
  subst ha'
  rw [t4, t15]
  clear hus t4 t15 el hf5 hs5 hd5 hG hW4
  obtain ⟨-, ⟨zs, hz1, hz2⟩, hB5⟩ := hW5
  obtain ⟨bb, hbb⟩ : ∃ bb, bb = bs M := ⟨_, rfl⟩
  rw [← hbb]
  have hbl : bb.size = 32 := by rw [hbb, bs_size, HMl.out]
  have hone : bb.all (·.oneCell') = true := by rw [hbb]; exact bs_one _
  have hsz2 : (Tryd.prog.info? 26).map (·.size) = some bb.size := by rw [hbl]; kernel_rfl
  refine wpList_store_row rfl 26 (.tmp 4) (.tmp 15) rfl w.heap.size bb rfl rfl _ _ hz1 hsz2 (hz2.trans hbl.symm) hone ?_
  have HSz2 := Lib.hid hsz2
  have HZ1 := Lib.hid (hz1.row bb)
  have HB5 := Lib.hid (below_setRow hB5 w.heap.size bb (Nat.le_refl _))
  have HBb := Lib.hid hbb
  clear hbb hbl hone hsz2 hz1 hz2 hB5
  go_wp2
  exact bodyPost_ret (v := .agg bb) (results_cell_row rfl _ _ w.heap.size _ bb _ _ rfl HZ1.out Tryd.underlying26 rfl HSz2.out) rfl ⟨by rw [HBb.out], HB5.out⟩
end Go.Proofs.YtlnhjllcgbdalaaDoor
