/- The reference's hash of a text. -/
import Derived.Test.YtdhfabjkpffhnaaDoorShaRefBlockJ
import Derived.Test.YtdhfabjkpffhnaaDoorKS
namespace Go.Proofs.YtdhfabjkpffhnaaDoor
set_option maxRecDepth 20000
open Go.RowKit ShaMath Reg

def HashVar (w : World) (wr : World) : Prop := (∃ zs, Blk wr w.heap.size 24 zs ∧ zs.size = 32) ∧ Below w.heap.size w wr
theorem HashVar.keep {w W W' : World} (h : HashVar w W) (hb : Below W.heap.size W W') : HashVar w W' := by
  obtain ⟨⟨zs, h1, h2⟩, h3⟩ := h
  exact ⟨⟨zs, h1.keep hb, h2⟩, h3.trans (hb.mono h3.size)⟩
theorem HashVar.grown {w W W' : World} {v : Value} {l : List UInt8} {B : Nat} (h : HashVar w W) (hg : W.grownBy W' v.ownBlock) (hr : Row W B v l) (hB : w.heap.size + 1 ≤ B) : HashVar w W' := by
  obtain ⟨⟨zs, h1, h2⟩, h3⟩ := h
  have hlt := h1.lt
  have hb : Below (w.heap.size + 1) W W' := (Below.refl _ _).grown hg (by omega) (fun k hk => by have := (World.ownsRow.lt hr k hk).1; omega)
  exact ⟨⟨zs, h1.below (by omega) hb, h2⟩, h3.trans (hb.mono (by omega))⟩
theorem HashVar.set {w W : World} (h : HashVar w W) (g i : Nat) (v : Value) (hg : w.heap.size < g) : HashVar w (W.setCell ⟨g, i, none⟩ v) := by
  obtain ⟨⟨zs, h1, h2⟩, h3⟩ := h
  exact ⟨⟨zs, h1.other _ _ (by simp; omega), h2⟩, h3.setCell (by simp; omega) _⟩

/-- append of one byte, and what stays. -/
theorem grow_hash {w wr : World} {v : Value} {l : List UInt8} (z : Int) (c : UInt8) (hz : Value.int .u8 z = bv c) (h : Row wr (w.heap.size + 1) v l) (hlen : l.length ≤ 140737488355320) (hw : HashVar w wr) :
    ∃ v' w', (Builtin.append_ #[22, 22] 22 #[v, .slice (some ⟨wr.heap.size, 0, none⟩) 1 1]).run Tryd.prog (wr.alloc (.cells #[.int .u8 z] 5)) = .ok v' w' ∧ (Row w' (w.heap.size + 1) v' (l ++ [c]) ∧ HashVar w w') := by
  rw [hz]
  have hb : Below wr.heap.size wr (wr.alloc (.cells #[bv c] 5)) := (Below.refl _ _).alloc (Nat.le_refl _) _
  have hr := h.below hb
  have hv := hw.keep hb
  have hsz : w.heap.size + 1 ≤ (wr.alloc (.cells #[bv c] 5)).heap.size := by
    obtain ⟨⟨zs, h1, _⟩, _⟩ := hv
    exact h1.lt
  obtain ⟨v', w', h1, h2, h3⟩ := append_bys hsz hr (byte_bys wr c) (by simp; omega)
  exact ⟨v', w', h1, h2, hv.grown h3 hr (Nat.le_refl _)⟩

def RGapAt (l : List UInt8) (w : World) (s3 : Value) (wr : World) : Prop :=
  ∃ k, k ≤ gap l.length ∧ Row wr (w.heap.size + 1) s3 (l ++ 128 :: List.replicate k 0) ∧ HashVar w wr
def RLenAt (l : List UInt8) (w : World) (s3 s5 : Value) (wr : World) : Prop :=
  ∃ j : Nat, j ≤ 8 ∧ s5 = .int .i64 (7 - (j : Int)) ∧ Row wr (w.heap.size + 1) s3 (l ++ 128 :: (List.replicate (gap l.length) 0 ++ (lenB l.length).take j)) ∧ HashVar w wr
def RBlockAt (l : List UInt8) (w wp : World) (g : Nat) (s7 : Value) (wr : World) : Prop :=
  ∃ c t : Nat, t = 64 * c ∧ t ≤ (pad l).length ∧ s7 = .int .i64 t ∧ Blk wr g 93 (us (chain (pad l) c).list) ∧ Below g wp wr ∧ HashVar w wr
def RByteAt (w : World) (g g4 : Nat) (r : Regs) (s9 : Value) (wr : World) : Prop :=
  ∃ i : Nat, i ≤ 32 ∧ s9 = .int .i64 i ∧ Blk wr g 93 (us r.list) ∧ Blk wr g4 24 (bs (laidB r i)) ∧ HashVar w wr

theorem pad_length (l : List UInt8) : (pad l).length % 64 = 0 := by
  have := tail_length l.length
  rw [pad, List.length_append]
  exact this
theorem pad_le (l : List UInt8) : (pad l).length ≤ l.length + 72 := by
  unfold pad tail gap lenB
  simp
  omega

set_option maxHeartbeats 1000000 in
set_option maxRecDepth 100000 in
theorem refsum_any (l : List UInt8) (a : Option Addr) (len cap : Nat) (w : World) (hv : Bys w (.slice a len cap) l) (hll : l.length = len) (hl : len ≤ 140737488355200) (ht : Consts w) :
    Calls Tryd.prog 74 #[.slice a len cap] w fun e w' => e = .returned (.agg (bs (hash l))) ∧ Below w.heap.size w w' := by
  have HV := Lib.hid hv
  have HLL := Lib.hid hll
  have HT := Lib.hid ht
  clear hv hll ht
  go_enter Tryd.func74, Tryd.ntmps74
  go_upto_region 1 with fail
  refine world_cut (fun W => HashVar w W) ⟨⟨_, Blk.newAt _ _ _ _ _ rfl rfl, rfl⟩, (Below.refl _ _).alloc (Nat.le_refl _) _⟩ ?_
  intro W1 hW1
  have hs1 : w.heap.size + 1 ≤ W1.heap.size := by
    obtain ⟨⟨zs, h1, _⟩, _⟩ := hW1
    exact h1.lt
  have hb0 : Below W1.heap.size W1 (W1.alloc (.cells #[] 5)) := (Below.refl _ _).alloc (Nat.le_refl _) _
  have A1 := Lib.hid (append_lit (B := w.heap.size + 1) (g := W1.heap.size) (w := W1.alloc (.cells #[] 5)) hs1 (heap_alloc_new W1 _) ((HV.out.below (Nat.le_refl _) hW1.2).below (Nat.le_refl _) hb0) (by rw [HLL.out]; omega))
  have HW1 := Lib.hid hW1
  have HB0 := Lib.hid hb0
  clear hb0 hW1
  go_wp2_with (first
    | (at_builtin; refine wpList_append_by rfl (.tmp 10) (.tmp 11) 22 rfl _ _ rfl rfl _ A1.out ?_; rintro v12 w2 ⟨hr12, hb2⟩; (have HR12 := Lib.hid hr12); (have HB2 := Lib.hid hb2); clear hr12 hb2; (have A2 := Lib.hid (grow_hash (w := w) 128 128 rfl HR12.out (by rw [HLL.out]; omega) ((HW1.out.keep HB0.out).keep HB2.out))))
    | (at_builtin; refine wpList_append_by rfl (.tmp 12) (.tmp 13) 22 rfl _ _ rfl rfl _ A2.out ?_; rintro v14 w3 ⟨hr14, hb3⟩; (have HR14 := Lib.hid hr14); (have HB3 := Lib.hid hb3); clear hr14 hb3))
  clear A1 HW1 HB0
  go_loopw [3] (fun s3 wr => RGapAt l w s3 wr) (fun s3 _ => len + 200 - sl s3)
  case atStart => exact ⟨0, Nat.zero_le _, HR14.out, HB3.out⟩
  case round =>
    obtain ⟨k, hk, hrow, hvar⟩ := hrel
    obtain ⟨a3, cap3, rfl⟩ := slice_of_row hrow
    obtain ⟨m, hm⟩ : ∃ m, m = (l ++ 128 :: List.replicate k (0 : UInt8)).length := ⟨_, rfl⟩
    have hm1 : m = len + (k + 1) := by rw [hm, List.length_append, HLL.out]; simp
    rw [← hm] at hrow ⊢
    have hk64 : gap l.length < 64 := by unfold gap; omega
    have hmb : m ≤ len + 64 := by omega
    have HM := Lib.hid hm1
    have HMl := Lib.hid hm
    have HR := Lib.hid hrow
    have HVr := Lib.hid hvar
    clear hm hrow hvar
    by_cases hlt : k < gap l.length
    · have hc : ((m : Int) % 64 != 56) = true := by
        have := gap_more l.length k hlt
        rw [HLL.out] at this
        rw [hm1]
        simp
        omega
      clear hm1
      have HA := Lib.hid (grow_hash (w := w) 0 0 rfl HR.out (by rw [← HMl.out]; omega) HVr.out)
      go_wp2_with (at_builtin; refine wpList_append_by rfl (.tmp 19) (.tmp 20) 22 rfl _ _ rfl rfl _ HA.out ?_; rintro v' w4 ⟨hr4, hb4⟩; (have HR4 := Lib.hid hr4); (have HB4 := Lib.hid hb4); clear hr4 hb4)
      go_roundw
      case rel =>
        refine ⟨k + 1, hlt, ?_, HB4.out⟩
        have h := HR4.out
        rwa [List.append_assoc, List.cons_append, ← List.replicate_succ'] at h
      case measure =>
        obtain ⟨a2, cap2, e⟩ := slice_of_row HR4.out
        have h := HM.out
        have h2 := HMl.out
        subst e
        simp only [sl]
        rw [List.length_append, ← h2]
        simp
        omega
    · have hc : ((m : Int) % 64 != 56) = false := by
        have := gap_end l.length
        rw [HLL.out] at this
        have hkg : k = gap len := by have : k = gap l.length := by omega
                                     rw [this, HLL.out]
        rw [hm1, hkg]
        simp
        omega
      have hkg : k = gap l.length := by omega
      have HKG := Lib.hid hkg
      clear hm1 hkg hlt hk
      go_wp2
      clear hc
      obtain ⟨wo, rfl⟩ : ∃ wo : World, wo = wr := ⟨_, rfl⟩
      go_loopw [3, 5] (fun s3 s5 wr => RLenAt l w s3 s5 wr) (fun s3 _ _ => len + 300 - sl s3)
      case atStart => exact ⟨0, by omega, rfl, by rw [← HKG.out]; simpa using HR.out, HVr.out⟩
      case round =>
        obtain ⟨j, hj, rfl, hrow, hvar⟩ := hrel
        obtain ⟨a1, cap1, rfl⟩ := slice_of_row hrow
        obtain ⟨m1, hm1⟩ : ∃ m, m = (l ++ 128 :: (List.replicate (gap l.length) (0 : UInt8) ++ (lenB l.length).take j)).length := ⟨_, rfl⟩
        have hll8 : (lenB l.length).length = 8 := rfl
        have hm2 : m1 = len + (gap l.length + 1 + j) := by rw [hm1, List.length_append, List.length_cons, List.length_append, List.length_replicate, List.length_take, hll8, HLL.out]; omega
        rw [← hm1] at hrow ⊢
        have hmb1 : m1 ≤ len + 80 := by omega
        have HM1 := Lib.hid hm2
        have HM1l := Lib.hid hm1
        have HR1 := Lib.hid hrow
        have HV1 := Lib.hid hvar
        clear hm1 hm2 hrow hvar hll8
        by_cases hlt : j < 8
        · obtain ⟨i5, hi5⟩ : ∃ t : Nat, (t : Int) = 7 - (j : Int) := ⟨7 - j, by omega⟩
          rw [← hi5]
          obtain ⟨t, ht⟩ : ∃ t : Nat, t = 56 - 8 * j := ⟨_, rfl⟩
          have ht5 : 8 * (i5 : Int) = (t : Int) := by omega
          have ht56 : t ≤ 56 := by omega
          have hi7 : i5 ≤ 7 := by omega
          obtain ⟨c, hcc⟩ : ∃ c, c = UInt8.ofNat (8 * l.length % 18446744073709551616 / 2 ^ (56 - 8 * j)) := ⟨_, rfl⟩
          obtain ⟨q, hq⟩ : ∃ q : Nat, q = 8 * len / 2 ^ t := ⟨_, rfl⟩
          have f1 : (len : Int) * 8 / 2 ^ t = (q : Int) := by rw [hq, Int.mul_comm]; simp
          have hz : Value.int .u8 ((q : Int) % 256) = bv c := by
            rw [hcc, hq, ← ht, HLL.out, Nat.mod_eq_of_lt (by omega), bv_of]
            simp
          have HA := Lib.hid (grow_hash (w := w) ((q : Int) % 256) c hz HR1.out (by rw [← HM1l.out]; omega) HV1.out)
          have HC := Lib.hid hcc
          have HI5 := Lib.hid hi5
          clear hcc hq hz ht hi5
          go_wp2_with (at_builtin; refine wpList_append_by rfl (.tmp 30) (.tmp 37) 22 rfl _ _ rfl rfl _ HA.out ?_; rintro v' w4 ⟨hr4, hb4⟩; (have HR4 := Lib.hid hr4); (have HB4 := Lib.hid hb4); clear hr4 hb4)
          refine ⟨⟨j + 1, by omega, ?_, ?_, HB4.out⟩, ?_⟩
          · have := HI5.out
            have e : (i5 : Int) - 1 = 7 - ((j + 1 : Nat) : Int) := by omega
            rw [e]
          · have h := HR4.out
            rw [lenB_step l.length j hlt, ← HC.out]
            simpa using h
          · obtain ⟨a2, cap2, e⟩ := slice_of_row HR4.out
            have h2 := HM1l.out
            subst e
            simp only [sl]
            rw [List.length_append, ← h2]
            simp
            omega
        · have hj8 : j = 8 := by omega
          have hneg : ¬ (0 : Int) ≤ 7 - (j : Int) := by omega
          have HJ := Lib.hid hj8
          clear hj8 hlt hj 
          have hp : l ++ 128 :: (List.replicate (gap l.length) 0 ++ (lenB l.length).take j) = pad l := by
            rw [HJ.out, List.take_of_length_le (by show 8 ≤ 8; omega)]
            rfl
          have hr1 := HR1.out
          rw [hp] at hr1
          have hml : m1 = (pad l).length := by rw [HM1l.out, hp]
          have hpl := pad_length l
          have hpb := pad_le l
          rw [HLL.out] at hpb
          rw [hml] at hr1 ⊢
          have hcap : (pad l).length ≤ cap1 := by
            obtain ⟨g, c2, e, _, _, h1, _⟩ := hr1.shape (by unfold pad tail; simp)
            cases e
            exact h1
          have HPm := Lib.hid hpl
          have HRp := Lib.hid hr1
          clear hp hr1 hml hpl
          obtain ⟨pl, hpl⟩ : ∃ pl, pl = (pad l).length := ⟨_, rfl⟩
          rw [← hpl] at HRp HPm hpb hcap ⊢
          have HPl := Lib.hid hpl
          clear hpl HR1 HM1 HM1l hmb1
          have hsz1 : w.heap.size + 1 ≤ wr.heap.size := by
            obtain ⟨⟨zs, h1, _⟩, _⟩ := HV1.out
            exact h1.lt
          go_upto_region 10 with (refine wpList_store_row rfl 93 (.tmp 6) (.tmp 39) rfl wr.heap.size (us ShaMath.start.list) rfl rfl _ _ (heap_alloc_new wr _) (by kernel_rfl) (by kernel_rfl) (us_one _) ?_)
          refine world_cut (fun W => Blk W wr.heap.size 93 (us ShaMath.start.list) ∧ Below wr.heap.size wr W ∧ HashVar w W) ?_ ?_
          · have hb : Below wr.heap.size wr ((wr.alloc (.cells #[.int .u32 0, .int .u32 0, .int .u32 0, .int .u32 0, .int .u32 0, .int .u32 0, .int .u32 0, .int .u32 0] 93)).setRow wr.heap.size (us ShaMath.start.list)) := below_setRow ((Below.refl _ _).alloc (Nat.le_refl _) _) _ _ (Nat.le_refl _)
            exact ⟨Blk.row (heap_alloc_new wr _) _, hb, HV1.out.keep hb⟩
          obtain ⟨wp, hwp⟩ : ∃ wp, wp = wr := ⟨_, rfl⟩
          rw [← hwp] at hsz1 HRp HV1 ⊢
          have HBp := Lib.hid HRp.out.bys
          clear hwp
          rintro W5 ⟨h51, h52, h53⟩
          obtain ⟨g, hg⟩ : ∃ g, g = wp.heap.size := ⟨_, rfl⟩
          rw [← hg] at hsz1 h51 h52 ⊢
          have HGg := Lib.hid hg
          refine frame_cut 71 rfl rfl ?_
          intro us0 hus
          have f0 : us0 0 = .slice a len cap := hus 0
          have f2 : us0 2 = .pointer (some ⟨w.heap.size, 0, none⟩) := hus 2
          have f3 : us0 3 = .slice a1 pl cap1 := hus 3
          have f6 : us0 6 = .pointer (some ⟨g, 0, none⟩) := hus 6
          clear hus
          have el : ((List.range 71).map us0).toArray = #[us0 0, us0 1, us0 2, us0 3, us0 4, us0 5, us0 6, us0 7, us0 8, us0 9, us0 10, us0 11, us0 12, us0 13, us0 14, us0 15, us0 16, us0 17, us0 18, us0 19, us0 20, us0 21, us0 22, us0 23, us0 24, us0 25, us0 26, us0 27, us0 28, us0 29, us0 30, us0 31, us0 32, us0 33, us0 34, us0 35, us0 36, us0 37, us0 38, us0 39, us0 40, us0 41, us0 42, us0 43, us0 44, us0 45, us0 46, us0 47, us0 48, us0 49, us0 50, us0 51, us0 52, us0 53, us0 54, us0 55, us0 56, us0 57, us0 58, us0 59, us0 60, us0 61, us0 62, us0 63, us0 64, us0 65, us0 66, us0 67, us0 68, us0 69, us0 70] := rfl
          rw [el, f0, f2, f3, f6]
          clear el f0 f2 f3 f6 hg HRp HV1 wr
          have H51 := Lib.hid h51
          have H52 := Lib.hid h52
          have H53 := Lib.hid h53
          clear h51 h52 h53
          go_wp2
          go_loopw [7] (fun s7 wr => RBlockAt l w wp g s7 wr) (fun s7 _ => pl + 64 - (intOf s7).toNat)
          case atStart => exact ⟨0, 0, rfl, Nat.zero_le _, rfl, H51.out, H52.out, H53.out⟩
          case round =>
            obtain ⟨c, t, htc, htl, rfl, hh, hbw, hvar⟩ := hrel
            rw [← HPl.out] at htl
            have hbs : Bys wr (.slice a1 pl cap1) (pad l) := HBp.out.below (by rw [HGg.out]; exact Nat.le_refl _) hbw
            have HTC := Lib.hid htc
            have hpm := HPm.out
            by_cases hlt : t < pl
            · have ht64 : t + 64 ≤ pl := by omega
              obtain ⟨a5, hsl, hb5⟩ := bys_mid a1 pl cap1 t (t + 64) (pad l) wr hbs (by omega) ht64 hcap
              rw [show t + 64 - t = 64 by omega] at hsl hb5
              have hpc : ((pad l).take (t + 64)).drop t = ((pad l).drop (64 * c)).take 64 := by rw [List.drop_take, htc, show 64 * c + 64 - 64 * c = 64 by omega]
              rw [hpc] at hb5
              obtain ⟨p, hp⟩ : ∃ p, p = ((pad l).drop (64 * c)).take 64 := ⟨_, rfl⟩
              have hpl64 : p.length = 64 := by rw [hp, List.length_take, List.length_drop, ← HPl.out]; omega
              obtain ⟨R, hR⟩ : ∃ R, R = chain (pad l) c := ⟨_, rfl⟩
              obtain ⟨R2, hR2⟩ : ∃ R2, R2 = comp R p := ⟨_, rfl⟩
              have hR3 : R2 = chain (pad l) (c + 1) := by rw [hR2, hR, hp]; rfl
              rw [← hp] at hb5
              rw [← hR] at hh
              have hht : HT.out = HT.out := rfl
              have hct : ∀ W, Below wr.heap.size wr W → Consts W := fun W hW => (HT.out.below (Nat.le_refl _) hvar.2).below (Nat.le_refl _) hW
              have HH := Lib.hid hh
              have HBw := Lib.hid hbw
              have HVr := Lib.hid hvar
              have HR3 := Lib.hid hR3
              have HB5 := Lib.hid hb5
              have HSl := Lib.hid hsl
              clear hh hbs hbw hvar hR3 hb5 hsl hp hpc hR htc hht hpm
              go_wp2_with fail
              have hG : ∀ W W' : World, Below wr.heap.size wr W → Below W.heap.size W W' → Below wr.heap.size wr W' := fun W W' h h' => h.trans (h'.mono h.size)
              refine region_tail_by 7 _ [(46, .is (.agg (us R.list))), (47, .is (.slice a1 pl cap1)), (48, .is (.int .i64 (t : Int))), (49, .is (.int .i64 (t : Int))), (50, .is (.int .i64 ((t : Int) + 64))), (51, .is (.slice a5 64 (cap1 - t))), (52, .is (.agg (us R2.list)))] [0, 1, 2, 3, 4, 5, 6, 7, 8, 9, 10, 11, 12, 13, 14, 15, 16, 17, 18, 19, 20, 21, 22, 23, 24, 25, 26, 27, 28, 29, 30, 31, 32, 33, 34, 35, 36, 37, 38, 39, 52, 53, 54, 55, 56, 57, 58, 59, 60, 61, 62, 63, 64, 65, 66, 67, 68, 69, 70]
                (fun W => Below wr.heap.size wr W) (by kernel_rfl) (by kernel_rfl) (by kernel_rfl) (by kernel_rfl) (by kernel_rfl) rfl rfl rfl rfl (by kernel_rfl) (Below.refl _ _).drew ?_ ?_
              · refine ⟨?a0, ?a1, ?a2, ?a3, ?a4, ?a5, ?a6, trivial⟩
                case a0 => exact ask_load (guard_none rfl) 93 (.tmp 6) (.pointer (some ⟨g, 0, none⟩)) (.agg (us R.list)) rfl rfl (by intro k hk; cases hk; rfl) (fun W hW => (HH.out.keep hW).loads _ _ Tryd.underlying93 rfl (by rw [us_size]; kernel_rfl))
                case a1 => exact ask_copy (guard_none rfl) (.tmp 3) (.inl rfl) (by intro k hk; cases hk; rfl)
                case a2 => exact ask_copy (guard_none rfl) (.tmp 7) (.inl rfl) (by intro k hk; cases hk; rfl)
                case a3 => exact ask_copy (guard_none rfl) (.tmp 7) (.inl rfl) (by intro k hk; cases hk; rfl)
                case a4 => exact ask_bin (guard_none rfl) _ _ _ _ _ _ _ _ rfl rfl rfl (by intro k hk; cases hk; rfl) (fun W => by simp [eqGuard, go_sem]; exact IntWalk.i64_in _ ⟨by omega, by omega⟩)
                case a5 => exact ask_slice (guard_none rfl) _ _ _ _ _ (.slice a1 pl cap1) _ (some (.int .i64 (t : Int))) (some (.int .i64 ((t : Int) + 64))) none rfl rfl rfl rfl rfl (by intro k hk; cases hk; rfl) (fun W => HSl.out W)
                case a6 => exact ask_call hG (guard_none rfl) _ _ _ #[.agg (us R.list), .slice a5 64 (cap1 - t)] (.is (.agg (us R2.list))) rfl (by kernel_rfl) rfl rfl (by intro k hk; cases hk; rfl) (fun W hW => (refblock_any R p a5 (cap1 - t) W (HB5.out.below (Nat.le_refl _) hW) hpl64 (hct W hW)).mono fun e w' hh => ⟨_, hh.1, by show _ = _; rw [hR2], hh.2⟩)
              intro a' W6 hW6 hd6 hs6 hf6
              have t0 : a'.tmps.getD 0 undef = .slice a len cap := hf6 0 rfl
              have t1 : a'.tmps.getD 1 undef = us0 1 := hf6 1 rfl
              have t2 : a'.tmps.getD 2 undef = .pointer (some ⟨w.heap.size, 0, none⟩) := hf6 2 rfl
              have t3 : a'.tmps.getD 3 undef = .slice a1 pl cap1 := hf6 3 rfl
              have t4 : a'.tmps.getD 4 undef = us0 4 := hf6 4 rfl
              have t5 : a'.tmps.getD 5 undef = us0 5 := hf6 5 rfl
              have t6 : a'.tmps.getD 6 undef = .pointer (some ⟨g, 0, none⟩) := hf6 6 rfl
              have t7 : a'.tmps.getD 7 undef = .int .i64 (t : Int) := hf6 7 rfl
              have t8 : a'.tmps.getD 8 undef = us0 8 := hf6 8 rfl
              have t9 : a'.tmps.getD 9 undef = us0 9 := hf6 9 rfl
              have t10 : a'.tmps.getD 10 undef = us0 10 := hf6 10 rfl
              have t11 : a'.tmps.getD 11 undef = us0 11 := hf6 11 rfl
              have t12 : a'.tmps.getD 12 undef = us0 12 := hf6 12 rfl
              have t13 : a'.tmps.getD 13 undef = us0 13 := hf6 13 rfl
              have t14 : a'.tmps.getD 14 undef = us0 14 := hf6 14 rfl
              have t15 : a'.tmps.getD 15 undef = us0 15 := hf6 15 rfl
              have t16 : a'.tmps.getD 16 undef = us0 16 := hf6 16 rfl
              have t17 : a'.tmps.getD 17 undef = us0 17 := hf6 17 rfl
              have t18 : a'.tmps.getD 18 undef = us0 18 := hf6 18 rfl
              have t19 : a'.tmps.getD 19 undef = us0 19 := hf6 19 rfl
              have t20 : a'.tmps.getD 20 undef = us0 20 := hf6 20 rfl
              have t21 : a'.tmps.getD 21 undef = us0 21 := hf6 21 rfl
              have t22 : a'.tmps.getD 22 undef = us0 22 := hf6 22 rfl
              have t23 : a'.tmps.getD 23 undef = us0 23 := hf6 23 rfl
              have t24 : a'.tmps.getD 24 undef = us0 24 := hf6 24 rfl
              have t25 : a'.tmps.getD 25 undef = us0 25 := hf6 25 rfl
              have t26 : a'.tmps.getD 26 undef = us0 26 := hf6 26 rfl
              have t27 : a'.tmps.getD 27 undef = us0 27 := hf6 27 rfl
              have t28 : a'.tmps.getD 28 undef = us0 28 := hf6 28 rfl
              have t29 : a'.tmps.getD 29 undef = us0 29 := hf6 29 rfl
              have t30 : a'.tmps.getD 30 undef = us0 30 := hf6 30 rfl
              have t31 : a'.tmps.getD 31 undef = us0 31 := hf6 31 rfl
              have t32 : a'.tmps.getD 32 undef = us0 32 := hf6 32 rfl
              have t33 : a'.tmps.getD 33 undef = us0 33 := hf6 33 rfl
              have t34 : a'.tmps.getD 34 undef = us0 34 := hf6 34 rfl
              have t35 : a'.tmps.getD 35 undef = us0 35 := hf6 35 rfl
              have t36 : a'.tmps.getD 36 undef = us0 36 := hf6 36 rfl
              have t37 : a'.tmps.getD 37 undef = us0 37 := hf6 37 rfl
              have t38 : a'.tmps.getD 38 undef = us0 38 := hf6 38 rfl
              have t39 : a'.tmps.getD 39 undef = us0 39 := hf6 39 rfl
              have t52 : a'.tmps.getD 52 undef = .agg (us R2.list) := hf6 52 rfl
              have t53 : a'.tmps.getD 53 undef = us0 53 := hf6 53 rfl
              have t54 : a'.tmps.getD 54 undef = us0 54 := hf6 54 rfl
              have t55 : a'.tmps.getD 55 undef = us0 55 := hf6 55 rfl
              have t56 : a'.tmps.getD 56 undef = us0 56 := hf6 56 rfl
              have t57 : a'.tmps.getD 57 undef = us0 57 := hf6 57 rfl
              have t58 : a'.tmps.getD 58 undef = us0 58 := hf6 58 rfl
              have t59 : a'.tmps.getD 59 undef = us0 59 := hf6 59 rfl
              have t60 : a'.tmps.getD 60 undef = us0 60 := hf6 60 rfl
              have t61 : a'.tmps.getD 61 undef = us0 61 := hf6 61 rfl
              have t62 : a'.tmps.getD 62 undef = us0 62 := hf6 62 rfl
              have t63 : a'.tmps.getD 63 undef = us0 63 := hf6 63 rfl
              have t64 : a'.tmps.getD 64 undef = us0 64 := hf6 64 rfl
              have t65 : a'.tmps.getD 65 undef = us0 65 := hf6 65 rfl
              have t66 : a'.tmps.getD 66 undef = us0 66 := hf6 66 rfl
              have t67 : a'.tmps.getD 67 undef = us0 67 := hf6 67 rfl
              have t68 : a'.tmps.getD 68 undef = us0 68 := hf6 68 rfl
              have t69 : a'.tmps.getD 69 undef = us0 69 := hf6 69 rfl
              have t70 : a'.tmps.getD 70 undef = us0 70 := hf6 70 rfl
              obtain ⟨us', hus, ha'⟩ := act_open 71 a' hs6 hd6
              rw [← hus] at t0 t1 t2 t3 t4 t5 t6 t7 t8 t9 t10 t11 t12 t13 t14 t15 t16 t17 t18 t19 t20 t21 t22 t23 t24 t25 t26 t27 t28 t29 t30 t31 t32 t33 t34 t35 t36 t37 t38 t39 t52 t53 t54 t55 t56 t57 t58 t59 t60 t61 t62 t63 t64 t65 t66 t67 t68 t69 t70
              have el : ((List.range 71).map us').toArray = #[us' 0, us' 1, us' 2, us' 3, us' 4, us' 5, us' 6, us' 7, us' 8, us' 9, us' 10, us' 11, us' 12, us' 13, us' 14, us' 15, us' 16, us' 17, us' 18, us' 19, us' 20, us' 21, us' 22, us' 23, us' 24, us' 25, us' 26, us' 27, us' 28, us' 29, us' 30, us' 31, us' 32, us' 33, us' 34, us' 35, us' 36, us' 37, us' 38, us' 39, us' 40, us' 41, us' 42, us' 43, us' 44, us' 45, us' 46, us' 47, us' 48, us' 49, us' 50, us' 51, us' 52, us' 53, us' 54, us' 55, us' 56, us' 57, us' 58, us' 59, us' 60, us' 61, us' 62, us' 63, us' 64, us' 65, us' 66, us' 67, us' 68, us' 69, us' 70] := rfl
              rw [el] at ha'
              subst ha'
              rw [t0, t1, t2, t3, t4, t5, t6, t7, t8, t9, t10, t11, t12, t13, t14, t15, t16, t17, t18, t19, t20, t21, t22, t23, t24, t25, t26, t27, t28, t29, t30, t31, t32, t33, t34, t35, t36, t37, t38, t39, t52, t53, t54, t55, t56, t57, t58, t59, t60, t61, t62, t63, t64, t65, t66, t67, t68, t69, t70]
              clear hus t0 t1 t2 t3 t4 t5 t6 t7 t8 t9 t10 t11 t12 t13 t14 t15 t16 t17 t18 t19 t20 t21 t22 t23 t24 t25 t26 t27 t28 t29 t30 t31 t32 t33 t34 t35 t36 t37 t38 t39 t52 t53 t54 t55 t56 t57 t58 t59 t60 t61 t62 t63 t64 t65 t66 t67 t68 t69 t70 el hf6 hs6 hd6 hG hct
              have hb6 := HH.out.keep hW6
              have hsto := hb6.stores (P := Tryd.prog) 93 (us R2.list) (by rw [us_size]; kernel_rfl) (by rw [us_size, us_size]; rfl) (us_one _)
              have HSto := Lib.hid hsto
              refine wpList_store_by rfl 93 (.tmp 6) (.tmp 52) rfl (.pointer (some ⟨g, 0, none⟩)) (.agg (us R2.list)) rfl rfl (W6.setRow g (us R2.list)) HSto.out ?_
              go_upto_region 12 with fail
              refine world_cut (fun W => Blk W g 93 (us R2.list) ∧ Below g wp W ∧ HashVar w W) ?_ ?_
              · refine ⟨hb6.row _, below_setRow (HBw.out.trans (hW6.mono (Nat.le_of_lt HH.out.lt))) _ _ (Nat.le_refl _), ?_⟩
                obtain ⟨⟨zs, h1, h2⟩, h3⟩ := HVr.out.keep hW6
                exact ⟨⟨zs, h1.rowOther _ (by omega), h2⟩, below_setRow h3 _ _ (by omega)⟩
              rintro W7 ⟨h71, h72, h73⟩
              have H71 := Lib.hid h71
              have H72 := Lib.hid h72
              have H73 := Lib.hid h73
              clear h71 h72 h73 hb6 hsto HSto
              go_wp2
              go_roundw
              case rel => exact ⟨c + 1, t + 64, by have := HTC.out; omega, by rw [← HPl.out]; exact ht64, by go_num, by rw [← HR3.out]; exact H71.out, H72.out, H73.out⟩
              case measure => simp [intOf]; omega
            · have hend : chain (pad l) c = chain (pad l) ((pad l).length / 64) := by
                congr 1
                rw [← HPl.out]
                omega
              obtain ⟨R, hR⟩ : ∃ R, R = chain (pad l) ((pad l).length / 64) := ⟨_, rfl⟩
              rw [hend, ← hR] at hh
              have HH := Lib.hid hh
              have HVr := Lib.hid hvar
              have HR := Lib.hid hR
              have hlt4 := hh.lt
              clear hh hbs hbw hvar htc hend hR hpm
              go_upto_region 15 with fail
              refine world_cut (fun W => Blk W g 93 (us R.list) ∧ Blk W wr.heap.size 24 (bs (laidB R 0)) ∧ HashVar w W) ?_ ?_
              · exact ⟨HH.out.alloc _, Blk.newAt _ _ _ _ _ rfl (by rw [laidB_zero]; kernel_rfl), HVr.out.keep ((Below.refl _ _).alloc (Nat.le_refl _) _)⟩
              obtain ⟨g4, hg4⟩ : ∃ g4, g4 = wr.heap.size := ⟨_, rfl⟩
              rw [← hg4] at hlt4 ⊢
              clear hg4 HH HVr
              rintro W5 ⟨h51, h52, h53⟩
              have H51 := Lib.hid h51
              have H52 := Lib.hid h52
              have H53 := Lib.hid h53
              clear h51 h52 h53
              go_wp2
              clear hlt
              go_loopw [9] (fun s9 wr => RByteAt w g g4 R s9 wr) (fun s9 _ => 32 - (intOf s9).toNat)
              case atStart => exact ⟨0, by omega, rfl, H51.out, H52.out, H53.out⟩
              case round =>
                obtain ⟨i, hi, rfl, hw, hh, hvar⟩ := hrel
                by_cases hlt : i < 32
                · have hc := hw.cell (i / 4)
                  rw [us_at _ _ (by simp [Regs.list]; omega), ru] at hc
                  obtain ⟨x, hx⟩ : ∃ x, x = at0 R.list (i / 4) := ⟨_, rfl⟩
                  rw [← hx] at hc
                  have hc4 := hh.cell i
                  rw [bs_at _ _ (by rw [laidB_length R i hi]; exact hlt)] at hc4
                  have hf4 := hh.frozen i
                  obtain ⟨c4, hc4e⟩ : ∃ c, c = bv ((laidB R i).getD i 0) := ⟨_, rfl⟩
                  rw [← hc4e] at hc4
                  obtain ⟨t9, ht9⟩ : ∃ t, t = 24 - i % 4 * 8 := ⟨_, rfl⟩
                  have hti : (24 : Int) - 8 * ((i : Int) % 4) = (t9 : Int) := by omega
                  have ht24 : t9 ≤ 24 := by omega
                  obtain ⟨y, hy⟩ : ∃ y, y = x >>> t9 := ⟨_, rfl⟩
                  have f9 : rv x / 2 ^ t9 = rv y := by rw [rv_shr, hy]
                  have hval : Value.int .u8 (rv y % 256) = bv (byteAt R.list i) := by
                    rw [hy, byte_value, byteAt, ← hx, ← ht9]
                  have hset := hh.set i (bv (byteAt R.list i))
                  rw [bs_set, laidB_step R i hlt, ← hval] at hset
                  have hw2 := hw.other ⟨g4, i, none⟩ (.int .u8 (rv y % 256)) (by simp; omega)
                  have hv2 := hvar.set g4 i (.int .u8 (rv y % 256)) (by omega)
                  have HSet := Lib.hid hset
                  have HW2 := Lib.hid hw2
                  have HV2 := Lib.hid hv2
                  have b0 := (rv_bd x).1
                  have b1 := (rv_bd x).2
                  have b2 := (rv_bd y).1
                  have b3 := (rv_bd y).2
                  clear hw hh hvar hx hc4e ht9 hy hval hset hw2 hv2
                  go_wp2
                  go_roundw
                  case rel => exact ⟨i + 1, by omega, by go_num, HW2.out, HSet.out, HV2.out⟩
                  case measure => simp [intOf]; omega
                · have hi32 : i = 32 := by omega
                  rw [hi32, laidB_all] at hh
                  obtain ⟨⟨zs, hz1, hz2⟩, hbel⟩ := hvar
                  obtain ⟨bb, hbb⟩ : ∃ bb, bb = bs (ShaMath.bytes R) := ⟨_, rfl⟩
                  have hbl : bb.size = 32 := by rw [hbb, bs_size, bytes_length]
                  have hone : bb.all (·.oneCell') = true := by rw [hbb]; exact bs_one _
                  have hsz2 : (Tryd.prog.info? 24).map (·.size) = some bb.size := by rw [hbl]; kernel_rfl
                  rw [← hbb] at hh
                  have HH := Lib.hid hh
                  have HZ1 := Lib.hid hz1
                  have HSz := Lib.hid (hz2.trans hbl.symm)
                  have HSz2 := Lib.hid hsz2
                  have HOne := Lib.hid hone
                  have HBb := Lib.hid hbb
                  have HBel := Lib.hid hbel
                  clear hw hh hz1 hz2 hbel hbb hbl hone hsz2 hi32 hi
                  go_wp2_with (first
                    | (refine wpList_load_row rfl 24 (.tmp 8) rfl g4 rfl _ bb _ _ HH.out Tryd.underlying24 rfl HSz2.out ?_)
                    | (refine wpList_store_row rfl 24 (.tmp 2) (.tmp 70) rfl w.heap.size bb rfl rfl _ _ HZ1.out HSz2.out HSz.out HOne.out ?_))
                  refine bodyPost_ret (v := .agg bb) (results_cell_row rfl _ _ w.heap.size _ bb _ _ rfl (HZ1.out.row bb) Tryd.underlying24 rfl HSz2.out) rfl ⟨?_, below_setRow HBel.out _ _ (Nat.le_refl _)⟩
                  rw [HBb.out, HR.out]
                  rfl
end Go.Proofs.YtdhfabjkpffhnaaDoor

