/- MacNests: the walk. -/
import Derived.Test.YtlnhjllcgbdalaaDoorMacMarks
namespace Go.Proofs.YtlnhjllcgbdalaaDoor
open Go.RowKit ShaMath MacMath BinMath Reg

/-- i bytes of a key are laid, turned. -/
def part (k : List UInt8) (x : UInt8) (i : Nat) : List UInt8 := (xr k x).take i ++ List.replicate (64 - i) 0
theorem part_zero (k : List UInt8) (x : UInt8) : part k x 0 = List.replicate 64 0 := by simp [part]
theorem part_length (k : List UInt8) (x : UInt8) (i : Nat) (hk : k.length = 64) (hi : i ≤ 64) : (part k x i).length = 64 := by
  simp [part, xr_length, hk]
  omega
theorem part_all (k : List UInt8) (x : UInt8) (hk : k.length = 64) : part k x 64 = xr k x := by
  rw [part, List.take_of_length_le (by rw [xr_length, hk]; omega)]
  simp
theorem part_step (k : List UInt8) (x : UInt8) (i : Nat) (hi : i < k.length) (h64 : i < 64) : (part k x i).set i (k.getD i 0 ^^^ x) = part k x (i + 1) := by
  have hl : i < (xr k x).length := by rw [xr_length]; exact hi
  have hm : ((xr k x).take i).length = i := by rw [List.length_take]; omega
  unfold part
  rw [List.set_append_right _ _ (by omega), hm, Nat.sub_self, show 64 - i = (64 - (i + 1)) + 1 by omega, List.replicate_succ, List.set_cons_zero, List.take_succ_eq_append_getElem hl, List.append_assoc]
  simp [xr, List.getD, hi]

/-- Between two rounds: i bytes of both arrays are laid. -/
def NestAt (w : World) (k : List UInt8) (g5 g6 : Nat) (s7 : Value) (wr : World) : Prop :=
  ∃ i : Nat, i ≤ 64 ∧ s7 = .int .i64 i ∧ Blk wr g5 31 (bs (part k 0x36 i)) ∧ Blk wr g6 31 (bs (part k 0x5c i)) ∧ Below w.heap.size w wr

set_option maxHeartbeats 1000000 in
set_option maxRecDepth 100000 in
theorem nests_walk (key text : List UInt8) (a b : Option Addr) (na ca nb cb : Nat) (w : World) (hk : Bys w (.slice a na ca) key) (hca : na ≤ ca) (hx : Bys w (.slice b nb cb) text) (hcb : nb ≤ cb) (hlx : nb ≤ 140737488351232) (ht : Tabs w) :
    Calls Tryd.prog 6 #[.slice a na ca, .slice b nb cb] w fun e w' => e = .returned (.bool true) ∧ Below w.heap.size w w' := by
  have hlenk := bys_len hk
  have hlenx := bys_len hx
  have HV := Lib.hid hk
  have HX := Lib.hid hx
  have HLk := Lib.hid hlenk
  have HLx := Lib.hid hlenx
  have HT := Lib.hid ht
  clear hk hx hlenk hlenx ht
  go_enter Tryd.func6, Tryd.ntmps6
  go_wp2_with fail
  refine (awake_any _ HT.out).mono ?_
  rintro e w1 ⟨rfl, hb1⟩
  have hs1 := hb1.size
  have HB1 := Lib.hid hb1
  clear hb1
  by_cases hlong : 64 < na
  · obtain ⟨ka, hka⟩ : ∃ ka, ka = a := ⟨_, rfl⟩
    obtain ⟨kn, hkn'⟩ : ∃ kn, kn = 64 := ⟨_, rfl⟩
    obtain ⟨kc, hkc'⟩ : ∃ kc, kc = ca := ⟨_, rfl⟩
    obtain ⟨kl, hkl⟩ : ∃ kl, kl = key.take 64 := ⟨_, rfl⟩
    have hky := HV.out.take 64 (by rw [HLk.out]; omega)
    have hll : kl.length = kn := by rw [hkl, hkn', List.length_take, HLk.out]; omega
    rw [← hkl, ← hka, ← hkc', ← hkn'] at hky
    have HKy := Lib.hid hky
    have HKl := Lib.hid hll
    have hkn : kn ≤ 64 := by omega
    have hkc : kn ≤ kc := by omega
    have hsl : ∀ W, (Instr.sliceAt 22 (.slice a na ca) none (some (.int .i64 64)) none).run Tryd.prog W = .ok (.slice ka kn kc) W := fun W => by
      rw [hka, hkc', hkn']
      exact slice_to a na ca 64 (by omega) W
    clear hka hkn' hkc' hkl hky hll
    go_upto_region 5 with fail
    clear hsl
    clear hlong
    obtain ⟨k, hk⟩ : ∃ k, k = kb kl := ⟨_, rfl⟩
    have hk64 : k.length = 64 := by rw [hk, kb_length]
    have HKe := Lib.hid hk
    have HK64 := Lib.hid hk64
    have hin : ∀ i, i < kn → k.getD i 0 = kl.getD i 0 := fun i hi => by rw [hk, kb_at kl i (by rw [HKl.out]; exact hkn), if_pos (by rw [HKl.out]; exact hi)]
    have hout : ∀ i, ¬ i < kn → k.getD i 0 = 0 := fun i hi => by rw [hk, kb_at kl i (by rw [HKl.out]; exact hkn), if_neg (by rw [HKl.out]; exact hi)]
    have HIn := Lib.hid hin
    have HOut := Lib.hid hout
    clear hk hk64 hin hout
    go_upto_region 6 with fail
    refine world_cut (fun W => Blk W w1.heap.size 31 (bs (part k 0x36 0)) ∧ Blk W (w1.heap.size + 1) 31 (bs (part k 0x5c 0)) ∧ Below w.heap.size w W) ⟨(Blk.newAt _ _ _ _ _ rfl (by rw [part_zero]; kernel_rfl)).alloc _, Blk.newAt _ _ _ _ _ (by simp) (by rw [part_zero]; kernel_rfl), (HB1.out.alloc hs1 _).alloc (by simp; omega) _⟩ ?_
    obtain ⟨g5, hg5⟩ : ∃ g, g = w1.heap.size := ⟨_, rfl⟩
    rw [← hg5] at hs1 ⊢
    obtain ⟨g6, hg6⟩ : ∃ g, g = g5 + 1 := ⟨_, rfl⟩
    rw [← hg6]
    have hg56 : g5 < g6 := by omega
    have hg6w : w.heap.size ≤ g6 := by omega
    clear hg5 hg6
    rintro W0 ⟨h1, h2, h3⟩
    have H1 := Lib.hid h1
    have H2 := Lib.hid h2
    have H3 := Lib.hid h3
    clear h1 h2 h3 HB1
    go_wp2
    go_loopw [7, 8] (fun s7 _ wr => NestAt w k g5 g6 s7 wr) (fun s7 _ _ => 64 - (intOf s7).toNat)
    case atStart => exact ⟨0, by omega, rfl, H1.out, H2.out, H3.out⟩
    case round =>
      clear H1 H2 H3
      obtain ⟨i, hi, rfl, h5, h6, hbel⟩ := hrel
      by_cases hlt : i < 64
      · obtain ⟨y, hy⟩ : ∃ y, y = k.getD i 0 := ⟨_, rfl⟩
        obtain ⟨p, hp⟩ : ∃ p, p = (y ^^^ 0x36) := ⟨_, rfl⟩
        obtain ⟨q, hq⟩ : ∃ q, q = (y ^^^ 0x5c) := ⟨_, rfl⟩
        obtain ⟨ky, hky⟩ : ∃ ky : Nat, ky = y.toNat := ⟨_, rfl⟩
        obtain ⟨kp, hkp⟩ : ∃ kz : Nat, kz = p.toNat := ⟨_, rfl⟩
        obtain ⟨kq, hkq⟩ : ∃ kz : Nat, kz = q.toNat := ⟨_, rfl⟩
        have f1 : bits .xor .u8 (ky : Int) 54 = (kp : Int) := by rw [hky, show (54 : Int) = ((0x36 : UInt8).toNat : Int) by rfl, u8_xor_bv, hkp, hp]
        have f2 : bits .xor .u8 (ky : Int) 92 = (kq : Int) := by rw [hky, show (92 : Int) = ((0x5c : UInt8).toNat : Int) by rfl, u8_xor_bv, hkq, hq]
        have e5 := h5.set i (.int .u8 (kp : Int))
        have hbp : bv p = .int .u8 (kp : Int) := by rw [bv, hkp]
        rw [← hbp, bs_set, hp, hy, part_step k 0x36 i (by rw [HK64.out]; exact hlt) hlt, ← hy, ← hp, hbp] at e5
        have hbq : bv q = .int .u8 (kq : Int) := by rw [bv, hkq]
        have hky1 : ky < 256 := by rw [hky]; exact y.toNat_lt
        have hkp1 : kp < 256 := by rw [hkp]; exact p.toNat_lt
        have hkq1 : kq < 256 := by rw [hkq]; exact q.toNat_lt
        obtain ⟨v5, hv5⟩ : ∃ v, wr.cell? ⟨g5, i, none⟩ = some v := ⟨_, by rw [h5.cell i, bs_at _ _ (by rw [part_length _ _ _ HK64.out hi]; exact hlt)]⟩
        obtain ⟨v6, hv6⟩ : ∃ v, wr.cell? ⟨g6, i, none⟩ = some v := ⟨_, by rw [h6.cell i, bs_at _ _ (by rw [part_length _ _ _ HK64.out hi]; exact hlt)]⟩
        have hf5 := h5.frozen i
        have hf6 := h6.frozen i
        have H5 := Lib.hid h5
        have H6 := Lib.hid h6
        have HBel := Lib.hid hbel
        have E5 := Lib.hid e5
        have EQ6 : Hid ((bs (part k 0x5c i)).setIfInBounds i (.int .u8 (kq : Int)) = bs (part k 0x5c (i + 1))) := Lib.hid (by rw [← hbq, bs_set, hq, hy, part_step k 0x5c i (by rw [HK64.out]; exact hlt) hlt])
        by_cases hin : i < kn
        · have hyk : y = kl.getD i 0 := by rw [hy, HIn.out i hin]
          obtain ⟨ad, hae, hcell⟩ : ∃ ad : Addr, ka = some ad ∧ wr.cell? (ad.add i) = some (.int .u8 (ky : Int)) := by
            rcases HKy.out.below (Nat.le_refl _) HBel.out with ⟨e, h0⟩ | ⟨ad, c, e, hc⟩
            · exfalso
              have e2 := congrArg List.length h0
              have := HKl.out
              simp only [List.length_nil] at e2
              omega
            · refine ⟨ad, (Value.slice.inj e).1, ?_⟩
              rw [hc i (by rw [HKl.out]; exact hin), bv, hky, hyk]
              have hin2 : i < kl.length := by rw [HKl.out]; exact hin
              simp [List.getD, hin2]
          subst hae
          clear h5 h6 hbel e5 hy hp hq hky hkp hkq hbp hbq hyk hv6 hf6
          go_upto_region 13 with fail
          clear f1 hv5 hf5
          refine world_cut (fun W => Blk W g5 31 (bs (part k 0x36 (i + 1))) ∧ Blk W g6 31 (bs (part k 0x5c i)) ∧ Below w.heap.size w W) ⟨E5.out, H6.out.other _ _ (by simp; omega), HBel.out.setCell (by simp; omega) _⟩ ?_
          rintro W2 ⟨h1, h2, h3⟩
          obtain ⟨v6, hv6⟩ : ∃ v, W2.cell? ⟨g6, i, none⟩ = some v := ⟨_, by rw [h2.cell i, bs_at _ _ (by rw [part_length _ _ _ HK64.out hi]; exact hlt)]⟩
          have hf6 := h2.frozen i
          have e6 := h2.set i (.int .u8 (kq : Int))
          rw [EQ6.out] at e6
          have E7 := Lib.hid e6
          have E5 := Lib.hid (h1.other ⟨g6, i, none⟩ (.int .u8 (kq : Int)) (by simp; omega))
          have E8 := Lib.hid (h3.setCell (p := ⟨g6, i, none⟩) (by simp; omega) (.int .u8 (kq : Int)))
          clear h1 h2 h3 e6
          go_wp2
          go_roundw
          case rel => exact ⟨i + 1, by omega, by go_num, E5.out, E7.out, E8.out⟩
          case measure => simp [intOf]; omega
        · have hy0 : y = 0 := by rw [hy, HOut.out i hin]
          have hky0 : ky = 0 := by rw [hky, hy0]; rfl
          have f1 : bits .xor .u8 0 54 = (kp : Int) := by rw [← f1, hky0]; rfl
          have f2 : bits .xor .u8 0 92 = (kq : Int) := by rw [← f2, hky0]; rfl
          clear h5 h6 hbel e5 hy hp hq hky hkp hkq hbp hbq hy0 hky0 hv6 hf6
          go_upto_region 13 with fail
          clear f1 hv5 hf5
          refine world_cut (fun W => Blk W g5 31 (bs (part k 0x36 (i + 1))) ∧ Blk W g6 31 (bs (part k 0x5c i)) ∧ Below w.heap.size w W) ⟨E5.out, H6.out.other _ _ (by simp; omega), HBel.out.setCell (by simp; omega) _⟩ ?_
          rintro W2 ⟨h1, h2, h3⟩
          obtain ⟨v6, hv6⟩ : ∃ v, W2.cell? ⟨g6, i, none⟩ = some v := ⟨_, by rw [h2.cell i, bs_at _ _ (by rw [part_length _ _ _ HK64.out hi]; exact hlt)]⟩
          have hf6 := h2.frozen i
          have e6 := h2.set i (.int .u8 (kq : Int))
          rw [EQ6.out] at e6
          have E7 := Lib.hid e6
          have E5 := Lib.hid (h1.other ⟨g6, i, none⟩ (.int .u8 (kq : Int)) (by simp; omega))
          have E8 := Lib.hid (h3.setCell (p := ⟨g6, i, none⟩) (by simp; omega) (.int .u8 (kq : Int)))
          clear h1 h2 h3 e6
          go_wp2
          go_roundw
          case rel => exact ⟨i + 1, by omega, by go_num, E5.out, E7.out, E8.out⟩
          case measure => simp [intOf]; omega
      · have hi64 : i = 64 := by omega
        rw [hi64, part_all _ _ HK64.out] at h5 h6
        have H5 := Lib.hid h5
        have H6 := Lib.hid h6
        have HBel := Lib.hid hbel
        have hsz := hbel.size
        have hl5 := h5.lt
        have hl6 := h6.lt
        clear h5 h6 hbel hi64
        obtain ⟨zc, hzc⟩ : ∃ zc, zc = zeroState := ⟨_, rfl⟩
        have hzs : ∀ W, (zeroValue 35).run Tryd.prog W = .ok (.agg zc) W := fun W => by rw [hzc]; kernel_rfl
        have hz73 : zc.size = 73 := by rw [hzc]; kernel_rfl
        have HI : Hid (IsState (.agg zc) []) := Lib.hid ⟨List.replicate 8 0#32, List.replicate 64 0, by rw [hzc]; rfl, goodS_nil⟩
        have hszs : (Tryd.prog.info? 35).map (·.size) = some zc.size := by rw [hz73]; kernel_rfl
        have HSzs := Lib.hid hszs
        clear hzc hz73 hszs
        go_upto_region 15 with fail
        clear hzs
        obtain ⟨g9, hg9⟩ : ∃ g, g = wr.heap.size := ⟨_, rfl⟩
        have hG : ∀ W W' : World, (Blk W g5 31 (bs (xr k 0x36)) ∧ Blk W g6 31 (bs (xr k 0x5c)) ∧ Blk W g9 35 zc ∧ Below w.heap.size w W ∧ g9 + 1 ≤ W.heap.size) → Below W.heap.size W W' → (Blk W' g5 31 (bs (xr k 0x36)) ∧ Blk W' g6 31 (bs (xr k 0x5c)) ∧ Blk W' g9 35 zc ∧ Below w.heap.size w W' ∧ g9 + 1 ≤ W'.heap.size) := fun W W' hW hb => by
          obtain ⟨h1, h2, h3, h4, h5⟩ := hW
          exact ⟨h1.keep hb, h2.keep hb, h3.keep hb, h4.trans (hb.mono h4.size), Nat.le_trans h5 hb.size⟩
        refine world_cut (fun W => Blk W g5 31 (bs (xr k 0x36)) ∧ Blk W g6 31 (bs (xr k 0x5c)) ∧ Blk W g9 35 zc ∧ Below w.heap.size w W ∧ g9 + 1 ≤ W.heap.size) ⟨H5.out.alloc _, H6.out.alloc _, Blk.newAt _ _ _ _ _ hg9 rfl, HBel.out.alloc hsz _, by rw [hg9]; simp⟩ ?_
        rw [← hg9]
        have hg9w : w.heap.size ≤ g9 := by omega
        have hg69 : g6 < g9 := by omega
        clear hg9 H5 H6 HBel
        intro W1 hW1
        obtain ⟨h1, hh1⟩ : ∃ h1, h1 = ShaMath.hash (xr k 0x36 ++ text) := ⟨_, rfl⟩
        have HH1 := Lib.hid hh1
        have hh32 : h1.length = 32 := by rw [hh1, hash_length]
        have HH32 := Lib.hid hh32
        have hmk : hmac kl text = ShaMath.hash (xr k 0x5c ++ h1) := by rw [hh1, HKe.out]; rfl
        have HMk := Lib.hid hmk
        clear hh1 hh32 hmk
        refine region_tail_by 7 _ [(38, .is (.agg zc)), (39, .is (.slice (some ⟨g5, 0, none⟩) 64 64)), (40, .sat (fun v _ => IsState v (xr k 0x36)) (fun _ _ _ h _ => h)), (41, .is (.slice b nb cb)), (42, .sat (fun v _ => IsState v (xr k 0x36 ++ text)) (fun _ _ _ h _ => h)), (43, .is (.agg (bs h1))), (10, .sat (VarOf (g9 + 1) 26 32) VarOf.mono)] [0, 1, 2, 3, 4, 5, 6, 7, 8, 9, 10, 43]
          (fun W => Blk W g5 31 (bs (xr k 0x36)) ∧ Blk W g6 31 (bs (xr k 0x5c)) ∧ Blk W g9 35 zc ∧ Below w.heap.size w W ∧ g9 + 1 ≤ W.heap.size) (by kernel_rfl) (by kernel_rfl) (by kernel_rfl) (by kernel_rfl) (by kernel_rfl) rfl rfl rfl rfl (by kernel_rfl) (hG _ _ hW1 (Below.refl _ _).drew) ?_ ?_
        · refine ⟨?a0, ?a1, ?a2, ?a3, ?a4, ?a5, ?a6, trivial⟩
          case a0 => exact ask_load (guard_none rfl) 35 (.tmp 9) (.pointer (some ⟨g9, 0, none⟩)) (.agg zc) rfl rfl (by intro k hk; cases hk; rfl) (fun W hW => hW.2.2.1.loads _ _ Tryd.underlying35 rfl HSzs.out)
          case a1 => exact ask_slice (guard_none rfl) 31 (.tmp 5) none none none (.pointer (some ⟨g5, 0, none⟩)) (.slice (some ⟨g5, 0, none⟩) 64 64) none none none rfl rfl rfl rfl rfl (by intro k hk; cases hk; rfl) (fun W => slice_key g5 W)
          case a2 => exact ask_call hG (guard_none rfl) _ _ _ #[.agg zc, .slice (some ⟨g5, 0, none⟩) 64 64] (.sat (fun v _ => IsState v (xr k 0x36)) (fun _ _ _ h _ => h)) rfl (by kernel_rfl) rfl rfl (by intro k hk; cases hk; rfl) (fun W hW => by
            refine (write_any (.agg zc) [] (xr k 0x36) _ 64 64 W HI.out (hW.1.bysOf 64 64 (by rw [xr_length, HK64.out])) (by omega) (by rw [xr_length, HK64.out]; decide) (HT.out.below (Nat.le_refl _) hW.2.2.2.1).1 (HT.out.below (Nat.le_refl _) hW.2.2.2.1).2).mono ?_
            rintro e w' ⟨v, h1, h2, h3⟩
            exact ⟨v, h1, h2, h3⟩)
          case a3 => exact ask_copy (guard_none rfl) (.tmp 1) (.inl rfl) (by intro k hk; cases hk; rfl)
          case a4 => exact ask_call_by hG (guard_none rfl) _ _ _ (.sat (fun v _ => IsState v (xr k 0x36 ++ text)) (fun _ _ _ h _ => h)) rfl (by kernel_rfl) (by intro k hk; cases hk; rfl) (fun x W hW hk => by
            have e1 : IsState (x 40) (xr k 0x36) := hk 40 rfl
            have e2 : x 41 = .slice b nb cb := hk 41 rfl
            show Calls _ _ #[x 40, x 41] W _
            rw [e2]
            exact write_any (x 40) (xr k 0x36) text b nb cb W e1 (HX.out.below (Nat.le_refl _) hW.2.2.2.1) hcb (by rw [xr_length, HK64.out, HLx.out]; omega) (HT.out.below (Nat.le_refl _) hW.2.2.2.1).1 (HT.out.below (Nat.le_refl _) hW.2.2.2.1).2)
          case a5 => exact ask_call_by hG (guard_none rfl) _ _ _ (.is (.agg (bs h1))) rfl (by kernel_rfl) (by intro k hk; cases hk; rfl) (fun x W hW hk => by
            have e1 : IsState (x 42) (xr k 0x36 ++ text) := hk 42 rfl
            show Calls _ _ #[x 42] W _
            refine (stateSum_any (x 42) (xr k 0x36 ++ text) W e1 (by rw [List.length_append, xr_length, HK64.out, HLx.out]; omega) (HT.out.below (Nat.le_refl _) hW.2.2.2.1).1 (HT.out.below (Nat.le_refl _) hW.2.2.2.1).2).mono fun e w' h => ⟨_, h.1, ?_, h.2⟩
            show _ = _
            rw [HH1.out])
          case a6 => exact ask_alloc hG (guard_none rfl) 26 (.agg (bs (List.replicate 32 0))) (.sat (VarOf (g9 + 1) 26 32) VarOf.mono) rfl (fun W => by kernel_rfl) (by intro k hk; cases hk; rfl) (fun W hW => ⟨_, _, rfl, hW.2.2.2.2, Blk.new _ _ _, by kernel_rfl⟩)
        intro a' W2 hW2 hd1 hs1 hf1
        obtain ⟨g10, zs, t10', hg10, hz1, hz2⟩ : VarOf (g9 + 1) 26 32 (a'.tmps.getD 10 undef) W2 := hf1 10 rfl
        have t0 : a'.tmps.getD 0 undef = .slice ka kn kc := hf1 0 rfl
        have t1 : a'.tmps.getD 1 undef = .slice b nb cb := hf1 1 rfl
        have t4 : a'.tmps.getD 4 undef = .bool false := hf1 4 rfl
        have t5 : a'.tmps.getD 5 undef = .pointer (some ⟨g5, 0, none⟩) := hf1 5 rfl
        have t6 : a'.tmps.getD 6 undef = .pointer (some ⟨g6, 0, none⟩) := hf1 6 rfl
        have t9 : a'.tmps.getD 9 undef = .pointer (some ⟨g9, 0, none⟩) := hf1 9 rfl
        have t43 : a'.tmps.getD 43 undef = .agg (bs h1) := hf1 43 rfl
        obtain ⟨us', hus, ha'⟩ := act_open 54 a' hs1 hd1
        rw [← hus] at t10' t0 t1 t4 t5 t6 t9 t43
        have el : ((List.range 54).map us').toArray = #[us' 0, us' 1, us' 2, us' 3, us' 4, us' 5, us' 6, us' 7, us' 8, us' 9, us' 10, us' 11, us' 12, us' 13, us' 14, us' 15, us' 16, us' 17, us' 18, us' 19, us' 20, us' 21, us' 22, us' 23, us' 24, us' 25, us' 26, us' 27, us' 28, us' 29, us' 30, us' 31, us' 32, us' 33, us' 34, us' 35, us' 36, us' 37, us' 38, us' 39, us' 40, us' 41, us' 42, us' 43, us' 44, us' 45, us' 46, us' 47, us' 48, us' 49, us' 50, us' 51, us' 52, us' 53] := rfl
        rw [el] at ha'
        subst ha'
        rw [t10', t0, t1, t4, t5, t6, t9, t43]
        clear hus t10' t0 t1 t4 t5 t6 t9 t43 el hf1 hs1 hd1
        obtain ⟨h1', h2', h3', h4', h5'⟩ := hW2
        obtain ⟨hs, hhs⟩ : ∃ hs, hs = bs h1 := ⟨_, rfl⟩
        rw [← hhs]
        have hs32 : hs.size = 32 := by rw [hhs, bs_size, HH32.out]
        have hsone : hs.all (·.oneCell') = true := by rw [hhs]; exact bs_one _
        have hszh : (Tryd.prog.info? 26).map (·.size) = some hs.size := by rw [hs32]; kernel_rfl
        refine wpList_store_row rfl 26 (.tmp 10) (.tmp 43) rfl g10 hs rfl rfl _ _ hz1 hszh (hz2.trans hs32.symm) hsone ?_
        go_upto_region 16 with fail
        clear hG
        have hG : ∀ W W' : World, (Blk W g6 31 (bs (xr k 0x5c)) ∧ Blk W g9 35 zc ∧ Blk W g10 26 hs ∧ Below w.heap.size w W) → Below W.heap.size W W' → (Blk W' g6 31 (bs (xr k 0x5c)) ∧ Blk W' g9 35 zc ∧ Blk W' g10 26 hs ∧ Below w.heap.size w W') := fun W W' hW hb => by
          obtain ⟨h2, h3, h4, h5⟩ := hW
          exact ⟨h2.keep hb, h3.keep hb, h4.keep hb, h5.trans (hb.mono h5.size)⟩
        have hW3 : Blk (W2.setRow g10 hs) g6 31 (bs (xr k 0x5c)) ∧ Blk (W2.setRow g10 hs) g9 35 zc ∧ Blk (W2.setRow g10 hs) g10 26 hs ∧ Below w.heap.size w (W2.setRow g10 hs) := ⟨h2'.rowOther _ (by omega), h3'.rowOther _ (by omega), hz1.row hs, below_setRow h4' _ _ (by omega)⟩
        obtain ⟨M, hM⟩ : ∃ M, M = hmac kl text := ⟨_, rfl⟩
        have hMl : M.length = 32 := by rw [hM]; exact hmac_length _ _
        have HMk2 : Hid (M = ShaMath.hash (xr k 0x5c ++ h1)) := Lib.hid (by rw [hM, HMk.out])
        have HHs := Lib.hid hhs
        clear h1' h2' h3' h4' h5' hz1 hz2 hs32 hsone hszh hhs
        refine region_by [(44, .is (.slice ka kn kc)), (45, .is (.slice b nb cb)), (46, .is (.agg (bs M))), (47, .is (.agg zc)), (48, .is (.slice (some ⟨g6, 0, none⟩) 64 64)), (49, .sat (fun v _ => IsState v (xr k 0x5c)) (fun _ _ _ h _ => h)), (50, .is (.slice (some ⟨g10, 0, none⟩) 32 32)), (51, .sat (fun v _ => IsState v (xr k 0x5c ++ h1)) (fun _ _ _ h _ => h)), (52, .is (.agg (bs M))), (53, .is (.bool true)), (4, .is (.bool true))] [4] (fun W => Blk W g6 31 (bs (xr k 0x5c)) ∧ Blk W g9 35 zc ∧ Blk W g10 26 hs ∧ Below w.heap.size w W) (by kernel_rfl) (by kernel_rfl) (by kernel_rfl) (by kernel_rfl) (by kernel_rfl) (hG _ _ hW3 (Below.refl _ _).drew) ?_ ?_
        · refine ⟨?b0, ?b1, ?b2, ?b3, ?b4, ?b5, ?b6, ?b7, ?b8, ?b9, ?b10, trivial⟩
          case b0 => exact ask_copy (guard_none rfl) (.tmp 0) (.inl rfl) (by intro k hk; cases hk; rfl)
          case b1 => exact ask_copy (guard_none rfl) (.tmp 1) (.inl rfl) (by intro k hk; cases hk; rfl)
          case b2 => exact ask_call hG (guard_none rfl) _ _ _ #[.slice ka kn kc, .slice b nb cb] (.is (.agg (bs M))) rfl (by kernel_rfl) rfl rfl (by intro k hk; cases hk; rfl) (fun W hW => by
            have h := mark_any kl text ka b kn kc nb cb W (HKy.out.below (Nat.le_refl _) hW.2.2.2) hkc (HX.out.below (Nat.le_refl _) hW.2.2.2) hcb (by omega) (by omega) (HT.out.below (Nat.le_refl _) hW.2.2.2)
            rw [← hM] at h
            exact h.mono fun e w' h => ⟨_, h.1, rfl, h.2⟩)
          case b3 => exact ask_load (guard_none rfl) 35 (.tmp 9) (.pointer (some ⟨g9, 0, none⟩)) (.agg zc) rfl rfl (by intro k hk; cases hk; rfl) (fun W hW => hW.2.1.loads _ _ Tryd.underlying35 rfl HSzs.out)
          case b4 => exact ask_slice (guard_none rfl) 31 (.tmp 6) none none none (.pointer (some ⟨g6, 0, none⟩)) (.slice (some ⟨g6, 0, none⟩) 64 64) none none none rfl rfl rfl rfl rfl (by intro k hk; cases hk; rfl) (fun W => slice_key g6 W)
          case b5 => exact ask_call hG (guard_none rfl) _ _ _ #[.agg zc, .slice (some ⟨g6, 0, none⟩) 64 64] (.sat (fun v _ => IsState v (xr k 0x5c)) (fun _ _ _ h _ => h)) rfl (by kernel_rfl) rfl rfl (by intro k hk; cases hk; rfl) (fun W hW => by
            refine (write_any (.agg zc) [] (xr k 0x5c) _ 64 64 W HI.out (hW.1.bysOf 64 64 (by rw [xr_length, HK64.out])) (by omega) (by rw [xr_length, HK64.out]; decide) (HT.out.below (Nat.le_refl _) hW.2.2.2).1 (HT.out.below (Nat.le_refl _) hW.2.2.2).2).mono ?_
            rintro e w' ⟨v, h1, h2, h3⟩
            exact ⟨v, h1, h2, h3⟩)
          case b6 => exact ask_slice (guard_none rfl) 26 (.tmp 10) none none none (.pointer (some ⟨g10, 0, none⟩)) (.slice (some ⟨g10, 0, none⟩) 32 32) none none none rfl rfl rfl rfl rfl (by intro k hk; cases hk; rfl) (fun W => slice_hash_all g10 W)
          case b7 => exact ask_call_by hG (guard_none rfl) _ _ _ (.sat (fun v _ => IsState v (xr k 0x5c ++ h1)) (fun _ _ _ h _ => h)) rfl (by kernel_rfl) (by intro k hk; cases hk; rfl) (fun x W hW hk => by
            have e1 : IsState (x 49) (xr k 0x5c) := hk 49 rfl
            have e2 : x 50 = .slice (some ⟨g10, 0, none⟩) 32 32 := hk 50 rfl
            show Calls _ _ #[x 49, x 50] W _
            rw [e2]
            have h3 := hW.2.2.1
            rw [HHs.out] at h3
            exact write_any (x 49) (xr k 0x5c) h1 _ 32 32 W e1 (h3.bysOf 32 32 HH32.out) (by omega) (by rw [xr_length, HK64.out, HH32.out]; decide) (HT.out.below (Nat.le_refl _) hW.2.2.2).1 (HT.out.below (Nat.le_refl _) hW.2.2.2).2)
          case b8 => exact ask_call_by hG (guard_none rfl) _ _ _ (.is (.agg (bs M))) rfl (by kernel_rfl) (by intro k hk; cases hk; rfl) (fun x W hW hk => by
            have e1 : IsState (x 51) (xr k 0x5c ++ h1) := hk 51 rfl
            show Calls _ _ #[x 51] W _
            refine (stateSum_any (x 51) (xr k 0x5c ++ h1) W e1 (by rw [List.length_append, xr_length, HK64.out, HH32.out]; decide) (HT.out.below (Nat.le_refl _) hW.2.2.2).1 (HT.out.below (Nat.le_refl _) hW.2.2.2).2).mono fun e w' h => ⟨_, h.1, ?_, h.2⟩
            show _ = _
            rw [HMk2.out])
          case b9 => exact ask_cmp (guard_none rfl) _ _ _ _ _ _ _ _ rfl rfl rfl (by intro k hk; cases hk; rfl) (fun W => eql_hash _ _ M hMl W)
          case b10 => exact ask_copy (guard_none rfl) (.tmp 53) (.inr rfl) (by intro k hk; cases hk; rfl)
        intro a2 W4 hW4 hd2 hs2 hf2
        have t4 : a2.tmps.getD 4 undef = .bool true := hf2 4 rfl
        obtain ⟨us2, hus, ha'⟩ := act_open 54 a2 hs2 hd2
        rw [← hus] at t4
        have el : ((List.range 54).map us2).toArray = #[us2 0, us2 1, us2 2, us2 3, us2 4, us2 5, us2 6, us2 7, us2 8, us2 9, us2 10, us2 11, us2 12, us2 13, us2 14, us2 15, us2 16, us2 17, us2 18, us2 19, us2 20, us2 21, us2 22, us2 23, us2 24, us2 25, us2 26, us2 27, us2 28, us2 29, us2 30, us2 31, us2 32, us2 33, us2 34, us2 35, us2 36, us2 37, us2 38, us2 39, us2 40, us2 41, us2 42, us2 43, us2 44, us2 45, us2 46, us2 47, us2 48, us2 49, us2 50, us2 51, us2 52, us2 53] := rfl
        rw [el] at ha'
        subst ha'
        rw [t4]
        clear hus t4 el hf2 hs2 hd2
        go_wp2
        go_ret
        exact ⟨rfl, hW4.2.2.2⟩
  · obtain ⟨ka, hka⟩ : ∃ ka, ka = a := ⟨_, rfl⟩
    obtain ⟨kn, hkn'⟩ : ∃ kn, kn = na := ⟨_, rfl⟩
    obtain ⟨kc, hkc'⟩ : ∃ kc, kc = ca := ⟨_, rfl⟩
    obtain ⟨kl, hkl⟩ : ∃ kl, kl = key := ⟨_, rfl⟩
    subst hka hkn' hkc' hkl
    have HKy := Lib.hid HV.out
    have HKl := Lib.hid HLk.out
    have hkn : kn ≤ 64 := by omega
    have hkc : kn ≤ kc := by omega
    go_upto_region 5 with fail
    clear hlong
    obtain ⟨k, hk⟩ : ∃ k, k = kb kl := ⟨_, rfl⟩
    have hk64 : k.length = 64 := by rw [hk, kb_length]
    have HKe := Lib.hid hk
    have HK64 := Lib.hid hk64
    have hin : ∀ i, i < kn → k.getD i 0 = kl.getD i 0 := fun i hi => by rw [hk, kb_at kl i (by rw [HKl.out]; exact hkn), if_pos (by rw [HKl.out]; exact hi)]
    have hout : ∀ i, ¬ i < kn → k.getD i 0 = 0 := fun i hi => by rw [hk, kb_at kl i (by rw [HKl.out]; exact hkn), if_neg (by rw [HKl.out]; exact hi)]
    have HIn := Lib.hid hin
    have HOut := Lib.hid hout
    clear hk hk64 hin hout
    go_upto_region 6 with fail
    refine world_cut (fun W => Blk W w1.heap.size 31 (bs (part k 0x36 0)) ∧ Blk W (w1.heap.size + 1) 31 (bs (part k 0x5c 0)) ∧ Below w.heap.size w W) ⟨(Blk.newAt _ _ _ _ _ rfl (by rw [part_zero]; kernel_rfl)).alloc _, Blk.newAt _ _ _ _ _ (by simp) (by rw [part_zero]; kernel_rfl), (HB1.out.alloc hs1 _).alloc (by simp; omega) _⟩ ?_
    obtain ⟨g5, hg5⟩ : ∃ g, g = w1.heap.size := ⟨_, rfl⟩
    rw [← hg5] at hs1 ⊢
    obtain ⟨g6, hg6⟩ : ∃ g, g = g5 + 1 := ⟨_, rfl⟩
    rw [← hg6]
    have hg56 : g5 < g6 := by omega
    have hg6w : w.heap.size ≤ g6 := by omega
    clear hg5 hg6
    rintro W0 ⟨h1, h2, h3⟩
    have H1 := Lib.hid h1
    have H2 := Lib.hid h2
    have H3 := Lib.hid h3
    clear h1 h2 h3 HB1
    go_wp2
    go_loopw [7, 8] (fun s7 _ wr => NestAt w k g5 g6 s7 wr) (fun s7 _ _ => 64 - (intOf s7).toNat)
    case atStart => exact ⟨0, by omega, rfl, H1.out, H2.out, H3.out⟩
    case round =>
      clear H1 H2 H3
      obtain ⟨i, hi, rfl, h5, h6, hbel⟩ := hrel
      by_cases hlt : i < 64
      · obtain ⟨y, hy⟩ : ∃ y, y = k.getD i 0 := ⟨_, rfl⟩
        obtain ⟨p, hp⟩ : ∃ p, p = (y ^^^ 0x36) := ⟨_, rfl⟩
        obtain ⟨q, hq⟩ : ∃ q, q = (y ^^^ 0x5c) := ⟨_, rfl⟩
        obtain ⟨ky, hky⟩ : ∃ ky : Nat, ky = y.toNat := ⟨_, rfl⟩
        obtain ⟨kp, hkp⟩ : ∃ kz : Nat, kz = p.toNat := ⟨_, rfl⟩
        obtain ⟨kq, hkq⟩ : ∃ kz : Nat, kz = q.toNat := ⟨_, rfl⟩
        have f1 : bits .xor .u8 (ky : Int) 54 = (kp : Int) := by rw [hky, show (54 : Int) = ((0x36 : UInt8).toNat : Int) by rfl, u8_xor_bv, hkp, hp]
        have f2 : bits .xor .u8 (ky : Int) 92 = (kq : Int) := by rw [hky, show (92 : Int) = ((0x5c : UInt8).toNat : Int) by rfl, u8_xor_bv, hkq, hq]
        have e5 := h5.set i (.int .u8 (kp : Int))
        have hbp : bv p = .int .u8 (kp : Int) := by rw [bv, hkp]
        rw [← hbp, bs_set, hp, hy, part_step k 0x36 i (by rw [HK64.out]; exact hlt) hlt, ← hy, ← hp, hbp] at e5
        have hbq : bv q = .int .u8 (kq : Int) := by rw [bv, hkq]
        have hky1 : ky < 256 := by rw [hky]; exact y.toNat_lt
        have hkp1 : kp < 256 := by rw [hkp]; exact p.toNat_lt
        have hkq1 : kq < 256 := by rw [hkq]; exact q.toNat_lt
        obtain ⟨v5, hv5⟩ : ∃ v, wr.cell? ⟨g5, i, none⟩ = some v := ⟨_, by rw [h5.cell i, bs_at _ _ (by rw [part_length _ _ _ HK64.out hi]; exact hlt)]⟩
        obtain ⟨v6, hv6⟩ : ∃ v, wr.cell? ⟨g6, i, none⟩ = some v := ⟨_, by rw [h6.cell i, bs_at _ _ (by rw [part_length _ _ _ HK64.out hi]; exact hlt)]⟩
        have hf5 := h5.frozen i
        have hf6 := h6.frozen i
        have H5 := Lib.hid h5
        have H6 := Lib.hid h6
        have HBel := Lib.hid hbel
        have E5 := Lib.hid e5
        have EQ6 : Hid ((bs (part k 0x5c i)).setIfInBounds i (.int .u8 (kq : Int)) = bs (part k 0x5c (i + 1))) := Lib.hid (by rw [← hbq, bs_set, hq, hy, part_step k 0x5c i (by rw [HK64.out]; exact hlt) hlt])
        by_cases hin : i < kn
        · have hyk : y = kl.getD i 0 := by rw [hy, HIn.out i hin]
          obtain ⟨ad, hae, hcell⟩ : ∃ ad : Addr, ka = some ad ∧ wr.cell? (ad.add i) = some (.int .u8 (ky : Int)) := by
            rcases HKy.out.below (Nat.le_refl _) HBel.out with ⟨e, h0⟩ | ⟨ad, c, e, hc⟩
            · exfalso
              have e2 := congrArg List.length h0
              have := HKl.out
              simp only [List.length_nil] at e2
              omega
            · refine ⟨ad, (Value.slice.inj e).1, ?_⟩
              rw [hc i (by rw [HKl.out]; exact hin), bv, hky, hyk]
              have hin2 : i < kl.length := by rw [HKl.out]; exact hin
              simp [List.getD, hin2]
          subst hae
          clear h5 h6 hbel e5 hy hp hq hky hkp hkq hbp hbq hyk hv6 hf6
          go_upto_region 13 with fail
          clear f1 hv5 hf5
          refine world_cut (fun W => Blk W g5 31 (bs (part k 0x36 (i + 1))) ∧ Blk W g6 31 (bs (part k 0x5c i)) ∧ Below w.heap.size w W) ⟨E5.out, H6.out.other _ _ (by simp; omega), HBel.out.setCell (by simp; omega) _⟩ ?_
          rintro W2 ⟨h1, h2, h3⟩
          obtain ⟨v6, hv6⟩ : ∃ v, W2.cell? ⟨g6, i, none⟩ = some v := ⟨_, by rw [h2.cell i, bs_at _ _ (by rw [part_length _ _ _ HK64.out hi]; exact hlt)]⟩
          have hf6 := h2.frozen i
          have e6 := h2.set i (.int .u8 (kq : Int))
          rw [EQ6.out] at e6
          have E7 := Lib.hid e6
          have E5 := Lib.hid (h1.other ⟨g6, i, none⟩ (.int .u8 (kq : Int)) (by simp; omega))
          have E8 := Lib.hid (h3.setCell (p := ⟨g6, i, none⟩) (by simp; omega) (.int .u8 (kq : Int)))
          clear h1 h2 h3 e6
          go_wp2
          go_roundw
          case rel => exact ⟨i + 1, by omega, by go_num, E5.out, E7.out, E8.out⟩
          case measure => simp [intOf]; omega
        · have hy0 : y = 0 := by rw [hy, HOut.out i hin]
          have hky0 : ky = 0 := by rw [hky, hy0]; rfl
          have f1 : bits .xor .u8 0 54 = (kp : Int) := by rw [← f1, hky0]; rfl
          have f2 : bits .xor .u8 0 92 = (kq : Int) := by rw [← f2, hky0]; rfl
          clear h5 h6 hbel e5 hy hp hq hky hkp hkq hbp hbq hy0 hky0 hv6 hf6
          go_upto_region 13 with fail
          clear f1 hv5 hf5
          refine world_cut (fun W => Blk W g5 31 (bs (part k 0x36 (i + 1))) ∧ Blk W g6 31 (bs (part k 0x5c i)) ∧ Below w.heap.size w W) ⟨E5.out, H6.out.other _ _ (by simp; omega), HBel.out.setCell (by simp; omega) _⟩ ?_
          rintro W2 ⟨h1, h2, h3⟩
          obtain ⟨v6, hv6⟩ : ∃ v, W2.cell? ⟨g6, i, none⟩ = some v := ⟨_, by rw [h2.cell i, bs_at _ _ (by rw [part_length _ _ _ HK64.out hi]; exact hlt)]⟩
          have hf6 := h2.frozen i
          have e6 := h2.set i (.int .u8 (kq : Int))
          rw [EQ6.out] at e6
          have E7 := Lib.hid e6
          have E5 := Lib.hid (h1.other ⟨g6, i, none⟩ (.int .u8 (kq : Int)) (by simp; omega))
          have E8 := Lib.hid (h3.setCell (p := ⟨g6, i, none⟩) (by simp; omega) (.int .u8 (kq : Int)))
          clear h1 h2 h3 e6
          go_wp2
          go_roundw
          case rel => exact ⟨i + 1, by omega, by go_num, E5.out, E7.out, E8.out⟩
          case measure => simp [intOf]; omega
      · have hi64 : i = 64 := by omega
        rw [hi64, part_all _ _ HK64.out] at h5 h6
        have H5 := Lib.hid h5
        have H6 := Lib.hid h6
        have HBel := Lib.hid hbel
        have hsz := hbel.size
        have hl5 := h5.lt
        have hl6 := h6.lt
        clear h5 h6 hbel hi64
        obtain ⟨zc, hzc⟩ : ∃ zc, zc = zeroState := ⟨_, rfl⟩
        have hzs : ∀ W, (zeroValue 35).run Tryd.prog W = .ok (.agg zc) W := fun W => by rw [hzc]; kernel_rfl
        have hz73 : zc.size = 73 := by rw [hzc]; kernel_rfl
        have HI : Hid (IsState (.agg zc) []) := Lib.hid ⟨List.replicate 8 0#32, List.replicate 64 0, by rw [hzc]; rfl, goodS_nil⟩
        have hszs : (Tryd.prog.info? 35).map (·.size) = some zc.size := by rw [hz73]; kernel_rfl
        have HSzs := Lib.hid hszs
        clear hzc hz73 hszs
        go_upto_region 15 with fail
        clear hzs
        obtain ⟨g9, hg9⟩ : ∃ g, g = wr.heap.size := ⟨_, rfl⟩
        have hG : ∀ W W' : World, (Blk W g5 31 (bs (xr k 0x36)) ∧ Blk W g6 31 (bs (xr k 0x5c)) ∧ Blk W g9 35 zc ∧ Below w.heap.size w W ∧ g9 + 1 ≤ W.heap.size) → Below W.heap.size W W' → (Blk W' g5 31 (bs (xr k 0x36)) ∧ Blk W' g6 31 (bs (xr k 0x5c)) ∧ Blk W' g9 35 zc ∧ Below w.heap.size w W' ∧ g9 + 1 ≤ W'.heap.size) := fun W W' hW hb => by
          obtain ⟨h1, h2, h3, h4, h5⟩ := hW
          exact ⟨h1.keep hb, h2.keep hb, h3.keep hb, h4.trans (hb.mono h4.size), Nat.le_trans h5 hb.size⟩
        refine world_cut (fun W => Blk W g5 31 (bs (xr k 0x36)) ∧ Blk W g6 31 (bs (xr k 0x5c)) ∧ Blk W g9 35 zc ∧ Below w.heap.size w W ∧ g9 + 1 ≤ W.heap.size) ⟨H5.out.alloc _, H6.out.alloc _, Blk.newAt _ _ _ _ _ hg9 rfl, HBel.out.alloc hsz _, by rw [hg9]; simp⟩ ?_
        rw [← hg9]
        have hg9w : w.heap.size ≤ g9 := by omega
        have hg69 : g6 < g9 := by omega
        clear hg9 H5 H6 HBel
        intro W1 hW1
        obtain ⟨h1, hh1⟩ : ∃ h1, h1 = ShaMath.hash (xr k 0x36 ++ text) := ⟨_, rfl⟩
        have HH1 := Lib.hid hh1
        have hh32 : h1.length = 32 := by rw [hh1, hash_length]
        have HH32 := Lib.hid hh32
        have hmk : hmac kl text = ShaMath.hash (xr k 0x5c ++ h1) := by rw [hh1, HKe.out]; rfl
        have HMk := Lib.hid hmk
        clear hh1 hh32 hmk
        refine region_tail_by 7 _ [(38, .is (.agg zc)), (39, .is (.slice (some ⟨g5, 0, none⟩) 64 64)), (40, .sat (fun v _ => IsState v (xr k 0x36)) (fun _ _ _ h _ => h)), (41, .is (.slice b nb cb)), (42, .sat (fun v _ => IsState v (xr k 0x36 ++ text)) (fun _ _ _ h _ => h)), (43, .is (.agg (bs h1))), (10, .sat (VarOf (g9 + 1) 26 32) VarOf.mono)] [0, 1, 2, 3, 4, 5, 6, 7, 8, 9, 10, 43]
          (fun W => Blk W g5 31 (bs (xr k 0x36)) ∧ Blk W g6 31 (bs (xr k 0x5c)) ∧ Blk W g9 35 zc ∧ Below w.heap.size w W ∧ g9 + 1 ≤ W.heap.size) (by kernel_rfl) (by kernel_rfl) (by kernel_rfl) (by kernel_rfl) (by kernel_rfl) rfl rfl rfl rfl (by kernel_rfl) (hG _ _ hW1 (Below.refl _ _).drew) ?_ ?_
        · refine ⟨?a0, ?a1, ?a2, ?a3, ?a4, ?a5, ?a6, trivial⟩
          case a0 => exact ask_load (guard_none rfl) 35 (.tmp 9) (.pointer (some ⟨g9, 0, none⟩)) (.agg zc) rfl rfl (by intro k hk; cases hk; rfl) (fun W hW => hW.2.2.1.loads _ _ Tryd.underlying35 rfl HSzs.out)
          case a1 => exact ask_slice (guard_none rfl) 31 (.tmp 5) none none none (.pointer (some ⟨g5, 0, none⟩)) (.slice (some ⟨g5, 0, none⟩) 64 64) none none none rfl rfl rfl rfl rfl (by intro k hk; cases hk; rfl) (fun W => slice_key g5 W)
          case a2 => exact ask_call hG (guard_none rfl) _ _ _ #[.agg zc, .slice (some ⟨g5, 0, none⟩) 64 64] (.sat (fun v _ => IsState v (xr k 0x36)) (fun _ _ _ h _ => h)) rfl (by kernel_rfl) rfl rfl (by intro k hk; cases hk; rfl) (fun W hW => by
            refine (write_any (.agg zc) [] (xr k 0x36) _ 64 64 W HI.out (hW.1.bysOf 64 64 (by rw [xr_length, HK64.out])) (by omega) (by rw [xr_length, HK64.out]; decide) (HT.out.below (Nat.le_refl _) hW.2.2.2.1).1 (HT.out.below (Nat.le_refl _) hW.2.2.2.1).2).mono ?_
            rintro e w' ⟨v, h1, h2, h3⟩
            exact ⟨v, h1, h2, h3⟩)
          case a3 => exact ask_copy (guard_none rfl) (.tmp 1) (.inl rfl) (by intro k hk; cases hk; rfl)
          case a4 => exact ask_call_by hG (guard_none rfl) _ _ _ (.sat (fun v _ => IsState v (xr k 0x36 ++ text)) (fun _ _ _ h _ => h)) rfl (by kernel_rfl) (by intro k hk; cases hk; rfl) (fun x W hW hk => by
            have e1 : IsState (x 40) (xr k 0x36) := hk 40 rfl
            have e2 : x 41 = .slice b nb cb := hk 41 rfl
            show Calls _ _ #[x 40, x 41] W _
            rw [e2]
            exact write_any (x 40) (xr k 0x36) text b nb cb W e1 (HX.out.below (Nat.le_refl _) hW.2.2.2.1) hcb (by rw [xr_length, HK64.out, HLx.out]; omega) (HT.out.below (Nat.le_refl _) hW.2.2.2.1).1 (HT.out.below (Nat.le_refl _) hW.2.2.2.1).2)
          case a5 => exact ask_call_by hG (guard_none rfl) _ _ _ (.is (.agg (bs h1))) rfl (by kernel_rfl) (by intro k hk; cases hk; rfl) (fun x W hW hk => by
            have e1 : IsState (x 42) (xr k 0x36 ++ text) := hk 42 rfl
            show Calls _ _ #[x 42] W _
            refine (stateSum_any (x 42) (xr k 0x36 ++ text) W e1 (by rw [List.length_append, xr_length, HK64.out, HLx.out]; omega) (HT.out.below (Nat.le_refl _) hW.2.2.2.1).1 (HT.out.below (Nat.le_refl _) hW.2.2.2.1).2).mono fun e w' h => ⟨_, h.1, ?_, h.2⟩
            show _ = _
            rw [HH1.out])
          case a6 => exact ask_alloc hG (guard_none rfl) 26 (.agg (bs (List.replicate 32 0))) (.sat (VarOf (g9 + 1) 26 32) VarOf.mono) rfl (fun W => by kernel_rfl) (by intro k hk; cases hk; rfl) (fun W hW => ⟨_, _, rfl, hW.2.2.2.2, Blk.new _ _ _, by kernel_rfl⟩)
        intro a' W2 hW2 hd1 hs1 hf1
        obtain ⟨g10, zs, t10', hg10, hz1, hz2⟩ : VarOf (g9 + 1) 26 32 (a'.tmps.getD 10 undef) W2 := hf1 10 rfl
        have t0 : a'.tmps.getD 0 undef = .slice ka kn kc := hf1 0 rfl
        have t1 : a'.tmps.getD 1 undef = .slice b nb cb := hf1 1 rfl
        have t4 : a'.tmps.getD 4 undef = .bool false := hf1 4 rfl
        have t5 : a'.tmps.getD 5 undef = .pointer (some ⟨g5, 0, none⟩) := hf1 5 rfl
        have t6 : a'.tmps.getD 6 undef = .pointer (some ⟨g6, 0, none⟩) := hf1 6 rfl
        have t9 : a'.tmps.getD 9 undef = .pointer (some ⟨g9, 0, none⟩) := hf1 9 rfl
        have t43 : a'.tmps.getD 43 undef = .agg (bs h1) := hf1 43 rfl
        obtain ⟨us', hus, ha'⟩ := act_open 54 a' hs1 hd1
        rw [← hus] at t10' t0 t1 t4 t5 t6 t9 t43
        have el : ((List.range 54).map us').toArray = #[us' 0, us' 1, us' 2, us' 3, us' 4, us' 5, us' 6, us' 7, us' 8, us' 9, us' 10, us' 11, us' 12, us' 13, us' 14, us' 15, us' 16, us' 17, us' 18, us' 19, us' 20, us' 21, us' 22, us' 23, us' 24, us' 25, us' 26, us' 27, us' 28, us' 29, us' 30, us' 31, us' 32, us' 33, us' 34, us' 35, us' 36, us' 37, us' 38, us' 39, us' 40, us' 41, us' 42, us' 43, us' 44, us' 45, us' 46, us' 47, us' 48, us' 49, us' 50, us' 51, us' 52, us' 53] := rfl
        rw [el] at ha'
        subst ha'
        rw [t10', t0, t1, t4, t5, t6, t9, t43]
        clear hus t10' t0 t1 t4 t5 t6 t9 t43 el hf1 hs1 hd1
        obtain ⟨h1', h2', h3', h4', h5'⟩ := hW2
        obtain ⟨hs, hhs⟩ : ∃ hs, hs = bs h1 := ⟨_, rfl⟩
        rw [← hhs]
        have hs32 : hs.size = 32 := by rw [hhs, bs_size, HH32.out]
        have hsone : hs.all (·.oneCell') = true := by rw [hhs]; exact bs_one _
        have hszh : (Tryd.prog.info? 26).map (·.size) = some hs.size := by rw [hs32]; kernel_rfl
        refine wpList_store_row rfl 26 (.tmp 10) (.tmp 43) rfl g10 hs rfl rfl _ _ hz1 hszh (hz2.trans hs32.symm) hsone ?_
        go_upto_region 16 with fail
        clear hG
        have hG : ∀ W W' : World, (Blk W g6 31 (bs (xr k 0x5c)) ∧ Blk W g9 35 zc ∧ Blk W g10 26 hs ∧ Below w.heap.size w W) → Below W.heap.size W W' → (Blk W' g6 31 (bs (xr k 0x5c)) ∧ Blk W' g9 35 zc ∧ Blk W' g10 26 hs ∧ Below w.heap.size w W') := fun W W' hW hb => by
          obtain ⟨h2, h3, h4, h5⟩ := hW
          exact ⟨h2.keep hb, h3.keep hb, h4.keep hb, h5.trans (hb.mono h5.size)⟩
        have hW3 : Blk (W2.setRow g10 hs) g6 31 (bs (xr k 0x5c)) ∧ Blk (W2.setRow g10 hs) g9 35 zc ∧ Blk (W2.setRow g10 hs) g10 26 hs ∧ Below w.heap.size w (W2.setRow g10 hs) := ⟨h2'.rowOther _ (by omega), h3'.rowOther _ (by omega), hz1.row hs, below_setRow h4' _ _ (by omega)⟩
        obtain ⟨M, hM⟩ : ∃ M, M = hmac kl text := ⟨_, rfl⟩
        have hMl : M.length = 32 := by rw [hM]; exact hmac_length _ _
        have HMk2 : Hid (M = ShaMath.hash (xr k 0x5c ++ h1)) := Lib.hid (by rw [hM, HMk.out])
        have HHs := Lib.hid hhs
        clear h1' h2' h3' h4' h5' hz1 hz2 hs32 hsone hszh hhs
        refine region_by [(44, .is (.slice ka kn kc)), (45, .is (.slice b nb cb)), (46, .is (.agg (bs M))), (47, .is (.agg zc)), (48, .is (.slice (some ⟨g6, 0, none⟩) 64 64)), (49, .sat (fun v _ => IsState v (xr k 0x5c)) (fun _ _ _ h _ => h)), (50, .is (.slice (some ⟨g10, 0, none⟩) 32 32)), (51, .sat (fun v _ => IsState v (xr k 0x5c ++ h1)) (fun _ _ _ h _ => h)), (52, .is (.agg (bs M))), (53, .is (.bool true)), (4, .is (.bool true))] [4] (fun W => Blk W g6 31 (bs (xr k 0x5c)) ∧ Blk W g9 35 zc ∧ Blk W g10 26 hs ∧ Below w.heap.size w W) (by kernel_rfl) (by kernel_rfl) (by kernel_rfl) (by kernel_rfl) (by kernel_rfl) (hG _ _ hW3 (Below.refl _ _).drew) ?_ ?_
        · refine ⟨?b0, ?b1, ?b2, ?b3, ?b4, ?b5, ?b6, ?b7, ?b8, ?b9, ?b10, trivial⟩
          case b0 => exact ask_copy (guard_none rfl) (.tmp 0) (.inl rfl) (by intro k hk; cases hk; rfl)
          case b1 => exact ask_copy (guard_none rfl) (.tmp 1) (.inl rfl) (by intro k hk; cases hk; rfl)
          case b2 => exact ask_call hG (guard_none rfl) _ _ _ #[.slice ka kn kc, .slice b nb cb] (.is (.agg (bs M))) rfl (by kernel_rfl) rfl rfl (by intro k hk; cases hk; rfl) (fun W hW => by
            have h := mark_any kl text ka b kn kc nb cb W (HKy.out.below (Nat.le_refl _) hW.2.2.2) hkc (HX.out.below (Nat.le_refl _) hW.2.2.2) hcb (by omega) (by omega) (HT.out.below (Nat.le_refl _) hW.2.2.2)
            rw [← hM] at h
            exact h.mono fun e w' h => ⟨_, h.1, rfl, h.2⟩)
          case b3 => exact ask_load (guard_none rfl) 35 (.tmp 9) (.pointer (some ⟨g9, 0, none⟩)) (.agg zc) rfl rfl (by intro k hk; cases hk; rfl) (fun W hW => hW.2.1.loads _ _ Tryd.underlying35 rfl HSzs.out)
          case b4 => exact ask_slice (guard_none rfl) 31 (.tmp 6) none none none (.pointer (some ⟨g6, 0, none⟩)) (.slice (some ⟨g6, 0, none⟩) 64 64) none none none rfl rfl rfl rfl rfl (by intro k hk; cases hk; rfl) (fun W => slice_key g6 W)
          case b5 => exact ask_call hG (guard_none rfl) _ _ _ #[.agg zc, .slice (some ⟨g6, 0, none⟩) 64 64] (.sat (fun v _ => IsState v (xr k 0x5c)) (fun _ _ _ h _ => h)) rfl (by kernel_rfl) rfl rfl (by intro k hk; cases hk; rfl) (fun W hW => by
            refine (write_any (.agg zc) [] (xr k 0x5c) _ 64 64 W HI.out (hW.1.bysOf 64 64 (by rw [xr_length, HK64.out])) (by omega) (by rw [xr_length, HK64.out]; decide) (HT.out.below (Nat.le_refl _) hW.2.2.2).1 (HT.out.below (Nat.le_refl _) hW.2.2.2).2).mono ?_
            rintro e w' ⟨v, h1, h2, h3⟩
            exact ⟨v, h1, h2, h3⟩)
          case b6 => exact ask_slice (guard_none rfl) 26 (.tmp 10) none none none (.pointer (some ⟨g10, 0, none⟩)) (.slice (some ⟨g10, 0, none⟩) 32 32) none none none rfl rfl rfl rfl rfl (by intro k hk; cases hk; rfl) (fun W => slice_hash_all g10 W)
          case b7 => exact ask_call_by hG (guard_none rfl) _ _ _ (.sat (fun v _ => IsState v (xr k 0x5c ++ h1)) (fun _ _ _ h _ => h)) rfl (by kernel_rfl) (by intro k hk; cases hk; rfl) (fun x W hW hk => by
            have e1 : IsState (x 49) (xr k 0x5c) := hk 49 rfl
            have e2 : x 50 = .slice (some ⟨g10, 0, none⟩) 32 32 := hk 50 rfl
            show Calls _ _ #[x 49, x 50] W _
            rw [e2]
            have h3 := hW.2.2.1
            rw [HHs.out] at h3
            exact write_any (x 49) (xr k 0x5c) h1 _ 32 32 W e1 (h3.bysOf 32 32 HH32.out) (by omega) (by rw [xr_length, HK64.out, HH32.out]; decide) (HT.out.below (Nat.le_refl _) hW.2.2.2).1 (HT.out.below (Nat.le_refl _) hW.2.2.2).2)
          case b8 => exact ask_call_by hG (guard_none rfl) _ _ _ (.is (.agg (bs M))) rfl (by kernel_rfl) (by intro k hk; cases hk; rfl) (fun x W hW hk => by
            have e1 : IsState (x 51) (xr k 0x5c ++ h1) := hk 51 rfl
            show Calls _ _ #[x 51] W _
            refine (stateSum_any (x 51) (xr k 0x5c ++ h1) W e1 (by rw [List.length_append, xr_length, HK64.out, HH32.out]; decide) (HT.out.below (Nat.le_refl _) hW.2.2.2).1 (HT.out.below (Nat.le_refl _) hW.2.2.2).2).mono fun e w' h => ⟨_, h.1, ?_, h.2⟩
            show _ = _
            rw [HMk2.out])
          case b9 => exact ask_cmp (guard_none rfl) _ _ _ _ _ _ _ _ rfl rfl rfl (by intro k hk; cases hk; rfl) (fun W => eql_hash _ _ M hMl W)
          case b10 => exact ask_copy (guard_none rfl) (.tmp 53) (.inr rfl) (by intro k hk; cases hk; rfl)
        intro a2 W4 hW4 hd2 hs2 hf2
        have t4 : a2.tmps.getD 4 undef = .bool true := hf2 4 rfl
        obtain ⟨us2, hus, ha'⟩ := act_open 54 a2 hs2 hd2
        rw [← hus] at t4
        have el : ((List.range 54).map us2).toArray = #[us2 0, us2 1, us2 2, us2 3, us2 4, us2 5, us2 6, us2 7, us2 8, us2 9, us2 10, us2 11, us2 12, us2 13, us2 14, us2 15, us2 16, us2 17, us2 18, us2 19, us2 20, us2 21, us2 22, us2 23, us2 24, us2 25, us2 26, us2 27, us2 28, us2 29, us2 30, us2 31, us2 32, us2 33, us2 34, us2 35, us2 36, us2 37, us2 38, us2 39, us2 40, us2 41, us2 42, us2 43, us2 44, us2 45, us2 46, us2 47, us2 48, us2 49, us2 50, us2 51, us2 52, us2 53] := rfl
        rw [el] at ha'
        subst ha'
        rw [t4]
        clear hus t4 el hf2 hs2 hd2
        go_wp2
        go_ret
        exact ⟨rfl, hW4.2.2.2⟩

theorem nests_all (w : World) (ht : Tabs w) (a : Option Addr) (na ca : Nat) (x : List Int) (hx : IsRow .u8 w a na ca x) (_sx : ca * 1 ≤ 140737488351232) (b : Option Addr) (nb cb : Nat) (y : List Int) (hy : IsRow .u8 w b nb cb y) (sy : cb * 1 ≤ 140737488351232) :
    Calls Tryd.prog 6 #[.slice a na ca, .slice b nb cb] w fun e w' => e = .returned (.bool true) ∧ Below w.heap.size w w' := by
  obtain ⟨k, _, hb1⟩ := hx.bys
  obtain ⟨t, _, hb2⟩ := hy.bys
  have h1 := hx.le
  have h2 := hy.le
  exact nests_walk k t a b na ca nb cb w hb1 h1 hb2 h2 (by omega) ht
end Go.Proofs.YtlnhjllcgbdalaaDoor
