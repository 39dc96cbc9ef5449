/- The program's hash of a state, of a text. -/
import Derived.Test.YtdhfabjkpffhnabDoorShaWrite
import Derived.Test.YtdhfabjkpffhnabDoorShaEnding
namespace Go.Proofs.YtdhfabjkpffhnabDoor
set_option maxRecDepth 20000
open Go.RowKit ShaMath Reg

/-- i bytes of the words are laid. -/
def laidB (r : Regs) (i : Nat) : List UInt8 := (List.range i).map (byteAt r.list) ++ List.replicate (32 - i) 0
theorem laidB_length (r : Regs) (i : Nat) (h : i ≤ 32) : (laidB r i).length = 32 := by
  simp [laidB]
  omega
theorem laidB_step (r : Regs) (i : Nat) (h : i < 32) : (laidB r i).set i (byteAt r.list i) = laidB r (i + 1) := by
  unfold laidB
  rw [show 32 - i = (32 - (i + 1)) + 1 by omega, List.replicate_succ, List.set_append_right _ _ (by simp), List.range_succ, List.map_append]
  simp
theorem laidB_zero (r : Regs) : laidB r 0 = List.replicate 32 0 := by simp [laidB]
theorem laidB_all (r : Regs) : laidB r 32 = ShaMath.bytes r := by simp [laidB, ShaMath.bytes]

def ByteAt (w : World) (g g4 : Nat) (r : Regs) (s12 : Value) (wr : World) : Prop :=
  ∃ i : Nat, i ≤ 32 ∧ s12 = .int .i64 i ∧ Blk wr g 63 (us r.list) ∧ Blk wr g4 30 (bs (laidB r i)) ∧ (∃ zs, Blk wr (w.heap.size + 1) 30 zs ∧ zs.size = 32) ∧ Below w.heap.size w wr

theorem byte_value (x : BitVec 32) (t : Nat) : Value.int .u8 (rv (x >>> t) % 256) = bv (UInt8.ofNat (x.toNat / 2 ^ t)) := by
  rw [bv_of]
  congr 1
  unfold rv
  rw [BitVec.toNat_ushiftRight, Nat.shiftRight_eq_div_pow]
  simp

/-- What a call laid in memory of its own: a slice of bytes. -/
def SliceOf (l : List UInt8) (v : Value) (W : World) : Prop := ∃ a len cap, v = .slice a len cap ∧ len ≤ cap ∧ Bys W v l
theorem SliceOf.mono {l : List UInt8} : ∀ v W W', SliceOf l v W → Below W.heap.size W W' → SliceOf l v W' := fun _ _ _ ⟨a, n, c, h1, h2, h3⟩ hb => ⟨a, n, c, h1, h2, h3.below (Nat.le_refl _) hb⟩
def VarOf (B : Nat) (t : TypeId) (n : Nat) (v : Value) (W : World) : Prop := ∃ g zs, v = .pointer (some ⟨g, 0, none⟩) ∧ B ≤ g ∧ Blk W g t zs ∧ zs.size = n
theorem VarOf.mono {B : Nat} {t : TypeId} {n : Nat} : ∀ v W W', VarOf B t n v W → Below W.heap.size W W' → VarOf B t n v W' := fun _ _ _ ⟨g, zs, h1, h2, h3, h4⟩ hb => ⟨g, zs, h1, h2, h3.keep hb, h4⟩

theorem zero_words : ∃ zs, (∀ W, (zeroValue 63).run Tryd.prog W = .ok (.agg zs) W) ∧ zs.size = 8 := ⟨us (List.replicate 8 0#32), fun W => by kernel_rfl, by kernel_rfl⟩

theorem Row.sliceOf {w : World} {B : Nat} {v : Value} {l : List UInt8} (h : Row w B v l) (hl : l ≠ []) : SliceOf l v w := by
  obtain ⟨g, cap, rfl, _, _, hc, _⟩ := h.shape hl
  exact ⟨_, _, cap, rfl, hc, h.bys⟩

theorem goodS_nil : GoodS (List.replicate 8 0#32) (List.replicate 64 0) [] := good_nil _ _ rfl rfl
theorem tail_ne (n : Nat) : tail n ≠ [] := fun h => by cases h

set_option maxRecDepth 100000 in
theorem stateSum_any (v : Value) (l : List UInt8) (w : World) (hv : IsState v l) (hl : l.length ≤ 1125899906842624) (hro : Roots w) (hst : Starts w) :
    Calls Tryd.prog 54 #[v] w fun e w' => e = .returned (.agg (bs (hash l))) ∧ Below w.heap.size w w' := by
  obtain ⟨h, r, rfl, hg⟩ := hv
  obtain ⟨N, hN⟩ : ∃ N, N = l.length := ⟨_, rfl⟩
  have hcl := stC_len N hg.1 hg.2.1
  have hcz := stC_size N hg.1 hg.2.1
  have hst0 : IsState (.agg (stC h r l.length)) l := ⟨h, r, rfl, hg⟩
  rw [← hN] at hst0 hl ⊢
  obtain ⟨cs, hcs⟩ : ∃ cs, cs = stC h r N := ⟨_, rfl⟩
  rw [← hcs] at hcl hcz hst0 ⊢
  have HSt := Lib.hid hst
  have HRo := Lib.hid hro
  have HIs := Lib.hid hst0
  have HN := Lib.hid hN
  clear hst hro hg hcs hst0 hN
  obtain ⟨z8, hz8, hz8s⟩ := zero_words
  have HZ8 := Lib.hid hz8
  have HZ8s := Lib.hid hz8s
  clear hz8 hz8s
  go_enter Tryd.func54, Tryd.ntmps54
  go_upto_region 1 with fail
  refine world_cut (fun W => Blk W w.heap.size 66 cs ∧ (∃ zs, Blk W (w.heap.size + 1) 30 zs ∧ zs.size = 32) ∧ Below w.heap.size w W ∧ w.heap.size + 2 ≤ W.heap.size) ?_ ?_
  · exact ⟨(Blk.new _ _ _).alloc _, ⟨_, Blk.newAt _ _ _ _ _ (by simp) rfl, rfl⟩, ((Below.refl _ _).alloc (Nat.le_refl _) _).alloc (by simp) _, by simp⟩
  rintro W1 hW1
  have hst1 : ∀ W, Below w.heap.size w W → Starts W := fun W hW => HSt.out.below (Nat.le_refl _) hW
  have hro1 : ∀ W, Below w.heap.size w W → Roots W := fun W hW => HRo.out.below (Nat.le_refl _) hW
  have hG : ∀ W W' : World, (Blk W w.heap.size 66 cs ∧ (∃ zs, Blk W (w.heap.size + 1) 30 zs ∧ zs.size = 32) ∧ Below w.heap.size w W ∧ w.heap.size + 2 ≤ W.heap.size) → Below W.heap.size W W' → (Blk W' w.heap.size 66 cs ∧ (∃ zs, Blk W' (w.heap.size + 1) 30 zs ∧ zs.size = 32) ∧ Below w.heap.size w W' ∧ w.heap.size + 2 ≤ W'.heap.size) := fun W W' hW hb => by
    obtain ⟨h1, ⟨zs, h2, h3⟩, h4, h5⟩ := hW
    exact ⟨h1.keep hb, ⟨zs, h2.keep hb, h3⟩, h4.trans (hb.mono h4.size), Nat.le_trans h5 hb.size⟩
  obtain ⟨R, hR⟩ : ∃ R, R = chain (pad l) ((pad l).length / 64) := ⟨_, rfl⟩
  have htl : (l ++ tail N).length ≤ 1152921504606846976 := by
    rw [HN.out]
    unfold tail gap lenB
    simp
    have := HN.out
    omega
  refine region_tail_by 7 _ [(6, .is (.agg cs)), (7, .is (.pointer (some ⟨w.heap.size, 72, none⟩))), (8, .is (.int .u64 (N : Int))), (9, .sat (SliceOf (tail N)) SliceOf.mono), (10, .sat (fun v _ => IsState v (l ++ tail N)) (fun _ _ _ h _ => h)), (11, .is (.agg (us R.list))), (3, .sat (VarOf (w.heap.size + 2) 63 8) VarOf.mono)] [0, 1, 2, 3, 11]
    (fun W => Blk W w.heap.size 66 cs ∧ (∃ zs, Blk W (w.heap.size + 1) 30 zs ∧ zs.size = 32) ∧ Below w.heap.size w W ∧ w.heap.size + 2 ≤ W.heap.size) (by kernel_rfl) (by kernel_rfl) (by kernel_rfl) (by kernel_rfl) (by kernel_rfl) rfl rfl rfl rfl (by kernel_rfl) ?_ ?_ ?_
  · obtain ⟨h1, h2, h3, h4⟩ := hW1
    exact ⟨h1, h2, ⟨h3.os, h3.tape, h3.output, h3.size, h3.block⟩, h4⟩
  · refine ⟨?a0, ?a1, ?a2, ?a3, ?a4, ?a5, ?a6, trivial⟩
    case a0 => exact ask_load (guard_none rfl) 66 (.tmp 1) (.pointer (some ⟨w.heap.size, 0, none⟩)) (.agg cs) rfl rfl (by intro k hk; cases hk; rfl) (fun W hW => hW.1.loads _ _ Tryd.underlying66 rfl (by rw [hcz]; kernel_rfl))
    case a1 => exact ask_field (guard_none rfl) 66 (.tmp 1) 2 (.pointer (some ⟨w.heap.size, 0, none⟩)) (.pointer (some ⟨w.heap.size, 72, none⟩)) rfl rfl (by intro k hk; cases hk; rfl) (fun W => by kernel_rfl)
    case a2 => exact ask_load (guard_none rfl) 31 (.tmp 7) (.pointer (some ⟨w.heap.size, 72, none⟩)) (.int .u64 (N : Int)) rfl rfl (by intro k hk; cases hk; rfl) (fun W hW => by
      have hc := hW.1.cell 72
      rw [hcl] at hc
      simp [go_sem, hc])
    case a3 => exact ask_call_by hG (guard_none rfl) _ _ _ (.sat (SliceOf (tail N)) SliceOf.mono) rfl (by kernel_rfl) (by intro k hk; cases hk; rfl) (fun x W hW hk => by
      have e8 : x 8 = .int .u64 (N : Int) := hk 8 rfl
      show Calls _ _ #[x 8] W _
      rw [e8]
      refine (ending_any N W (by omega)).mono ?_
      rintro e w' ⟨v, h1, h2, h3⟩
      exact ⟨v, h1, h2.sliceOf (tail_ne N), h3⟩)
    case a4 => exact ask_call_by hG (guard_none rfl) _ _ _ (.sat (fun v _ => IsState v (l ++ tail N)) (fun _ _ _ h _ => h)) rfl (by kernel_rfl) (by intro k hk; cases hk; rfl) (fun x W hW hk => by
      have e6 : x 6 = .agg cs := hk 6 rfl
      obtain ⟨a9, n9, c9, e9, h9, b9⟩ : SliceOf (tail N) (x 9) W := hk 9 rfl
      show Calls _ _ #[x 6, x 9] W _
      rw [e6]
      rw [e9] at b9 ⊢
      refine (write_any (.agg cs) l (tail N) a9 n9 c9 W HIs.out b9 h9 (by rw [← List.length_append]; exact htl) (hro1 W hW.2.2.1) (hst1 W hW.2.2.1)).mono ?_
      rintro e w' ⟨v, h1, h2, h3⟩
      exact ⟨v, h1, h2, h3⟩)
    case a5 => exact ask_call_by hG (guard_none rfl) _ _ _ (.is (.agg (us R.list))) rfl (by kernel_rfl) (by intro k hk; cases hk; rfl) (fun x W hW hk => by
      obtain ⟨h', r', e10, hg'⟩ : IsState (x 10) (l ++ tail N) := hk 10 rfl
      show Calls _ _ #[x 10] W _
      rw [e10]
      have hh := good_chain hg'
      have hp : l ++ tail N = pad l := by rw [HN.out]; rfl
      refine (chain_any h' r' _ W hg'.1 hg'.2.1 (hst1 W hW.2.2.1) (by omega)).mono fun e w' h => ⟨_, h.1, ?_, h.2⟩
      show _ = _
      rw [hh, hp, ← hR])
    case a6 => exact ask_alloc hG (guard_none rfl) 63 (.agg z8) (.sat (VarOf (w.heap.size + 2) 63 8) VarOf.mono) rfl HZ8.out (by intro k hk; cases hk; rfl) (fun W hW => ⟨_, _, rfl, hW.2.2.2, Blk.new _ _ _, HZ8s.out⟩)
  intro a' W3 hW3 hd3 hs3 hf3
  have t0 : a'.tmps.getD 0 undef = .agg cs := hf3 0 rfl
  have t1 : a'.tmps.getD 1 undef = .pointer (some ⟨w.heap.size, 0, none⟩) := hf3 1 rfl
  have t2 : a'.tmps.getD 2 undef = .pointer (some ⟨w.heap.size + 1, 0, none⟩) := hf3 2 rfl
  obtain ⟨g3, zs3, t3, hg3, hb3, hz3⟩ : VarOf (w.heap.size + 2) 63 8 (a'.tmps.getD 3 undef) W3 := hf3 3 rfl
  have t11 : a'.tmps.getD 11 undef = .agg (us R.list) := hf3 11 rfl
  obtain ⟨us', hus, ha'⟩ := act_open 29 a' hs3 hd3
  rw [← hus] at t0 t1 t2 t3 t11
  have el : ((List.range 29).map us').toArray = #[us' 0, us' 1, us' 2, us' 3, us' 4, us' 5, us' 6, us' 7, us' 8, us' 9, us' 10, us' 11, us' 12, us' 13, us' 14, us' 15, us' 16, us' 17, us' 18, us' 19, us' 20, us' 21, us' 22, us' 23, us' 24, us' 25, us' 26, us' 27, us' 28] := rfl
  rw [el] at ha'
  subst ha'
  rw [t0, t1, t2, t3, t11]
  clear hus t0 t1 t2 t3 t11 el hf3 hs3 hd3
  obtain ⟨-, hZ3, hL3, hS3⟩ := hW3
  have hsto := hb3.stores (P := Tryd.prog) 63 (us R.list) (by rw [us_size]; kernel_rfl) (by rw [hz3, us_size]; rfl) (us_one _)
  have HSto := Lib.hid hsto
  refine wpList_store_by rfl 63 (.tmp 3) (.tmp 11) rfl (.pointer (some ⟨g3, 0, none⟩)) (.agg (us R.list)) rfl rfl (W3.setRow g3 (us R.list)) HSto.out ?_
  have hr3 := hb3.row (us R.list)
  have hlt3 := hb3.lt
  have hB4 : Below w.heap.size w (W3.setRow g3 (us R.list)) := below_setRow hL3 _ _ (by omega)
  have hZ4 : ∃ zs, Blk (W3.setRow g3 (us R.list)) (w.heap.size + 1) 30 zs ∧ zs.size = 32 := by
    obtain ⟨zs, h1, h2⟩ := hZ3
    exact ⟨zs, h1.rowOther _ (by omega), h2⟩
  have hlt4 : g3 < (W3.setRow g3 (us R.list)).heap.size := by simpa using hlt3
  obtain ⟨W4, hW4⟩ : ∃ W4, W4 = W3.setRow g3 (us R.list) := ⟨_, rfl⟩
  rw [← hW4] at hr3 hB4 hZ4 hlt4 ⊢
  have HR3 := Lib.hid hr3
  have HB4 := Lib.hid hB4
  have HZ4 := Lib.hid hZ4
  have HR := Lib.hid hR
  clear hcl hcz hG hst1 hro1 htl HSto hsto hW4 hW1 hb3 hz3 hZ3 hL3 hS3 hlt3 hr3 hB4 hZ4 hR hl
  go_upto_region 3 with fail
  refine world_cut (fun W => Blk W g3 63 (us R.list) ∧ Blk W W4.heap.size 30 (bs (laidB R 0)) ∧ (∃ zs, Blk W (w.heap.size + 1) 30 zs ∧ zs.size = 32) ∧ Below w.heap.size w W) ?_ ?_
  · refine ⟨HR3.out.alloc _, Blk.newAt _ _ _ _ _ rfl (by rw [laidB_zero]; kernel_rfl), ?_, HB4.out.alloc HB4.out.size _⟩
    obtain ⟨zs, h1, h2⟩ := HZ4.out
    exact ⟨zs, h1.alloc _, h2⟩
  obtain ⟨g4, hg4⟩ : ∃ g4, g4 = W4.heap.size := ⟨_, rfl⟩
  rw [← hg4] at hlt4 ⊢
  clear hg4 HR3 HB4 HZ4
  rintro W5 ⟨h51, h52, h53, h54⟩
  have H51 := Lib.hid h51
  have H52 := Lib.hid h52
  have H53 := Lib.hid h53
  have H54 := Lib.hid h54
  clear h51 h52 h53 h54
  go_wp2
  go_loopw [12] (fun s12 wr => ByteAt w g3 g4 R s12 wr) (fun s12 _ => 32 - (intOf s12).toNat)
  case atStart => exact ⟨0, by omega, rfl, H51.out, H52.out, H53.out, H54.out⟩
  case round =>
    obtain ⟨i, hi, rfl, hw, hh, hz, hbel⟩ := hrel
    have hsz := hbel.size
    by_cases hlt : i < 32
    · have hc := hw.cell (i / 4)
      rw [us_at _ _ (by simp [Regs.list]; omega), ru] at hc
      obtain ⟨x, hx⟩ : ∃ x, x = at0 R.list (i / 4) := ⟨_, rfl⟩
      rw [← hx] at hc
      have hc4 := hh.cell i
      rw [bs_at _ _ (by rw [laidB_length R i hi]; exact hlt)] at hc4
      have hf4 := hh.frozen i
      obtain ⟨c4, hc4e⟩ : ∃ c, c = bv ((laidB R i).getD i 0) := ⟨_, rfl⟩
      rw [← hc4e] at hc4
      obtain ⟨t, ht⟩ : ∃ t, t = 24 - i % 4 * 8 := ⟨_, rfl⟩
      have hti : (24 : Int) - (i : Int) % 4 * 8 = (t : Int) := by omega
      have ht24 : t ≤ 24 := by omega
      obtain ⟨y, hy⟩ : ∃ y, y = x >>> t := ⟨_, rfl⟩
      have f1 : rv x / 2 ^ t = rv y := by rw [rv_shr, hy]
      have hval : Value.int .u8 (rv y % 256) = bv (byteAt R.list i) := by
        rw [hy, byte_value, byteAt, ← hx, ← ht]
      have hset := hh.set i (bv (byteAt R.list i))
      rw [bs_set, laidB_step R i hlt, ← hval] at hset
      have hw2 := hw.other ⟨g4, i, none⟩ (.int .u8 (rv y % 256)) (by simp; omega)
      have hz2 : ∃ zs, Blk (wr.setCell ⟨g4, i, none⟩ (.int .u8 (rv y % 256))) (w.heap.size + 1) 30 zs ∧ zs.size = 32 := by
        obtain ⟨zs, h1, h2⟩ := hz
        exact ⟨zs, h1.other _ _ (by simp; omega), h2⟩
      have hb2 := hbel.setCell (p := ⟨g4, i, none⟩) (by simp; omega) (.int .u8 (rv y % 256))
      have HSet := Lib.hid hset
      have HW2 := Lib.hid hw2
      have HZ2 := Lib.hid hz2
      have HB2 := Lib.hid hb2
      have b0 := (rv_bd x).1
      have b1 := (rv_bd x).2
      have b2 := (rv_bd y).1
      have b3 := (rv_bd y).2
      clear hw hh hz hbel hx hc4e ht hy hval hset hw2 hz2 hb2
      go_wp2
      go_roundw
      case rel => exact ⟨i + 1, by omega, by go_num, HW2.out, HSet.out, HZ2.out, HB2.out⟩
      case measure => simp [intOf]; omega
    · have hi32 : i = 32 := by omega
      rw [hi32, laidB_all] at hh
      obtain ⟨zs, hz1, hz2⟩ := hz
      obtain ⟨bb, hbb⟩ : ∃ bb, bb = bs (ShaMath.bytes R) := ⟨_, rfl⟩
      have hbl : bb.size = 32 := by rw [hbb, bs_size, bytes_length]
      have hone : bb.all (·.oneCell') = true := by rw [hbb]; exact bs_one _
      have hsz2 : (Tryd.prog.info? 30).map (·.size) = some bb.size := by rw [hbl]; kernel_rfl
      rw [← hbb] at hh
      have HH := Lib.hid hh
      have HZ1 := Lib.hid hz1
      have HSz := Lib.hid (hz2.trans hbl.symm)
      have HSz2 := Lib.hid hsz2
      have HOne := Lib.hid hone
      have HBb := Lib.hid hbb
      have HBel := Lib.hid hbel
      clear hw hh hz1 hz2 hbel hbb hbl hone hsz2 hi32 hi
      go_wp2_with (first
        | (refine wpList_load_row rfl 30 (.tmp 4) rfl g4 rfl _ _ _ _ HH.out Tryd.underlying30 rfl HSz2.out ?_)
        | (refine wpList_store_row rfl 30 (.tmp 2) (.tmp 28) rfl (w.heap.size + 1) bb rfl rfl _ _ HZ1.out HSz2.out HSz.out HOne.out ?_))
      refine bodyPost_ret (v := .agg bb) (results_cell_row rfl _ _ (w.heap.size + 1) _ bb _ _ rfl (HZ1.out.row bb) Tryd.underlying30 rfl HSz2.out) rfl ⟨?_, below_setRow HBel.out _ _ (by omega)⟩
      rw [HBb.out, HR.out]
      rfl

theorem sum_any (m : List UInt8) (a : Option Addr) (len cap : Nat) (w : World) (hm : Bys w (.slice a len cap) m) (hcap : len ≤ cap) (hl : m.length ≤ 1125899906842624) (hro : Roots w) (hst : Starts w) :
    Calls Tryd.prog 43 #[.slice a len cap] w fun e w' => e = .returned (.agg (bs (hash m))) ∧ Below w.heap.size w w' := by
  have HM := Lib.hid hm
  have HRo := Lib.hid hro
  have HSt := Lib.hid hst
  clear hm hro hst
  obtain ⟨zc, hzc⟩ : ∃ zc, zc = zeroState := ⟨_, rfl⟩
  have hzs : ∀ W, (zeroValue 66).run Tryd.prog W = .ok (.agg zc) W := fun W => by rw [hzc]; kernel_rfl
  have HI : Hid (IsState (.agg zc) []) := Lib.hid ⟨List.replicate 8 0#32, List.replicate 64 0, by rw [hzc]; rfl, goodS_nil⟩
  clear hzc
  go_enter Tryd.func43, Tryd.ntmps43
  go_wp2_with fail
  clear hzs
  have hb0 : ∀ o : Obj, Below w.heap.size w (w.alloc o) := fun o => (Below.refl _ _).alloc (Nat.le_refl _) o
  refine (write_any (.agg zc) [] m a len cap _ HI.out (HM.out.below (Nat.le_refl _) (hb0 _)) hcap (by simp; omega) (HRo.out.below (Nat.le_refl _) (hb0 _)) (HSt.out.below (Nat.le_refl _) (hb0 _))).mono ?_
  rintro e w1 ⟨v1, rfl, hv1, hb1⟩
  have hb2 : Below w.heap.size w w1 := (hb0 _).trans (hb1.mono (by simp))
  have hz1 : ∃ zs, Blk w1 w.heap.size 30 zs ∧ zs.size = 32 := ⟨_, (Blk.newAt _ _ _ _ _ rfl rfl).keep hb1, rfl⟩
  have HV1 := Lib.hid hv1
  have HB2 := Lib.hid hb2
  have HZ1 := Lib.hid hz1
  clear hb0 hv1 hb1 hb2 hz1
  go_wp2_with fail
  refine (stateSum_any v1 m w1 (by have := HV1.out; simpa using this) hl (HRo.out.below (Nat.le_refl _) HB2.out) (HSt.out.below (Nat.le_refl _) HB2.out)).mono ?_
  rintro e w2 ⟨rfl, hb3⟩
  obtain ⟨zs, hz2, hz3⟩ := HZ1.out
  have hb4 : Below w.heap.size w w2 := HB2.out.trans (hb3.mono HB2.out.size)
  obtain ⟨bb, hbb⟩ : ∃ bb, bb = bs (hash m) := ⟨_, rfl⟩
  have hbl : bb.size = 32 := by rw [hbb, bs_size, hash_length]
  have hone : bb.all (·.oneCell') = true := by rw [hbb]; exact bs_one _
  have hsz2 : (Tryd.prog.info? 30).map (·.size) = some bb.size := by rw [hbl]; kernel_rfl
  have HZ2 := Lib.hid (hz2.keep hb3)
  have HSz := Lib.hid (hz3.trans hbl.symm)
  have HSz2 := Lib.hid hsz2
  have HOne := Lib.hid hone
  have HB4 := Lib.hid hb4
  have HBb := Lib.hid hbb
  rw [← hbb]
  clear hz2 hz3 hbl hone hsz2 hb3 hb4 hbb
  go_wp2_with (refine wpList_store_row rfl 30 (.tmp 2) (.tmp 6) rfl w.heap.size bb rfl rfl _ _ HZ2.out HSz2.out HSz.out HOne.out ?_)
  exact bodyPost_ret (v := .agg bb) (results_cell_row rfl _ _ w.heap.size _ bb _ _ rfl (HZ2.out.row bb) Tryd.underlying30 rfl HSz2.out) rfl ⟨by rw [HBb.out], below_setRow HB4.out _ _ (Nat.le_refl _)⟩
end Go.Proofs.YtdhfabjkpffhnabDoor
