/- Bytes written to a state of the program. -/
import Derived.Test.YtdhfabjkpffhnabDoorShaChain
import Derived.Test.YtdhfabjkpffhnabDoorShaGood
import Derived.Deep.DeepCutAuto
namespace Go.Proofs.YtdhfabjkpffhnabDoor
set_option maxRecDepth 20000
open Go.RowKit ShaMath Reg

/-- A state of text t. -/
def IsState (v : Value) (t : List UInt8) : Prop := ∃ h r, v = .agg (stC h r t.length) ∧ GoodS h r t

def WriteAt (w : World) (l m : List UInt8) (s1 : Value) (wr : World) : Prop :=
  ∃ (k n : Nat) (a : Option Addr) (cap : Nat) (h : List (BitVec 32)) (r : List UInt8), k + n = m.length ∧ s1 = .slice a n cap ∧ n ≤ cap ∧ Bys w (.slice a n cap) (m.drop k) ∧
    Blk wr w.heap.size 66 (stC h r (l.length + k)) ∧ GoodS h r (l ++ m.take k) ∧ (∃ zs, Blk wr (w.heap.size + 1) 66 zs ∧ zs.size = 73) ∧ Below w.heap.size w wr

def zeroState : Array Value := stC (List.replicate 8 0#32) (List.replicate 64 0) 0
theorem zero_state : ∃ zs, (∀ W, (zeroValue 66).run Tryd.prog W = .ok (.agg zs) W) ∧ zs.size = 73 := ⟨zeroState, fun W => by kernel_rfl, by kernel_rfl⟩

/-- 'copy(s.rest[at:], b)'. -/
theorem copy_rest {W : World} {g : Nat} {h : List (BitVec 32)} {r : List UInt8} {N : Nat} (hb : Blk W g 66 (stC h r N)) (eh : h.length = 8) (er : r.length = 64) (q : Nat) (hq : q < 64)
    (a : Option Addr) (len cap : Nat) (l : List UInt8) (hl : Bys W (.slice a len cap) l) (hlen : l.length = len) (hpos : 0 < len) (n : Nat) (hn : n = Nat.min len (64 - q)) :
    (Builtin.copy_ #[54, 54] 3 #[.slice (some ⟨g, 8 + q, none⟩) (64 - q) (64 - q), .slice a len cap]).run Tryd.prog W = .ok (.int .i64 (n : Int)) (W.setRow g (stC h (put r q (l.take n)) N)) := by
  rcases hl with ⟨e, rfl⟩ | ⟨ad, c, e, hc⟩
  · simp at hlen
    omega
  simp at e
  obtain ⟨rfl, -, rfl⟩ := e
  have hnl : n ≤ len := by rw [hn]; exact Nat.min_le_left _ _
  have hnq : n ≤ 64 - q := by rw [hn]; exact Nat.min_le_right _ _
  have htl : (l.take n).length = n := by rw [List.length_take]; omega
  have h1 := run_copy_row (P := Tryd.prog) W 54 54 3 5 g (8 + q) (64 - q) (64 - q) ad len cap (stC h r N) 66 ((l.take n).map bv) Tryd.underlying54 (by kernel_rfl) hb
    (by rw [List.length_map, htl]; exact hn) (cells_bys fun i hi => by
      rw [htl] at hi
      rw [hc i (by omega)]
      simp) (by rw [List.length_map, htl, stC_size N eh er]; omega) (one_bv _)
  rw [h1, List.length_map, htl]
  have h2 := stC_setRest N eh er q (l.take n) (by rw [htl]; omega)
  unfold patch at h2
  simp only [List.length_map, htl] at h2
  rw [h2]
  unfold put
  rw [htl]
  rfl

/-- 's.rest[at:]'. -/
theorem slice_rest (g q : Nat) (hq : q < 64) (W : World) : (Instr.sliceAt 64 (.pointer (some ⟨g, 8, none⟩)) (some (.int .i64 (q : Int))) none none).run Tryd.prog W = .ok (.slice (some ⟨g, 8 + q, none⟩) (64 - q) (64 - q)) W := by
  have hal : Tryd.prog.arrayLen 64 = 64 := by kernel_rfl
  have hel : Tryd.prog.elem 64 = 5 := by kernel_rfl
  rw [run_sliceAt_array_l W 64 _ (by rw [hal, hel]; exact Tryd.underlying64) .i64 (q : Int) (by omega) (by rw [hal]; omega), hal, hel, size_byte]
  simp only [Result.andThen_ok, slicedAt, Int.toNat_natCast, Nat.mul_one, addr_add]
  rw [if_neg (by omega)]

set_option maxRecDepth 100000 in
theorem write_walk (l m : List UInt8) (h0 : List (BitVec 32)) (r0 : List UInt8) (a : Option Addr) (len cap : Nat) (w : World) (hg : GoodS h0 r0 l) (hm : Bys w (.slice a len cap) m) (hlen : m.length = len) (hcap : len ≤ cap)
    (hsum : l.length + len ≤ 1152921504606846976) (hro : Roots w) (hst : Starts w) :
    Calls Tryd.prog 53 #[.agg (stC h0 r0 l.length), .slice a len cap] w fun e w' => ∃ v, e = .returned v ∧ IsState v (l ++ m) ∧ Below w.heap.size w w' := by
  have HG := Lib.hid hg
  have HM := Lib.hid hm
  have HL := Lib.hid hlen
  have HRo := Lib.hid hro
  have HSt := Lib.hid hst
  obtain ⟨L, hL⟩ : ∃ L, L = l.length := ⟨_, rfl⟩
  rw [← hL] at hsum ⊢
  have HLL := Lib.hid hL
  obtain ⟨cs0, hcs0⟩ : ∃ cs, cs = stC h0 r0 L := ⟨_, rfl⟩
  rw [← hcs0]
  have HCS := Lib.hid hcs0
  clear hg hm hlen hro hst hL hcs0
  obtain ⟨zs, hzv, hzs⟩ := zero_state
  have HZ0 := Lib.hid hzs
  clear hzs
  go_enter Tryd.func53, Tryd.ntmps53
  go_wp2_with fail
  clear hzv
  go_loopw [1] (fun s1 wr => WriteAt w l m s1 wr) (fun s1 _ => match s1 with | .slice _ n _ => n | _ => 0)
  case atStart =>
    refine ⟨0, len, a, cap, h0, r0, by rw [HL.out]; omega, rfl, hcap, by simpa using HM.out, ?_, by simpa using HG.out, ⟨_, Blk.newAt _ _ _ _ _ (by simp) rfl, HZ0.out⟩, ((Below.refl _ _).alloc (Nat.le_refl _) _).alloc (by simp) _⟩
    rw [← HLL.out, Nat.add_zero, ← HCS.out]
    exact (Blk.new _ _ _).alloc _
  case round =>
    obtain ⟨k, n, a1, cap1, h, r, hkn, rfl, hnc, hbs, hblk, hgd, hz, hbel⟩ := hrel
    obtain ⟨N, hN⟩ : ∃ N, N = l.length + k := ⟨_, rfl⟩
    rw [← hN] at hblk
    have hTl : (l ++ m.take k).length = N := by rw [List.length_append, List.length_take, hN]; omega
    have hNb : N ≤ 1152921504606846976 := by have h1 := HL.out; have h2 := HLL.out; omega
    have hsz := hbel.size
    have HN := Lib.hid hN
    have HTl := Lib.hid hTl
    have HBlk := Lib.hid hblk
    have HGd := Lib.hid hgd
    have HZ := Lib.hid hz
    have HBel := Lib.hid hbel
    have HKN := Lib.hid hkn
    have HBs := Lib.hid hbs
    by_cases hpos : 0 < n
    · obtain ⟨q, hq⟩ : ∃ q, q = N % 64 := ⟨_, rfl⟩
      have hq64 : q < 64 := by omega
      have hqi : (N : Int) % 64 = (q : Int) := by omega
      obtain ⟨j, hj⟩ : ∃ j, j = Nat.min n (64 - q) := ⟨_, rfl⟩
      have hj1 : 1 ≤ j := by rw [hj]; exact Nat.le_min.2 ⟨hpos, by omega⟩
      have hj2 : j ≤ n := by rw [hj]; exact Nat.min_le_left _ _
      have hj3 : q + j ≤ 64 := by have : j ≤ 64 - q := by rw [hj]; exact Nat.min_le_right _ _
                                  omega
      have c72 : wr.cell? ⟨w.heap.size, 72, none⟩ = some (.int .u64 (N : Int)) := by rw [hblk.cell, stC_len N hgd.1 hgd.2.1]
      have hcp := copy_rest hblk hgd.1 hgd.2.1 q hq64 a1 n cap1 (m.drop k) (hbs.below (Nat.le_refl _) hbel) (by rw [List.length_drop]; omega) hpos j hj
      have HCp := Lib.hid hcp
      have HQ := Lib.hid hq
      have hsr := slice_rest w.heap.size q hq64
      clear hN hTl hblk hgd hz hbel hkn hbs hcp hq hj
      go_upto_region 4 with (refine wpList_copy_by rfl (.tmp 16) (.tmp 17) 54 rfl (.slice (some ⟨w.heap.size, 8 + q, none⟩) (64 - q) (64 - q)) (.slice a1 n cap1) (.int .i64 (j : Int)) (wr.setRow w.heap.size (stC h (put r q ((m.drop k).take j)) N)) rfl rfl HCp.out ?_)
      clear hsr c72
      obtain ⟨p, hp⟩ : ∃ p, p = (m.drop k).take j := ⟨_, rfl⟩
      have hpl : p.length = j := by rw [hp, List.length_take, List.length_drop]; have := HKN.out; omega
      rw [← hp]
      obtain ⟨r1, hr1⟩ : ∃ r1, r1 = put r q p := ⟨_, rfl⟩
      rw [← hr1]
      have hmk : l ++ m.take (k + j) = (l ++ m.take k) ++ p := by rw [hp, List.append_assoc, ← List.take_add]
      refine world_cut (fun W => Blk W w.heap.size 66 (stC h r1 N) ∧ (∃ zs, Blk W (w.heap.size + 1) 66 zs ∧ zs.size = 73) ∧ Below w.heap.size w W) ?_ ?_
      · refine ⟨HBlk.out.row _, ?_, below_setRow HBel.out _ _ (Nat.le_refl _)⟩
        obtain ⟨zs, h1, h2⟩ := HZ.out
        exact ⟨zs, h1.rowOther _ (by omega), h2⟩
      rintro W1 ⟨hB1, hZ1, hL1⟩
      have HB1 := Lib.hid hB1
      have HZ1 := Lib.hid hZ1
      have HL1 := Lib.hid hL1
      have HMK := Lib.hid hmk
      have HP := Lib.hid hp
      have HPl := Lib.hid hpl
      have HR1 := Lib.hid hr1
      have hs1 := hL1.size
      clear hp hpl hr1 hmk hB1 hZ1 hL1
      by_cases hfull : q + j = 64
      · have hg2 : GoodS (comp (chain (l ++ m.take k) (N / 64)) r1).list r1 (l ++ m.take (k + j)) := by
          rw [HMK.out, HR1.out, HQ.out, ← HTl.out]
          exact good_whole HGd.out p (by rw [HTl.out, ← HQ.out, HPl.out]; exact hfull)
        have HG2 := Lib.hid hg2
        clear hg2
        go_upto_region 5 with fail
        have hst1 : ∀ W, Below w.heap.size w W → Starts W := fun W hW => HSt.out.below (Nat.le_refl _) hW
        have hro1 : ∀ W, Below w.heap.size w W → Roots W := fun W hW => HRo.out.below (Nat.le_refl _) hW
        have her : r1.length = 64 := HG2.out.2.1
        have heh : h.length = 8 := HGd.out.1
        have hch : (if N < 64 then ShaMath.start.list else h) = (chain (l ++ m.take k) (N / 64)).list := by
          have := good_chain HGd.out
          rwa [HTl.out] at this
        obtain ⟨R, hR⟩ : ∃ R, R = chain (l ++ m.take k) (N / 64) := ⟨_, rfl⟩
        rw [← hR] at hch HG2
        obtain ⟨R2, hR2⟩ : ∃ R2, R2 = comp R r1 := ⟨_, rfl⟩
        rw [← hR2] at HG2
        have hG : ∀ W W' : World, (Blk W w.heap.size 66 (stC h r1 N) ∧ (∃ zs, Blk W (w.heap.size + 1) 66 zs ∧ zs.size = 73) ∧ Below w.heap.size w W) → Below W.heap.size W W' → (Blk W' w.heap.size 66 (stC h r1 N) ∧ (∃ zs, Blk W' (w.heap.size + 1) 66 zs ∧ zs.size = 73) ∧ Below w.heap.size w W') := fun W W' hW hb => by
          obtain ⟨h1, ⟨zs, h2, h3⟩, h4⟩ := hW
          exact ⟨h1.keep hb, ⟨zs, h2.keep hb, h3⟩, h4.trans (hb.mono h4.size)⟩
        refine region_tail_by 6 _ [(23, .is (.agg (stC h r1 N))), (24, .is (.agg (us R.list))), (25, .is (.pointer (some ⟨w.heap.size, 8, none⟩))), (26, .is (.agg (bs r1))), (27, .is (.agg (us R2.list))), (28, .is (.pointer (some ⟨w.heap.size, 0, none⟩)))] [0, 1, 2, 3, 4, 5, 6, 27, 28, 38]
          (fun W => Blk W w.heap.size 66 (stC h r1 N) ∧ (∃ zs, Blk W (w.heap.size + 1) 66 zs ∧ zs.size = 73) ∧ Below w.heap.size w W) (by kernel_rfl) (by kernel_rfl) (by kernel_rfl) (by kernel_rfl) (by kernel_rfl) rfl rfl rfl rfl (by kernel_rfl) ?_ ?_ ?_
        · exact ⟨HB1.out, HZ1.out, ⟨HL1.out.os, HL1.out.tape, HL1.out.output, HL1.out.size, HL1.out.block⟩⟩
        · refine ⟨?a0, ?a1, ?a2, ?a3, ?a4, ?a5, trivial⟩
          case a0 => exact ask_load (guard_none rfl) 66 (.tmp 2) (.pointer (some ⟨w.heap.size, 0, none⟩)) (.agg (stC h r1 N)) rfl rfl (by intro k hk; cases hk; rfl) (fun W hW => hW.1.loads _ _ Tryd.underlying66 rfl (by rw [stC_size N heh her]; kernel_rfl))
          case a1 => exact ask_call hG (guard_none rfl) _ _ _ #[.agg (stC h r1 N)] (.is (.agg (us R.list))) rfl (by kernel_rfl) rfl rfl (by intro k hk; cases hk; rfl) (fun W hW => (chain_any h r1 N W heh her (hst1 W hW.2.2) (by omega)).mono fun e w' hh => ⟨_, hh.1, by show _ = _; rw [hch], hh.2⟩)
          case a2 => exact ask_field (guard_none rfl) 66 (.tmp 2) 1 (.pointer (some ⟨w.heap.size, 0, none⟩)) (.pointer (some ⟨w.heap.size, 8, none⟩)) rfl rfl (by intro k hk; cases hk; rfl) (fun W => by kernel_rfl)
          case a3 => exact ask_load (guard_none rfl) 64 (.tmp 25) (.pointer (some ⟨w.heap.size, 8, none⟩)) (.agg (bs r1)) rfl rfl (by intro k hk; cases hk; rfl) (fun W hW => hW.1.loadsAt _ _ 8 8 (r1.map bv) Tryd.underlying64 rfl (by rw [List.length_map, her]; kernel_rfl) (stC_rest N heh) rfl)
          case a4 => exact ask_call hG (guard_none rfl) _ _ _ #[.agg (us R.list), .agg (bs r1)] (.is (.agg (us R2.list))) rfl (by kernel_rfl) rfl rfl (by intro k hk; cases hk; rfl) (fun W hW => (stir_any R r1 W her (hro1 W hW.2.2)).mono fun e w' hh => ⟨_, hh.1, by show _ = _; rw [hR2], hh.2⟩)
          case a5 => exact ask_field (guard_none rfl) 66 (.tmp 2) 0 (.pointer (some ⟨w.heap.size, 0, none⟩)) (.pointer (some ⟨w.heap.size, 0, none⟩)) rfl rfl (by intro k hk; cases hk; rfl) (fun W => by kernel_rfl)
        intro a' W3 hW3 hd3 hs3 hf3
        have t0 : a'.tmps.getD 0 undef = .agg cs0 := hf3 0 rfl
        have t1 : a'.tmps.getD 1 undef = .slice a1 n cap1 := hf3 1 rfl
        have t2 : a'.tmps.getD 2 undef = .pointer (some ⟨w.heap.size, 0, none⟩) := hf3 2 rfl
        have t3 : a'.tmps.getD 3 undef = undef := hf3 3 rfl
        have t4 : a'.tmps.getD 4 undef = .pointer (some ⟨w.heap.size + 1, 0, none⟩) := hf3 4 rfl
        have t5 : a'.tmps.getD 5 undef = .int .i64 (q : Int) := hf3 5 rfl
        have t6 : a'.tmps.getD 6 undef = .int .i64 (j : Int) := hf3 6 rfl
        have t27 : a'.tmps.getD 27 undef = .agg (us R2.list) := hf3 27 rfl
        have t28 : a'.tmps.getD 28 undef = .pointer (some ⟨w.heap.size, 0, none⟩) := hf3 28 rfl
        have t38 : a'.tmps.getD 38 undef = undef := hf3 38 rfl
        obtain ⟨us', hus, ha'⟩ := act_open 39 a' hs3 hd3
        rw [← hus] at t0 t1 t2 t3 t4 t5 t6 t27 t28 t38
        have el : ((List.range 39).map us').toArray = #[us' 0, us' 1, us' 2, us' 3, us' 4, us' 5, us' 6, us' 7, us' 8, us' 9, us' 10, us' 11, us' 12, us' 13, us' 14, us' 15, us' 16, us' 17, us' 18, us' 19, us' 20, us' 21, us' 22, us' 23, us' 24, us' 25, us' 26, us' 27, us' 28, us' 29, us' 30, us' 31, us' 32, us' 33, us' 34, us' 35, us' 36, us' 37, us' 38] := rfl
        rw [el] at ha'
        subst ha'
        rw [t0, t1, t2, t3, t4, t5, t6, t27, t28, t38]
        clear hus t0 t1 t2 t3 t4 t5 t6 t27 t28 t38 el hf3 hs3 hd3
        obtain ⟨hB3, hZ3, hL3⟩ := hW3
        have hsto := hB3.storesAt (P := Tryd.prog) 63 0 (R2.list.map ru) (by rw [List.length_map]; kernel_rfl) (by rw [stC_size N heh her, List.length_map]; show 0 + 8 ≤ 73; omega) us_mem_one
        rw [stC_setWords N heh R2.list rfl] at hsto
        have HSto := Lib.hid hsto
        refine wpList_store_by rfl 63 (.tmp 28) (.tmp 27) rfl (.pointer (some ⟨w.heap.size, 0, none⟩)) (.agg (us R2.list)) rfl rfl (W3.setRow w.heap.size (stC R2.list r1 N)) HSto.out ?_
        obtain ⟨h2, hh2⟩ : ∃ h2, h2 = R2.list := ⟨_, rfl⟩
        rw [← hh2] at HG2 ⊢
        clear hst1 hro1 hch hG hR hR2 hh2 HSto hsto
        go_upto_region 6 with fail
        refine world_cut (fun W => Blk W w.heap.size 66 (stC h2 r1 N) ∧ (∃ zs, Blk W (w.heap.size + 1) 66 zs ∧ zs.size = 73) ∧ Below w.heap.size w W) ?_ ?_
        · refine ⟨hB3.row _, ?_, below_setRow hL3 _ _ (Nat.le_refl _)⟩
          obtain ⟨zs, h1, h2⟩ := hZ3
          exact ⟨zs, h1.rowOther _ (by omega), h2⟩
        clear hB3 hZ3 hL3
        rintro W2 ⟨hB2, hZ2, hL2⟩
        have HB2 := Lib.hid hB2
        have HZ2 := Lib.hid hZ2
        have HL2 := Lib.hid hL2
        clear hB2 hZ2 hL2
        have c72 : W2.cell? ⟨w.heap.size, 72, none⟩ = some (.int .u64 (N : Int)) := by rw [HB2.out.cell, stC_len N HG2.out.1 HG2.out.2.1]
        have f72 := HB2.out.frozen 72
        obtain ⟨a2, hs2, hb2⟩ := bys_from a1 n cap1 j (m.drop k) w HBs.out (by rw [List.length_drop]; have := HKN.out; omega) hnc hj2
        have HB3 := Lib.hid hb2
        clear hb2
        go_wp2
        clear hs2 c72 f72
        go_roundw
        case rel =>
          have hset := HB2.out.set 72 (.int .u64 ((N + j : Nat) : Int))
          rw [stC_setLen N HG2.out.1 HG2.out.2.1 (N + j)] at hset
          refine ⟨k + j, n - j, a2, cap1 - j, h2, r1, by have := HKN.out; omega, rfl, by omega, ?_, ?_, HG2.out, ?_, HL2.out.setCell (by simp) _⟩
          · have := HB3.out
            rwa [List.drop_drop] at this
          · rw [← Nat.add_assoc, ← HN.out]
            simpa using hset
          · obtain ⟨zs, h1, h2⟩ := HZ2.out
            exact ⟨zs, h1.other _ _ (by simp), h2⟩
        case measure =>
          show n - j < n
          omega
      · have hg2 : GoodS h r1 (l ++ m.take (k + j)) := by
          rw [HMK.out, HR1.out, HQ.out, ← HTl.out]
          exact good_part HGd.out p (by rw [HTl.out, ← HQ.out, HPl.out]; omega)
        have HG2 := Lib.hid hg2
        clear hg2
        obtain ⟨h2, rfl⟩ : ∃ h2, h2 = h := ⟨_, rfl⟩
        obtain ⟨W2, rfl⟩ : ∃ W2, W2 = W1 := ⟨_, rfl⟩
        have HB2 := Lib.hid HB1.out
        have HZ2 := Lib.hid HZ1.out
        have HL2 := Lib.hid HL1.out
        have c72 : W2.cell? ⟨w.heap.size, 72, none⟩ = some (.int .u64 (N : Int)) := by rw [HB2.out.cell, stC_len N HG2.out.1 HG2.out.2.1]
        have f72 := HB2.out.frozen 72
        obtain ⟨a2, hs2, hb2⟩ := bys_from a1 n cap1 j (m.drop k) w HBs.out (by rw [List.length_drop]; have := HKN.out; omega) hnc hj2
        have HB3 := Lib.hid hb2
        clear hb2
        go_wp2
        clear hs2 c72 f72
        go_roundw
        case rel =>
          have hset := HB2.out.set 72 (.int .u64 ((N + j : Nat) : Int))
          rw [stC_setLen N HG2.out.1 HG2.out.2.1 (N + j)] at hset
          refine ⟨k + j, n - j, a2, cap1 - j, h2, r1, by have := HKN.out; omega, rfl, by omega, ?_, ?_, HG2.out, ?_, HL2.out.setCell (by simp) _⟩
          · have := HB3.out
            rwa [List.drop_drop] at this
          · rw [← Nat.add_assoc, ← HN.out]
            simpa using hset
          · obtain ⟨zs, h1, h2⟩ := HZ2.out
            exact ⟨zs, h1.other _ _ (by simp), h2⟩
        case measure =>
          show n - j < n
          omega
    · have hn0 : n = 0 := by omega
      have hfin : m.take k = m := List.take_of_length_le (by have := HKN.out; omega)
      have hNm : N = (l ++ m).length := by rw [← HTl.out, hfin]
      have hG2 : GoodS h r (l ++ m) := by have := HGd.out; rwa [hfin] at this
      obtain ⟨cs, hcs⟩ : ∃ cs, cs = stC h r N := ⟨_, rfl⟩
      have hB2 : Blk wr w.heap.size 66 cs := by rw [hcs]; exact HBlk.out
      have hcl : cs.size = 73 := by rw [hcs]; exact stC_size N hG2.1 hG2.2.1
      have hone : cs.all (·.oneCell') = true := by rw [hcs]; exact stC_one _ _ _
      have hsz2 : (Tryd.prog.info? 66).map (·.size) = some cs.size := by rw [hcl]; kernel_rfl
      obtain ⟨zs, hz1, hz2⟩ := HZ.out
      have HB2 := Lib.hid hB2
      have HZ1 := Lib.hid hz1
      have HSz := Lib.hid (hz2.trans hcl.symm)
      have HSz2 := Lib.hid hsz2
      have HOne := Lib.hid hone
      have HCs := Lib.hid hcs
      have HNm := Lib.hid hNm
      have HG2 := Lib.hid hG2
      clear hN hTl hblk hgd hz hbel hkn hbs hfin hNm hG2 hB2 hcl hone hsz2 hz1 hz2 hcs hn0
      go_wp2_with (first
        | (refine wpList_load_row rfl 66 (.tmp 2) rfl w.heap.size rfl _ _ _ _ HB2.out Tryd.underlying66 rfl HSz2.out ?_)
        | (refine wpList_store_row rfl 66 (.tmp 4) (.tmp 38) rfl (w.heap.size + 1) cs rfl rfl _ _ HZ1.out HSz2.out HSz.out HOne.out ?_))
      refine bodyPost_ret (v := .agg cs) (results_cell_row rfl _ _ (w.heap.size + 1) _ cs _ _ rfl (HZ1.out.row cs) Tryd.underlying66 rfl HSz2.out) rfl ⟨_, rfl, ⟨h, r, ?_, HG2.out⟩, below_setRow HBel.out _ _ (by omega)⟩
      rw [HCs.out, ← HNm.out]

theorem write_any (v : Value) (l m : List UInt8) (a : Option Addr) (len cap : Nat) (w : World) (hv : IsState v l) (hm : Bys w (.slice a len cap) m) (hcap : len ≤ cap)
    (hsum : l.length + m.length ≤ 1152921504606846976) (hro : Roots w) (hst : Starts w) :
    Calls Tryd.prog 53 #[v, .slice a len cap] w fun e w' => ∃ v, e = .returned v ∧ IsState v (l ++ m) ∧ Below w.heap.size w w' := by
  obtain ⟨h, r, rfl, hg⟩ := hv
  have hlen : m.length = len := by
    rcases hm with ⟨e, rfl⟩ | ⟨ad, c, e, _⟩
    · simp at e
      rw [e.2.1]
      rfl
    · simp at e
      exact e.2.1.symm
  exact write_walk l m h r a len cap w hg hm hlen hcap (by omega) hro hst
end Go.Proofs.YtdhfabjkpffhnabDoor
