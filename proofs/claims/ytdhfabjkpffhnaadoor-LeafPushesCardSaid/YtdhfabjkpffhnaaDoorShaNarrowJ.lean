/- Narrow: the program's, the reference's. -/
import Derived.Test.YtdhfabjkpffhnaaDoorShaNarrowMath
import Derived.Test.YtdhfabjkpffhnaaDoorKS
namespace Go.Proofs.YtdhfabjkpffhnaaDoor
set_option maxRecDepth 20000
open Go.RowKit ShaMath

theorem u8_and_bv (x y : UInt8) : bits .and .u8 (x.toNat : Int) (y.toNat : Int) = ((x &&& y).toNat : Int) := by
  rw [u8_and_nat _ _ x.toNat_lt y.toNat_lt, UInt8.toNat_and]
theorem u8_or_bv (x y : UInt8) : bits .or .u8 (x.toNat : Int) (y.toNat : Int) = ((x ||| y).toNat : Int) := by
  rw [u8_or_nat _ _ x.toNat_lt y.toNat_lt, UInt8.toNat_or]
theorem u8_andNot_bv (x : UInt8) (k : Nat) (hk : k < 256) : bits .andNot .u8 (x.toNat : Int) (k : Int) = ((x &&& UInt8.ofNat (255 - k)).toNat : Int) := by
  rw [u8_andNot_nat _ _ x.toNat_lt hk, UInt8.toNat_and]
  congr 2
  simp
  omega

/-- 'x[:n]' of a hash. -/
theorem slice_hash (g n : Nat) (hn : n ≤ 32) (W : World) : (Instr.sliceAt 24 (.pointer (some ⟨g, 0, none⟩)) none (some (.int .i64 (n : Int))) none).run Tryd.prog W = .ok (.slice (some ⟨g, 0, none⟩) n 32) W := by
  have hal : Tryd.prog.arrayLen 24 = 32 := by kernel_rfl
  have hel : Tryd.prog.elem 24 = 5 := by kernel_rfl
  rw [run_sliceAt_array_h W 24 _ (by rw [hal, hel]; exact Tryd.underlying24) .i64 (n : Int) (by omega) (by rw [hal]; omega), hal, hel, size_byte]
  simp only [Result.andThen_ok, slicedAt, Int.toNat_natCast, Nat.zero_mul, addr_add]
  simp

/-- 'copy(x[:n], h[:n])', x as it was made. -/
theorem copy_hash {W : World} {g k : Nat} {h : List UInt8} (hg : Blk W g 24 (bs (List.replicate 32 0))) (hk : Blk W k 24 (bs h)) (hl : h.length = 32) (n : Nat) (hn : n ≤ 32) :
    (Builtin.copy_ #[22, 22] 3 #[.slice (some ⟨g, 0, none⟩) n 32, .slice (some ⟨k, 0, none⟩) n 32]).run Tryd.prog W = .ok (.int .i64 (n : Int)) (W.setRow g (bs (h.take n ++ List.replicate (32 - n) 0))) := by
  have htl : (h.take n).length = n := by rw [List.length_take]; omega
  have h1 := run_copy_row (P := Tryd.prog) W 22 22 3 5 g 0 n 32 ⟨k, 0, none⟩ n 32 (bs (List.replicate 32 0)) 24 ((h.take n).map bv) Tryd.underlying22 (by kernel_rfl) hg
    (by rw [List.length_map, htl]; exact (Nat.min_self n).symm) (cells_bys fun i hi => by
      rw [htl] at hi
      rw [addr_add, Nat.zero_add, hk.cell, bs_at _ _ (by omega)]
      simp [List.getD, show i < h.length by omega]) (by rw [List.length_map, htl, bs_size]; simp; omega) (one_bv _)
  rw [h1, List.length_map, htl]
  congr 2
  unfold bs
  congr 1
  show [] ++ (h.take n).map bv ++ ((List.replicate 32 (0 : UInt8)).map bv).drop (0 + n) = _
  rw [List.nil_append, List.map_replicate, List.drop_replicate, Nat.zero_add, List.map_append, List.map_replicate]

def NarrowEnd (w : World) (W : World) : Prop := (∃ zs, Blk W (w.heap.size + 1) 24 zs ∧ zs.size = 32) ∧ Below w.heap.size w W

set_option maxRecDepth 100000 in
theorem narrow_any (h : List UInt8) (b : Int) (w : World) (hl : h.length = 32) (hb : -9223372036854775808 ≤ b ∧ b ≤ 9223372036854775807) :
    Calls Tryd.prog 31 #[.agg (bs h), .int .i64 b] w fun e w' => e = .returned (.agg (bs (narrowL h b))) ∧ Below w.heap.size w w' := by
  obtain ⟨b0, b1⟩ := hb
  have HL := Lib.hid hl
  by_cases hbig : 256 ≤ b
  · have hres := narrow_full h b hl hbig
    obtain ⟨cs, hcs⟩ : ∃ cs, cs = bs h := ⟨_, rfl⟩
    have hcl : cs.size = 32 := by rw [hcs, bs_size, hl]
    have hone : cs.all (·.oneCell') = true := by rw [hcs]; exact bs_one _
    have hsz : (Tryd.prog.info? 24).map (·.size) = some cs.size := by rw [hcl]; kernel_rfl
    rw [hres, ← hcs]
    have HSz := Lib.hid hsz
    have HOne := Lib.hid hone
    have HCl := Lib.hid hcl
    clear hl hres hcs hcl hone hsz
    go_enter Tryd.func31, Tryd.ntmps31
    go_wp2_with (first
      | (refine wpList_load_row rfl 24 (.tmp 2) rfl w.heap.size rfl 24 cs (0, 0) _ ((Blk.newAt _ _ _ _ _ rfl rfl).alloc _) Tryd.underlying24 rfl HSz.out ?_)
      | (refine wpList_store_row rfl 24 (.tmp 4) (.tmp 10) rfl (w.heap.size + 1) cs rfl rfl 24 _ (Blk.newAt _ _ _ _ _ (by simp) rfl) HSz.out (by rw [HCl.out]; rfl) HOne.out ?_))
    exact bodyPost_ret (v := .agg cs) (results_cell_row rfl _ _ (w.heap.size + 1) 24 cs (0, 0) _ rfl (Blk.row (Blk.newAt _ _ _ _ _ (by simp) rfl) cs) Tryd.underlying24 rfl HSz.out) rfl ⟨rfl, below_setRow (((Below.refl _ _).alloc (Nat.le_refl _) _).alloc (by simp) _) _ _ (by omega)⟩
  · by_cases hsmall : b ≤ 0
    · have hres := narrow_none h b hsmall
      rw [hres]
      clear hl hres
      obtain ⟨cs, hcs⟩ : ∃ cs, cs = bs (List.replicate 32 0) := ⟨_, rfl⟩
      have hcl : cs.size = 32 := by rw [hcs]; rfl
      have hone : cs.all (·.oneCell') = true := by rw [hcs]; exact bs_one _
      have hsz : (Tryd.prog.info? 24).map (·.size) = some cs.size := by rw [hcl]; kernel_rfl
      rw [← hcs]
      have HSz := Lib.hid hsz
      have HOne := Lib.hid hone
      have HCl := Lib.hid hcl
      have HCs := Lib.hid hcs
      clear hcs hcl hone hsz
      go_enter Tryd.func31, Tryd.ntmps31
      go_upto_region 5 with fail
      refine world_cut (fun W => Blk W (w.heap.size + 1 + 1) 24 cs ∧ (∃ zs, Blk W (w.heap.size + 1) 24 zs ∧ zs.size = 32) ∧ Below w.heap.size w W) ?_ ?_
      · exact ⟨Blk.newAt _ _ _ _ _ (by simp) (by rw [HCs.out]; kernel_rfl), ⟨_, (Blk.newAt _ _ _ _ _ (by simp) rfl).alloc _, rfl⟩, (((Below.refl _ _).alloc (Nat.le_refl _) _).alloc (by simp) _).alloc (by simp; omega) _⟩
      rintro W ⟨h1, ⟨zs, h2, h3⟩, h4⟩
      have H1 := Lib.hid h1
      have H2 := Lib.hid h2
      have H3 := Lib.hid (h3.trans HCl.out.symm)
      have H4 := Lib.hid h4
      clear h1 h2 h3 h4
      go_wp2_with (first
        | (refine wpList_load_row rfl 24 (.tmp 5) rfl (w.heap.size + 1 + 1) rfl 24 cs (0, 0) _ H1.out Tryd.underlying24 rfl HSz.out ?_)
        | (refine wpList_store_row rfl 24 (.tmp 4) (.tmp 13) rfl (w.heap.size + 1) cs rfl rfl 24 _ H2.out HSz.out H3.out HOne.out ?_))
      exact bodyPost_ret (v := .agg cs) (results_cell_row rfl _ _ (w.heap.size + 1) 24 cs (0, 0) _ rfl (H2.out.row cs) Tryd.underlying24 rfl HSz.out) rfl ⟨rfl, below_setRow H4.out _ _ (by omega)⟩
    · obtain ⟨B, rfl⟩ : ∃ B : Nat, b = B := ⟨b.toNat, by omega⟩
      obtain ⟨n, hn⟩ : ∃ n, n = B / 8 := ⟨_, rfl⟩
      obtain ⟨p, hp⟩ : ∃ p, p = B % 8 := ⟨_, rfl⟩
      have hn32 : n < 32 := by omega
      have hp8 : p < 8 := by omega
      have hB : B = 8 * n + p := by omega
      have e1 : (B : Int) / 8 = (n : Int) := by omega
      have e2 : (B : Int) % 8 = (p : Int) := by omega
      have hlt256 : (B : Int) < 256 := by omega
      have hpos : (0 : Int) < (B : Int) := by omega
      have hres := narrow_whole h n p hl hn32 hp8
      rw [← hB] at hres
      have HRes := Lib.hid hres
      clear hres hl hn hp hB
      go_enter Tryd.func31, Tryd.ntmps31
      go_upto_region 6 with fail
      refine world_cut (fun W => Blk W w.heap.size 24 (bs h) ∧ Blk W (w.heap.size + 1 + 1) 24 (bs (List.replicate 32 0)) ∧ (∃ zs, Blk W (w.heap.size + 1) 24 zs ∧ zs.size = 32) ∧ Below w.heap.size w W) ?_ ?_
      · exact ⟨((Blk.new _ _ _).alloc _).alloc _, Blk.newAt _ _ _ _ _ (by simp) (by kernel_rfl), ⟨_, (Blk.newAt _ _ _ _ _ (by simp) rfl).alloc _, rfl⟩, (((Below.refl _ _).alloc (Nat.le_refl _) _).alloc (by simp) _).alloc (by simp; omega) _⟩
      rintro W0 hW0
      have HW0 := Lib.hid hW0
      clear hW0
      go_wp2
      clear e1 e2
      refine region_tail 4 (by kernel_rfl) (by kernel_rfl) (fun W => Blk W w.heap.size 24 (bs h) ∧ Blk W (w.heap.size + 1 + 1) 24 (bs (List.replicate 32 0)) ∧ (∃ zs, Blk W (w.heap.size + 1) 24 zs ∧ zs.size = 32) ∧ Below w.heap.size w W) ?_ ?_
      · obtain ⟨h1, h2, h3, h4⟩ := HW0.out
        exact ⟨h1, h2, h3, ⟨h4.os, h4.tape, h4.output, h4.size, h4.block⟩⟩
      clear HW0
      rintro W1 ⟨h1, h2, h3, h4⟩
      have hs2 := slice_hash w.heap.size n (by omega)
      have hs5 := slice_hash (w.heap.size + 1 + 1) n (by omega)
      have HCp := Lib.hid (copy_hash h2 h1 HL.out n (by omega))
      have H1 := Lib.hid h1
      have H2 := Lib.hid h2
      have H3 := Lib.hid h3
      have H4 := Lib.hid h4
      clear h1 h2 h3 h4
      simp only [List.take_succ_cons, List.take_zero, List.drop_succ_cons, List.drop_zero]
      repeat (first | go_big_quiet_skip | (go_big_quiet_want; go_big_quiet_op; go_big_quiet_on))
      refine wpQuiet_nil ?_
      clear hs2 hs5
      go_upto_region 8 with (refine wpList_copy_by rfl (.tmp 19) (.tmp 21) 22 rfl (.slice (some ⟨w.heap.size + 1 + 1, 0, none⟩) n 32) (.slice (some ⟨w.heap.size, 0, none⟩) n 32) (.int .i64 (n : Int)) (W1.setRow (w.heap.size + 1 + 1) (bs (h.take n ++ List.replicate (32 - n) 0))) rfl rfl HCp.out ?_)
      refine world_cut (fun W => Blk W w.heap.size 24 (bs h) ∧ Blk W (w.heap.size + 1 + 1) 24 (bs (h.take n ++ List.replicate (32 - n) 0)) ∧ (∃ zs, Blk W (w.heap.size + 1) 24 zs ∧ zs.size = 32) ∧ Below w.heap.size w W) ?_ ?_
      · obtain ⟨zs, h3, h4⟩ := H3.out
        exact ⟨H1.out.rowOther _ (by omega), H2.out.row _, ⟨zs, h3.rowOther _ (by omega), h4⟩, below_setRow H4.out _ _ (by omega)⟩
      clear H1 H2 H3 H4 HCp
      rintro W2 ⟨h1, h2, h3, h4⟩
      obtain ⟨x, hx⟩ : ∃ x, x = h.getD n 0 := ⟨_, rfl⟩
      obtain ⟨k, hk⟩ : ∃ k : Nat, k = x.toNat := ⟨_, rfl⟩
      obtain ⟨m, hm⟩ : ∃ m : Nat, m = 255 / 2 ^ p := ⟨_, rfl⟩
      have hm255 : m ≤ 255 := by rw [hm]; exact Nat.div_le_self _ _
      obtain ⟨y, hy⟩ : ∃ y, y = x &&& UInt8.ofNat (255 - m) := ⟨_, rfl⟩
      obtain ⟨ky, hky⟩ : ∃ k : Nat, k = y.toNat := ⟨_, rfl⟩
      have k1 : (k : Int) ≤ 255 := by rw [hk]; exact (u8_bd x).2
      have k2 : (ky : Int) ≤ 255 := by rw [hky]; exact (u8_bd y).2
      have f1 : (255 : Int) / 2 ^ p = (m : Int) := by rw [hm]; simp
      have f2 : bits .andNot .u8 (k : Int) (m : Int) = (ky : Int) := by rw [hk, u8_andNot_bv x m (by omega), ← hy, hky]
      have c1 := h1.cell n
      rw [bs_at _ _ (by rw [HL.out]; exact hn32), ← hx, bv, ← hk] at c1
      have hl2 : (h.take n ++ List.replicate (32 - n) (0 : UInt8)).length = 32 := by rw [List.length_append, List.length_take, List.length_replicate, HL.out]; omega
      have c2 := h2.cell n
      rw [bs_at _ _ (by rw [hl2]; exact hn32)] at c2
      have ff := h2.frozen n
      obtain ⟨v2, hv2⟩ : ∃ v, v = bv ((h.take n ++ List.replicate (32 - n) (0 : UInt8)).getD n 0) := ⟨_, rfl⟩
      rw [← hv2] at c2
      have hset := h2.set n (bv y)
      rw [bs_set, hy, hx, hm, HRes.out, bv, ← hm, ← hx, ← hy, ← hky] at hset
      have hbe : Blk (W2.setCell ⟨w.heap.size + 1 + 1, n, none⟩ (.int .u8 (ky : Int))) (w.heap.size + 1 + 1) 24 (bs (narrowL h B)) := hset
      refine frame_cut 32 rfl rfl ?_
      intro us0 hus
      have f2' : us0 2 = .pointer (some ⟨w.heap.size, 0, none⟩) := hus 2
      have f4' : us0 4 = .pointer (some ⟨w.heap.size + 1, 0, none⟩) := hus 4
      have f5' : us0 5 = .pointer (some ⟨w.heap.size + 1 + 1, 0, none⟩) := hus 5
      have f6' : us0 6 = .int .i64 (n : Int) := hus 6
      have f7' : us0 7 = .int .i64 (p : Int) := hus 7
      clear hus
      have el : ((List.range 32).map us0).toArray = #[us0 0, us0 1, us0 2, us0 3, us0 4, us0 5, us0 6, us0 7, us0 8, us0 9, us0 10, us0 11, us0 12, us0 13, us0 14, us0 15, us0 16, us0 17, us0 18, us0 19, us0 20, us0 21, us0 22, us0 23, us0 24, us0 25, us0 26, us0 27, us0 28, us0 29, us0 30, us0 31] := rfl
      rw [el, f2', f4', f5', f6', f7']
      clear el f2' f4' f5' f6' f7'
      clear hx hk hm hy hky hv2
      refine region_tail 8 (by kernel_rfl) (by kernel_rfl) (fun W => W.cell? ⟨w.heap.size, n, none⟩ = some (.int .u8 (k : Int)) ∧ W.cell? ⟨w.heap.size + 1 + 1, n, none⟩ = some v2 ∧ W.frozen? ⟨w.heap.size + 1 + 1, n, none⟩ = false ∧ Blk (W.setCell ⟨w.heap.size + 1 + 1, n, none⟩ (.int .u8 (ky : Int))) (w.heap.size + 1 + 1) 24 (bs (narrowL h B)) ∧ (∃ zs, Blk W (w.heap.size + 1) 24 zs ∧ zs.size = 32) ∧ Below w.heap.size w W) ?_ ?_
      · exact ⟨by simpa using c1, by simpa using c2, by simpa using ff, hbe, h3, ⟨h4.os, h4.tape, h4.output, h4.size, h4.block⟩⟩
      clear h1 h2 h3 h4 c1 c2 ff hset hbe
      rintro W3 ⟨c1, c2, ff, h2, h3, h4⟩
      have H2 := Lib.hid h2
      have H3 := Lib.hid h3
      have H4 := Lib.hid h4
      clear h2 h3 h4
      simp only [List.take_succ_cons, List.take_zero, List.drop_succ_cons, List.drop_zero]
      repeat (first | go_big_quiet_skip | (go_big_quiet_want; go_big_quiet_op; go_big_quiet_on))
      refine wpQuiet_nil ?_
      go_upto_region 9 with fail
      obtain ⟨cs, hcs⟩ : ∃ cs, cs = bs (narrowL h B) := ⟨_, rfl⟩
      have hcl : cs.size = 32 := by rw [hcs, bs_size, narrowL_length]
      have hone : cs.all (·.oneCell') = true := by rw [hcs]; exact bs_one _
      have hsz : (Tryd.prog.info? 24).map (·.size) = some cs.size := by rw [hcl]; kernel_rfl
      have HSz := Lib.hid hsz
      have HOne := Lib.hid hone
      refine world_cut (fun W => Blk W (w.heap.size + 1 + 1) 24 cs ∧ (∃ zs, Blk W (w.heap.size + 1) 24 zs ∧ zs.size = cs.size) ∧ Below w.heap.size w W) ?_ ?_
      · obtain ⟨zs, h3, h4⟩ := H3.out
        exact ⟨by rw [hcs]; exact H2.out, ⟨zs, h3.other _ _ (by simp), h4.trans hcl.symm⟩, H4.out.setCell (by simp; omega) _⟩
      have HCs := Lib.hid hcs
      clear H2 H3 H4 c1 c2 ff hcs hcl hone hsz
      rintro W4 ⟨h1, ⟨zs, h2, h3⟩, h4⟩
      have H1 := Lib.hid h1
      have H2 := Lib.hid h2
      have H3 := Lib.hid h3
      have H4 := Lib.hid h4
      clear h1 h2 h3 h4
      go_wp2_with (first
        | (refine wpList_load_row rfl 24 (.tmp 5) rfl (w.heap.size + 1 + 1) rfl 24 cs (0, 0) _ H1.out Tryd.underlying24 rfl HSz.out ?_)
        | (refine wpList_store_row rfl 24 (.tmp 4) (.tmp 31) rfl (w.heap.size + 1) cs rfl rfl 24 _ H2.out HSz.out H3.out HOne.out ?_))
      exact bodyPost_ret (v := .agg cs) (results_cell_row rfl _ _ (w.heap.size + 1) 24 cs (0, 0) _ rfl (H2.out.row cs) Tryd.underlying24 rfl HSz.out) rfl ⟨by rw [HCs.out], below_setRow H4.out _ _ (by omega)⟩

def RNarAt (w : World) (h : List UInt8) (b : Int) (s6 : Value) (wr : World) : Prop :=
  ∃ i : Nat, i ≤ 256 ∧ ((i : Int) ≤ b ∨ i = 0) ∧ s6 = .int .i64 i ∧ Blk wr (w.heap.size + 1 + 1) 24 (bs (narrowL h i)) ∧ Blk wr w.heap.size 24 (bs h) ∧ (∃ zs, Blk wr (w.heap.size + 1) 24 zs ∧ zs.size = 32) ∧ Below w.heap.size w wr

set_option maxRecDepth 100000 in
theorem refnarrow_any (h : List UInt8) (b : Int) (w : World) (hl : h.length = 32) (hb : -9223372036854775808 ≤ b ∧ b ≤ 9223372036854775807) :
    Calls Tryd.prog 73 #[.agg (bs h), .int .i64 b] w fun e w' => e = .returned (.agg (bs (narrowL h b))) ∧ Below w.heap.size w w' := by
  obtain ⟨b0, b1⟩ := hb
  have HL := Lib.hid hl
  clear hl
  go_enter Tryd.func73, Tryd.ntmps73
  go_upto_region 2 with fail
  refine world_cut (fun W => Blk W w.heap.size 24 (bs h) ∧ Blk W (w.heap.size + 1 + 1) 24 (bs (List.replicate 32 0)) ∧ (∃ zs, Blk W (w.heap.size + 1) 24 zs ∧ zs.size = 32) ∧ Below w.heap.size w W) ?_ ?_
  · exact ⟨((Blk.new _ _ _).alloc _).alloc _, Blk.newAt _ _ _ _ _ (by simp) (by kernel_rfl), ⟨_, (Blk.newAt _ _ _ _ _ (by simp) rfl).alloc _, rfl⟩, (((Below.refl _ _).alloc (Nat.le_refl _) _).alloc (by simp) _).alloc (by simp; omega) _⟩
  rintro W0 hW0
  have HW0 := Lib.hid hW0
  clear hW0
  go_wp2
  go_loopw [6] (fun s6 wr => RNarAt w h b s6 wr) (fun s6 _ => 256 - (intOf s6).toNat)
  case atStart =>
    obtain ⟨h1, h2, h3, h4⟩ := HW0.out
    exact ⟨0, by omega, .inr rfl, rfl, by rw [narrow_none h _ (by simp)]; exact h2, h1, h3, h4⟩
  case round =>
    obtain ⟨i, hi, hib, rfl, ho, hh, hz, hbel⟩ := hrel
    have hend : ¬ ((i : Int) < 256 ∧ (i : Int) < b) → narrowL h i = narrowL h b := fun hn => by
      by_cases h1 : (256 : Int) ≤ b
      · have hi256 : i = 256 := by omega
        rw [narrow_full h b HL.out h1, narrow_full h i HL.out (by omega)]
      · by_cases h2 : b ≤ 0
        · rw [narrow_none h b h2, narrow_none h i (by omega)]
        · rw [show (i : Int) = b by omega]
    have HEnd := Lib.hid hend
    have HO := Lib.hid ho
    have HH := Lib.hid hh
    have HZ := Lib.hid hz
    have HB := Lib.hid hbel
    have hsz := hbel.size
    by_cases h1 : (i : Int) < 256
    · by_cases h2 : (i : Int) < b
      · obtain ⟨n, hn⟩ : ∃ n, n = i / 8 := ⟨_, rfl⟩
        obtain ⟨r, hr⟩ : ∃ r, r = i % 8 := ⟨_, rfl⟩
        have hn32 : n < 32 := by omega
        have e1 : (i : Int) / 8 = (n : Int) := by omega
        have e2 : (i : Int) % 8 = (r : Int) := by omega
        have hr8 : r < 8 := by omega
        obtain ⟨x, hx⟩ : ∃ x, x = (narrowL h i).getD n 0 := ⟨_, rfl⟩
        obtain ⟨y, hy⟩ : ∃ y, y = h.getD n 0 := ⟨_, rfl⟩
        obtain ⟨m, hm⟩ : ∃ m, m = UInt8.ofNat (128 / 2 ^ r) := ⟨_, rfl⟩
        obtain ⟨z1, hz1⟩ : ∃ z, z = y &&& m := ⟨_, rfl⟩
        obtain ⟨z2, hz2⟩ : ∃ z, z = x ||| z1 := ⟨_, rfl⟩
        have hres : (narrowL h i).set n z2 = narrowL h ((i + 1 : Nat) : Int) := by
          have := narrow_bit h i
          rw [← hn, ← hr, ← hx, ← hy, ← hm, ← hz1, ← hz2] at this
          exact this
        obtain ⟨kx, hkx⟩ : ∃ k : Nat, k = x.toNat := ⟨_, rfl⟩
        obtain ⟨ky, hky⟩ : ∃ k : Nat, k = y.toNat := ⟨_, rfl⟩
        obtain ⟨km, hkm⟩ : ∃ k : Nat, k = m.toNat := ⟨_, rfl⟩
        obtain ⟨k1, hk1⟩ : ∃ k : Nat, k = z1.toNat := ⟨_, rfl⟩
        obtain ⟨k2, hk2⟩ : ∃ k : Nat, k = z2.toNat := ⟨_, rfl⟩
        have q1 : (kx : Int) ≤ 255 := by rw [hkx]; exact (u8_bd x).2
        have q2 : (ky : Int) ≤ 255 := by rw [hky]; exact (u8_bd y).2
        have q3 : (km : Int) ≤ 255 := by rw [hkm]; exact (u8_bd m).2
        have q4 : (k1 : Int) ≤ 255 := by rw [hk1]; exact (u8_bd z1).2
        have q5 : (k2 : Int) ≤ 255 := by rw [hk2]; exact (u8_bd z2).2
        have hmn : m.toNat = 128 / 2 ^ r := by
          rw [hm]
          have : 128 / 2 ^ r ≤ 128 := Nat.div_le_self _ _
          simp
          omega
        have f1 : (128 : Int) / 2 ^ r = (km : Int) := by rw [hkm, hmn]; simp
        have f2 : bits .and .u8 (ky : Int) (km : Int) = (k1 : Int) := by rw [hky, hkm, u8_and_bv, ← hz1, hk1]
        have f3 : bits .or .u8 (kx : Int) (k1 : Int) = (k2 : Int) := by rw [hkx, hk1, u8_or_bv, ← hz2, hk2]
        have c5 := ho.cell n
        rw [bs_at _ _ (by rw [narrowL_length]; exact hn32), ← hx, bv, ← hkx] at c5
        have f5 := ho.frozen n
        have c2 := hh.cell n
        rw [bs_at _ _ (by rw [HL.out]; exact hn32), ← hy, bv, ← hky] at c2
        have hset := ho.set n (bv z2)
        rw [bs_set, hres, bv, ← hk2] at hset
        clear hend ho hh hz hbel hx hy hm hz1 hz2 hkx hky hkm hk1 hk2 hmn hres hib hn hr
        have HSet := Lib.hid hset
        clear hset
        go_wp2_with fail
        refine region_tail 15 (by kernel_rfl) (by kernel_rfl) (fun W => W.cell? ⟨w.heap.size + 1 + 1, n, none⟩ = some (.int .u8 (kx : Int)) ∧ W.frozen? ⟨w.heap.size + 1 + 1, n, none⟩ = false ∧ W.cell? ⟨w.heap.size, n, none⟩ = some (.int .u8 (ky : Int)) ∧ Blk (W.setCell ⟨w.heap.size + 1 + 1, n, none⟩ (.int .u8 (k2 : Int))) (w.heap.size + 1 + 1) 24 (bs (narrowL h ((i + 1 : Nat) : Int))) ∧ Blk W w.heap.size 24 (bs h) ∧ (∃ zs, Blk W (w.heap.size + 1) 24 zs ∧ zs.size = 32) ∧ Below w.heap.size w W) ?_ ?_
        · exact ⟨by simpa using c5, by simpa using f5, by simpa using c2, HSet.out, HH.out, HZ.out, ⟨HB.out.os, HB.out.tape, HB.out.output, HB.out.size, HB.out.block⟩⟩
        clear c5 f5 c2 HSet HO HH HZ HB
        rintro W2 ⟨c5, f5, c2, hset, hh2, hz2, hb2⟩
        have HSet := Lib.hid hset
        have HH := Lib.hid hh2
        have HZ := Lib.hid hz2
        have HB := Lib.hid hb2
        clear hset hh2 hz2 hb2
        simp only [List.take_succ_cons, List.take_zero, List.drop_succ_cons, List.drop_zero]
        repeat (first | go_big_quiet_skip | (go_big_quiet_want; go_big_quiet_op; go_big_quiet_on))
        refine wpQuiet_nil ?_
        go_wp2
        go_roundw
        case rel =>
          refine ⟨i + 1, by omega, .inl (by omega), by go_num, HSet.out, HH.out.other _ _ (by simp; omega), ?_, HB.out.setCell (by simp; omega) _⟩
          obtain ⟨zs, h3, h4⟩ := HZ.out
          exact ⟨zs, h3.other _ _ (by simp), h4⟩
        case measure => simp [intOf]; omega
      · have hd2 : decide ((i : Int) < b) = false := by simpa using h2
        have hnn := HEnd.out (by omega)
        obtain ⟨zs, hz1, hz2⟩ := HZ.out
        obtain ⟨cs, hcs⟩ : ∃ cs, cs = bs (narrowL h b) := ⟨_, rfl⟩
        have hcl : cs.size = 32 := by rw [hcs, bs_size, narrowL_length]
        have hone : cs.all (·.oneCell') = true := by rw [hcs]; exact bs_one _
        have hsz2 : (Tryd.prog.info? 24).map (·.size) = some cs.size := by rw [hcl]; kernel_rfl
        rw [hnn, ← hcs] at ho
        have H1 := Lib.hid ho
        have H2 := Lib.hid hz1
        have H3 := Lib.hid (hz2.trans hcl.symm)
        have HSz := Lib.hid hsz2
        have HOne := Lib.hid hone
        have HCs := Lib.hid hcs
        clear hend ho hh hz hbel hnn hz1 hz2 hcs hcl hone hsz2 hib
        go_wp2_with (first
          | (refine wpList_load_row rfl 24 (.tmp 5) rfl (w.heap.size + 1 + 1) rfl 24 cs (0, 0) _ H1.out Tryd.underlying24 rfl HSz.out ?_)
          | (refine wpList_store_row rfl 24 (.tmp 4) (.tmp 31) rfl (w.heap.size + 1) cs rfl rfl 24 _ H2.out HSz.out H3.out HOne.out ?_))
        exact bodyPost_ret (v := .agg cs) (results_cell_row rfl _ _ (w.heap.size + 1) 24 cs (0, 0) _ rfl (H2.out.row cs) Tryd.underlying24 rfl HSz.out) rfl ⟨by rw [HCs.out], below_setRow HB.out _ _ (by omega)⟩
    · have hd1 : decide ((i : Int) < 256) = false := by simpa using h1
      have hnn := HEnd.out (by omega)
      obtain ⟨zs, hz1, hz2⟩ := HZ.out
      obtain ⟨cs, hcs⟩ : ∃ cs, cs = bs (narrowL h b) := ⟨_, rfl⟩
      have hcl : cs.size = 32 := by rw [hcs, bs_size, narrowL_length]
      have hone : cs.all (·.oneCell') = true := by rw [hcs]; exact bs_one _
      have hsz2 : (Tryd.prog.info? 24).map (·.size) = some cs.size := by rw [hcl]; kernel_rfl
      rw [hnn, ← hcs] at ho
      have H1 := Lib.hid ho
      have H2 := Lib.hid hz1
      have H3 := Lib.hid (hz2.trans hcl.symm)
      have HSz := Lib.hid hsz2
      have HOne := Lib.hid hone
      have HCs := Lib.hid hcs
      clear hend ho hh hz hbel hnn hz1 hz2 hcs hcl hone hsz2 hib
      go_wp2_with (first
        | (refine wpList_load_row rfl 24 (.tmp 5) rfl (w.heap.size + 1 + 1) rfl 24 cs (0, 0) _ H1.out Tryd.underlying24 rfl HSz.out ?_)
        | (refine wpList_store_row rfl 24 (.tmp 4) (.tmp 31) rfl (w.heap.size + 1) cs rfl rfl 24 _ H2.out HSz.out H3.out HOne.out ?_))
      exact bodyPost_ret (v := .agg cs) (results_cell_row rfl _ _ (w.heap.size + 1) 24 cs (0, 0) _ rfl (H2.out.row cs) Tryd.underlying24 rfl HSz.out) rfl ⟨by rw [HCs.out], below_setRow HB.out _ _ (by omega)⟩
end Go.Proofs.YtdhfabjkpffhnaaDoor

