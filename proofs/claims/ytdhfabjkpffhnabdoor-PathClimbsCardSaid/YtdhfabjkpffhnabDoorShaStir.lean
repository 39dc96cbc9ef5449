/- One block worked in: the program's. -/
import Derived.Test.YtdhfabjkpffhnabDoorShaSpread
namespace Go.Proofs.YtdhfabjkpffhnabDoor
set_option maxRecDepth 20000
open Go.RowKit ShaMath

/-- The program's table. -/
def Roots (w : World) : Prop := ∀ j, j < 64 → w.cell? ⟨0, j, none⟩ = some (ru (at0 K j))
theorem Roots.below {w w' : World} {B : Nat} (h : Roots w) (hB : w.heap.size ≤ B) (hb : Below B w w') : Roots w' := fun j hj => by
  have h0 := h j hj
  rw [hb.cell (p := ⟨0, j, none⟩) (Nat.lt_of_lt_of_le (World.block_lt_of_cell? w _ h0) hB)]
  exact h0

/-- The numbers on the way to T1, T2. -/
theorem t1_num (e f g h k w : BitVec 32) : ∃ r6 r11 r25 x1 x2 y1 ef ne ng c y2 y3 t : BitVec 32, r6 = ror e 6 ∧ r11 = ror e 11 ∧ r25 = ror e 25 ∧
    bits .xor .u32 (rv r6) (rv r11) = rv x1 ∧ bits .xor .u32 (rv x1) (rv r25) = rv x2 ∧ (rv h + rv x2) % 4294967296 = rv y1 ∧ IntKind.u32.wrap (rv h + rv x2) = rv y1 ∧
    bits .and .u32 (rv e) (rv f) = rv ef ∧ bits .xor .u32 4294967295 (rv e) = rv ne ∧ bits .xor .u32 (if IntKind.u32.signed = true then -1 else IntKind.u32.max) (rv e) = rv ne ∧ bits .and .u32 (rv ne) (rv g) = rv ng ∧ bits .xor .u32 (rv ef) (rv ng) = rv c ∧
    (rv y1 + rv c) % 4294967296 = rv y2 ∧ IntKind.u32.wrap (rv y1 + rv c) = rv y2 ∧ (rv y2 + rv k) % 4294967296 = rv y3 ∧ IntKind.u32.wrap (rv y2 + rv k) = rv y3 ∧
    (rv y3 + rv w) % 4294967296 = rv t ∧ IntKind.u32.wrap (rv y3 + rv w) = rv t ∧ t = h + S1 e + ch e f g + k + w := by
  have hn : bits .xor .u32 4294967295 (rv e) = rv (~~~ e) := by
    have := rv_xor (~~~ 0#32) e
    rw [show rv (~~~ 0#32) = 4294967295 by decide] at this
    rw [this]
    congr 1
  exact ⟨_, _, _, _, _, _, _, _, _, _, _, _, _, rfl, rfl, rfl, rv_xor _ _, rv_xor _ _, rv_add_mod _ _, rv_add _ _, rv_and _ _, hn, hn, rv_and _ _, rv_xor _ _, rv_add_mod _ _, rv_add _ _, rv_add_mod _ _, rv_add _ _, rv_add_mod _ _, rv_add _ _, rfl⟩

theorem t2_num (a b c : BitVec 32) : ∃ r2 r13 r22 x1 x2 ab ac m1 bc m t : BitVec 32, r2 = ror a 2 ∧ r13 = ror a 13 ∧ r22 = ror a 22 ∧
    bits .xor .u32 (rv r2) (rv r13) = rv x1 ∧ bits .xor .u32 (rv x1) (rv r22) = rv x2 ∧ bits .and .u32 (rv a) (rv b) = rv ab ∧ bits .and .u32 (rv a) (rv c) = rv ac ∧ bits .xor .u32 (rv ab) (rv ac) = rv m1 ∧
    bits .and .u32 (rv b) (rv c) = rv bc ∧ bits .xor .u32 (rv m1) (rv bc) = rv m ∧ (rv x2 + rv m) % 4294967296 = rv t ∧ IntKind.u32.wrap (rv x2 + rv m) = rv t ∧ t = S0 a + maj a b c := by
  exact ⟨_, _, _, _, _, _, _, _, _, _, _, rfl, rfl, rfl, rv_xor _ _, rv_xor _ _, rv_and _ _, rv_and _ _, rv_xor _ _, rv_and _ _, rv_xor _ _, rv_add_mod _ _, rv_add _ _, rfl⟩

def oct (a b c d e f g h : Int) : Array Value := #[.int .u32 a, .int .u32 b, .int .u32 c, .int .u32 d, .int .u32 e, .int .u32 f, .int .u32 g, .int .u32 h]
theorem oct_us (r : Regs) : oct (rv r.a) (rv r.b) (rv r.c) (rv r.d) (rv r.e) (rv r.f) (rv r.g) (rv r.h) = us r.list := rfl
theorem oct_size (a b c d e f g h : Int) : (oct a b c d e f g h).size = 8 := rfl

def StirAt (w : World) (g : Nat) (r : Regs) (b : List UInt8) (s6 s7 s8 s9 s10 s11 s12 s13 s35 : Value) (wr : World) : Prop :=
  ∃ (n : Nat) (q : Regs), n ≤ 64 ∧ q = rounds (words b) r n ∧ s35 = .int .i64 n ∧ s6 = .int .u32 (rv q.a) ∧ s7 = .int .u32 (rv q.b) ∧ s8 = .int .u32 (rv q.c) ∧ s9 = .int .u32 (rv q.d) ∧ s10 = .int .u32 (rv q.e) ∧ s11 = .int .u32 (rv q.f) ∧ s12 = .int .u32 (rv q.g) ∧ s13 = .int .u32 (rv q.h) ∧
    Blk wr g 76 (us (words b)) ∧ Blk wr w.heap.size 63 (us r.list) ∧ (∃ zs, Blk wr (w.heap.size + 1 + 1) 63 zs ∧ zs.size = 8) ∧ Roots wr ∧ Below w.heap.size w wr

set_option maxRecDepth 100000 in
theorem stir_any (r : Regs) (b : List UInt8) (w : World) (hb : b.length = 64) (ht : Roots w) :
    Calls Tryd.prog 58 #[.agg (us r.list), .agg (bs b)] w fun e w' => e = .returned (.agg (us (comp r b).list)) ∧ Below w.heap.size w w' := by
  have HB := Lib.hid hb
  have HT := Lib.hid ht
  have hsz : (Tryd.prog.info? 64).map (·.size) = some (bs b).size := by rw [bs_size, hb]; kernel_rfl
  have HS := Lib.hid hsz
  clear hb ht hsz
  go_enter Tryd.func58, Tryd.ntmps58
  go_wp2_with (refine wpList_load_row rfl 64 (.tmp 3) rfl (w.heap.size + 1) rfl 64 (bs b) (0, 0) _ ((Blk.newAt _ _ _ _ _ (by simp) rfl).alloc _) Tryd.underlying64 rfl HS.out ?_)
  refine (spread_any b _ HB.out).mono ?_
  rintro e w1 ⟨rfl, hb1⟩
  have hs1 : w.heap.size + 1 + 1 + 1 ≤ w1.heap.size := by have := hb1.size; simpa using this
  have f0 : Blk w1 w.heap.size 63 (us r.list) := (((Blk.newAt _ _ _ _ _ rfl rfl).alloc _).alloc _).keep hb1
  have f2 : ∃ zs, Blk w1 (w.heap.size + 1 + 1) 63 zs ∧ zs.size = 8 := ⟨_, (Blk.newAt _ _ _ _ _ (by simp) rfl).keep hb1, rfl⟩
  have f3 : Below w.heap.size w w1 := ((((Below.refl w.heap.size w).alloc (Nat.le_refl _) (.cells (us r.list) 63)).alloc (by simp) (.cells (bs b) 64)).alloc (by simp; omega) _).trans (hb1.mono (by simp; omega))
  have F0 := Lib.hid f0
  have F2 := Lib.hid f2
  have F3 := Lib.hid f3
  clear hb1 f0 f2 f3
  obtain ⟨cs, hcs⟩ : ∃ cs, cs = us (words b) := ⟨_, rfl⟩
  have hl : cs.size = 64 := by rw [hcs, us_size, words_length]
  have hone : cs.all (·.oneCell') = true := by rw [hcs]; exact us_one _
  have hsz : (Tryd.prog.info? 76).map (·.size) = some cs.size := by rw [hl]; kernel_rfl
  rw [← hcs]
  have HCS := Lib.hid hcs
  have HL := Lib.hid hl
  have HONE := Lib.hid hone
  have HSZ := Lib.hid hsz
  clear hcs hl hone hsz
  go_upto_region 2 with (refine wpList_store_row rfl 76 (.tmp 5) (.tmp 18) rfl w1.heap.size cs rfl rfl _ _ (heap_alloc_new w1 _) HSZ.out (by rw [HL.out]; rfl) HONE.out ?_)
  refine world_cut (fun W => Blk W w1.heap.size 76 cs ∧ Blk W w.heap.size 63 (us r.list) ∧ (∃ zs, Blk W (w.heap.size + 1 + 1) 63 zs ∧ zs.size = 8) ∧ Below w.heap.size w W) ?_ ?_
  · refine ⟨Blk.row (heap_alloc_new w1 _) cs, (F0.out.alloc _).rowOther _ (by omega), ?_, below_setRow (F3.out.alloc (by omega) _) _ _ (by omega)⟩
    obtain ⟨zs, h1, h2⟩ := F2.out
    exact ⟨zs, (h1.alloc _).rowOther _ (by omega), h2⟩
  rintro W ⟨h1, h2, h3, h4⟩
  have c0 := h2.cell 0
  have c1 := h2.cell 1
  have c2 := h2.cell 2
  have c3 := h2.cell 3
  have c4 := h2.cell 4
  have c5 := h2.cell 5
  have c6 := h2.cell 6
  have c7 := h2.cell 7
  rw [us_at _ _ (by simp [Regs.list]), ru] at c0 c1 c2 c3 c4 c5 c6 c7
  simp only [at0, Regs.list, List.getD_cons_zero, List.getD_cons_succ] at c0 c1 c2 c3 c4 c5 c6 c7
  have H1 := Lib.hid h1
  have H2 := Lib.hid h2
  have H3 := Lib.hid h3
  have H4 := Lib.hid h4
  clear h1 h2 h3 h4
  go_quiet (fail)
  go_wp2
  clear c0 c1 c2 c3 c4 c5 c6 c7
  go_loopw [6, 7, 8, 9, 10, 11, 12, 13, 35] (fun s6 s7 s8 s9 s10 s11 s12 s13 s35 wr => StirAt w w1.heap.size r b s6 s7 s8 s9 s10 s11 s12 s13 s35 wr) (fun _ _ _ _ _ _ _ _ s35 _ => 64 - (intOf s35).toNat)
  case atStart =>
    refine ⟨0, r, by omega, rfl, rfl, rfl, rfl, rfl, rfl, rfl, rfl, rfl, rfl, by rw [← HCS.out]; exact H1.out, H2.out, H3.out, HT.out.below (Nat.le_refl _) ?_, ?_⟩
    · exact ⟨H4.out.os, H4.out.tape, H4.out.output, H4.out.size, H4.out.block⟩
    · exact ⟨H4.out.os, H4.out.tape, H4.out.output, H4.out.size, H4.out.block⟩
  case round =>
    obtain ⟨n, q, hn, hq, rfl, rfl, rfl, rfl, rfl, rfl, rfl, rfl, rfl, hw, hr, hz, hro, hbel⟩ := hrel
    by_cases hlt : n < 64
    · obtain ⟨qa, qb, qc, qd, qe, qf, qg, qh⟩ := q
      dsimp only
      have hK := hro n hlt
      have hc := hw.cell n
      rw [us_at _ _ (by rw [words_length]; exact hlt)] at hc
      rw [ru] at hK hc
      obtain ⟨kk, hkk⟩ : ∃ x, x = at0 K n := ⟨_, rfl⟩
      obtain ⟨ww, hww⟩ : ∃ x, x = at0 (words b) n := ⟨_, rfl⟩
      rw [← hkk] at hK
      rw [← hww] at hc
      obtain ⟨r6, r11, r25, x1, x2, y1, ef, ne, ng, cc, y2, y3, t1, h6, h11, h25, a1, a2, a3, a3', a4, a5, a5', a6, a7, a8, a8', a9, a9', a10, a10', ht1⟩ := t1_num qe qf qg qh kk ww
      obtain ⟨r2, r13, r22, z1, z2, ab, ac, m1, bc, mm, t2, h2, h13, h22, b1, b2, b3, b4, b5, b6, b7, b8, b8', ht2⟩ := t2_num qa qb qc
      have q6 : Hid (∀ N, Calls Tryd.prog 65 #[.int .u32 (rv qe), .int .u64 6] (wr.drewN N) fun e w' => e = .returned (.int .u32 (rv r6)) ∧ ∃ m, w' = wr.drewN m) := Lib.hid fun N => by rw [h6]; exact (right_any qe 6 _ (by omega) (by omega)).mono fun e w' h => ⟨h.1, N, h.2.symm⟩
      have q11 : Hid (∀ N, Calls Tryd.prog 65 #[.int .u32 (rv qe), .int .u64 11] (wr.drewN N) fun e w' => e = .returned (.int .u32 (rv r11)) ∧ ∃ m, w' = wr.drewN m) := Lib.hid fun N => by rw [h11]; exact (right_any qe 11 _ (by omega) (by omega)).mono fun e w' h => ⟨h.1, N, h.2.symm⟩
      have q25 : Hid (∀ N, Calls Tryd.prog 65 #[.int .u32 (rv qe), .int .u64 25] (wr.drewN N) fun e w' => e = .returned (.int .u32 (rv r25)) ∧ ∃ m, w' = wr.drewN m) := Lib.hid fun N => by rw [h25]; exact (right_any qe 25 _ (by omega) (by omega)).mono fun e w' h => ⟨h.1, N, h.2.symm⟩
      have q2 : Hid (∀ W, Calls Tryd.prog 65 #[.int .u32 (rv qa), .int .u64 2] W fun e w' => e = .returned (.int .u32 (rv r2)) ∧ W = w') := Lib.hid fun W => by rw [h2]; exact right_any qa 2 W (by omega) (by omega)
      have q13 : Hid (∀ W, Calls Tryd.prog 65 #[.int .u32 (rv qa), .int .u64 13] W fun e w' => e = .returned (.int .u32 (rv r13)) ∧ W = w') := Lib.hid fun W => by rw [h13]; exact right_any qa 13 W (by omega) (by omega)
      have q22 : Hid (∀ W, Calls Tryd.prog 65 #[.int .u32 (rv qa), .int .u64 22] W fun e w' => e = .returned (.int .u32 (rv r22)) ∧ W = w') := Lib.hid fun W => by rw [h22]; exact right_any qa 22 W (by omega) (by omega)
      obtain ⟨da, hda⟩ : ∃ x, x = qd + t1 := ⟨_, rfl⟩
      obtain ⟨aa, haa⟩ : ∃ x, x = t1 + t2 := ⟨_, rfl⟩
      have d1 : (rv qd + rv t1) % 4294967296 = rv da := by rw [rv_add_mod, hda]
      have d2 : (rv t1 + rv t2) % 4294967296 = rv aa := by rw [rv_add_mod, haa]
      have hst : Hid ((⟨aa, qa, qb, qc, da, qe, qf, qg⟩ : Regs) = rounds (words b) r (n + 1)) := Lib.hid (by rw [rounds, ← hq, haa, hda, ht1, ht2, hkk, hww]; rfl)
      have HW := Lib.hid hw
      have HR := Lib.hid hr
      have HZ := Lib.hid hz
      have HRo := Lib.hid hro
      have HBel := Lib.hid hbel
      clear hq hw hr hz hro hbel hkk hww h6 h11 h25 h2 h13 h22 ht1 ht2 hda haa
      go_wp2_with fail
      go_quiet (first | with_reducible exact q6.out _ | with_reducible exact q11.out _ | with_reducible exact q25.out _)
      go_wp2_with ((with_reducible first | refine (q2.out _).mono ?_ | refine (q13.out _).mono ?_ | refine (q22.out _).mono ?_); rintro e w' ⟨rfl, rfl⟩)
      go_roundw
      case rel =>
        have hbe := HBel.out
        have hbe2 : Below w.heap.size w (wr.drewN nq) := ⟨hbe.os, hbe.tape, hbe.output, hbe.size, hbe.block⟩
        exact ⟨n + 1, _, by omega, hst.out, by go_num, by first | rfl | rw [d2], rfl, rfl, rfl, by first | rfl | rw [d1], rfl, rfl, rfl, HW.out, HR.out, HZ.out, fun j hj => HRo.out j hj, hbe2⟩
      case measure => simp [intOf]; omega
    · have h64 : n = 64 := by omega
      rw [h64] at hq
      obtain ⟨qa, qb, qc, qd, qe, qf, qg, qh⟩ := q
      dsimp only
      have c0 := hr.cell 0
      have c1 := hr.cell 1
      have c2 := hr.cell 2
      have c3 := hr.cell 3
      have c4 := hr.cell 4
      have c5 := hr.cell 5
      have c6 := hr.cell 6
      have c7 := hr.cell 7
      rw [us_at _ _ (by simp [Regs.list]), ru] at c0 c1 c2 c3 c4 c5 c6 c7
      simp only [at0, Regs.list, List.getD_cons_zero, List.getD_cons_succ] at c0 c1 c2 c3 c4 c5 c6 c7
      obtain ⟨ra, rb, rc, rd, re, rf, rg, rh⟩ := r
      dsimp only at c0 c1 c2 c3 c4 c5 c6 c7
      obtain ⟨va, hva⟩ : ∃ x, x = ra + qa := ⟨_, rfl⟩
      obtain ⟨vb, hvb⟩ : ∃ x, x = rb + qb := ⟨_, rfl⟩
      obtain ⟨vc, hvc⟩ : ∃ x, x = rc + qc := ⟨_, rfl⟩
      obtain ⟨vd, hvd⟩ : ∃ x, x = rd + qd := ⟨_, rfl⟩
      obtain ⟨ve, hve⟩ : ∃ x, x = re + qe := ⟨_, rfl⟩
      obtain ⟨vf, hvf⟩ : ∃ x, x = rf + qf := ⟨_, rfl⟩
      obtain ⟨vg, hvg⟩ : ∃ x, x = rg + qg := ⟨_, rfl⟩
      obtain ⟨vh, hvh⟩ : ∃ x, x = rh + qh := ⟨_, rfl⟩
      have ea : (rv ra + rv qa) % 4294967296 = rv va := by rw [rv_add_mod, hva]
      have eb : (rv rb + rv qb) % 4294967296 = rv vb := by rw [rv_add_mod, hvb]
      have ec : (rv rc + rv qc) % 4294967296 = rv vc := by rw [rv_add_mod, hvc]
      have ed : (rv rd + rv qd) % 4294967296 = rv vd := by rw [rv_add_mod, hvd]
      have ee : (rv re + rv qe) % 4294967296 = rv ve := by rw [rv_add_mod, hve]
      have ef : (rv rf + rv qf) % 4294967296 = rv vf := by rw [rv_add_mod, hvf]
      have eg : (rv rg + rv qg) % 4294967296 = rv vg := by rw [rv_add_mod, hvg]
      have eh : (rv rh + rv qh) % 4294967296 = rv vh := by rw [rv_add_mod, hvh]
      have hend : Hid ((⟨va, vb, vc, vd, ve, vf, vg, vh⟩ : Regs) = comp ⟨ra, rb, rc, rd, re, rf, rg, rh⟩ b) := Lib.hid (by rw [comp, ← hq, hva, hvb, hvc, hvd, hve, hvf, hvg, hvh]; rfl)
      obtain ⟨zs, hz1, hz2⟩ := hz
      have HZ := Lib.hid hz1
      have HZ2 := Lib.hid hz2
      have HBel := Lib.hid hbel
      clear hq hw hr hz1 hz2 hro hbel hva hvb hvc hvd hve hvf hvg hvh h64
      have E := Lib.hid (And.intro ea (And.intro eb (And.intro ec (And.intro ed (And.intro ee (And.intro ef (And.intro eg eh)))))))
      clear ea eb ec ed ee ef eg eh
      go_wp2_with (refine wpList_store_row rfl 63 (.tmp 4) (.tmp 130) rfl (w.heap.size + 1 + 1) _ rfl rfl _ _ HZ.out ?_ ?_ ?_ ?_)
      · show Option.map _ _ = some 8
        kernel_rfl
      · rw [HZ2.out]; rfl
      · simp [Value.oneCell']
      · refine bodyPost_ret (v := .agg (oct ((rv ra + rv qa) % 4294967296) ((rv rb + rv qb) % 4294967296) ((rv rc + rv qc) % 4294967296) ((rv rd + rv qd) % 4294967296) ((rv re + rv qe) % 4294967296) ((rv rf + rv qf) % 4294967296) ((rv rg + rv qg) % 4294967296) ((rv rh + rv qh) % 4294967296))) (results_cell_row rfl _ _ (w.heap.size + 1 + 1) _ (oct ((rv ra + rv qa) % 4294967296) ((rv rb + rv qb) % 4294967296) ((rv rc + rv qc) % 4294967296) ((rv rd + rv qd) % 4294967296) ((rv re + rv qe) % 4294967296) ((rv rf + rv qf) % 4294967296) ((rv rg + rv qg) % 4294967296) ((rv rh + rv qh) % 4294967296)) _ _ rfl (HZ.out.row _) Tryd.underlying63 rfl (by rw [oct_size]; kernel_rfl)) rfl ⟨?_, below_setRow HBel.out _ _ (by omega)⟩
        obtain ⟨ea, eb, ec, ed, ee, ef, eg, eh⟩ := E.out
        rw [← hend.out, ← oct_us, ea, eb, ec, ed, ee, ef, eg, eh]
end Go.Proofs.YtdhfabjkpffhnabDoor
