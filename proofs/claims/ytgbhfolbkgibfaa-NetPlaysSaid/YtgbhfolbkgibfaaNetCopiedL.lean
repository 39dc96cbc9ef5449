/- Layer 19's law: copied. -/
import Derived.Test.YtgbhfolbkgibfaaLBI
import Derived.Test.YtgbhfolbkgibfaaLAS
import Derived.Test.YtgbhfolbkgibfaaLAI
namespace Go.Proofs.Ytgbhfolbkgibfaa
set_option maxRecDepth 20000
open Go.RowKit BinMath CmdMath Reg
open MsgMath (Mg)

set_option maxHeartbeats 8000000 in
set_option maxRecDepth 100000 in
theorem netCopied_any (m : Mg) (ve vm vg : Value) (us : List EE) (w : World) (hm : MHas w m ve vm vg us) (hu8 : us.length ≤ 1759218604390) (hm8 : m.m.length ≤ 17592186043904) (he8 : ∀ u ∈ us, u.e.m.length ≤ 17592186043904) :
    Calls Try.prog 9 #[.agg (mgC m ve vm vg)] w fun r w' => ∃ ve' vm' vg' us', r = .returned (.agg (mgC m ve' vm' vg')) ∧ MNew w' w.heap.size m ve' vm' vg' us' ∧ Below w.heap.size w w' := by
  obtain ⟨a, ca, rfl⟩ := hm.els.form
  obtain ⟨b, cb, rfl⟩ := hm.ms.shape
  obtain ⟨d, cd, rfl⟩ := hm.gs.shape
  obtain ⟨k, f, o, t, i, l, c, s, y, e, ms, x⟩ := m
  obtain ⟨n, hn⟩ : ∃ n, n = us.length := ⟨_, rfl⟩
  obtain ⟨nb, hnb⟩ : ∃ n, n = ms.length := ⟨_, rfl⟩
  obtain ⟨nd, hnd⟩ : ∃ n, n = x.length := ⟨_, rfl⟩
  simp only at hm hm8 ⊢
  rw [← hn, ← hnb, ← hnd] at hm
  rw [← hn, ← hnb, ← hnd]
  have HM := Lib.hid hm
  have HN := Lib.hid hn
  have HNB := Lib.hid hnb
  have HND := Lib.hid hnd
  have HE8 := Lib.hid he8
  have hn8 : n ≤ 1759218604390 := by omega
  have b1 : Below w.heap.size w ((w.alloc (.cells #[.int .i64 k, .int .u64 (f : Int), .int .u64 (o : Int), .int .u64 (t : Int), .int .u64 (i : Int), .int .u64 (l : Int), .int .u64 (c : Int), .int .u64 (s : Int), .bool y, .slice a n ca, .slice b nb cb, .slice d nd cd] 36)).alloc (.cells zeroM 36)) := ((Below.refl _ _).alloc (Nat.le_refl _) _).alloc (by simp) _
  have HStart := Lib.hid (show Below w.heap.size w ((w.alloc (.cells #[.int .i64 k, .int .u64 (f : Int), .int .u64 (o : Int), .int .u64 (t : Int), .int .u64 (i : Int), .int .u64 (l : Int), .int .u64 (c : Int), .int .u64 (s : Int), .bool y, .slice a n ca, .slice b nb cb, .slice d nd cd] 36)).alloc (.cells zeroM 36)) ∧ Blk ((w.alloc (.cells #[.int .i64 k, .int .u64 (f : Int), .int .u64 (o : Int), .int .u64 (t : Int), .int .u64 (i : Int), .int .u64 (l : Int), .int .u64 (c : Int), .int .u64 (s : Int), .bool y, .slice a n ca, .slice b nb cb, .slice d nd cd] 36)).alloc (.cells zeroM 36)) w.heap.size 36 #[.int .i64 k, .int .u64 (f : Int), .int .u64 (o : Int), .int .u64 (t : Int), .int .u64 (i : Int), .int .u64 (l : Int), .int .u64 (c : Int), .int .u64 (s : Int), .bool y, .slice a n ca, .slice b nb cb, .slice d nd cd] ∧ Blk ((w.alloc (.cells #[.int .i64 k, .int .u64 (f : Int), .int .u64 (o : Int), .int .u64 (t : Int), .int .u64 (i : Int), .int .u64 (l : Int), .int .u64 (c : Int), .int .u64 (s : Int), .bool y, .slice a n ca, .slice b nb cb, .slice d nd cd] 36)).alloc (.cells zeroM 36)) (w.heap.size + 1) 36 zeroM from ⟨b1, (Blk.new w _ _).alloc _, Blk.newAt _ _ _ _ _ (by simp) rfl⟩)
  clear hm hn hnb hnd hu8 he8 b1
  simp only [mgC]
  go_enter Try.func9, Try.ntmps9
  go_upto_region 1 with fail
  refine world_cut (fun W => Below w.heap.size w W ∧ Blk W w.heap.size 36 #[.int .i64 k, .int .u64 (f : Int), .int .u64 (o : Int), .int .u64 (t : Int), .int .u64 (i : Int), .int .u64 (l : Int), .int .u64 (c : Int), .int .u64 (s : Int), .bool y, .slice a n ca, .slice b nb cb, .slice d nd cd] ∧ Blk W (w.heap.size + 1) 36 zeroM) HStart.out ?_
  clear HStart
  rintro w1 ⟨hb1, k1, k2⟩
  obtain ⟨X, hX⟩ : ∃ X, X = w.heap.size := ⟨_, rfl⟩
  rw [← hX] at k1 k2 ⊢
  have HXw := Lib.hid hX
  have hl1 := (Below.refl w1.heap.size w1).alloc (Nat.le_refl _) (.cells #[] 62)
  have A1 := Lib.hid (append_ent_lit (B := w1.heap.size) (Nat.le_refl _) (heap_alloc_new w1 (.cells #[] 62)) ((HM.out.els.below (Nat.le_refl _) hb1).below (Nat.le_refl _) hl1) (by have := HN.out; omega))
  have c9 : (w1.alloc (.cells #[] 62)).cell? ⟨X, 9, none⟩ = some (.slice a n ca) := by rw [(k1.alloc _).cell]; rfl
  have hx1 : X + 1 < w1.heap.size := k2.lt
  have K1 := Lib.hid (k1.alloc (.cells #[] 62))
  have K2 := Lib.hid (k2.alloc (.cells #[] 62))
  have HB1 := Lib.hid (hb1.trans (hl1.mono hb1.size))
  have HB0 := Lib.hid hb1
  clear hb1 k1 k2 hl1 hX
  go_upto_region 2 with (first
    | (at_builtin; refine wpList_append_by rfl _ _ 32 rfl _ _ rfl rfl _ A1.out ?_; rintro v2 w2 ⟨hr, ho⟩; obtain ⟨ea, ec, rfl⟩ : ∃ p q, v2 = .slice p n q := (by obtain ⟨p, q, e⟩ := hr.form; exact ⟨p, q, by rw [e, HN.out]⟩); (have HR2 := Lib.hid hr); (have K3 := Lib.hid (K1.out.onlyS ho (by omega))); (have K4 := Lib.hid (K2.out.onlyS ho (by omega))); (have HB2 := Lib.hid (HB1.out.trans (ho.below (fun q hq e => by have := HB0.out.size; omega) HB1.out.size))); clear hr ho c9)
    | (refine wpList_store_fld rfl 32 (.tmp 8) (.tmp 7) rfl X 9 (.slice ea n ec) rfl rfl 36 #[.int .i64 k, .int .u64 (f : Int), .int .u64 (o : Int), .int .u64 (t : Int), .int .u64 (i : Int), .int .u64 (l : Int), .int .u64 (c : Int), .int .u64 (s : Int), .bool y, .slice a n ca, .slice b nb cb, .slice d nd cd] #[.int .i64 k, .int .u64 (f : Int), .int .u64 (o : Int), .int .u64 (t : Int), .int .u64 (i : Int), .int .u64 (l : Int), .int .u64 (c : Int), .int .u64 (s : Int), .bool y, .slice ea n ec, .slice b nb cb, .slice d nd cd] K3.out (by simp) rfl (by kernel_rfl) rfl ?_; intro w3 hb ho; (have HX := Lib.hid hb); (have HR := Lib.hid (K4.out.onlyS ho (by omega))); (have HR3 := Lib.hid (HR2.out.msg K3.out ho)); (have HB3 := Lib.hid (HB2.out.trans (ho.below (fun q hq e => by have := HXw.out; omega) HB2.out.size))); clear hb ho))
  obtain ⟨B, hB⟩ : ∃ B, B = w1.heap.size := ⟨_, rfl⟩
  have hXB : X + 1 < B := by omega
  rw [← hB] at HR3
  obtain ⟨E, hE⟩ : ∃ E, E = us.map EE.e := ⟨_, rfl⟩
  have hHas : ∀ u ∈ us, CE w w3 B u := fun u hu => by
    have h := HM.out.all u hu
    exact ⟨h.ok, .inl h.d, .inl h.m, h.dl, HE8.out u hu⟩
  have HIn0 := Lib.hid (show CIn w B ea n ec E us w3 from ⟨HR3.out, HN.out.symm, hE.symm, hHas⟩)
  have HEE := Lib.hid hE
  have HBw := Lib.hid (show w.heap.size ≤ B by rw [hB]; exact HB0.out.size)
  clear hHas hE hB HR2 HB2 K3 K4 HR3 A1 K1 K2 HB1 HB0 hx1
  go_wp2
  go_loopw [3] (fun s3 wr => ∃ (j : Nat) (vs : List EE), s3 = .int .i64 (j : Int) ∧ j ≤ n ∧ CIn w B ea n ec E vs wr ∧ Below w.heap.size w wr ∧ Blk wr X 36 #[.int .i64 k, .int .u64 (f : Int), .int .u64 (o : Int), .int .u64 (t : Int), .int .u64 (i : Int), .int .u64 (l : Int), .int .u64 (c : Int), .int .u64 (s : Int), .bool y, .slice ea n ec, .slice b nb cb, .slice d nd cd] ∧ Blk wr (X + 1) 36 zeroM ∧ ∀ i u, i < j → vs[i]? = some u → EFar w.heap.size u) (fun s3 _ => n - (intOf s3).toNat)
  case atStart => exact ⟨0, us, rfl, Nat.zero_le _, HIn0.out, HB3.out, HX.out, HR.out, fun i u h => absurd h (Nat.not_lt_zero i)⟩
  case round =>
    obtain ⟨j, vs, rfl, hj, hin, hbl, hx, hr, hfar⟩ := hrel
    have HFar := Lib.hid hfar
    clear HIn0 HB3 HX HR
    have c9 : wr.cell? ⟨X, 9, none⟩ = some (.slice ea n ec) := by rw [hx.cell]; rfl
    have c10 : wr.cell? ⟨X, 10, none⟩ = some (.slice b nb cb) := by rw [hx.cell]; rfl
    have HIn := Lib.hid hin
    have HBl := Lib.hid hbl
    have HX := Lib.hid hx
    have HR := Lib.hid hr
    clear hin hbl hx hr hfar
    by_cases hlt : j < n
    · obtain ⟨u, hu⟩ : ∃ u, vs[j]? = some u := ⟨vs[j]'(by have := HIn.out.len; omega), List.getElem?_eq_getElem _⟩
      obtain ⟨g, cur, rfl, hgB, hblk, hec, hcs, htk⟩ := row_blk HIn.out.row (HIn.out.len.symm) (by omega)
      have HU := Lib.hid hu
      have HBlk := Lib.hid hblk
      have HCe := Lib.hid (HIn.out.ce u (List.mem_of_getElem? hu))
      have HHas := Lib.hid (HCe.out.has HBl.out)
      have HMl := Lib.hid HCe.out.ml
      have HGl := Lib.hid (show g < wr.heap.size ∧ w.heap.size ≤ g from ⟨hblk.lt, Nat.le_trans HBw.out hgB⟩)
      have HXg := Lib.hid (show X + 1 < g by omega)
      have HXl := Lib.hid (show X < wr.heap.size from HX.out.lt)
      have HC9 := Lib.hid c9
      have HIX := Lib.hid (fun W => show (Instr.indexAt 32 (.slice (some ⟨g, 0, none⟩) n ec) (.int .i64 (j : Int))).run Try.prog W = .ok (.pointer (some ⟨g, j * 6, none⟩)) W by
        have h := ix_ent W ⟨g, 0, none⟩ n ec j hlt
        rwa [addr_add, Nat.zero_add] at h)
      have hcell : ∀ q v, u.cells[q]? = some v → wr.cell? ⟨g, j * 6 + q, none⟩ = some v := fun q v hq => by
        obtain ⟨ad, e1, h⟩ := HIn.out.row.els.load hu
        cases e1
        have h2 := h q v hq
        rwa [addr_add, addr_add, Nat.zero_add] at h2
      have HCell4 := Lib.hid (hcell 4 (.slice u.a u.e.d.length u.ca) rfl)
      have HCell5 := Lib.hid (hcell 5 (.slice u.b u.e.m.length u.cb) rfl)
      have HLt4 := Lib.hid (show j * 6 + 4 < cur.size by rw [hcs]; omega)
      have HLt5 := Lib.hid (show j * 6 + 5 < cur.size by rw [hcs]; omega)
      have hBW : B ≤ wr.heap.size := Nat.le_trans hgB (Nat.le_of_lt hblk.lt)
      have HCur := Lib.hid hcs
      have HgB := Lib.hid hgB
      clear hu hblk hcs htk hcell c10 hec hgB
      go_upto_region 5 with fail
      clear c9
      have hG : ∀ W W' : World, Below wr.heap.size wr W → Below W.heap.size W W' → Below wr.heap.size wr W' := fun W W' hW hb => hW.trans (hb.mono hW.size)
      refine region_tails_by 13 [(16, .is (.pointer (some ⟨X, 9, none⟩))), (17, .is (.slice (some ⟨g, 0, none⟩) n ec)), (18, .is (.int .i64 (j : Int))), (19, .lit wr.heap.size), (20, .is (.pointer (some ⟨X, 9, none⟩))), (21, .is (.slice (some ⟨g, 0, none⟩) n ec)), (22, .is (.int .i64 (j : Int))), (23, .is (.pointer (some ⟨g, j * 6, none⟩))), (24, .is (.pointer (some ⟨g, j * 6 + 4, none⟩))), (25, .is (.slice u.a u.e.d.length u.ca)), (26, .row wr.heap.size u.e.d), (27, .is (.pointer (some ⟨g, j * 6, none⟩))), (28, .is (.pointer (some ⟨g, j * 6 + 4, none⟩)))] [0, 1, 2, 3, 4, 5, 6, 7, 8, 42, 43, 44, 45, 46, 47, 48, 49, 50, 51, 52, 26, 28] (fun W => Below wr.heap.size wr W) (by kernel_rfl) (by kernel_rfl) (by kernel_rfl) (by kernel_rfl) (by kernel_rfl) (by decide) (by kernel_rfl) (by kernel_rfl) ((Below.refl _ _).drew) ?_ ?_
      · refine ⟨?c0, ?c1, ?c2, ?c3, ?c4, ?c5, ?c6, ?c7, ?c8, ?c9, ?c10, ?c11, ?c12, trivial⟩
        case c0 => exact ask_field (guard_none rfl) _ (.tmp 1) 9 (.pointer (some ⟨X, 0, none⟩)) (.pointer (some ⟨X, 9, none⟩)) rfl rfl (by intro k hk; cases hk; rfl) (fun W => by kernel_rfl)
        case c1 => exact ask_load (guard_none rfl) _ (.tmp 16) (.pointer (some ⟨X, 9, none⟩)) (.slice (some ⟨g, 0, none⟩) n ec) rfl rfl (by intro k hk; cases hk; rfl) (fun W hW => load_esm W _ _ (by rw [hW.cell (p := ⟨X, 9, none⟩) HXl.out]; exact HC9.out))
        case c2 => exact ask_copy (guard_none rfl) (.tmp 3) (.inl rfl) (by intro k hk; cases hk; rfl)
        case c3 => exact ask_build_lit hG (guard_none rfl) wr.heap.size (fun W h => h.size) rfl (by intro k hk; cases hk; rfl)
        case c4 => exact ask_field (guard_none rfl) _ (.tmp 1) 9 (.pointer (some ⟨X, 0, none⟩)) (.pointer (some ⟨X, 9, none⟩)) rfl rfl (by intro k hk; cases hk; rfl) (fun W => by kernel_rfl)
        case c5 => exact ask_load (guard_none rfl) _ (.tmp 20) (.pointer (some ⟨X, 9, none⟩)) (.slice (some ⟨g, 0, none⟩) n ec) rfl rfl (by intro k hk; cases hk; rfl) (fun W hW => load_esm W _ _ (by rw [hW.cell (p := ⟨X, 9, none⟩) HXl.out]; exact HC9.out))
        case c6 => exact ask_copy (guard_none rfl) (.tmp 3) (.inl rfl) (by intro k hk; cases hk; rfl)
        case c7 => exact ask_indexM (guard_none rfl) _ (.tmp 21) (.tmp 22) _ _ (.pointer (some ⟨g, j * 6, none⟩)) rfl rfl rfl (by intro k hk; cases hk; rfl) HIX.out
        case c8 => exact ask_field (guard_none rfl) _ (.tmp 23) 4 (.pointer (some ⟨g, j * 6, none⟩)) (.pointer (some ⟨g, j * 6 + 4, none⟩)) rfl rfl (by intro k hk; cases hk; rfl) (fun W => by kernel_rfl)
        case c9 => exact ask_load (guard_none rfl) _ (.tmp 24) (.pointer (some ⟨g, j * 6 + 4, none⟩)) (.slice u.a u.e.d.length u.ca) rfl rfl (by intro k hk; cases hk; rfl) (fun W hW => load_bsm W _ _ (by rw [hW.cell (p := ⟨g, j * 6 + 4, none⟩) HGl.out.1]; exact HCell4.out))
        case c10 => exact ask_append_lit hG (guard_none rfl) (.tmp 19) (.tmp 25) wr.heap.size u.e.d (by kernel_rfl) rfl rfl (fun q W hW ht => by have e := told_op ht (.tmp 25) (by simp [Op.operands, Call.operands]); have e2 : evalBy q (.tmp 25) = (.slice u.a u.e.d.length u.ca) := e; rw [e2]; exact (HHas.out.below (Nat.le_refl _) hW).d) (by have := HHas.out.dl; omega) (fun q hq => .inl (by cases hq; rfl))
        case c11 => exact ask_indexM (guard_none rfl) _ (.tmp 17) (.tmp 18) _ _ (.pointer (some ⟨g, j * 6, none⟩)) rfl rfl rfl (by intro k hk; cases hk; rfl) HIX.out
        case c12 => exact ask_field (guard_none rfl) _ (.tmp 27) 4 (.pointer (some ⟨g, j * 6, none⟩)) (.pointer (some ⟨g, j * 6 + 4, none⟩)) rfl rfl (by intro k hk; cases hk; rfl) (fun W => by kernel_rfl)
      intro af wq hW hd' hs' hf'
      have t0 : af.tmps.getD 0 undef = .agg #[.int .i64 k, .int .u64 (f : Int), .int .u64 (o : Int), .int .u64 (t : Int), .int .u64 (i : Int), .int .u64 (l : Int), .int .u64 (c : Int), .int .u64 (s : Int), .bool y, .slice a n ca, .slice b nb cb, .slice d nd cd] := hf' 0 rfl
      have t1 : af.tmps.getD 1 undef = .pointer (some ⟨X, 0, none⟩) := hf' 1 rfl
      have t2 : af.tmps.getD 2 undef = .pointer (some ⟨X + 1, 0, none⟩) := hf' 2 rfl
      have t3 : af.tmps.getD 3 undef = .int .i64 (j : Int) := hf' 3 rfl
      have t4 : af.tmps.getD 4 undef = .slice (some ⟨w1.heap.size, 0, none⟩) 0 0 := hf' 4 rfl
      have t5 : af.tmps.getD 5 undef = .pointer (some ⟨X, 9, none⟩) := hf' 5 rfl
      have t6 : af.tmps.getD 6 undef = .slice a n ca := hf' 6 rfl
      have t7 : af.tmps.getD 7 undef = .slice (some ⟨g, 0, none⟩) n ec := hf' 7 rfl
      have t8 : af.tmps.getD 8 undef = .pointer (some ⟨X, 9, none⟩) := hf' 8 rfl
      have t28 : af.tmps.getD 28 undef = .pointer (some ⟨g, j * 6 + 4, none⟩) := hf' 28 rfl
      have t42 : af.tmps.getD 42 undef = undef := hf' 42 rfl
      have t43 : af.tmps.getD 43 undef = undef := hf' 43 rfl
      have t44 : af.tmps.getD 44 undef = undef := hf' 44 rfl
      have t45 : af.tmps.getD 45 undef = undef := hf' 45 rfl
      have t46 : af.tmps.getD 46 undef = undef := hf' 46 rfl
      have t47 : af.tmps.getD 47 undef = undef := hf' 47 rfl
      have t48 : af.tmps.getD 48 undef = undef := hf' 48 rfl
      have t49 : af.tmps.getD 49 undef = undef := hf' 49 rfl
      have t50 : af.tmps.getD 50 undef = undef := hf' 50 rfl
      have t51 : af.tmps.getD 51 undef = undef := hf' 51 rfl
      have t52 : af.tmps.getD 52 undef = undef := hf' 52 rfl
      have hrow : Row wq wr.heap.size (af.tmps.getD 26 undef) u.e.d := hf' 26 rfl
      obtain ⟨tv, hus, haf⟩ := act_open 53 af hs' hd'
      rw [← hus] at hrow t0 t1 t2 t3 t4 t5 t6 t7 t8 t28 t42 t43 t44 t45 t46 t47 t48 t49 t50 t51 t52
      have el : ((List.range 53).map tv).toArray = #[.agg #[.int .i64 k, .int .u64 (f : Int), .int .u64 (o : Int), .int .u64 (t : Int), .int .u64 (i : Int), .int .u64 (l : Int), .int .u64 (c : Int), .int .u64 (s : Int), .bool y, .slice a n ca, .slice b nb cb, .slice d nd cd], .pointer (some ⟨X, 0, none⟩), .pointer (some ⟨X + 1, 0, none⟩), .int .i64 (j : Int), .slice (some ⟨w1.heap.size, 0, none⟩) 0 0, .pointer (some ⟨X, 9, none⟩), .slice a n ca, .slice (some ⟨g, 0, none⟩) n ec, .pointer (some ⟨X, 9, none⟩), tv 9, tv 10, tv 11, tv 12, tv 13, tv 14, tv 15, tv 16, tv 17, tv 18, tv 19, tv 20, tv 21, tv 22, tv 23, tv 24, tv 25, tv 26, tv 27, .pointer (some ⟨g, j * 6 + 4, none⟩), tv 29, tv 30, tv 31, tv 32, tv 33, tv 34, tv 35, tv 36, tv 37, tv 38, tv 39, tv 40, tv 41, undef, undef, undef, undef, undef, undef, undef, undef, undef, undef, undef] := by
        show #[tv 0, tv 1, tv 2, tv 3, tv 4, tv 5, tv 6, tv 7, tv 8, tv 9, tv 10, tv 11, tv 12, tv 13, tv 14, tv 15, tv 16, tv 17, tv 18, tv 19, tv 20, tv 21, tv 22, tv 23, tv 24, tv 25, tv 26, tv 27, tv 28, tv 29, tv 30, tv 31, tv 32, tv 33, tv 34, tv 35, tv 36, tv 37, tv 38, tv 39, tv 40, tv 41, tv 42, tv 43, tv 44, tv 45, tv 46, tv 47, tv 48, tv 49, tv 50, tv 51, tv 52] = _
        rw [t0, t1, t2, t3, t4, t5, t6, t7, t8, t28, t42, t43, t44, t45, t46, t47, t48, t49, t50, t51, t52]
      rw [el] at haf
      subst haf
      obtain ⟨na, nac, hva⟩ : ∃ p q, tv 26 = .slice p u.e.d.length q := hrow.bys.shape
      rw [hva] at hrow ⊢
      have HRow := Lib.hid hrow
      have HW := Lib.hid hW
      clear hus hva el hf' hs' hd' hrow hW hG t0 t1 t2 t3 t4 t5 t6 t7 t8 t28 t42 t43 t44 t45 t46 t47 t48 t49 t50 t51 t52
      simp only [List.drop_succ_cons, List.drop_zero]
      go_upto_region 6 with (refine wpList_store_fld rfl 34 (.tmp 28) (.tmp 26) rfl g (j * 6 + 4) (.slice na u.e.d.length nac) rfl rfl 62 cur (cur.setIfInBounds (j * 6 + 4) (.slice na u.e.d.length nac)) (HBlk.out.keep HW.out) HLt4.out rfl (by kernel_rfl) rfl ?_; intro wn hb ho; (have HIn2 := Lib.hid (HIn.out.putD HW.out HBlk.out HU.out HRow.out hBW HGl.out.1 hb ho)); (have HBl2 := Lib.hid (HBl.out.trans ((HW.out.mono HBl.out.size).trans (ho.below (fun q hq e => by have := HGl.out.2; omega) (Nat.le_trans HBl.out.size HW.out.size))))); (have HX2 := Lib.hid ((HX.out.keep HW.out).onlyS ho (by have := HXg.out; omega))); (have HR2 := Lib.hid ((HR.out.keep HW.out).onlyS ho (by have := HXg.out; omega))); (have HB2 := Lib.hid hb); clear hb ho)
      obtain ⟨u2, hu2⟩ : ∃ u2 : EE, u2 = ⟨u.e, na, nac, u.b, u.cb⟩ := ⟨_, rfl⟩
      have hvj : (vs.set j u2)[j]? = some u2 := by rw [List.getElem?_set_self (by have := HIn.out.len; omega)]
      rw [← hu2] at HIn2
      obtain ⟨vs2, hvs2⟩ : ∃ v, v = vs.set j u2 := ⟨_, rfl⟩
      rw [← hvs2] at HIn2 hvj
      obtain ⟨cur2, hcur2⟩ : ∃ z, z = cur.setIfInBounds (j * 6 + 4) (.slice na u.e.d.length nac) := ⟨_, rfl⟩
      have hsz2 : cur2.size = cur.size := by rw [hcur2]; simp
      rw [← hcur2] at HB2
      have hbB : u2.b = u.b ∧ u2.cb = u.cb ∧ u2.e = u.e := by rw [hu2]; exact ⟨rfl, rfl, rfl⟩
      have HVs := Lib.hid hvs2
      have HNa := Lib.hid (show ∀ ad, u2.a = some ad → w.heap.size ≤ ad.block from fun ad e => by
        rw [hu2] at e
        have e : na = some ad := e
        have h1 := (World.ownsRow.lt HRow.out ad.block (by rw [e]; rfl)).1
        have h2 := HBl.out.size
        omega)
      clear hcur2 hvs2 hu2
      have hcell : ∀ q v, u2.cells[q]? = some v → wn.cell? ⟨g, j * 6 + q, none⟩ = some v := fun q v hq => by
        obtain ⟨ad, e1, h⟩ := HIn2.out.row.els.load hvj
        cases e1
        have h2 := h q v hq
        rwa [addr_add, addr_add, Nat.zero_add] at h2
      have HCell6 := Lib.hid (hcell 5 (.slice u2.b u2.e.m.length u2.cb) rfl)
      have HU2 := Lib.hid hvj
      have HCe2 := Lib.hid (HIn2.out.ce u2 (List.mem_of_getElem? hvj))
      have HHas2 := Lib.hid (HCe2.out.has HBl2.out)
      have HMl2 := Lib.hid HCe2.out.ml
      have HGl2 := Lib.hid (show g < wn.heap.size ∧ w.heap.size ≤ g from ⟨HB2.out.lt, HGl.out.2⟩)
      have HXl2 := Lib.hid (show X < wn.heap.size from HX2.out.lt)
      have HC92 : Hid (wn.cell? ⟨X, 9, none⟩ = some (.slice (some ⟨g, 0, none⟩) n ec)) := Lib.hid (by rw [HX2.out.cell]; rfl)
      have HLt52 := Lib.hid (show j * 6 + 5 < cur2.size by rw [hsz2]; exact HLt5.out)
      have hBW2 : B ≤ wn.heap.size := Nat.le_trans HgB.out (Nat.le_of_lt HGl2.out.1)
      clear hcell hvj hsz2 hbB HRow HW HIn HBl HX HR HU HBlk HCe HHas HMl HGl HXl HC9 HCell4 HCell5 HLt4 HLt5 HCur hBW
      have hG : ∀ W W' : World, Below wn.heap.size wn W → Below W.heap.size W W' → Below wn.heap.size wn W' := fun W W' hW hb => hW.trans (hb.mono hW.size)
      refine region_tails_by 13 [(29, .is (.pointer (some ⟨X, 9, none⟩))), (30, .is (.slice (some ⟨g, 0, none⟩) n ec)), (31, .is (.int .i64 (j : Int))), (32, nlitF wn.heap.size), (33, .is (.pointer (some ⟨X, 9, none⟩))), (34, .is (.slice (some ⟨g, 0, none⟩) n ec)), (35, .is (.int .i64 (j : Int))), (36, .is (.pointer (some ⟨g, j * 6, none⟩))), (37, .is (.pointer (some ⟨g, j * 6 + 5, none⟩))), (38, .is (.slice u2.b u2.e.m.length u2.cb)), (39, nrowF wn.heap.size u2.e.m), (40, .is (.pointer (some ⟨g, j * 6, none⟩))), (41, .is (.pointer (some ⟨g, j * 6 + 5, none⟩)))] [0, 1, 2, 3, 4, 5, 6, 7, 8, 42, 43, 44, 45, 46, 47, 48, 49, 50, 51, 52, 39, 41] (fun W => Below wn.heap.size wn W) (by kernel_rfl) (by kernel_rfl) (by kernel_rfl) (by kernel_rfl) (by kernel_rfl) (by decide) (by kernel_rfl) (by kernel_rfl) ((Below.refl _ _).drew) ?_ ?_
      · refine ⟨?c0, ?c1, ?c2, ?c3, ?c4, ?c5, ?c6, ?c7, ?c8, ?c9, ?c10, ?c11, ?c12, trivial⟩
        case c0 => exact ask_field (guard_none rfl) _ (.tmp 1) 9 (.pointer (some ⟨X, 0, none⟩)) (.pointer (some ⟨X, 9, none⟩)) rfl rfl (by intro k hk; cases hk; rfl) (fun W => by kernel_rfl)
        case c1 => exact ask_load (guard_none rfl) _ (.tmp 29) (.pointer (some ⟨X, 9, none⟩)) (.slice (some ⟨g, 0, none⟩) n ec) rfl rfl (by intro k hk; cases hk; rfl) (fun W hW => load_esm W _ _ (by rw [hW.cell (p := ⟨X, 9, none⟩) HXl2.out]; exact HC92.out))
        case c2 => exact ask_copy (guard_none rfl) (.tmp 3) (.inl rfl) (by intro k hk; cases hk; rfl)
        case c3 => exact ask_build_nlit hG (guard_none rfl) wn.heap.size (fun W h => h.size) rfl (by intro k hk; cases hk; rfl)
        case c4 => exact ask_field (guard_none rfl) _ (.tmp 1) 9 (.pointer (some ⟨X, 0, none⟩)) (.pointer (some ⟨X, 9, none⟩)) rfl rfl (by intro k hk; cases hk; rfl) (fun W => by kernel_rfl)
        case c5 => exact ask_load (guard_none rfl) _ (.tmp 33) (.pointer (some ⟨X, 9, none⟩)) (.slice (some ⟨g, 0, none⟩) n ec) rfl rfl (by intro k hk; cases hk; rfl) (fun W hW => load_esm W _ _ (by rw [hW.cell (p := ⟨X, 9, none⟩) HXl2.out]; exact HC92.out))
        case c6 => exact ask_copy (guard_none rfl) (.tmp 3) (.inl rfl) (by intro k hk; cases hk; rfl)
        case c7 => exact ask_indexM (guard_none rfl) _ (.tmp 34) (.tmp 35) _ _ (.pointer (some ⟨g, j * 6, none⟩)) rfl rfl rfl (by intro k hk; cases hk; rfl) HIX.out
        case c8 => exact ask_field (guard_none rfl) _ (.tmp 36) 5 (.pointer (some ⟨g, j * 6, none⟩)) (.pointer (some ⟨g, j * 6 + 5, none⟩)) rfl rfl (by intro k hk; cases hk; rfl) (fun W => by kernel_rfl)
        case c9 => exact ask_load (guard_none rfl) _ (.tmp 37) (.pointer (some ⟨g, j * 6 + 5, none⟩)) (.slice u2.b u2.e.m.length u2.cb) rfl rfl (by intro k hk; cases hk; rfl) (fun W hW => load_nsm W _ _ (by rw [hW.cell (p := ⟨g, j * 6 + 5, none⟩) HGl2.out.1]; exact HCell6.out))
        case c10 => exact ask_append_nlit hG (guard_none rfl) (.tmp 32) (.tmp 38) wn.heap.size u2.e.m (by kernel_rfl) rfl rfl (fun q W hW ht => by have e := told_op ht (.tmp 38) (by simp [Op.operands, Call.operands]); have e2 : evalBy q (.tmp 38) = (.slice u2.b u2.e.m.length u2.cb) := e; rw [e2]; exact (HHas2.out.below (Nat.le_refl _) hW).m) HMl2.out (by intro k hk; cases hk; rfl)
        case c11 => exact ask_indexM (guard_none rfl) _ (.tmp 30) (.tmp 31) _ _ (.pointer (some ⟨g, j * 6, none⟩)) rfl rfl rfl (by intro k hk; cases hk; rfl) HIX.out
        case c12 => exact ask_field (guard_none rfl) _ (.tmp 40) 5 (.pointer (some ⟨g, j * 6, none⟩)) (.pointer (some ⟨g, j * 6 + 5, none⟩)) rfl rfl (by intro k hk; cases hk; rfl) (fun W => by kernel_rfl)
      intro af wq2 hW hd' hs' hf'
      have t0 : af.tmps.getD 0 undef = .agg #[.int .i64 k, .int .u64 (f : Int), .int .u64 (o : Int), .int .u64 (t : Int), .int .u64 (i : Int), .int .u64 (l : Int), .int .u64 (c : Int), .int .u64 (s : Int), .bool y, .slice a n ca, .slice b nb cb, .slice d nd cd] := hf' 0 rfl
      have t1 : af.tmps.getD 1 undef = .pointer (some ⟨X, 0, none⟩) := hf' 1 rfl
      have t2 : af.tmps.getD 2 undef = .pointer (some ⟨X + 1, 0, none⟩) := hf' 2 rfl
      have t3 : af.tmps.getD 3 undef = .int .i64 (j : Int) := hf' 3 rfl
      have t4 : af.tmps.getD 4 undef = .slice (some ⟨w1.heap.size, 0, none⟩) 0 0 := hf' 4 rfl
      have t5 : af.tmps.getD 5 undef = .pointer (some ⟨X, 9, none⟩) := hf' 5 rfl
      have t6 : af.tmps.getD 6 undef = .slice a n ca := hf' 6 rfl
      have t7 : af.tmps.getD 7 undef = .slice (some ⟨g, 0, none⟩) n ec := hf' 7 rfl
      have t8 : af.tmps.getD 8 undef = .pointer (some ⟨X, 9, none⟩) := hf' 8 rfl
      have t41 : af.tmps.getD 41 undef = .pointer (some ⟨g, j * 6 + 5, none⟩) := hf' 41 rfl
      have t42 : af.tmps.getD 42 undef = undef := hf' 42 rfl
      have t43 : af.tmps.getD 43 undef = undef := hf' 43 rfl
      have t44 : af.tmps.getD 44 undef = undef := hf' 44 rfl
      have t45 : af.tmps.getD 45 undef = undef := hf' 45 rfl
      have t46 : af.tmps.getD 46 undef = undef := hf' 46 rfl
      have t47 : af.tmps.getD 47 undef = undef := hf' 47 rfl
      have t48 : af.tmps.getD 48 undef = undef := hf' 48 rfl
      have t49 : af.tmps.getD 49 undef = undef := hf' 49 rfl
      have t50 : af.tmps.getD 50 undef = undef := hf' 50 rfl
      have t51 : af.tmps.getD 51 undef = undef := hf' 51 rfl
      have t52 : af.tmps.getD 52 undef = undef := hf' 52 rfl
      have hrow : NRow wq2 wn.heap.size (af.tmps.getD 39 undef) u2.e.m := hf' 39 rfl
      obtain ⟨tw, hus, haf⟩ := act_open 53 af hs' hd'
      rw [← hus] at hrow t0 t1 t2 t3 t4 t5 t6 t7 t8 t41 t42 t43 t44 t45 t46 t47 t48 t49 t50 t51 t52
      have el : ((List.range 53).map tw).toArray = #[.agg #[.int .i64 k, .int .u64 (f : Int), .int .u64 (o : Int), .int .u64 (t : Int), .int .u64 (i : Int), .int .u64 (l : Int), .int .u64 (c : Int), .int .u64 (s : Int), .bool y, .slice a n ca, .slice b nb cb, .slice d nd cd], .pointer (some ⟨X, 0, none⟩), .pointer (some ⟨X + 1, 0, none⟩), .int .i64 (j : Int), .slice (some ⟨w1.heap.size, 0, none⟩) 0 0, .pointer (some ⟨X, 9, none⟩), .slice a n ca, .slice (some ⟨g, 0, none⟩) n ec, .pointer (some ⟨X, 9, none⟩), tw 9, tw 10, tw 11, tw 12, tw 13, tw 14, tw 15, tw 16, tw 17, tw 18, tw 19, tw 20, tw 21, tw 22, tw 23, tw 24, tw 25, tw 26, tw 27, tw 28, tw 29, tw 30, tw 31, tw 32, tw 33, tw 34, tw 35, tw 36, tw 37, tw 38, tw 39, tw 40, .pointer (some ⟨g, j * 6 + 5, none⟩), undef, undef, undef, undef, undef, undef, undef, undef, undef, undef, undef] := by
        show #[tw 0, tw 1, tw 2, tw 3, tw 4, tw 5, tw 6, tw 7, tw 8, tw 9, tw 10, tw 11, tw 12, tw 13, tw 14, tw 15, tw 16, tw 17, tw 18, tw 19, tw 20, tw 21, tw 22, tw 23, tw 24, tw 25, tw 26, tw 27, tw 28, tw 29, tw 30, tw 31, tw 32, tw 33, tw 34, tw 35, tw 36, tw 37, tw 38, tw 39, tw 40, tw 41, tw 42, tw 43, tw 44, tw 45, tw 46, tw 47, tw 48, tw 49, tw 50, tw 51, tw 52] = _
        rw [t0, t1, t2, t3, t4, t5, t6, t7, t8, t41, t42, t43, t44, t45, t46, t47, t48, t49, t50, t51, t52]
      rw [el] at haf
      subst haf
      obtain ⟨mb, mbc, hva⟩ : ∃ p q, tw 39 = .slice p u2.e.m.length q := hrow.nums.shape
      rw [hva] at hrow ⊢
      have HRow2 := Lib.hid hrow
      have HW2 := Lib.hid hW
      clear hus hva el hf' hs' hd' hrow hW hG t0 t1 t2 t3 t4 t5 t6 t7 t8 t41 t42 t43 t44 t45 t46 t47 t48 t49 t50 t51 t52
      simp only [List.drop_succ_cons, List.drop_zero]
      go_wp2_with (refine wpList_store_fld rfl 33 (.tmp 41) (.tmp 39) rfl g (j * 6 + 5) (.slice mb u2.e.m.length mbc) rfl rfl 62 cur2 (cur2.setIfInBounds (j * 6 + 5) (.slice mb u2.e.m.length mbc)) (HB2.out.keep HW2.out) HLt52.out rfl (by kernel_rfl) rfl ?_; intro wo hb ho; (have HIn3 := Lib.hid (HIn2.out.putM HW2.out HB2.out HU2.out HRow2.out hBW2 HGl2.out.1 hb ho)); (have HBl3 := Lib.hid (HBl2.out.trans ((HW2.out.mono HBl2.out.size).trans (ho.below (fun q hq e => by have := HGl2.out.2; omega) (Nat.le_trans HBl2.out.size HW2.out.size))))); (have HX3 := Lib.hid ((HX2.out.keep HW2.out).onlyS ho (by have := HXg.out; omega))); (have HR3 := Lib.hid ((HR2.out.keep HW2.out).onlyS ho (by have := HXg.out; omega))); (have HB3q := Lib.hid hb); clear hb ho)
      go_roundw
      case rel => exact ⟨j + 1, _, by go_num, by omega, HIn3.out, HBl3.out, HX3.out, HR3.out, far_step HFar.out HVs.out ⟨HNa.out, fun ad e => by
        have e : mb = some ad := e
        have h1 := (World.ownsRow.lt HRow2.out ad.block (by rw [e]; rfl)).1
        have h2 := HBl2.out.size
        omega⟩⟩
      case measure => simp [intOf]; omega
    · obtain rfl : n = j := by omega
      have hlm := (Below.refl wr.heap.size wr).alloc (Nat.le_refl _) (.cells #[] 31)
      have A2 := Lib.hid (append_num_lit (B := wr.heap.size) (Nat.le_refl _) (heap_alloc_new wr (.cells #[] 31)) ((HM.out.ms.below (Nat.le_refl _) HBl.out).below (Nat.le_refl _) hlm) hm8)
      have cm : (wr.alloc (.cells #[] 31)).cell? ⟨X, 10, none⟩ = some (.slice b nb cb) := by rw [(HX.out.alloc _).cell]; rfl
      have J1 := Lib.hid (HX.out.alloc (.cells #[] 31))
      have J2 := Lib.hid (HR.out.alloc (.cells #[] 31))
      have J3 := Lib.hid (HIn.out.below hlm)
      have J4 := Lib.hid (HBl.out.trans (hlm.mono HBl.out.size))
      have hbw : B ≤ wr.heap.size ∨ True := .inr trivial
      have HFB1 := Lib.hid HBl.out.size
      clear hlm c10 hbw HIn HBl HX HR
      go_upto_region 8 with (first
        | (at_builtin; refine wpList_append_by rfl _ _ 33 rfl _ _ rfl rfl _ A2.out ?_; rintro v4 w4 ⟨hr, hb⟩; obtain ⟨ma, mc, rfl⟩ : ∃ p q, v4 = .slice p nb q := (by obtain ⟨p, q, e⟩ := hr.nums.shape; exact ⟨p, q, by rw [e, HNB.out]⟩); (have HRm := Lib.hid hr); (have J5 := Lib.hid (J1.out.keep hb)); (have J6 := Lib.hid (J2.out.keep hb)); (have J7 := Lib.hid (J3.out.below hb)); (have J8 := Lib.hid (J4.out.trans (hb.mono J4.out.size))); clear hr hb cm)
        | (refine wpList_store_fld rfl 33 (.tmp 46) (.tmp 45) rfl X 10 (.slice ma nb mc) rfl rfl 36 #[.int .i64 k, .int .u64 (f : Int), .int .u64 (o : Int), .int .u64 (t : Int), .int .u64 (i : Int), .int .u64 (l : Int), .int .u64 (c : Int), .int .u64 (s : Int), .bool y, .slice ea n ec, .slice b nb cb, .slice d nd cd] #[.int .i64 k, .int .u64 (f : Int), .int .u64 (o : Int), .int .u64 (t : Int), .int .u64 (i : Int), .int .u64 (l : Int), .int .u64 (c : Int), .int .u64 (s : Int), .bool y, .slice ea n ec, .slice ma nb mc, .slice d nd cd] J5.out (by simp) rfl (by kernel_rfl) rfl ?_; intro w5 hb ho; (have L1 := Lib.hid hb); (have L2 := Lib.hid (J6.out.onlyS ho (by omega))); (have L3 := Lib.hid (J7.out.msg J5.out ho)); (have L4 := Lib.hid (HRm.out.msg J5.out ho)); (have L5 := Lib.hid (J8.out.trans (ho.below (fun q hq e => by have := HXw.out; omega) J8.out.size))); clear hb ho))
      have hlg := (Below.refl w5.heap.size w5).alloc (Nat.le_refl _) (.cells #[] 5)
      have A3 := Lib.hid (append_lit (B := w5.heap.size) (Nat.le_refl _) (heap_alloc_new w5 (.cells #[] 5)) ((HM.out.gs.below (Nat.le_refl _) L5.out).below (Nat.le_refl _) hlg) (by have := HM.out.gl; omega))
      have cg : (w5.alloc (.cells #[] 5)).cell? ⟨X, 11, none⟩ = some (.slice d nd cd) := by rw [(L1.out.alloc _).cell]; rfl
      have P1 := Lib.hid (L1.out.alloc (.cells #[] 5))
      have P2 := Lib.hid (L2.out.alloc (.cells #[] 5))
      have P3 := Lib.hid (L3.out.below hlg)
      have P4 := Lib.hid (L4.out.keep hlg)
      have P5 := Lib.hid (L5.out.trans (hlg.mono L5.out.size))
      clear hlg
      go_wp2_with (first
        | (at_builtin; refine wpList_append_by rfl _ _ 34 rfl _ _ rfl rfl _ A3.out ?_; rintro v6 w6 ⟨hr, hb⟩; obtain ⟨ga, gc, rfl⟩ : ∃ p q, v6 = .slice p nd q := (by obtain ⟨p, q, e⟩ := hr.bys.shape; exact ⟨p, q, by rw [e, HND.out]⟩); (have HRg := Lib.hid hr); (have Q1 := Lib.hid (P1.out.keep hb)); (have Q2 := Lib.hid (P2.out.keep hb)); (have Q3 := Lib.hid (P3.out.below hb)); (have Q4 := Lib.hid (P4.out.keep hb)); (have Q5 := Lib.hid (P5.out.trans (hb.mono P5.out.size))); clear hr hb cg)
        | (refine wpList_store_fld rfl 34 (.tmp 51) (.tmp 50) rfl X 11 (.slice ga nd gc) rfl rfl 36 #[.int .i64 k, .int .u64 (f : Int), .int .u64 (o : Int), .int .u64 (t : Int), .int .u64 (i : Int), .int .u64 (l : Int), .int .u64 (c : Int), .int .u64 (s : Int), .bool y, .slice ea n ec, .slice ma nb mc, .slice d nd cd] #[.int .i64 k, .int .u64 (f : Int), .int .u64 (o : Int), .int .u64 (t : Int), .int .u64 (i : Int), .int .u64 (l : Int), .int .u64 (c : Int), .int .u64 (s : Int), .bool y, .slice ea n ec, .slice ma nb mc, .slice ga nd gc] Q1.out (by simp) rfl (by kernel_rfl) rfl ?_; intro w7 hb ho; (have R1 := Lib.hid hb); (have R2 := Lib.hid (Q2.out.onlyS ho (by omega))); (have R3 := Lib.hid (Q3.out.msg Q1.out ho)); (have R4 := Lib.hid (Q4.out.msg Q1.out ho)); (have R6 := Lib.hid (row_to HRg.out fun q hq => ho.block q (World.ownsRow.lt HRg.out q hq).2 (fun e => ownsRow_apart HRg.out Q1.out (by decide) (by rw [hq, e])))); (have R5 := Lib.hid (Q5.out.trans (ho.below (fun q hq e => by have := HXw.out; omega) Q5.out.size))); clear hb ho)
        | (refine wpList_load_by rfl 36 (.tmp 1) rfl _ _ rfl (R1.out.loads 36 _ Try.underlying36 rfl rfl) ?_)
        | (refine wpList_store_all rfl 36 (.tmp 2) (.tmp 52) rfl (X + 1) #[.int .i64 k, .int .u64 (f : Int), .int .u64 (o : Int), .int .u64 (t : Int), .int .u64 (i : Int), .int .u64 (l : Int), .int .u64 (c : Int), .int .u64 (s : Int), .bool y, .slice ea n ec, .slice ma nb mc, .slice ga nd gc] rfl rfl 36 zeroM R2.out (by kernel_rfl) rfl (by simp [Value.oneCell']) ?_; intro w8 hb ho; (have S1 := Lib.hid hb); (have S3 := Lib.hid (R3.out.msg R2.out ho)); (have S4 := Lib.hid (R4.out.msg R2.out ho)); (have S6 := Lib.hid (row_to R6.out fun q hq => ho.block q (World.ownsRow.lt R6.out q hq).2 (fun e => ownsRow_apart R6.out R2.out (by decide) (by rw [hq, e])))); (have S5 := Lib.hid (R5.out.trans (ho.below (fun q hq e => by have := HXw.out; omega) R5.out.size))); clear hb ho))
      exact bodyPost_ret (v := .agg #[.int .i64 k, .int .u64 (f : Int), .int .u64 (o : Int), .int .u64 (t : Int), .int .u64 (i : Int), .int .u64 (l : Int), .int .u64 (c : Int), .int .u64 (s : Int), .bool y, .slice ea n ec, .slice ma nb mc, .slice ga nd gc]) (results_cell_row rfl _ _ (X + 1) 36 _ (0, 0) _ rfl S1.out Try.underlying36 rfl rfl) rfl ⟨_, _, _, rfl, ⟨vs, copied_new S3.out HBw.out HN.out HEE.out HM.out (fun u hu => by obtain ⟨i, hi⟩ := List.getElem?_of_mem hu; exact HFar.out i u (by have := (List.getElem?_eq_some_iff.1 hi).1; have := S3.out.len; omega) hi) S4.out S6.out HFB1.out L5.out.size⟩, S5.out⟩
end Go.Proofs.Ytgbhfolbkgibfaa

