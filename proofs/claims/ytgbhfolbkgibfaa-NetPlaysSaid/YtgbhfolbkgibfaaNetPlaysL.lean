/- Layer 19's law: NetPlays, walked. -/
import Derived.Test.YtgbhfolbkgibfaaLBG
import Derived.Test.YtgbhfolbkgibfaaLBH
import Derived.Test.YtgbhfolbkgibfaaNetCopiedL
import Derived.Test.YtgbhfolbkgibfaaLBA
namespace Go.Proofs.Ytgbhfolbkgibfaa
set_option maxRecDepth 20000
open Go.RowKit Go.Maps BinMath NetMath Reg
open MsgMath (Mg formedM)

set_option maxHeartbeats 8000000 in
theorem netPlays_walk (hp : NetProg) (v : Value) (L : List NOp) (w : World) (hv : InRow 17 NOp.cells w v L) (ho : ∀ o ∈ L, o.Ok) (hm : ∀ o ∈ L, o.x.Has w ∧ o.x.Fits) :
    Calls Try.prog 3 #[v] w fun e w' => e = .returned (.bool true) ∧ Below w.heap.size w w' := by
  obtain ⟨sa, c, rfl, ⟨hl, hlc⟩, hel⟩ := hv
  obtain ⟨N, hN⟩ : ∃ N, N = L.length := ⟨_, rfl⟩
  rw [← hN] at hl hlc ⊢
  have HE := Lib.hid (show ∀ i o, L[i]? = some o → ∃ ad : Addr, sa = some ad ∧ ∀ W, Below w.heap.size w W → (Instr.loadAt 38 (.pointer (some (ad.add (i * 17))))).run Try.prog W = .ok (.agg o.cells.toArray) W from fun i o hx => by
    obtain ⟨ad, h1, h2⟩ := hel i o hx
    exact ⟨ad, h1, fun W hW => load_op W _ o fun j v hj => (hW.cell (World.block_lt_of_cell? w _ (h2 j v hj))).trans (h2 j v hj)⟩)
  have HO := Lib.hid ho
  have HM := Lib.hid hm
  have HN := Lib.hid hN
  have HA := Lib.hid (awake19_any hp w)
  clear hel ho hm hN hlc
  go_enter Try.func3, Try.ntmps3
  go_wp2_with fail
  refine HA.out.mono ?_
  rintro e w1 ⟨rfl, hb⟩
  have HB1 := Lib.hid hb
  clear hb HA
  go_wp2_with fail
  refine (hp.new_ w1).mono ?_
  rintro e w2 ⟨P, U, rfl, hi, hb, hU⟩
  obtain ⟨w3, hw3⟩ : ∃ w3, w3 = w2.alloc (.cells #[.slice none 0 0, .slice none 0 0] 30) := ⟨_, rfl⟩
  have hb3 : Below w2.heap.size w2 w3 := by rw [hw3]; exact (Below.refl _ _).alloc (Nat.le_refl _) _
  have hd0 : Duo hp w1.heap.size (fun _ => False) w3 P w2.heap.size Nt.none Nt.none U (.slice none 0 0) (.slice none 0 0) [] :=
    { is_ := hp.keep hi (OnlyS.of_below (S := fun _ => False) hb3 fun _ hk _ => hk) (fun _ _ e => e.elim), uz := hU, blk := by rw [hw3]; exact Blk.new w2 _ _, rz := hb.size
      nr := fun e => absurd (hp.lt hi _ e) (by omega), lrow := World.ownsRow_nil _ _ _ _, lap := fun k e => (by cases e), wrow := World.ownsRow_nil _ _ _ _, wap := fun k e => (by cases e)
      has := fun y e => absurd e List.not_mem_nil, ms := rfl, ll := Nat.zero_le _, zl := Nat.le_trans hb.size hb3.size }
  have HD0 := Lib.hid hd0
  have HB3 := Lib.hid ((HB1.out.trans (hb.mono HB1.out.size)).trans (hb3.mono (Nat.le_trans HB1.out.size hb.size)))
  have HW3 := Lib.hid hw3
  clear hi hb hU hb3 hd0 hw3
  go_wp2_with fail
  rw [← HW3.out]
  obtain ⟨R, hR⟩ : ∃ R, R = w2.heap.size := ⟨_, rfl⟩
  rw [← hR] at HD0 ⊢
  clear HW3 hR
  go_loopw [5] (fun s5 wr => ∃ (i : Nat) (n : Nt) (U : Nat → Prop) (vL vW : Value) (xs : List MM), i ≤ N ∧ i ≤ 40 ∧ s5 = .int .i64 (i : Int) ∧ Duo hp w1.heap.size (fun _ => False) wr P R n n U vL vW xs ∧ n.W.length ≤ i ∧ Below w.heap.size w wr) (fun s5 _ => N - (intOf s5).toNat)
  case atStart => exact ⟨0, Nt.none, U, _, _, [], Nat.zero_le _, by omega, rfl, HD0.out, Nat.le_refl _, HB3.out⟩
  case round =>
    obtain ⟨i, n, U, vL, vW, xs, hiN, hi40, rfl, hd, hnw, hb⟩ := hrel
    have HD := Lib.hid hd
    have HB := Lib.hid hb
    have i0 : (0 : Int) ≤ (i : Int) := Int.natCast_nonneg _
    clear hd hb HD0 HB3
    by_cases hlt : i < N ∧ i < 40
    · obtain ⟨h1, h2⟩ := hlt
      obtain ⟨o, hx⟩ : ∃ o, L[i]? = some o := ⟨L[i]'(by have := HN.out; omega), List.getElem?_eq_getElem _⟩
      obtain ⟨ad, rfl, hld⟩ := HE.out i o hx
      have HOk := Lib.hid (HO.out o (List.mem_of_getElem? hx))
      have HMo := Lib.hid (HM.out o (List.mem_of_getElem? hx))
      have HLd := Lib.hid hld
      have i1 : (i : Int) < (N : Int) := by omega
      have i2 : (i : Int) < 40 := by omega
      have HOne := Lib.hid (show ∀ v ∈ o.cells, v.oneCell' = true from fun v hv => by
        unfold NOp.cells at hv
        simp only [List.mem_cons] at hv
        rcases hv with rfl | rfl | rfl | rfl | rfl | hv
        · rfl
        · rfl
        · rfl
        · rfl
        · rfl
        · exact mm_one HMo.out.1 v hv)
      clear hx hld
      go_upto_region 12 with (first
        | (refine wpList_load_by rfl 38 (.tmp 31) rfl _ _ rfl (HLd.out _ HB.out) ?_)
        | (refine wpList_store_all rfl 38 (.tmp 6) (.tmp 32) rfl wr.heap.size o.cells.toArray rfl rfl 38 _ (Blk.new wr _ _) (by kernel_rfl) rfl (by rw [← Array.all_toList, List.all_eq_true]; exact HOne.out) ?_; intro w4 hb ho; (have HB6 := Lib.hid hb); (have HW4 := Lib.hid (show Below wr.heap.size wr w4 from ((Below.refl _ _).alloc (Nat.le_refl _) _).trans (ho.below (fun k hk e => by have e : k = wr.heap.size := e; omega) (by simp)))); clear hb ho))
      rename_i KT hKT K12 hK12
      obtain ⟨G6, hG6⟩ : ∃ q, q = wr.heap.size := ⟨_, rfl⟩
      obtain ⟨G9, hG9⟩ : ∃ q, q = w4.heap.size := ⟨_, rfl⟩
      rw [← hG6] at HB6 ⊢
      rw [← hG9]
      refine world_cut (fun W => Below w4.heap.size w4 W ∧ Blk W G9 36 zeroM ∧ Blk W (G9 + 1) 36 zeroM) ⟨((Below.refl _ _).alloc (Nat.le_refl _) _).alloc (by simp) _, by rw [hG9]; exact (Blk.new w4 _ _).alloc _, Blk.newAt _ _ _ _ _ (by rw [hG9]; simp) rfl⟩ ?_
      rintro w5 ⟨hb5, hb9, hb10⟩
      have HB9 := Lib.hid hb9
      have HB10 := Lib.hid hb10
      have HB65 := Lib.hid (HB6.out.keep hb5)
      have HD5 := Lib.hid ((HD.out.below HW4.out).open (X' := fun k => k = G9 ∨ k = G9 + 1) hb5 (fun k e => .inr (by omega)))
      have HB5 := Lib.hid ((HB.out.trans (HW4.out.mono HB.out.size)).trans (hb5.mono (Nat.le_trans HB.out.size HW4.out.size)))
      have HG := Lib.hid (show w.heap.size ≤ G6 ∧ G6 < G9 ∧ w1.heap.size ≤ G6 ∧ (∀ k, U k → k < G6) ∧ R < G6 ∧ (∀ k, vL.ownBlock = some k → k < G6) ∧ (∀ k, vW.ownBlock = some k → k < G6) from ⟨by rw [hG6]; exact HB.out.size, by rw [hG9]; exact HB6.out.lt, by rw [hG6]; exact HD.out.zl, fun k e => by rw [hG6]; exact hp.lt HD.out.is_ k e, by rw [hG6]; exact HD.out.blk.lt, fun k e => by rw [hG6]; exact (World.ownsRow.lt HD.out.lrow k e).2, fun k e => by rw [hG6]; exact (World.ownsRow.lt HD.out.wrow k e).2⟩)
      have HT : Hid (∀ (x2 x11 x12 x13 x19 x20 x21 x22 x23 x24 x25 x26 x27 x28 x29 x30 x31 x32 x33 x34 x35 x36 x37 x38 x39 x40 x41 x42 x43 x44 x45 x46 x47 x48 x49 x50 x51 x52 x53 x54 x55 x56 x57 x58 x59 x60 x61 x62 x63 x64 x65 x66 x67 x68 x69 x70 x71 x72 x73 x74 x75 x76 x77 x78 x79 x80 x81 x82 x83 x84 x85 x86 x87 x88 x89 x90 x91 x92 x93 x94 x95 x96 x97 x98 x99 x100 x101 x102 x103 x104 x105 x106 x107 x108 x109 x110 x111 x112 x113 x114 x115 x116 x117 x118 x119 x120 x121 x122 x123 x124 x125 x126 x127 x128 x129 x130 x131 x132 x133 x134 x135 x136 x137 x138 x139 x140 x141 x142 x143 x144 x145 x146 x147 x148 x149 x150 x151 x152 x153 x154 x155 x156 x157 x158 x159 x160 x161 x162 x163 x164 x165 x166 x167 x168 : Value) (W : World) (cc : Nat) (nn : Nt) (U' : Nat → Prop) (vL' vW' : Value) (xs' : List MM) (mx : Mg) (ve vm vg ve' vm' vg' : Value) (us us' : List EE), Duo hp w1.heap.size (fun _ => False) W P R nn nn U' vL' vW' xs' → nn.W.length ≤ i + 1 → Blk W G6 38 o.cells.toArray → Blk W G9 36 (mgC mx ve vm vg) → Blk W (G9 + 1) 36 (mgC mx ve' vm' vg') → MHas W mx ve vm vg us → MHas W mx ve' vm' vg' us' → Below w.heap.size w W → KT ⟨#[.slice (some ad) N c, undef, x2, .pointer (some ⟨P, 0, none⟩), .pointer (some ⟨R, 0, none⟩), .int .i64 (i : Int), .pointer (some ⟨G6, 0, none⟩), .int .i64 (cc : Int), .int .i64 (cc : Int), .pointer (some ⟨G9, 0, none⟩), .pointer (some ⟨G9 + 1, 0, none⟩), x11, x12, x13, .bool true, .bool false, .pointer (some ⟨P, 0, none⟩), .agg #[.slice none 0 0, .slice none 0 0], .pointer (some ⟨R, 0, none⟩), x19, x20, x21, x22, x23, x24, x25, x26, x27, x28, x29, x30, x31, x32, x33, x34, x35, x36, x37, x38, x39, x40, x41, x42, x43, x44, x45, x46, x47, x48, x49, x50, x51, x52, x53, x54, x55, x56, x57, x58, x59, x60, x61, x62, x63, x64, x65, x66, x67, x68, x69, x70, x71, x72, x73, x74, x75, x76, x77, x78, x79, x80, x81, x82, x83, x84, x85, x86, x87, x88, x89, x90, x91, x92, x93, x94, x95, x96, x97, x98, x99, x100, x101, x102, x103, x104, x105, x106, x107, x108, x109, x110, x111, x112, x113, x114, x115, x116, x117, x118, x119, x120, x121, x122, x123, x124, x125, x126, x127, x128, x129, x130, x131, x132, x133, x134, x135, x136, x137, x138, x139, x140, x141, x142, x143, x144, x145, x146, x147, x148, x149, x150, x151, x152, x153, x154, x155, x156, x157, x158, x159, x160, x161, x162, x163, x164, x165, x166, x167, x168, undef, undef, undef], []⟩ W) := Lib.hid (by
        intro x2 x11 x12 x13 x19 x20 x21 x22 x23 x24 x25 x26 x27 x28 x29 x30 x31 x32 x33 x34 x35 x36 x37 x38 x39 x40 x41 x42 x43 x44 x45 x46 x47 x48 x49 x50 x51 x52 x53 x54 x55 x56 x57 x58 x59 x60 x61 x62 x63 x64 x65 x66 x67 x68 x69 x70 x71 x72 x73 x74 x75 x76 x77 x78 x79 x80 x81 x82 x83 x84 x85 x86 x87 x88 x89 x90 x91 x92 x93 x94 x95 x96 x97 x98 x99 x100 x101 x102 x103 x104 x105 x106 x107 x108 x109 x110 x111 x112 x113 x114 x115 x116 x117 x118 x119 x120 x121 x122 x123 x124 x125 x126 x127 x128 x129 x130 x131 x132 x133 x134 x135 x136 x137 x138 x139 x140 x141 x142 x143 x144 x145 x146 x147 x148 x149 x150 x151 x152 x153 x154 x155 x156 x157 x158 x159 x160 x161 x162 x163 x164 x165 x166 x167 x168 W cc nn U' vL' vW' xs' mx ve vm vg ve' vm' vg' us us' hd hnn hb6 hb9 hb10 hx hy hbl
        refine hKT _ _ ?_
        obtain ⟨la, lc, rfl⟩ := hd.lrow.form
        obtain ⟨l, hl⟩ : ∃ l, l = xs'.length := ⟨_, rfl⟩
        have HLen := Lib.hid (show nn.L.length = l by rw [hd.len, hl])
        have HDv := Lib.hid hd
        rw [← hl] at HDv
        obtain ⟨dd, hdd⟩ : ∃ d, d = nn.blocked o.a o.b := ⟨_, rfl⟩
        have L9 := Lib.hid (show ∀ V, Below W.heap.size W V → (Instr.loadAt 36 (.pointer (some ⟨G9, 0, none⟩))).run Try.prog V = .ok (.agg (mgC mx ve vm vg)) V from fun V hV => Blk.loads (P := Try.prog) (hb9.keep hV) 36 _ Try.underlying36 rfl (mgM_info _ _ _ _))
        have L10 := Lib.hid (show ∀ V, Below W.heap.size W V → (Instr.loadAt 36 (.pointer (some ⟨G9 + 1, 0, none⟩))).run Try.prog V = .ok (.agg (mgC mx ve' vm' vg')) V from fun V hV => Blk.loads (P := Try.prog) (hb10.keep hV) 36 _ Try.underlying36 rfl (mgM_info _ _ _ _))
        have HSame := Lib.hid (show ∀ V, Below W.heap.size W V → Calls Try.prog 22 #[(.agg (mgC mx ve vm vg)), (.agg (mgC mx ve' vm' vg'))] V fun r w' => r = .returned (.bool true) ∧ Below V.heap.size V w' from fun V hV => (refMsgSame_any mx mx _ _ _ _ _ _ us us' V (hx.below (Nat.le_refl _) hV) (hy.below (Nat.le_refl _) hV)).mono fun r w' h => ⟨by rw [h.1, decide_eq_true rfl], h.2⟩)
        have LA := Lib.hid (show ∀ V, Below W.heap.size W V → (Instr.loadAt 31 (.pointer (some ⟨G6, 2, none⟩))).run Try.prog V = .ok (.int .u64 (o.a : Int)) V from fun V hV => load_num V ⟨G6, 2, none⟩ _ (by rw [(hb6.keep hV).cell]; rfl))
        have LB := Lib.hid (show ∀ V, Below W.heap.size W V → (Instr.loadAt 31 (.pointer (some ⟨G6, 3, none⟩))).run Try.prog V = .ok (.int .u64 (o.b : Int)) V from fun V hV => load_num V ⟨G6, 3, none⟩ _ (by rw [(hb6.keep hV).cell]; rfl))
        have HBp := Lib.hid (show ∀ V, Below W.heap.size W V → Calls Try.prog 23 #[(.pointer (some ⟨P, 0, none⟩)), (.int .u64 (o.a : Int)), (.int .u64 (o.b : Int))] V fun e w' => e = .returned (.bool dd) ∧ Below V.heap.size V w' from fun V hV => by
          rw [hdd]
          exact hp.blocked o.a o.b (HDv.out.below hV).is_ HOk.out.a1 HOk.out.b1 (by omega))
        have HBr := Lib.hid (show ∀ V, Below W.heap.size W V → Calls Try.prog 24 #[(.pointer (some ⟨R, 0, none⟩)), (.int .u64 (o.a : Int)), (.int .u64 (o.b : Int))] V fun e w' => e = .returned (.bool dd) ∧ Below V.heap.size V w' from fun V hV => (refBlocked_any R _ vW' nn.W o.a o.b V (HDv.out.below hV).blk (WRow.ways (HDv.out.below hV).wrow) (by omega)).mono fun e w' h => ⟨by rw [h.1, hdd]; rfl, by rw [h.2]; exact Below.refl _ _⟩)
        have HLn := Lib.hid (show ∀ V, Below W.heap.size W V → Calls Try.prog 25 #[(.pointer (some ⟨P, 0, none⟩))] V fun e w' => e = .returned (.int .i64 (l : Int)) ∧ Below V.heap.size V w' from fun V hV => by
          have h := hp.len (HDv.out.below hV).is_
          rwa [HLen.out] at h)
        have LR := Lib.hid (show ∀ V, Below W.heap.size W V → (Instr.loadAt 27 (.pointer (some ⟨R, 0, none⟩))).run Try.prog V = .ok (.slice la l lc) V from fun V hV => load_ml V ⟨R, 0, none⟩ _ (by rw [(HDv.out.blk.keep hV).cell]; rfl))
        have HNn := Lib.hid hnn
        have HBl := Lib.hid hbl
        have hG : ∀ V V' : World, Below W.heap.size W V → Below V.heap.size V V' → Below W.heap.size W V' := fun V V' hV hb => hV.trans (hb.mono hV.size)
        clear hd hnn hb6 hb9 hb10 hx hy hbl hl hdd hKT hK12 hG6 hG9
        go_upto_region 36 with fail
        refine region_by [(135, .is (.int .i64 (cc : Int))), (136, .is (.int .i64 (cc : Int))), (137, .is (.bool false)), (138, .is (.bool false)), (139, .is (.agg (mgC mx ve vm vg))), (140, .is (.agg (mgC mx ve' vm' vg'))), (141, .is (.bool true)), (142, .is (.bool false)), (143, .is (.bool false)), (144, .is (.bool false)), (145, .is (.pointer (some ⟨P, 0, none⟩))), (146, .is (.pointer (some ⟨G6, 2, none⟩))), (147, .is (.int .u64 (o.a : Int))), (148, .is (.pointer (some ⟨G6, 3, none⟩))), (149, .is (.int .u64 (o.b : Int))), (150, .is (.bool dd)), (151, .is (.pointer (some ⟨R, 0, none⟩))), (152, .is (.pointer (some ⟨G6, 2, none⟩))), (153, .is (.int .u64 (o.a : Int))), (154, .is (.pointer (some ⟨G6, 3, none⟩))), (155, .is (.int .u64 (o.b : Int))), (156, .is (.bool dd)), (157, .is (.bool false)), (158, .is (.bool false)), (159, .is (.bool false)), (160, .is (.pointer (some ⟨P, 0, none⟩))), (161, .is (.int .i64 (l : Int))), (162, .is (.pointer (some ⟨R, 0, none⟩))), (163, .is (.pointer (some ⟨R, 0, none⟩))), (164, .is (.pointer (some ⟨R, 0, none⟩))), (165, .is (.slice la l lc)), (166, .is (.int .i64 (l : Int))), (167, .is (.bool false)), (168, .is (.bool false))] [0, 1, 3, 4, 5, 14, 15, 16, 17, 18, 168, 169, 170, 171] (fun V => Below W.heap.size W V) (by kernel_rfl) (by kernel_rfl) (by kernel_rfl) (by kernel_rfl) (by kernel_rfl) ((Below.refl _ _).drew) ?_ ?_
        · refine ⟨?c0, ?c1, ?c2, ?c3, ?c4, ?c5, ?c6, ?c7, ?c8, ?c9, ?c10, ?c11, ?c12, ?c13, ?c14, ?c15, ?c16, ?c17, ?c18, ?c19, ?c20, ?c21, ?c22, ?c23, ?c24, ?c25, ?c26, ?c27, ?c28, ?c29, ?c30, ?c31, ?c32, ?c33, trivial⟩
          case c0 => exact ask_copy (guard_none rfl) (.tmp 7) (.inl rfl) (by intro k hk; cases hk; rfl)
          case c1 => exact ask_copy (guard_none rfl) (.tmp 8) (.inl rfl) (by intro k hk; cases hk; rfl)
          case c2 => exact ask_bin (guard_none rfl) .neq _ _ (.tmp 135) (.tmp 136) (.int .i64 (cc : Int)) (.int .i64 (cc : Int)) (.bool false) rfl rfl rfl (by intro k hk; cases hk; rfl) (fun W => neq_errno_self _ _ cc W)
          case c3 => exact ask_copy (guard_none rfl) (.tmp 137) (.inl rfl) (by intro k hk; cases hk; rfl)
          case c4 => exact ask_load (guard_some rfl rfl rfl) _ (.tmp 9) (.pointer (some ⟨G9, 0, none⟩)) (.agg (mgC mx ve vm vg)) rfl rfl (by intro k hk; cases hk; rfl) (fun V hV => L9.out V hV)
          case c5 => exact ask_load (guard_some rfl rfl rfl) _ (.tmp 10) (.pointer (some ⟨G9 + 1, 0, none⟩)) (.agg (mgC mx ve' vm' vg')) rfl rfl (by intro k hk; cases hk; rfl) (fun V hV => L10.out V hV)
          case c6 => exact ask_call hG (guard_some rfl rfl rfl) _ _ _ #[(.agg (mgC mx ve vm vg)), (.agg (mgC mx ve' vm' vg'))] (.is (.bool true)) rfl (by kernel_rfl) rfl rfl (by intro k hk; cases hk; rfl) (fun V hV => (HSame.out V hV).mono fun e w' h => ⟨_, h.1, rfl, h.2⟩)
          case c7 => exact ask_exec (guard_some rfl rfl rfl) (.bool false) rfl rfl (by intro k hk; cases hk; rfl) (fun V hV => by kernel_rfl)
          case c8 => exact ask_pick (guard_none rfl) (.tmp 138) (.const (.bool true)) (.tmp 142) false rfl rfl (by intro k hk; cases hk; rfl)
          case c9 => exact ask_copy (guard_none rfl) (.tmp 143) (.inl rfl) (by intro k hk; cases hk; rfl)
          case c10 => exact ask_copy (guard_some rfl rfl rfl) (.tmp 3) (.inl rfl) (by intro k hk; cases hk; rfl)
          case c11 => exact ask_field (guard_some rfl rfl rfl) _ (.tmp 6) 2 (.pointer (some ⟨G6, 0, none⟩)) (.pointer (some ⟨G6, 2, none⟩)) rfl rfl (by intro k hk; cases hk; rfl) (fun V => by kernel_rfl)
          case c12 => exact ask_load (guard_some rfl rfl rfl) _ (.tmp 146) (.pointer (some ⟨G6, 2, none⟩)) (.int .u64 (o.a : Int)) rfl rfl (by intro k hk; cases hk; rfl) (fun V hV => LA.out V hV)
          case c13 => exact ask_field (guard_some rfl rfl rfl) _ (.tmp 6) 3 (.pointer (some ⟨G6, 0, none⟩)) (.pointer (some ⟨G6, 3, none⟩)) rfl rfl (by intro k hk; cases hk; rfl) (fun V => by kernel_rfl)
          case c14 => exact ask_load (guard_some rfl rfl rfl) _ (.tmp 148) (.pointer (some ⟨G6, 3, none⟩)) (.int .u64 (o.b : Int)) rfl rfl (by intro k hk; cases hk; rfl) (fun V hV => LB.out V hV)
          case c15 => exact ask_call hG (guard_some rfl rfl rfl) _ _ _ #[(.pointer (some ⟨P, 0, none⟩)), (.int .u64 (o.a : Int)), (.int .u64 (o.b : Int))] (.is (.bool dd)) rfl (by kernel_rfl) rfl rfl (by intro k hk; cases hk; rfl) (fun V hV => (HBp.out V hV).mono fun e w' h => ⟨_, h.1, rfl, h.2⟩)
          case c16 => exact ask_copy (guard_some rfl rfl rfl) (.tmp 4) (.inl rfl) (by intro k hk; cases hk; rfl)
          case c17 => exact ask_field (guard_some rfl rfl rfl) _ (.tmp 6) 2 (.pointer (some ⟨G6, 0, none⟩)) (.pointer (some ⟨G6, 2, none⟩)) rfl rfl (by intro k hk; cases hk; rfl) (fun V => by kernel_rfl)
          case c18 => exact ask_load (guard_some rfl rfl rfl) _ (.tmp 152) (.pointer (some ⟨G6, 2, none⟩)) (.int .u64 (o.a : Int)) rfl rfl (by intro k hk; cases hk; rfl) (fun V hV => LA.out V hV)
          case c19 => exact ask_field (guard_some rfl rfl rfl) _ (.tmp 6) 3 (.pointer (some ⟨G6, 0, none⟩)) (.pointer (some ⟨G6, 3, none⟩)) rfl rfl (by intro k hk; cases hk; rfl) (fun V => by kernel_rfl)
          case c20 => exact ask_load (guard_some rfl rfl rfl) _ (.tmp 154) (.pointer (some ⟨G6, 3, none⟩)) (.int .u64 (o.b : Int)) rfl rfl (by intro k hk; cases hk; rfl) (fun V hV => LB.out V hV)
          case c21 => exact ask_call hG (guard_some rfl rfl rfl) _ _ _ #[(.pointer (some ⟨R, 0, none⟩)), (.int .u64 (o.a : Int)), (.int .u64 (o.b : Int))] (.is (.bool dd)) rfl (by kernel_rfl) rfl rfl (by intro k hk; cases hk; rfl) (fun V hV => (HBr.out V hV).mono fun e w' h => ⟨_, h.1, rfl, h.2⟩)
          case c22 => exact ask_bin (guard_some rfl rfl rfl) .neq _ _ (.tmp 150) (.tmp 156) (.bool dd) (.bool dd) (.bool false) rfl rfl rfl (by intro k hk; cases hk; rfl) (fun V => neq_bool_self _ _ dd V)
          case c23 => exact ask_pick (guard_none rfl) (.tmp 144) (.const (.bool true)) (.tmp 157) false rfl rfl (by intro k hk; cases hk; rfl)
          case c24 => exact ask_copy (guard_none rfl) (.tmp 158) (.inl rfl) (by intro k hk; cases hk; rfl)
          case c25 => exact ask_copy (guard_some rfl rfl rfl) (.tmp 3) (.inl rfl) (by intro k hk; cases hk; rfl)
          case c26 => exact ask_call hG (guard_some rfl rfl rfl) _ _ _ #[(.pointer (some ⟨P, 0, none⟩))] (.is (.int .i64 (l : Int))) rfl (by kernel_rfl) rfl rfl (by intro k hk; cases hk; rfl) (fun V hV => (HLn.out V hV).mono fun e w' h => ⟨_, h.1, rfl, h.2⟩)
          case c27 => exact ask_copy (guard_some rfl rfl rfl) (.tmp 4) (.inl rfl) (by intro k hk; cases hk; rfl)
          case c28 => exact ask_exec (guard_some rfl rfl rfl) (.pointer (some ⟨R, 0, none⟩)) rfl rfl (by intro k hk; cases hk; rfl) (fun V hV => by kernel_rfl)
          case c29 => exact ask_field (guard_some rfl rfl rfl) _ (.tmp 163) 0 (.pointer (some ⟨R, 0, none⟩)) (.pointer (some ⟨R, 0, none⟩)) rfl rfl (by intro k hk; cases hk; rfl) (fun V => by kernel_rfl)
          case c30 => exact ask_load (guard_some rfl rfl rfl) _ (.tmp 164) (.pointer (some ⟨R, 0, none⟩)) (.slice la l lc) rfl rfl (by intro k hk; cases hk; rfl) (fun V hV => LR.out V hV)
          case c31 => exact ask_exec (guard_some rfl rfl rfl) (.int .i64 (l : Int)) rfl rfl (by intro k hk; cases hk; rfl) (fun V hV => by kernel_rfl)
          case c32 => exact ask_bin (guard_some rfl rfl rfl) .neq _ _ (.tmp 161) (.tmp 166) (.int .i64 (l : Int)) (.int .i64 (l : Int)) (.bool false) rfl rfl rfl (by intro k hk; cases hk; rfl) (fun V => neq_int_self _ _ l V)
          case c33 => exact ask_pick (guard_none rfl) (.tmp 159) (.const (.bool true)) (.tmp 167) false rfl rfl (by intro k hk; cases hk; rfl)
        intro af wq hW hd' hs' hf'
        have t0 : af.tmps.getD 0 undef = .slice (some ad) N c := hf' 0 rfl
        have t1 : af.tmps.getD 1 undef = undef := hf' 1 rfl
        have t3 : af.tmps.getD 3 undef = .pointer (some ⟨P, 0, none⟩) := hf' 3 rfl
        have t4 : af.tmps.getD 4 undef = .pointer (some ⟨R, 0, none⟩) := hf' 4 rfl
        have t5 : af.tmps.getD 5 undef = .int .i64 (i : Int) := hf' 5 rfl
        have t14 : af.tmps.getD 14 undef = .bool true := hf' 14 rfl
        have t15 : af.tmps.getD 15 undef = .bool false := hf' 15 rfl
        have t16 : af.tmps.getD 16 undef = .pointer (some ⟨P, 0, none⟩) := hf' 16 rfl
        have t17 : af.tmps.getD 17 undef = .agg #[.slice none 0 0, .slice none 0 0] := hf' 17 rfl
        have t18 : af.tmps.getD 18 undef = .pointer (some ⟨R, 0, none⟩) := hf' 18 rfl
        have t168 : af.tmps.getD 168 undef = .bool false := hf' 168 rfl
        have t169 : af.tmps.getD 169 undef = undef := hf' 169 rfl
        have t170 : af.tmps.getD 170 undef = undef := hf' 170 rfl
        have t171 : af.tmps.getD 171 undef = undef := hf' 171 rfl
        obtain ⟨tv, hus, haf⟩ := act_open 172 af hs' hd'
        rw [← hus] at t0 t1 t3 t4 t5 t14 t15 t16 t17 t18 t168 t169 t170 t171
        have el : ((List.range 172).map tv).toArray = #[.slice (some ad) N c, undef, tv 2, .pointer (some ⟨P, 0, none⟩), .pointer (some ⟨R, 0, none⟩), .int .i64 (i : Int), tv 6, tv 7, tv 8, tv 9, tv 10, tv 11, tv 12, tv 13, .bool true, .bool false, .pointer (some ⟨P, 0, none⟩), .agg #[.slice none 0 0, .slice none 0 0], .pointer (some ⟨R, 0, none⟩), tv 19, tv 20, tv 21, tv 22, tv 23, tv 24, tv 25, tv 26, tv 27, tv 28, tv 29, tv 30, tv 31, tv 32, tv 33, tv 34, tv 35, tv 36, tv 37, tv 38, tv 39, tv 40, tv 41, tv 42, tv 43, tv 44, tv 45, tv 46, tv 47, tv 48, tv 49, tv 50, tv 51, tv 52, tv 53, tv 54, tv 55, tv 56, tv 57, tv 58, tv 59, tv 60, tv 61, tv 62, tv 63, tv 64, tv 65, tv 66, tv 67, tv 68, tv 69, tv 70, tv 71, tv 72, tv 73, tv 74, tv 75, tv 76, tv 77, tv 78, tv 79, tv 80, tv 81, tv 82, tv 83, tv 84, tv 85, tv 86, tv 87, tv 88, tv 89, tv 90, tv 91, tv 92, tv 93, tv 94, tv 95, tv 96, tv 97, tv 98, tv 99, tv 100, tv 101, tv 102, tv 103, tv 104, tv 105, tv 106, tv 107, tv 108, tv 109, tv 110, tv 111, tv 112, tv 113, tv 114, tv 115, tv 116, tv 117, tv 118, tv 119, tv 120, tv 121, tv 122, tv 123, tv 124, tv 125, tv 126, tv 127, tv 128, tv 129, tv 130, tv 131, tv 132, tv 133, tv 134, tv 135, tv 136, tv 137, tv 138, tv 139, tv 140, tv 141, tv 142, tv 143, tv 144, tv 145, tv 146, tv 147, tv 148, tv 149, tv 150, tv 151, tv 152, tv 153, tv 154, tv 155, tv 156, tv 157, tv 158, tv 159, tv 160, tv 161, tv 162, tv 163, tv 164, tv 165, tv 166, tv 167, .bool false, undef, undef, undef] := by
          show #[tv 0, tv 1, tv 2, tv 3, tv 4, tv 5, tv 6, tv 7, tv 8, tv 9, tv 10, tv 11, tv 12, tv 13, tv 14, tv 15, tv 16, tv 17, tv 18, tv 19, tv 20, tv 21, tv 22, tv 23, tv 24, tv 25, tv 26, tv 27, tv 28, tv 29, tv 30, tv 31, tv 32, tv 33, tv 34, tv 35, tv 36, tv 37, tv 38, tv 39, tv 40, tv 41, tv 42, tv 43, tv 44, tv 45, tv 46, tv 47, tv 48, tv 49, tv 50, tv 51, tv 52, tv 53, tv 54, tv 55, tv 56, tv 57, tv 58, tv 59, tv 60, tv 61, tv 62, tv 63, tv 64, tv 65, tv 66, tv 67, tv 68, tv 69, tv 70, tv 71, tv 72, tv 73, tv 74, tv 75, tv 76, tv 77, tv 78, tv 79, tv 80, tv 81, tv 82, tv 83, tv 84, tv 85, tv 86, tv 87, tv 88, tv 89, tv 90, tv 91, tv 92, tv 93, tv 94, tv 95, tv 96, tv 97, tv 98, tv 99, tv 100, tv 101, tv 102, tv 103, tv 104, tv 105, tv 106, tv 107, tv 108, tv 109, tv 110, tv 111, tv 112, tv 113, tv 114, tv 115, tv 116, tv 117, tv 118, tv 119, tv 120, tv 121, tv 122, tv 123, tv 124, tv 125, tv 126, tv 127, tv 128, tv 129, tv 130, tv 131, tv 132, tv 133, tv 134, tv 135, tv 136, tv 137, tv 138, tv 139, tv 140, tv 141, tv 142, tv 143, tv 144, tv 145, tv 146, tv 147, tv 148, tv 149, tv 150, tv 151, tv 152, tv 153, tv 154, tv 155, tv 156, tv 157, tv 158, tv 159, tv 160, tv 161, tv 162, tv 163, tv 164, tv 165, tv 166, tv 167, tv 168, tv 169, tv 170, tv 171] = _
          rw [t0, t1, t3, t4, t5, t14, t15, t16, t17, t18, t168, t169, t170, t171]
        rw [el] at haf
        subst haf
        have HD6 := Lib.hid (HDv.out.below hW)
        have HB6 := Lib.hid (HBl.out.trans (hW.mono HBl.out.size))
        clear hus el hf' hs' hd' hW hG t0 t1 t3 t4 t5 t14 t15 t16 t17 t18 t168 t169 t170 t171 HLen HDv L9 L10 HSame LA LB HBp HBr HLn LR HBl
        go_wp2_with fail
        go_roundw
        case rel => exact ⟨i + 1, nn, U', _, vW', xs', by omega, by omega, by go_num, HD6.out, HNn.out, HB6.out⟩
        case measure => simp [intOf]; omega)
      clear hKT
      have c60 : w5.cell? ⟨G6, 0, none⟩ = some (.int .i64 o.kind) := by rw [HB65.out.cell]; rfl
      clear hb5 hb9 hb10 HB6 HW4 HD HB hG6 hG9
      go_upto_region 19 with fail
      obtain ⟨kd, hkd, hk5⟩ := op_kind o.kind
      rw [hkd]
      clear hkd c60
      have HB10l := Lib.hid HB10.out.lt
      have HZ := Lib.hid HB1.out.size
      have c61 : w5.cell? ⟨G6, 1, none⟩ = some (.int .i64 o.i) := by rw [HB65.out.cell]; rfl
      have oi0 := HOk.out.i0
      have oi1 := HOk.out.i1
      have hw1000 : n.W.length ≤ 1000 := by omega
      rcases (show kd = 0 ∨ kd = 1 ∨ kd = 2 ∨ kd = 3 ∨ kd = 4 ∨ kd = 5 by omega) with rfl | rfl | rfl | rfl | rfl | rfl
      · obtain ⟨cc, hcc⟩ : ∃ q, q = (n.send o.x.m).1 := ⟨_, rfl⟩
        have HCc := Lib.hid hcc
        have hm0 : MHas w o.x.m o.x.ve o.x.vm o.x.vg o.x.us := HMo.out.1
        have HM0 := Lib.hid hm0
        have HC := Lib.hid (netCopied_any o.x.m o.x.ve o.x.vm o.x.vg o.x.us w5 (hm0.below (Nat.le_refl _) HB5.out) HMo.out.2.es HMo.out.2.ms HMo.out.2.em)
        have hnu : ∀ g, G6 ≤ g → ¬ (U g ∨ g = R) := fun g hg e => by
          have := HG.out
          rcases e with e | e
          · have := HG.out.2.2.2.1 g e; omega
          · omega
        have HNu := Lib.hid hnu
        clear hnu
        clear hcc hm0 c61
        go_wp2_with (refine wpList_load_by rfl 36 (.tmp 62) rfl _ _ rfl (op_msg HB65.out) ?_)
        refine HC.out.mono ?_
        rintro e w6 ⟨ce, cm, cg, cus, rfl, hnew, hb6⟩
        have HNew := Lib.hid hnew
        have HB6c := Lib.hid hb6
        have HX6 := Lib.hid (HD5.out.open (X' := fun k => w5.heap.size ≤ k ∧ k < w6.heap.size) hb6 (fun k e => .inr e.1))
        clear hnew hb6 HC
        go_wp2_with (first
          | (refine wpList_store_all rfl 36 (.tmp 11) (.tmp 64) rfl w6.heap.size (mgC o.x.m ce cm cg) rfl rfl 36 zeroM (Blk.new w6 _ _) (mgM_info _ _ _ _) rfl (mgC_one HNew.out.has) ?_; intro w7 hb ho; (have HB117 := Lib.hid hb); (have HW7 := Lib.hid (show Below w6.heap.size w6 w7 from ((Below.refl _ _).alloc (Nat.le_refl _) _).trans (ho.below (fun k hk e => by have e : k = w6.heap.size := e; omega) (by simp)))); clear hb ho)
          | (refine wpList_load_by rfl 36 (.tmp 11) rfl _ _ rfl (Blk.loads (P := Try.prog) HB117.out 36 _ Try.underlying36 rfl (mgM_info _ _ _ _)) ?_))
        have hS := hp.send o.x.m ce cm cg cus (HX6.out.below HW7.out).is_ (HNew.out.below HW7.out).has hw1000
        rw [← HCc.out] at hS
        refine hS.mono ?_
        intro e w8 hh
        obtain ⟨rfl, U8, hd8, hU8, ho8⟩ := (HX6.out.below HW7.out).prog hh
        have HD8 := Lib.hid hd8
        have HU8 := Lib.hid hU8
        have HO8 := Lib.hid ho8
        have ho58 : OnlyS (fun k => U k ∨ k = R) w5 w8 := ((OnlyS.of_below (S := fun k => U k ∨ k = R) HB6c.out fun _ hk _ => hk).then (OnlyS.of_below (S := fun _ => False) HW7.out fun _ hk _ => hk) (fun _ _ e => e.elim)).then ho8 fun k _ e => .inl e
        have HO58 := Lib.hid ho58
        have HB68 := Lib.hid (HB65.out.onlyS ho58 (HNu.out _ (Nat.le_refl _)))
        have hbelw8 : Below w.heap.size w w8 := HB5.out.trans (OnlyS.below ho58 (fun k hk e => by
            have := HZ.out; have := HD5.out.rz; have := HG.out
            rcases e with e | e
            · have := HD5.out.uz k e; omega
            · omega) HB5.out.size)
        have HC2 := Lib.hid (netCopied_any o.x.m o.x.ve o.x.vm o.x.vg o.x.us w8 (HM0.out.below (Nat.le_refl _) hbelw8) HMo.out.2.es HMo.out.2.ms HMo.out.2.em)
        clear hS hh hd8 hU8 ho8 ho58 hbelw8
        go_wp2_with (refine wpList_load_by rfl 36 (.tmp 69) rfl _ _ rfl (op_msg HB68.out) ?_)
        refine HC2.out.mono ?_
        rintro e w9 ⟨de, dm, dg, dus, rfl, hnew2, hb9⟩
        have HB9c := Lib.hid hb9
        have HD9 := Lib.hid (HD8.out.below hb9)
        have HSt := Lib.hid (show Stay w9 (fun k => U8 k ∨ k = R ∨ (w5.heap.size ≤ k ∧ k < w6.heap.size)) 0 (fun V => (⟨o.x.m, de, dm, dg, dus⟩ : MM).Has V) from fun V hV => (hnew2 V fun k h1 h2 => hV k (Nat.zero_le _) h2 fun e => by
            have s7 := HW7.out.size
            have s8 := HO8.out.size
            rcases e with e | e | e
            · have := hp.lt HD8.out.is_ k e; omega
            · have := HD8.out.blk.lt; omega
            · omega).1)
        clear hnew2 hb9 HC2
        go_wp2_with fail
        refine (duo_send HD9.out hw1000 ⟨o.x.m, de, dm, dg, dus⟩ HSt.out).mono ?_
        rw [← HCc.out]
        rintro e w10 ⟨rfl, vL10, xs10, hd10, ho10, hL10⟩
        have HD10 := Lib.hid hd10
        have HO10 := Lib.hid ho10
        have HL10 := Lib.hid hL10
        have hs7 := HW7.out.size
        have hs8 := HO8.out.size
        have hs9 := HB9c.out.size
        have hs10 := ho10.size
        have hs6 := HB6c.out.size
        have hg10 := HB10l.out
        have HB1110 := Lib.hid (((HB117.out.onlyS HO8.out (fun e => by have := HG.out.2.2.2.1 _ e; have := HG.out; omega)).keep HB9c.out).onlyS ho10 (by have := HG.out; omega))
        have HSp := Lib.hid (spoil_any HNew.out w10 (fun k h1 h2 => by
            have := HG.out
            have n1 : ¬ U k := fun e => by have := HG.out.2.2.2.1 _ e; omega
            have n2 : ¬ k = R := by omega
            rw [ho10.block k (by omega) n2, HB9c.out.block k (by omega), HO8.out.block k (by omega) n1, HW7.out.block k h2]) (by omega))
        clear hd10 ho10 hL10 HSt HB117 hs6 hs7 hs8 hs9 hs10 hg10
        go_wp2_with (refine wpList_load_by rfl 36 (.tmp 11) rfl _ _ rfl (Blk.loads (P := Try.prog) HB1110.out 36 _ Try.underlying36 rfl (mgM_info _ _ _ _)) ?_)
        refine HSp.out.mono ?_
        rintro e w11 ⟨rfl, ho11⟩
        have HO11 := Lib.hid ho11
        clear ho11 HSp
        go_wp2_with fail
        have hs7 := HW7.out.size
        have hs8 := HO8.out.size
        have hs9 := HB9c.out.size
        have hs6 := HB6c.out.size
        have hg10 := HB10l.out
        have hd11 := HD10.out.write HO11.out (fun _ e => e) (fun k e e2 => by
            have := HG.out
            rcases HU8.out k e with e | e
            · have := HG.out.2.2.2.1 k e; omega
            · omega) (fun e => by have := HG.out; omega) (fun k e e2 => by
            have := HG.out
            rcases HL10.out k e with e | e
            · have := HG.out.2.2.2.2.2.1 k e; omega
            · omega) (fun k e e2 => by have := HG.out.2.2.2.2.2.2 k e; have := HG.out; omega)
        have HOn : OnlyS (fun k => U k ∨ k = R) w5 w11 := ((HO58.out.then (OnlyS.of_below (S := fun _ => False) HB9c.out fun _ hk _ => hk) (fun _ _ e => e.elim)).then HO10.out fun k _ e => .inr e).then HO11.out fun k hk e => by omega
        have hbelw11 : Below w.heap.size w w11 := HB5.out.trans (OnlyS.below HOn (fun k hk e => by
            have := HZ.out; have := HD5.out.rz; have := HG.out
            rcases e with e | e
            · have := HD5.out.uz k e; omega
            · omega) HB5.out.size)
        exact HT.out _ _ _ _ _ _ _ _ _ _ _ _ _ _ _ _ _ _ _ _ _ _ _ _ _ _ _ _ _ _ _ _ _ _ _ _ _ _ _ _ _ _ _ _ _ _ _ _ _ _ _ _ _ _ _ _ _ _ _ _ _ _ _ _ _ _ _ _ _ _ _ _ _ _ _ _ _ _ _ _ _ _ _ _ _ _ _ _ _ _ _ _ _ _ _ _ _ _ _ _ _ _ _ _ _ _ _ _ _ _ _ _ _ _ _ _ _ _ _ _ _ _ _ _ _ _ _ _ _ _ _ _ _ _ _ _ _ _ _ _ _ _ _ _ _ _ _ _ _ _ _ _ _ _ w11 cc _ _ _ _ _ _ _ _ _ _ _ _ _ _ hd11.free (by rw [send_ways]; omega) (HB65.out.onlyS HOn (HNu.out _ (Nat.le_refl _))) (HB9.out.onlyS HOn (HNu.out _ (by have := HG.out; omega))) (HB10.out.onlyS HOn (HNu.out _ (by have := HG.out; omega))) (MHas.zero _) (MHas.zero _) hbelw11
      · obtain ⟨mx, hmx⟩ : ∃ q, q = (n.at_ o.i).1 := ⟨_, rfl⟩
        obtain ⟨cc, hcc⟩ : ∃ q, q = (n.at_ o.i).2 := ⟨_, rfl⟩
        have HPt := Lib.hid (hp.take o.i HD5.out.is_ oi0 (by omega))
        rw [← hmx, ← hcc] at HPt
        have HMx := Lib.hid hmx
        have HCc := Lib.hid hcc
        clear hmx hcc
        go_wp2_with fail
        refine HPt.out.mono ?_
        intro e w6 hh
        obtain ⟨⟨ve, vm, vg, us, rfl, hnew⟩, U6, hd6, hU6, ho6⟩ := HD5.out.prog hh
        clear hh
        have HNew := Lib.hid hnew
        have HD6 := Lib.hid hd6
        have HU6 := Lib.hid hU6
        have HO6 := Lib.hid ho6
        have HB96 := Lib.hid (HB9.out.onlyS ho6 (fun e => by have := HG.out.2.2.2.1 _ e; have := HG.out; omega))
        have HB106 := Lib.hid (HB10.out.onlyS ho6 (fun e => by have := HG.out.2.2.2.1 _ e; have := HG.out; omega))
        have HB66 := Lib.hid (HB65.out.onlyS ho6 (fun e => by have := HG.out.2.2.2.1 _ e; have := HG.out; omega))
        have HS6 := Lib.hid ho6.size
        clear hnew hd6 hU6 ho6 HPt c61
        go_wp2_with (refine wpList_store_all rfl 36 (.tmp 9) (.tmp 82) rfl G9 (mgC mx ve vm vg) rfl rfl 36 zeroM HB96.out (mgM_info _ _ _ _) rfl (mgC_one HNew.out.has) ?_; intro w7 hb ho; (have HB97 := Lib.hid hb); (have HO7 := Lib.hid ho); (have c61 : w7.cell? ⟨G6, 1, none⟩ = some (.int .i64 o.i) := by rw [(HB66.out.onlyS ho (by have := HG.out; omega)).cell]; rfl); clear hb ho)
        have HS7 := Lib.hid HO7.out.size
        have hd7 := HD6.out.write (S := fun k => k = G9) HO7.out (fun k e => .inl e) (fun k e e2 => by
            have e2 : k = G9 := e2
            have := HG.out; have := HB10l.out
            rcases HU6.out k e with e | e
            · have := HG.out.2.2.2.1 k e; omega
            · omega) (fun e => by have e : R = G9 := e; have := HG.out; omega) (fun k e e2 => by have e2 : k = G9 := e2; have := HG.out.2.2.2.2.2.1 k e; have := HG.out; omega) (fun k e e2 => by have e2 : k = G9 := e2; have := HG.out.2.2.2.2.2.2 k e; have := HG.out; omega)
        have HD7 := Lib.hid hd7
        clear hd7
        refine (duo_take HD7.out hw1000 o.i).mono ?_
        rw [← HMx.out, ← HCc.out]
        rintro e w8 ⟨⟨ye, ym, yg, yus, rfl, hy⟩, vL8, xs8, hd8, ho8, hL8⟩
        have HY := Lib.hid hy
        have HD8 := Lib.hid hd8
        have HO8 := Lib.hid ho8
        have HL8 := Lib.hid hL8
        have HB108 := Lib.hid ((HB106.out.onlyS HO7.out (by have := HG.out; omega)).onlyS ho8 (by have := HG.out; omega))
        clear hy hd8 ho8 hL8 c61
        go_wp2_with (refine wpList_store_all rfl 36 (.tmp 10) (.tmp 89) rfl (G9 + 1) (mgC mx ye ym yg) rfl rfl 36 zeroM HB108.out (mgM_info _ _ _ _) rfl (mgC_one HY.out.now) ?_; intro w9 hb ho; (have HB109 := Lib.hid hb); (have HO9 := Lib.hid ho); clear hb ho)
        have hd9 := HD8.out.write (S := fun k => k = G9 + 1) HO9.out (fun k e => .inr e) (fun k e e2 => by
            have e2 : k = G9 + 1 := e2
            have := HG.out; have := HB10l.out
            rcases HU6.out k e with e | e
            · have := HG.out.2.2.2.1 k e; omega
            · omega) (fun e => by have e : R = G9 + 1 := e; have := HG.out; omega) (fun k e e2 => by
            have e2 : k = G9 + 1 := e2
            have := HB10l.out; have := HS6.out; have := HS7.out; have := HG.out
            rcases HL8.out k e with e | e
            · have := HG.out.2.2.2.2.2.1 k e; omega
            · omega) (fun k e e2 => by have e2 : k = G9 + 1 := e2; have := HG.out.2.2.2.2.2.2 k e; have := HG.out; omega)
        have HOn : OnlyS (fun k => U k ∨ k = R ∨ k = G9 ∨ k = G9 + 1) w5 w9 := (((HO6.out.mono fun k _ e => .inl e).then HO7.out fun k _ e => .inr (.inr (.inl e))).then HO8.out fun k _ e => .inr (.inl e)).then HO9.out fun k _ e => .inr (.inr (.inr e))
        have hx9 : MHas w9 mx ve vm vg us := (HNew.out w9 fun k h1 h2 => by
            have := HB10l.out; have := HG.out
            have s7 := HO7.out.size
            have s8 := HO8.out.size
            rw [HO9.out.block k (by omega) (by show ¬ k = G9 + 1; omega), HO8.out.block k (by omega) (by show ¬ k = R; omega), HO7.out.block k h2 (by show ¬ k = G9; omega)]).1
        have hy9 : MHas w9 mx ye ym yg yus := (HY.out.step (Y' := fun _ => False) HO9.out (fun k _ e => .inr (.inr (.inr e))) (fun _ _ e => e.elim)).now
        have hbe : Below w.heap.size w w9 := HB5.out.trans (HOn.below (fun k hk e => by
            have := HZ.out; have := HD5.out.rz; have := HG.out
            rcases e with e | e | e | e
            · have := HD5.out.uz k e; omega
            · omega
            · omega
            · omega) HB5.out.size)
        have hn6 : ¬ (U G6 ∨ G6 = R ∨ G6 = G9 ∨ G6 = G9 + 1) := fun e => by
          have := HG.out
          rcases e with e | e | e | e
          · have := HG.out.2.2.2.1 _ e; omega
          all_goals omega
        exact HT.out _ _ _ _ _ _ _ _ _ _ _ _ _ _ _ _ _ _ _ _ _ _ _ _ _ _ _ _ _ _ _ _ _ _ _ _ _ _ _ _ _ _ _ _ _ _ _ _ _ _ _ _ _ _ _ _ _ _ _ _ _ _ _ _ _ _ _ _ _ _ _ _ _ _ _ _ _ _ _ _ _ _ _ _ _ _ _ _ _ _ _ _ _ _ _ _ _ _ _ _ _ _ _ _ _ _ _ _ _ _ _ _ _ _ _ _ _ _ _ _ _ _ _ _ _ _ _ _ _ _ _ _ _ _ _ _ _ _ _ _ _ _ _ _ _ _ _ _ _ _ _ _ _ _ w9 cc _ _ _ _ _ _ _ _ _ _ _ _ _ _ hd9.free (by rw [take_ways]; omega) (HB65.out.onlyS HOn hn6) ((HB97.out.onlyS HO8.out (by have := HG.out; omega)).onlyS HO9.out (by omega)) HB109.out hx9 hy9 hbe
      · obtain ⟨mx, hmx⟩ : ∃ q, q = (n.at_ o.i).1 := ⟨_, rfl⟩
        obtain ⟨cc, hcc⟩ : ∃ q, q = (n.at_ o.i).2 := ⟨_, rfl⟩
        have HPt := Lib.hid (hp.at_ o.i HD5.out.is_ oi0 (by omega))
        rw [← hmx, ← hcc] at HPt
        have HMx := Lib.hid hmx
        have HCc := Lib.hid hcc
        clear hmx hcc
        go_wp2_with fail
        refine HPt.out.mono ?_
        rintro e w6 ⟨⟨ve, vm, vg, us, rfl, hnew⟩, hb6⟩
        have hd6 := HD5.out.below hb6
        have hU6 : ∀ k, U k → U k ∨ w5.heap.size ≤ k := fun _ e => .inl e
        have ho6 : OnlyS U w5 w6 := OnlyS.of_below hb6 fun _ hk _ => hk
        clear hb6
        have HNew := Lib.hid hnew
        have HD6 := Lib.hid hd6
        have HU6 := Lib.hid hU6
        have HO6 := Lib.hid ho6
        have HB96 := Lib.hid (HB9.out.onlyS ho6 (fun e => by have := HG.out.2.2.2.1 _ e; have := HG.out; omega))
        have HB106 := Lib.hid (HB10.out.onlyS ho6 (fun e => by have := HG.out.2.2.2.1 _ e; have := HG.out; omega))
        have HB66 := Lib.hid (HB65.out.onlyS ho6 (fun e => by have := HG.out.2.2.2.1 _ e; have := HG.out; omega))
        have HS6 := Lib.hid ho6.size
        clear hnew hd6 hU6 ho6 HPt c61
        go_wp2_with (refine wpList_store_all rfl 36 (.tmp 9) (.tmp 98) rfl G9 (mgC mx ve vm vg) rfl rfl 36 zeroM HB96.out (mgM_info _ _ _ _) rfl (mgC_one HNew.out.has) ?_; intro w7 hb ho; (have HB97 := Lib.hid hb); (have HO7 := Lib.hid ho); (have c61 : w7.cell? ⟨G6, 1, none⟩ = some (.int .i64 o.i) := by rw [(HB66.out.onlyS ho (by have := HG.out; omega)).cell]; rfl); clear hb ho)
        have HS7 := Lib.hid HO7.out.size
        have hd7 := HD6.out.write (S := fun k => k = G9) HO7.out (fun k e => .inl e) (fun k e e2 => by
            have e2 : k = G9 := e2
            have := HG.out; have := HB10l.out
            rcases HU6.out k e with e | e
            · have := HG.out.2.2.2.1 k e; omega
            · omega) (fun e => by have e : R = G9 := e; have := HG.out; omega) (fun k e e2 => by have e2 : k = G9 := e2; have := HG.out.2.2.2.2.2.1 k e; have := HG.out; omega) (fun k e e2 => by have e2 : k = G9 := e2; have := HG.out.2.2.2.2.2.2 k e; have := HG.out; omega)
        have HD7 := Lib.hid hd7
        clear hd7
        refine (duo_at HD7.out o.i).mono ?_
        rw [← HMx.out, ← HCc.out]
        rintro e w8 ⟨⟨ye, ym, yg, yus, rfl, hy⟩, hb8⟩
        have hd8 := HD7.out.below hb8
        have ho8 : OnlyS (fun k => k = R) w7 w8 := OnlyS.of_below hb8 fun _ hk _ => hk
        have hL8 : ∀ k, vL.ownBlock = some k → vL.ownBlock = some k ∨ w7.heap.size ≤ k := fun _ e => .inl e
        clear hb8
        have HY := Lib.hid hy
        have HD8 := Lib.hid hd8
        have HO8 := Lib.hid ho8
        have HL8 := Lib.hid hL8
        have HB108 := Lib.hid ((HB106.out.onlyS HO7.out (by have := HG.out; omega)).onlyS ho8 (by have := HG.out; omega))
        clear hy hd8 ho8 hL8 c61
        go_wp2_with (refine wpList_store_all rfl 36 (.tmp 10) (.tmp 105) rfl (G9 + 1) (mgC mx ye ym yg) rfl rfl 36 zeroM HB108.out (mgM_info _ _ _ _) rfl (mgC_one HY.out.now) ?_; intro w9 hb ho; (have HB109 := Lib.hid hb); (have HO9 := Lib.hid ho); clear hb ho)
        have hd9 := HD8.out.write (S := fun k => k = G9 + 1) HO9.out (fun k e => .inr e) (fun k e e2 => by
            have e2 : k = G9 + 1 := e2
            have := HG.out; have := HB10l.out
            rcases HU6.out k e with e | e
            · have := HG.out.2.2.2.1 k e; omega
            · omega) (fun e => by have e : R = G9 + 1 := e; have := HG.out; omega) (fun k e e2 => by
            have e2 : k = G9 + 1 := e2
            have := HB10l.out; have := HS6.out; have := HS7.out; have := HG.out
            rcases HL8.out k e with e | e
            · have := HG.out.2.2.2.2.2.1 k e; omega
            · omega) (fun k e e2 => by have e2 : k = G9 + 1 := e2; have := HG.out.2.2.2.2.2.2 k e; have := HG.out; omega)
        have HOn : OnlyS (fun k => U k ∨ k = R ∨ k = G9 ∨ k = G9 + 1) w5 w9 := (((HO6.out.mono fun k _ e => .inl e).then HO7.out fun k _ e => .inr (.inr (.inl e))).then HO8.out fun k _ e => .inr (.inl e)).then HO9.out fun k _ e => .inr (.inr (.inr e))
        have hx9 : MHas w9 mx ve vm vg us := (HNew.out w9 fun k h1 h2 => by
            have := HB10l.out; have := HG.out
            have s7 := HO7.out.size
            have s8 := HO8.out.size
            rw [HO9.out.block k (by omega) (by show ¬ k = G9 + 1; omega), HO8.out.block k (by omega) (by show ¬ k = R; omega), HO7.out.block k h2 (by show ¬ k = G9; omega)]).1
        have hy9 : MHas w9 mx ye ym yg yus := (HY.out.step (Y' := fun _ => False) HO9.out (fun k _ e => .inr (.inr (.inr e))) (fun _ _ e => e.elim)).now
        have hbe : Below w.heap.size w w9 := HB5.out.trans (HOn.below (fun k hk e => by
            have := HZ.out; have := HD5.out.rz; have := HG.out
            rcases e with e | e | e | e
            · have := HD5.out.uz k e; omega
            · omega
            · omega
            · omega) HB5.out.size)
        have hn6 : ¬ (U G6 ∨ G6 = R ∨ G6 = G9 ∨ G6 = G9 + 1) := fun e => by
          have := HG.out
          rcases e with e | e | e | e
          · have := HG.out.2.2.2.1 _ e; omega
          all_goals omega
        exact HT.out _ _ _ _ _ _ _ _ _ _ _ _ _ _ _ _ _ _ _ _ _ _ _ _ _ _ _ _ _ _ _ _ _ _ _ _ _ _ _ _ _ _ _ _ _ _ _ _ _ _ _ _ _ _ _ _ _ _ _ _ _ _ _ _ _ _ _ _ _ _ _ _ _ _ _ _ _ _ _ _ _ _ _ _ _ _ _ _ _ _ _ _ _ _ _ _ _ _ _ _ _ _ _ _ _ _ _ _ _ _ _ _ _ _ _ _ _ _ _ _ _ _ _ _ _ _ _ _ _ _ _ _ _ _ _ _ _ _ _ _ _ _ _ _ _ _ _ _ _ _ _ _ _ _ w9 cc _ _ _ _ _ _ _ _ _ _ _ _ _ _ hd9.free (by omega) (HB65.out.onlyS HOn hn6) ((HB97.out.onlyS HO8.out (by have := HG.out; omega)).onlyS HO9.out (by omega)) HB109.out hx9 hy9 hbe
      · obtain ⟨cc, hcc⟩ : ∃ q, q = (n.twice o.i).1 := ⟨_, rfl⟩
        have HPt := Lib.hid (hp.twice o.i HD5.out.is_ oi0 (by omega))
        rw [← hcc] at HPt
        have HCc := Lib.hid hcc
        clear hcc
        go_wp2_with fail
        refine HPt.out.mono ?_
        intro e w6 hh
        obtain ⟨rfl, U6, hd6, hU6, ho6⟩ := HD5.out.prog hh
        have HD6 := Lib.hid hd6
        have HO6 := Lib.hid ho6
        have HB66 := Lib.hid (HB65.out.onlyS ho6 (fun e => by have := HG.out.2.2.2.1 _ e; omega))
        clear hh hd6 hU6 ho6 HPt c61
        have c61 : w6.cell? ⟨G6, 1, none⟩ = some (.int .i64 o.i) := by rw [HB66.out.cell]; rfl
        go_wp2_with fail
        refine (duo_twice HD6.out hw1000 o.i).mono ?_
        rw [← HCc.out]
        rintro e w7 ⟨rfl, vL7, xs7, hd7, ho7⟩
        have HD7 := Lib.hid hd7
        have HO7 := Lib.hid ho7
        clear hd7 ho7 c61
        go_wp2_with fail
        have HOn : OnlyS (fun k => U k ∨ k = R) w5 w7 := (HO6.out.mono fun k _ e => .inl e).then HO7.out fun k _ e => .inr e
        have hnu : ∀ g, G6 ≤ g → ¬ (U g ∨ g = R) := fun g hg e => by
          have := HG.out
          rcases e with e | e
          · have := HG.out.2.2.2.1 g e; omega
          · omega
        have hbe : Below w.heap.size w w7 := HB5.out.trans (HOn.below (fun k hk e => by
            have := HZ.out; have := HD5.out.rz; have := HG.out
            rcases e with e | e
            · have := HD5.out.uz k e; omega
            · omega) HB5.out.size)
        exact HT.out _ _ _ _ _ _ _ _ _ _ _ _ _ _ _ _ _ _ _ _ _ _ _ _ _ _ _ _ _ _ _ _ _ _ _ _ _ _ _ _ _ _ _ _ _ _ _ _ _ _ _ _ _ _ _ _ _ _ _ _ _ _ _ _ _ _ _ _ _ _ _ _ _ _ _ _ _ _ _ _ _ _ _ _ _ _ _ _ _ _ _ _ _ _ _ _ _ _ _ _ _ _ _ _ _ _ _ _ _ _ _ _ _ _ _ _ _ _ _ _ _ _ _ _ _ _ _ _ _ _ _ _ _ _ _ _ _ _ _ _ _ _ _ _ _ _ _ _ _ _ _ _ _ _ w7 cc _ _ _ _ _ _ _ _ _ _ _ _ _ _ HD7.out.free (by rw [twice_ways]; omega) (HB65.out.onlyS HOn (hnu _ (Nat.le_refl _))) (HB9.out.onlyS HOn (hnu _ (by have := HG.out; omega))) (HB10.out.onlyS HOn (hnu _ (by have := HG.out; omega))) (MHas.zero _) (MHas.zero _) hbe
      · have HPt := Lib.hid (hp.block o.a o.b o.yes HD5.out.is_ HOk.out.a1 HOk.out.b1 hw1000)
        have c62 : w5.cell? ⟨G6, 2, none⟩ = some (.int .u64 (o.a : Int)) := by rw [HB65.out.cell]; rfl
        have c63 : w5.cell? ⟨G6, 3, none⟩ = some (.int .u64 (o.b : Int)) := by rw [HB65.out.cell]; rfl
        have c64 : w5.cell? ⟨G6, 4, none⟩ = some (.bool o.yes) := by rw [HB65.out.cell]; rfl
        go_wp2_with fail
        refine HPt.out.mono ?_
        intro e w6 hh
        obtain ⟨rfl, U6, hd6, hU6, ho6⟩ := HD5.out.prog hh
        have HD6 := Lib.hid hd6
        have HO6 := Lib.hid ho6
        have HB66 := Lib.hid (HB65.out.onlyS ho6 (fun e => by have := HG.out.2.2.2.1 _ e; omega))
        clear hh hd6 hU6 ho6 HPt c61 c62 c63 c64
        have c62 : w6.cell? ⟨G6, 2, none⟩ = some (.int .u64 (o.a : Int)) := by rw [HB66.out.cell]; rfl
        have c63 : w6.cell? ⟨G6, 3, none⟩ = some (.int .u64 (o.b : Int)) := by rw [HB66.out.cell]; rfl
        have c64 : w6.cell? ⟨G6, 4, none⟩ = some (.bool o.yes) := by rw [HB66.out.cell]; rfl
        go_wp2_with fail
        refine (duo_block HD6.out hw1000 o.a o.b o.yes).mono ?_
        rintro e w7 ⟨rfl, vW7, hd7, ho7⟩
        have HD7 := Lib.hid hd7
        have HO7 := Lib.hid ho7
        clear hd7 ho7 c62 c63 c64
        go_wp2_with fail
        have HOn : OnlyS (fun k => U k ∨ k = R) w5 w7 := (HO6.out.mono fun k _ e => .inl e).then HO7.out fun k _ e => .inr e
        have hnu : ∀ g, G6 ≤ g → ¬ (U g ∨ g = R) := fun g hg e => by
          have := HG.out
          rcases e with e | e
          · have := HG.out.2.2.2.1 g e; omega
          · omega
        have hbe : Below w.heap.size w w7 := HB5.out.trans (HOn.below (fun k hk e => by
            have := HZ.out; have := HD5.out.rz; have := HG.out
            rcases e with e | e
            · have := HD5.out.uz k e; omega
            · omega) HB5.out.size)
        exact HT.out _ _ _ _ _ _ _ _ _ _ _ _ _ _ _ _ _ _ _ _ _ _ _ _ _ _ _ _ _ _ _ _ _ _ _ _ _ _ _ _ _ _ _ _ _ _ _ _ _ _ _ _ _ _ _ _ _ _ _ _ _ _ _ _ _ _ _ _ _ _ _ _ _ _ _ _ _ _ _ _ _ _ _ _ _ _ _ _ _ _ _ _ _ _ _ _ _ _ _ _ _ _ _ _ _ _ _ _ _ _ _ _ _ _ _ _ _ _ _ _ _ _ _ _ _ _ _ _ _ _ _ _ _ _ _ _ _ _ _ _ _ _ _ _ _ _ _ _ _ _ _ _ _ _ w7 0 _ _ _ _ _ _ _ _ _ _ _ _ _ _ HD7.out.free (Nat.le_trans (block_len n o.a o.b o.yes) (by omega)) (HB65.out.onlyS HOn (hnu _ (Nat.le_refl _))) (HB9.out.onlyS HOn (hnu _ (by have := HG.out; omega))) (HB10.out.onlyS HOn (hnu _ (by have := HG.out; omega))) (MHas.zero _) (MHas.zero _) hbe
      · have hnu : ∀ g, G6 ≤ g → ¬ (U g ∨ g = R) := fun g hg e => by
          have := HG.out
          rcases e with e | e
          · have := HG.out.2.2.2.1 g e; omega
          · omega
        have HNu := Lib.hid hnu
        clear hnu
        have HWl := Lib.hid hw1000
        have hti : -300 < o.i.tmod 300 ∧ o.i.tmod 300 < 300 := ⟨Int.lt_tmod_of_pos o.i (b := 300) (by decide), Int.tmod_lt_of_pos o.i (by decide)⟩
        have HTi := Lib.hid hti
        clear c61 hti
        go_wp2_with fail
        go_loopw [7, 8, 12] (fun s7 s8 s12 wx => ∃ (k cc : Nat) (nn : Nt) (U' : Nat → Prop) (vL' : Value) (xs' : List MM), s12 = .int .i64 (k : Int) ∧ s7 = .int .i64 (cc : Int) ∧ s8 = .int .i64 (cc : Int) ∧ Duo hp w1.heap.size (fun _ => False) wx P R nn nn U' vL' vW xs' ∧ nn.W = n.W ∧ (∀ j, U' j → U j ∨ w5.heap.size ≤ j) ∧ OnlyS (fun j => U j ∨ j = R) w5 wx ∧ k ≤ 300) (fun _ _ s12 _ => 300 - (intOf s12).toNat)
        case atStart => exact ⟨0, 0, n, U, vL, xs, rfl, rfl, rfl, HD5.out.free, rfl, fun _ e => .inl e, OnlyS.refl _ _, by omega⟩
        case round =>
          obtain ⟨k, cc, nn, U', vL', xs', rfl, rfl, rfl, hd, hnW, hU', hor, hk3⟩ := hrel
          have HDr := Lib.hid hd
          have HNW := Lib.hid hnW
          have HUr := Lib.hid hU'
          have HOr := Lib.hid hor
          have k0 : (0 : Int) ≤ (k : Int) := Int.natCast_nonneg _
          have c61 : wr.cell? ⟨G6, 1, none⟩ = some (.int .i64 o.i) := by rw [(HB65.out.onlyS hor (HNu.out _ (Nat.le_refl _))).cell]; rfl
          clear hd hnW hU' hor
          by_cases hk : (k : Int) < o.i.tmod 300
          · have k300 : k < 300 := by have := HTi.out; omega
            have hv := vote_any (1 + k) wr
            rw [show ((1 + k : Nat) : Int) = 1 + (k : Int) by omega] at hv
            have HV := Lib.hid hv
            clear hv
            go_wp2_with fail
            refine HV.out.mono ?_
            rintro e w6 ⟨rfl, hb6⟩
            have HB6v := Lib.hid hb6
            have HD6 := Lib.hid (HDr.out.below hb6)
            rw [voteC_is]
            have hvh : ∀ V, MHas V (voteM 1 2 (1 + k)) (.slice none 0 0) (.slice none 0 0) (.slice none 0 0) [] := fun V => vote_has V 1 2 (1 + k) (by decide) (by decide) (by omega)
            have HVh := Lib.hid hvh
            clear hb6 c61 HV hvh
            go_wp2_with (first
              | (refine wpList_store_all rfl 36 (.tmp 13) (.tmp 53) rfl w6.heap.size (mgC (voteM 1 2 (1 + k)) (.slice none 0 0) (.slice none 0 0) (.slice none 0 0)) rfl rfl 36 zeroM (Blk.new w6 _ _) (mgM_info _ _ _ _) rfl (mgC_one (HVh.out w6)) ?_; intro w7 hb ho; (have HB137 := Lib.hid hb); (have HW7 := Lib.hid (show Below w6.heap.size w6 w7 from ((Below.refl _ _).alloc (Nat.le_refl _) _).trans (ho.below (fun k hk e => by have e : k = w6.heap.size := e; omega) (by simp)))); clear hb ho)
              | (refine wpList_load_by rfl 36 (.tmp 13) rfl _ _ rfl (Blk.loads (P := Try.prog) HB137.out 36 _ Try.underlying36 rfl (mgM_info _ _ _ _)) ?_))
            obtain ⟨cq, hcq⟩ : ∃ q, q = (nn.send (voteM 1 2 (1 + k))).1 := ⟨_, rfl⟩
            have HCq := Lib.hid hcq
            have hS := hp.send (voteM 1 2 (1 + k)) (.slice none 0 0) (.slice none 0 0) (.slice none 0 0) [] (HD6.out.below HW7.out).is_ (HVh.out w7) (by rw [HNW.out]; exact HWl.out)
            rw [← hcq] at hS
            refine hS.mono ?_
            intro e w8 hh
            obtain ⟨rfl, U8, hd8, hU8, ho8⟩ := (HD6.out.below HW7.out).prog hh
            have HD8 := Lib.hid hd8
            have HU8 := Lib.hid hU8
            have HO8 := Lib.hid ho8
            have HB138 := Lib.hid (HB137.out.onlyS ho8 (fun e => by have := hp.lt HD6.out.is_ _ e; omega))
            clear hS hh hd8 hU8 ho8 hcq
            go_wp2_with (refine wpList_load_by rfl 36 (.tmp 13) rfl _ _ rfl (Blk.loads (P := Try.prog) HB138.out 36 _ Try.underlying36 rfl (mgM_info _ _ _ _)) ?_)
            refine (duo_send HD8.out (by rw [HNW.out]; exact HWl.out) ⟨(voteM 1 2 (1 + k)), .slice none 0 0, .slice none 0 0, .slice none 0 0, []⟩ (Stay.all HVh.out)).mono ?_
            rintro e w9 ⟨he9, vL9, xs9, hd9, ho9, -⟩
            rw [show (nn.send (⟨(voteM 1 2 (1 + k)), .slice none 0 0, .slice none 0 0, .slice none 0 0, []⟩ : MM).m).1 = cq from HCq.out.symm] at he9
            subst he9
            have HD9 := Lib.hid hd9
            have HO9 := Lib.hid ho9
            clear hd9 ho9
            go_wp2_with fail
            go_roundw
            case rel => exact ⟨k + 1, cq, _, U8, vL9, xs9, by go_num, rfl, rfl, HD9.out, (send_ways _ _).trans HNW.out, fun j e => (HU8.out j e).elim (HUr.out j) (fun e => by have := HB6v.out.size; have := HW7.out.size; have := HOr.out.size; exact .inr (by omega)),
              ((((HOr.out.then (OnlyS.of_below (S := fun _ => False) HB6v.out fun _ hk _ => hk) (fun _ _ e => e.elim)).then (OnlyS.of_below (S := fun _ => False) HW7.out fun _ hk _ => hk) (fun _ _ e => e.elim)).then HO8.out (fun j hj e => (HUr.out j e).elim .inl (fun e => by omega))).then HO9.out (fun j _ e => .inr e)), by omega⟩
            case measure => simp [intOf]; omega
          · go_wp2_with fail
            have HOn := HOr.out
            have hbelwr : Below w.heap.size w wr := HB5.out.trans (OnlyS.below HOn (fun k hk e => by
                have := HZ.out; have := HD5.out.rz; have := HG.out
                rcases e with e | e
                · have := HD5.out.uz k e; omega
                · omega) HB5.out.size)
            exact HT.out _ _ _ _ _ _ _ _ _ _ _ _ _ _ _ _ _ _ _ _ _ _ _ _ _ _ _ _ _ _ _ _ _ _ _ _ _ _ _ _ _ _ _ _ _ _ _ _ _ _ _ _ _ _ _ _ _ _ _ _ _ _ _ _ _ _ _ _ _ _ _ _ _ _ _ _ _ _ _ _ _ _ _ _ _ _ _ _ _ _ _ _ _ _ _ _ _ _ _ _ _ _ _ _ _ _ _ _ _ _ _ _ _ _ _ _ _ _ _ _ _ _ _ _ _ _ _ _ _ _ _ _ _ _ _ _ _ _ _ _ _ _ _ _ _ _ _ _ _ _ _ _ _ _ wr cc _ _ _ _ _ _ _ _ _ _ _ _ _ _ HDr.out (by rw [HNW.out]; omega) (HB65.out.onlyS HOn (HNu.out _ (Nat.le_refl _))) (HB9.out.onlyS HOn (HNu.out _ (by have := HG.out; omega))) (HB10.out.onlyS HOn (HNu.out _ (by have := HG.out; omega))) (MHas.zero _) (MHas.zero _) hbelwr
    · have h40 : (i < N ∧ ¬ i < 40) ∨ ¬ i < N := by omega
      clear hlt
      rcases h40 with ⟨h1, h2⟩ | h1
      · have i1 : (i : Int) < (N : Int) := by omega
        have i2 : ¬ (i : Int) < 40 := by omega
        go_wp2_with fail
        refine (netSame_any HD.out).mono ?_
        rintro e w4 ⟨rfl, hb⟩
        have HB4 := Lib.hid (HB.out.trans (hb.mono HB.out.size))
        clear hb
        go_wp2
        go_ret
        exact ⟨rfl, HB4.out⟩
      · have i1 : ¬ (i : Int) < (N : Int) := by omega
        go_wp2_with fail
        refine (netSame_any HD.out).mono ?_
        rintro e w4 ⟨rfl, hb⟩
        have HB4 := Lib.hid (HB.out.trans (hb.mono HB.out.size))
        clear hb
        go_wp2
        go_ret
        exact ⟨rfl, HB4.out⟩
end Go.Proofs.Ytgbhfolbkgibfaa

