/- WalAll: the walk. -/
import Derived.Test.YthaggdkfaglgaaaGreatDoorJY1
namespace Go.Proofs.YthaggdkfaglgaaaGreatDoor
set_option maxRecDepth 20000
open Go.RowKit Go.Maps DiskMath WalMath FrameMath Reg

theorem one_script {W : World} {g : Nat} {o : WOp} {lA : Option Addr} {lC : Nat} {lKA : Option Addr} {lKC : Nat} {fr : Nat × Nat} (hg : W.heap[g]? = some (.cells #[.int .i64 o.kind, .int .i64 o.n, .slice lA o.b.length lC, .slice lKA o.keep.length lKC] 30 fr)) (hok : WOk o) (hb : Bys W (.slice lA o.b.length lC) o.b) (hk : Bls W (.slice lKA o.keep.length lKC) o.keep) :
    ScriptAt W (some ⟨g, 0, none⟩) [o] := fun i o' hi => by
  obtain rfl : i = 0 := by
    have := (List.getElem?_eq_some_iff.1 hi).1
    simp at this
    exact this
  obtain rfl : o = o' := by simpa using hi
  have c := fun n => cell_of_heap (i := n) hg
  exact ⟨hok, ⟨g, 0, none⟩, lA, lC, lKA, lKC, rfl, c 0, c 1, c 2, c 3, hb, hk⟩

set_option maxHeartbeats 4000000 in
set_option maxRecDepth 100000 in
theorem walAll_any {w : World} (ht : Tab w) (he : Err w) {a : Option Addr} {len cap : Nat} {L : List WOp} (hl : L.length = len) (hs : ScriptAt w a L) (hlen : len ≤ 9223372036854775807) {lo : WOp} {lA : Option Addr} {lC : Nat} {lKA : Option Addr} {lKC : Nat} (hlo : WOk lo) (hlb : Bys w (.slice lA lo.b.length lC) lo.b) (hlk : Bls w (.slice lKA lo.keep.length lKC) lo.keep)
    {ka : Option Addr} {nk ck : Nat} {ks : List Bool} (hk : Bls w (.slice ka nk ck) ks) (hnk : ks.length = nk) (hnk2 : nk ≤ 9223372036854775807) (torn : Int) :
    Calls Tryz.prog 4 #[.slice a len cap, .agg #[.int .i64 lo.kind, .int .i64 lo.n, .slice lA lo.b.length lC, .slice lKA lo.keep.length lKC], .slice ka nk ck, .int .i64 torn] w fun e w' => e = .returned (.bool true) ∧ Below w.heap.size w w' := by
  obtain ⟨lkd, hlkd⟩ : ∃ x, x = lo.kind := ⟨_, rfl⟩
  obtain ⟨lon, hlon⟩ : ∃ x, x = lo.n := ⟨_, rfl⟩
  obtain ⟨lbl, hlbl⟩ : ∃ x, x = lo.b.length := ⟨_, rfl⟩
  obtain ⟨lkl, hlkl⟩ : ∃ x, x = lo.keep.length := ⟨_, rfl⟩
  have HOne := Lib.hid (fun (W : World) (g : Nat) (fr : Nat × Nat) (hW : Below w.heap.size w W) (hg : W.heap[g]? = some (.cells #[.int .i64 lkd, .int .i64 lon, .slice lA lbl lC, .slice lKA lkl lKC] 30 fr)) => show ScriptAt W (some ⟨g, 0, none⟩) [lo] from one_script (by rw [hlkd, hlon, hlbl, hlkl] at hg; exact hg) hlo (hlb.below (Nat.le_refl _) hW) (hlk.below hW))
  have hkb : -9223372036854775808 ≤ lkd ∧ lkd ≤ 9223372036854775807 := by rw [hlkd]; exact hlo.kind
  have hnb : -9223372036854775808 ≤ lon ∧ lon ≤ 9223372036854775807 := by rw [hlon]; exact hlo.n
  rw [← hlbl] at hlb
  rw [← hlkd, ← hlon, ← hlbl, ← hlkl]
  obtain ⟨q1, kl, hq1, hq1b, hq2, hkl4⟩ := five_kind lkd
  have HQ1 := Lib.hid hq1
  have HQ1b := Lib.hid hq1b
  have HQ2 := Lib.hid hq2
  have HKl4 := Lib.hid hkl4
  have HLkb := Lib.hid hkb
  have HNb := Lib.hid hnb
  have HLbl := Lib.hid hlbl
  have HLb := Lib.hid hlb
  have HL := Lib.hid hl
  have HLen := Lib.hid hlen
  have HNk := Lib.hid hnk
  have HNk2 := Lib.hid hnk2
  have HTw := Lib.hid ht
  have HEw := Lib.hid he
  have HSw := Lib.hid hs
  have HKw := Lib.hid hk
  clear ht he hl hs hlen hk hnk hnk2 hlo hlb hlk hlkd hlon hlbl hlkl hkb hnb hq1 hq1b hq2 hkl4
  go_enter Tryz.func4, Tryz.ntmps4
  go_wp2_with fail
  obtain ⟨W0, hW0⟩ : ∃ W0, W0 = w.alloc (.cells #[.int .i64 lkd, .int .i64 lon, .slice lA lbl lC, .slice lKA lkl lKC] 30) := ⟨_, rfl⟩
  obtain ⟨b0, hb0⟩ : ∃ b0, b0 = w.heap.size := ⟨_, rfl⟩
  have hbox : Blk W0 b0 30 #[.int .i64 lkd, .int .i64 lon, .slice lA lbl lC, .slice lKA lkl lKC] := by rw [hW0, hb0]; exact Blk.new w _ _
  have hb00 : Below w.heap.size w W0 := by rw [hW0]; exact (Below.refl _ w).alloc (Nat.le_refl _) _
  rw [← hW0, ← hb0]
  have HBox := Lib.hid hbox
  have HB00 := Lib.hid hb00
  have HT := Lib.hid (HTw.out.below (Nat.le_refl _) hb00)
  have HE := Lib.hid (HEw.out.below hb00)
  have HS := Lib.hid (HSw.out.below hb00)
  have HK := Lib.hid (HKw.out.below hb00)
  have HLb0 := Lib.hid (HLb.out.below (Nat.le_refl _) hb00)
  have HAw := Lib.hid (fun (W : World) (hW : Below W0.heap.size W0 W) => wawake_any (HT.out.below (Nat.le_refl _) hW) (HE.out.below hW))
  have HFin := Lib.hid (fun (W : World) (hW : Below W0.heap.size W0 W) => HB00.out.trans (hW.mono HB00.out.size))
  have HCb := Lib.hid (fun (W : World) (hW : Below W0.heap.size W0 W) => show W.cell? ⟨b0, 0, none⟩ = some (.int .i64 lkd) ∧ W.cell? ⟨b0, 1, none⟩ = some (.int .i64 lon) ∧ W.cell? ⟨b0, 2, none⟩ = some (.slice lA lbl lC) ∧ W.cell? ⟨b0, 3, none⟩ = some (.slice lKA lkl lKC) from by
    have h := HBox.out.keep hW
    exact ⟨by rw [h.cell]; rfl, by rw [h.cell]; rfl, by rw [h.cell]; rfl, by rw [h.cell]; rfl⟩)
  clear hW0 hb0 hbox hb00 HTw HEw HSw HKw HLb
  refine (HAw.out W0 (Below.refl _ _)).mono ?_
  rintro e w1 ⟨rfl, hb1⟩
  have HB1 := Lib.hid hb1
  have HFew := Lib.hid (few_any (cap := cap) (HS.out.below hb1) HL.out HLen.out)
  clear hb1
  go_wp2_with fail
  refine HFew.out.mono ?_
  rintro e w' ⟨⟨t, rfl, hfew⟩, rfl⟩
  clear HFew
  cases t with
  | false =>
    clear hfew
    go_wp2_with fail
    refine (HAw.out w1 HB1.out).mono ?_
    rintro e w2 ⟨rfl, hb2⟩
    have HB2 := Lib.hid (HFin.out w2 (HB1.out.trans (hb2.mono HB1.out.size)))
    clear hb2
    go_wp2
    go_ret
    exact ⟨rfl, HB2.out⟩
  | true =>
    have HF := Lib.hid (hfew rfl)
    clear hfew
    obtain ⟨c0, c1, c2, c3⟩ := HCb.out w1 HB1.out
    go_wp2_with fail
    have hb1b : Below w1.heap.size w1 (w1.alloc (.cells #[.int .i64 lkd, .int .i64 lon, .slice lA lbl lC, .slice lKA lkl lKC] 30)) := (Below.refl _ _).alloc (Nat.le_refl _) _
    have hb2 : Below W0.heap.size W0 (w1.alloc (.cells #[.int .i64 lkd, .int .i64 lon, .slice lA lbl lC, .slice lKA lkl lKC] 30)) := HB1.out.trans (hb1b.mono HB1.out.size)
    have HFew2 := Lib.hid (few_any (len := 1) (cap := 1) (HOne.out _ w1.heap.size (0, 0) (HFin.out _ hb2) (heap_alloc_new w1 _)) rfl (by decide))
    have HB2 := Lib.hid hb2
    clear hb1b hb2 c0 c1 c2 c3
    refine HFew2.out.mono ?_
    rintro e w2 ⟨⟨t, rfl, hfew⟩, hw2⟩
    rw [hw2] at HB2
    clear HFew2 hw2
    cases t with
    | false =>
      clear hfew
      go_wp2_with fail
      refine (HAw.out w2 HB2.out).mono ?_
      rintro e w3 ⟨rfl, hb3⟩
      have HB3 := Lib.hid (HFin.out w3 (HB2.out.trans (hb3.mono HB2.out.size)))
      clear hb3
      go_wp2
      go_ret
      exact ⟨rfl, HB3.out⟩
    | true =>
      have hl16 : lbl ≤ 65536 := by rw [HLbl.out]; exact hfew rfl 0 lo rfl (by decide)
      have HL16 := Lib.hid hl16
      clear hfew hl16
      by_cases hl15 : 15 < len
      · have i1 : (len : Int) > 15 := by omega
        go_wp2_with fail
        refine (HAw.out w2 HB2.out).mono ?_
        rintro e w3 ⟨rfl, hb3⟩
        have HB3 := Lib.hid (HFin.out w3 (HB2.out.trans (hb3.mono HB2.out.size)))
        clear hb3
        go_wp2
        go_ret
        exact ⟨rfl, HB3.out⟩
      · have i1 : ¬ (len : Int) > 15 := by omega
        go_wp2
        clear i1
        go_loopw [9] (fun s9 wr => ∃ j : Nat, j ≤ 12 ∧ s9 = .int .i64 j ∧ Hid (Below W0.heap.size W0 wr)) (fun s9 _ => 12 - (intOf s9).toNat)
        case atStart => exact ⟨0, by decide, rfl, HB2⟩
        case round =>
          obtain ⟨j, hj, rfl, HBr⟩ := hrel
          have j0 : (0 : Int) ≤ (j : Int) := Int.natCast_nonneg _
          clear HB1 HB2
          by_cases hj12 : j < 12
          · have j1 : (j : Int) < 12 := by omega
            go_wp2_with fail
            refine (play_begin HBr.out HT.out HE.out).mono ?_
            rintro e w4 ⟨B, s0, rfl, hp0, hc0, hb4⟩
            have HP0 := Lib.hid hp0
            have HC0 := Lib.hid hc0
            clear hp0 hc0 hb4 j1
            go_wp2
            go_loopw [11] (fun s11 wr => ∃ (i : Nat) (s : St) (V : WS), i ≤ len ∧ s11 = .int .i64 i ∧ Hid (PlayR W0 B s V i wr) ∧ Hid (Calm s)) (fun s11 _ => len - (intOf s11).toNat)
            case atStart => exact ⟨0, s0, noW, Nat.zero_le _, rfl, HP0, HC0⟩
            case round =>
              obtain ⟨i, s, V, hi, rfl, HP, HCm⟩ := hrel
              have i0 : (0 : Int) ≤ (i : Int) := Int.natCast_nonneg _
              by_cases hlt : i < len
              · have i1 : (i : Int) < (len : Int) := by omega
                have i2 : decide (i < len) = true := by simpa using hlt
                clear HP0 HC0
                obtain ⟨o, ho⟩ : ∃ o, L[i]? = some o := ⟨L[i]'(by have := HL.out; omega), List.getElem?_eq_getElem _⟩
                obtain ⟨hok, ad, bA, bC, KA, KC, rfl, c0, c1, c2, c3, hby, hbl⟩ := HS.out i o ho
                have hbl16 := HF.out i o ho (by omega)
                have hidx : ∀ W, (Instr.indexAt 22 (.slice (some ad) len cap) (.int .i64 (i : Int))).run Tryz.prog W = .ok (.pointer (some (ad.add (i * 4)))) W := fun W => script_index W ad len cap i hlt
                obtain ⟨p, hp⟩ : ∃ p, p = ad.add (i * 4) := ⟨_, rfl⟩
                rw [← hp] at hidx c0 c1 c2 c3
                obtain ⟨kd, hkd⟩ : ∃ kd, kd = o.kind := ⟨_, rfl⟩
                obtain ⟨on, hon⟩ : ∃ on, on = o.n := ⟨_, rfl⟩
                obtain ⟨bl, hbl2⟩ : ∃ bl, bl = o.b.length := ⟨_, rfl⟩
                obtain ⟨kl, hkl⟩ : ∃ kl, kl = o.keep.length := ⟨_, rfl⟩
                rw [← hkd] at c0
                rw [← hon] at c1
                rw [← hbl2] at c2 hby hbl16
                rw [← hkl] at c3
                have hkb : -9223372036854775808 ≤ kd ∧ kd ≤ 9223372036854775807 := by rw [hkd]; exact hok.kind
                obtain ⟨k1, k, hk1, hk1b, hk2, hk4⟩ := five_kind kd
                have HCl := Lib.hid (fun (W : World) (hW : Below wr.heap.size wr W) => show W.cell? p = some (.int .i64 kd) ∧ W.cell? ⟨p.block, p.off + 1, none⟩ = some (.int .i64 on) ∧ W.cell? ⟨p.block, p.off + 2, none⟩ = some (.slice bA bl bC) ∧ W.cell? ⟨p.block, p.off + 3, none⟩ = some (.slice KA kl KC) from by
                  have hW2 := HP.out.bel.trans (hW.mono HP.out.bel.size)
                  have hc : ∀ {q : Addr} {u : Value}, W0.cell? q = some u → W.cell? q = some u := fun {q u} hq => by rw [hW2.cell (World.block_lt_of_cell? W0 _ hq)]; exact hq
                  exact ⟨hc c0, hc c1, hc c2, hc c3⟩)
                have hon2 : -9223372036854775808 ≤ on ∧ on ≤ 9223372036854775807 := by rw [hon]; exact hok.n
                have hcall := fun (W : World) (hW : Below wr.heap.size wr W) => play_call (ka := KA) (kn := kl) (kc := KC) (kd := kd) (HP.out.below hW) (by omega) HT.out hon2 hby hbl2.symm (by omega) k hk4
                have HCall := Lib.hid hcall
                have hK4 := Lib.hid hk4
                clear hok c0 c1 c2 c3 hby hbl hbl16 hp hkd hon hbl2 hkl hon2 hcall ho hk4
                go_upto_region 12 with fail
                refine region_tail 13 (by kernel_rfl) (by kernel_rfl) (fun W => Below wr.heap.size wr W) ((Below.refl _ _).drew) ?_
                intro Wl hWl
                obtain ⟨c0, c1, c2, c3⟩ := HCl.out Wl hWl
                have HWl := Lib.hid hWl
                clear hWl
                simp only [List.take_succ_cons, List.take_zero, List.drop_succ_cons, List.drop_zero]
                repeat (first | go_big_quiet_skip | (go_big_quiet_want; go_big_quiet_op; go_big_quiet_on))
                refine wpQuiet_nil ?_
                clear c0 c1 c2 c3 hidx hk1 hk1b hk2 hkb
                go_wp2_with fail
                refine (HCall.out Wl HWl.out).mono ?_
                rintro e W2 ⟨rfl, s2, V2, hpl, hcm⟩
                have hcm2 := hcm HCm.out
                have hpr : PlayR W0 B s2 V2 (i + 1) W2 := by
                  rcases hpl with h | ⟨-, h⟩
                  · exact h
                  · exact absurd HCm.out h
                have HPr := Lib.hid hpr
                have HCm2 := Lib.hid hcm2
                clear hpl hcm hcm2 hpr HCall HCl
                go_wp2
                go_roundw
                case rel => exact ⟨i + 1, s2, V2, by omega, by go_num, HPr, HCm2⟩
                case measure => simp [intOf]; omega
              · have i1 : ¬ (i : Int) < (len : Int) := by omega
                have i2 : decide (i < len) = false := by simpa using hlt
                obtain ⟨d, hcd, hfu⟩ := playr_fuse HP.out (by omega)
                have HFu := Lib.hid (hfu (j : Int) (by omega))
                have hi15 : i ≤ 15 := by omega
                clear hfu HP0 HC0 HCm
                go_wp2_with fail
                refine HFu.out.mono ?_
                rintro e w5 ⟨rfl, hp5⟩
                clear hcd
                obtain ⟨c0, c1, c2, c3⟩ := HCb.out w5 hp5.bel
                have hca := play_call (ka := lKA) (kn := lkl) (kc := lKC) (kd := lkd) hp5 (by omega) HT.out HNb.out HLb0.out HLbl.out.symm (by have := HL16.out; omega) kl HKl4.out
                have HCa := Lib.hid hca
                have hq1 := HQ1.out
                have hq1b := HQ1b.out
                have hq2 := HQ2.out
                have hkb := HLkb.out
                clear hp5 hca
                go_wp2_with fail
                clear c0 c1 c2 c3 hq1 hq1b hq2 hkb
                refine HCa.out.mono ?_
                rintro e w6 ⟨rfl, s6, V6, hpl, -⟩
                obtain ⟨hpd, hgd⟩ : PlayD W0 B s6 V6 (i + 1) w6 ∧ ∀ keep torn, Good V6 (s6.crash keep torn).now := by
                  rcases hpl with h | ⟨h, -⟩
                  · exact ⟨h.d, h.good⟩
                  · exact ⟨h.d, h.gone.good⟩
                obtain ⟨d6, hcd, hcr⟩ := play_crash hpd hgd
                have HCr := Lib.hid (hcr ka nk ck ks torn (HK.out.below hpd.bel) HNk.out HNk2.out)
                have HG6 := Lib.hid (hgd ks torn)
                clear hpl hpd hgd hcr
                go_wp2_with fail
                refine HCr.out.mono ?_
                rintro e w7 ⟨rfl, hp7⟩
                have HOp := Lib.hid (play_open (torn := torn) hp7 rfl rfl HG6.out HT.out HE.out HK.out HNk.out HNk2.out)
                clear hcd hp7
                go_wp2_with fail
                refine HOp.out.mono ?_
                rintro e w8 ⟨rfl, s8, a8, b8, -, -, -, -, hp8, -, hc8⟩
                have HC8 := Lib.hid (hc8 (calm_crash _ _ _))
                have HP8 := Lib.hid hp8
                clear hp8 hc8
                have kc := fun (w : World) (C : Array Value) (n c : Nat) => Lib.run_convert_bytes_const (P := Tryz.prog) w 27 5 C n c Tryz.underlying27 Tryz.underlying5
                go_wp2_with fail
                clear kc
                have hb9 : Below w8.heap.size w8 (w8.alloc (.cells #[.int .u8 109, .int .u8 111, .int .u8 114, .int .u8 101] 5 (4, 5))) := (Below.refl _ _).alloc (Nat.le_refl _) _
                have hx : Bys (w8.alloc (.cells #[.int .u8 109, .int .u8 111, .int .u8 114, .int .u8 101] 5 (4, 5))) (.slice (some ⟨w8.heap.size, 0, none⟩) 4 4) [109, 111, 114, 101] := .inr ⟨_, _, rfl, fun i hi => by
                  rw [addr_add, Nat.zero_add, World.cell?_alloc_mark]
                  match i, hi with
                  | 0, _ => rfl
                  | 1, _ => rfl
                  | 2, _ => rfl
                  | 3, _ => rfl
                  | i + 4, hi => exact absurd hi (by simp)⟩
                have hca := play_call_new (ka := none) (kn := 0) (kc := 0) (kd := 0) (n := 0) HP8.out (by omega) HT.out (by decide) hb9 hx rfl (by decide) (fun _ k hk => by
                  simp [Value.ownBlock] at hk
                  subst hk
                  simp) 0 (by decide)
                have HCa8 := Lib.hid hca
                clear hb9 hx hca
                refine HCa8.out.mono ?_
                rintro e w9 ⟨rfl, s9, V9, hpl, hcm⟩
                have HC9 := Lib.hid (hcm HC8.out)
                have hp9 : PlayR W0 B s9 V9 (i + 1 + 1) w9 := by
                  rcases hpl with h | ⟨-, h⟩
                  · exact h
                  · exact absurd HC8.out h
                have hca := play_call (ka := none) (kn := 0) (kc := 0) (kd := 0) (n := 0) (ba := none) (bn := 0) (bc := 0) (r := []) hp9 (by omega) HT.out (by decide) (.inl ⟨rfl, rfl⟩) rfl (by decide) 2 (by decide)
                have HCa9 := Lib.hid hca
                clear hpl hcm hp9 hca
                go_wp2_with fail
                refine HCa9.out.mono ?_
                rintro e w10 ⟨rfl, s10, V10, hpl, -⟩
                have hp10 : PlayR W0 B s10 V10 (i + 1 + 1 + 1) w10 := by
                  rcases hpl with h | ⟨-, h⟩
                  · exact h
                  · exact absurd HC9.out h
                obtain ⟨d10, hcd, hcr⟩ := play_crash hp10.d hp10.good
                have HCr10 := Lib.hid (hcr ka nk ck ks torn (HK.out.below hp10.bel) HNk.out HNk2.out)
                have HG10 := Lib.hid (hp10.good ks torn)
                clear hpl hp10 hcr
                go_wp2_with fail
                refine HCr10.out.mono ?_
                rintro e w11 ⟨rfl, hp11⟩
                have HOp11 := Lib.hid (play_open (torn := torn) hp11 rfl rfl HG10.out HT.out HE.out HK.out HNk.out HNk2.out)
                clear hcd hp11
                go_wp2_with fail
                refine HOp11.out.mono ?_
                rintro e w12 ⟨rfl, s12, a12, b12, -, -, -, -, hp12, -, -⟩
                have HBn := Lib.hid hp12.bel
                clear hp12 hlt i1 i2
                go_wp2
                go_roundw
                case rel => exact ⟨j + 1, by omega, by go_num, HBn⟩
                case measure => simp [intOf]; omega
          · have j1 : ¬ (j : Int) < 12 := by omega
            have HBf := Lib.hid (HFin.out wr HBr.out)
            go_wp2
            go_ret
            exact ⟨rfl, HBf.out⟩

theorem walAll_all {w : World} (ht : Tab w) (he : Err w) (a : Option Addr) (len cap : Nat) (L : List WOp) (hl : L.length = len) (hs : ScriptAt w a L) (hlen : len ≤ 9223372036854775807 ∧ True) (lo : WOp) (hlo : WOk lo) (lA : Option Addr) (lC : Nat) (lKA : Option Addr) (lKC : Nat) (hlb : Bys w (.slice lA lo.b.length lC) lo.b) (hlk : Bls w (.slice lKA lo.keep.length lKC) lo.keep)
    (ka : Option Addr) (nk ck : Nat) (ks : List Bool) (hnk : ks.length = nk) (hk : Bls w (.slice ka nk ck) ks) (hnk2 : nk ≤ 9223372036854775807 ∧ True) (torn : Int) (_ : (Lit.int .i64 torn).wf = true) :
    Calls Tryz.prog 4 #[.slice a len cap, .agg #[.int .i64 lo.kind, .int .i64 lo.n, .slice lA lo.b.length lC, .slice lKA lo.keep.length lKC], .slice ka nk ck, .int .i64 torn] w fun e w' => e = .returned (.bool true) ∧ Below w.heap.size w w' :=
  walAll_any ht he hl hs hlen.1 hlo hlb hlk hk hnk hnk2.1 torn
end Go.Proofs.YthaggdkfaglgaaaGreatDoor
