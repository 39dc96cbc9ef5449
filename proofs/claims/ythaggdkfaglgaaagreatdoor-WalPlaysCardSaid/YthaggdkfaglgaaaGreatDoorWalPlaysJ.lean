/- WalPlays: the walk. -/
import Derived.Test.YthaggdkfaglgaaaGreatDoorJY1
namespace Go.Proofs.YthaggdkfaglgaaaGreatDoor
set_option maxRecDepth 20000
open Go.RowKit Go.Maps DiskMath WalMath FrameMath Reg

/-- A run between calls, or behind one that was lost. -/
def PlaySt (w : World) (B : Nat) (s : St) (V : WS) (N : Nat) (W : World) (lost : Bool) : Prop := (lost = false ∧ PlayR w B s V N W) ∨ (lost = true ∧ PlayG w B s V N W)

set_option maxHeartbeats 8000000 in
set_option maxRecDepth 100000 in
theorem walPlays_any {w : World} (ht : Tab w) (he : Err w) {a : Option Addr} {len cap : Nat} {L : List WOp} (hl : L.length = len) (hs : ScriptAt w a L) (hlen : len ≤ 9223372036854775807) :
    Calls Tryz.prog 3 #[.slice a len cap] w fun e w' => e = .returned (.bool true) ∧ Below w.heap.size w w' := by
  have HT := Lib.hid ht
  have HE := Lib.hid he
  have HL := Lib.hid hl
  have HS := Lib.hid hs
  have HLen := Lib.hid hlen
  have HAw := Lib.hid (fun (W : World) (hW : Below w.heap.size w W) => wawake_any (ht.below (Nat.le_refl _) hW) (he.below hW))
  clear ht he hl hs hlen
  go_enter Tryz.func3, Tryz.ntmps3
  go_wp2_with fail
  refine (HAw.out w (Below.refl _ _)).mono ?_
  rintro e w1 ⟨rfl, hb1⟩
  have HB1 := Lib.hid hb1
  have HFew := Lib.hid (few_any (cap := cap) (HS.out.below hb1) HL.out HLen.out)
  clear hb1
  go_wp2_with fail
  refine HFew.out.mono ?_
  rintro e w' ⟨⟨t, rfl, hfew⟩, rfl⟩
  clear HFew
  cases t with
  | false =>
    clear hfew
    go_wp2_with fail
    refine (HAw.out w1 HB1.out).mono ?_
    rintro e w2 ⟨rfl, hb2⟩
    have HB2 := Lib.hid (HB1.out.trans (hb2.mono HB1.out.size))
    clear hb2
    go_wp2
    go_ret
    exact ⟨rfl, HB2.out⟩
  | true =>
    have HF := Lib.hid (hfew rfl)
    clear hfew
    go_wp2_with fail
    refine (play_begin HB1.out HT.out HE.out).mono ?_
    rintro e w2 ⟨B, s0, rfl, hp0, -, hb2⟩
    have HP0 := Lib.hid hp0
    clear hp0 hb2 HB1
    go_wp2
    go_loopw [4, 5] (fun s4 s5 wr => ∃ (lost : Bool) (i : Nat) (s : St) (V : WS), i ≤ len ∧ i ≤ 60 ∧ s4 = .bool lost ∧ s5 = .int .i64 i ∧ Hid (PlaySt w B s V i wr lost)) (fun _ s5 _ => 60 - (intOf s5).toNat)
    case atStart => exact ⟨false, 0, s0, noW, Nat.zero_le _, Nat.zero_le _, rfl, rfl, Lib.hid (.inl ⟨rfl, HP0.out⟩)⟩
    case round =>
      obtain ⟨lost, i, s, V, hi, hi60, rfl, rfl, HSt⟩ := hrel
      have i0 : (0 : Int) ≤ (i : Int) := Int.natCast_nonneg _
      clear HP0
      have HEnd : Hid (PlayD w B s V i wr ∧ ∀ keep torn, Good V (s.crash keep torn).now) := Lib.hid (by
        rcases HSt.out with ⟨-, h⟩ | ⟨-, h⟩
        · exact ⟨h.d, h.good⟩
        · exact ⟨h.d, h.gone.good⟩)
      by_cases hlt : i < len
      · have i1 : (i : Int) < (len : Int) := by omega
        have i2 : decide (i < len) = true := by simpa using hlt
        by_cases h60 : i < 60
        · have i3 : decide ((i : Int) < 60) = true := by simp; omega
          obtain ⟨o, ho⟩ : ∃ o, L[i]? = some o := ⟨L[i]'(by have := HL.out; omega), List.getElem?_eq_getElem _⟩
          obtain ⟨hok, ad, bA, bC, KA, KC, rfl, c0, c1, c2, c3, hby, hbl⟩ := HS.out i o ho
          have hbl16 := HF.out i o ho h60
          have hidx : ∀ W, (Instr.indexAt 22 (.slice (some ad) len cap) (.int .i64 (i : Int))).run Tryz.prog W = .ok (.pointer (some (ad.add (i * 4)))) W := fun W => script_index W ad len cap i hlt
          obtain ⟨p, hp⟩ : ∃ p, p = ad.add (i * 4) := ⟨_, rfl⟩
          rw [← hp] at hidx c0 c1 c2 c3
          obtain ⟨kd, hkd⟩ : ∃ kd, kd = o.kind := ⟨_, rfl⟩
          obtain ⟨on, hon⟩ : ∃ on, on = o.n := ⟨_, rfl⟩
          obtain ⟨bl, hbl2⟩ : ∃ bl, bl = o.b.length := ⟨_, rfl⟩
          obtain ⟨kl, hkl⟩ : ∃ kl, kl = o.keep.length := ⟨_, rfl⟩
          rw [← hkd] at c0
          rw [← hon] at c1
          rw [← hbl2] at c2 hby hbl16
          rw [← hkl] at c3 hbl
          have hkb : -9223372036854775808 ≤ kd ∧ kd ≤ 9223372036854775807 := by rw [hkd]; exact hok.kind
          obtain ⟨k1, k, hk1, hk1b, hk2, hk8⟩ := nine_kind kd
          have hcl : ∀ {W : World}, Below w.heap.size w W → W.cell? p = some (.int .i64 kd) ∧ W.cell? ⟨p.block, p.off + 1, none⟩ = some (.int .i64 on) ∧ W.cell? ⟨p.block, p.off + 2, none⟩ = some (.slice bA bl bC) ∧ W.cell? ⟨p.block, p.off + 3, none⟩ = some (.slice KA kl KC) := fun {W} hW2 => by
            have hc : ∀ {q : Addr} {u : Value}, w.cell? q = some u → W.cell? q = some u := fun {q u} hq => by rw [hW2.cell (World.block_lt_of_cell? w _ hq)]; exact hq
            exact ⟨hc c0, hc c1, hc c2, hc c3⟩
          have hon2 : -9223372036854775808 ≤ on ∧ on ≤ 9223372036854775807 := by rw [hon]; exact hok.n
          have HOn := Lib.hid hon2
          have HBy := Lib.hid hby
          have HB2 := Lib.hid hbl2
          have HB16 := Lib.hid hbl16
          have HKs := Lib.hid hbl
          have HKl := Lib.hid hkl
          have HKl9 := Lib.hid hok.keep
          obtain ⟨c0, c1, c2, c3⟩ := hcl HEnd.out.1.bel
          clear hok hby hbl hbl16 hp hkd hon hbl2 hkl hon2 ho hcl
          go_upto_region 12 with fail
          clear c0 c1 c2 c3 hidx hk1 hk1b hk2 hkb
          obtain ⟨wb, hwb⟩ : ∃ wb, wb = wr.alloc (.cells #[.int .i64 kd, .int .i64 on, .slice bA bl bC, .slice KA kl KC] 30) := ⟨_, rfl⟩
          obtain ⟨bo, hbo⟩ : ∃ bo, bo = wr.heap.size := ⟨_, rfl⟩
          have hbx : Blk wb bo 30 #[.int .i64 kd, .int .i64 on, .slice bA bl bC, .slice KA kl KC] := by rw [hwb, hbo]; exact Blk.new wr _ _
          have hbw : Below wr.heap.size wr wb := by rw [hwb]; exact (Below.refl _ wr).alloc (Nat.le_refl _) _
          rw [← hwb, ← hbo]
          have HBx := Lib.hid hbx
          have HBw := Lib.hid hbw
          have HBo := Lib.hid hbo
          have d0 : wb.cell? ⟨bo, 0, none⟩ = some (.int .i64 kd) := by rw [hbx.cell]; rfl
          have d1 : wb.cell? ⟨bo, 1, none⟩ = some (.int .i64 on) := by rw [hbx.cell]; rfl
          have d2 : wb.cell? ⟨bo, 2, none⟩ = some (.slice bA bl bC) := by rw [hbx.cell]; rfl
          have d3 : wb.cell? ⟨bo, 3, none⟩ = some (.slice KA kl KC) := by rw [hbx.cell]; rfl
          clear hwb hbo hbx hbw
          have hcase : k = 0 ∨ k = 1 ∨ k = 2 ∨ k = 3 ∨ k = 4 ∨ k = 5 ∨ k = 6 ∨ k = 7 ∨ k = 8 := by omega
          rcases hcase with rfl | rfl | rfl | rfl | rfl | rfl | rfl | rfl | rfl
          · clear hk8
            rcases HSt.out with ⟨rfl, hp⟩ | ⟨rfl, hp⟩
            · have hca := play_call (ka := KA) (kn := kl) (kc := KC) (kd := kd) (hp.below HBw.out) (by omega) HT.out HOn.out HBy.out HB2.out.symm (by have := HB16.out; omega) 0 (by decide)
              have HCa := Lib.hid hca
              clear hca hp
              go_wp2_with fail
              clear d0 d1 d2 d3
              refine HCa.out.mono ?_
              rintro e W2 ⟨rfl, s2, V2, hpl, -⟩
              rcases hpl with hpl | ⟨hpl, -⟩
              · obtain ⟨x, hx2, hx3⟩ := playr_over hpl
                have HNew : Hid (PlaySt w B s2 V2 (i + 1) W2 false) := Lib.hid (.inl ⟨rfl, hpl⟩)
                clear hpl
                go_wp2
                go_roundw
                case rel => exact ⟨false, i + 1, _, _, by omega, by omega, rfl, by go_num, HNew⟩
                case measure => simp [intOf]; omega
              · obtain ⟨x, hx2, hx3⟩ := playg_over hpl
                have HNew : Hid (PlaySt w B s2 V2 (i + 1) W2 true) := Lib.hid (.inr ⟨rfl, hpl⟩)
                clear hpl
                go_wp2
                go_roundw
                case rel => exact ⟨true, i + 1, _, _, by omega, by omega, rfl, by go_num, HNew⟩
                case measure => simp [intOf]; omega
            · have hp2 := hp.below HBw.out
              obtain ⟨x, hx2, hx3⟩ := playg_over hp2
              have HNew : Hid (PlaySt w B s V (i + 1) wb true) := Lib.hid (.inr ⟨rfl, hp2.widen (by omega)⟩)
              clear hp hp2 d0 d1 d2 d3
              go_wp2
              go_roundw
              case rel => exact ⟨true, i + 1, _, _, by omega, by omega, rfl, by go_num, HNew⟩
              case measure => simp [intOf]; omega
          · clear hk8
            rcases HSt.out with ⟨rfl, hp⟩ | ⟨rfl, hp⟩
            · have hca := play_call (ka := KA) (kn := kl) (kc := KC) (kd := kd) (hp.below HBw.out) (by omega) HT.out HOn.out HBy.out HB2.out.symm (by have := HB16.out; omega) 1 (by decide)
              have HCa := Lib.hid hca
              clear hca hp
              go_wp2_with fail
              clear d0 d1 d2 d3
              refine HCa.out.mono ?_
              rintro e W2 ⟨rfl, s2, V2, hpl, -⟩
              rcases hpl with hpl | ⟨hpl, -⟩
              · obtain ⟨x, hx2, hx3⟩ := playr_over hpl
                have HNew : Hid (PlaySt w B s2 V2 (i + 1) W2 false) := Lib.hid (.inl ⟨rfl, hpl⟩)
                clear hpl
                go_wp2
                go_roundw
                case rel => exact ⟨false, i + 1, _, _, by omega, by omega, rfl, by go_num, HNew⟩
                case measure => simp [intOf]; omega
              · obtain ⟨x, hx2, hx3⟩ := playg_over hpl
                have HNew : Hid (PlaySt w B s2 V2 (i + 1) W2 true) := Lib.hid (.inr ⟨rfl, hpl⟩)
                clear hpl
                go_wp2
                go_roundw
                case rel => exact ⟨true, i + 1, _, _, by omega, by omega, rfl, by go_num, HNew⟩
                case measure => simp [intOf]; omega
            · have hp2 := hp.below HBw.out
              obtain ⟨x, hx2, hx3⟩ := playg_over hp2
              have HNew : Hid (PlaySt w B s V (i + 1) wb true) := Lib.hid (.inr ⟨rfl, hp2.widen (by omega)⟩)
              clear hp hp2 d0 d1 d2 d3
              go_wp2
              go_roundw
              case rel => exact ⟨true, i + 1, _, _, by omega, by omega, rfl, by go_num, HNew⟩
              case measure => simp [intOf]; omega
          · clear hk8
            rcases HSt.out with ⟨rfl, hp⟩ | ⟨rfl, hp⟩
            · have hca := play_call (ka := KA) (kn := kl) (kc := KC) (kd := kd) (hp.below HBw.out) (by omega) HT.out HOn.out HBy.out HB2.out.symm (by have := HB16.out; omega) 2 (by decide)
              have HCa := Lib.hid hca
              clear hca hp
              go_wp2_with fail
              clear d0 d1 d2 d3
              refine HCa.out.mono ?_
              rintro e W2 ⟨rfl, s2, V2, hpl, -⟩
              rcases hpl with hpl | ⟨hpl, -⟩
              · obtain ⟨x, hx2, hx3⟩ := playr_over hpl
                have HNew : Hid (PlaySt w B s2 V2 (i + 1) W2 false) := Lib.hid (.inl ⟨rfl, hpl⟩)
                clear hpl
                go_wp2
                go_roundw
                case rel => exact ⟨false, i + 1, _, _, by omega, by omega, rfl, by go_num, HNew⟩
                case measure => simp [intOf]; omega
              · obtain ⟨x, hx2, hx3⟩ := playg_over hpl
                have HNew : Hid (PlaySt w B s2 V2 (i + 1) W2 true) := Lib.hid (.inr ⟨rfl, hpl⟩)
                clear hpl
                go_wp2
                go_roundw
                case rel => exact ⟨true, i + 1, _, _, by omega, by omega, rfl, by go_num, HNew⟩
                case measure => simp [intOf]; omega
            · have hp2 := hp.below HBw.out
              obtain ⟨x, hx2, hx3⟩ := playg_over hp2
              have HNew : Hid (PlaySt w B s V (i + 1) wb true) := Lib.hid (.inr ⟨rfl, hp2.widen (by omega)⟩)
              clear hp hp2 d0 d1 d2 d3
              go_wp2
              go_roundw
              case rel => exact ⟨true, i + 1, _, _, by omega, by omega, rfl, by go_num, HNew⟩
              case measure => simp [intOf]; omega
          · clear hk8
            rcases HSt.out with ⟨rfl, hp⟩ | ⟨rfl, hp⟩
            · have hca := play_call (ka := KA) (kn := kl) (kc := KC) (kd := kd) (hp.below HBw.out) (by omega) HT.out HOn.out HBy.out HB2.out.symm (by have := HB16.out; omega) 3 (by decide)
              have HCa := Lib.hid hca
              clear hca hp
              go_wp2_with fail
              clear d0 d1 d2 d3
              refine HCa.out.mono ?_
              rintro e W2 ⟨rfl, s2, V2, hpl, -⟩
              rcases hpl with hpl | ⟨hpl, -⟩
              · obtain ⟨x, hx2, hx3⟩ := playr_over hpl
                have HNew : Hid (PlaySt w B s2 V2 (i + 1) W2 false) := Lib.hid (.inl ⟨rfl, hpl⟩)
                clear hpl
                go_wp2
                go_roundw
                case rel => exact ⟨false, i + 1, _, _, by omega, by omega, rfl, by go_num, HNew⟩
                case measure => simp [intOf]; omega
              · obtain ⟨x, hx2, hx3⟩ := playg_over hpl
                have HNew : Hid (PlaySt w B s2 V2 (i + 1) W2 true) := Lib.hid (.inr ⟨rfl, hpl⟩)
                clear hpl
                go_wp2
                go_roundw
                case rel => exact ⟨true, i + 1, _, _, by omega, by omega, rfl, by go_num, HNew⟩
                case measure => simp [intOf]; omega
            · have hp2 := hp.below HBw.out
              obtain ⟨x, hx2, hx3⟩ := playg_over hp2
              have HNew : Hid (PlaySt w B s V (i + 1) wb true) := Lib.hid (.inr ⟨rfl, hp2.widen (by omega)⟩)
              clear hp hp2 d0 d1 d2 d3
              go_wp2
              go_roundw
              case rel => exact ⟨true, i + 1, _, _, by omega, by omega, rfl, by go_num, HNew⟩
              case measure => simp [intOf]; omega
          · clear hk8
            rcases HSt.out with ⟨rfl, hp⟩ | ⟨rfl, hp⟩
            · have hca := play_call (ka := KA) (kn := kl) (kc := KC) (kd := kd) (hp.below HBw.out) (by omega) HT.out HOn.out HBy.out HB2.out.symm (by have := HB16.out; omega) 4 (by decide)
              have HCa := Lib.hid hca
              clear hca hp
              go_wp2_with fail
              clear d0 d1 d2 d3
              refine HCa.out.mono ?_
              rintro e W2 ⟨rfl, s2, V2, hpl, -⟩
              rcases hpl with hpl | ⟨hpl, -⟩
              · obtain ⟨x, hx2, hx3⟩ := playr_over hpl
                have HNew : Hid (PlaySt w B s2 V2 (i + 1) W2 false) := Lib.hid (.inl ⟨rfl, hpl⟩)
                clear hpl
                go_wp2
                go_roundw
                case rel => exact ⟨false, i + 1, _, _, by omega, by omega, rfl, by go_num, HNew⟩
                case measure => simp [intOf]; omega
              · obtain ⟨x, hx2, hx3⟩ := playg_over hpl
                have HNew : Hid (PlaySt w B s2 V2 (i + 1) W2 true) := Lib.hid (.inr ⟨rfl, hpl⟩)
                clear hpl
                go_wp2
                go_roundw
                case rel => exact ⟨true, i + 1, _, _, by omega, by omega, rfl, by go_num, HNew⟩
                case measure => simp [intOf]; omega
            · have hp2 := hp.below HBw.out
              obtain ⟨x, hx2, hx3⟩ := playg_over hp2
              have HNew : Hid (PlaySt w B s V (i + 1) wb true) := Lib.hid (.inr ⟨rfl, hp2.widen (by omega)⟩)
              clear hp hp2 d0 d1 d2 d3
              go_wp2
              go_roundw
              case rel => exact ⟨true, i + 1, _, _, by omega, by omega, rfl, by go_num, HNew⟩
              case measure => simp [intOf]; omega
          · clear hk8
            rcases HSt.out with ⟨rfl, hp⟩ | ⟨rfl, hp⟩
            · have hp2 := hp.below HBw.out
              have HP2 := Lib.hid hp2
              clear hp hp2
              go_upto_region 23 with fail
              refine region_tail 9 (by kernel_rfl) (by kernel_rfl) (fun W => Below wb.heap.size wb W) ((Below.refl _ _).drew) ?_
              intro Wl hWl
              have hp3 := HP2.out.below hWl
              obtain ⟨d, hcd, hfu⟩ := playr_fuse hp3 (by omega)
              have dl1 : Wl.cell? ⟨bo, 1, none⟩ = some (.int .i64 on) := by rw [(HBx.out.keep hWl).cell]; rfl
              have HFu := Lib.hid hfu
              have HUs := Lib.hid trivial
              clear hfu hp3 d0 d1 d2 d3 hWl
              simp only [List.take_succ_cons, List.take_zero, List.drop_succ_cons, List.drop_zero]
              repeat (first | go_big_quiet_skip | (go_big_quiet_want; go_big_quiet_op; first | go_big_quiet_on | (refine ⟨_, HUs.out, ?_⟩; go_big_quiet_on)))
              refine wpQuiet_nil ?_
              go_wp2_with fail
              refine (HFu.out _ (wrap64_le _)).mono ?_
              rintro e W2 ⟨rfl, hn⟩
              have HNew : Hid (PlaySt w B _ V (i + 1) W2 false) := Lib.hid (.inl ⟨rfl, hn.widen (by omega)⟩)
              clear hn hcd dl1
              go_wp2
              go_roundw
              case rel => exact ⟨false, i + 1, _, _, by omega, by omega, rfl, by go_num, HNew⟩
              case measure => simp [intOf]; omega
            · have hp2 := hp.below HBw.out
              have HP2 := Lib.hid hp2
              clear hp hp2
              go_upto_region 23 with fail
              refine region_tail 9 (by kernel_rfl) (by kernel_rfl) (fun W => Below wb.heap.size wb W) ((Below.refl _ _).drew) ?_
              intro Wl hWl
              have hp3 := HP2.out.below hWl
              obtain ⟨d, hcd, hfu⟩ := playg_fuse hp3
              have dl1 : Wl.cell? ⟨bo, 1, none⟩ = some (.int .i64 on) := by rw [(HBx.out.keep hWl).cell]; rfl
              have HFu := Lib.hid hfu
              have HUs := Lib.hid trivial
              clear hfu hp3 d0 d1 d2 d3 hWl
              simp only [List.take_succ_cons, List.take_zero, List.drop_succ_cons, List.drop_zero]
              repeat (first | go_big_quiet_skip | (go_big_quiet_want; go_big_quiet_op; first | go_big_quiet_on | (refine ⟨_, HUs.out, ?_⟩; go_big_quiet_on)))
              refine wpQuiet_nil ?_
              go_wp2_with fail
              refine (HFu.out _ (wrap64_le _)).mono ?_
              rintro e W2 ⟨rfl, hn⟩
              have HNew : Hid (PlaySt w B _ V (i + 1) W2 true) := Lib.hid (.inr ⟨rfl, hn.widen (by omega)⟩)
              clear hn hcd dl1
              go_wp2
              go_roundw
              case rel => exact ⟨true, i + 1, _, _, by omega, by omega, rfl, by go_num, HNew⟩
              case measure => simp [intOf]; omega
          · clear hk8
            obtain ⟨d, hcd, hcr⟩ := play_crash_box HEnd.out.1 HBw.out HEnd.out.2
            have HCr := Lib.hid hcr
            have HG := Lib.hid (HEnd.out.2 o.keep on)
            clear hcr
            go_upto_region 25 with fail
            refine region_tail 8 (by kernel_rfl) (by kernel_rfl) (fun W => Below wb.heap.size wb W) ((Below.refl _ _).drew) ?_
            intro Wl hWl
            have hcd2 : Wl.cell? ⟨B, 0, none⟩ = some (dp d) := by rw [hWl.cell (World.block_lt_of_cell? wb _ hcd)]; exact hcd
            have dl1 : Wl.cell? ⟨bo, 1, none⟩ = some (.int .i64 on) := by rw [(HBx.out.keep hWl).cell]; rfl
            have dl3 : Wl.cell? ⟨bo, 3, none⟩ = some (.slice KA kl KC) := by rw [(HBx.out.keep hWl).cell]; rfl
            have hbel : Below w.heap.size w Wl := (HEnd.out.1.bel.trans (HBw.out.mono HEnd.out.1.bel.size)).trans (hWl.mono (Nat.le_trans HEnd.out.1.bel.size HBw.out.size))
            have HCr2 := Lib.hid (HCr.out Wl KA kl KC o.keep on hWl (HKs.out.below hbel) HKl.out.symm (by rw [HKl.out]; exact HKl9.out))
            have HUs := Lib.hid trivial
            clear hcd d0 d1 d2 d3 hWl hbel HCr
            simp only [List.take_succ_cons, List.take_zero, List.drop_succ_cons, List.drop_zero]
            repeat (first | go_big_quiet_skip | (go_big_quiet_want; go_big_quiet_op; first | go_big_quiet_on | (refine ⟨_, HUs.out, ?_⟩; go_big_quiet_on)))
            refine wpQuiet_nil ?_
            go_wp2_with fail
            refine HCr2.out.mono ?_
            rintro e W2 ⟨rfl, hp2, hsame⟩
            have hbx2 : Blk W2 bo 30 #[.int .i64 kd, .int .i64 on, .slice bA bl bC, .slice KA kl KC] := by
              unfold Blk
              rw [hsame bo (by have := HBo.out; omega) HBx.out.lt]
              exact HBx.out
            have e1 : W2.cell? ⟨bo, 1, none⟩ = some (.int .i64 on) := by rw [hbx2.cell]; rfl
            have e3 : W2.cell? ⟨bo, 3, none⟩ = some (.slice KA kl KC) := by rw [hbx2.cell]; rfl
            have HOp := Lib.hid (play_open (torn := on) hp2 rfl rfl HG.out HT.out HE.out HKs.out HKl.out.symm (by rw [HKl.out]; exact HKl9.out))
            clear hcd2 dl1 dl3 hp2 hsame hbx2
            go_wp2_with fail
            clear e1 e3
            refine HOp.out.mono ?_
            rintro e W3 ⟨rfl, s3, a3, b3, -, -, -, -, hp3, -, -⟩
            have HNew : Hid (PlaySt w B s3 (tookW V a3 b3) (i + 1) W3 false) := Lib.hid (.inl ⟨rfl, hp3.widen (by omega)⟩)
            clear hp3
            go_wp2
            go_roundw
            case rel => exact ⟨false, i + 1, _, _, by omega, by omega, rfl, by go_num, HNew⟩
            case measure => simp [intOf]; omega
          · clear hk8
            rcases HSt.out with ⟨rfl, hp⟩ | ⟨rfl, hp⟩
            · have hp2 := hp.below HBw.out
              obtain ⟨x0, hx2, hx3⟩ := playr_over hp2
              obtain ⟨d, hcd, hdn⟩ := playd_down hp2.d
              have hoff := hp2.idle.rest.off
              rw [hoff] at hdn
              obtain ⟨l, x, hl1, hsy⟩ := playr_sync hp2
              have HDn := Lib.hid hdn
              have HSy := Lib.hid hsy
              clear hp hp2 hoff hdn hsy d0 d1 d2 d3
              go_wp2_with fail
              refine HDn.out.mono ?_
              rintro e w' ⟨rfl, rfl⟩
              go_wp2_with fail
              refine HSy.out.mono ?_
              rintro e W2 hres
              clear hcd hx2 hx3 hl1
              rcases hres with ⟨rfl, hx2, htk⟩ | ⟨rfl, hlo⟩
              · have HTk := Lib.hid htk
                clear htk
                go_wp2_with fail
                refine HTk.out.mono ?_
                rintro e W3 ⟨rfl, s3, hp3, hoff3, hops3, hg3⟩
                have HOp := Lib.hid (play_open (torn := 0) hp3 hoff3 hops3 hg3 HT.out HE.out (no_bools w) rfl (by decide))
                clear hx2 hp3 hoff3 hops3 hg3
                go_wp2_with fail
                refine HOp.out.mono ?_
                rintro e W4 ⟨rfl, s4, a4, b4, -, -, -, -, hp4, -, -⟩
                have HNew : Hid (PlaySt w B s4 (tookW (tookAll V) a4 b4) (i + 1) W4 false) := Lib.hid (.inl ⟨rfl, hp4.widen (by omega)⟩)
                clear hp4
                go_wp2
                go_roundw
                case rel => exact ⟨false, i + 1, _, _, by omega, by omega, rfl, by go_num, HNew⟩
                case measure => simp [intOf]; omega
              · have HLo := Lib.hid hlo
                clear hlo
                go_upto_region 35 with fail
                refine region_tail 18 (by kernel_rfl) (by kernel_rfl) (fun W => Below W2.heap.size W2 W) ((Below.refl _ _).drew) ?_
                intro Wl hWl
                obtain ⟨y1, y2, y3, hlo⟩ := HLo.out Wl hWl
                have HLo2 := Lib.hid hlo
                have HUs := Lib.hid trivial
                clear hlo hWl
                simp only [List.take_succ_cons, List.take_zero, List.drop_succ_cons, List.drop_zero]
                repeat (first | go_big_quiet_skip | (go_big_quiet_want; go_big_quiet_op; first | go_big_quiet_on | (refine ⟨_, HUs.out, ?_⟩; go_big_quiet_on)))
                refine wpQuiet_nil ?_
                go_wp2_with fail
                refine HLo2.out.mono ?_
                rintro e W3 ⟨rfl, s3, hp3⟩
                have HNew : Hid (PlaySt w B s3 (lostW V V.sure V.first) (i + 1) W3 true) := Lib.hid (.inr ⟨rfl, hp3.widen (by omega)⟩)
                clear hp3 y1 y2 y3
                go_wp2
                go_roundw
                case rel => exact ⟨true, i + 1, _, _, by omega, by omega, rfl, by go_num, HNew⟩
                case measure => simp [intOf]; omega
            · have hp2 := hp.below HBw.out
              obtain ⟨d, hcd, hdn⟩ := playd_down hp2.d
              have hoff := hp2.gone.off
              rw [hoff] at hdn
              have HDn := Lib.hid hdn
              have HNew : Hid (PlaySt w B s V (i + 1) wb true) := Lib.hid (.inr ⟨rfl, hp2.widen (by omega)⟩)
              clear hp hp2 hoff hdn d0 d1 d2 d3
              go_wp2_with fail
              refine HDn.out.mono ?_
              rintro e w' ⟨rfl, rfl⟩
              go_wp2
              go_roundw
              case rel => exact ⟨true, i + 1, _, _, by omega, by omega, rfl, by go_num, HNew⟩
              case measure => simp [intOf]; omega
          · clear hk8
            rcases HSt.out with ⟨rfl, hp⟩ | ⟨rfl, hp⟩
            · have hp2 := hp.below HBw.out
              have HP2 := Lib.hid hp2
              clear hp hp2
              go_upto_region 13 with fail
              refine region_tail 15 (by kernel_rfl) (by kernel_rfl) (fun W => Below wb.heap.size wb W) ((Below.refl _ _).drew) ?_
              intro Wl hWl
              have hp3 := HP2.out.below hWl
              obtain ⟨d, u, hcd, hus, hro⟩ := playr_room hp3
              have dl1 : Wl.cell? ⟨bo, 1, none⟩ = some (.int .i64 on) := by rw [(HBx.out.keep hWl).cell]; rfl
              have HUs := Lib.hid (show Calls Tryz.prog 23 #[dp d] Wl fun e W' => e = .returned (.int .i64 (u : Int)) ∧ W' = Wl from (hus Wl (Below.refl _ _)).mono fun e W' h => ⟨h.1, h.2.symm⟩)
              have HRo := Lib.hid (hro Wl)
              clear hus hro hp3 d0 d1 d2 d3 hWl
              simp only [List.take_succ_cons, List.take_zero, List.drop_succ_cons, List.drop_zero]
              repeat (first | go_big_quiet_skip | (go_big_quiet_want; go_big_quiet_op; first | go_big_quiet_on | (refine ⟨_, HUs.out, ?_⟩; go_big_quiet_on)))
              refine wpQuiet_nil ?_
              go_wp2_with fail
              refine (HRo.out _ (Below.refl _ _)).mono ?_
              rintro e W2 ⟨rfl, hn⟩
              have HNew : Hid (PlaySt w B _ V (i + 1) W2 false) := Lib.hid (.inl ⟨rfl, hn.widen (by omega)⟩)
              clear hn hcd dl1
              go_wp2
              go_roundw
              case rel => exact ⟨false, i + 1, _, _, by omega, by omega, rfl, by go_num, HNew⟩
              case measure => simp [intOf]; omega
            · have hp2 := hp.below HBw.out
              have HP2 := Lib.hid hp2
              clear hp hp2
              go_upto_region 13 with fail
              refine region_tail 15 (by kernel_rfl) (by kernel_rfl) (fun W => Below wb.heap.size wb W) ((Below.refl _ _).drew) ?_
              intro Wl hWl
              have hp3 := HP2.out.below hWl
              obtain ⟨d, u, hcd, hus, hro⟩ := playg_room hp3
              have dl1 : Wl.cell? ⟨bo, 1, none⟩ = some (.int .i64 on) := by rw [(HBx.out.keep hWl).cell]; rfl
              have HUs := Lib.hid (show Calls Tryz.prog 23 #[dp d] Wl fun e W' => e = .returned (.int .i64 (u : Int)) ∧ W' = Wl from (hus Wl (Below.refl _ _)).mono fun e W' h => ⟨h.1, h.2.symm⟩)
              have HRo := Lib.hid (hro Wl)
              clear hus hro hp3 d0 d1 d2 d3 hWl
              simp only [List.take_succ_cons, List.take_zero, List.drop_succ_cons, List.drop_zero]
              repeat (first | go_big_quiet_skip | (go_big_quiet_want; go_big_quiet_op; first | go_big_quiet_on | (refine ⟨_, HUs.out, ?_⟩; go_big_quiet_on)))
              refine wpQuiet_nil ?_
              go_wp2_with fail
              refine (HRo.out _ (Below.refl _ _)).mono ?_
              rintro e W2 ⟨rfl, hn⟩
              have HNew : Hid (PlaySt w B _ V (i + 1) W2 true) := Lib.hid (.inr ⟨rfl, hn.widen (by omega)⟩)
              clear hn hcd dl1
              go_wp2
              go_roundw
              case rel => exact ⟨true, i + 1, _, _, by omega, by omega, rfl, by go_num, HNew⟩
              case measure => simp [intOf]; omega
        · have i3 : decide ((i : Int) < 60) = false := by simp; omega
          obtain ⟨d, hcd, hcr⟩ := play_crash HEnd.out.1 HEnd.out.2
          have HCr := Lib.hid (hcr none 0 0 [] 0 (no_bools wr) rfl (by decide))
          have HG := Lib.hid (HEnd.out.2 [] 0)
          clear hcr
          go_wp2_with fail
          refine HCr.out.mono ?_
          rintro e W2 ⟨rfl, hp2⟩
          have HOp := Lib.hid (play_open (torn := 0) hp2 rfl rfl HG.out HT.out HE.out (no_bools w) rfl (by decide))
          clear hp2 hcd
          go_wp2_with fail
          refine HOp.out.mono ?_
          rintro e W3 ⟨rfl, s3, a3, b3, -, -, -, -, hp3, -, -⟩
          have HBel := Lib.hid hp3.bel
          clear hp3
          go_wp2
          go_ret
          exact ⟨rfl, HBel.out⟩
      · have i1 : decide ((i : Int) < (len : Int)) = false := by simp; omega
        have i2 : decide (i < len) = false := by simpa using hlt
        obtain ⟨d, hcd, hcr⟩ := play_crash HEnd.out.1 HEnd.out.2
        have HCr := Lib.hid (hcr none 0 0 [] 0 (no_bools wr) rfl (by decide))
        have HG := Lib.hid (HEnd.out.2 [] 0)
        clear hcr
        go_wp2_with fail
        refine HCr.out.mono ?_
        rintro e W2 ⟨rfl, hp2⟩
        have HOp := Lib.hid (play_open (torn := 0) hp2 rfl rfl HG.out HT.out HE.out (no_bools w) rfl (by decide))
        clear hp2 hcd
        go_wp2_with fail
        refine HOp.out.mono ?_
        rintro e W3 ⟨rfl, s3, a3, b3, -, -, -, -, hp3, -, -⟩
        have HBel := Lib.hid hp3.bel
        clear hp3
        go_wp2
        go_ret
        exact ⟨rfl, HBel.out⟩

theorem walPlays_all {w : World} (ht : Tab w) (he : Err w) (a : Option Addr) (len cap : Nat) (L : List WOp) (hl : L.length = len) (hs : ScriptAt w a L) (hlen : len ≤ 9223372036854775807 ∧ True) :
    Calls Tryz.prog 3 #[.slice a len cap] w fun e w' => e = .returned (.bool true) ∧ Below w.heap.size w w' := walPlays_any ht he hl hs hlen.1
end Go.Proofs.YthaggdkfaglgaaaGreatDoor
