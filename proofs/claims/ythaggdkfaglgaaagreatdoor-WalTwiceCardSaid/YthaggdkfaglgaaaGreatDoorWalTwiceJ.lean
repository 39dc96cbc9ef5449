/- WalTwice: the walk. -/
import Derived.Test.YthaggdkfaglgaaaGreatDoorJY1
namespace Go.Proofs.YthaggdkfaglgaaaGreatDoor
set_option maxRecDepth 20000
open Go.RowKit Go.Maps DiskMath WalMath FrameMath Reg

/-- A log all of which is sure is opened as it is. -/
theorem took_full {V : WS} {a b : Nat} (hfull : V.sure = V.recs.length) (hov : V.over = false) (hmay : V.may = V.first) (h1 : a = 0 ∨ V.may = V.first + a) (h3 : b ≤ V.recs.length) (h4 : floorW V ≤ b) : (tookW V a b).first = V.first ∧ (tookW V a b).recs.length = V.recs.length := by
  have ha : a = 0 := by omega
  have hb : b = V.recs.length := by have := floor_idle hov; omega
  subst ha
  subst hb
  simp [tookW]

theorem took_sure {V : WS} {a b : Nat} (h3 : b ≤ V.recs.length) : (tookW V a b).sure = (tookW V a b).recs.length := by
  simp [tookW]
  omega

set_option maxHeartbeats 4000000 in
set_option maxRecDepth 100000 in
theorem walTwice_any {w : World} (ht : Tab w) (he : Err w) {a : Option Addr} {len cap : Nat} {L : List WOp} (hl : L.length = len) (hs : ScriptAt w a L) (hlen : len ≤ 9223372036854775807) {ka : Option Addr} {nk ck : Nat} {ks : List Bool} (hk : Bls w (.slice ka nk ck) ks) (hnk : ks.length = nk) (hnk2 : nk ≤ 9223372036854775807)
    {ma : Option Addr} {nm' cm : Nat} {ms : List Bool} (hm : Bls w (.slice ma nm' cm) ms) (hnm : ms.length = nm') (hnm2 : nm' ≤ 9223372036854775807) (torn fuse : Int) :
    Calls Tryz.prog 5 #[.slice a len cap, .slice ka nk ck, .slice ma nm' cm, .int .i64 torn, .int .i64 fuse] w fun e w' => e = .returned (.bool true) ∧ Below w.heap.size w w' := by
  have HT := Lib.hid ht
  have HE := Lib.hid he
  have HL := Lib.hid hl
  have HS := Lib.hid hs
  have HLen := Lib.hid hlen
  have HK := Lib.hid hk
  have HNk := Lib.hid hnk
  have HNk2 := Lib.hid hnk2
  have HM := Lib.hid hm
  have HNm := Lib.hid hnm
  have HNm2 := Lib.hid hnm2
  have HAw := Lib.hid (fun (W : World) (hW : Below w.heap.size w W) => wawake_any (ht.below (Nat.le_refl _) hW) (he.below hW))
  clear ht he hl hs hlen hk hnk hnk2 hm hnm hnm2
  go_enter Tryz.func5, Tryz.ntmps5
  go_wp2_with fail
  refine (HAw.out w (Below.refl _ _)).mono ?_
  rintro e w1 ⟨rfl, hb1⟩
  have HB1 := Lib.hid hb1
  have HFew := Lib.hid (few_any (cap := cap) (HS.out.below hb1) HL.out HLen.out)
  clear hb1
  go_wp2_with fail
  refine HFew.out.mono ?_
  rintro e w' ⟨⟨t, rfl, hfew⟩, rfl⟩
  clear HFew
  cases t with
  | false =>
    clear hfew
    go_wp2_with fail
    refine (HAw.out w1 HB1.out).mono ?_
    rintro e w2 ⟨rfl, hb2⟩
    have HB2 := Lib.hid (HB1.out.trans (hb2.mono HB1.out.size))
    clear hb2
    go_wp2
    go_ret
    exact ⟨rfl, HB2.out⟩
  | true =>
    have HF := Lib.hid (hfew rfl)
    clear hfew
    by_cases hl20 : 20 < len
    · have i1 : (len : Int) > 20 := by omega
      go_wp2_with fail
      refine (HAw.out w1 HB1.out).mono ?_
      rintro e w2 ⟨rfl, hb2⟩
      have HB2 := Lib.hid (HB1.out.trans (hb2.mono HB1.out.size))
      clear hb2
      go_wp2
      go_ret
      exact ⟨rfl, HB2.out⟩
    · have i1 : ¬ (len : Int) > 20 := by omega
      go_wp2_with fail
      refine (play_begin HB1.out HT.out HE.out).mono ?_
      rintro e w2 ⟨B, s0, rfl, hp0, hc0, hb2⟩
      have HP0 := Lib.hid hp0
      have HC0 := Lib.hid hc0
      clear hp0 hc0 hb2 i1 HB1
      go_wp2_with fail
      go_loopw [12] (fun s12 wr => ∃ (i : Nat) (s : St) (V : WS), i ≤ len ∧ s12 = .int .i64 i ∧ Hid (PlayR w B s V i wr) ∧ Hid (Calm s)) (fun s12 _ => len - (intOf s12).toNat)
      case atStart => exact ⟨0, s0, noW, Nat.zero_le _, rfl, HP0, HC0⟩
      case round =>
        obtain ⟨i, s, V, hi, rfl, HP, HCm⟩ := hrel
        have i0 : (0 : Int) ≤ (i : Int) := Int.natCast_nonneg _
        by_cases hlt : i < len
        · have i1 : (i : Int) < (len : Int) := by omega
          have i2 : decide (i < len) = true := by simpa using hlt
          clear HP0 HC0
          obtain ⟨o, ho⟩ : ∃ o, L[i]? = some o := ⟨L[i]'(by have := HL.out; omega), List.getElem?_eq_getElem _⟩
          obtain ⟨hok, ad, bA, bC, KA, KC, rfl, c0, c1, c2, c3, hby, hbl⟩ := HS.out i o ho
          have hbl16 := HF.out i o ho (by omega)
          have hidx : ∀ W, (Instr.indexAt 22 (.slice (some ad) len cap) (.int .i64 (i : Int))).run Tryz.prog W = .ok (.pointer (some (ad.add (i * 4)))) W := fun W => script_index W ad len cap i hlt
          obtain ⟨p, hp⟩ : ∃ p, p = ad.add (i * 4) := ⟨_, rfl⟩
          rw [← hp] at hidx c0 c1 c2 c3
          obtain ⟨kd, hkd⟩ : ∃ kd, kd = o.kind := ⟨_, rfl⟩
          obtain ⟨on, hon⟩ : ∃ on, on = o.n := ⟨_, rfl⟩
          obtain ⟨bl, hbl2⟩ : ∃ bl, bl = o.b.length := ⟨_, rfl⟩
          obtain ⟨kl, hkl⟩ : ∃ kl, kl = o.keep.length := ⟨_, rfl⟩
          rw [← hkd] at c0
          rw [← hon] at c1
          rw [← hbl2] at c2 hby hbl16
          rw [← hkl] at c3
          have hkb : -9223372036854775808 ≤ kd ∧ kd ≤ 9223372036854775807 := by rw [hkd]; exact hok.kind
          obtain ⟨k1, k, hk1, hk1b, hk2, hk4⟩ := five_kind kd
          have HCl := Lib.hid (fun (W : World) (hW : Below wr.heap.size wr W) => show W.cell? p = some (.int .i64 kd) ∧ W.cell? ⟨p.block, p.off + 1, none⟩ = some (.int .i64 on) ∧ W.cell? ⟨p.block, p.off + 2, none⟩ = some (.slice bA bl bC) ∧ W.cell? ⟨p.block, p.off + 3, none⟩ = some (.slice KA kl KC) from by
            have hW2 := HP.out.bel.trans (hW.mono HP.out.bel.size)
            have hc : ∀ {q : Addr} {u : Value}, w.cell? q = some u → W.cell? q = some u := fun {q u} hq => by rw [hW2.cell (World.block_lt_of_cell? w _ hq)]; exact hq
            exact ⟨hc c0, hc c1, hc c2, hc c3⟩)
          have hon2 : -9223372036854775808 ≤ on ∧ on ≤ 9223372036854775807 := by rw [hon]; exact hok.n
          have hcall := fun (W : World) (hW : Below wr.heap.size wr W) => play_call (ka := KA) (kn := kl) (kc := KC) (kd := kd) (HP.out.below hW) (by omega) HT.out hon2 hby hbl2.symm (by omega) k hk4
          have HCall := Lib.hid hcall
          have hK4 := Lib.hid hk4
          clear hok c0 c1 c2 c3 hby hbl hbl16 hp hkd hon hbl2 hkl hon2 hcall ho hk4
          go_upto_region 9 with fail
          refine region_tail 13 (by kernel_rfl) (by kernel_rfl) (fun W => Below wr.heap.size wr W) ((Below.refl _ _).drew) ?_
          intro Wl hWl
          obtain ⟨c0, c1, c2, c3⟩ := HCl.out Wl hWl
          have HWl := Lib.hid hWl
          clear hWl
          simp only [List.take_succ_cons, List.take_zero, List.drop_succ_cons, List.drop_zero]
          repeat (first | go_big_quiet_skip | (go_big_quiet_want; go_big_quiet_op; go_big_quiet_on))
          refine wpQuiet_nil ?_
          clear c0 c1 c2 c3 hidx hk1 hk1b hk2 hkb
          go_wp2_with fail
          refine (HCall.out Wl HWl.out).mono ?_
          rintro e W2 ⟨rfl, s2, V2, hpl, hcm⟩
          have hcm2 := hcm HCm.out
          have hpr : PlayR w B s2 V2 (i + 1) W2 := by
            rcases hpl with h | ⟨-, h⟩
            · exact h
            · exact absurd HCm.out h
          have HPr := Lib.hid hpr
          have HCm2 := Lib.hid hcm2
          clear hpl hcm hcm2 hpr HCall HCl
          go_wp2
          go_roundw
          case rel => exact ⟨i + 1, s2, V2, by omega, by go_num, HPr, HCm2⟩
          case measure => simp [intOf]; omega
        · have i1 : ¬ (i : Int) < (len : Int) := by omega
          have i2 : decide (i < len) = false := by simpa using hlt
          obtain ⟨d, hcd, hcr⟩ := play_crash HP.out.d HP.out.good
          have HCr := Lib.hid (hcr ka nk ck ks torn (HK.out.below HP.out.bel) HNk.out HNk2.out)
          have hi20 : i ≤ 20 := by omega
          clear hcr HP0 HC0 HCm
          go_wp2_with fail
          refine HCr.out.mono ?_
          rintro e w3 ⟨rfl, hp3⟩
          clear hcd
          obtain ⟨d3, hcd, hfu⟩ := playd_fuse hp3
          obtain ⟨f6, hf6⟩ : ∃ f6, wrap64 ((IntKind.u64.wrap fuse).tmod 6) = f6 := ⟨_, rfl⟩
          have hf6b : f6 ≤ 9223372036854775807 := by rw [← hf6]; exact wrap64_le _
          have HFu := Lib.hid (hfu f6 hf6b)
          have HG3 := Lib.hid (HP.out.good ks torn)
          have HF6 := Lib.hid hf6
          clear hp3 hfu hf6 hf6b
          go_wp2_with fail
          rw [HF6.out]
          refine HFu.out.mono ?_
          rintro e w4 ⟨rfl, hp4⟩
          have HOp := Lib.hid (play_open (torn := torn) hp4 rfl rfl HG3.out HT.out HE.out HM.out HNm.out HNm2.out)
          clear hcd hp4
          go_wp2_with fail
          refine HOp.out.mono ?_
          rintro e w5 ⟨rfl, s5, a5, b5, h1, h2, h3, h4, hp5, hops5, -⟩
          obtain ⟨V5, hV5⟩ : ∃ V5, V5 = tookW V a5 b5 := ⟨_, rfl⟩
          have hfull : V5.sure = V5.recs.length := by rw [hV5]; exact took_sure h3
          have hov : V5.over = false := by rw [hV5]; rfl
          have hmay : V5.may = V5.first := by rw [hV5]; rfl
          rw [← hV5] at hp5
          obtain ⟨d5, hcd, hfu⟩ := playr_fuse hp5 (by omega)
          have HFu5 := Lib.hid (hfu (-1) (by decide))
          have HFull := Lib.hid hfull
          have HOv := Lib.hid hov
          have HMay := Lib.hid hmay
          have HOps := Lib.hid hops5
          clear h1 h2 h3 h4 hp5 hV5 hfull hov hmay hfu hops5
          go_wp2_with fail
          refine HFu5.out.mono ?_
          rintro e w6 ⟨rfl, hp6⟩
          clear hcd
          obtain ⟨x, hx2, hx0, hnx⟩ := playr_ref hp6
          obtain ⟨f, hf⟩ : ∃ f, f = V5.first := ⟨_, rfl⟩
          obtain ⟨n, hn⟩ : ∃ n, n = V5.first + V5.recs.length := ⟨_, rfl⟩
          rw [← hf] at hx0
          rw [← hn] at hnx
          have HP6 := Lib.hid hp6
          have HNx := Lib.hid (hnx w6 (Below.refl _ _))
          have HFi := Lib.hid hf
          have HNi := Lib.hid hn
          clear hp6 hnx hf hn
          go_wp2_with fail
          refine HNx.out.mono ?_
          rintro e w7 ⟨rfl, m7, rfl⟩
          have hp7 := HP6.out.below (below_dn (Below.refl _ _) m7)
          clear hx2 hx0
          obtain ⟨d7, hcd, hfu⟩ := playr_fuse hp7 (by omega)
          obtain ⟨f5, hf5⟩ : ∃ f5, wrap64 ((IntKind.u64.wrap fuse).tmod 5) = f5 := ⟨_, rfl⟩
          have hf5b : f5 ≤ 9223372036854775807 := by rw [← hf5]; exact wrap64_le _
          have HFu7 := Lib.hid (hfu f5 hf5b)
          have HF5 := Lib.hid hf5
          clear hp7 hfu hf5 hf5b
          go_wp2_with fail
          rw [HF5.out]
          refine HFu7.out.mono ?_
          rintro e w8 ⟨rfl, hp8⟩
          clear hcd
          obtain ⟨d8, hcd, hop8⟩ := play_reopen hp8 HOps.out HFull.out HT.out HE.out
          have HOp8 := Lib.hid hop8
          clear hp8 hop8
          go_wp2_with fail
          refine HOp8.out.mono ?_
          rintro e w9 ⟨v9, s9, rfl, hp9, hg9⟩
          clear hcd
          obtain ⟨d9, hcd, hcr⟩ := play_crash hp9 hg9
          have HCr9 := Lib.hid (hcr ma nm' cm ms torn (HM.out.below hp9.bel) HNm.out HNm2.out)
          have HG9 := Lib.hid (hg9 ms torn)
          clear hcr hp9 hg9
          go_wp2_with fail
          refine HCr9.out.mono ?_
          rintro e w10 ⟨rfl, hp10⟩
          have HOp10 := Lib.hid (play_open (torn := torn) hp10 rfl rfl HG9.out HT.out HE.out HM.out HNm.out HNm2.out)
          clear hcd hp10
          go_wp2_with fail
          refine HOp10.out.mono ?_
          rintro e w11 ⟨rfl, s11, a11, b11, h1, h2, h3, h4, hp11, -, -⟩
          obtain ⟨e1, e2⟩ := took_full HFull.out HOv.out HMay.out h1 h3 h4
          obtain ⟨x2, hx2, hx0, hnx⟩ := playr_ref hp11
          rw [e1, e2, ← HNi.out] at hnx
          rw [e1, ← HFi.out] at hx0
          have HNx11 := Lib.hid (hnx w11 (Below.refl _ _))
          have HBel := Lib.hid hp11.bel
          clear h1 h2 h3 h4 hp11 e1 e2 hnx
          go_wp2_with fail
          refine HNx11.out.mono ?_
          rintro e w12 ⟨rfl, m12, rfl⟩
          have HBel2 := Lib.hid (below_dn HBel.out m12)
          clear hx2 hx0
          go_wp2
          go_ret
          exact ⟨rfl, HBel2.out⟩

theorem walTwice_all {w : World} (ht : Tab w) (he : Err w) (a : Option Addr) (len cap : Nat) (L : List WOp) (hl : L.length = len) (hs : ScriptAt w a L) (hlen : len ≤ 9223372036854775807 ∧ True) (ka : Option Addr) (nk ck : Nat) (ks : List Bool) (hnk : ks.length = nk) (hk : Bls w (.slice ka nk ck) ks) (hnk2 : nk ≤ 9223372036854775807 ∧ True)
    (ma : Option Addr) (nm' cm : Nat) (ms : List Bool) (hnm : ms.length = nm') (hm : Bls w (.slice ma nm' cm) ms) (hnm2 : nm' ≤ 9223372036854775807 ∧ True) (torn : Int) (_ : (Lit.int .i64 torn).wf = true) (fuse : Int) (_ : (Lit.int .i64 fuse).wf = true) :
    Calls Tryz.prog 5 #[.slice a len cap, .slice ka nk ck, .slice ma nm' cm, .int .i64 torn, .int .i64 fuse] w fun e w' => e = .returned (.bool true) ∧ Below w.heap.size w w' :=
  walTwice_any ht he hl hs hlen.1 hk hnk hnk2.1 hm hnm hnm2.1 torn fuse
end Go.Proofs.YthaggdkfaglgaaaGreatDoor
